/-
  Rows in order: the contracts of CompareRows, package cell's and the document's.
-/
import Derived.Test.YtjkkkdehmgfmeaaDoorKRow
import Derived.Test.YtjkkkdehmgfmeaaDoorPair
import Derived.Deep.RegionWith
import Derived.Deep.QuietTactic
import Derived.BigQuiet
namespace Go.Proofs.YtjkkkdehmgfmeaaDoor
open Go.RowKit

/-- Which of two rows stands first, by some columns. -/
def cmpR (a b : List Cl) : List (Int × Bool) → Int
  | [] => 0
  | (k, d) :: r => if cmpC (atC a k) (atC b k) = 0 then cmpR a b r else if d = true then - cmpC (atC a k) (atC b k) else cmpC (atC a k) (atC b k)
theorem cmpR_flip (a b : List Cl) : ∀ ks, cmpR b a ks = - cmpR a b ks
  | [] => rfl
  | (k, d) :: r => by
    have ih := cmpR_flip a b r
    have h := cmpC_flip (atC a k) (atC b k)
    simp only [cmpR]
    rw [h]
    (repeat' split) <;> omega
/-- Columns to order by that came in. -/
def SortsIs (w : World) (v : Value) (ks : List (Int × Bool)) : Prop :=
  ∃ a cap, v = .slice a ks.length cap ∧ (ks ≠ [] → ∃ b off, a = some ⟨b, off, none⟩ ∧ b < w.heap.size ∧ ∀ i (x : Int × Bool), ks[i]? = some x → w.cell? ⟨b, off + i * 2, none⟩ = some (.int .i64 x.1) ∧ w.cell? ⟨b, off + i * 2 + 1, none⟩ = some (.bool x.2) ∧ x.1 < 9223372036854775808)
theorem drop_cons {α : Type} {l : List α} {i : Nat} {x : α} (h : l[i]? = some x) : l.drop i = x :: l.drop (i + 1) := by
  obtain ⟨h1, h2⟩ := List.getElem?_eq_some_iff.1 h
  rw [List.drop_eq_getElem_cons h1, h2]

set_option maxRecDepth 4000 in
set_option maxHeartbeats 4000000 in
theorem compareRows_any {w : World} {v1 v2 v3 : Value} {r1 r2 : List Cl} {ks : List (Int × Bool)} (h1 : RowIs w v1 r1) (h2 : RowIs w v2 r2) (h3 : SortsIs w v3 ks) (hm : ks.length ≤ maxLen) :
    Calls Tryd.prog 15 #[v1, v2, v3] w fun e w' => e = .returned (.int .i64 (cmpR r1 r2 ks)) ∧ Below w.heap.size w w' := by
  unfold maxLen at hm
  obtain ⟨a3, cap3, rfl, h3⟩ := h3
  obtain ⟨n, hn⟩ : ∃ n, n = ks.length := ⟨_, rfl⟩
  rw [← hn] at hm
  rw [← hn]
  have HN : Hid (n = ks.length) := hn
  have H1 : Hid (RowIs w v1 r1 ∧ RowIs w v2 r2) := ⟨h1, h2⟩
  have H3 : Hid (ks ≠ [] → ∃ b off, a3 = some ⟨b, off, none⟩ ∧ b < w.heap.size ∧ ∀ i (x : Int × Bool), ks[i]? = some x → w.cell? ⟨b, off + i * 2, none⟩ = some (.int .i64 x.1) ∧ w.cell? ⟨b, off + i * 2 + 1, none⟩ = some (.bool x.2) ∧ x.1 < 9223372036854775808) := h3
  clear hn h1 h2 h3
  go_enter Tryd.func15, Tryd.ntmps15
  go_wp2_with fail
  go_loopg [13] n (fun gg s13 wx => ∃ i : Nat, i + gg = n ∧ s13 = .int .i64 i ∧ Hid (cmpR r1 r2 ks = cmpR r1 r2 (ks.drop i)) ∧ Below w.heap.size w wx)
  case atStart => exact ⟨0, by omega, rfl, by unfold Hid; rw [List.drop_zero], Below.refl _ _⟩
  case round =>
    obtain ⟨i, hig, rfl, hcmp, hb⟩ := hrel
    by_cases hi : i < n
    · have hiI : (i : Int) < (n : Int) := by omega
      have hrn := HN.out
      have hne : ks ≠ [] := by rintro rfl; simp at hrn; omega
      obtain ⟨b, off, rfl, hb3, hc3⟩ := H3.out hne
      obtain ⟨⟨k, d⟩, hic⟩ : ∃ x, ks[i]? = some x := ⟨_, List.getElem?_eq_getElem (by omega)⟩
      obtain ⟨x0, x1, x2⟩ := hc3 i _ hic
      have p0 := (hb.cell (p := ⟨b, off + i * 2, none⟩) hb3).trans x0
      have p1 := (hb.cell (p := ⟨b, off + i * 2 + 1, none⟩) hb3).trans x1
      simp only at p0 p1 x2
      have hbr : b < wr.heap.size := Nat.lt_of_lt_of_le hb3 hb.size
      have hr2 : IntKind.i64.wrap ((i : Int) + 1) = (i : Int) + 1 := by rw [IntKind.wrap_i64]; omega
      have HB : Hid (Below w.heap.size w wr) := hb
      have c1 : ∀ w', Below wr.heap.size wr w' → Calls Tryd.prog 31 #[v1, .int .i64 k] w' fun e w'' => e = .returned (cv (atC r1 k)) ∧ Below w'.heap.size w' w'' := fun w' hw => at_any w' v1 r1 ((H1.out.1.below hb).below hw) k x2
      have c2 : ∀ w', Below wr.heap.size wr w' → Calls Tryd.prog 31 #[v2, .int .i64 k] w' fun e w'' => e = .returned (cv (atC r2 k)) ∧ Below w'.heap.size w' w'' := fun w' hw => at_any w' v2 r2 ((H1.out.2.below hb).below hw) k x2
      have HE : Hid (cmpR r1 r2 ks = if cmpC (atC r1 k) (atC r2 k) = 0 then cmpR r1 r2 (ks.drop (i + 1)) else if d = true then - cmpC (atC r1 k) (atC r2 k) else cmpC (atC r1 k) (atC r2 k)) := by
        unfold Hid; rw [hcmp.out, drop_cons hic]; rfl
      obtain ⟨x, hx⟩ : ∃ x, x = atC r1 k := ⟨_, rfl⟩
      obtain ⟨y, hy⟩ : ∃ y, y = atC r2 k := ⟨_, rfl⟩
      rw [← hx] at HE c1
      rw [← hy] at HE c2
      clear hic hc3 hb hne hrn x0 x1 hx hy hcmp
      go_wp2_with fail
      obtain ⟨W, hW⟩ : ∃ W, W = wr.alloc (.cells #[.int .i64 k, .bool d] 54) := ⟨_, rfl⟩
      rw [← hW]
      have hbW : Below wr.heap.size wr W := by rw [hW]; exact below1 _ _
      have bxW : Box W wr.heap.size 54 #[.int .i64 k, .bool d] := by rw [hW]; exact box_new _ _ _
      have hHeld : (fun w' : World => w'.cell? ⟨wr.heap.size, 0, none⟩ = some (.int .i64 k)) W.drew := bxW.cell 0 _ rfl
      refine wp_region_held_then (fun w' : World => w'.cell? ⟨wr.heap.size, 0, none⟩ = some (.int .i64 k)) _ (by kernel_rfl) rfl (by kernel_rfl) ?_
      dsimp only [List.dropLast, List.length, List.getLast]
      ((refine takeL 0 (v := ?_) rfl (by kernel_rfl) (by kernel_rfl) (by kernel_rfl) (fun _ _ _ h => h) (by rfl) hHeld ?_ ?_; rotate_left; focus (intro w hSw; (try dsimp only at hSw); go_simp <;> with_reducible rfl); (try simp only [Act.put, List.setIfInBounds_toArray, List.set_cons_zero, List.set_cons_succ])); (refine takeL 1 (v := ?_) rfl (by kernel_rfl) (by kernel_rfl) (by kernel_rfl) (fun _ _ _ h => h) (by rfl) hHeld ?_ ?_; rotate_left; focus (intro w hSw; (try dsimp only at hSw); go_simp <;> with_reducible rfl); (try simp only [Act.put, List.setIfInBounds_toArray, List.set_cons_zero, List.set_cons_succ])); (refine takeL 2 (v := ?_) rfl (by kernel_rfl) (by kernel_rfl) (by kernel_rfl) (fun _ _ _ h => h) (by rfl) hHeld ?_ ?_; rotate_left; focus (intro w hSw; (try dsimp only at hSw); go_simp <;> with_reducible rfl); (try simp only [Act.put, List.setIfInBounds_toArray, List.set_cons_zero, List.set_cons_succ])); (refine takeL 4 (v := ?_) rfl (by kernel_rfl) (by kernel_rfl) (by kernel_rfl) (fun _ _ _ h => h) (by rfl) hHeld ?_ ?_; rotate_left; focus (intro w hSw; (try dsimp only at hSw); go_simp <;> with_reducible rfl); (try simp only [Act.put, List.setIfInBounds_toArray, List.set_cons_zero, List.set_cons_succ])); (refine takeL 5 (v := ?_) rfl (by kernel_rfl) (by kernel_rfl) (by kernel_rfl) (fun _ _ _ h => h) (by rfl) hHeld ?_ ?_; rotate_left; focus (intro w hSw; (try dsimp only at hSw); go_simp <;> with_reducible rfl); (try simp only [Act.put, List.setIfInBounds_toArray, List.set_cons_zero, List.set_cons_succ])); (refine takeL 6 (v := ?_) rfl (by kernel_rfl) (by kernel_rfl) (by kernel_rfl) (fun _ _ _ h => h) (by rfl) hHeld ?_ ?_; rotate_left; focus (intro w hSw; (try dsimp only at hSw); go_simp <;> with_reducible rfl); (try simp only [Act.put, List.setIfInBounds_toArray, List.set_cons_zero, List.set_cons_succ])))
      dsimp only [Act.put]
      simp only [List.setIfInBounds_toArray, List.set_cons_zero, List.set_cons_succ]
      refine pairL (w0 := W) (v1 := u20) (v2 := u24) (p := u9) (q := u10) (fun y1 y2 p q => { tmps := #[v1, v2, .slice (some ⟨b, off, none⟩) n cap3, undef, undef, undef, u6, undef, .pointer (some ⟨wr.heap.size, 0, none⟩), p, q, .slice (some ⟨b, off, none⟩) n cap3, .int .i64 n, .int .i64 i, .bool true, .pointer (some ⟨b, off + i * 2, none⟩), .agg #[.int .i64 k, .bool d], v1, .pointer (some ⟨wr.heap.size, 0, none⟩), .int .i64 k, y1, v2, .pointer (some ⟨wr.heap.size, 0, none⟩), .int .i64 k, y2, u25, u26, u27, u28, u29, u30, u31, u32, u33, u34, u35], defers := [] }) (fun b1 b2 m1 m2 e => #[true, true, true, b1, true, true, true, b2, m1, m2, e]) (ca x) (ca y) #[.int .i64 0, .int .i64 0, .string ⟨#[]⟩] #[.int .i64 0, .int .i64 0, .string ⟨#[]⟩] 23 23 23 3 7 8 9 10
        rfl rfl rfl rfl rfl rfl rfl rfl rfl rfl (fun _ _ _ _ _ => rfl) (fun _ _ _ _ _ => rfl) (fun _ _ _ _ _ => rfl) (fun _ _ _ _ _ => rfl) (fun _ _ _ _ => rfl) (fun _ _ _ _ _ => rfl) (fun _ _ _ _ _ => rfl) (fun _ _ _ _ _ => rfl) (fun _ _ _ _ _ => rfl) (fun _ _ _ _ _ => rfl)
        ?_ ?_ (f1 := 31) (f2 := 31) (vs1 := #[v1, .int .i64 k]) (vs2 := #[v2, .int .i64 k]) ?_ ?_ ?_ ?_ (.tmp 9) (.tmp 20) rfl (fun _ _ _ _ => rfl) (fun _ _ _ _ => rfl) size_cell rfl (ca_one x) ?_ ?_ ?_ ?_ (by kernel_rfl) ?_ (by decide)
      · intro b1 b2 m1 m2 e
        cases b1 <;> cases b2 <;> cases m1 <;> cases m2 <;> cases e <;> kernel_rfl
      · intro b1 b2 m1 m2 e
        cases b1 <;> cases b2 <;> cases m1 <;> cases m2 <;> cases e <;> first | (intro _; rfl) | (intro h; exact absurd h (by decide +kernel))
      · intro _ _ _ _ _; go_simp
      · intro _ _ _ _ _; go_simp
      · intro _ _ _ _ _; go_simp
      · intro _ _ _ _ _; go_simp
      · exact fun w' h => (bxW.over h).cell 0 _ rfl
      · exact fun w' h => c1 w' (hbW.trans (h.mono hbW.size))
      · exact fun w' h => c2 w' (hbW.trans (h.mono hbW.size))
      rotate_left
      · exact (Below.refl _ _).drew
      intro g g' w2 hne hg hg' bx bx' hb2
      have hWs : wr.heap.size < W.heap.size := bxW.lt
      have Bx := bx.rowOther hne (ca y)
      have By := bx'.setRow (ca y)
      have Bk := (bxW.over hb2).rowOther (p := g') (by omega) (ca y)
      have HB2 : Hid (Below w.heap.size w (w2.setRow g' (ca y))) := by
        refine HB.out.trans ((hbW.trans (below_setRow (hb2.mono hbW.size) ?_ _)).mono HB.out.size)
        omega
      refine wp_store_row 23 (.tmp 10) (.tmp 24) rfl g' (ca y) rfl rfl 23 _ bx' size_cell rfl (ca_one y) ?_
      dsimp only [Act.put]
      have hws : w.heap.size ≤ wr.heap.size := HB.out.size
      have hgw : w.heap.size ≤ g ∧ w.heap.size ≤ g' := by omega
      generalize w2.setRow g' (ca y) = w3 at *
      clear bx bx' hb2 bxW hbW hW hHeld c1 c2 hWs
      have p0 := Bx.cell 0 _ rfl
      have p1' := Bx.cell 1 _ rfl
      have p2 := Bx.cell 2 _ rfl
      have q0 := By.cell 0 _ rfl
      have q1 := By.cell 1 _ rfl
      have q2 := By.cell 2 _ rfl
      have k1 := Bk.cell 1 _ rfl
      by_cases e : x = y
      · subst e
        have HR : Hid (cmpR r1 r2 ks = cmpR r1 r2 (ks.drop (i + 1))) := by
          unfold Hid; rw [HE.out, if_pos ((cmpC_zero x x).2 rfl)]
        go_wp2_with fail
        go_roundg (n - (i + 1))
        case measure => clear hr2; omega
        case rel => exact ⟨i + 1, by clear hr2; omega, by go_num, HR, HB2.out⟩
      · have hz : cmpC x y ≠ 0 := fun h => e ((cmpC_zero x y).1 h)
        have hcase : ((x.k == y.k) = false) ∨ ((x.k == y.k) = true ∧ (x.n == y.n) = false) ∨ ((x.k == y.k) = true ∧ (x.n == y.n) = true ∧ (x.s.toList == y.s.toList) = false) := by
          by_cases a1 : x.k = y.k
          · by_cases a2 : x.n = y.n
            · by_cases a3 : x.s.toList = y.s.toList
              · exact absurd (cl_ext a1 a2 a3) e
              · exact .inr (.inr ⟨by simpa using a1, by simpa using a2, by simpa using a3⟩)
            · exact .inr (.inl ⟨by simpa using a1, by simpa using a2⟩)
          · exact .inl (by simpa using a1)
        cases d with
        | false =>
          have HR : Hid (cmpR r1 r2 ks = cmpC x y) := by unfold Hid; rw [HE.out, if_neg hz]; rfl
          clear e hz HE
          rcases hcase with e1 | ⟨e1, e2⟩ | ⟨e1, e2, e3⟩
          all_goals
            go_wp2_with (go_at_call 10; refine (compare_any x y _).mono ?_; rintro er w4 ⟨rfl, hb4⟩)
            go_ret
            exact ⟨retI HR.out, HB2.out.trans (hb4.mono HB2.out.size)⟩
        | true =>
          have HR : Hid (cmpR r1 r2 ks = cmpC y x) := by unfold Hid; rw [HE.out, if_neg hz, if_pos rfl, ← cmpC_flip]
          clear e hz HE
          have Bx2 := Bx.setRow (ca y)
          have By2 := By.rowOther (p := g) (Ne.symm hne) (ca y)
          have Bx3 := Bx2.rowOther (p := g') hne (ca x)
          have By3 := By2.setRow (ca x)
          have HB4 : Hid (Below w.heap.size w ((w3.setRow g (ca y)).setRow g' (ca x))) := below_setRow (below_setRow HB2.out hgw.1 _) hgw.2 _
          have o1 := ca_one x
          have o2 := ca_one y
          have s0 := Bx3.cell 0 _ rfl
          have s1 := Bx3.cell 1 _ rfl
          have s2 := Bx3.cell 2 _ rfl
          have t0 := By3.cell 0 _ rfl
          have t1 := By3.cell 1 _ rfl
          have t2 := By3.cell 2 _ rfl
          rcases hcase with e1 | ⟨e1, e2⟩ | ⟨e1, e2, e3⟩
          all_goals
            go_wp2_with (first
              | (refine wpList_store_row rfl 23 _ _ rfl g (ca y) rfl rfl 23 _ Bx size_cell rfl o2 ?_)
              | (refine wpList_store_row rfl 23 _ _ rfl g' (ca x) rfl rfl 23 _ By2 size_cell rfl o1 ?_)
              | (go_at_call 10; refine (compare_any y x _).mono ?_; rintro er w4 ⟨rfl, hb4⟩))
            go_ret
            exact ⟨retI HR.out, HB4.out.trans (hb4.mono HB4.out.size)⟩
    · have hiI : ¬ (i : Int) < (n : Int) := by omega
      have HB : Hid (Below w.heap.size w wr) := hb
      have HE : Hid (cmpR r1 r2 ks = 0) := by unfold Hid; rw [hcmp.out, List.drop_of_length_le (by rw [← HN.out]; omega)]; rfl
      clear hb hcmp
      go_wp2_with fail
      go_ret
      exact ⟨retI HE.out, HB.out⟩
end Go.Proofs.YtjkkkdehmgfmeaaDoor
