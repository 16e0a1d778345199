/-
  The walk of law 5's ExtentNobody: a map that nobody made answers nothing.
-/
import Derived.Test.YtjnobdgigeejnaaELaw
namespace Go.Proofs.Ytjnobdgigeejnaa
open Go.RowKit

set_option maxRecDepth 4000 in
set_option maxHeartbeats 4000000 in
theorem walkExtentNobody (a c : Int) (ra : (Lit.int .i64 a).wf = true) (_ : (Lit.int .i64 c).wf = true) (w : World) :
    Calls Try.prog 7 #[.agg #[.int .i64 a, .int .i64 c]] w fun e w' => e = .returned (.bool true) ∧ Below w.heap.size w w' := by
  have ha := wf_range a ra
  clear ra
  go_enter Try.func7, Try.ntmps7
  go_wp2_with fail
  obtain ⟨W2, hW2⟩ : ∃ W2, W2 = ((w.alloc (.cells #[.int .i64 a, .int .i64 c] 32)).alloc (.cells #[.int .i64 0, .slice none 0 0] 57)).alloc (.cells #[.pointer none, .pointer (some ⟨w.heap.size + 1, 0, none⟩)] 23) := ⟨_, rfl⟩
  rw [← hW2]
  have X2 : Box W2 w.heap.size 32 #[.int .i64 a, .int .i64 c] := by rw [hW2]; exact (box_old w _ _ _).alloc _
  have Z2 : Box W2 (w.heap.size + 1) 57 #[.int .i64 0, .slice none 0 0] := by rw [hW2]; exact (box_two w _ _ _ _).alloc _
  have L2 : Box W2 (w.heap.size + 2) 23 #[.pointer none, .pointer (some ⟨w.heap.size + 1, 0, none⟩)] := by
    rw [hW2]
    have h := box_new ((w.alloc (.cells #[.int .i64 a, .int .i64 c] 32)).alloc (.cells #[.int .i64 0, .slice none 0 0] 57)) #[.pointer none, .pointer (some ⟨w.heap.size + 1, 0, none⟩)] 23
    rw [World.size_alloc, World.size_alloc] at h
    exact h
  have hbW : Below w.heap.size w W2 := by rw [hW2]; exact (below2 w _ _).alloc (by simp; omega) _
  have hel : ∀ i, i < 2 → ∃ d, (∀ wx, Below W2.heap.size W2 wx → wx.cell? ⟨w.heap.size + 2, i, none⟩ = some d) ∧ ∀ wx, Below W2.heap.size W2 wx → SizeIs d 0 wx := by
    intro i hi
    rcases (show i = 0 ∨ i = 1 by omega) with rfl | rfl
    · exact ⟨.pointer none, fun wx hb => (L2.over hb).cell 0 _ rfl, fun wx _ => .inl ⟨rfl, rfl⟩⟩
    · exact ⟨_, fun wx hb => (L2.over hb).cell 1 _ rfl, fun wx hb => .inr ⟨_, rfl, (Z2.over hb).cell 0 _ rfl⟩⟩
  have HX : Hid (Box W2 w.heap.size 32 #[.int .i64 a, .int .i64 c] ∧ True) := ⟨X2, trivial⟩
  have HW : Hid (Below w.heap.size w W2) := hbW
  obtain ⟨lb, hlb⟩ : ∃ lb, lb = w.heap.size + 2 := ⟨_, rfl⟩
  obtain ⟨xb, hxb⟩ : ∃ xb, xb = w.heap.size := ⟨_, rfl⟩
  rw [← hlb] at hel ⊢
  rw [← hxb] at HX ⊢
  clear hW2 X2 Z2 L2 hbW hlb hxb
  go_loopg [4] 2 (fun gg s4 wx => ∃ i : Nat, i + gg = 2 ∧ s4 = .int .i64 i ∧ Below W2.heap.size W2 wx)
  case atStart => exact ⟨0, by omega, rfl, Below.refl _ _⟩
  case round =>
    obtain ⟨i, hig, rfl, hb⟩ := hrel
    by_cases hi : i < 2
    · have hiI : (i : Int) < 2 := by omega
      obtain ⟨d, hc, hS⟩ := hel i hi
      have hr2 : IntKind.i64.wrap ((i : Int) + 1) = (i : Int) + 1 := by rw [IntKind.wrap_i64]; omega
      have x1 := (HX.out.1.over hb).cell 1 _ rfl
      have c1 := hc wr hb
      have HB : Hid (Below W2.heap.size W2 wr) := hb
      have HS : Hid ((∀ wx, Below W2.heap.size W2 wx → wx.cell? ⟨lb, i, none⟩ = some d) ∧ ∀ wx, Below W2.heap.size W2 wx → SizeIs d 0 wx) := ⟨hc, hS⟩
      clear hb hel hc hS
      go_wp2_with fail
      refine wp_region_held_then (fun w' => w'.cell? ⟨lb, i, none⟩ = some d ∧ w'.cell? ⟨xb, 1, none⟩ = some (.int .i64 c)) _ (by kernel_rfl) rfl (by kernel_rfl) ?_
      have hHeld : (fun w' : World => w'.cell? ⟨lb, i, none⟩ = some d ∧ w'.cell? ⟨xb, 1, none⟩ = some (.int .i64 c)) wr.drew := ⟨c1, x1⟩
      dsimp only [List.dropLast, List.length, List.getLast]
      ((refine takeL 0 (v := ?_) rfl (by kernel_rfl) (by kernel_rfl) (by kernel_rfl) (fun _ _ _ h => h) (by rfl) hHeld ?_ ?_; rotate_left; focus (intro w hSw; (try dsimp only at hSw); go_simp <;> with_reducible rfl); (try simp only [Act.put, List.setIfInBounds_toArray, List.set_cons_zero, List.set_cons_succ])); (refine takeL 1 (v := ?_) rfl (by kernel_rfl) (by kernel_rfl) (by kernel_rfl) (fun _ _ _ h => h) (by rfl) hHeld ?_ ?_; rotate_left; focus (intro w hSw; (try dsimp only at hSw); go_simp <;> with_reducible rfl); (try simp only [Act.put, List.setIfInBounds_toArray, List.set_cons_zero, List.set_cons_succ])); (refine takeL 2 (v := ?_) rfl (by kernel_rfl) (by kernel_rfl) (by kernel_rfl) (fun _ _ _ h => h) (by rfl) hHeld ?_ ?_; rotate_left; focus (intro w hSw; (try dsimp only at hSw); go_simp <;> with_reducible rfl); (try simp only [Act.put, List.setIfInBounds_toArray, List.set_cons_zero, List.set_cons_succ])); (refine takeL 3 (v := ?_) rfl (by kernel_rfl) (by kernel_rfl) (by kernel_rfl) (fun _ _ _ h => h) (by rfl) hHeld ?_ ?_; rotate_left; focus (intro w hSw; (try dsimp only at hSw); go_simp <;> with_reducible rfl); (try simp only [Act.put, List.setIfInBounds_toArray, List.set_cons_zero, List.set_cons_succ])); (refine takeL 4 (v := ?_) rfl (by kernel_rfl) (by kernel_rfl) (by kernel_rfl) (fun _ _ _ h => h) (by rfl) hHeld ?_ ?_; rotate_left; focus (intro w hSw; (try dsimp only at hSw); go_simp <;> with_reducible rfl); (try simp only [Act.put, List.setIfInBounds_toArray, List.set_cons_zero, List.set_cons_succ])); (refine takeL 5 (v := ?_) rfl (by kernel_rfl) (by kernel_rfl) (by kernel_rfl) (fun _ _ _ h => h) (by rfl) hHeld ?_ ?_; rotate_left; focus (intro w hSw; (try dsimp only at hSw); go_simp <;> with_reducible rfl); (try simp only [Act.put, List.setIfInBounds_toArray, List.set_cons_zero, List.set_cons_succ])))
      dsimp only [Act.put]
      simp only [List.setIfInBounds_toArray, List.set_cons_zero, List.set_cons_succ]
      have held : ∀ wx, Below W2.heap.size W2 wx → (fun w' : World => w'.cell? ⟨lb, i, none⟩ = some d ∧ w'.cell? ⟨xb, 1, none⟩ = some (.int .i64 c)) wx := fun wx hb => ⟨HS.out.1 wx hb, (HX.out.1.over hb).cell 1 _ rfl⟩
      have bD : Below W2.heap.size W2 wr.drew := HB.out.drew
      have bA : Below W2.heap.size W2 (wr.drew.alloc (.cells #[.int .i64 0, .int .i64 0] 32)) := bD.alloc bD.size _
      have xA := box_new wr.drew #[.int .i64 0, .int .i64 0] 32
      have cA := fun wx hb => alloc_bad d 0 wx (HS.out.2 wx hb) c (by omega)
      clear hHeld c1 x1
      refine callNewL 6 10 (f := 10) (vs := #[d, .int .i64 c]) (wr.drew.alloc (.cells #[.int .i64 0, .int .i64 0] 32)) (.pointer (some ⟨wr.heap.size, 0, none⟩)) rfl rfl (by kernel_rfl) (by rfl) (by rfl) (by go_simp) (by go_simp) (held _ bA) ?_ ?_
      · refine (cA _ bD).mono ?_
        rintro e w4 ⟨rfl, b4⟩
        have b5 := bD.trans (b4.mono bD.size)
        refine ⟨_, rfl, held _ b5, ?_⟩
        have hh := held _ b5
        ((refine takeL 7 (v := ?_) rfl (by kernel_rfl) (by kernel_rfl) (by kernel_rfl) (fun _ _ _ h => h) (by rfl) hh ?_ ?_; rotate_left; focus (intro w hSw; (try dsimp only at hSw); go_simp <;> with_reducible rfl); (try simp only [Act.put, List.setIfInBounds_toArray, List.set_cons_zero, List.set_cons_succ])); (refine takeL 8 (v := ?_) rfl (by kernel_rfl) (by kernel_rfl) (by kernel_rfl) (fun _ _ _ h => h) (by rfl) hh ?_ ?_; rotate_left; focus (intro w hSw; (try dsimp only at hSw); go_simp <;> with_reducible rfl); (try simp only [Act.put, List.setIfInBounds_toArray, List.set_cons_zero, List.set_cons_succ])); (refine takeL 9 (v := ?_) rfl (by kernel_rfl) (by kernel_rfl) (by kernel_rfl) (fun _ _ _ h => h) (by rfl) hh ?_ ?_; rotate_left; focus (intro w hSw; (try dsimp only at hSw); go_simp <;> with_reducible rfl); (try simp only [Act.put, List.setIfInBounds_toArray, List.set_cons_zero, List.set_cons_succ])))
        have b6 : Below W2.heap.size W2 (w4.alloc (.cells #[.int .i64 0, .int .i64 0] 32)) := b5.alloc b5.size _
        refine newL 10 (w4.alloc (.cells #[.int .i64 0, .int .i64 0] 32)) (.pointer (some ⟨w4.heap.size, 0, none⟩)) rfl (by kernel_rfl) (by rfl) (by go_simp) (held _ b6) ?_
        refine stepL 11 (w4.alloc (.cells #[.int .i64 0, .int .i64 0] 32)) rfl (by kernel_rfl) (by rfl) (by go_simp) (held _ b6) ?_
        refine doneL (by kernel_rfl) ?_
        have T6 := box_new w4 #[.int .i64 0, .int .i64 0] 32
        have HE : Hid (Below W2.heap.size W2 (w4.alloc (.cells #[.int .i64 0, .int .i64 0] 32)) ∧ Box (w4.alloc (.cells #[.int .i64 0, .int .i64 0] 32)) w4.heap.size 32 #[.int .i64 0, .int .i64 0]) := ⟨b6, T6⟩
        clear T6 b6 hh b5 b4 cA held bD bA xA
        dsimp only [Act.put]
        unfold Oper.wp
        go_simp
        obtain ⟨wz, hwz⟩ : ∃ wz, wz = w4.alloc (.cells #[.int .i64 0, .int .i64 0] 32) := ⟨_, rfl⟩
        obtain ⟨tb, htb⟩ : ∃ tb, tb = w4.heap.size := ⟨_, rfl⟩
        rw [← hwz, ← htb] at HE
        rw [← hwz, ← htb]
        clear hwz htb
        have bk : ∀ k : Above wz, Below W2.heap.size W2 k.it := fun k => HE.out.1.trans (k.is.mono HE.out.1.size)
        have t0 := above_cell (HE.out.2.cell 0 _ rfl)
        have t1 := above_cell (HE.out.2.cell 1 _ rfl)
        have x0 := above_cell ((HX.out.1.over HE.out.1).cell 0 _ rfl)
        have x1 := above_cell ((HX.out.1.over HE.out.1).cell 1 _ rfl)
        have lc := above_cell (HS.out.1 wz HE.out.1)
        have ct := fun k : Above wz => take_bad d 0 k.it (HS.out.2 _ (bk k)) (by decide) a c ha (by omega)
        have cf := fun k : Above wz => free_bad d 0 k.it (HS.out.2 _ (bk k)) (by decide) a c ha (by omega)
        have cl := fun k : Above wz => left_none d k.it (HS.out.2 _ (bk k))
        have cg := fun k : Above wz => longest_none d k.it (HS.out.2 _ (bk k))
        have ch := fun k : Above wz => holes_none d k.it (HS.out.2 _ (bk k))
        have cc := fun k : Above wz => copy_none d k.it (HS.out.2 _ (bk k))
        clear bk
        go_wp2_with fail
        refine wp_region_above (by kernel_rfl) (by kernel_rfl) ?_
        intro hne
        repeat (go_big_quiet_step (first
          | (go_at_call 14; exact above_of (ct _))
          | (go_at_call 12; exact above_of (cf _))
          | (go_at_call 19; exact above_same (cl _))
          | (go_at_call 18; exact above_same (cg _))
          | (go_at_call 20; exact above_same (ch _))
          | (go_at_call 21; exact above_same (cc _))))
        refine wpQuiet_nil ?_
        rintro _ ⟨kq, rfl⟩
        have HBQ : Hid (Below W2.heap.size W2 kq.it) := HE.out.1.trans (kq.is.mono HE.out.1.size)
        clear t0 t1 x0 x1 lc ct cf cl cg ch cc
        go_wp2
        go_roundg (2 - (i + 1))
        case measure => clear hr2; omega
        case rel => exact ⟨i + 1, by clear hr2; omega, by go_num, HBQ.out⟩
      · have hh := held _ bA
        refine callL 6 (f := 10) (vs := #[d, .int .i64 c]) rfl (by kernel_rfl) (by rfl) (by go_simp) ?_
        refine (cA _ bA).mono ?_
        rintro e w4 ⟨rfl, b4⟩
        have b5 := bA.trans (b4.mono bA.size)
        have T5 : Box w4 wr.heap.size 32 #[.int .i64 0, .int .i64 0] := xA.over b4
        refine ⟨_, rfl, held _ b5, ?_⟩
        have hh := held _ b5
        ((refine takeL 7 (v := ?_) rfl (by kernel_rfl) (by kernel_rfl) (by kernel_rfl) (fun _ _ _ h => h) (by rfl) hh ?_ ?_; rotate_left; focus (intro w hSw; (try dsimp only at hSw); go_simp <;> with_reducible rfl); (try simp only [Act.put, List.setIfInBounds_toArray, List.set_cons_zero, List.set_cons_succ])); (refine takeL 8 (v := ?_) rfl (by kernel_rfl) (by kernel_rfl) (by kernel_rfl) (fun _ _ _ h => h) (by rfl) hh ?_ ?_; rotate_left; focus (intro w hSw; (try dsimp only at hSw); go_simp <;> with_reducible rfl); (try simp only [Act.put, List.setIfInBounds_toArray, List.set_cons_zero, List.set_cons_succ])); (refine takeL 9 (v := ?_) rfl (by kernel_rfl) (by kernel_rfl) (by kernel_rfl) (fun _ _ _ h => h) (by rfl) hh ?_ ?_; rotate_left; focus (intro w hSw; (try dsimp only at hSw); go_simp <;> with_reducible rfl); (try simp only [Act.put, List.setIfInBounds_toArray, List.set_cons_zero, List.set_cons_succ])))
        have z0 := T5.cell 0 _ rfl
        have z1 := T5.cell 1 _ rfl
        have y0 := T5.frozen 0
        have y1 := T5.frozen 1
        have b6 : Below W2.heap.size W2 ((w4.setCell ⟨wr.heap.size, 0, none⟩ (.int .i64 0)).setCell ⟨wr.heap.size, 1, none⟩ (.int .i64 0)) := by
          have hs := HB.out.size
          exact (b5.setCell (p := ⟨wr.heap.size, 0, none⟩) hs _).setCell (p := ⟨wr.heap.size, 1, none⟩) hs _
        refine stepL 11 ((w4.setCell ⟨wr.heap.size, 0, none⟩ (.int .i64 0)).setCell ⟨wr.heap.size, 1, none⟩ (.int .i64 0)) rfl (by kernel_rfl) (by rfl) (by go_simp) (held _ b6) ?_
        refine doneL (by kernel_rfl) ?_
        have T6 : Box ((w4.setCell ⟨wr.heap.size, 0, none⟩ (.int .i64 0)).setCell ⟨wr.heap.size, 1, none⟩ (.int .i64 0)) wr.heap.size 32 #[.int .i64 0, .int .i64 0] := (T5.set 0 (.int .i64 0)).set 1 (.int .i64 0)
        have HE : Hid (Below W2.heap.size W2 ((w4.setCell ⟨wr.heap.size, 0, none⟩ (.int .i64 0)).setCell ⟨wr.heap.size, 1, none⟩ (.int .i64 0)) ∧ Box ((w4.setCell ⟨wr.heap.size, 0, none⟩ (.int .i64 0)).setCell ⟨wr.heap.size, 1, none⟩ (.int .i64 0)) wr.heap.size 32 #[.int .i64 0, .int .i64 0]) := ⟨b6, T6⟩
        clear T6 b6 hh b5 b4 cA held bD bA xA T5 z0 z1 y0 y1
        dsimp only [Act.put]
        unfold Oper.wp
        go_simp
        obtain ⟨wz, hwz⟩ : ∃ wz, wz = (w4.setCell ⟨wr.heap.size, 0, none⟩ (.int .i64 0)).setCell ⟨wr.heap.size, 1, none⟩ (.int .i64 0) := ⟨_, rfl⟩
        obtain ⟨tb, htb⟩ : ∃ tb, tb = wr.heap.size := ⟨_, rfl⟩
        rw [← hwz, ← htb] at HE
        rw [← hwz, ← htb]
        clear hwz htb
        have bk : ∀ k : Above wz, Below W2.heap.size W2 k.it := fun k => HE.out.1.trans (k.is.mono HE.out.1.size)
        have t0 := above_cell (HE.out.2.cell 0 _ rfl)
        have t1 := above_cell (HE.out.2.cell 1 _ rfl)
        have x0 := above_cell ((HX.out.1.over HE.out.1).cell 0 _ rfl)
        have x1 := above_cell ((HX.out.1.over HE.out.1).cell 1 _ rfl)
        have lc := above_cell (HS.out.1 wz HE.out.1)
        have ct := fun k : Above wz => take_bad d 0 k.it (HS.out.2 _ (bk k)) (by decide) a c ha (by omega)
        have cf := fun k : Above wz => free_bad d 0 k.it (HS.out.2 _ (bk k)) (by decide) a c ha (by omega)
        have cl := fun k : Above wz => left_none d k.it (HS.out.2 _ (bk k))
        have cg := fun k : Above wz => longest_none d k.it (HS.out.2 _ (bk k))
        have ch := fun k : Above wz => holes_none d k.it (HS.out.2 _ (bk k))
        have cc := fun k : Above wz => copy_none d k.it (HS.out.2 _ (bk k))
        clear bk
        go_wp2_with fail
        refine wp_region_above (by kernel_rfl) (by kernel_rfl) ?_
        intro hne
        repeat (go_big_quiet_step (first
          | (go_at_call 14; exact above_of (ct _))
          | (go_at_call 12; exact above_of (cf _))
          | (go_at_call 19; exact above_same (cl _))
          | (go_at_call 18; exact above_same (cg _))
          | (go_at_call 20; exact above_same (ch _))
          | (go_at_call 21; exact above_same (cc _))))
        refine wpQuiet_nil ?_
        rintro _ ⟨kq, rfl⟩
        have HBQ : Hid (Below W2.heap.size W2 kq.it) := HE.out.1.trans (kq.is.mono HE.out.1.size)
        clear t0 t1 x0 x1 lc ct cf cl cg ch cc
        go_wp2
        go_roundg (2 - (i + 1))
        case measure => clear hr2; omega
        case rel => exact ⟨i + 1, by clear hr2; omega, by go_num, HBQ.out⟩
    · have hiI : ¬ (i : Int) < 2 := by omega
      have ca := awake_any wr
      have HB : Hid (Below W2.heap.size W2 wr) := hb
      clear hb hel
      go_wp2_with fail
      refine ca.mono ?_
      rintro e w2 ⟨rfl, b2⟩
      have HB2 : Hid (Below w.heap.size w w2) := by
        have h1 := HW.out.trans (HB.out.mono HW.out.size)
        exact h1.trans (b2.mono h1.size)
      clear ca b2
      go_wp2_with fail
      go_ret
      exact ⟨rfl, HB2.out⟩
end Go.Proofs.Ytjnobdgigeejnaa
