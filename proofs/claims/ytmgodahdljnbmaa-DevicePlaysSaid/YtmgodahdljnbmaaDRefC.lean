/-
  The contract of peristyleref04's Crash.
-/
import Derived.Test.YtmgodahdljnbmaaDRefS
namespace Go.Proofs.Ytmgodahdljnbmaa
open Go.RowKit

set_option maxRecDepth 4000 in
set_option maxHeartbeats 4000000 in
theorem rcrash_any {w : World} {G : Nat → Prop} {R : RH} {su : List (List UInt8)} {wt : List (Nat × List UInt8)} (r : RefIs w G R su wt) (hG : ∀ k, G k → k < w.heap.size) (f : Int) (o : Bool) (v : Value) (l : List (BitVec 64)) (hv : ReadsI w v l) (hll : l.length ≤ maxLen)
    (ha : ∀ x ∈ wt, x.1 < su.length) (hl : su.length ≤ 4096) (hlw : wt.length ≤ 1000000) :
    Calls Try.prog 25 #[.agg #[.slice R.sa su.length R.sc, .slice R.wa wt.length R.wc, .int .i64 f, .bool o], v] w fun e w' => (∃ R', e = .returned (.agg #[.slice R'.sa su.length R'.sc, .slice none 0 0, .int .i64 (-1), .bool false]) ∧ RefIs w' G R' (lay su (keepW (among l) 0 wt)) [] ∧ R'.wa = none ∧ R'.wc = 0) ∧ Below w.heap.size w w' := by
  obtain ⟨n, hn⟩ : ∃ n, n = su.length := ⟨_, rfl⟩
  obtain ⟨m, hm⟩ : ∃ m, m = wt.length := ⟨_, rfl⟩
  obtain ⟨sa, sc, wa, wc⟩ := R
  simp only at r ⊢
  have r1 := r.sure
  have r2 := r.wait
  have r3 := r.g1
  have r4 := r.g2
  simp only at r1 r2 r3 r4
  rw [← hn] at r1 r3 hl
  rw [← hm] at r2 r4 hlw
  rw [← hn, ← hm]
  have HN : Hid (n = su.length ∧ m = wt.length ∧ ∀ x ∈ wt, x.1 < n) := ⟨hn, hm, by rw [hn]; exact ha⟩
  clear hn hm r ha
  have hB := below2 w (.cells (rd sa n sc wa m wc f o) 30) (.cells (rd none 0 0 none 0 0 0 false) 30)
  obtain ⟨B0, B1, _⟩ := two_box (Below.refl ((w.alloc (.cells (rd sa n sc wa m wc f o) 30)).alloc (.cells (rd none 0 0 none 0 0 0 false) 30)).heap.size ((w.alloc (.cells (rd sa n sc wa m wc f o) 30)).alloc (.cells (rd none 0 0 none 0 0 0 false) 30)))
  obtain ⟨W, hW⟩ : ∃ W, W = (w.alloc (.cells (rd sa n sc wa m wc f o) 30)).alloc (.cells (rd none 0 0 none 0 0 0 false) 30) := ⟨_, rfl⟩
  rw [← hW] at hB B0 B1
  have M0 : Mid w W G w.heap.size (w.heap.size + 1) sa n sc wa m wc f o su wt :=
    { box := B0
      zero := B1
      sure := r1.over hB
      wait := r2.over hB
      own := fun x hx => by have := r1.lt hx; exact ⟨r3 x hx, by omega, by omega⟩
      ownw := fun x hx => by have := r2.lt hx; exact ⟨r4 x hx, by omega, by omega⟩
      bel := hB
      abv := ⟨by omega, by omega⟩
      ne := by omega
      len := HN.out.1.symm
      lenw := HN.out.2.1.symm }
  have HG : Hid (∀ k, G k → k < w.heap.size) := hG
  have HV : Hid (ReadsI w v l ∧ l.length ≤ maxLen) := ⟨hv, hll⟩
  have HM0 : Hid (Mid w W G w.heap.size (w.heap.size + 1) sa n sc wa m wc f o su wt) := M0
  have HWW : Hid (W = (w.alloc (.cells (rd sa n sc wa m wc f o) 30)).alloc (.cells (rd none 0 0 none 0 0 0 false) 30)) := hW
  clear M0 B0 B1 hB r1 r2 r3 r4 hG hW hv hll
  go_enter Try.func25, Try.ntmps25
  go_wp2_with fail
  obtain ⟨b, hbb⟩ : ∃ b, b = w.heap.size := ⟨_, rfl⟩
  obtain ⟨z, hzz⟩ : ∃ z, z = w.heap.size + 1 := ⟨_, rfl⟩
  rw [← hzz, ← hbb] at HM0
  show Code.wp _ _ _ _ ((w.alloc (.cells (rd sa n sc wa m wc f o) 30)).alloc (.cells (rd none 0 0 none 0 0 0 false) 30))
  rw [← HWW.out, ← hzz, ← hbb]
  clear hbb hzz HWW
  obtain ⟨sa0, hsa0⟩ : ∃ x, x = sa := ⟨_, rfl⟩
  obtain ⟨sc0, hsc0⟩ : ∃ x, x = sc := ⟨_, rfl⟩
  go_loopg [5] m (fun g s5 wx => ∃ (i : Nat) (sa : Option Addr) (sc : Nat), i + g = m ∧ s5 = .int .i64 i ∧ Mid w wx G b z sa n sc wa m wc f o (lay su (keepW (among l) 0 (wt.take i))) wt)
  case atStart => exact ⟨0, sa, sc, by omega, rfl, by simpa [lay, keepW] using HM0.out⟩
  case round =>
    obtain ⟨i, sa, sc, hig, rfl, M⟩ := hrel
    clear HM0
    have p0 := M.box.cell 0 _ rfl
    have p1 := M.box.cell 1 _ rfl
    by_cases hi : i < m
    · have hiI : (i : Int) < (m : Int) := by omega
      obtain ⟨x, hx⟩ : ∃ x, wt[i]? = some x := ⟨_, List.getElem?_eq_getElem (by have := HN.out.2.1; omega)⟩
      have hwt := M.wait
      rw [HN.out.2.1] at hwt
      obtain ⟨g, rfl, e0, e1, hgl⟩ := w2_at hwt hx
      have hxa : x.1 < n := HN.out.2.2 x (List.mem_of_getElem? hx)
      have hxI : (x.1 : Int) < (n : Int) := by omega
      have cw := with_n (w := wr.drew) M.len M.drew.sure x.1 hxa hl x.2
      have ch := has_is wr v l (HV.out.1.below M.bel) HV.out.2 i
      have hst := keep_take (among l) wt i x hx
      have hr2 : IntKind.i64.wrap ((i : Int) + 1) = (i : Int) + 1 := by rw [IntKind.wrap_i64]; omega
      have f0 := M.box.frozen 0
      have hbl := M.box.lt
      have hne : g ≠ b := (M.ownw g rfl).2.1
      have HMM : Hid (Mid w wr G b z sa n sc (some ⟨g, 0, none⟩) m wc f o (lay su (keepW (among l) 0 (wt.take i))) wt) := M
      have HST : Hid (keepW (among l) 0 (wt.take (i + 1)) = keepW (among l) 0 (wt.take i) ++ if among l i then [x] else []) := hst
      obtain ⟨x1, hx1⟩ : ∃ x1, x1 = x.1 := ⟨_, rfl⟩
      obtain ⟨str, hstr⟩ : ∃ str, str = strB x.2 := ⟨_, rfl⟩
      rw [← hx1] at e0 hxI hxa cw
      rw [← hstr] at e1 cw
      have HX : Hid (x1 = x.1 ∧ str = strB x.2) := ⟨hx1, hstr⟩
      clear M hx hst hwt hx1 hstr
      cases hal : among l i with
      | false =>
        rw [hal] at ch
        have HA : Hid (among l i = false) := hal
        clear hal
        go_wp2_with fail
        refine ch.mono ?_
        rintro e w1 ⟨rfl, hw1⟩
        replace hw1 := hw1.symm
        subst hw1
        go_wp2_with fail
        go_roundg (m - (i + 1))
        case measure => clear hr2; omega
        case rel => exact ⟨i + 1, sa, sc, by clear hr2; omega, by go_num, by rw [HST.out, HA.out]; simpa using HMM.out⟩
      | true =>
        rw [hal] at ch
        have HA : Hid (among l i = true) := hal
        clear hal
        go_wp2_with fail
        refine ch.mono ?_
        rintro e w1 ⟨rfl, hw1⟩
        replace hw1 := hw1.symm
        subst hw1
        clear ch
        go_wp2_with fail
        refine wp_region_held_then (fun w' => w'.cell? ⟨b, 0, none⟩ = some (.slice sa n sc) ∧ w'.cell? ⟨b, 1, none⟩ = some (.slice (some ⟨g, 0, none⟩) m wc) ∧ w'.cell? ⟨g, i * 2, none⟩ = some (.int .i64 x1) ∧ w'.cell? ⟨g, i * 2 + 1, none⟩ = some (.string str)) _ (by kernel_rfl) rfl (by kernel_rfl) ?_
        have hHeld : (fun w' : World => w'.cell? ⟨b, 0, none⟩ = some (.slice sa n sc) ∧ w'.cell? ⟨b, 1, none⟩ = some (.slice (some ⟨g, 0, none⟩) m wc) ∧ w'.cell? ⟨g, i * 2, none⟩ = some (.int .i64 x1) ∧ w'.cell? ⟨g, i * 2 + 1, none⟩ = some (.string str)) wr.drew := ⟨p0, p1, e0, e1⟩
        dsimp only [List.dropLast, List.length, List.getLast]
        ((refine takeL 0 (v := ?_) rfl (by kernel_rfl) (by kernel_rfl) (by kernel_rfl) (fun _ _ _ h => h) (by rfl) hHeld ?_ ?_; rotate_left; focus (intro w hSw; (try dsimp only at hSw); go_simp <;> with_reducible rfl); (try simp only [Act.put, List.setIfInBounds_toArray, List.set_cons_zero, List.set_cons_succ])); (refine takeL 1 (v := ?_) rfl (by kernel_rfl) (by kernel_rfl) (by kernel_rfl) (fun _ _ _ h => h) (by rfl) hHeld ?_ ?_; rotate_left; focus (intro w hSw; (try dsimp only at hSw); go_simp <;> with_reducible rfl); (try simp only [Act.put, List.setIfInBounds_toArray, List.set_cons_zero, List.set_cons_succ])); (refine takeL 2 (v := ?_) rfl (by kernel_rfl) (by kernel_rfl) (by kernel_rfl) (fun _ _ _ h => h) (by rfl) hHeld ?_ ?_; rotate_left; focus (intro w hSw; (try dsimp only at hSw); go_simp <;> with_reducible rfl); (try simp only [Act.put, List.setIfInBounds_toArray, List.set_cons_zero, List.set_cons_succ])); (refine takeL 3 (v := ?_) rfl (by kernel_rfl) (by kernel_rfl) (by kernel_rfl) (fun _ _ _ h => h) (by rfl) hHeld ?_ ?_; rotate_left; focus (intro w hSw; (try dsimp only at hSw); go_simp <;> with_reducible rfl); (try simp only [Act.put, List.setIfInBounds_toArray, List.set_cons_zero, List.set_cons_succ])); (refine takeL 4 (v := ?_) rfl (by kernel_rfl) (by kernel_rfl) (by kernel_rfl) (fun _ _ _ h => h) (by rfl) hHeld ?_ ?_; rotate_left; focus (intro w hSw; (try dsimp only at hSw); go_simp <;> with_reducible rfl); (try simp only [Act.put, List.setIfInBounds_toArray, List.set_cons_zero, List.set_cons_succ])); (refine takeL 5 (v := ?_) rfl (by kernel_rfl) (by kernel_rfl) (by kernel_rfl) (fun _ _ _ h => h) (by rfl) hHeld ?_ ?_; rotate_left; focus (intro w hSw; (try dsimp only at hSw); go_simp <;> with_reducible rfl); (try simp only [Act.put, List.setIfInBounds_toArray, List.set_cons_zero, List.set_cons_succ])); (refine takeL 6 (v := ?_) rfl (by kernel_rfl) (by kernel_rfl) (by kernel_rfl) (fun _ _ _ h => h) (by rfl) hHeld ?_ ?_; rotate_left; focus (intro w hSw; (try dsimp only at hSw); go_simp <;> with_reducible rfl); (try simp only [Act.put, List.setIfInBounds_toArray, List.set_cons_zero, List.set_cons_succ])); (refine takeL 7 (v := ?_) rfl (by kernel_rfl) (by kernel_rfl) (by kernel_rfl) (fun _ _ _ h => h) (by rfl) hHeld ?_ ?_; rotate_left; focus (intro w hSw; (try dsimp only at hSw); go_simp <;> with_reducible rfl); (try simp only [Act.put, List.setIfInBounds_toArray, List.set_cons_zero, List.set_cons_succ])); (refine takeL 8 (v := ?_) rfl (by kernel_rfl) (by kernel_rfl) (by kernel_rfl) (fun _ _ _ h => h) (by rfl) hHeld ?_ ?_; rotate_left; focus (intro w hSw; (try dsimp only at hSw); go_simp <;> with_reducible rfl); (try simp only [Act.put, List.setIfInBounds_toArray, List.set_cons_zero, List.set_cons_succ])); (refine takeL 9 (v := ?_) rfl (by kernel_rfl) (by kernel_rfl) (by kernel_rfl) (fun _ _ _ h => h) (by rfl) hHeld ?_ ?_; rotate_left; focus (intro w hSw; (try dsimp only at hSw); go_simp <;> with_reducible rfl); (try simp only [Act.put, List.setIfInBounds_toArray, List.set_cons_zero, List.set_cons_succ])); (refine takeL 10 (v := ?_) rfl (by kernel_rfl) (by kernel_rfl) (by kernel_rfl) (fun _ _ _ h => h) (by rfl) hHeld ?_ ?_; rotate_left; focus (intro w hSw; (try dsimp only at hSw); go_simp <;> with_reducible rfl); (try simp only [Act.put, List.setIfInBounds_toArray, List.set_cons_zero, List.set_cons_succ])); (refine takeL 11 (v := ?_) rfl (by kernel_rfl) (by kernel_rfl) (by kernel_rfl) (fun _ _ _ h => h) (by rfl) hHeld ?_ ?_; rotate_left; focus (intro w hSw; (try dsimp only at hSw); go_simp <;> with_reducible rfl); (try simp only [Act.put, List.setIfInBounds_toArray, List.set_cons_zero, List.set_cons_succ])); (refine takeL 12 (v := ?_) rfl (by kernel_rfl) (by kernel_rfl) (by kernel_rfl) (fun _ _ _ h => h) (by rfl) hHeld ?_ ?_; rotate_left; focus (intro w hSw; (try dsimp only at hSw); go_simp <;> with_reducible rfl); (try simp only [Act.put, List.setIfInBounds_toArray, List.set_cons_zero, List.set_cons_succ])); (refine takeL 13 (v := ?_) rfl (by kernel_rfl) (by kernel_rfl) (by kernel_rfl) (fun _ _ _ h => h) (by rfl) hHeld ?_ ?_; rotate_left; focus (intro w hSw; (try dsimp only at hSw); go_simp <;> with_reducible rfl); (try simp only [Act.put, List.setIfInBounds_toArray, List.set_cons_zero, List.set_cons_succ])))
        dsimp only [Act.put]
        simp only [List.setIfInBounds_toArray, List.set_cons_zero, List.set_cons_succ]
        refine callL 14 (f := 37) (vs := #[.slice sa n sc, .int .i64 x1, .string str]) rfl (by kernel_rfl) (by rfl) (by go_simp) ?_
        refine cw.mono ?_
        rintro e w2 ⟨⟨va, vc, rfl, hr2', hf2⟩, hb2⟩
        refine ⟨_, rfl, ?_⟩
        have M5 := HMM.out.drew.put hb2 HG.out hr2' (by rw [List.length_set]; exact HMM.out.len) hf2
        have HM5 : Hid (Mid w (w2.setCell ⟨b, 0, none⟩ (.slice va n vc)) G b z va n vc (some ⟨g, 0, none⟩) m wc f o ((lay su (keepW (among l) 0 (wt.take i))).set x.1 x.2) wt) := by rw [← HX.out.1]; exact M5
        have p02 := (hb2.cell (p := ⟨b, 0, none⟩) hbl).trans p0
        have f02 := (hb2.frozen (p := ⟨b, 0, none⟩) hbl).trans f0
        have hHeld2 : (fun w' : World => w'.cell? ⟨b, 0, none⟩ = some (.slice sa n sc) ∧ w'.cell? ⟨b, 1, none⟩ = some (.slice (some ⟨g, 0, none⟩) m wc) ∧ w'.cell? ⟨g, i * 2, none⟩ = some (.int .i64 x1) ∧ w'.cell? ⟨g, i * 2 + 1, none⟩ = some (.string str)) w2 := ⟨p02, (hb2.cell (p := ⟨b, 1, none⟩) hbl).trans p1, (hb2.cell (p := ⟨g, i * 2, none⟩) hgl).trans e0, (hb2.cell (p := ⟨g, i * 2 + 1, none⟩) hgl).trans e1⟩
        refine ⟨hHeld2, ?_⟩
        clear M5 hr2' hf2
        ((refine takeL 15 (v := ?_) rfl (by kernel_rfl) (by kernel_rfl) (by kernel_rfl) (fun _ _ _ h => h) (by rfl) hHeld2 ?_ ?_; rotate_left; focus (intro w hSw; (try dsimp only at hSw); go_simp <;> with_reducible rfl); (try simp only [Act.put, List.setIfInBounds_toArray, List.set_cons_zero, List.set_cons_succ])))
        refine doneL (by kernel_rfl) ?_
        dsimp only [Act.put]
        simp only [List.setIfInBounds_toArray, List.set_cons_zero, List.set_cons_succ]
        unfold Oper.wp
        go_simp
        go_wp2
        go_roundg (m - (i + 1))
        case measure => clear hr2; omega
        case rel => exact ⟨i + 1, va, vc, by clear hr2; omega, by go_num, by rw [HST.out, HA.out, if_pos rfl, lay_snoc]; exact HM5.out⟩
    · have hiI : ¬ (i : Int) < (m : Int) := by omega
      have ht : wt.take i = wt := List.take_of_length_le (by have := HN.out.2.1; omega)
      rw [ht] at M
      have Z4 := M.zero
      have F1 := Z4.setRow (rd sa n sc none 0 0 (-1) false)
      have hone := rd_one sa n sc none 0 0 (-1) false
      have HMM : Hid (Mid w wr G b z sa n sc wa m wc f o (lay su (keepW (among l) 0 wt)) wt) := M
      clear M ht
      go_wp2_with (refine wpList_store_row rfl 30 _ _ rfl z (rd sa n sc none 0 0 (-1) false) rfl rfl 30 _ Z4 size_rd rfl hone ?_)
      have M := HMM.out
      refine bodyPost_ret (res_box Try.results25 _ rfl F1 Try.underlying30 rfl size_rd) rfl ⟨⟨⟨sa, sc, none, 0⟩, rfl, ⟨?_, srows_nil _ _ _, ?_, ?_⟩, rfl, rfl⟩, below_setRow M.bel M.abv.2 _⟩
      · have := M.sure.rowOther (p := z) (rd sa n sc none 0 0 (-1) false) fun k hk => (M.own k hk).2.2
        simp only [M.len]
        exact this
      · simp only [M.len]
        exact fun k hk => (M.own k hk).1
      · intro k hk
        simp [Value.ownBlock] at hk
end Go.Proofs.Ytmgodahdljnbmaa
