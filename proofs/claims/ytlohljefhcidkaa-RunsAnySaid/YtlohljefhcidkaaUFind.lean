/-
  The contract of package runs' Find: which run has a place, by a search over the runs' ends.
-/
import Derived.Test.YtlohljefhcidkaaUMay
namespace Go.Proofs.Ytlohljefhcidkaa
open Go.RowKit

set_option maxRecDepth 4000 in
set_option maxHeartbeats 4000000 in
/-- The closure: do the first k + 1 runs end behind at? -/
theorem find1_any {w : World} {ad : Option Addr} {n cap : Nat} {rs : List Rn} (h : RunsIs w (.slice ad n cap) rs) (hc : Chain rs) (a : Int) (b1 b2 : Nat) (h1 : w.cell? ⟨b1, 0, none⟩ = some (.slice ad n cap)) (h2 : w.cell? ⟨b2, 0, none⟩ = some (.int .i64 a)) {k : Nat} (hk : k < n) :
    Calls Try.prog 23 #[.int .i64 k, .pointer (some ⟨b1, 0, none⟩), .pointer (some ⟨b2, 0, none⟩)] w fun e w' => e = .returned (.bool (decide (a < endR (rs.take (k + 1))))) ∧ Below w.heap.size w w' := by
  obtain ⟨hl, hcap⟩ := h.len
  have hn1 := chain_len hc
  have hce : ∀ q : Above w, Calls Try.prog 21 #[.slice ad (k + 1) cap] q.it fun e w' => e = .returned (.int .i64 (endR (rs.take (k + 1)))) ∧ Below q.it.heap.size q.it w' := fun q =>
    end_any ((h.below q.is).take (by omega)) (chain_take hc _)
  have c1 := above_cell h1
  have c2 := above_cell h2
  obtain ⟨E, hE⟩ : ∃ E, E = endR (rs.take (k + 1)) := ⟨_, rfl⟩
  rw [← hE] at hce ⊢
  have hkI : (k : Int) + 1 ≤ (n : Int) ∧ (n : Int) ≤ 65536 ∧ (n : Int) ≤ (cap : Int) := by omega
  have hkc : (0 : Int) ≤ (k : Int) + 1 ∧ (k : Int) + 1 ≤ (cap : Int) := by omega
  have hkN : k + 1 ≤ cap := by omega
  clear h hc h1 h2 hE hl hn1
  go_enter Try.func23, Try.ntmps23
  go_wp2_with fail
  refine wp_region_above (by kernel_rfl) (by kernel_rfl) ?_
  intro hne
  repeat (go_big_quiet_step ((go_at_call 21; exact above_of (hce _))))
  refine wpQuiet_nil ?_
  rintro _ ⟨kq, rfl⟩
  have hbq := kq.is
  go_wp2
  go_ret
  exact ⟨rfl, hbq⟩

/-- The first k runs end at a or ahead of it, the others behind it. -/
def Ends (rs : List Rn) (a : Int) (k : Nat) : Prop := k ≤ rs.length ∧ (∀ j : Nat, j < k → endR (rs.take (j + 1)) ≤ a) ∧ ∀ j : Nat, k ≤ j → j < rs.length → a < endR (rs.take (j + 1))
theorem Ends.find {rs : List Rn} {a : Int} {k : Nat} (h : Ends rs a k) (hc : Chain rs) (h0 : 0 ≤ a) (h1 : a < endR rs) : findA rs a = (k, 0) :=
  findA_ends hc h0 h1 h.1 (fun j x hj hx => by have := run_bd hc hx; have := h.2.1 j hj; omega) (fun j x hj hx => by have := run_bd hc hx; have := h.2.2 j hj (List.getElem?_eq_some_iff.1 hx).1; omega)

set_option maxRecDepth 4000 in
set_option maxHeartbeats 4000000 in
theorem bsearch_any {w : World} {ad : Option Addr} {n cap : Nat} {rs : List Rn} (h : RunsIs w (.slice ad n cap) rs) (hc : Chain rs) (a : Int) (b1 b2 : Nat) (h1 : w.cell? ⟨b1, 0, none⟩ = some (.slice ad n cap)) (h2 : w.cell? ⟨b2, 0, none⟩ = some (.int .i64 a)) :
    Calls Try.prog 22 #[.int .i64 n, .func (.func 23) #[] #[.pointer (some ⟨b1, 0, none⟩), .pointer (some ⟨b2, 0, none⟩)]] w fun e w' => (∃ k : Nat, e = .returned (.int .i64 k) ∧ Ends rs a k) ∧ Below w.heap.size w w' := by
  have hb1 := World.block_lt_of_cell? w _ h1
  have hb2 := World.block_lt_of_cell? w _ h2
  simp only at hb1 hb2
  obtain ⟨hl, hcap⟩ := h.len
  have hn1 : n ≤ 65536 := by have := chain_len hc; omega
  have HM : Hid (RunsIs w (.slice ad n cap) rs ∧ rs.length = n ∧ Chain rs ∧ w.cell? ⟨b1, 0, none⟩ = some (.slice ad n cap) ∧ w.cell? ⟨b2, 0, none⟩ = some (.int .i64 a)) := ⟨h, hl, hc, h1, h2⟩
  clear h hl hc h1 h2
  go_enter Try.func22, Try.ntmps22
  go_wp2_with fail
  go_loopg [5, 6] n (fun gg s5 s6 wx => ∃ (i j : Nat), j - i ≤ gg ∧ i ≤ j ∧ j ≤ n ∧ s5 = .int .i64 i ∧ s6 = .int .i64 j ∧ Hid ((∀ k : Nat, k < i → endR (rs.take (k + 1)) ≤ a) ∧ (∀ k : Nat, j ≤ k → k < n → a < endR (rs.take (k + 1)))) ∧ Hid (Below w.heap.size w wx))
  case atStart => exact ⟨0, n, by omega, by omega, by omega, rfl, rfl, ⟨fun k hk => by omega, fun k h1 h2 => by omega⟩, Below.refl _ _⟩
  case round =>
    obtain ⟨i, j, hg, hij, hjq, rfl, rfl, HR, HB⟩ := hrel
    by_cases hlt : i < j
    · have hltI : (i : Int) < (j : Int) := by omega
      obtain ⟨h, hh⟩ : ∃ h, h = (i + j) / 2 := ⟨_, rfl⟩
      have hhj : h < j := by omega
      have hih : i ≤ h := by omega
      have cs := find1_any (HM.out.1.below HB.out) HM.out.2.2.1 a b1 b2 ((HB.out.cell (p := ⟨b1, 0, none⟩) hb1).trans HM.out.2.2.2.1) ((HB.out.cell (p := ⟨b2, 0, none⟩) hb2).trans HM.out.2.2.2.2) (k := h) (by omega)
      have HX : Hid (h = (i + j) / 2) := hh
      clear hh
      go_wp2_with fail
      rw [show ((i : Int) + (j : Int)) / 2 = (h : Int) by have := HX.out; omega]
      refine cs.mono ?_
      rintro e w1 ⟨rfl, hb⟩
      have HB2 : Hid (Below w.heap.size w w1) := HB.out.trans (hb.mono HB.out.size)
      clear cs hb
      by_cases hxa : a < endR (rs.take (h + 1))
      · rw [decide_eq_true hxa]
        have HA : Hid (a < endR (rs.take (h + 1))) := hxa
        clear hxa
        go_wp2_with fail
        go_roundg (h - i)
        case measure => omega
        case rel =>
          refine ⟨i, h, Nat.le_refl _, hih, by omega, rfl, rfl, ⟨HR.out.1, fun k hk hkn => ?_⟩, HB2⟩
          have := end_mono HM.out.2.2.1 (j := h + 1) (k := k + 1) (by have := HM.out.2.1; omega) (by omega)
          have := HA.out
          omega
      · rw [decide_eq_false hxa]
        have HA : Hid (¬ a < endR (rs.take (h + 1))) := hxa
        have hw1 : IntKind.i64.wrap ((h : Int) + 1) = (h : Int) + 1 := by rw [IntKind.wrap_i64]; omega
        clear hxa
        go_wp2_with fail
        go_roundg (j - (h + 1))
        case measure => clear hw1; omega
        case rel =>
          refine ⟨h + 1, j, Nat.le_refl _, by clear hw1; omega, hjq, by go_num, rfl, ⟨fun k hk => ?_, HR.out.2⟩, HB2⟩
          clear hw1
          have := end_mono HM.out.2.2.1 (j := k + 1) (k := h + 1) (by have := HM.out.2.1; omega) (by omega)
          have := HA.out
          omega
    · have hltI : ¬ (i : Int) < (j : Int) := by omega
      obtain rfl : i = j := by omega
      go_wp2_with fail
      go_ret
      exact ⟨⟨i, rfl, by have := HM.out.2.1; omega, HR.out.1, fun k hk hkn => HR.out.2 k hk (by have := HM.out.2.1; omega)⟩, HB.out⟩

set_option maxRecDepth 4000 in
set_option maxHeartbeats 4000000 in
theorem find_no {w : World} {v : Value} {rs : List Rn} (h : RunsIs w v rs) (hl : rs.length ≤ 1000000) (hm : ¬ May rs) (a : Int) :
    Calls Try.prog 10 #[v, .int .i64 a] w fun e w' => e = .returned (.tuple #[.int .i64 0, .int .i64 1]) ∧ Below w.heap.size w w' := by
  have hmb := fun W (hW : Below w.heap.size w W) => mayBe_any (h.below hW) hl false (by simp [hm])
  obtain ⟨ad, n, cap, rfl, hn, hcap⟩ := h.slice
  clear h hm
  go_enter Try.func10, Try.ntmps10
  go_wp2_with (go_at_call 20; refine (hmb _ (below2 _ _ _)).mono ?_; rintro e w1 ⟨rfl, hb1⟩)
  go_ret2
  exact ⟨rfl, (below2 _ _ _).trans (hb1.mono (by simp; omega))⟩
theorem ret_find {rs : List Rn} {a : Int} {k : Nat} {x : Int} (h : findA rs a = (k, x)) : Ending.returned (.tuple #[.int .i64 k, .int .i64 x]) = .returned (.tuple #[.int .i64 (findA rs a).1, .int .i64 (findA rs a).2]) := by rw [h]

set_option maxRecDepth 4000 in
set_option maxHeartbeats 4000000 in
theorem find_yes {w : World} {v : Value} {rs : List Rn} (h : RunsIs w v rs) (hm : May rs) (a : Int) :
    Calls Try.prog 10 #[v, .int .i64 a] w fun e w' => e = .returned (.tuple #[.int .i64 (findA rs a).1, .int .i64 (findA rs a).2]) ∧ Below w.heap.size w w' := by
  have hlen := chain_len hm.chain
  obtain ⟨ad, n, cap, rfl, hn, hcap⟩ := h.slice
  obtain ⟨W, hW⟩ : ∃ W, W = (w.alloc (.cells #[.slice ad n cap] 24)).alloc (.cells #[.int .i64 a] 3) := ⟨_, rfl⟩
  have hb0 : Below w.heap.size w W := by rw [hW]; exact below2 w _ _
  have B0 : Box W w.heap.size 24 #[.slice ad n cap] := by rw [hW]; exact box_old w _ _ _
  have B1 : Box W (w.heap.size + 1) 3 #[.int .i64 a] := by
    rw [hW]
    have := box_new (w.alloc (.cells #[.slice ad n cap] 24)) #[.int .i64 a] 3
    rw [World.size_alloc] at this
    exact this
  have HB0 : Hid (Below w.heap.size w W ∧ Box W w.heap.size 24 #[.slice ad n cap] ∧ Box W (w.heap.size + 1) 3 #[.int .i64 a]) := ⟨hb0, B0, B1⟩
  have hmb := mayBe_any (h.below hb0) (by omega) true (by simp [hm])
  have HH : Hid (RunsIs w (.slice ad n cap) rs ∧ May rs ∧ rs.length = n) := ⟨h, hm, hn⟩
  obtain ⟨E, hE⟩ : ∃ E, E = endR rs := ⟨_, rfl⟩
  have HE : Hid (E = endR rs) := hE
  have p0 := B0.cell 0 _ rfl
  have p1 := B1.cell 0 _ rfl
  have hn1 : (n : Int) ≤ 65536 := by omega
  clear h hm hlen hb0 B0 B1 hE hn
  generalize hg : w.heap.size = g at *
  rcases (show (decide (a < 0) = true ∧ True) ∨ (decide (a < 0) = false ∧ decide (E ≤ a) = true) ∨ (decide (a < 0) = false ∧ decide (E ≤ a) = false) by
    by_cases g1 : a < 0
    · simp [g1]
    · by_cases g2 : E ≤ a <;> simp [g1, g2]) with ⟨D1, D2⟩ | ⟨D1, D2⟩ | ⟨D1, D2⟩
  all_goals
    go_enter Try.func10, Try.ntmps10
    go_wp2_with fail
    rw [← hW]
    refine hmb.mono ?_
    rintro e w1 ⟨rfl, hb1⟩
    have hbw : Below g w w1 := HB0.out.1.trans (hb1.mono (by have := HB0.out.1.size; omega))
    have X0 := HB0.out.2.1.over hb1
    have X1 := HB0.out.2.2.over hb1
    have HX : Hid (Below w.heap.size w w1 ∧ Box w1 g 24 #[.slice ad n cap] ∧ Box w1 (g + 1) 3 #[.int .i64 a]) := ⟨by rw [hg]; exact hbw, X0, X1⟩
    have e0 := above_cell (X0.cell 0 _ rfl)
    have e1 := above_cell (X1.cell 0 _ rfl)
    have hce : ∀ q : Above w1, Calls Try.prog 21 #[.slice ad n cap] q.it fun e w' => e = .returned (.int .i64 E) ∧ Below q.it.heap.size q.it w' := fun q => by
      rw [HE.out]
      exact end_any ((HH.out.1.below HX.out.1).below q.is) HH.out.2.1.chain
    clear hW hmb p0 p1 hb1 X0 X1 hbw HB0
    go_wp2_with fail
    refine wp_region_above (by kernel_rfl) (by kernel_rfl) ?_
    intro hne
    repeat (go_big_quiet_step (first | (go_at_call 21; exact above_of (hce _))))
    refine wpQuiet_nil ?_
    rintro _ ⟨kq, rfl⟩
    have hbq := kq.is
    generalize kq.it = w2 at hbq ⊢
    have HX2 : Hid (Below w.heap.size w w2 ∧ Box w2 g 24 #[.slice ad n cap] ∧ Box w2 (g + 1) 3 #[.int .i64 a]) := ⟨HX.out.1.trans (hbq.mono HX.out.1.size), HX.out.2.1.over hbq, HX.out.2.2.over hbq⟩
    clear hbq hne e0 e1 hce
    have p0 := HX2.out.2.1.cell 0 _ rfl
    have p1 := HX2.out.2.2.cell 0 _ rfl
    first
      | (have HF : Hid (findA rs a = (0, 3)) := findA_out HH.out.2.1.chain (by rw [← HE.out]; simp at D1 D2; omega)
         go_wp2_with fail
         go_ret2
         exact ⟨ret_find HF.out, by rw [← hg]; exact HX2.out.1⟩)
      | (have hs := bsearch_any (HH.out.1.below HX2.out.1) HH.out.2.1.chain a g (g + 1) p0 p1
         have HD : Hid (0 ≤ a ∧ a < endR rs) := by unfold Hid; rw [← HE.out]; simp at D1 D2; omega
         go_wp2_with (go_at_call 22; refine hs.mono ?_; rintro e w3 ⟨⟨k, rfl, hk⟩, hb3⟩; have HF : Hid (findA rs a = (k, 0)) := hk.find HH.out.2.1.chain HD.out.1 HD.out.2; have HB3 : Hid (Below w.heap.size w w3) := HX2.out.1.trans (hb3.mono HX2.out.1.size); clear hb3 hk)
         go_ret2
         exact ⟨ret_find HF.out, by rw [← hg]; exact HB3.out⟩)
end Go.Proofs.Ytlohljefhcidkaa
