/-
  The contract of package span's May: whether spans may be.
-/
import Derived.Test.YteijhnfciiblmaaSMem
namespace Go.Proofs.Yteijhnfciiblmaa
open Go.RowKit

theorem ret_bool {a b : Bool} (h : a = b) : Ending.returned (.bool a) = .returned (.bool b) := by rw [h]
theorem may_not {rs : List Sn} {k : Nat} {s : Sn} (hs : rs[k]? = some s) (h : ¬ (endS (rs.take k) < s.lo ∧ s.lo < s.hi ∧ s.hi ≤ 65536)) : mayS rs = false := by
  cases e : mayS rs with
  | false => rfl
  | true => exact absurd (may_at e hs) h
theorem may_next {rs : List Sn} {k : Nat} {s : Sn} (hm : mayS (rs.take k) = true) (hs : rs[k]? = some s) (h : endS (rs.take k) < s.lo ∧ s.lo < s.hi ∧ s.hi ≤ 65536) : mayS (rs.take (k + 1)) = true := by
  rw [take_succ_of hs]; exact may_snoc.2 ⟨hm, h⟩
theorem end_next {rs : List Sn} {k : Nat} {s : Sn} (hs : rs[k]? = some s) : endS (rs.take (k + 1)) = s.hi := by rw [take_succ_of hs, end_snoc]

set_option maxRecDepth 4000 in
set_option maxHeartbeats 4000000 in
theorem may_any {w : World} {v : Value} {rs : List Sn} (h : SpansIs w v rs) (hl : rs.length ≤ 1000000) :
    Calls Try.prog 15 #[v] w fun e w' => e = .returned (.bool (mayS rs)) ∧ Below w.heap.size w w' := by
  obtain ⟨a, n, cap, rfl, hn, hcap⟩ := h.slice
  have hn1 : (n : Int) ≤ 1000000 := by omega
  have HH : Hid (SpansIs w (.slice a n cap) rs ∧ rs.length = n) := ⟨h, hn⟩
  clear h hl hn
  go_enter Try.func15, Try.ntmps15
  go_wp2_with fail
  go_loopg [3, 8] n (fun gg s3 s8 wx => ∃ k : Nat, k + gg = n ∧ s8 = .int .i64 k ∧ s3 = .int .i64 (endS (rs.take k)) ∧ Hid (mayS (rs.take k) = true) ∧ Hid (Below w.heap.size w wx))
  case atStart => exact ⟨0, by omega, rfl, by rw [List.take_zero]; rfl, by unfold Hid; rw [List.take_zero]; rfl, Below.refl _ _⟩
  case round =>
    obtain ⟨k, hkg, rfl, rfl, HM, HB⟩ := hrel
    by_cases hk : k < n
    · have hkI : (k : Int) < (n : Int) := by omega
      obtain ⟨s, b, off, hs, rfl, hat⟩ := (HH.out.1.below HB.out).at hk
      have c0 := hat.c0
      have c1 := hat.c1
      have hr2 : IntKind.i64.wrap ((k : Int) + 1) = (k : Int) + 1 := by rw [IntKind.wrap_i64]; omega
      have HE := end_next hs
      have HS : Hid (rs[k]? = some s ∧ endS (rs.take (k + 1)) = s.hi) := ⟨hs, HE⟩
      obtain ⟨E, hE⟩ : ∃ E, E = endS (rs.take k) := ⟨_, rfl⟩
      have HF : Hid (E = endS (rs.take k)) := hE
      rw [← hE]
      clear hE HE hat hs
      have HB2 : ∀ A, Hid (Below w.heap.size w (wr.alloc A)) := fun A => HB.out.trans (belowOne _ HB.out.size _)
      by_cases g1 : s.lo ≤ E
      · obtain ⟨lo, hi⟩ := s
        simp only at c0 c1 g1
        go_wp2_with fail
        go_ret
        exact ⟨ret_bool (may_not HS.out.1 (by rw [← HF.out]; simp only; omega)).symm, (HB2 _).out⟩
      · by_cases g2 : s.hi ≤ s.lo
        · obtain ⟨lo, hi⟩ := s
          simp only at c0 c1 g1 g2
          go_wp2_with fail
          go_ret
          exact ⟨ret_bool (may_not HS.out.1 (by simp only; omega)).symm, (HB2 _).out⟩
        · by_cases g3 : 65536 < s.hi
          · obtain ⟨lo, hi⟩ := s
            simp only at c0 c1 g1 g2 g3
            go_wp2_with fail
            go_ret
            exact ⟨ret_bool (may_not HS.out.1 (by simp only; omega)).symm, (HB2 _).out⟩
          · have HN : Hid (mayS (rs.take (k + 1)) = true) := may_next HM.out HS.out.1 (by rw [← HF.out]; omega)
            obtain ⟨lo, hi⟩ := s
            simp only at c0 c1 g1 g2 g3
            go_wp2_with fail
            go_roundg (n - (k + 1))
            case measure => clear hr2; omega
            case rel => exact ⟨k + 1, by clear hr2; omega, by go_num, by rw [HS.out.2], HN, HB2 _⟩
    · have hkI : ¬ (k : Int) < (n : Int) := by omega
      obtain rfl : k = n := by omega
      go_wp2_with fail
      go_ret
      exact ⟨ret_bool (by have := HM.out; rw [List.take_of_length_le (by rw [HH.out.2]; exact Nat.le_refl _)] at this; exact this.symm), HB.out⟩
end Go.Proofs.Yteijhnfciiblmaa
