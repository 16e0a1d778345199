/-
  The contract of package vint's Len: as many as the number's bytes.
-/
import Derived.Test.YtlohljefhcidkaaBitsB
import Derived.Test.YtlohljefhcidkaaLeb
namespace Go.Proofs.Ytlohljefhcidkaa
open Go.RowKit Leb

theorem pow128 (L : Nat) : 128 ^ L = 2 ^ (7 * L) := by rw [Nat.pow_mul]
theorem shr_zero_iff (x : BitVec 64) (n : Nat) : x >>> n = 0#64 ↔ x.toNat < 2 ^ n := by
  rw [← BitVec.toNat_inj, BitVec.toNat_ushiftRight, Nat.shiftRight_eq_div_pow]
  have h := Nat.div_eq_zero_iff (a := x.toNat) (b := 2 ^ n)
  have hp : 2 ^ n ≠ 0 := by have := Nat.two_pow_pos n; omega
  simp only [BitVec.toNat_ofNat, Nat.zero_mod]
  rw [h]
  simp
theorem len_of_width {x : BitVec 64} {n : Nat} (h : IsWidth x n) (L : Nat) (hL : L = 1 ∧ (n + 6) / 7 ≤ 1 ∨ 1 ≤ L ∧ L = (n + 6) / 7) : (leb x.toNat).length = L := by
  have h1 : x.toNat < 2 ^ n := (shr_zero_iff x n).1 h.2.1
  obtain ⟨K, rfl⟩ : ∃ K, L = K + 1 := ⟨L - 1, by omega⟩
  have up : (leb x.toNat).length ≤ K + 1 := by
    apply leb_len_le
    rw [pow128]
    exact Nat.lt_of_lt_of_le h1 (Nat.pow_le_pow_right (by decide) (by omega))
  have dn : K + 1 ≤ (leb x.toNat).length := by
    by_cases hK : K = 0
    · subst hK; exact leb_pos _
    · apply leb_len_ge
      rw [pow128]
      have h2 := h.2.2 (n - 1) (by omega)
      rw [Ne, shr_zero_iff] at h2
      exact Nat.le_trans (Nat.pow_le_pow_right (by decide) (by omega)) (Nat.le_of_not_lt h2)
  omega
theorem leb_len_ten (x : BitVec 64) : (leb x.toNat).length ≤ 10 := by
  apply leb_len_le 9
  have := x.isLt
  omega
def lenW (z : BitVec 64) : Nat := (leb z.toNat).length
theorem lenW_bd (z : BitVec 64) : 1 ≤ lenW z ∧ lenW z ≤ 10 := ⟨leb_pos _, leb_len_ten z⟩
theorem width_of (x : BitVec 64) (w : World) (n : Nat) (hn : IsWidth x n) :
    Calls Try.prog 41 #[.int .i64 x.toInt] w fun e w' => e = .returned (.int .i64 n) ∧ w' = w :=
  (width_any x w).mono (by rintro e w' ⟨⟨m, hm, rfl⟩, rfl⟩; exact ⟨by rw [hm.unique hn], rfl⟩)
theorem isWidth_some (x : BitVec 64) : ∃ n, IsWidth x n := by
  have key : ∀ m, x >>> m = 0#64 → m ≤ 64 → ∃ n, IsWidth x n := by
    intro m
    induction m with
    | zero => intro h _; exact ⟨0, by omega, h, fun j hj => by omega⟩
    | succ m ih =>
      intro h hm
      by_cases hx : x >>> m = 0#64
      · exact ih hx (by omega)
      · refine ⟨m + 1, hm, h, fun j hj e => hx ?_⟩
        rw [shr_zero_iff] at e ⊢
        exact Nat.lt_of_lt_of_le e (Nat.pow_le_pow_right (by decide) (by omega))
  exact key 64 (BitVec.ushiftRight_eq_zero (by omega)) (by omega)

set_option maxHeartbeats 400000 in
theorem len_any (x : BitVec 64) (w : World) :
    Calls Try.prog 37 #[.int .i64 x.toInt] w fun e w' => e = .returned (.int .i64 (lenW (zigW x))) ∧ w' = w := by
  obtain ⟨n, hn⟩ := isWidth_some (zigW x)
  have hn64 : (n : Int) ≤ 64 := by have := hn.1; omega
  have HN : Hid (IsWidth (zigW x) n) := hn
  clear hn
  go_enter Try.func37, Try.ntmps37
  go_wp2_with (first
    | (go_at_call 36; refine (zig_any _ _).mono ?_; rintro e w1 ⟨rfl, rfl⟩)
    | (go_at_call 41; refine (width_of _ _ n HN.out).mono ?_; rintro e w1 ⟨rfl, rfl⟩))
  · go_ret
    exact ⟨Wd.returned_int (by rw [lenW, len_of_width HN.out ((n + 6) / 7) (by omega)]; omega), rfl⟩
  · go_ret
    exact ⟨Wd.returned_int (by rw [lenW, len_of_width HN.out 1 (by omega)]; omega), rfl⟩
end Go.Proofs.Ytlohljefhcidkaa
