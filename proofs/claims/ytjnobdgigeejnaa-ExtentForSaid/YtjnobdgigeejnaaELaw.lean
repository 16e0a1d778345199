/-
  What the laws' walks of layer 5 have in common.
-/
import Derived.Test.YtjnobdgigeejnaaEAwake
import Derived.Test.YtjnobdgigeejnaaWords
import Derived.Lib.SmallJoins
import Derived.Deep.Slices
import Derived.ChangeArms
namespace Go.Proofs.Ytjnobdgigeejnaa
open Go.RowKit

theorem wf_range (a : Int) (h : (Lit.int .i64 a).wf = true) : -9223372036854775808 ≤ a ∧ a < 9223372036854775808 := by
  obtain ⟨x, rfl⟩ := Wd.word_of a h
  have h1 := x.toInt_lt
  have h2 := x.le_toInt
  omega
/-- Some low bits of a number. -/
theorem and_low (m : Int) (h : (Lit.int .i64 m).wf = true) (c : Nat) (hc : c < 9223372036854775808) : ∃ z : Nat, z ≤ c ∧ bits .and .i64 m (c : Int) = (z : Int) := by
  obtain ⟨x, rfl⟩ := Wd.word_of m h
  refine ⟨(x &&& BitVec.ofNat 64 c).toNat, ?_, ?_⟩
  · rw [BitVec.toNat_and, BitVec.toNat_ofNat, Nat.mod_eq_of_lt (by omega)]
    exact Nat.and_le_right
  · have e := Wd.i64_and x (BitVec.ofNat 64 c)
    rw [Wd.toInt_of_small c hc] at e
    rw [e]
    refine BitVec.toInt_eq_toNat_of_lt ?_
    have : (x &&& BitVec.ofNat 64 c).toNat ≤ c := by
      rw [BitVec.toNat_and, BitVec.toNat_ofNat, Nat.mod_eq_of_lt (by omega)]
      exact Nat.and_le_right
    omega
/-- An extent that came in. -/
theorem ext_of {H : Type} {enc : TypeId × Value → H} {W : World} {base b0 : Nat} {sp : Nat → Bool} {hd : Bool} {r : Reach} {v : Value} {d : DataW H} {p : List MemPlace}
    (hv : Value.okWide Try.prog W r b0 32 v) (h : DataW.Trod enc Try.prog W base sp hd 32 v d p) :
    ∃ a c, v = .agg #[.int .i64 a, .int .i64 c] ∧ (Lit.int .i64 a).wf = true ∧ (Lit.int .i64 c).wf = true := by
  obtain ⟨v0, v1, y0, y1, n, rfl, _, _, h0, h1⟩ := Go.Joins.open_agg2 Try.underlying32 (by kernel_rfl) (by kernel_rfl) hv h
  obtain ⟨a, e0, _, w0⟩ := DataW.trod_int Try.underlying3 h0
  obtain ⟨c, e1, _, w1⟩ := DataW.trod_int Try.underlying3 h1
  simp only [List.cons.injEq, and_true] at e0 e1
  subst e0 e1
  exact ⟨a, c, rfl, w0, w1⟩
end Go.Proofs.Ytjnobdgigeejnaa
