/-
  A device of the call's own with a fuse: what Write and Sync do with it; small masks of words.
-/
import Derived.Test.YtmgodahdljnbmaaDWait
namespace Go.Proofs.Ytmgodahdljnbmaa
open Go.RowKit

section
variable {w0 w w' : World} {p : Nat} {H H' : Hnd} {s s' : St} {su : List (List UInt8)} {wt : List (Nat × List UInt8)} {f : Int}
theorem Own.fuse (o : Own w0 w p H s) (n : Int) (hn : -9223372036854775808 ≤ n ∧ n < 9223372036854775808) :
    Calls Try.prog 19 #[.pointer (some ⟨p, 0, none⟩), .int .i64 n] w fun e w' => e = .returned (.int .i64 0) ∧ Own w0 w' p H { s with fuse := n } := by
  have h := o.at_
  subst h
  refine (fuse_any o.dev n hn).mono ?_
  rintro e w' ⟨rfl, D, T⟩
  exact ⟨rfl, o.turned D T⟩
theorem Own.write_pos (o : Own w0 w p H ⟨su, wt, f, false⟩) (hf : 0 < f) (k : Nat) (c : UInt8) (hk : k < su.length) (hfew : wt.length < 1000000) :
    Calls Try.prog 12 #[.pointer (some ⟨p, 0, none⟩), .int .i64 k, .string (FS c)] w fun e w' => e = .returned (.int .i64 0) ∧ ∃ H', Own w0 w' p H' ⟨su, wt ++ [(k, fl c)], f - 1, false⟩ := by
  have h := o.at_
  subst h
  have h0 : ¬ f = 0 := by omega
  have hb0 : (f == 0) = false := by simpa using h0
  refine (write_on o.dev k (FS c) hk (FS_size c) (by simp [St.goes, h0]) hfew).mono ?_
  rintro e w' ⟨rfl, H', D, T⟩
  rw [FS_list] at D
  have D' : DevIs w' H' ⟨su, wt ++ [(k, fl c)], f - 1, false⟩ := by simpa [St.write, St.burnt, h0, hf, hb0] using D
  exact ⟨rfl, H', o.turned D' T⟩
theorem Own.sync_pos (o : Own w0 w p H ⟨su, wt, f, false⟩) (hf : 0 < f) :
    Calls Try.prog 14 #[.pointer (some ⟨p, 0, none⟩)] w fun e w' => e = .returned (.int .i64 0) ∧ ∃ H', Own w0 w' p H' ⟨lay su wt, [], f - 1, false⟩ := by
  have h := o.at_
  subst h
  have h0 : ¬ f = 0 := by omega
  have hb0 : (f == 0) = false := by simpa using h0
  refine (sync_on o.dev (by simp [St.goes, h0])).mono ?_
  rintro e w' ⟨rfl, H', D, T⟩
  have D' : DevIs w' H' ⟨lay su wt, [], f - 1, false⟩ := by simpa [St.synced, St.burnt, h0, hf, hb0] using D
  exact ⟨rfl, H', o.turned D' T⟩
theorem Own.write_dead {b : Bool} (o : Own w0 w p H ⟨su, wt, f, b⟩) (hf : b = true ∧ f = -1 ∨ b = false ∧ f = 0) (k : Nat) (c : UInt8) (hk : k < su.length) :
    Calls Try.prog 12 #[.pointer (some ⟨p, 0, none⟩), .int .i64 k, .string (FS c)] w fun e w' => e = .returned (.int .i64 40) ∧ Own w0 w' p H ⟨su, wt, -1, true⟩ := by
  have h := o.at_
  subst h
  refine (write_off o.dev k (FS c) hk (FS_size c) (by rcases hf with ⟨rfl, rfl⟩ | ⟨rfl, rfl⟩ <;> simp [St.goes])).mono ?_
  rintro e w' ⟨rfl, D, T⟩
  have D' : DevIs w' H ⟨su, wt, -1, true⟩ := by rcases hf with ⟨rfl, rfl⟩ | ⟨rfl, rfl⟩ <;> simpa [St.burnt] using D
  exact ⟨rfl, o.turned D' T⟩
theorem Own.sync_dead {b : Bool} (o : Own w0 w p H ⟨su, wt, f, b⟩) (hf : b = true ∧ f = -1 ∨ b = false ∧ f = 0) :
    Calls Try.prog 14 #[.pointer (some ⟨p, 0, none⟩)] w fun e w' => e = .returned (.int .i64 40) ∧ Own w0 w' p H ⟨su, wt, -1, true⟩ := by
  have h := o.at_
  subst h
  refine (sync_off o.dev (by rcases hf with ⟨rfl, rfl⟩ | ⟨rfl, rfl⟩ <;> simp [St.goes])).mono ?_
  rintro e w' ⟨rfl, D, T⟩
  have D' : DevIs w' H ⟨su, wt, -1, true⟩ := by rcases hf with ⟨rfl, rfl⟩ | ⟨rfl, rfl⟩ <;> simpa [St.burnt] using D
  exact ⟨rfl, o.turned D' T⟩
end
theorem and_mask (x : BitVec 64) (m : Nat) (hm : m < 1000000) : ∃ u : Nat, bits .and .i64 x.toInt (m : Int) = (u : Int) ∧ u ≤ m := by
  have hb : (x &&& BitVec.ofNat 64 m).toNat ≤ m := by
    rw [BitVec.toNat_and, BitVec.toNat_ofNat, Nat.mod_eq_of_lt (by omega)]
    exact Nat.and_le_right
  refine ⟨(x &&& BitVec.ofNat 64 m).toNat, ?_, hb⟩
  rw [← toInt_small m hm, Wd.i64_and, BitVec.toInt_eq_toNat_bmod, Int.bmod_def]
  omega
theorem and_pow (K j m : Nat) (hm : m + 1 = 2 ^ j) (hm2 : m < 1000000) (hK : K < 1000000) : bits .and .i64 (K : Int) (m : Int) = ((K % (m + 1) : Nat) : Int) := by
  have h2 : (BitVec.ofNat 64 K &&& BitVec.ofNat 64 m).toNat = K % (m + 1) := by
    rw [BitVec.toNat_and, BitVec.toNat_ofNat, BitVec.toNat_ofNat, Nat.mod_eq_of_lt (by omega), Nat.mod_eq_of_lt (by omega), hm]
    have e : m = 2 ^ j - 1 := by omega
    rw [e]
    exact Nat.and_two_pow_sub_one_eq_mod K j
  rw [← toInt_small m hm2, ← toInt_small K hK, Wd.i64_and, BitVec.toInt_eq_toNat_bmod, h2, Int.bmod_def]
  have : K % (m + 1) < m + 1 := Nat.mod_lt _ (by omega)
  omega
end Go.Proofs.Ytmgodahdljnbmaa
