/-
  Cells as the document has them: which may be, and which of two stands first. No program is spoken of.
-/
import Derived.WalkKit
import Derived.Lib.Strings
namespace Go.Proofs.Ytnnnkmgkijijdaa
open Go.RowKit

structure Cl where
  k : Int
  n : Int
  s : ByteArray
/-- A cell as a value. -/
abbrev cv (c : Cl) : Value := .agg #[.int .i64 c.k, .int .i64 c.n, .string c.s]
def cl0 : Cl := ⟨0, 0, ⟨#[]⟩⟩

theorem toList_inj {a b : ByteArray} (h : a.toList = b.toList) : a = b := by
  rw [Lib.toList_data, Lib.toList_data] at h
  exact ByteArray.ext (Array.toList_inj.1 h)
theorem cl_ext {a b : Cl} (hk : a.k = b.k) (hn : a.n = b.n) (hs : a.s.toList = b.s.toList) : a = b := by
  cases a; cases b
  simp only at hk hn hs
  rw [hk, hn, toList_inj hs]
theorem toList_len (s : ByteArray) : s.toList.length = s.size := by
  rw [Lib.toList_data, ← Lib.size_eq]

/-- May a cell be? -/
def mayC (c : Cl) : Bool := (c.k == 0 && (c.n == 0 && c.s.size == 0)) || (c.k == 1 && c.s.size == 0) || (c.k == 2 && (c.n == 0 && decide (c.s.size ≤ 32)))

def cmpI (a b : Int) : Int := if a < b then -1 else if b < a then 1 else 0
def cmpS (a b : ByteArray) : Int := if Op.bytesLess a.toList b.toList = true then -1 else if a.toList = b.toList then 0 else 1
/-- Which of two cells stands first. -/
def cmpC (a b : Cl) : Int := if a.k = b.k then if a.n = b.n then cmpS a.s b.s else cmpI a.n b.n else cmpI a.k b.k

theorem bless_irrefl : ∀ l : List UInt8, Op.bytesLess l l = false
  | [] => rfl
  | a :: x => by
    have ih := bless_irrefl x
    have : ¬ a < a := fun h => by have := UInt8.lt_iff_toNat_lt.1 h; omega
    simp [Op.bytesLess, ih, this]
theorem bless_asymm : ∀ a b : List UInt8, Op.bytesLess a b = true → Op.bytesLess b a = false
  | _, [], h => by simp [Op.bytesLess] at h
  | [], _ :: _, _ => by simp [Op.bytesLess]
  | a :: x, b :: y, h => by
    have ih := bless_asymm x y
    simp only [Op.bytesLess, Bool.or_eq_true, decide_eq_true_eq, Bool.and_eq_true, beq_iff_eq] at h
    simp only [Op.bytesLess, Bool.or_eq_false_iff, decide_eq_false_iff_not, Bool.and_eq_false_iff, beq_eq_false_iff_ne]
    rcases h with h | ⟨rfl, h⟩
    · have h' := UInt8.lt_iff_toNat_lt.1 h
      refine ⟨fun e => ?_, .inl fun e => ?_⟩
      · have := UInt8.lt_iff_toNat_lt.1 e; omega
      · subst e; omega
    · refine ⟨fun e => ?_, .inr (ih h)⟩
      have := UInt8.lt_iff_toNat_lt.1 e; omega
theorem bless_total : ∀ a b : List UInt8, a ≠ b → Op.bytesLess a b = false → Op.bytesLess b a = true
  | [], [], h, _ => absurd rfl h
  | _ :: _, [], _, _ => by simp [Op.bytesLess]
  | [], _ :: _, _, h => by simp [Op.bytesLess] at h
  | a :: x, b :: y, hne, h => by
    have ih := bless_total x y
    simp only [Op.bytesLess, Bool.or_eq_false_iff, decide_eq_false_iff_not, Bool.and_eq_false_iff, beq_eq_false_iff_ne] at h
    simp only [Op.bytesLess, Bool.or_eq_true, decide_eq_true_eq, Bool.and_eq_true, beq_iff_eq]
    by_cases e : a = b
    · subst e
      refine .inr ⟨rfl, ih (fun e => hne (by rw [e])) ?_⟩
      rcases h.2 with h2 | h2
      · exact absurd rfl h2
      · exact h2
    · refine .inl (UInt8.lt_iff_toNat_lt.2 ?_)
      have h1 : ¬ a.toNat < b.toNat := fun h' => h.1 (UInt8.lt_iff_toNat_lt.2 h')
      have h2 : a.toNat ≠ b.toNat := fun h' => e (UInt8.toNat_inj.1 h')
      omega
theorem bless_trans : ∀ a b c : List UInt8, Op.bytesLess a b = true → Op.bytesLess b c = true → Op.bytesLess a c = true
  | _, _, [], _, h => by simp [Op.bytesLess] at h
  | [], _, _ :: _, _, _ => by simp [Op.bytesLess]
  | _ :: _, [], _ :: _, h, _ => by simp [Op.bytesLess] at h
  | a :: x, b :: y, c :: z, h1, h2 => by
    have ih := bless_trans x y z
    simp only [Op.bytesLess, Bool.or_eq_true, decide_eq_true_eq, Bool.and_eq_true, beq_iff_eq] at *
    rcases h1 with h1 | ⟨rfl, h1⟩
    · have h1' := UInt8.lt_iff_toNat_lt.1 h1
      rcases h2 with h2 | ⟨rfl, h2⟩
      · have h2' := UInt8.lt_iff_toNat_lt.1 h2
        exact .inl (UInt8.lt_iff_toNat_lt.2 (by omega))
      · exact .inl h1
    · rcases h2 with h2 | ⟨rfl, h2⟩
      · exact .inl h2
      · exact .inr ⟨rfl, ih h1 h2⟩

theorem cmpI_flip (a b : Int) : cmpI b a = - cmpI a b := by unfold cmpI; (repeat' split) <;> omega
theorem cmpS_flip (a b : ByteArray) : cmpS b a = - cmpS a b := by
  unfold cmpS
  by_cases e : a.toList = b.toList
  · rw [e, bless_irrefl]; simp
  · cases h : Op.bytesLess a.toList b.toList with
    | true => rw [bless_asymm _ _ h]; simp [Ne.symm e]
    | false => rw [bless_total _ _ e h]; simp [e]
theorem cmpS_zero (a b : ByteArray) : cmpS a b = 0 ↔ a.toList = b.toList := by
  unfold cmpS
  by_cases e : a.toList = b.toList
  · rw [e, bless_irrefl]; simp
  · simp only [e, if_false, iff_false]
    split <;> omega
theorem cmpS_bd (a b : ByteArray) : -1 ≤ cmpS a b ∧ cmpS a b ≤ 1 := by unfold cmpS; (repeat' split) <;> omega
theorem cmpS_trans (a b c : ByteArray) (h1 : cmpS a b ≤ 0) (h2 : cmpS b c ≤ 0) : cmpS a c ≤ 0 := by
  have e1 : a.toList = b.toList ∨ Op.bytesLess a.toList b.toList = true := by
    unfold cmpS at h1
    split at h1
    · exact .inr ‹_›
    · split at h1
      · exact .inl ‹_›
      · omega
  have e2 : b.toList = c.toList ∨ Op.bytesLess b.toList c.toList = true := by
    unfold cmpS at h2
    split at h2
    · exact .inr ‹_›
    · split at h2
      · exact .inl ‹_›
      · omega
  have e3 : a.toList = c.toList ∨ Op.bytesLess a.toList c.toList = true := by
    rcases e1 with e1 | e1
    · rw [e1]; exact e2
    · rcases e2 with e2 | e2
      · rw [← e2]; exact .inr e1
      · exact .inr (bless_trans _ _ _ e1 e2)
  unfold cmpS
  rcases e3 with e3 | e3
  · rw [e3]; (repeat' split) <;> simp_all
  · simp [e3]
theorem cmpC_flip (a b : Cl) : cmpC b a = - cmpC a b := by
  unfold cmpC
  have h1 := cmpI_flip a.k b.k
  have h2 := cmpI_flip a.n b.n
  have h3 := cmpS_flip a.s b.s
  (repeat' split) <;> omega
theorem cmpI_zero (a b : Int) : cmpI a b = 0 ↔ a = b := by unfold cmpI; (repeat' split) <;> omega
theorem cmpI_bd (a b : Int) : -1 ≤ cmpI a b ∧ cmpI a b ≤ 1 := by unfold cmpI; (repeat' split) <;> omega
theorem cmpC_bd (a b : Cl) : -1 ≤ cmpC a b ∧ cmpC a b ≤ 1 := by
  unfold cmpC
  have h1 := cmpI_bd a.k b.k
  have h2 := cmpI_bd a.n b.n
  have h3 := cmpS_bd a.s b.s
  (repeat' split) <;> omega
theorem cmpC_zero (a b : Cl) : cmpC a b = 0 ↔ a = b := by
  constructor
  · intro h
    unfold cmpC at h
    have h1 := cmpI_zero a.k b.k
    have h2 := cmpI_zero a.n b.n
    have h3 := cmpS_zero a.s b.s
    split at h
    · split at h
      · exact cl_ext ‹_› ‹_› (h3.1 h)
      · exact absurd (h2.1 h) ‹_›
    · exact absurd (h1.1 h) ‹_›
  · rintro rfl
    have := (cmpS_zero a.s a.s).2 rfl
    simp [cmpC, this]
theorem cmpC_trans (a b c : Cl) (h1 : cmpC a b ≤ 0) (h2 : cmpC b c ≤ 0) : cmpC a c ≤ 0 := by
  have h3 := cmpS_trans a.s b.s c.s
  unfold cmpC cmpI at *
  (repeat' split at h1) <;> (repeat' split at h2) <;> (repeat' split) <;> omega
end Go.Proofs.Ytnnnkmgkijijdaa
