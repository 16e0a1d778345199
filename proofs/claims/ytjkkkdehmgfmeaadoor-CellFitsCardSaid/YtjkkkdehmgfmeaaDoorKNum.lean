/-
  The document's reading of numbers and texts, with no program: what number and Read come to.
-/
import Derived.Test.YtjkkkdehmgfmeaaDoorKShow
namespace Go.Proofs.YtjkkkdehmgfmeaaDoor
open Go.RowKit Go.Lib

def minI : Int := -9223372036854775808
/-- The number of digits, below 0; none: no digit, or too great. -/
def pn : Int → List UInt8 → Option Int
  | acc, [] => some acc
  | acc, c :: r => if (c.toNat : Int) - 48 < 0 ∨ 9 < (c.toNat : Int) - 48 ∨ acc < (-9223372036854775808 + ((c.toNat : Int) - 48)).tdiv 10 then none else pn (10 * acc - ((c.toNat : Int) - 48)) r
theorem tdiv_min (d : Int) (h0 : 0 ≤ d) (h9 : d ≤ 9) : (-9223372036854775808 + d).tdiv 10 = -((9223372036854775808 - d) / 10) := by
  have e : -9223372036854775808 + d = -(9223372036854775808 - d) := by omega
  rw [e, Int.neg_tdiv, Int.tdiv_eq_ediv_of_nonneg (by omega)]
theorem pn_step {acc : Int} {c : UInt8} {r : List UInt8} (h0 : 0 ≤ (c.toNat : Int) - 48) (h9 : (c.toNat : Int) - 48 ≤ 9) (h : ¬ acc < (-9223372036854775808 + ((c.toNat : Int) - 48)).tdiv 10) : pn acc (c :: r) = pn (10 * acc - ((c.toNat : Int) - 48)) r := by
  simp only [pn]
  rw [if_neg]
  omega
theorem pn_append (r : List UInt8) : ∀ (l : List UInt8) (acc a : Int), pn acc l = some a → pn acc (l ++ r) = pn a r
  | [], acc, a, h => by
    simp only [pn] at h
    injection h with h
    subst h
    rfl
  | c :: l, acc, a, h => by
    simp only [pn] at h
    rw [List.cons_append]
    simp only [pn]
    split at h
    · cases h
    · rw [if_neg ‹_›]
      exact pn_append r l _ a h
theorem pn_digits (u : Nat) (h : u ≤ 9223372036854775808) : pn 0 (decDigits u) = some (-(u : Int)) := by
  induction u using Nat.strongRecOn with
  | _ u ih =>
    by_cases hs : u < 10
    · rw [decDigits_one hs]
      have hd := digit_nat hs
      rw [pn_step (by omega) (by omega) (by rw [tdiv_min _ (by omega) (by omega)]; omega)]
      simp only [pn]
      congr 1
      omega
    · rw [decDigits, dif_neg hs, pn_append _ _ _ _ (ih (u / 10) (by omega) (by omega))]
      have hd := digit_nat (Nat.mod_lt u (by decide : 0 < 10))
      rw [pn_step (by omega) (by omega) (by rw [tdiv_min _ (by omega) (by omega)]; omega)]
      simp only [pn]
      congr 1
      omega
theorem pn_range : ∀ (l : List UInt8) (acc a : Int), -9223372036854775808 ≤ acc → acc ≤ 0 → pn acc l = some a → -9223372036854775808 ≤ a ∧ a ≤ 0
  | [], acc, a, h1, h2, h => by
    simp only [pn] at h
    injection h with h
    omega
  | c :: l, acc, a, h1, h2, h => by
    simp only [pn] at h
    split at h
    · cases h
    · rename_i hn
      have hd : 0 ≤ (c.toNat : Int) - 48 ∧ (c.toNat : Int) - 48 ≤ 9 := by omega
      have ht := tdiv_min _ hd.1 hd.2
      exact pn_range l _ a (by omega) (by omega) h
/-- Is there a sign? -/
def downB (l : List UInt8) : Bool := l.head? == some 45
/-- What number answers. -/
def numA (l : List UInt8) : Int × Bool :=
  match pn 0 (if downB l = true then l.drop 1 else l) with
  | none => (0, false)
  | some a => if downB l = false ∧ a = -9223372036854775808 then (0, false) else if downB l = true then (a, itoa a == l) else (-a, itoa (-a) == l)
theorem numA_yes {l : List UInt8} (h : (numA l).2 = true) : -9223372036854775808 ≤ (numA l).1 ∧ (numA l).1 ≤ 9223372036854775807 ∧ itoa (numA l).1 = l := by
  unfold numA at h ⊢
  split
  · rename_i hx; rw [hx] at h; cases h
  · rename_i a hx
    rw [hx] at h
    have hr := pn_range _ _ _ (by omega) (by omega) hx
    simp only at h
    split at h
    · cases h
    · rename_i h1
      rw [if_neg h1]
      split at h
      · rename_i h2
        rw [if_pos h2]
        exact ⟨by simp only; omega, by simp only; omega, by simpa using h⟩
      · rename_i h2
        rw [if_neg h2]
        have hf : downB l = false := by simpa using h2
        have ha : a ≠ -9223372036854775808 := fun e => h1 ⟨hf, e⟩
        refine ⟨?_, ?_, by simpa using h⟩
        · show -9223372036854775808 ≤ -a
          omega
        · show -a ≤ 9223372036854775807
          omega
theorem numA_itoa {m : Int} (h0 : -9223372036854775808 ≤ m) (h1 : m ≤ 9223372036854775807) : numA (itoa m) = (m, true) := by
  by_cases hneg : m < 0
  · obtain ⟨u, rfl⟩ : ∃ u : Nat, m = -(u : Int) := ⟨m.natAbs, by omega⟩
    have e := itoa_neg u (by omega)
    have hd : downB (itoa (-(u : Int))) = true := by rw [e]; rfl
    unfold numA
    rw [hd, if_pos rfl]
    have e2 : (itoa (-(u : Int))).drop 1 = decDigits u := by rw [e]; rfl
    rw [e2, pn_digits u (by omega)]
    simp
  · obtain ⟨u, rfl⟩ : ∃ u : Nat, m = (u : Int) := ⟨m.toNat, by omega⟩
    have e := itoa_nonneg u
    obtain ⟨d, r, hd10, e2⟩ := digits_head u
    have hd : downB (itoa (u : Int)) = false := by
      rw [e, e2]
      unfold downB
      simp only [List.head?_cons]
      rw [beq_eq_false_iff_ne]
      intro hx
      have := congrArg UInt8.toNat (Option.some.inj hx)
      rw [digit_nat hd10] at this
      have h45 : (45 : UInt8).toNat = 45 := rfl
      omega
    unfold numA
    rw [hd]
    simp only [Bool.false_eq_true, if_false]
    rw [e, pn_digits u (by omega)]
    simp only
    rw [if_neg (by omega), Int.neg_neg, e]
    simp
/-- What is taken of a text between quotes. -/
def un : List UInt8 → List UInt8
  | [] => []
  | [b] => [b]
  | b :: c :: r => if b = 39 then b :: un r else b :: un (c :: r)
theorem un_dbl : ∀ l : List UInt8, un (dbl l) = l
  | [] => rfl
  | b :: l => by
    have ih := un_dbl l
    by_cases h : b = 39
    · subst h
      have e : dbl (39 :: l) = 39 :: 39 :: dbl l := by simp [dbl]
      rw [e]
      simp only [un, if_true, ih]
    · have e : dbl (b :: l) = b :: dbl l := by simp [dbl, h]
      rw [e]
      cases hd : dbl l with
      | nil =>
        rw [hd] at ih
        simp only [un] at ih ⊢
        rw [ih]
      | cons a r =>
        rw [hd] at ih
        simp only [un]
        rw [if_neg h, ih]
theorem un_step {l : List UInt8} {i : Nat} {b : UInt8} (h : l[i]? = some b) : un (l.drop i) = b :: un (l.drop (if b = 39 then i + 2 else i + 1)) := by
  obtain ⟨h1, h2⟩ := List.getElem?_eq_some_iff.1 h
  rw [List.drop_eq_getElem_cons h1, h2]
  cases hd : l.drop (i + 1) with
  | nil =>
    simp only [un]
    have e : l.drop (if b = 39 then i + 2 else i + 1) = [] := by
      rw [List.drop_eq_nil_iff] at hd ⊢
      split <;> omega
    rw [e]
    rfl
  | cons c r =>
    simp only [un]
    split
    · have e : l.drop (i + 2) = r := by
        have : l.drop (i + 2) = (l.drop (i + 1)).drop 1 := by rw [List.drop_drop]
        rw [this, hd]; rfl
      rw [e]
    · rw [hd]
/-- The text between the first sign and the last. -/
def midL (l : List UInt8) : List UInt8 := (l.drop 1).take (l.length - 2)
/-- What the document's Read answers. -/
def refA (l : List UInt8) : Cl × Int :=
  if l = [110, 117, 108, 108] then (cl0, 0)
  else if (numA l).2 = true then (numC (numA l).1, 0)
  else if 2 ≤ l.length ∧ l.head? = some 39 then (if (mayC (txtC (str (un (midL l)))) && (showL (txtC (str (un (midL l)))) == l)) = true then (txtC (str (un (midL l))), 0) else (cl0, 20))
  else (cl0, 20)
theorem readA_of {l : List UInt8} {c : Cl} (h : readC l = some c) : readA l = (c, 0) := by unfold readA; rw [h]
theorem readA_none {l : List UInt8} (h : readC l = none) : readA l = (cl0, 20) := by unfold readA; rw [h]
theorem mid_quote (t : List UInt8) : midL (39 :: (t ++ [39])) = t := by
  unfold midL
  simp
theorem refA_eq (l : List UInt8) : refA l = readA l := by
  unfold refA
  split
  · rename_i h
    exact (readA_of ((read_iff l cl0).2 ⟨by decide, by unfold okC cl0; decide, by rw [h]; rfl⟩)).symm
  · rename_i hnull
    split
    · rename_i hn
      obtain ⟨h1, h2, h3⟩ := numA_yes hn
      refine (readA_of ((read_iff l (numC (numA l).1)).2 ⟨?_, ⟨h1, h2⟩, ?_⟩)).symm
      · simp [mayC, numC]
        rfl
      · rw [← h3]
        simp [showL, numC, h3]
    · rename_i hn
      have key : ∀ c, mayC c = true → okC c → showL c = l → c.k = 2 ∧ l = 39 :: (dbl c.s.data.toList ++ [39]) ∧ c = txtC c.s := by
        rintro ⟨k, n, s⟩ hm hok hl
        rcases may_kind hm with ⟨h1, h2, h3⟩ | ⟨h1, h2⟩ | ⟨h1, h2, h3⟩
        · simp only at h1 h2 h3
          subst h1 h2
          exact absurd hl.symm hnull
        · simp only at h1 h2
          subst h1
          have e : showL ⟨1, n, s⟩ = itoa n := by simp [showL]
          rw [e] at hl
          rw [← hl, numA_itoa hok.1 hok.2] at hn
          exact absurd rfl hn
        · simp only at h1 h2 h3
          subst h1 h2
          have e : showL ⟨2, 0, s⟩ = 39 :: (dbl s.data.toList ++ [39]) := by simp [showL]
          exact ⟨rfl, by rw [← hl, e], rfl⟩
      split
      · rename_i hq
        split
        · rename_i hx
          simp only [Bool.and_eq_true, beq_iff_eq] at hx
          exact (readA_of ((read_iff l _).2 ⟨hx.1, by simp [okC, txtC], hx.2⟩)).symm
        · rename_i hx
          refine (readA_none (read_none fun c hm hok hl => hx ?_)).symm
          obtain ⟨hk, he, hc⟩ := key c hm hok hl
          have e1 : txtC (str (un (midL l))) = c := by
            rw [he, mid_quote, un_dbl]
            have e3 : str c.s.data.toList = c.s := by
              apply ByteArray.ext
              simp [str]
            rw [e3, ← hc]
          rw [e1, hm, hl]
          simp
      · rename_i hq
        refine (readA_none (read_none fun c hm hok hl => hq ?_)).symm
        obtain ⟨hk, he, hc⟩ := key c hm hok hl
        rw [he]
        exact ⟨by simp, rfl⟩
end Go.Proofs.YtjkkkdehmgfmeaaDoor
