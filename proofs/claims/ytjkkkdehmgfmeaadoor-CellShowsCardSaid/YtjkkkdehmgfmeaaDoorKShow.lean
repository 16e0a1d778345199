/-
  Cells as text: what is shown, and what is read: no program is spoken of.
-/
import Derived.Test.YtjkkkdehmgfmeaaDoorKPut
import Derived.Lib.Replace
import Derived.Lib.AtoiAll
import Derived.Lib.ItoaNum
import Derived.Lib.ItoaMem
import Derived.Lib.ItoaLen
import Derived.Lib.AtoiAllCases
import Derived.Lib.AtoiBound
namespace Go.Proofs.YtjkkkdehmgfmeaaDoor
open Go.RowKit Go.Lib

/-- Each quote twice. -/
def dbl (l : List UInt8) : List UInt8 := l.flatMap fun b => if b = 39 then [39, 39] else [b]
/-- A cell as it is written. -/
def showL (c : Cl) : List UInt8 := if c.k = 0 then [110, 117, 108, 108] else if c.k = 1 then itoa c.n else if c.k = 2 then 39 :: (dbl c.s.data.toList ++ [39]) else [63]

section
variable {old new : List UInt8}
theorem rep_nil (ho : old ≠ []) : replaceAll [] old new = [] := by
  have hi : index [] old = -1 := by
    unfold index
    rw [if_neg]
    simpa using ho
  unfold replaceAll replace replaceNum
  rw [count_miss hi]
  split
  · rfl
  · rfl
theorem rep_hit (ho : old ≠ []) (hn : old ≠ new) (l : List UInt8) : replaceAll (old ++ l) old new = new ++ replaceAll l old new := by
  have hi : index (old ++ l) old = (0 : Nat) := by
    have hp : old.isPrefixOf (old ++ l) = true := by rw [List.isPrefixOf_iff_prefix]; exact List.prefix_append _ _
    cases h : old ++ l with
    | nil => rw [List.append_eq_nil_iff] at h; exact absurd h.1 ho
    | cons a b => rw [h] at hp; unfold index; rw [if_pos hp]; rfl
  have hc := count_hit ho hi
  rw [Nat.zero_add, List.drop_left] at hc
  have hne : ¬ (old == new) = true := by simpa using hn
  have e1 : replaceAll (old ++ l) old new = replaceK old new (count (old ++ l) old) (old ++ l) := by
    unfold replaceAll replace replaceNum; rw [if_neg hne, if_pos (.inl (by decide))]
  have e2 : replaceAll l old new = replaceK old new (count l old) l := by
    unfold replaceAll replace replaceNum; rw [if_neg hne, if_pos (.inl (by decide))]
  rw [e1, e2, hc, Nat.add_comm 1, replaceK_hit old new _ _ 0 hi, Nat.zero_add, List.drop_left]
  simp
theorem rep_skip (ho : old ≠ []) (hn : old ≠ new) (b : UInt8) (l : List UInt8) (hp : old.isPrefixOf (b :: l) = false) : replaceAll (b :: l) old new = b :: replaceAll l old new := by
  have hne : ¬ (old == new) = true := by simpa using hn
  have e1 : replaceAll (b :: l) old new = replaceK old new (count (b :: l) old) (b :: l) := by
    unfold replaceAll replace replaceNum; rw [if_neg hne, if_pos (.inl (by decide))]
  have e2 : replaceAll l old new = replaceK old new (count l old) l := by
    unfold replaceAll replace replaceNum; rw [if_neg hne, if_pos (.inl (by decide))]
  have hi : index (b :: l) old = if index l old == -1 then -1 else index l old + 1 := by
    conv => lhs; unfold index
    rw [if_neg (by rw [hp]; simp)]
  rw [e1, e2]
  by_cases h : index l old = -1
  · have h' : index (b :: l) old = -1 := by rw [hi, h]; rfl
    rw [count_miss h, count_miss h']
    rfl
  · have hge := index_ge l old
    obtain ⟨i, hii⟩ : ∃ i : Nat, index l old = i := ⟨(index l old).toNat, by omega⟩
    have h' : index (b :: l) old = ((i + 1 : Nat) : Int) := by
      rw [hi, hii, if_neg]
      · omega
      · simp
    have c1 := count_hit ho hii
    have c2 := count_hit ho h'
    rw [show i + 1 + old.length = (i + old.length) + 1 by omega, List.drop_succ_cons] at c2
    rw [c1, c2, Nat.add_comm 1, replaceK_hit old new _ _ (i + 1) h', replaceK_hit old new _ _ i hii, show i + 1 + old.length = (i + old.length) + 1 by omega, List.drop_succ_cons]
    rfl
end
theorem rep_dbl : ∀ l : List UInt8, replaceAll l [39] [39, 39] = dbl l
  | [] => rep_nil (by simp)
  | b :: l => by
    have ih := rep_dbl l
    by_cases h : b = 39
    · subst h
      have := rep_hit (old := [39]) (new := [39, 39]) (by simp) (by simp) l
      rw [List.singleton_append] at this
      rw [this, ih]
      simp [dbl]
    · rw [rep_skip (by simp) (by simp) b l (by simp [List.isPrefixOf]; exact fun e => h e.symm), ih]
      simp [dbl, h]
theorem rep_back : ∀ l : List UInt8, replaceAll (dbl l) [39, 39] [39] = l
  | [] => rep_nil (by simp)
  | b :: l => by
    have ih := rep_back l
    by_cases h : b = 39
    · subst h
      have e : dbl (39 :: l) = [39, 39] ++ dbl l := by simp [dbl]
      rw [e, rep_hit (by simp) (by simp), ih]
      rfl
    · have e : dbl (b :: l) = b :: dbl l := by simp [dbl, h]
      rw [e, rep_skip (by simp) (by simp) b (dbl l) (by simp [List.isPrefixOf]; exact fun e => absurd e.symm h), ih]

theorem parse_append (r : List UInt8) : ∀ (l : List UInt8) (acc a : Nat), parseUint10 acc l = .ok a → parseUint10 acc (l ++ r) = parseUint10 a r
  | [], acc, a, h => by
    simp only [parseUint10] at h
    injection h with h
    subst h
    rfl
  | c :: l, acc, a, h => by
    simp only [parseUint10] at h
    rw [List.cons_append]
    simp only [parseUint10]
    split at h
    · rw [if_pos ‹_›]
      split at h
      · cases h
      · rw [if_neg ‹_›]
        split at h
        · cases h
        · rw [if_neg ‹_›]
          exact parse_append r l _ a h
    · cases h
theorem digit_nat {d : Nat} (h : d < 10) : (UInt8.ofNat (48 + d)).toNat = 48 + d := by
  rw [UInt8.toNat_ofNat', Nat.mod_eq_of_lt (by omega)]
theorem parse_digits (u : Nat) (h : u < 18446744073709551616) : parseUint10 0 (decDigits u) = .ok u := by
  induction u using Nat.strongRecOn with
  | _ u ih =>
    by_cases hs : u < 10
    · rw [decDigits_one hs]
      simp only [parseUint10]
      rw [digit_nat hs, if_pos (by omega), if_neg (by omega), if_neg (by omega)]
      congr 1
      omega
    · rw [decDigits, dif_neg hs, parse_append _ _ _ _ (ih (u / 10) (by omega) (by omega))]
      simp only [parseUint10]
      rw [digit_nat (Nat.mod_lt _ (by decide)), if_pos (by omega), if_neg (by omega), if_neg (by omega)]
      congr 1
      omega
theorem digits_head (u : Nat) : ∃ d r, d < 10 ∧ decDigits u = UInt8.ofNat (48 + d) :: r := by
  induction u using Nat.strongRecOn with
  | _ u ih =>
    by_cases hs : u < 10
    · exact ⟨u, [], hs, decDigits_one hs⟩
    · obtain ⟨d, r, hd, e⟩ := ih (u / 10) (by omega)
      refine ⟨d, r ++ [UInt8.ofNat (48 + u % 10)], hd, ?_⟩
      rw [decDigits, dif_neg hs, e]
      rfl
theorem atoi_itoa {n : Int} (h0 : -9223372036854775808 ≤ n) (h1 : n ≤ 9223372036854775807) : atoiAll (itoa n) = .ok n := by
  by_cases hneg : n < 0
  · obtain ⟨u, rfl⟩ : ∃ u : Nat, n = -(u : Int) := ⟨n.natAbs, by omega⟩
    obtain ⟨d, r, hd, e⟩ := digits_head u
    have hp := parse_digits u (by omega)
    rw [itoa_neg u (by omega)]
    have hm : parseMag (decDigits u) = .ok u := by
      unfold parseMag
      rw [if_neg (by rw [e]; simp), hp]
    simp only [atoiAll]
    rw [if_pos (.inr rfl), hm]
    simp only
    rw [if_neg (by simp), if_neg (by omega)]
    rfl
  · obtain ⟨u, rfl⟩ : ∃ u : Nat, n = (u : Int) := ⟨n.toNat, by omega⟩
    obtain ⟨d, r, hd, e⟩ := digits_head u
    have hp := parse_digits u (by omega)
    rw [itoa_nonneg]
    have hm : parseMag (decDigits u) = .ok u := by
      unfold parseMag
      rw [if_neg (by rw [e]; simp), hp]
    rw [e] at hm ⊢
    have hd' := digit_nat hd
    simp only [atoiAll]
    rw [if_neg (by omega), hm]
    simp only
    rw [if_neg (by omega), if_neg (by omega), if_neg (by omega)]
theorem atoi_quote (r : List UInt8) (v : Int) : atoiAll (39 :: r) ≠ .ok v := by
  simp only [atoiAll]
  rw [if_neg (by decide)]
  unfold parseMag
  rw [if_neg (by simp)]
  simp only [parseUint10]
  rw [if_neg (by decide)]
  intro h
  cases h

/-- The cell that is written, if any is. -/
def guessC (l : List UInt8) : Cl :=
  match atoiAll l with
  | .ok v => numC v
  | _ => if 2 ≤ l.length ∧ l.head? = some 39 then txtC (str (replaceAll ((l.drop 1).take (l.length - 2)) [39, 39] [39])) else cl0
theorem guess_ok {l : List UInt8} {v : Int} (h : atoiAll l = .ok v) : guessC l = numC v := by
  unfold guessC; rw [h]
theorem guess_txt {l : List UInt8} (h : ∀ v, atoiAll l ≠ .ok v) (h2 : 2 ≤ l.length) (h3 : l.head? = some 39) : guessC l = txtC (str (replaceAll ((l.drop 1).take (l.length - 2)) [39, 39] [39])) := by
  unfold guessC
  split
  · exact absurd ‹_› (h _)
  · rw [if_pos ⟨h2, h3⟩]
theorem guess_not {l : List UInt8} (h : ∀ v, atoiAll l ≠ .ok v) (h2 : ¬ (2 ≤ l.length ∧ l.head? = some 39)) : guessC l = cl0 := by
  unfold guessC
  split
  · exact absurd ‹_› (h _)
  · rw [if_neg h2]
theorem guess_range (l : List UInt8) : okC (guessC l) := by
  unfold guessC okC
  split
  · rename_i v h
    have := atoiAll_bounds h
    simp only [numC]
    omega
  · split
    · simp [txtC]
    · simp [cl0]
theorem empty_of {s : ByteArray} (h : s.size = 0) : s = ⟨#[]⟩ := by
  apply ByteArray.ext
  exact Array.eq_empty_of_size_eq_zero h
/-- What is shown is guessed as it was. -/
theorem guess_show {c : Cl} (hm : mayC c = true) (hok : okC c) : guessC (showL c) = c := by
  obtain ⟨k, n, s⟩ := c
  rcases may_kind hm with ⟨h1, h2, h3⟩ | ⟨h1, h2⟩ | ⟨h1, h2, h3⟩
  · simp only at h1 h2 h3
    subst h1 h2
    rw [empty_of h3]
    have e : showL ⟨0, 0, ⟨#[]⟩⟩ = [110, 117, 108, 108] := rfl
    rw [e, guess_not (fun v h => by simp [atoiAll, parseMag, parseUint10] at h) (by decide)]
    rfl
  · simp only at h1 h2
    subst h1
    rw [empty_of h2]
    have e : showL ⟨1, n, ⟨#[]⟩⟩ = itoa n := by simp [showL]
    rw [e, guess_ok (atoi_itoa hok.1 hok.2)]
    rfl
  · simp only at h1 h2 h3
    subst h1 h2
    have e : showL ⟨2, 0, s⟩ = 39 :: (dbl s.data.toList ++ [39]) := by simp [showL]
    rw [e, guess_txt (atoi_quote _) (by simp) rfl]
    have e2 : ((39 :: (dbl s.data.toList ++ [39])).drop 1).take ((39 :: (dbl s.data.toList ++ [39])).length - 2) = dbl s.data.toList := by
      simp
    rw [e2, rep_back]
    have e3 : str s.data.toList = s := by
      apply ByteArray.ext
      simp [str]
    rw [e3]
    rfl
/-- The cell of what is written. -/
def readC (l : List UInt8) : Option Cl := if (mayC (guessC l) && (showL (guessC l) == l)) = true then some (guessC l) else none
theorem read_iff (l : List UInt8) (c : Cl) : readC l = some c ↔ mayC c = true ∧ okC c ∧ showL c = l := by
  constructor
  · intro h
    unfold readC at h
    split at h
    · rename_i hx
      obtain rfl := Option.some.inj h
      simp only [Bool.and_eq_true, beq_iff_eq] at hx
      exact ⟨hx.1, guess_range l, hx.2⟩
    · cases h
  · rintro ⟨h1, h2, rfl⟩
    have e := guess_show h1 h2
    unfold readC
    rw [e, h1]
    simp
theorem read_none {l : List UInt8} (h : ∀ c, mayC c = true → okC c → showL c ≠ l) : readC l = none := by
  cases hx : readC l with
  | none => rfl
  | some c =>
    obtain ⟨h1, h2, h3⟩ := (read_iff l c).1 hx
    exact absurd h3 (h c h1 h2)
/-- What Read answers. -/
def readA (l : List UInt8) : Cl × Int := match readC l with
  | some c => (c, 0)
  | none => (cl0, 20)
theorem showL_len {c : Cl} (hok : okC c) : (showL c).length ≤ 2 * c.s.size + 21 := by
  have hd : ∀ l : List UInt8, (dbl l).length ≤ 2 * l.length := by
    intro l
    induction l with
    | nil => simp [dbl]
    | cons b l ih =>
      have e : dbl (b :: l) = (if b = 39 then [39, 39] else [b]) ++ dbl l := by simp [dbl]
      rw [e, List.length_append, List.length_cons]
      split <;> simp <;> omega
  unfold showL
  split
  · simp
  · split
    · have := itoa_length_le c.n hok.1 hok.2
      omega
    · split
      · have := hd c.s.data.toList
        have h2 := Lib.size_eq c.s
        simp only [List.length_cons, List.length_append, List.length_nil]
        omega
      · simp
end Go.Proofs.YtjkkkdehmgfmeaaDoor
