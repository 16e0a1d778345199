/-
  slices.Clone, Sort and Compact of ints, in the words of what a call owns; the spans of numbers that rise, one number behind the other.
-/
import Derived.Test.YteijhnfciiblmaaSMem
import Derived.Test.YteijhnfciiblmaaShelf
import Derived.Sort.OwnSortedInts
namespace Go.Proofs.Yteijhnfciiblmaa
open Go.RowKit Go.Sort

theorem zv_eq (l : List Int) : zv l = l.map (Value.int .i64) := rfl
def sortZ (l : List Int) : List Int := l.mergeSort fun x y => decide (x ≤ y)
theorem sort_len (l : List Int) : (sortZ l).length = l.length := List.length_mergeSort _
theorem sort_mem {l : List Int} {x : Int} : x ∈ sortZ l ↔ x ∈ l := List.mem_mergeSort
theorem sort_le (l : List Int) : (sortZ l).Pairwise fun x y => x ≤ y := by
  have h := List.pairwise_mergeSort (le := fun x y : Int => decide (x ≤ y)) (fun a b c h1 h2 => by simp at h1 h2 ⊢; omega) (fun a b => by simp; omega) l
  exact h.imp fun h => by simpa using h

theorem clone_any {w : World} {v : Value} {l : List Int} (h : ReadsZ w v l) (hl : l.length ≤ 1000000) :
    Calls Try.prog 40 #[v] w fun e w' => (∃ v', e = .returned v' ∧ OwnsZ w' w.heap.size v' l) ∧ Below w.heap.size w w' := by
  obtain ⟨a, n, cap, rfl, hn, hcap⟩ := h.slice
  rcases Nat.eq_zero_or_pos n with h0 | hp
  · subst h0
    have hl0 : l = [] := List.eq_nil_of_length_eq_zero hn
    subst hl0
    cases a with
    | none => exact (Any.slices_Clone_int_nil Try.laysNm215 0 cap w).mono fun e w' ⟨h1, h2⟩ => ⟨⟨_, h1, ownsZ_nil _ _⟩, h2 ▸ Below.refl _ _⟩
    | some a => exact (Any.slices_Clone_int_zero Try.laysNm215 a cap w).mono fun e w' ⟨v', h1, h2, _, h3⟩ => ⟨⟨v', h1, h2⟩, h3⟩
  · obtain ⟨b, off, rfl, hbw, hc⟩ := h.some (by rintro rfl; simp at hn; omega)
    refine (Any.slices_Clone_int Try.laysNm215 b off n cap l w (by omega) (by omega) (fun j hj => ?_)).mono fun e w' ⟨v', h1, h2, _, h3⟩ => ⟨⟨v', h1, ?_⟩, h3⟩
    · rw [hc j _ (List.getElem?_eq_getElem hj)]
      simp [hj]
    · rw [List.take_of_length_le (by omega)] at h2
      unfold OwnsZ
      rw [hn]
      exact h2
theorem sort_any {w : World} {B : Nat} {v : Value} {l : List Int} (h : OwnsZ w B v l) (hl : l.length ≤ 1000000) (hB : B ≤ w.heap.size) :
    Calls Try.prog 41 #[v] w fun e w' => e = .returned (.tuple #[]) ∧ OwnsZ w' B v (sortZ l) ∧ Below B w w' := by
  rcases h.2 with ⟨rfl, h0⟩ | ⟨g, cap, cur, rfl, hbg, hg, h1, h2, h3, h4⟩
  · have hl0 : l = [] := List.eq_nil_of_length_eq_zero h0
    subst hl0
    exact (Any.slices_Sort_int_none Try.lays189 none 0 w).mono fun e w' ⟨e1, e2⟩ => ⟨e1, by rw [e2]; exact ⟨by rw [show sortZ [] = [] by simp [sortZ]]; exact h, Below.refl _ _⟩⟩
  · have hlt := (Array.getElem?_eq_some_iff.1 hg).1
    have hH := holds_of_blockI (ss := l) hg (by rw [Nat.mul_one] at h4; exact h4)
    refine (Any.slices_Sort_int Try.lays189 g 0 cap l w hH hlt (by omega)).mono ?_
    rintro e w' ⟨e1, n, os, rfl⟩
    refine ⟨e1, ?_, (Below.refl B w).grown (grownBy_sortedI _) hB (fun k hk => by cases hk; exact hbg)⟩
    have := ownsRow_sortedI (n := n) (os := os) (ss := l) (ts := sortZ l) (sort_len l) hbg hg h1 h2 h3
    unfold OwnsZ
    rw [sort_len]
    exact this
theorem grownBy_putRow {w : World} {g n : Nat} (d : Array Int) : w.grownBy (putRow (Value.int .i64) (Sort.ahead w n) g 0 d) (some g) := by
  refine ⟨rfl, rfl, rfl, by simp, fun k hk hne => ?_⟩
  have : g ≠ k := fun e => hne (by rw [e])
  simp [putRow, mapBlock, Sort.ahead, Array.getElem?_modify, this]
theorem compact_le (l : List Int) : (Lib.compact l).length ≤ l.length := by
  unfold Lib.compact Lib.compactUpTo
  rw [List.length_map]
  exact Nat.le_trans (List.length_filter_le _ _) (by simp)
theorem compact_any {w : World} {B : Nat} {v : Value} {l : List Int} (h : OwnsZ w B v l) (hl : l.length ≤ 1000000) (hB : B ≤ w.heap.size) :
    Calls Try.prog 42 #[v] w fun e w' => (∃ v', e = .returned v' ∧ ReadsZ w' v' (Lib.compact l)) ∧ Below B w w' := by
  rcases h.2 with ⟨rfl, h0⟩ | ⟨g, cap, cur, rfl, hbg, hg, h1, h2, h3, h4⟩
  · have hl0 : l = [] := List.eq_nil_of_length_eq_zero h0
    subst hl0
    exact (Any.slices_Compact_int_empty Try.laysNm220 none 0 w).mono fun e w' ⟨e1, e2⟩ => ⟨⟨_, e1, by rw [e2]; exact readsZ_nil w⟩, e2 ▸ Below.refl _ _⟩
  · have hlt := (Array.getElem?_eq_some_iff.1 hg).1
    have hH := holds_of_blockI (ss := l) hg (by rw [Nat.mul_one] at h4; exact h4)
    refine (Any.slices_Compact_int Try.laysNm220 g 0 cap l w hH (by omega) h1).mono ?_
    rintro e w' ⟨e1, n, rfl⟩
    have hcl := compact_le l
    refine ⟨⟨_, e1, some ⟨g, 0, none⟩, cap, rfl, by omega, fun _ => ⟨g, 0, rfl, by simpa using hlt, fun i x hi => ?_⟩⟩, (Below.refl B w).grown (grownBy_putRow _) hB (fun k hk => by cases hk; exact hbg)⟩
    have hil := (List.getElem?_eq_some_iff.1 hi).1
    have hc := cell?_putRow (Value.int .i64) (Sort.ahead w n) g 0 l.toArray (Lib.compact l ++ List.replicate (l.length - (Lib.compact l).length) 0).toArray hH (by simp; omega) i (by simp; omega)
    rw [hc]
    congr 2
    rw [getElem!_pos _ _ (by simp; omega)]
    rw [List.getElem_toArray, List.getElem_append_left hil]
    have := (List.getElem?_eq_some_iff.1 hi).2
    exact this
/-- Numbers that rise. -/
def Rise (c : List Int) : Prop := c.Pairwise fun x y => x < y
theorem compact_rise {l : List Int} (h : l.Pairwise fun x y => x ≤ y) : Rise (Lib.compact l) := by
  unfold Rise Lib.compact Lib.compactUpTo
  rw [List.pairwise_map]
  have hr : ((List.range l.length).filter (Lib.keeps l.toArray)).Pairwise (· < ·) := List.pairwise_lt_range.filter _
  refine (List.Pairwise.and_mem.1 hr).imp ?_
  rintro i j ⟨hi, hj, hij⟩
  rw [List.mem_filter, List.mem_range] at hi hj
  have hk : j = 0 ∨ l.toArray[j]! ≠ l.toArray[j - 1]! := by simpa [Lib.keeps] using hj.2
  have hne : l.toArray[j]! ≠ l.toArray[j - 1]! := hk.resolve_left (by omega)
  have hle : ∀ a b, a ≤ b → (hb : b < l.length) → l.toArray[a]! ≤ l.toArray[b]! := fun a b hab hb => by
    rcases Nat.lt_or_eq_of_le hab with e | e
    · have := List.pairwise_iff_getElem.1 h a b (by omega) hb e
      rw [getElem!_pos _ a (by simp; omega), getElem!_pos _ b (by simpa using hb)]
      simpa using this
    · rw [e]; exact Int.le_refl _
  have h1 := hle i (j - 1) (by omega) (by omega)
  have h2 := hle (j - 1) j (by omega) hj.1
  omega
theorem compact_mem {l : List Int} {x : Int} : x ∈ Lib.compact l ↔ x ∈ l := by
  unfold Lib.compact Lib.compactUpTo
  rw [List.mem_map]
  constructor
  · rintro ⟨j, hj, rfl⟩
    rw [List.mem_filter, List.mem_range] at hj
    rw [getElem!_pos _ j (by simpa using hj.1)]
    simp
  · intro hx
    obtain ⟨k, hk, e⟩ := List.getElem_of_mem hx
    have key : ∀ k : Nat, k < l.length → ∃ j, j ∈ (List.range l.length).filter (Lib.keeps l.toArray) ∧ l.toArray[j]! = l.toArray[k]! := by
      intro k
      induction k with
      | zero => intro hk; exact ⟨0, by rw [List.mem_filter, List.mem_range]; exact ⟨hk, by simp [Lib.keeps]⟩, rfl⟩
      | succ k ih =>
        intro hk
        by_cases e : l.toArray[k + 1]! = l.toArray[k]!
        · obtain ⟨j, h1, h2⟩ := ih (by omega)
          exact ⟨j, h1, by rw [h2, e]⟩
        · exact ⟨k + 1, by rw [List.mem_filter, List.mem_range]; exact ⟨hk, Lib.keeps_pos (by simpa using e)⟩, rfl⟩
    obtain ⟨j, h1, h2⟩ := key k hk
    refine ⟨j, h1, ?_⟩
    rw [h2, getElem!_pos _ k (by simpa using hk)]
    simpa using e
/-- The spans of the first k of numbers that rise. -/
structure OfP (c : List Int) (k : Nat) (R : List Sn) : Prop where
  may : mayS R = true
  iff : ∀ x, InS R x ↔ x ∈ c.take k
  low : ∀ y, c[k]? = some y → endS R ≤ y
section
variable {c : List Int} {k : Nat} {R : List Sn} {y : Int}
theorem rise_next (h : Rise c) (hy : c[k]? = some y) {z : Int} (hz : c[k + 1]? = some z) : y + 1 ≤ z := by
  have h1 := (List.getElem?_eq_some_iff.1 hz).1
  have e1 := (List.getElem?_eq_some_iff.1 hz).2
  have e2 := (List.getElem?_eq_some_iff.1 hy).2
  have := List.pairwise_iff_getElem.1 h k (k + 1) (by omega) h1 (by omega)
  omega
theorem ofP_start (hr : ∀ x ∈ c, 0 ≤ x ∧ x < 65536) : OfP c 0 [] := ⟨rfl, fun x => by simp [in_nil], fun y hy => by have := hr y (List.mem_of_getElem? hy); show (-1 : Int) ≤ y; omega⟩
theorem ofP_on (hc : Rise c) (hr : ∀ x ∈ c, 0 ≤ x ∧ x < 65536) {p : List Sn} {s : Sn} (h : OfP c k (p ++ [s])) (hy : c[k]? = some y) (hs : s.hi = y) : OfP c (k + 1) (p ++ [⟨s.lo, s.hi + 1⟩]) := by
  obtain ⟨h1, h2, h3, h4⟩ := may_snoc.1 h.may
  have hb := hr y (List.mem_of_getElem? hy)
  refine ⟨may_snoc.2 ⟨h1, h2, by simp only; omega, by simp only; omega⟩, fun x => ?_, fun z hz => ?_⟩
  · rw [take_succ_of hy, List.mem_append, List.mem_singleton, ← h.iff x, in_append, in_append, in_one, in_one]
    simp only
    constructor
    · rintro (hx | hx)
      · exact .inl (.inl hx)
      · by_cases e : x = y
        · exact .inr e
        · exact .inl (.inr ⟨hx.1, by omega⟩)
    · rintro ((hx | hx) | hx)
      · exact .inl hx
      · exact .inr ⟨hx.1, by omega⟩
      · exact .inr ⟨by omega, by omega⟩
  · rw [end_snoc]
    have := rise_next hc hy hz
    simp only
    omega
theorem ofP_new (hc : Rise c) (hr : ∀ x ∈ c, 0 ≤ x ∧ x < 65536) (h : OfP c k R) (hy : c[k]? = some y) (hs : endS R ≠ y) : OfP c (k + 1) (R ++ [⟨y, y + 1⟩]) := by
  have hb := hr y (List.mem_of_getElem? hy)
  have hl := h.low y hy
  refine ⟨may_snoc.2 ⟨h.may, by simp only; omega, by simp only; omega, by simp only; omega⟩, fun x => ?_, fun z hz => ?_⟩
  · rw [take_succ_of hy, List.mem_append, List.mem_singleton, ← h.iff x, in_append, in_one]
    simp only
    constructor
    · rintro (hx | hx)
      · exact .inl hx
      · exact .inr (by omega)
    · rintro (hx | hx)
      · exact .inl hx
      · exact .inr ⟨by omega, by omega⟩
  · rw [end_snoc]
    exact rise_next hc hy hz
theorem ofP_end (h : OfP c c.length R) : IsSet R (fun x => x ∈ c) := ⟨h.may, fun x => by rw [h.iff, List.take_length]⟩
end
end Go.Proofs.Yteijhnfciiblmaa
