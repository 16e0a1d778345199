/-
  Numbers that rise, and where a cell stands among them; the contracts of package test's around and of what it calls: slices.BinarySearchFunc and the closure.
-/
import Derived.Test.YtnnnkmgkijijdaaTMay
import Derived.Test.YtnnnkmgkijijdaaLast
namespace Go.Proofs.Ytnnnkmgkijijdaa
open Go.RowKit

/-- A slice of numbers reads as l. -/
def NumsIs (w : World) (v : Value) (l : List Int) : Prop :=
  ∃ a cap, v = .slice a l.length cap ∧ (l ≠ [] → ∃ b off, a = some ⟨b, off, none⟩ ∧ b < w.heap.size ∧ ∀ (i : Nat) (x : Int), l[i]? = some x → w.cell? ⟨b, off + i, none⟩ = some (.int .i64 x))
theorem NumsIs.below {w w' : World} {v : Value} {l : List Int} (h : NumsIs w v l) (k : Below w.heap.size w w') : NumsIs w' v l := by
  obtain ⟨a, cap, rfl, h⟩ := h
  refine ⟨a, cap, rfl, fun hr => ?_⟩
  obtain ⟨b, off, rfl, hb, hc⟩ := h hr
  exact ⟨b, off, rfl, Nat.lt_of_lt_of_le hb k.size, fun i x hi => (k.cell (p := ⟨b, off + i, none⟩) hb).trans (hc i x hi)⟩
/-- Each is greater than those ahead. -/
def Rise (l : List Int) : Prop := ∀ (i j : Nat) (x y : Int), i < j → l[i]? = some x → l[j]? = some y → x < y
theorem cmp_nums (x y : Int) : cmpC (numC x) (numC y) = cmpI x y := by
  unfold cmpC numC
  simp only [if_true]
  by_cases h : x = y
  · rw [if_pos h, (cmpS_zero _ _).2 rfl, (cmpI_zero x y).2 h]
  · rw [if_neg h]
theorem cmp_up {x y : Int} {c : Cl} (h : y ≤ x) (hx : cmpC (numC x) c < 0) : cmpC (numC y) c < 0 := by
  have h1 : cmpC (numC y) (numC x) ≤ 0 := by rw [cmp_nums]; unfold cmpI; split; omega; split; omega; omega
  have h2 := cmpC_trans _ _ _ h1 (show cmpC (numC x) c ≤ 0 by omega)
  by_cases e : cmpC (numC y) c = 0
  · have e2 := (cmpC_zero _ _).1 e
    rw [← e2] at hx
    have := cmpC_flip (numC y) (numC x)
    omega
  · omega
theorem cmp_up2 {x y : Int} {c : Cl} (h : y < x) (hy : 0 ≤ cmpC (numC y) c) : 0 < cmpC (numC x) c := by
  apply Classical.byContradiction
  intro hn
  by_cases e : cmpC (numC x) c = 0
  · have e2 := (cmpC_zero _ _).1 e
    rw [← e2, cmp_nums] at hy
    unfold cmpI at hy
    rw [if_pos h] at hy
    omega
  · have := cmp_up (c := c) (Int.le_of_lt h) (by omega)
    omega
/-- How many stand ahead of a cell, and is the next one the same? -/
def BinIs (l : List Int) (c : Cl) (k : Nat) (f : Bool) : Prop :=
  k ≤ l.length ∧ (∀ (j : Nat) (x : Int), j < k → l[j]? = some x → cmpC (numC x) c < 0) ∧ (∀ (j : Nat) (x : Int), k ≤ j → l[j]? = some x → 0 ≤ cmpC (numC x) c) ∧ (f = true ↔ ∃ x, l[k]? = some x ∧ cmpC (numC x) c = 0)
/-- How many stand ahead of a cell, and how many ahead or the same. -/
def AroundIs (l : List Int) (c : Cl) (k m : Nat) : Prop :=
  k ≤ m ∧ m ≤ l.length ∧ ∀ (j : Nat) (x : Int), l[j]? = some x → (j < k ↔ cmpC (numC x) c < 0) ∧ (j < m ↔ cmpC (numC x) c ≤ 0)
theorem around_of {l : List Int} {c : Cl} {k : Nat} {f : Bool} (hr : Rise l) (h : BinIs l c k f) : AroundIs l c k (if f = true then k + 1 else k) := by
  obtain ⟨hk, h1, h2, h3⟩ := h
  have first : ∀ (j : Nat) (x : Int), l[j]? = some x → (j < k ↔ cmpC (numC x) c < 0) := fun j x hx => by
    constructor
    · exact fun hj => h1 j x hj hx
    · intro hl
      apply Classical.byContradiction
      intro hj
      have := h2 j x (by omega) hx
      omega
  cases f with
  | true =>
    obtain ⟨y, hy, hy0⟩ := h3.1 rfl
    have hkl := (List.getElem?_eq_some_iff.1 hy).1
    rw [if_pos rfl]
    refine ⟨by omega, by omega, fun j x hx => ⟨first j x hx, ?_⟩⟩
    constructor
    · intro hj
      by_cases e : j = k
      · subst e
        rw [hx] at hy
        obtain rfl := Option.some.inj hy
        omega
      · have := h1 j x (by omega) hx
        omega
    · intro hl
      apply Classical.byContradiction
      intro hj
      have := cmp_up2 (c := c) (hr k j y x (by omega) hy hx) (by omega)
      omega
  | false =>
    rw [if_neg (by simp)]
    refine ⟨by omega, by omega, fun j x hx => ⟨first j x hx, ?_⟩⟩
    constructor
    · intro hj
      have := h1 j x hj hx
      omega
    · intro hl
      apply Classical.byContradiction
      intro hj
      have h0 := h2 j x (by omega) hx
      by_cases e : j = k
      · subst e
        have := h3.2 ⟨x, hx, by omega⟩
        cases this
      · have hjl := (List.getElem?_eq_some_iff.1 hx).1
        have hy : l[k]? = some l[k] := List.getElem?_eq_getElem (by omega)
        have := cmp_up2 (c := c) (hr k j _ x (by omega) hy hx) (h2 k _ (Nat.le_refl _) hy)
        omega

set_option maxRecDepth 4000 in
set_option maxHeartbeats 4000000 in
/-- The closure. -/
theorem around1_any (n : Int) (c : Cl) (w : World) :
    Calls Try.prog 39 #[.int .i64 n, cv c] w fun e w' => e = .returned (.int .i64 (cmpC (numC n) c)) ∧ Below w.heap.size w w' := by
  have k1 : ∀ w, _ := fun w => tnumber_any n w
  have k2 : ∀ w, _ := fun w => compare_any (numC n) c w
  obtain ⟨x, hx⟩ : ∃ x, x = cmpC (numC n) c := ⟨_, rfl⟩
  rw [← hx] at k2 ⊢
  clear hx
  obtain ⟨ck, cn, cs⟩ := c
  obtain ⟨q0, q1, q2⟩ := above_ca (w := w) (t := 23) (x := ck) (y := cn) (s := cs)
  go_enter Try.func39, Try.ntmps39
  go_wp2_with fail
  refine wp_region_above (by kernel_rfl) (by kernel_rfl) ?_
  intro hne
  repeat (go_big_quiet_step (first
    | (go_at_call 40; exact above_of (k1 _))
    | (go_at_call 31; exact above_of (k2 _))))
  refine wpQuiet_nil ?_
  rintro _ ⟨kq, rfl⟩
  have hbq := kq.is
  go_wp2_with fail
  go_ret
  exact ⟨rfl, (below1 _ _).trans (hbq.mono (by simp))⟩
end Go.Proofs.Ytnnnkmgkijijdaa
