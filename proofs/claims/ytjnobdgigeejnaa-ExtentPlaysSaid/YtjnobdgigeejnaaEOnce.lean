/-
  Counting free blocks; what the law ExtentOnce keeps: which blocks are taken, and which extents were told. No program is spoken of.
-/
import Derived.Test.YtjnobdgigeejnaaETake
import Derived.Test.YtjnobdgigeejnaaEAwake
namespace Go.Proofs.Ytjnobdgigeejnaa

/-- How many below n. -/
def cnt (p : Nat → Bool) : Nat → Nat
  | 0 => 0
  | n + 1 => cnt p n + (if p n then 1 else 0)
theorem cnt_congr {p q : Nat → Bool} : ∀ (n : Nat), (∀ b, b < n → p b = q b) → cnt p n = cnt q n
  | 0, _ => rfl
  | n + 1, h => by rw [cnt, cnt, cnt_congr n (fun b hb => h b (by omega)), h n (by omega)]
theorem cnt_or {p q : Nat → Bool} (h : ∀ b, p b = true → q b = false) : ∀ n, cnt (fun b => p b || q b) n = cnt p n + cnt q n
  | 0 => rfl
  | n + 1 => by
    rw [cnt, cnt, cnt, cnt_or h n]
    cases hp : p n
    · simp; omega
    · simp [h n hp]; omega
theorem cnt_iv (a c : Nat) : ∀ n, cnt (fun b => decide (a ≤ b) && decide (b < a + c)) n = min n (a + c) - min n a
  | 0 => by simp [cnt]
  | n + 1 => by
    rw [cnt, cnt_iv a c n]
    by_cases h1 : a ≤ n
    · by_cases h2 : n < a + c
      · simp [h1, h2]; omega
      · simp [h1, h2]; omega
    · simp [h1]; omega
theorem cnt_le (p : Nat → Bool) : ∀ n, cnt p n ≤ n
  | 0 => Nat.le_refl _
  | n + 1 => by
    have := cnt_le p n
    rw [cnt]
    split <;> omega
def freeB (hs : List (Nat × Nat)) (b : Nat) : Bool := hs.any fun h => decide (h.1 ≤ b) && decide (b < h.1 + h.2)
theorem freeB_iff (hs : List (Nat × Nat)) (b : Nat) : freeB hs b = true ↔ FreeAt hs b := by
  unfold freeB FreeAt
  simp
theorem cnt_holes : ∀ (hs : List (Nat × Nat)) (lo n : Nat), Nice lo hs → Within n hs → cnt (freeB hs) n = sumH hs
  | [], _, n, _, _ => by
    have : ∀ m, cnt (freeB []) m = 0 := by
      intro m
      induction m with
      | zero => rfl
      | succ m ih => rw [cnt, ih]; simp [freeB]
    rw [this]
    rfl
  | h :: t, lo, n, ⟨h1, h2, h3⟩, hw => by
    have e : freeB (h :: t) = fun b => (decide (h.1 ≤ b) && decide (b < h.1 + h.2)) || freeB t b := by
      funext b
      simp [freeB]
    rw [e, cnt_or, cnt_iv, cnt_holes t _ n h3 (fun x hx => hw x (by simp [hx])), sum_cons]
    · have := hw h (by simp)
      omega
    · intro b hb
      simp only [Bool.and_eq_true, decide_eq_true_eq] at hb
      cases hf : freeB t b with
      | false => rfl
      | true =>
        have := h3.ge ((freeB_iff t b).1 hf)
        omega
theorem cnt_taken {hs : List (Nat × Nat)} {n : Nat} {tk : Nat → Bool} (hn : Nice 0 hs) (hw : Within n hs) (h : ∀ b, b < n → (tk b = false ↔ FreeAt hs b)) : cnt (fun b => !tk b) n = sumH hs := by
  rw [← cnt_holes hs 0 n hn hw]
  refine cnt_congr n fun b hb => ?_
  have h1 := h b hb
  have h2 := freeB_iff hs b
  cases ht : tk b <;> cases hf : freeB hs b <;> simp [ht, hf] at h1 h2 ⊢
  · exact h2 h1
  · exact h1 h2

/-- What is taken, what was told. -/
structure Once (hs told : List (Nat × Nat)) (tk : Nat → Bool) : Prop where
  free : ∀ b, b < 64 → (tk b = false ↔ FreeAt hs b)
  each : ∀ e ∈ told, 1 ≤ e.2 ∧ e.1 + e.2 ≤ 64 ∧ ∀ b, e.1 ≤ b → b < e.1 + e.2 → ¬ FreeAt hs b
  apart : told.Pairwise fun e f => e.1 + e.2 ≤ f.1 ∨ f.1 + f.2 ≤ e.1
theorem once_start : Once [(0, 64)] [] (fun _ => false) where
  free := fun b hb => by simp [free_cons, free_nil]; omega
  each := by simp
  apart := List.Pairwise.nil
/-- tk with the blocks of an extent taken, or not. -/
def setTo (tk : Nat → Bool) (a c : Nat) (v : Bool) : Nat → Bool := fun b => if a ≤ b ∧ b < a + c then v else tk b
theorem setTo_zero (tk : Nat → Bool) (a : Nat) (v : Bool) : setTo tk a 0 v = tk := by
  funext b
  unfold setTo
  rw [if_neg (by omega)]
theorem setTo_step (tk : Nat → Bool) (a j : Nat) (v : Bool) : (fun i => if i = a + j then v else setTo tk a j v i) = setTo tk a (j + 1) v := by
  funext b
  unfold setTo
  by_cases h1 : b = a + j
  · rw [if_pos h1, if_pos (by omega)]
  · rw [if_neg h1]
    by_cases h2 : a ≤ b ∧ b < a + j
    · rw [if_pos h2, if_pos (by omega)]
    · rw [if_neg h2, if_neg (by omega)]
theorem once_free {hs hs' told : List (Nat × Nat)} {tk : Nat → Bool} {k : Nat} {x : Nat × Nat} (O : Once hs told tk) (hx : told[k]? = some x) (hF : Filled hs hs' 64 x.1 x.2) : Once hs' (told.take k ++ told.drop (k + 1)) (setTo tk x.1 x.2 false) := by
  have hsp := split_at hx
  have hap := O.apart
  rw [hsp] at hap
  rw [List.pairwise_append, List.pairwise_cons] at hap
  obtain ⟨p1, ⟨p2, p3⟩, p4⟩ := hap
  have hdis : ∀ e ∈ told.take k ++ told.drop (k + 1), e.1 + e.2 ≤ x.1 ∨ x.1 + x.2 ≤ e.1 := by
    intro e he
    rcases List.mem_append.1 he with he | he
    · exact p4 e he x (by simp)
    · exact (p2 e he).symm
  have hmem : ∀ e ∈ told.take k ++ told.drop (k + 1), e ∈ told := by
    intro e he
    rcases List.mem_append.1 he with he | he
    · exact List.mem_of_mem_take he
    · exact List.mem_of_mem_drop he
  refine ⟨fun b hb => ?_, fun e he => ?_, ?_⟩
  · rw [hF.2.2 b, ← O.free b hb]
    unfold setTo
    by_cases hb' : x.1 ≤ b ∧ b < x.1 + x.2
    · rw [if_pos hb']; exact ⟨fun _ => .inr hb', fun _ => rfl⟩
    · rw [if_neg hb']; exact ⟨.inl, fun h => h.resolve_right hb'⟩
  · obtain ⟨h1, h2, h3⟩ := O.each e (hmem e he)
    refine ⟨h1, h2, fun b hb1 hb2 hf => ?_⟩
    rcases (hF.2.2 b).1 hf with hf | hf
    · exact h3 b hb1 hb2 hf
    · have := hdis e he
      omega
  · rw [List.pairwise_append]
    exact ⟨p1, p3, fun e he f hf => p4 e he f (by simp [hf])⟩
theorem once_none {hs told : List (Nat × Nat)} {tk : Nat → Bool} {k : Nat} {x : Nat × Nat} (O : Once hs told tk) (hx : told[k]? = some x) : NoneFree hs x.1 x.2 := (O.each x (List.mem_of_getElem? hx)).2.2
theorem once_alloc {hs hs' told : List (Nat × Nat)} {tk : Nat → Bool} {c : Int} {k d : Nat} {x : Nat × Nat} (O : Once hs told tk) (hw : Within 64 hs) (hf : FirstFit hs c k x) (hc : c = d) (hd : 1 ≤ d) (hC : Cut hs hs' 64 x.1 d) : Once hs' (told ++ [(x.1, d)]) (setTo tk x.1 d true) := by
  have hxm := List.mem_of_getElem? hf.1
  have hx := hf.2.1
  have hxw := hw x hxm
  refine ⟨fun b hb => ?_, fun e he => ?_, ?_⟩
  · rw [hC.2.2 b, ← O.free b hb]
    unfold setTo
    by_cases hb' : x.1 ≤ b ∧ b < x.1 + d
    · rw [if_pos hb']; exact ⟨fun h => (by cases h), fun h => absurd hb' h.2⟩
    · rw [if_neg hb']; exact ⟨fun h => ⟨h, hb'⟩, fun h => h.1⟩
  · rcases List.mem_append.1 he with he | he
    · obtain ⟨h1, h2, h3⟩ := O.each e he
      exact ⟨h1, h2, fun b hb1 hb2 hfr => h3 b hb1 hb2 ((hC.2.2 b).1 hfr).1⟩
    · simp at he
      subst he
      exact ⟨hd, by simp only; omega, fun b hb1 hb2 hfr => ((hC.2.2 b).1 hfr).2 ⟨hb1, hb2⟩⟩
  · rw [List.pairwise_append]
    refine ⟨O.apart, by simp, fun e he f hf' => ?_⟩
    simp at hf'
    subst hf'
    obtain ⟨h1, h2, h3⟩ := O.each e he
    simp only
    by_cases hov : e.1 + e.2 ≤ x.1 ∨ x.1 + d ≤ e.1
    · exact hov
    · exact absurd ⟨x, hxm, by omega, by omega⟩ (h3 (max e.1 x.1) (by omega) (by omega))
theorem once_open {hs told : List (Nat × Nat)} {tk : Nat → Bool} {c : Int} {k d : Nat} {x : Nat × Nat} (O : Once hs told tk) (hw : Within 64 hs) (hf : FirstFit hs c k x) (hc : c = d) (j : Nat) (hj : j < d) : tk (x.1 + j) = false := by
  have hxm := List.mem_of_getElem? hf.1
  have hx := hf.2.1
  have hxw := hw x hxm
  exact (O.free _ (by omega)).2 ⟨x, hxm, by omega, by omega⟩
theorem fit_max {hs : List (Nat × Nat)} {c : Int} {k : Nat} {x : Nat × Nat} (hf : FirstFit hs c k x) : c ≤ (maxH hs : Int) := by
  have := max_ge hs x (List.mem_of_getElem? hf.1)
  have := hf.2.1
  omega
theorem nofit_max {hs : List (Nat × Nat)} {c : Int} (hc : 1 ≤ c) (hf : NoFit hs c) : ¬ c ≤ (maxH hs : Int) := by
  rcases max_mem hs with h | ⟨h, hm, he⟩
  · omega
  · have := hf h hm
    omega
end Go.Proofs.Ytjnobdgigeejnaa
