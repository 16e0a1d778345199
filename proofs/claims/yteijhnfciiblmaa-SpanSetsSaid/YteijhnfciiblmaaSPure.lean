/-
  Spans of places: which may be, which places they have; that a set has one kind of spans; their places in order, how many are below one. No program is spoken of.
-/
import Derived.Test.YteijhnfciiblmaaRows
namespace Go.Proofs.Yteijhnfciiblmaa

structure Sn where
  lo : Int
  hi : Int
/-- Spans may stand behind b. -/
def mayF (b : Int) : List Sn → Bool
  | [] => true
  | s :: r => decide (b < s.lo ∧ s.lo < s.hi ∧ s.hi ≤ 65536) && mayF s.hi r
def endF (b : Int) : List Sn → Int
  | [] => b
  | s :: r => endF s.hi r
/-- Spans may be. -/
def mayS (l : List Sn) : Bool := mayF (-1) l
def endS (l : List Sn) : Int := endF (-1) l
/-- x is one of their places. -/
def InS (l : List Sn) (x : Int) : Prop := ∃ s ∈ l, s.lo ≤ x ∧ x < s.hi
theorem mayF_cons {b : Int} {s : Sn} {r : List Sn} : mayF b (s :: r) = true ↔ (b < s.lo ∧ s.lo < s.hi ∧ s.hi ≤ 65536) ∧ mayF s.hi r = true := by
  simp [mayF]
theorem mayF_append {b : Int} : ∀ {p q : List Sn}, mayF b (p ++ q) = (mayF b p && mayF (endF b p) q)
  | [], q => by simp [mayF, endF]
  | s :: p, q => by simp only [List.cons_append, mayF, endF, mayF_append (p := p), Bool.and_assoc]
theorem endF_append {b : Int} : ∀ {p q : List Sn}, endF b (p ++ q) = endF (endF b p) q
  | [], q => rfl
  | s :: p, q => by simp only [List.cons_append, endF, endF_append (p := p)]
theorem end_snoc (p : List Sn) (s : Sn) : endS (p ++ [s]) = s.hi := by rw [endS, endF_append]; rfl
theorem may_snoc {p : List Sn} {s : Sn} : mayS (p ++ [s]) = true ↔ mayS p = true ∧ endS p < s.lo ∧ s.lo < s.hi ∧ s.hi ≤ 65536 := by
  rw [mayS, mayF_append]; simp [mayF, mayS, endS]
theorem may_append_left {p q : List Sn} (h : mayS (p ++ q) = true) : mayS p = true := by
  rw [mayS, mayF_append] at h; simp at h; exact h.1
theorem may_take {l : List Sn} (h : mayS l = true) (k : Nat) : mayS (l.take k) = true := by
  rw [← List.take_append_drop k l] at h; exact may_append_left h
theorem take_succ_of {α : Type} {l : List α} {k : Nat} {r : α} (h : l[k]? = some r) : l.take (k + 1) = l.take k ++ [r] := by
  rw [List.take_add_one, h]; rfl
theorem may_at {l : List Sn} (h : mayS l = true) {k : Nat} {s : Sn} (hs : l[k]? = some s) : endS (l.take k) < s.lo ∧ s.lo < s.hi ∧ s.hi ≤ 65536 := by
  have := may_take h (k + 1)
  rw [take_succ_of hs] at this
  exact (may_snoc.1 this).2
theorem endF_le {b : Int} : ∀ {l : List Sn}, mayF b l = true → b + l.length ≤ endF b l
  | [], _ => by simp [endF]
  | s :: r, h => by
    obtain ⟨⟨h1, h2, h3⟩, h4⟩ := mayF_cons.1 h
    have := endF_le h4
    simp only [endF, List.length_cons]
    omega
theorem endF_max {b : Int} : ∀ {l : List Sn}, mayF b l = true → b ≤ 65536 → endF b l ≤ 65536
  | [], _, h => h
  | s :: r, h, _ => by
    obtain ⟨⟨h1, h2, h3⟩, h4⟩ := mayF_cons.1 h
    rw [endF]
    exact endF_max h4 h3
theorem end_bd {l : List Sn} (h : mayS l = true) : -1 ≤ endS l ∧ endS l ≤ 65536 := by
  have h1 := endF_le h
  have h2 := endF_max h (by omega)
  exact ⟨by unfold endS; omega, h2⟩
theorem may_len {l : List Sn} (h : mayS l = true) : l.length ≤ 65537 := by
  have h1 := endF_le h
  have h2 := endF_max h (by omega)
  omega
theorem in_nil (x : Int) : ¬ InS [] x := by simp [InS]
theorem in_cons {s : Sn} {r : List Sn} {x : Int} : InS (s :: r) x ↔ (s.lo ≤ x ∧ x < s.hi) ∨ InS r x := by simp [InS]
theorem in_append {p q : List Sn} {x : Int} : InS (p ++ q) x ↔ InS p x ∨ InS q x := by
  simp only [InS, List.mem_append]
  constructor
  · rintro ⟨s, h | h, k⟩
    · exact .inl ⟨s, h, k⟩
    · exact .inr ⟨s, h, k⟩
  · rintro (⟨s, h, k⟩ | ⟨s, h, k⟩)
    · exact ⟨s, .inl h, k⟩
    · exact ⟨s, .inr h, k⟩
theorem in_one {s : Sn} {x : Int} : InS [s] x ↔ s.lo ≤ x ∧ x < s.hi := by simp [InS]
theorem in_bd {b : Int} : ∀ {l : List Sn}, mayF b l = true → ∀ {x : Int}, InS l x → b < x ∧ x < endF b l ∧ x < 65536
  | [], _, x, h => absurd h (in_nil x)
  | s :: r, h, x, hx => by
    obtain ⟨⟨h1, h2, h3⟩, h4⟩ := mayF_cons.1 h
    simp only [endF]
    rcases in_cons.1 hx with hx | hx
    · have := endF_le h4
      omega
    · have := in_bd h4 hx
      omega
theorem in_may {l : List Sn} (h : mayS l = true) {x : Int} (hx : InS l x) : 0 ≤ x ∧ x < endS l ∧ x < 65536 := by
  have := in_bd h hx
  exact ⟨by omega, this.2.1, this.2.2⟩
theorem uniqueF {b : Int} : ∀ {l m : List Sn}, mayF b l = true → mayF b m = true → (∀ x, InS l x ↔ InS m x) → l = m
  | [], [], _, _, _ => rfl
  | [], t :: m, _, hm, h => by
    obtain ⟨⟨h1, h2, h3⟩, h4⟩ := mayF_cons.1 hm
    exact absurd ((h t.lo).2 (in_cons.2 (.inl ⟨Int.le_refl _, h2⟩))) (in_nil _)
  | s :: l, [], hl, _, h => by
    obtain ⟨⟨h1, h2, h3⟩, h4⟩ := mayF_cons.1 hl
    exact absurd ((h s.lo).1 (in_cons.2 (.inl ⟨Int.le_refl _, h2⟩))) (in_nil _)
  | s :: l, t :: m, hl, hm, h => by
    obtain ⟨⟨h1, h2, h3⟩, h4⟩ := mayF_cons.1 hl
    obtain ⟨⟨k1, k2, k3⟩, k4⟩ := mayF_cons.1 hm
    have e1 : t.lo ≤ s.lo := by
      rcases in_cons.1 ((h s.lo).1 (in_cons.2 (.inl ⟨Int.le_refl _, h2⟩))) with hx | hx
      · exact hx.1
      · have := in_bd k4 hx; omega
    have e2 : s.lo ≤ t.lo := by
      rcases in_cons.1 ((h t.lo).2 (in_cons.2 (.inl ⟨Int.le_refl _, k2⟩))) with hx | hx
      · exact hx.1
      · have := in_bd h4 hx; omega
    have e3 : t.hi ≤ s.hi := by
      apply Int.not_lt.1
      intro hlt
      rcases in_cons.1 ((h s.hi).2 (in_cons.2 (.inl ⟨by omega, hlt⟩))) with hx | hx
      · omega
      · have := in_bd h4 hx; omega
    have e4 : s.hi ≤ t.hi := by
      apply Int.not_lt.1
      intro hlt
      rcases in_cons.1 ((h t.hi).1 (in_cons.2 (.inl ⟨by omega, hlt⟩))) with hx | hx
      · omega
      · have := in_bd k4 hx; omega
    have el : s.lo = t.lo := by omega
    have eh : s.hi = t.hi := by omega
    obtain ⟨a, c⟩ := s
    obtain ⟨a', c'⟩ := t
    simp only at el eh
    subst el eh
    congr 1
    refine uniqueF h4 k4 fun x => ⟨fun hx => ?_, fun hx => ?_⟩
    · have hb := in_bd h4 hx
      rcases in_cons.1 ((h x).1 (in_cons.2 (.inr hx))) with hy | hy
      · simp only at hy hb; omega
      · exact hy
    · have hb := in_bd k4 hx
      rcases in_cons.1 ((h x).2 (in_cons.2 (.inr hx))) with hy | hy
      · simp only at hy hb; omega
      · exact hy
/-- R are the spans that may be of the set P. -/
structure IsSet (R : List Sn) (P : Int → Prop) : Prop where
  may : mayS R = true
  iff : ∀ x, InS R x ↔ P x
theorem IsSet.unique {R R' : List Sn} {P P' : Int → Prop} (h : IsSet R P) (h' : IsSet R' P') (e : ∀ x, P x ↔ P' x) : R = R' :=
  uniqueF h.may h'.may fun x => (h.iff x).trans ((e x).trans (h'.iff x).symm)
theorem isSet_self {l : List Sn} (h : mayS l = true) : IsSet l (InS l) := ⟨h, fun _ => Iff.rfl⟩

/-- n numbers from a on. -/
def rng (a : Int) : Nat → List Int
  | 0 => []
  | n + 1 => a :: rng (a + 1) n
theorem rng_len (n : Nat) : ∀ a : Int, (rng a n).length = n := by
  induction n with
  | zero => intro a; rfl
  | succ n ih => intro a; simp [rng, ih]
theorem rng_at (n : Nat) : ∀ (a : Int) (i : Nat), i < n → (rng a n)[i]? = some (a + i) := by
  induction n with
  | zero => intro a i h; omega
  | succ n ih =>
    intro a i h
    cases i with
    | zero => simp [rng]
    | succ i => rw [rng, List.getElem?_cons_succ, ih (a + 1) i (by omega)]; congr 1; omega
theorem rng_snoc (a : Int) (n : Nat) : rng a (n + 1) = rng a n ++ [a + n] := by
  apply List.ext_getElem?
  intro i
  by_cases h : i < n
  · rw [rng_at _ _ _ (by omega), List.getElem?_append_left (by rw [rng_len]; exact h), rng_at _ _ _ h]
  · by_cases e : i = n
    · subst e
      rw [rng_at _ _ _ (by omega), List.getElem?_append_right (by rw [rng_len]; exact Nat.le_refl _), rng_len]; simp
    · rw [List.getElem?_eq_none (by rw [rng_len]; omega), List.getElem?_eq_none (by rw [List.length_append, rng_len, List.length_singleton]; omega)]
/-- The places of spans, rising. -/
def pl : List Sn → List Int
  | [] => []
  | s :: r => rng s.lo (s.hi - s.lo).toNat ++ pl r
theorem pl_append : ∀ (p q : List Sn), pl (p ++ q) = pl p ++ pl q
  | [], q => rfl
  | s :: p, q => by simp [pl, pl_append p q]
theorem pl_snoc (p : List Sn) (s : Sn) : pl (p ++ [s]) = pl p ++ rng s.lo (s.hi - s.lo).toNat := by rw [pl_append]; simp [pl]
/-- There are n of p ahead of those that are not below x. -/
structure IsRank (p : List Int) (x : Int) (n : Nat) : Prop where
  le : n ≤ p.length
  low : ∀ (i : Nat) (y : Int), i < n → p[i]? = some y → y < x
  high : ∀ y : Int, p[n]? = some y → ¬ y < x
theorem IsRank.unique {p : List Int} {x : Int} {n m : Nat} (h : IsRank p x n) (k : IsRank p x m) : n = m := by
  rcases Nat.lt_trichotomy n m with e | e | e
  · have hl : n < p.length := by have := k.le; omega
    exact absurd (k.low n _ e (List.getElem?_eq_getElem hl)) (h.high _ (List.getElem?_eq_getElem hl))
  · exact e
  · have hl : m < p.length := by have := h.le; omega
    exact absurd (h.low m _ e (List.getElem?_eq_getElem hl)) (k.high _ (List.getElem?_eq_getElem hl))
/-- How many places of spans are below x, span by span. -/
def rk (x : Int) : List Sn → Int
  | [] => 0
  | s :: r => (min (max x s.lo) s.hi - s.lo) + rk x r
theorem rk_append (x : Int) : ∀ (p q : List Sn), rk x (p ++ q) = rk x p + rk x q
  | [], q => by simp [rk]
  | s :: p, q => by simp only [List.cons_append, rk, rk_append x p q]; omega
theorem rk_bd {b x : Int} : ∀ {l : List Sn}, mayF b l = true → 0 ≤ rk x l ∧ rk x l ≤ endF b l - b ∧ rk x l ≤ (pl l).length
  | [], _ => by simp [rk, endF]
  | s :: r, h => by
    obtain ⟨⟨h1, h2, h3⟩, h4⟩ := mayF_cons.1 h
    have ih := rk_bd (x := x) h4
    simp only [rk, endF, pl, List.length_append, rng_len]
    omega
theorem rk_low {b x : Int} : ∀ {l : List Sn}, mayF b l = true → x ≤ b → rk x l = 0
  | [], _, _ => rfl
  | s :: r, h, hx => by
    obtain ⟨⟨h1, h2, h3⟩, h4⟩ := mayF_cons.1 h
    have ih := rk_low (x := x) h4 (by omega)
    simp only [rk, ih]
    omega
theorem pl_low {b : Int} : ∀ {l : List Sn}, mayF b l = true → ∀ y ∈ pl l, b < y
  | [], _, y, hy => by simp [pl] at hy
  | s :: r, h, y, hy => by
    obtain ⟨⟨h1, h2, h3⟩, h4⟩ := mayF_cons.1 h
    rw [pl, List.mem_append] at hy
    rcases hy with hy | hy
    · obtain ⟨i, hi, e⟩ := List.getElem_of_mem hy
      rw [rng_len] at hi
      have e2 := rng_at _ s.lo i hi
      rw [List.getElem?_eq_getElem (by rw [rng_len]; exact hi), e] at e2
      simp at e2
      omega
    · have := pl_low h4 y hy
      omega
theorem rk_is {b x : Int} : ∀ {l : List Sn}, mayF b l = true → IsRank (pl l) x (rk x l).toNat
  | [], _ => ⟨by simp [rk], fun i y hi => by simp [rk] at hi, fun y hy => by simp [pl] at hy⟩
  | s :: r, h => by
    obtain ⟨⟨h1, h2, h3⟩, h4⟩ := mayF_cons.1 h
    have ih := rk_is (x := x) h4
    have hb := rk_bd (x := x) h4
    have hg := rng_len (s.hi - s.lo).toNat s.lo
    by_cases hx : s.hi ≤ x
    · have e : (rk x (s :: r)).toNat = (s.hi - s.lo).toNat + (rk x r).toNat := by simp only [rk]; omega
      rw [e]
      refine ⟨by simp only [pl, List.length_append, hg]; have := ih.le; omega, fun i y hi hy => ?_, fun y hy => ?_⟩
      · rw [pl] at hy
        by_cases hj : i < (s.hi - s.lo).toNat
        · rw [List.getElem?_append_left (by rw [hg]; exact hj), rng_at _ _ _ hj] at hy
          simp at hy
          omega
        · rw [List.getElem?_append_right (by rw [hg]; omega), hg] at hy
          exact ih.low _ y (by omega) hy
      · rw [pl, List.getElem?_append_right (by rw [hg]; omega), hg, Nat.add_sub_cancel_left] at hy
        exact ih.high y hy
    · have e0 := rk_low (x := x) h4 (by omega)
      have e : (rk x (s :: r)).toNat = (max x s.lo - s.lo).toNat := by simp only [rk, e0]; omega
      rw [e]
      refine ⟨by simp only [pl, List.length_append, hg]; omega, fun i y hi hy => ?_, fun y hy => ?_⟩
      · rw [pl, List.getElem?_append_left (by rw [hg]; omega), rng_at _ _ _ (by omega)] at hy
        simp at hy
        omega
      · rw [pl, List.getElem?_append_left (by rw [hg]; omega), rng_at _ _ _ (by omega)] at hy
        simp at hy
        omega
theorem rank_all {p : List Int} {x : Int} (h : ∀ y ∈ p, y < x) : IsRank p x p.length :=
  ⟨Nat.le_refl _, fun _ y _ hy => h y (List.mem_of_getElem? hy), fun y hy => by simp at hy⟩
theorem mem_rng {a : Int} {n : Nat} {x : Int} : x ∈ rng a n ↔ a ≤ x ∧ x < a + n := by
  constructor
  · intro hy
    obtain ⟨i, hi, e⟩ := List.getElem_of_mem hy
    rw [rng_len] at hi
    have e2 := rng_at _ a i hi
    rw [List.getElem?_eq_getElem (by rw [rng_len]; exact hi), e] at e2
    simp at e2
    omega
  · intro ⟨h1, h2⟩
    have e2 := rng_at n a (x - a).toNat (by omega)
    have := List.mem_of_getElem? e2
    rwa [show a + ((x - a).toNat : Int) = x by omega] at this
theorem mem_pl {b : Int} : ∀ {l : List Sn}, mayF b l = true → ∀ {x : Int}, x ∈ pl l ↔ InS l x
  | [], _, x => by simp [pl, InS]
  | s :: r, h, x => by
    obtain ⟨⟨h1, h2, h3⟩, h4⟩ := mayF_cons.1 h
    rw [pl, List.mem_append, in_cons, mem_pl h4, mem_rng]
    have : s.lo + ((s.hi - s.lo).toNat : Int) = s.hi := by omega
    rw [this]
theorem count_is {l : List Sn} (h : mayS l = true) : rk 65536 l = (pl l).length := by
  have h1 := rk_is (x := 65536) h
  have h2 := rank_all (p := pl l) (x := 65536) fun y hy => (in_may h ((mem_pl h).1 hy)).2.2
  have := h1.unique h2
  have := rk_bd (x := 65536) h
  omega
theorem pl_len {l : List Sn} (h : mayS l = true) : (pl l).length ≤ 65537 := by
  have h1 := count_is h
  have h2 := rk_bd (x := 65536) h
  have h3 := end_bd h
  unfold endS at h3
  omega
/-- Places rise. -/
theorem pl_rise {b : Int} : ∀ {l : List Sn}, mayF b l = true → ∀ (i j : Nat) (x y : Int), i < j → (pl l)[i]? = some x → (pl l)[j]? = some y → x < y
  | [], _, i, j, x, y, _, hx, _ => by simp [pl] at hx
  | s :: r, h, i, j, x, y, hij, hx, hy => by
    obtain ⟨⟨h1, h2, h3⟩, h4⟩ := mayF_cons.1 h
    have hg := rng_len (s.hi - s.lo).toNat s.lo
    rw [pl] at hx hy
    by_cases hj : j < (s.hi - s.lo).toNat
    · rw [List.getElem?_append_left (by rw [hg]; omega), rng_at _ _ _ (by omega)] at hx hy
      simp at hx hy
      omega
    · rw [List.getElem?_append_right (by rw [hg]; omega), hg] at hy
      by_cases hi : i < (s.hi - s.lo).toNat
      · rw [List.getElem?_append_left (by rw [hg]; omega), rng_at _ _ _ (by omega)] at hx
        have := pl_low h4 y (List.mem_of_getElem? hy)
        simp at hx
        omega
      · rw [List.getElem?_append_right (by rw [hg]; omega), hg] at hx
        exact pl_rise h4 _ _ x y (by omega) hx hy
theorem rank_at {l : List Sn} (h : mayS l = true) {i : Nat} {x : Int} (hx : (pl l)[i]? = some x) : rk x l = i ∧ rk (x + 1) l = i + 1 ∧ InS l x := by
  have hi := (List.getElem?_eq_some_iff.1 hx).1
  have r1 : IsRank (pl l) x i := ⟨by omega, fun k y hk hy => pl_rise h k i y x hk hy hx, fun y hy => by rw [hx] at hy; cases hy; omega⟩
  have r2 : IsRank (pl l) (x + 1) (i + 1) := ⟨hi, fun k y hk hy => by
    by_cases e : k = i
    · subst e; rw [hx] at hy; cases hy; omega
    · have := pl_rise h k i y x (by omega) hy hx; omega, fun y hy => by have := pl_rise h i (i + 1) x y (by omega) hx hy; omega⟩
  have e1 := (rk_is (x := x) h).unique r1
  have e2 := (rk_is (x := x + 1) h).unique r2
  have b1 := rk_bd (x := x) h
  have b2 := rk_bd (x := x + 1) h
  exact ⟨by omega, by omega, (mem_pl h).1 (List.mem_of_getElem? hx)⟩
end Go.Proofs.Yteijhnfciiblmaa
