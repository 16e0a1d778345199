/-
  Two lists of spans gone over at once, edge by edge; the spans of all places that are wanted by which of the two they are in. No program is spoken of.
-/
import Derived.Test.YteijhnfciiblmaaSPure
namespace Go.Proofs.Yteijhnfciiblmaa

/-- The edge with the number k; behind the last one a place behind all edges. -/
def edgeA (l : List Sn) (k : Nat) : Int :=
  match l[k / 2]? with
  | none => 65537
  | some s => if k % 2 = 0 then s.lo else s.hi
theorem edge_two (s : Sn) (r : List Sn) (m : Nat) : edgeA (s :: r) (m + 2) = edgeA r m := by
  have h1 : (m + 2) / 2 = m / 2 + 1 := by omega
  have h2 : (m + 2) % 2 = m % 2 := by omega
  simp [edgeA, h1, h2]
theorem edge_zero (s : Sn) (r : List Sn) : edgeA (s :: r) 0 = s.lo := by simp [edgeA]
theorem edge_one (s : Sn) (r : List Sn) : edgeA (s :: r) 1 = s.hi := by simp [edgeA]
theorem edge_end {l : List Sn} {k : Nat} (h : 2 * l.length ≤ k) : edgeA l k = 65537 := by
  have : l[k / 2]? = none := List.getElem?_eq_none (by omega)
  simp [edgeA, this]
theorem edge_low {b : Int} (hb : b ≤ 65536) : ∀ {l : List Sn}, mayF b l = true → ∀ k : Nat, b < edgeA l k
  | [], _, k => by rw [edge_end (by simp)]; omega
  | s :: r, h, k => by
    obtain ⟨⟨h1, h2, h3⟩, h4⟩ := mayF_cons.1 h
    match k with
    | 0 => rw [edge_zero]; exact h1
    | 1 => rw [edge_one]; omega
    | m + 2 => rw [edge_two]; have := edge_low h3 h4 m; omega
theorem edge_rise {b : Int} : ∀ {l : List Sn}, mayF b l = true → ∀ k : Nat, k < 2 * l.length → edgeA l k < edgeA l (k + 1) ∧ edgeA l k ≤ 65536
  | [], _, k, hk => by simp at hk
  | s :: r, h, k, hk => by
    obtain ⟨⟨h1, h2, h3⟩, h4⟩ := mayF_cons.1 h
    match k, hk with
    | 0, _ => rw [edge_zero, edge_one]; omega
    | 1, _ => rw [edge_one, edge_two]; exact ⟨edge_low h3 h4 0, h3⟩
    | m + 2, hk => rw [edge_two, edge_two]; exact edge_rise h4 m (by simp at hk; omega)
theorem edge_in {b : Int} : ∀ {l : List Sn}, mayF b l = true → ∀ (k : Nat) (x : Int), (∀ m, k = m + 1 → edgeA l m ≤ x) → x < edgeA l k → k ≤ 2 * l.length → (InS l x ↔ k % 2 = 1)
  | [], _, k, x, _, _, hk => by
    have : k = 0 := by simpa using hk
    subst this
    simp [in_nil]
  | s :: r, h, k, x, h1, h2, hk => by
    obtain ⟨⟨g1, g2, g3⟩, g4⟩ := mayF_cons.1 h
    rw [in_cons]
    match k, hk with
    | 0, _ =>
      rw [edge_zero] at h2
      constructor
      · rintro (hx | hx)
        · omega
        · have := in_bd g4 hx; omega
      · intro hx; omega
    | 1, _ =>
      have := h1 0 rfl
      rw [edge_zero] at this
      rw [edge_one] at h2
      exact ⟨fun _ => rfl, fun _ => .inl ⟨this, h2⟩⟩
    | m + 2, hk =>
      rw [edge_two] at h2
      have hp := h1 (m + 1) rfl
      have hxs : s.hi ≤ x := by
        cases m with
        | zero => rw [edge_one] at hp; exact hp
        | succ m => rw [edge_two] at hp; have := edge_low g3 g4 m; omega
      have ih := edge_in g4 m x (fun q hq => by subst hq; rw [edge_two] at hp; exact hp) h2 (by simp at hk; omega)
      have e : (m + 2) % 2 = m % 2 := by omega
      rw [e, ← ih]
      constructor
      · rintro (hx | hx)
        · omega
        · exact hx
      · exact .inr
/-- Whether x is one of their places. -/
def inB (l : List Sn) (x : Int) : Bool := l.any fun s => decide (s.lo ≤ x ∧ x < s.hi)
theorem inB_iff {l : List Sn} {x : Int} : inB l x = true ↔ InS l x := by simp [inB, InS]
theorem inB_no {l : List Sn} {x : Int} (h : ¬ InS l x) : inB l x = false := by
  cases e : inB l x with
  | false => rfl
  | true => exact absurd (inB_iff.1 e) h
/-- The place x is wanted. -/
def Wn (f : Bool → Bool → Bool) (a b : List Sn) (x : Int) : Prop := f (inB a x) (inB b x) = true

abbrev Ev := Int × Bool × Bool
/-- The Hi of the last one is set. -/
def setHi : List Sn → Int → List Sn
  | [], _ => []
  | [s], t => [⟨s.lo, t⟩]
  | s :: u :: r, t => s :: setHi (u :: r) t
theorem setHi_snoc (t : Int) : ∀ (p : List Sn) (s : Sn), setHi (p ++ [s]) t = p ++ [⟨s.lo, t⟩]
  | [], s => rfl
  | [u], s => rfl
  | u :: v :: p, s => by
    have := setHi_snoc t (v :: p) s
    simp only [List.cons_append] at this ⊢
    rw [setHi, this]
/-- What one edge does. -/
def stepE (f : Bool → Bool → Bool) (o : List Sn × Bool) (e : Ev) : List Sn × Bool :=
  if f e.2.1 e.2.2 = true ∧ o.2 = false then (o.1 ++ [⟨e.1, 0⟩], true) else if f e.2.1 e.2.2 = false ∧ o.2 = true then (setHi o.1 e.1, false) else o
def wk (f : Bool → Bool → Bool) (pre : List Ev) : List Sn × Bool := pre.foldl (stepE f) ([], false)
theorem wk_snoc (f : Bool → Bool → Bool) (pre : List Ev) (e : Ev) : wk f (pre ++ [e]) = stepE f (wk f pre) e := by simp [wk]
theorem setHi_len (t : Int) (o : List Sn) : (setHi o t).length = o.length := by
  rcases List.eq_nil_or_concat o with rfl | ⟨p, s, e⟩
  · rfl
  · rw [List.concat_eq_append] at e
    subst e
    rw [setHi_snoc]; simp
theorem list_snocInd {α : Type} {C : List α → Prop} (h0 : C []) (h1 : ∀ p x, C p → C (p ++ [x])) (l : List α) : C l := by
  have : ∀ n : Nat, ∀ l : List α, l.length = n → C l := by
    intro n
    induction n with
    | zero => intro l h; rw [List.eq_nil_of_length_eq_zero h]; exact h0
    | succ n ih =>
      intro l h
      rcases List.eq_nil_or_concat l with rfl | ⟨p, s, e⟩
      · exact h0
      · rw [List.concat_eq_append] at e
        subst e
        exact h1 p s (ih p (by simpa using h))
  exact this _ l rfl
theorem wk_len (f : Bool → Bool → Bool) (pre : List Ev) : (wk f pre).1.length ≤ pre.length ∧ ((wk f pre).2 = true → (wk f pre).1 ≠ []) := by
  refine list_snocInd (C := fun pre => (wk f pre).1.length ≤ pre.length ∧ ((wk f pre).2 = true → (wk f pre).1 ≠ [])) ⟨by simp [wk], by simp [wk]⟩ ?_ pre
  intro p e ⟨h1, h2⟩
  rw [wk_snoc, stepE]
  split
  · exact ⟨by simp; omega, by simp⟩
  · split
    · exact ⟨by rw [setHi_len]; simp; omega, by simp⟩
    · exact ⟨by simp; omega, h2⟩
/-- Where the two lists stand behind k edges, and the edges till then. -/
def nxt (a b : List Sn) (p : Nat × Nat) : Nat × Nat := (if edgeA a p.1 ≤ edgeA b p.2 then p.1 + 1 else p.1, if edgeA b p.2 ≤ edgeA a p.1 then p.2 + 1 else p.2)
def posE (a b : List Sn) : Nat → Nat × Nat
  | 0 => (0, 0)
  | k + 1 => nxt a b (posE a b k)
def evE (a b : List Sn) (p : Nat × Nat) : Ev := (min (edgeA a p.1) (edgeA b p.2), decide ((nxt a b p).1 % 2 = 1), decide ((nxt a b p).2 % 2 = 1))
def evs (a b : List Sn) : Nat → List Ev
  | 0 => []
  | k + 1 => evs a b k ++ [evE a b (posE a b k)]
def live (a b : List Sn) (p : Nat × Nat) : Prop := p.1 < 2 * a.length ∨ p.2 < 2 * b.length
/-- What is so between two edges. -/
structure Mid (f : Bool → Bool → Bool) (a b : List Sn) (p : Nat × Nat) (o : List Sn × Bool) : Prop where
  la : p.1 ≤ 2 * a.length
  lb : p.2 ≤ 2 * b.length
  pa : ∀ m, p.1 = m + 1 → edgeA a m < min (edgeA a p.1) (edgeA b p.2)
  pb : ∀ m, p.2 = m + 1 → edgeA b m < min (edgeA a p.1) (edgeA b p.2)
  shut : o.2 = false → mayS o.1 = true ∧ endS o.1 < min (edgeA a p.1) (edgeA b p.2) ∧ ∀ x, x < min (edgeA a p.1) (edgeA b p.2) → (InS o.1 x ↔ Wn f a b x)
  opened : o.2 = true → ∃ q s, o.1 = q ++ [s] ∧ mayS q = true ∧ endS q < s.lo ∧ s.lo < min (edgeA a p.1) (edgeA b p.2) ∧ ∀ x, x < min (edgeA a p.1) (edgeA b p.2) → ((InS q x ∨ s.lo ≤ x) ↔ Wn f a b x)
section
variable {f : Bool → Bool → Bool} {a b : List Sn}
theorem mid_start (hf : f false false = false) (ha : mayS a = true) (hb : mayS b = true) : Mid f a b (0, 0) ([], false) := by
  have e1 := edge_low (by omega) ha 0
  have e2 := edge_low (by omega) hb 0
  refine ⟨Nat.zero_le _, Nat.zero_le _, fun m h => by simp at h, fun m h => by simp at h, fun _ => ⟨rfl, ?_, fun x hx => ?_⟩, fun h => by simp at h⟩
  · show (-1 : Int) < _
    simp only
    omega
  · simp only at hx
    have n1 := edge_in ha 0 x (fun m h => by simp at h) (by omega) (Nat.zero_le _)
    have n2 := edge_in hb 0 x (fun m h => by simp at h) (by omega) (Nat.zero_le _)
    have i1 : inB a x = false := inB_no fun h => by simpa using n1.1 h
    have i2 : inB b x = false := inB_no fun h => by simpa using n2.1 h
    simp [in_nil, Wn, i1, i2, hf]
theorem mid_step (ha : mayS a = true) (hb : mayS b = true) {p : Nat × Nat} {o : List Sn × Bool} (h : Mid f a b p o) (hl : live a b p) : Mid f a b (nxt a b p) (stepE f o (evE a b p)) := by
  obtain ⟨i, j⟩ := p
  obtain ⟨la, lb, pa, pb, hs, ho⟩ := h
  simp only [live] at hl
  simp only at la lb pa pb hs ho
  have ra := edge_rise ha
  have rb := edge_rise hb
  have ea : ¬ i < 2 * a.length → edgeA a i = 65537 := fun h => edge_end (by omega)
  have eb : ¬ j < 2 * b.length → edgeA b j = 65537 := fun h => edge_end (by omega)
  obtain ⟨T, hT⟩ : ∃ T, T = min (edgeA a i) (edgeA b j) := ⟨_, rfl⟩
  rw [← hT] at pa pb hs ho
  have hT2 : T ≤ 65536 := by
    rcases hl with h | h
    · have := (ra i h).2; omega
    · have := (rb j h).2; omega
  obtain ⟨i', hi'⟩ : ∃ i', i' = (nxt a b (i, j)).1 := ⟨_, rfl⟩
  obtain ⟨j', hj'⟩ : ∃ j', j' = (nxt a b (i, j)).2 := ⟨_, rfl⟩
  have hn : nxt a b (i, j) = (i', j') := by rw [hi', hj']
  have ci : (i' = i + 1 ∧ i < 2 * a.length ∧ edgeA a i = T) ∨ (i' = i ∧ T < edgeA a i) := by
    simp only [nxt] at hi'
    by_cases c : edgeA a i ≤ edgeA b j
    · rw [if_pos c] at hi'
      exact .inl ⟨hi', Decidable.byContradiction fun h => by have := ea h; omega, by omega⟩
    · rw [if_neg c] at hi'
      exact .inr ⟨hi', by omega⟩
  have cj : (j' = j + 1 ∧ j < 2 * b.length ∧ edgeA b j = T) ∨ (j' = j ∧ T < edgeA b j) := by
    simp only [nxt] at hj'
    by_cases c : edgeA b j ≤ edgeA a i
    · rw [if_pos c] at hj'
      exact .inl ⟨hj', Decidable.byContradiction fun h => by have := eb h; omega, by omega⟩
    · rw [if_neg c] at hj'
      exact .inr ⟨hj', by omega⟩
  have fa : T < edgeA a i' ∧ i' ≤ 2 * a.length ∧ ∀ m, i' = m + 1 → edgeA a m ≤ T := by
    rcases ci with ⟨rfl, h1, h2⟩ | ⟨rfl, h1⟩
    · exact ⟨by have := (ra i h1).1; omega, by omega, fun m hm => by obtain rfl : m = i := by omega
                                                                     omega⟩
    · exact ⟨h1, la, fun m hm => by have := pa m hm; omega⟩
  have fb : T < edgeA b j' ∧ j' ≤ 2 * b.length ∧ ∀ m, j' = m + 1 → edgeA b m ≤ T := by
    rcases cj with ⟨rfl, h1, h2⟩ | ⟨rfl, h1⟩
    · exact ⟨by have := (rb j h1).1; omega, by omega, fun m hm => by obtain rfl : m = j := by omega
                                                                     omega⟩
    · exact ⟨h1, lb, fun m hm => by have := pb m hm; omega⟩
  obtain ⟨U, hU⟩ : ∃ U, U = min (edgeA a i') (edgeA b j') := ⟨_, rfl⟩
  have hTU : T < U := by omega
  have hev : evE a b (i, j) = (T, decide (i' % 2 = 1), decide (j' % 2 = 1)) := by simp only [evE, ← hi', ← hj', ← hT]
  obtain ⟨now, hnow⟩ : ∃ now, now = f (decide (i' % 2 = 1)) (decide (j' % 2 = 1)) := ⟨_, rfl⟩
  have key : ∀ x, T ≤ x → x < U → (Wn f a b x ↔ now = true) := fun x h1 h2 => by
    have n1 := edge_in ha i' x (fun m hm => by have := fa.2.2 m hm; omega) (by omega) fa.2.1
    have n2 := edge_in hb j' x (fun m hm => by have := fb.2.2 m hm; omega) (by omega) fb.2.1
    have i1 : inB a x = decide (i' % 2 = 1) := by rw [Bool.eq_iff_iff, inB_iff, n1]; simp
    have i2 : inB b x = decide (j' % 2 = 1) := by rw [Bool.eq_iff_iff, inB_iff, n2]; simp
    rw [Wn, i1, i2, ← hnow]
  rw [hn, hev]
  clear hn hev hi' hj' ci cj
  obtain ⟨out, ins⟩ := o
  simp only at hs ho
  have hst : stepE f (out, ins) (T, decide (i' % 2 = 1), decide (j' % 2 = 1)) = if now = true ∧ ins = false then (out ++ [⟨T, 0⟩], true) else if now = false ∧ ins = true then (setHi out T, false) else (out, ins) := by rw [stepE, ← hnow]
  rw [hst]
  clear hst hnow
  refine ⟨fa.2.1, fb.2.1, fun m hm => by have := fa.2.2 m hm; simp only; omega, fun m hm => by have := fb.2.2 m hm; simp only; omega, ?_, ?_⟩
  · simp only [← hU]
    cases now <;> cases ins <;> simp only [Bool.false_eq_true, false_and, and_false, and_self, if_true, if_false, reduceCtorEq, false_implies, forall_const]
    · obtain ⟨h1, h2, h3⟩ := hs rfl
      refine ⟨h1, by omega, fun x hx => ?_⟩
      by_cases hxT : x < T
      · exact h3 x hxT
      · rw [key x (by omega) hx]
        constructor
        · intro hi
          have := in_may h1 hi
          omega
        · intro h; cases h
    · obtain ⟨q, s, rfl, h1, h2, h3, h4⟩ := ho rfl
      rw [setHi_snoc, end_snoc]
      refine ⟨may_snoc.2 ⟨h1, h2, h3, hT2⟩, hTU, fun x hx => ?_⟩
      rw [in_append, in_one]
      by_cases hxT : x < T
      · rw [← h4 x hxT]
        simp only [hxT, and_true]
      · rw [key x (by omega) hx]
        constructor
        · rintro (hi | hi)
          · have := in_may h1 hi
            omega
          · simp only at hi; omega
        · intro h; cases h
  · simp only [← hU]
    cases now <;> cases ins <;> simp only [Bool.false_eq_true, false_and, and_false, and_self, if_true, if_false, reduceCtorEq, false_implies, forall_const]
    · obtain ⟨h1, h2, h3⟩ := hs rfl
      refine ⟨out, ⟨T, 0⟩, rfl, h1, h2, hTU, fun x hx => ?_⟩
      by_cases hxT : x < T
      · rw [← h3 x hxT]
        constructor
        · rintro (hi | hi)
          · exact hi
          · simp only at hi; omega
        · exact .inl
      · rw [key x (by omega) hx]
        exact ⟨fun _ => rfl, fun _ => .inr (by simp only; omega)⟩
    · obtain ⟨q, s, rfl, h1, h2, h3, h4⟩ := ho rfl
      refine ⟨q, s, rfl, h1, h2, by omega, fun x hx => ?_⟩
      by_cases hxT : x < T
      · exact h4 x hxT
      · rw [key x (by omega) hx]
        exact ⟨fun _ => rfl, fun _ => .inr (by omega)⟩
theorem mid_end (hf : f false false = false) (ha : mayS a = true) (hb : mayS b = true) {p : Nat × Nat} {o : List Sn × Bool} (h : Mid f a b p o) (hl : ¬ live a b p) : IsSet o.1 (Wn f a b) := by
  obtain ⟨i, j⟩ := p
  obtain ⟨la, lb, pa, pb, hs, ho⟩ := h
  simp only [live, not_or] at hl
  simp only at la lb pa pb hs ho
  have ea : edgeA a i = 65537 := edge_end (by omega)
  have eb : edgeA b j = 65537 := edge_end (by omega)
  have hfar : ∀ x, 65536 ≤ x → ¬ Wn f a b x := fun x hx hw => by
    have i1 : inB a x = false := inB_no fun h => by have := in_may ha h; omega
    have i2 : inB b x = false := inB_no fun h => by have := in_may hb h; omega
    rw [Wn, i1, i2, hf] at hw
    cases hw
  rw [ea, eb] at hs ho
  have hT : min (65537 : Int) 65537 = 65537 := by omega
  rw [hT] at hs ho
  cases hins : o.2 with
  | true =>
    obtain ⟨q, s, _, h1, h2, h3, h4⟩ := ho hins
    exact absurd ((h4 65536 (by omega)).1 (.inr (by omega))) (hfar _ (by omega))
  | false =>
    obtain ⟨h1, h2, h3⟩ := hs hins
    refine ⟨h1, fun x => ?_⟩
    by_cases hx : x < 65537
    · exact h3 x hx
    · constructor
      · intro hi
        have := in_may h1 hi
        omega
      · intro hw
        exact absurd hw (hfar x (by omega))
/-- Behind k edges. -/
theorem mid_at (hf : f false false = false) (ha : mayS a = true) (hb : mayS b = true) : ∀ k : Nat, (∀ m, m < k → live a b (posE a b m)) → Mid f a b (posE a b k) (wk f (evs a b k))
  | 0, _ => mid_start hf ha hb
  | k + 1, h => by
    rw [posE, evs, wk_snoc]
    exact mid_step ha hb (mid_at hf ha hb k fun m hm => h m (by omega)) (h k (by omega))
end
/-- The numbers rise at each edge. -/
theorem pos_rise (a b : List Sn) (p : Nat × Nat) : p.1 + p.2 < (nxt a b p).1 + (nxt a b p).2 ∧ p.1 ≤ (nxt a b p).1 ∧ p.2 ≤ (nxt a b p).2 := by
  simp only [nxt]
  split <;> split <;> omega
theorem evs_len (a b : List Sn) : ∀ k, (evs a b k).length = k
  | 0 => rfl
  | k + 1 => by simp [evs, evs_len a b k]
end Go.Proofs.Yteijhnfciiblmaa
