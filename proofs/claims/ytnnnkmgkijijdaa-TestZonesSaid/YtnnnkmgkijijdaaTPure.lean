/-
  Tests of cells, and zones of cells, as the document has them; what a zone tells. No program is spoken of.
-/
import Derived.Test.YtnnnkmgkijijdaaKOrd
namespace Go.Proofs.Ytnnnkmgkijijdaa
open Go.RowKit

/-- A test. -/
structure Ts where
  op : Int
  v : Cl
/-- A zone. -/
structure Zn where
  mn : Cl
  mx : Cl
  nu : Int
  ct : Int
abbrev ta (t : Ts) : Array Value := #[.int .i64 t.op, .int .i64 t.v.k, .int .i64 t.v.n, .string t.v.s]
abbrev tv (t : Ts) : Value := .agg #[.int .i64 t.op, .int .i64 t.v.k, .int .i64 t.v.n, .string t.v.s]
abbrev za (z : Zn) : Array Value := #[.int .i64 z.mn.k, .int .i64 z.mn.n, .string z.mn.s, .int .i64 z.mx.k, .int .i64 z.mx.n, .string z.mx.s, .int .i64 z.nu, .int .i64 z.ct]
abbrev zv (z : Zn) : Value := .agg #[.int .i64 z.mn.k, .int .i64 z.mn.n, .string z.mn.s, .int .i64 z.mx.k, .int .i64 z.mx.n, .string z.mx.s, .int .i64 z.nu, .int .i64 z.ct]

/-- Is a cell empty? -/
def empC (c : Cl) : Bool := c.k == 0 && (c.n == 0 && c.s.toList.isEmpty)
/-- May a test be? -/
def mayT (t : Ts) : Bool := if t.op = 7 ∨ t.op = 8 then empC t.v else decide (1 ≤ t.op ∧ t.op ≤ 6) && (mayC t.v && !(t.v.k == 0))
/-- Does what stands so to Val pass by the op? -/
def standB (op k : Int) : Bool :=
  if op = 1 then decide (k = 0) else if op = 2 then decide (k ≠ 0) else if op = 3 then decide (k < 0) else if op = 4 then decide (k ≤ 0) else if op = 5 then decide (0 < k) else if op = 6 then decide (0 ≤ k) else false
/-- Does a cell pass? -/
def matchT (t : Ts) (c : Cl) : Bool := mayT t && (if c.k = 0 then decide (t.op = 7) else (decide (t.op = 8) || standB t.op (cmpC c t.v)))

def z0 : Zn := ⟨cl0, cl0, 0, 0⟩
def zone1 (c : Cl) : Zn := if c.k = 0 then ⟨cl0, cl0, 1, 1⟩ else ⟨c, c, 0, 1⟩
def mergeZ (a b : Zn) : Zn :=
  if b.nu = b.ct then ⟨a.mn, a.mx, a.nu + b.nu, a.ct + b.ct⟩
  else ⟨if a.nu = a.ct ∨ cmpC b.mn a.mn < 0 then b.mn else a.mn, if a.nu = a.ct ∨ 0 < cmpC b.mx a.mx then b.mx else a.mx, a.nu + b.nu, a.ct + b.ct⟩

/-- How many are nulls. -/
def nulls (l : List Cl) : Nat := l.countP fun c => c.k == 0
theorem nulls_le (l : List Cl) : nulls l ≤ l.length := List.countP_le_length
theorem nulls_all {l : List Cl} : nulls l = l.length ↔ ∀ c ∈ l, c.k = 0 := by
  unfold nulls
  rw [List.countP_eq_length]
  simp
/-- The zone of cells. -/
structure IsZone (l : List Cl) (z : Zn) : Prop where
  nu : z.nu = (nulls l : Int)
  ct : z.ct = (l.length : Int)
  non : (∀ c ∈ l, c.k = 0) → z.mn = cl0 ∧ z.mx = cl0
  ends : (∃ c ∈ l, c.k ≠ 0) → (z.mn ∈ l ∧ z.mn.k ≠ 0) ∧ z.mx ∈ l ∧ z.mx.k ≠ 0
  low : ∀ c ∈ l, c.k ≠ 0 → cmpC z.mn c ≤ 0
  high : ∀ c ∈ l, c.k ≠ 0 → cmpC c z.mx ≤ 0
theorem cmp_anti {a b : Cl} (h1 : cmpC a b ≤ 0) (h2 : cmpC b a ≤ 0) : a = b := by
  have := cmpC_flip a b
  exact (cmpC_zero a b).1 (by omega)
theorem IsZone.all {l : List Cl} {z : Zn} (h : IsZone l z) : z.nu = z.ct ↔ ∀ c ∈ l, c.k = 0 := by
  rw [h.nu, h.ct, ← nulls_all]
  omega
theorem not_all {l : List Cl} : ¬ (∀ c ∈ l, c.k = 0) ↔ ∃ c ∈ l, c.k ≠ 0 := by
  constructor
  · intro h
    apply Classical.byContradiction
    intro h2
    exact h fun c hc => Classical.byContradiction fun h3 => h2 ⟨c, hc, h3⟩
  · rintro ⟨c, hc, h⟩ h2
    exact h (h2 c hc)
theorem zn_ext {a b : Zn} (h1 : a.mn = b.mn) (h2 : a.mx = b.mx) (h3 : a.nu = b.nu) (h4 : a.ct = b.ct) : a = b := by
  cases a; cases b
  simp only at h1 h2 h3 h4
  rw [h1, h2, h3, h4]
theorem IsZone.unique {l : List Cl} {a b : Zn} (h : IsZone l a) (k : IsZone l b) : a = b := by
  by_cases hn : ∀ c ∈ l, c.k = 0
  · exact zn_ext ((h.non hn).1.trans (k.non hn).1.symm) ((h.non hn).2.trans (k.non hn).2.symm) (h.nu.trans k.nu.symm) (h.ct.trans k.ct.symm)
  · have hs := not_all.1 hn
    obtain ⟨⟨a1, a2⟩, a3, a4⟩ := h.ends hs
    obtain ⟨⟨b1, b2⟩, b3, b4⟩ := k.ends hs
    exact zn_ext (cmp_anti (h.low _ b1 b2) (k.low _ a1 a2)) (cmp_anti (k.high _ a3 a4) (h.high _ b3 b4)) (h.nu.trans k.nu.symm) (h.ct.trans k.ct.symm)
theorem isZone_nil : IsZone [] z0 :=
  ⟨rfl, rfl, fun _ => ⟨rfl, rfl⟩, fun ⟨_, hc, _⟩ => absurd hc List.not_mem_nil, fun _ hc => absurd hc List.not_mem_nil, fun _ hc => absurd hc List.not_mem_nil⟩
theorem cmp_self (c : Cl) : cmpC c c = 0 := (cmpC_zero c c).2 rfl
theorem isZone_one (c : Cl) : IsZone [c] (zone1 c) := by
  unfold zone1
  by_cases h : c.k = 0
  · rw [if_pos h]
    exact ⟨by simp [nulls, h], by simp, fun _ => ⟨rfl, rfl⟩, fun ⟨d, hd, hk⟩ => by simp at hd; subst hd; exact absurd h hk, fun d hd hk => by simp at hd; subst hd; exact absurd h hk, fun d hd hk => by simp at hd; subst hd; exact absurd h hk⟩
  · rw [if_neg h]
    exact ⟨by simp [nulls, h], by simp, fun hn => absurd (hn c (by simp)) h, fun _ => ⟨⟨by simp, h⟩, by simp, h⟩, fun d hd _ => by simp at hd; subst hd; simp [cmp_self], fun d hd _ => by simp at hd; subst hd; simp [cmp_self]⟩
theorem isZone_merge {a b : List Cl} {x y : Zn} (h : IsZone a x) (k : IsZone b y) : IsZone (a ++ b) (mergeZ x y) := by
  have hnu : x.nu + y.nu = (nulls (a ++ b) : Int) := by rw [h.nu, k.nu]; unfold nulls; rw [List.countP_append]; omega
  have hct : x.ct + y.ct = ((a ++ b).length : Int) := by rw [h.ct, k.ct, List.length_append]; omega
  by_cases hb : ∀ c ∈ b, c.k = 0
  · have e : mergeZ x y = ⟨x.mn, x.mx, x.nu + y.nu, x.ct + y.ct⟩ := by unfold mergeZ; rw [if_pos (k.all.2 hb)]
    rw [e]
    refine ⟨hnu, hct, fun hn => h.non fun c hc => hn c (List.mem_append_left _ hc), fun ⟨c, hc, hk⟩ => ?_, fun c hc hk => ?_, fun c hc hk => ?_⟩
    · rcases List.mem_append.1 hc with hc | hc
      · obtain ⟨⟨p, q⟩, r, s⟩ := h.ends ⟨c, hc, hk⟩
        exact ⟨⟨List.mem_append_left _ p, q⟩, List.mem_append_left _ r, s⟩
      · exact absurd (hb c hc) hk
    · rcases List.mem_append.1 hc with hc | hc
      · exact h.low c hc hk
      · exact absurd (hb c hc) hk
    · rcases List.mem_append.1 hc with hc | hc
      · exact h.high c hc hk
      · exact absurd (hb c hc) hk
  · obtain ⟨⟨b1, b2⟩, b3, b4⟩ := k.ends (not_all.1 hb)
    have hsome : ¬ ∀ c ∈ a ++ b, c.k = 0 := fun hn => hb fun c hc => hn c (List.mem_append_right _ hc)
    by_cases ha : ∀ c ∈ a, c.k = 0
    · have e : mergeZ x y = ⟨y.mn, y.mx, x.nu + y.nu, x.ct + y.ct⟩ := by
        unfold mergeZ
        rw [if_neg (fun hh => hb (k.all.1 hh)), if_pos (.inl (h.all.2 ha)), if_pos (.inl (h.all.2 ha))]
      rw [e]
      refine ⟨hnu, hct, fun hn => absurd hn hsome, fun _ => ⟨⟨List.mem_append_right _ b1, b2⟩, List.mem_append_right _ b3, b4⟩, fun c hc hk => ?_, fun c hc hk => ?_⟩
      · rcases List.mem_append.1 hc with hc | hc
        · exact absurd (ha c hc) hk
        · exact k.low c hc hk
      · rcases List.mem_append.1 hc with hc | hc
        · exact absurd (ha c hc) hk
        · exact k.high c hc hk
    · obtain ⟨⟨a1, a2⟩, a3, a4⟩ := h.ends (not_all.1 ha)
      have ea : ¬ x.nu = x.ct := fun hh => ha (h.all.1 hh)
      have emn : ∃ m, m = (if x.nu = x.ct ∨ cmpC y.mn x.mn < 0 then y.mn else x.mn) ∧ (m ∈ a ++ b ∧ m.k ≠ 0) ∧ cmpC m x.mn ≤ 0 ∧ cmpC m y.mn ≤ 0 := by
        by_cases hc : cmpC y.mn x.mn < 0
        · exact ⟨y.mn, by rw [if_pos (.inr hc)], ⟨List.mem_append_right _ b1, b2⟩, by omega, by rw [cmp_self]; omega⟩
        · have := cmpC_flip x.mn y.mn
          exact ⟨x.mn, by rw [if_neg (by rintro (h | h); exact ea h; exact hc h)], ⟨List.mem_append_left _ a1, a2⟩, by rw [cmp_self]; omega, by omega⟩
      have emx : ∃ m, m = (if x.nu = x.ct ∨ 0 < cmpC y.mx x.mx then y.mx else x.mx) ∧ (m ∈ a ++ b ∧ m.k ≠ 0) ∧ cmpC x.mx m ≤ 0 ∧ cmpC y.mx m ≤ 0 := by
        by_cases hc : 0 < cmpC y.mx x.mx
        · have := cmpC_flip y.mx x.mx
          exact ⟨y.mx, by rw [if_pos (.inr hc)], ⟨List.mem_append_right _ b3, b4⟩, by omega, by rw [cmp_self]; omega⟩
        · exact ⟨x.mx, by rw [if_neg (by rintro (h | h); exact ea h; exact hc h)], ⟨List.mem_append_left _ a3, a4⟩, by rw [cmp_self]; omega, by omega⟩
      obtain ⟨m, hm, ⟨m1, m2⟩, m3, m4⟩ := emn
      obtain ⟨n, hn, ⟨n1, n2⟩, n3, n4⟩ := emx
      have e : mergeZ x y = ⟨m, n, x.nu + y.nu, x.ct + y.ct⟩ := by
        unfold mergeZ
        rw [if_neg (fun hh => hb (k.all.1 hh)), ← hm, ← hn]
      rw [e]
      refine ⟨hnu, hct, fun hn => absurd hn hsome, fun _ => ⟨⟨m1, m2⟩, n1, n2⟩, fun c hc hk => ?_, fun c hc hk => ?_⟩
      · rcases List.mem_append.1 hc with hc | hc
        · exact cmpC_trans _ _ _ m3 (h.low c hc hk)
        · exact cmpC_trans _ _ _ m4 (k.low c hc hk)
      · rcases List.mem_append.1 hc with hc | hc
        · exact cmpC_trans _ _ _ (h.high c hc hk) n3
        · exact cmpC_trans _ _ _ (k.high c hc hk) n4
/-- What the document's loop makes of one more cell. -/
theorem isZone_more {l : List Cl} {z : Zn} (h : IsZone l z) (c : Cl) : IsZone (l ++ [c]) (mergeZ z (zone1 c)) := isZone_merge h (isZone_one c)
theorem more_null {z : Zn} {c : Cl} (h : c.k = 0) : mergeZ z (zone1 c) = ⟨z.mn, z.mx, z.nu + 1, z.ct + 1⟩ := by
  unfold zone1; rw [if_pos h]; rfl
theorem more_val {z : Zn} {c : Cl} (h : c.k ≠ 0) : mergeZ z (zone1 c) = ⟨if z.nu = z.ct ∨ cmpC c z.mn < 0 then c else z.mn, if z.nu = z.ct ∨ 0 < cmpC c z.mx then c else z.mx, z.nu + 0, z.ct + 1⟩ := by
  unfold zone1; rw [if_neg h]; rfl

/-- Stands a cell ahead of all cells of a zone, or behind all? -/
def beyB (v : Cl) (z : Zn) : Bool := decide (cmpC v z.mn < 0) || decide (0 < cmpC v z.mx)
/-- Are all cells of a zone the same as one? -/
def onlyB (v : Cl) (z : Zn) : Bool := decide (cmpC z.mn v = 0) && decide (cmpC z.mx v = 0)
/-- Can it be told that none passes? -/
def noneT (t : Ts) (z : Zn) : Bool :=
  mayT t && (decide (z.ct = 0) || (if t.op = 7 then decide (z.nu = 0) else (decide (z.nu = z.ct) ||
    (if t.op = 1 then beyB t.v z else if t.op = 2 then onlyB t.v z else if t.op = 3 ∨ t.op = 4 then !matchT t z.mn else if t.op = 5 ∨ t.op = 6 then !matchT t z.mx else false))))
/-- Can it be told that all pass? -/
def allT (t : Ts) (z : Zn) : Bool :=
  mayT t && (!decide (z.ct = 0) && (if t.op = 7 then decide (z.nu = z.ct) else (decide (z.nu = 0) &&
    (if t.op = 1 then onlyB t.v z else if t.op = 2 then beyB t.v z else if t.op = 3 ∨ t.op = 4 then matchT t z.mx else if t.op = 5 ∨ t.op = 6 then matchT t z.mn else true))))

theorem mayT_op {t : Ts} (h : mayT t = true) : 1 ≤ t.op ∧ t.op ≤ 8 := by
  unfold mayT at h
  split at h
  · omega
  · simp only [Bool.and_eq_true, decide_eq_true_eq] at h
    omega
theorem match_val {t : Ts} {c : Cl} (hm : mayT t = true) (hk : c.k ≠ 0) : matchT t c = (decide (t.op = 8) || standB t.op (cmpC c t.v)) := by
  unfold matchT; rw [hm, if_neg hk, Bool.true_and]
theorem match_null {t : Ts} {c : Cl} (hm : mayT t = true) (hk : c.k = 0) : matchT t c = decide (t.op = 7) := by
  unfold matchT; rw [hm, if_pos hk, Bool.true_and]
theorem match_no {t : Ts} (hm : mayT t = false) (c : Cl) : matchT t c = false := by
  unfold matchT; rw [hm, Bool.false_and]
theorem nulls_zero {l : List Cl} (h : nulls l = 0) : ∀ c ∈ l, c.k ≠ 0 := by
  unfold nulls at h
  rw [List.countP_eq_zero] at h
  intro c hc
  simpa using h c hc
theorem none_sound {t : Ts} {l : List Cl} {z : Zn} (h : IsZone l z) (hm : mayT t = true) (hn : noneT t z = true) : ∀ c ∈ l, matchT t c = false := by
  intro c hc
  obtain ⟨o1, o8⟩ := mayT_op hm
  have hct : ¬ z.ct = 0 := by
    rw [h.ct]
    intro e
    have : l.length = 0 := by omega
    rw [List.length_eq_zero_iff] at this
    subst this
    exact absurd hc List.not_mem_nil
  unfold noneT at hn
  rw [hm, Bool.true_and, decide_eq_false hct, Bool.false_or] at hn
  by_cases h7 : t.op = 7
  · rw [if_pos h7, decide_eq_true_eq, h.nu] at hn
    have hk := nulls_zero (l := l) (by omega) c hc
    rw [match_val hm hk, h7]
    rfl
  · rw [if_neg h7, Bool.or_eq_true] at hn
    by_cases hk : c.k = 0
    · rw [match_null hm hk, decide_eq_false h7]
    · have hlow := h.low c hc hk
      have hhigh := h.high c hc hk
      have hsome : ∃ c ∈ l, c.k ≠ 0 := ⟨c, hc, hk⟩
      obtain ⟨⟨_, hmk⟩, _, hxk⟩ := h.ends hsome
      have hne : ¬ z.nu = z.ct := fun e => hk (h.all.1 e c hc)
      rcases hn with hn | hn
      · exact absurd (of_decide_eq_true hn) hne
      · rw [match_val hm hk]
        have f1 := cmpC_flip t.v c
        have f2 := cmpC_flip t.v z.mn
        have f3 := cmpC_flip t.v z.mx
        have f4 := cmpC_flip c z.mn
        have f5 := cmpC_flip c z.mx
        have g1 := cmpC_trans z.mn c t.v hlow
        have g2 := cmpC_trans t.v c z.mx
        have g3 := cmpC_trans t.v z.mn c
        have g4 := cmpC_trans c z.mx t.v hhigh
        rcases (by omega : t.op = 1 ∨ t.op = 2 ∨ t.op = 3 ∨ t.op = 4 ∨ t.op = 5 ∨ t.op = 6 ∨ t.op = 8) with e | e | e | e | e | e | e
        · simp only [e, beyB, standB, match_val hm hmk, match_val hm hxk] at hn ⊢
          simp at hn ⊢
          omega
        · simp only [e, onlyB, standB, match_val hm hmk, match_val hm hxk] at hn ⊢
          simp at hn ⊢
          have e1 := (cmpC_zero _ _).1 hn.1
          have e2 := (cmpC_zero _ _).1 hn.2
          rw [e1] at hlow
          rw [e2] at hhigh
          omega
        all_goals
          simp only [e, standB, match_val hm hmk, match_val hm hxk] at hn ⊢
          simp at hn ⊢
          try omega
theorem all_sound {t : Ts} {l : List Cl} {z : Zn} (h : IsZone l z) (hm : mayT t = true) (hn : allT t z = true) : ∀ c ∈ l, matchT t c = true := by
  intro c hc
  obtain ⟨o1, o8⟩ := mayT_op hm
  unfold allT at hn
  rw [hm, Bool.true_and, Bool.and_eq_true] at hn
  have hn := hn.2
  by_cases h7 : t.op = 7
  · rw [if_pos h7, decide_eq_true_eq] at hn
    rw [match_null hm (h.all.1 hn c hc), decide_eq_true h7]
  · rw [if_neg h7, Bool.and_eq_true, decide_eq_true_eq, h.nu] at hn
    have hk := nulls_zero (l := l) (by omega) c hc
    have hn := hn.2
    have hlow := h.low c hc hk
    have hhigh := h.high c hc hk
    have hsome : ∃ c ∈ l, c.k ≠ 0 := ⟨c, hc, hk⟩
    obtain ⟨⟨_, hmk⟩, _, hxk⟩ := h.ends hsome
    rw [match_val hm hk]
    have f1 := cmpC_flip t.v c
    have f2 := cmpC_flip t.v z.mn
    have f3 := cmpC_flip t.v z.mx
    have f4 := cmpC_flip c z.mn
    have f5 := cmpC_flip c z.mx
    have g1 := cmpC_trans z.mn c t.v hlow
    have g2 := cmpC_trans t.v c z.mx
    have g3 := cmpC_trans t.v z.mn c
    have g4 := cmpC_trans c z.mx t.v hhigh
    have g5 := fun x => cmpC_trans z.mx t.v c x
    have g6 := fun x => cmpC_trans c t.v z.mn x
    rcases (by omega : t.op = 1 ∨ t.op = 2 ∨ t.op = 3 ∨ t.op = 4 ∨ t.op = 5 ∨ t.op = 6 ∨ t.op = 8) with e | e | e | e | e | e | e
    · simp only [e, onlyB, standB, match_val hm hmk, match_val hm hxk] at hn ⊢
      simp at hn ⊢
      have e1 := (cmpC_zero _ _).1 hn.1
      have e2 := (cmpC_zero _ _).1 hn.2
      rw [e1] at hlow
      rw [e2] at hhigh
      omega
    · simp only [e, beyB, standB, match_val hm hmk, match_val hm hxk] at hn ⊢
      simp at hn ⊢
      omega
    all_goals
      simp only [e, standB, match_val hm hmk, match_val hm hxk] at hn ⊢
      simp at hn ⊢
      try omega

/-- The opposite of an op. -/
def oppO (op : Int) : Int := if op = 1 then 2 else if op = 2 then 1 else if op = 3 then 6 else if op = 4 then 5 else if op = 5 then 4 else if op = 6 then 3 else if op = 7 then 8 else 7
def notT (t : Ts) : Ts := ⟨oppO t.op, t.v⟩
theorem notT_may {t : Ts} (hm : mayT t = true) : mayT (notT t) = true := by
  obtain ⟨o1, o8⟩ := mayT_op hm
  rcases (by omega : t.op = 1 ∨ t.op = 2 ∨ t.op = 3 ∨ t.op = 4 ∨ t.op = 5 ∨ t.op = 6 ∨ t.op = 7 ∨ t.op = 8) with e | e | e | e | e | e | e | e
  all_goals
    simp only [mayT, notT, oppO, e] at hm ⊢
    simpa using hm
theorem match_not {t : Ts} {c : Cl} (hm : mayT t = true) (hk : c.k ≠ 0) : matchT (notT t) c = !matchT t c := by
  obtain ⟨o1, o8⟩ := mayT_op hm
  rw [match_val hm hk, match_val (notT_may hm) hk]
  rcases (by omega : t.op = 1 ∨ t.op = 2 ∨ t.op = 3 ∨ t.op = 4 ∨ t.op = 5 ∨ t.op = 6 ∨ t.op = 7 ∨ t.op = 8) with e | e | e | e | e | e | e | e
  all_goals
    rw [Bool.eq_iff_iff]
    simp [notT, oppO, standB, e]
    try omega
end Go.Proofs.Ytnnnkmgkijijdaa
