/-
  Numbers as groups of seven bits, the lowest first, the highest bit of a byte set in all but the last: pure mathematics over lists of bytes. No program is spoken of.
-/
import Derived.Laws.Entries
namespace Go.Proofs.Ytlohljefhcidkaa.Leb

def lebF : Nat → Nat → List UInt8
  | 0, z => [UInt8.ofNat z]
  | f + 1, z => if z < 128 then [UInt8.ofNat z] else UInt8.ofNat (z % 128 + 128) :: lebF f (z / 128)
/-- A number's bytes. -/
def leb (z : Nat) : List UInt8 := lebF z z
theorem lebF_eq : ∀ (f g z : Nat), z ≤ f → z ≤ g → lebF f z = lebF g z := by
  intro f
  induction f with
  | zero =>
    intro g z h _
    cases g with
    | zero => rfl
    | succ g =>
      have hz : z < 128 := by omega
      simp [lebF, hz]
  | succ f ih =>
    intro g z h1 h2
    cases g with
    | zero =>
      have hz : z < 128 := by omega
      simp [lebF, hz]
    | succ g =>
      by_cases hz : z < 128
      · simp [lebF, hz]
      · simp only [lebF, if_neg hz]
        rw [ih g (z / 128) (by omega) (by omega)]

def val : List UInt8 → Nat
  | [] => 0
  | b :: r => b.toNat % 128 + 128 * val r

/-- Bytes that are a number's. -/
def good : List UInt8 → Prop
  | [] => False
  | b :: r => (b.toNat < 128 ∧ r = []) ∨ (128 ≤ b.toNat ∧ good r ∧ r ≠ [0])

theorem leb_small {z : Nat} (h : z < 128) : leb z = [UInt8.ofNat z] := by
  unfold leb
  cases z with
  | zero => rfl
  | succ f => simp only [lebF, if_pos h]
theorem leb_big {z : Nat} (h : 128 ≤ z) : leb z = UInt8.ofNat (z % 128 + 128) :: leb (z / 128) := by
  have e : ¬ z < 128 := by omega
  unfold leb
  cases z with
  | zero => omega
  | succ f =>
    simp only [lebF, if_neg e]
    rw [lebF_eq f ((f + 1) / 128) ((f + 1) / 128) (by omega) (Nat.le_refl _)]
theorem leb_pos (z : Nat) : 1 ≤ (leb z).length := by
  by_cases h : z < 128
  · rw [leb_small h]; simp
  · rw [leb_big (by omega)]; simp
theorem byte_small {n : Nat} (h : n < 256) : (UInt8.ofNat n).toNat = n := by
  rw [UInt8.toNat_ofNat']; omega
theorem leb_ne {z : Nat} (h : 1 ≤ z) : leb z ≠ [0] := by
  by_cases hz : z < 128
  · rw [leb_small hz]
    intro e
    have e2 : UInt8.ofNat z = 0 := by simpa using e
    have : (UInt8.ofNat z).toNat = 0 := by rw [e2]; rfl
    rw [byte_small (by omega)] at this
    omega
  · rw [leb_big (by omega)]
    intro e
    have := leb_pos (z / 128)
    have e2 : leb (z / 128) = [] := by simpa using (List.cons.inj e).2
    rw [e2] at this
    simp at this
theorem good_leb (z : Nat) : good (leb z) := by
  induction z using Nat.strongRecOn with
  | ind z ih =>
    by_cases h : z < 128
    · rw [leb_small h]; exact .inl ⟨by rw [byte_small (by omega)]; omega, rfl⟩
    · rw [leb_big (by omega)]
      exact .inr ⟨by rw [byte_small (by omega)]; omega, ih _ (by omega), leb_ne (by omega)⟩
theorem val_leb (z : Nat) : val (leb z) = z := by
  induction z using Nat.strongRecOn with
  | ind z ih =>
    by_cases h : z < 128
    · rw [leb_small h]; simp only [val]; rw [byte_small (by omega)]; omega
    · rw [leb_big (by omega)]; simp only [val]; rw [byte_small (by omega), ih _ (by omega)]; omega
theorem leb_inj {z y : Nat} (h : leb z = leb y) : z = y := by rw [← val_leb z, h, val_leb]
theorem val_zero : ∀ {l : List UInt8}, good l → val l = 0 → l = [0] := by
  intro l
  induction l with
  | nil => intro h; exact h.elim
  | cons b r ih =>
    intro h e
    simp only [val] at e
    rcases h with ⟨hb, rfl⟩ | ⟨hb, hr, hne⟩
    · have : b.toNat = 0 := by omega
      have : b = 0 := UInt8.toNat_inj.1 (by simpa using this)
      rw [this]
    · exact absurd (ih hr (by omega)) hne
theorem leb_val : ∀ {l : List UInt8}, good l → leb (val l) = l := by
  intro l
  induction l with
  | nil => intro h; exact h.elim
  | cons b r ih =>
    intro h
    have hb256 := b.toNat_lt
    rcases h with ⟨hb, rfl⟩ | ⟨hb, hr, hne⟩
    · simp only [val]
      have e : b.toNat % 128 + 128 * 0 = b.toNat := by omega
      rw [e, leb_small hb]
      simp
    · have hv : val r ≠ 0 := fun e => hne (val_zero hr e)
      simp only [val]
      rw [leb_big (by omega)]
      have e1 : (b.toNat % 128 + 128 * val r) % 128 + 128 = b.toNat := by omega
      have e2 : (b.toNat % 128 + 128 * val r) / 128 = val r := by omega
      rw [e1, e2, ih hr]
      simp
/-- Two numbers' bytes ahead of the same bytes are the same. -/
theorem good_prefix : ∀ {a b s : List UInt8}, good a → good b → a <+: s → b <+: s → a = b := by
  intro a
  induction a with
  | nil => intro b s h; exact h.elim
  | cons x r ih =>
    intro b s ha hb pa pb
    cases b with
    | nil => exact hb.elim
    | cons y q =>
      cases s with
      | nil => simp at pa
      | cons c t =>
        rw [List.cons_prefix_cons] at pa pb
        obtain ⟨rfl, pa⟩ := pa
        obtain ⟨rfl, pb⟩ := pb
        rcases ha with ⟨h1, rfl⟩ | ⟨h1, hr, _⟩
        · rcases hb with ⟨_, rfl⟩ | ⟨h2, _, _⟩
          · rfl
          · omega
        · rcases hb with ⟨h2, _⟩ | ⟨_, hq, _⟩
          · omega
          · rw [ih hr hq pa pb]
theorem leb_prefix {z y : Nat} {s : List UInt8} (h : leb z <+: s) (k : leb y <+: s) : z = y :=
  leb_inj (good_prefix (good_leb z) (good_leb y) h k)

theorem leb_len_le : ∀ (L : Nat) {z : Nat}, z < 128 ^ (L + 1) → (leb z).length ≤ L + 1 := by
  intro L
  induction L with
  | zero => intro z h; rw [leb_small (by simpa using h)]; simp
  | succ L ih =>
    intro z h
    by_cases hz : z < 128
    · rw [leb_small hz]; simp
    · rw [leb_big (by omega)]
      have : z / 128 < 128 ^ (L + 1) := by
        rw [Nat.div_lt_iff_lt_mul (by decide)]
        rw [Nat.pow_succ] at h; exact h
      have := ih this
      simp; omega
theorem leb_len_ge : ∀ (L : Nat) {z : Nat}, 128 ^ L ≤ z → L + 1 ≤ (leb z).length := by
  intro L
  induction L with
  | zero => intro z _; exact leb_pos z
  | succ L ih =>
    intro z h
    have h1 : 128 ^ L ≤ z / 128 := by
      rw [Nat.le_div_iff_mul_le (by decide)]
      rw [Nat.pow_succ] at h; exact h
    have h2 : 1 ≤ 128 ^ L := Nat.pow_pos (by decide)
    rw [leb_big (by omega)]
    have := ih h1
    simp; omega
theorem leb_len_mono {z y : Nat} (h : z ≤ y) : (leb z).length ≤ (leb y).length := by
  induction y using Nat.strongRecOn generalizing z with
  | ind y ih =>
    by_cases hz : z < 128
    · rw [leb_small hz]; exact leb_pos y
    · rw [leb_big (z := z) (by omega), leb_big (z := y) (by omega)]
      have := ih (y / 128) (by omega) (z := z / 128) (by omega)
      simpa using this

theorem val_append (a b : List UInt8) : val (a ++ b) = val a + 128 ^ a.length * val b := by
  induction a with
  | nil => simp [val]
  | cons x r ih =>
    simp only [List.cons_append, val, List.length_cons, ih, Nat.pow_succ]
    rw [Nat.mul_add, Nat.mul_comm (128 ^ r.length) 128, Nat.mul_assoc]
    omega
theorem val_lt (l : List UInt8) : val l < 128 ^ l.length := by
  induction l with
  | nil => simp [val]
  | cons b r ih => simp only [val, List.length_cons, Nat.pow_succ]; omega
theorem val_take_succ (s : List UInt8) (k : Nat) (h : k < s.length) : val (s.take (k + 1)) = val (s.take k) + 128 ^ k * ((s.getD k 0).toNat % 128) := by
  rw [List.take_succ_eq_append_getElem h, val_append, List.length_take, Nat.min_eq_left (by omega)]
  simp [val, h]

/-- The first byte without the highest bit ends the number. -/
theorem stop_eq : ∀ (k : Nat) {s l : List UInt8}, good l → l <+: s → (∀ i, i < k → 128 ≤ (s.getD i 0).toNat) → (s.getD k 0).toNat < 128 → k < s.length → l = s.take (k + 1) := by
  intro k
  induction k with
  | zero =>
    intro s l hl hp _ hs hk
    cases s with
    | nil => simp at hk
    | cons c t =>
      cases l with
      | nil => exact hl.elim
      | cons b r =>
        rw [List.cons_prefix_cons] at hp
        obtain ⟨rfl, hp⟩ := hp
        rcases hl with ⟨_, rfl⟩ | ⟨h1, _, _⟩
        · simp
        · simp at hs; omega
  | succ k ih =>
    intro s l hl hp hall hs hk
    cases s with
    | nil => simp at hk
    | cons c t =>
      cases l with
      | nil => exact hl.elim
      | cons b r =>
        rw [List.cons_prefix_cons] at hp
        obtain ⟨rfl, hp⟩ := hp
        have h0 := hall 0 (by omega)
        simp only [List.getD_cons_zero] at h0
        rcases hl with ⟨h1, _⟩ | ⟨_, hr, _⟩
        · omega
        · rw [List.take_succ_cons, ← ih hr hp (fun i hi => by simpa using hall (i + 1) (by omega)) (by simpa using hs) (by simpa using hk)]
theorem stop_none : ∀ (k : Nat) {s l : List UInt8}, good l → l <+: s → (∀ i, i < k → 128 ≤ (s.getD i 0).toNat) → k < l.length := by
  intro k
  induction k with
  | zero => intro s l hl _ _; cases l with | nil => exact hl.elim | cons b r => simp
  | succ k ih =>
    intro s l hl hp hall
    cases s with
    | nil =>
      have : l = [] := by simpa using hp
      subst this; exact hl.elim
    | cons c t =>
      cases l with
      | nil => exact hl.elim
      | cons b r =>
        rw [List.cons_prefix_cons] at hp
        obtain ⟨rfl, hp⟩ := hp
        have h0 := hall 0 (by omega)
        simp only [List.getD_cons_zero] at h0
        rcases hl with ⟨h1, _⟩ | ⟨_, hr, _⟩
        · omega
        · have := ih hr hp (fun i hi => by simpa using hall (i + 1) (by omega))
          simpa using this
theorem stop_good : ∀ (k : Nat) {s : List UInt8}, (∀ i, i < k → 128 ≤ (s.getD i 0).toNat) → (s.getD k 0).toNat < 128 → k < s.length → (k = 0 ∨ (s.getD k 0).toNat ≠ 0) → good (s.take (k + 1)) := by
  intro k
  induction k with
  | zero =>
    intro s _ hs hk _
    cases s with
    | nil => simp at hk
    | cons c t => exact .inl ⟨by simpa using hs, by simp⟩
  | succ k ih =>
    intro s hall hs hk hz
    cases s with
    | nil => simp at hk
    | cons c t =>
      have h0 := hall 0 (by omega)
      simp only [List.getD_cons_zero] at h0
      have hz' : (t.getD k 0).toNat ≠ 0 := by
        rcases hz with h | h
        · omega
        · simpa using h
      rw [List.take_succ_cons]
      refine .inr ⟨h0, ih (fun i hi => by simpa using hall (i + 1) (by omega)) (by simpa using hs) (by simpa using hk) (.inr hz'), fun e => ?_⟩
      have hkt : k < t.length := by simpa using hk
      cases k with
      | zero =>
        cases t with
        | nil => simp at hkt
        | cons d u =>
          simp at e
          subst e
          exact hz' rfl
      | succ k =>
        have := congrArg List.length e
        simp at this
        omega
/-- A needless last group. -/
theorem needless {k : Nat} {s : List UInt8} (h : good (s.take (k + 1))) (hall : ∀ i, i < k → 128 ≤ (s.getD i 0).toNat) (hk : k < s.length) (h0 : 0 < k) : (s.getD k 0).toNat ≠ 0 := by
  induction k generalizing s with
  | zero => omega
  | succ k ih =>
    cases s with
    | nil => simp at hk
    | cons c t =>
      have h1 := hall 0 (by omega)
      simp only [List.getD_cons_zero] at h1
      have hkt : k < t.length := by simpa using hk
      rw [List.take_succ_cons] at h
      rcases h with ⟨h2, _⟩ | ⟨_, hr, hne⟩
      · omega
      · cases k with
        | zero =>
          cases t with
          | nil => simp at hkt
          | cons d u =>
            intro e
            apply hne
            have : d = 0 := UInt8.toNat_inj.1 (by simpa using e)
            simp [this]
        | succ k =>
          have := ih hr (fun i hi => by simpa using hall (i + 1) (by omega)) hkt (by omega)
          simpa using this
end Go.Proofs.Ytlohljefhcidkaa.Leb
