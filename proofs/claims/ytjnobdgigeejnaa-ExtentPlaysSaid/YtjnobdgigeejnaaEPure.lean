/-
  Holes in order, as lists of pairs (first, count): which blocks are free, that the list is told by them, how a hole is cut and how one is filled in. No program is spoken of.
-/
import Derived.WalkKit
namespace Go.Proofs.Ytjnobdgigeejnaa

/-- In order from lo on, none empty, a block at least between each two. -/
def Nice : Nat → List (Nat × Nat) → Prop
  | _, [] => True
  | lo, h :: t => lo ≤ h.1 ∧ 1 ≤ h.2 ∧ Nice (h.1 + h.2 + 1) t
def FreeAt (hs : List (Nat × Nat)) (b : Nat) : Prop := ∃ h ∈ hs, h.1 ≤ b ∧ b < h.1 + h.2
/-- All lies below n. -/
def Within (n : Nat) (hs : List (Nat × Nat)) : Prop := ∀ h ∈ hs, h.1 + h.2 ≤ n

theorem free_nil (b : Nat) : ¬ FreeAt [] b := by rintro ⟨h, hm, _⟩; simp at hm
theorem free_cons (h : Nat × Nat) (t : List (Nat × Nat)) (b : Nat) : FreeAt (h :: t) b ↔ (h.1 ≤ b ∧ b < h.1 + h.2) ∨ FreeAt t b := by
  unfold FreeAt
  simp only [List.mem_cons, exists_eq_or_imp]
theorem free_append (A B : List (Nat × Nat)) (b : Nat) : FreeAt (A ++ B) b ↔ FreeAt A b ∨ FreeAt B b := by
  unfold FreeAt
  simp only [List.mem_append]
  constructor
  · rintro ⟨h, hm | hm, hb⟩
    · exact .inl ⟨h, hm, hb⟩
    · exact .inr ⟨h, hm, hb⟩
  · rintro (⟨h, hm, hb⟩ | ⟨h, hm, hb⟩)
    · exact ⟨h, .inl hm, hb⟩
    · exact ⟨h, .inr hm, hb⟩
theorem Nice.mono : ∀ {hs : List (Nat × Nat)} {lo lo' : Nat}, Nice lo hs → lo' ≤ lo → Nice lo' hs
  | [], _, _, _, _ => trivial
  | _ :: _, _, _, ⟨h1, h2, h3⟩, hl => ⟨Nat.le_trans hl h1, h2, h3⟩
theorem Nice.ge : ∀ {hs : List (Nat × Nat)} {lo b : Nat}, Nice lo hs → FreeAt hs b → lo ≤ b
  | [], _, b, _, hf => (free_nil b hf).elim
  | h :: t, lo, b, ⟨h1, h2, h3⟩, hf => by
    rcases (free_cons h t b).1 hf with h4 | h4
    · omega
    · have := h3.ge h4
      omega
theorem Nice.mem_ge : ∀ {hs : List (Nat × Nat)} {lo : Nat}, Nice lo hs → ∀ h ∈ hs, lo ≤ h.1 ∧ 1 ≤ h.2
  | [], _, _, _, hm => by simp at hm
  | h :: t, lo, ⟨h1, h2, h3⟩, x, hm => by
    rcases List.mem_cons.1 hm with rfl | hm
    · exact ⟨h1, h2⟩
    · have := h3.mem_ge x hm
      omega
theorem nice_unique : ∀ (hs hs' : List (Nat × Nat)) (lo lo' : Nat), Nice lo hs → Nice lo' hs' → (∀ b, FreeAt hs b ↔ FreeAt hs' b) → hs = hs'
  | [], [], _, _, _, _, _ => rfl
  | [], h' :: t', _, _, _, ⟨h1, h2, h3⟩, hf => ((free_nil h'.1) ((hf h'.1).2 ((free_cons _ _ _).2 (.inl ⟨Nat.le_refl _, by omega⟩)))).elim
  | h :: t, [], _, _, ⟨h1, h2, h3⟩, _, hf => ((free_nil h.1) ((hf h.1).1 ((free_cons _ _ _).2 (.inl ⟨Nat.le_refl _, by omega⟩)))).elim
  | h :: t, h' :: t', lo, lo', ⟨h1, h2, h3⟩, ⟨g1, g2, g3⟩, hf => by
    simp only [free_cons] at hf
    have a1 : h'.1 ≤ h.1 := by
      rcases (hf h.1).1 (.inl ⟨Nat.le_refl _, by omega⟩) with hq | hq
      · exact hq.1
      · have := g3.ge hq; omega
    have a2 : h.1 ≤ h'.1 := by
      rcases (hf h'.1).2 (.inl ⟨Nat.le_refl _, by omega⟩) with hq | hq
      · exact hq.1
      · have := h3.ge hq; omega
    have e1 : h.1 = h'.1 := by omega
    have a3 : h'.2 ≤ h.2 := by
      refine Nat.le_of_not_lt fun hlt => ?_
      rcases (hf (h.1 + h.2)).2 (.inl ⟨by omega, by omega⟩) with hq | hq
      · omega
      · have := h3.ge hq; omega
    have a4 : h.2 ≤ h'.2 := by
      refine Nat.le_of_not_lt fun hlt => ?_
      rcases (hf (h'.1 + h'.2)).1 (.inl ⟨by omega, by omega⟩) with hq | hq
      · omega
      · have := g3.ge hq; omega
    have e2 : h.2 = h'.2 := by omega
    have e : h = h' := Prod.ext e1 e2
    subst e
    congr 1
    refine nice_unique t t' _ _ h3 g3 fun b => ?_
    constructor
    · intro hq
      rcases (hf b).1 (.inr hq) with hp | hp
      · have := h3.ge hq; omega
      · exact hp
    · intro hq
      rcases (hf b).2 (.inr hq) with hp | hp
      · have := g3.ge hq; omega
      · exact hp

/-- Where what follows may begin. -/
def top : Nat → List (Nat × Nat) → Nat
  | lo, [] => lo
  | _, h :: t => top (h.1 + h.2 + 1) t
theorem nice_append : ∀ (A B : List (Nat × Nat)) (lo : Nat), Nice lo (A ++ B) ↔ Nice lo A ∧ Nice (top lo A) B
  | [], B, lo => by simp [Nice, top]
  | h :: t, B, lo => by
    simp only [List.cons_append, Nice, top, nice_append t B]
    constructor
    · rintro ⟨a, b, c, d⟩; exact ⟨⟨a, b, c⟩, d⟩
    · rintro ⟨⟨a, b, c⟩, d⟩; exact ⟨a, b, c, d⟩
theorem top_le : ∀ (A : List (Nat × Nat)) (lo m : Nat), lo ≤ m → (∀ h ∈ A, h.1 + h.2 + 1 ≤ m) → top lo A ≤ m
  | [], _, _, h, _ => h
  | h :: t, lo, m, _, hA => top_le t _ m (hA h (by simp)) (fun x hx => hA x (by simp [hx]))
theorem le_top : ∀ (A : List (Nat × Nat)) (lo : Nat), Nice lo A → lo ≤ top lo A ∧ ∀ h ∈ A, h.1 + h.2 + 1 ≤ top lo A
  | [], lo, _ => ⟨Nat.le_refl _, by simp⟩
  | h :: t, lo, ⟨h1, h2, h3⟩ => by
    obtain ⟨a, b⟩ := le_top t _ h3
    refine ⟨by simp only [top]; omega, ?_⟩
    intro x hx
    rcases List.mem_cons.1 hx with rfl | hx
    · exact a
    · exact b x hx
/-- Between what ends ahead of it and what begins behind it a hole may stand. -/
theorem nice_put {A B : List (Nat × Nat)} {x : Nat × Nat} (hA : Nice 0 A) (h1 : ∀ h ∈ A, h.1 + h.2 + 1 ≤ x.1) (hx : 1 ≤ x.2) (hB : Nice (x.1 + x.2 + 1) B) : Nice 0 (A ++ x :: B) :=
  (nice_append A (x :: B) 0).2 ⟨hA, top_le A 0 x.1 (Nat.zero_le _) h1, hx, hB⟩
theorem nice_take {A B : List (Nat × Nat)} {lo : Nat} (h : Nice lo (A ++ B)) : Nice lo A := ((nice_append A B lo).1 h).1
theorem nice_mid {A B : List (Nat × Nat)} {x : Nat × Nat} {lo : Nat} (h : Nice lo (A ++ x :: B)) : Nice lo A ∧ (∀ y ∈ A, y.1 + y.2 + 1 ≤ x.1) ∧ 1 ≤ x.2 ∧ Nice (x.1 + x.2 + 1) B := by
  obtain ⟨h1, h2, h3, h4⟩ := (nice_append A (x :: B) lo).1 h
  exact ⟨h1, fun y hy => Nat.le_trans ((le_top A lo h1).2 y hy) h2, h3, h4⟩

/-- What stays of a hole of which c blocks from a on are taken. -/
def rest (h : Nat × Nat) (a c : Nat) : List (Nat × Nat) :=
  (if h.1 < a then [(h.1, a - h.1)] else []) ++ (if a + c < h.1 + h.2 then [(a + c, h.1 + h.2 - (a + c))] else [])
theorem rest_len (h : Nat × Nat) (a c : Nat) : (rest h a c).length ≤ 2 := by unfold rest; split <;> split <;> simp
theorem free_rest (h : Nat × Nat) (a c b : Nat) (h1 : h.1 ≤ a) (h2 : a + c ≤ h.1 + h.2) : FreeAt (rest h a c) b ↔ (h.1 ≤ b ∧ b < h.1 + h.2) ∧ ¬ (a ≤ b ∧ b < a + c) := by
  unfold rest
  rw [free_append]
  split <;> split <;> simp only [free_cons, free_nil, or_false, false_or, false_iff] <;> omega
theorem cut_nice {A B : List (Nat × Nat)} {h : Nat × Nat} {a c : Nat} (hn : Nice 0 (A ++ h :: B)) (h1 : h.1 ≤ a) (hc : 1 ≤ c) (h2 : a + c ≤ h.1 + h.2) : Nice 0 (A ++ (rest h a c ++ B)) := by
  obtain ⟨k1, k2, k3, k4⟩ := nice_mid hn
  unfold rest
  split <;> split
  · simp only [List.cons_append, List.nil_append]
    refine nice_put k1 k2 (by simp only; omega) ⟨by simp only; omega, by simp only; omega, k4.mono (by simp only; omega)⟩
  · simp only [List.cons_append, List.nil_append]
    exact nice_put k1 k2 (by simp only; omega) (k4.mono (by simp only; omega))
  · simp only [List.cons_append, List.nil_append]
    exact nice_put k1 (fun x hx => by have := k2 x hx; simp only; omega) (by simp only; omega) (k4.mono (by simp only; omega))
  · simp only [List.nil_append]
    exact (nice_append A B 0).2 ⟨k1, k4.mono (top_le A 0 _ (Nat.zero_le _) fun x hx => by have := k2 x hx; omega)⟩
theorem cut_free {A B : List (Nat × Nat)} {h : Nat × Nat} {a c : Nat} (hn : Nice 0 (A ++ h :: B)) (h1 : h.1 ≤ a) (h2 : a + c ≤ h.1 + h.2) (b : Nat) :
    FreeAt (A ++ (rest h a c ++ B)) b ↔ FreeAt (A ++ h :: B) b ∧ ¬ (a ≤ b ∧ b < a + c) := by
  obtain ⟨k1, k2, k3, k4⟩ := nice_mid hn
  rw [free_append, free_append, free_append, free_cons, free_rest h a c b h1 h2]
  have fa : FreeAt A b → b < h.1 := fun ⟨x, hx, hb⟩ => by have := k2 x hx; omega
  have fb : FreeAt B b → h.1 + h.2 < b := fun hb => k4.ge hb
  constructor
  · rintro (h3 | ⟨h3, h4⟩ | h3)
    · exact ⟨.inl h3, by have := fa h3; omega⟩
    · exact ⟨.inr (.inl h3), h4⟩
    · exact ⟨.inr (.inr h3), by have := fb h3; omega⟩
  · rintro ⟨h3 | h3 | h3, h4⟩
    · exact .inl h3
    · exact .inr (.inl ⟨h3, h4⟩)
    · exact .inr (.inr h3)
theorem cut_within {A B : List (Nat × Nat)} {h : Nat × Nat} {a c n : Nat} (hw : Within n (A ++ h :: B)) (_h1 : h.1 ≤ a) (h2 : a + c ≤ h.1 + h.2) : Within n (A ++ (rest h a c ++ B)) := by
  intro x hx
  have hh := hw h (by simp)
  simp only [List.mem_append] at hx
  rcases hx with hx | hx | hx
  · exact hw x (by simp [hx])
  · unfold rest at hx
    simp only [List.mem_append] at hx
    rcases hx with hx | hx
    · split at hx
      · simp at hx; subst hx; simp only; omega
      · simp at hx
    · split at hx
      · simp at hx; subst hx; simp only; omega
      · simp at hx
  · exact hw x (by simp [hx])

/-- A run of blocks that are free lies in one hole. -/
theorem run_in : ∀ (c : Nat) (hs : List (Nat × Nat)) (lo i : Nat), Nice lo hs → (∀ j, j < c + 1 → FreeAt hs (i + j)) → ∃ h ∈ hs, h.1 ≤ i ∧ i + (c + 1) ≤ h.1 + h.2
  | 0, hs, lo, i, hn, hf => by
    obtain ⟨h, hm, hb⟩ := hf 0 (by omega)
    exact ⟨h, hm, by omega, by omega⟩
  | c + 1, hs, lo, i, hn, hf => by
    obtain ⟨h, hm, h1, h2⟩ := run_in c hs lo i hn (fun j hj => hf j (by omega))
    refine ⟨h, hm, h1, ?_⟩
    obtain ⟨g, gm, g1, g2⟩ := hf (c + 1) (by omega)
    obtain ⟨A, B, rfl⟩ := List.append_of_mem hm
    obtain ⟨k1, k2, k3, k4⟩ := nice_mid hn
    simp only [List.mem_append, List.mem_cons] at gm
    rcases gm with gm | rfl | gm
    · have := k2 g gm; omega
    · omega
    · have := k4.mem_ge g gm; omega

/-- How many are free. -/
def sumH (hs : List (Nat × Nat)) : Nat := (hs.map (·.2)).sum
def maxH (hs : List (Nat × Nat)) : Nat := hs.foldl (fun m h => max m h.2) 0
theorem sum_cons (h : Nat × Nat) (t : List (Nat × Nat)) : sumH (h :: t) = h.2 + sumH t := by simp [sumH]
theorem sum_le : ∀ (hs : List (Nat × Nat)) (lo n : Nat), Nice lo hs → Within n hs → lo ≤ n → lo + sumH hs ≤ n
  | [], lo, n, _, _, h => by simp [sumH]; omega
  | h :: t, lo, n, ⟨h1, h2, h3⟩, hw, hl => by
    have h4 := hw h (by simp)
    rw [sum_cons]
    by_cases he : h.1 + h.2 + 1 ≤ n
    · have := sum_le t (h.1 + h.2 + 1) n h3 (fun x hx => hw x (by simp [hx])) he
      omega
    · cases t with
      | nil => simp [sumH]; omega
      | cons y t =>
        have := hw y (by simp)
        have := h3.1
        have := h3.2.1
        omega
theorem len_le : ∀ (hs : List (Nat × Nat)) (lo : Nat), Nice lo hs → hs.length ≤ sumH hs
  | [], _, _ => by simp [sumH]
  | h :: t, _, ⟨h1, h2, h3⟩ => by
    have := len_le t _ h3
    rw [sum_cons, List.length_cons]
    omega
theorem foldl_max : ∀ (hs : List (Nat × Nat)) (m : Nat), hs.foldl (fun m h => max m h.2) m = max m (maxH hs)
  | [], m => by simp [maxH]
  | h :: t, m => by
    unfold maxH
    rw [List.foldl_cons, List.foldl_cons, foldl_max t, foldl_max t]
    omega
theorem max_cons (h : Nat × Nat) (t : List (Nat × Nat)) : maxH (h :: t) = max h.2 (maxH t) := by
  unfold maxH
  rw [List.foldl_cons, foldl_max]
  simp only [maxH]
  omega
theorem max_ge : ∀ (hs : List (Nat × Nat)), ∀ h ∈ hs, h.2 ≤ maxH hs
  | [], _, hm => by simp at hm
  | x :: t, h, hm => by
    rw [max_cons]
    rcases List.mem_cons.1 hm with rfl | hm
    · omega
    · have := max_ge t h hm; omega
theorem max_mem : ∀ (hs : List (Nat × Nat)), maxH hs = 0 ∨ ∃ h ∈ hs, h.2 = maxH hs
  | [] => .inl rfl
  | x :: t => by
    rw [max_cons]
    by_cases hx : maxH t ≤ x.2
    · exact .inr ⟨x, by simp, by omega⟩
    · rcases max_mem t with h | ⟨h, hm, he⟩
      · omega
      · exact .inr ⟨h, by simp [hm], by omega⟩
theorem sum_take (hs : List (Nat × Nat)) (k : Nat) (h : Nat × Nat) (hk : hs[k]? = some h) : sumH (hs.take (k + 1)) = sumH (hs.take k) + h.2 := by
  rw [List.take_add_one, hk]
  simp [sumH]
theorem max_take (hs : List (Nat × Nat)) (k : Nat) (h : Nat × Nat) (hk : hs[k]? = some h) : maxH (hs.take (k + 1)) = max (maxH (hs.take k)) h.2 := by
  rw [List.take_add_one, hk]
  simp [maxH]

/-- Holes ahead of a, holes behind b: a hole between them that is a to b, together with those that it touches. -/
theorem fill_nice {A B : List (Nat × Nat)} {x : Nat × Nat} {lo hi : Nat} (hA : Nice 0 A) (hB : Nice (hi + 1) B) (hx : x = (lo, hi - lo)) (hl : lo < hi) (h1 : ∀ h ∈ A, h.1 + h.2 + 1 ≤ lo) : Nice 0 (A ++ x :: B) := by
  subst hx
  exact nice_put hA h1 (by simp only; omega) (hB.mono (by simp only; omega))
theorem nice_drop : ∀ {A B : List (Nat × Nat)} {lo : Nat}, Nice lo (A ++ B) → ∃ m, Nice m B
  | A, B, lo, h => ⟨_, ((nice_append A B lo).1 h).2⟩
theorem nice_tail {A B : List (Nat × Nat)} {x : Nat × Nat} {lo : Nat} (h : Nice lo (A ++ x :: B)) : Nice (x.1 + x.2 + 1) B := (nice_mid h).2.2.2
theorem nice_head : ∀ {B : List (Nat × Nat)} {m lo : Nat}, Nice m B → (∀ x t, B = x :: t → lo ≤ x.1) → Nice lo B
  | [], _, _, _, _ => trivial
  | x :: t, _, _, ⟨_, h2, h3⟩, hl => ⟨hl x t rfl, h2, h3⟩
end Go.Proofs.Ytjnobdgigeejnaa
