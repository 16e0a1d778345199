/-
  A map beside the document's: what each call leaves of both; law 5's same.
-/
import Derived.Test.YtjnobdgigeejnaaERefC
import Derived.Test.YtjnobdgigeejnaaERefD
import Derived.Test.YtjnobdgigeejnaaESame
namespace Go.Proofs.Ytjnobdgigeejnaa
open Go.RowKit

/-- Both tell the same of each block. -/
def Rel (n : Nat) (hs : List (Nat × Nat)) (tk : Nat → Bool) : Prop := ∀ b, b < n → (tk b = false ↔ FreeAt hs b)
section
variable {n a d : Nat} {hs hs' : List (Nat × Nat)} {tk : Nat → Bool}
theorem rel_all (R : Rel n hs tk) (h : a + d ≤ n) : AllFree hs a d ↔ AllAre tk a d false := by
  constructor
  · intro hf j hj
    exact (R (a + j) (by omega)).2 (hf (a + j) (by omega) (by omega))
  · intro hf b h1 h2
    have := hf (b - a) (by omega)
    rw [show a + (b - a) = b by omega] at this
    exact (R b (by omega)).1 this
theorem rel_none (R : Rel n hs tk) (h : a + d ≤ n) : NoneFree hs a d ↔ AllAre tk a d true := by
  constructor
  · intro hf j hj
    have h1 := hf (a + j) (by omega) (by omega)
    cases ht : tk (a + j) with
    | true => rfl
    | false => exact absurd ((R (a + j) (by omega)).1 ht) h1
  · intro hf b h1 h2 hfr
    have := hf (b - a) (by omega)
    rw [show a + (b - a) = b by omega] at this
    have h3 := (R b (by omega)).2 hfr
    rw [this] at h3
    cases h3
theorem rel_fill (R : Rel n hs tk) (hF : Filled hs hs' n a d) : Rel n hs' (setTo tk a d false) := by
  intro b hb
  rw [hF.2.2 b, ← R b hb]
  unfold setTo
  by_cases hb' : a ≤ b ∧ b < a + d
  · rw [if_pos hb']; exact ⟨fun _ => .inr hb', fun _ => rfl⟩
  · rw [if_neg hb']; exact ⟨.inl, fun h => h.resolve_right hb'⟩
theorem rel_cut (R : Rel n hs tk) (hC : Cut hs hs' n a d) : Rel n hs' (setTo tk a d true) := by
  intro b hb
  rw [hC.2.2 b, ← R b hb]
  unfold setTo
  by_cases hb' : a ≤ b ∧ b < a + d
  · rw [if_pos hb']; exact ⟨fun h => (by cases h), fun h => absurd hb' h.2⟩
  · rw [if_neg hb']; exact ⟨fun h => ⟨h, hb'⟩, fun h => h.1⟩
/-- Where an extent may be taken there is a hole that is long enough. -/
theorem fits_hole (R : Rel n hs tk) (hn : Nice 0 hs) (hd : 1 ≤ d) {i : Nat} (h : FitsAt tk n d i) : ∃ x ∈ hs, x.1 ≤ i ∧ i + d ≤ x.1 + x.2 := by
  obtain ⟨c, rfl⟩ : ∃ c, d = c + 1 := ⟨d - 1, by omega⟩
  refine run_in c hs 0 i hn fun j hj => ?_
  have h1 := h.1
  exact (R (i + j) (by omega)).1 (h.2 j hj)
theorem nofit_none (R : Rel n hs tk) (hn : Nice 0 hs) (hd : 1 ≤ d) (hf : NoFit hs d) (i : Nat) : ¬ FitsAt tk n d i := fun h => by
  obtain ⟨x, hx, h1, h2⟩ := fits_hole R hn hd h
  have := hf x hx
  omega
theorem nice_firsts : ∀ (hs : List (Nat × Nat)) (lo : Nat), Nice lo hs → ∀ (i j : Nat) (x y : Nat × Nat), i ≤ j → hs[i]? = some x → hs[j]? = some y → x.1 ≤ y.1
  | [], _, _, i, _, _, _, _, hi, _ => by simp at hi
  | h :: t, lo, ⟨h1, h2, h3⟩, i, j, x, y, hij, hi, hj => by
    cases i with
    | zero =>
      simp at hi
      subst hi
      cases j with
      | zero => simp at hj; subst hj; exact Nat.le_refl _
      | succ j =>
        simp at hj
        have := h3.mem_ge y (List.mem_of_getElem? hj)
        omega
    | succ i =>
      cases j with
      | zero => omega
      | succ j => exact nice_firsts t _ h3 i j x y (by omega) (by simpa using hi) (by simpa using hj)
theorem fit_first (R : Rel n hs tk) (hn : Nice 0 hs) (hw : Within n hs) (hd : 1 ≤ d) {k : Nat} {x : Nat × Nat} (hf : FirstFit hs d k x) : x.1 < n ∧ FitsAt tk n d x.1 ∧ ∀ i, i < x.1 → ¬ FitsAt tk n d i := by
  have hxm := List.mem_of_getElem? hf.1
  have hx := hf.2.1
  have hxw := hw x hxm
  refine ⟨by omega, ⟨by omega, fun j hj => (R (x.1 + j) (by omega)).2 ⟨x, hxm, by omega, by omega⟩⟩, fun i hi h => ?_⟩
  obtain ⟨y, hy, h1, h2⟩ := fits_hole R hn hd h
  obtain ⟨j, hj⟩ := List.mem_iff_getElem?.1 hy
  by_cases hjk : j < k
  · have := hf.2.2 j y hjk hj
    omega
  · have := nice_firsts hs 0 hn k j x y (by omega) hf.1 hj
    omega
end

/-- A map and the document's. -/
structure Both (w0 w : World) (p g b c n : Nat) (hs : List (Nat × Nat)) (tk : Nat → Bool) : Prop where
  own : Own w0 w p g n hs
  ref : RefM w b c n tk
  rel : Rel n hs tk
  np : b ≠ p
  ng : b ≠ g
theorem Own.n2 {w W : World} {p g n : Nat} {hs : List (Nat × Nat)} (h : Own w W p g n hs) : 1 ≤ n ∧ n ≤ 4096 := by obtain ⟨_, m, _⟩ := h; exact ⟨m.n1, m.n2⟩
theorem Both.over {w0 w w' : World} {p g b c n : Nat} {hs : List (Nat × Nat)} {tk : Nat → Bool} (B : Both w0 w p g b c n hs tk) (k : Below w.heap.size w w') : Both w0 w' p g b c n hs tk :=
  ⟨B.own.over k, B.ref.over k, B.rel, B.np, B.ng⟩
/-- Is an extent one of the map's? -/
def Okay (n : Nat) (x y : Int) : Prop := 0 < n ∧ 0 ≤ x ∧ 1 ≤ y ∧ y ≤ n - x
/-- What is known behind the map's call: v is what it answered; the document's map is as it was. -/
def Turn (Q : List (Nat × Nat) → Nat → Nat → Prop) (C : List (Nat × Nat) → List (Nat × Nat) → Nat → Nat → Prop) (w0 w : World) (p b c n : Nat) (hs : List (Nat × Nat)) (tk : Nat → Bool) (x y v : Int) : Prop :=
  ∃ g hs', Own w0 w p g n hs' ∧ RefM w b c n tk ∧ Rel n hs tk ∧ b ≠ p ∧ b ≠ g ∧
    ((v = 1 ∧ ¬ Okay n x y ∧ hs' = hs) ∨ (∃ a d : Nat, x = a ∧ y = d ∧ Okay n x y ∧ ((v = 3 ∧ ¬ Q hs a d ∧ hs' = hs) ∨ (v = 0 ∧ Q hs a d ∧ C hs hs' a d))))
section
variable {w0 w : World} {p g b c n : Nat} {hs : List (Nat × Nat)} {tk : Nat → Bool}
theorem both_step {w' : World} {g' : Nat} (B : Both w0 w p g b c n hs tk) (S : Step w w' p g g') : RefM w' b c n tk ∧ b ≠ g' := by
  refine ⟨B.ref.kept S.2 (fun e => by rcases e with e | e; exact B.np e; exact B.ng e), ?_⟩
  have := B.ref.lt
  rcases S.1 with e | e
  · rw [e]; exact B.ng
  · omega
theorem ftake (B : Both w0 w p g b c n hs tk) (x y : Int) (hx : -9223372036854775808 ≤ x ∧ x < 9223372036854775808) :
    Calls Try.prog 14 #[.pointer (some ⟨p, 0, none⟩), .agg #[.int .i64 x, .int .i64 y]] w fun e w' => ∃ v, e = .returned (.int .i64 v) ∧ Turn AllFree (fun hs hs' a d => Cut hs hs' n a d) w0 w' p b c n hs tk x y v := by
  by_cases h : Okay n x y
  · have h' := h
    obtain ⟨h0, h1, h2, h3⟩ := h'
    obtain ⟨a, rfl⟩ : ∃ a : Nat, x = a := ⟨x.toNat, by omega⟩
    obtain ⟨d, rfl⟩ : ∃ d : Nat, y = d := ⟨y.toNat, by omega⟩
    refine (take_own B.own a d (by omega) (by omega)).mono ?_
    rintro e w' (⟨e1, e2, e3⟩ | ⟨e1, e2, hs', g', e4, o, st⟩)
    · exact ⟨_, e1, g, hs, B.own.over e3, B.ref.over e3, B.rel, B.np, B.ng, .inr ⟨a, d, rfl, rfl, h, .inl ⟨rfl, e2, rfl⟩⟩⟩
    · obtain ⟨r1, r2⟩ := both_step B st
      exact ⟨_, e1, g', hs', o, r1, B.rel, B.np, r2, .inr ⟨a, d, rfl, rfl, h, .inr ⟨rfl, e2, e4⟩⟩⟩
  · have hO := B.own
    obtain ⟨cap, M, _⟩ := hO
    refine (take_bad _ n w M.size M.n2 x y hx h).mono ?_
    rintro e w' ⟨e1, e2⟩
    exact ⟨_, e1, g, hs, B.own.over e2, B.ref.over e2, B.rel, B.np, B.ng, .inl ⟨rfl, h, rfl⟩⟩
theorem ffree (B : Both w0 w p g b c n hs tk) (x y : Int) (hx : -9223372036854775808 ≤ x ∧ x < 9223372036854775808) :
    Calls Try.prog 12 #[.pointer (some ⟨p, 0, none⟩), .agg #[.int .i64 x, .int .i64 y]] w fun e w' => ∃ v, e = .returned (.int .i64 v) ∧ Turn NoneFree (fun hs hs' a d => Filled hs hs' n a d) w0 w' p b c n hs tk x y v := by
  by_cases h : Okay n x y
  · have h' := h
    obtain ⟨h0, h1, h2, h3⟩ := h'
    obtain ⟨a, rfl⟩ : ∃ a : Nat, x = a := ⟨x.toNat, by omega⟩
    obtain ⟨d, rfl⟩ : ∃ d : Nat, y = d := ⟨y.toNat, by omega⟩
    refine (free_own B.own a d (by omega) (by omega)).mono ?_
    rintro e w' (⟨e1, e2, e3⟩ | ⟨e1, e2, hs', g', e4, o, st⟩)
    · exact ⟨_, e1, g, hs, B.own.over e3, B.ref.over e3, B.rel, B.np, B.ng, .inr ⟨a, d, rfl, rfl, h, .inl ⟨rfl, e2, rfl⟩⟩⟩
    · obtain ⟨r1, r2⟩ := both_step B st
      exact ⟨_, e1, g', hs', o, r1, B.rel, B.np, r2, .inr ⟨a, d, rfl, rfl, h, .inr ⟨rfl, e2, e4⟩⟩⟩
  · have hO := B.own
    obtain ⟨cap, M, _⟩ := hO
    refine (free_bad _ n w M.size M.n2 x y hx h).mono ?_
    rintro e w' ⟨e1, e2⟩
    exact ⟨_, e1, g, hs, B.own.over e2, B.ref.over e2, B.rel, B.np, B.ng, .inl ⟨rfl, h, rfl⟩⟩
/-- The document's Take answers the same. -/
theorem rtake_law {x y v : Int} (T : Turn AllFree (fun hs hs' a d => Cut hs hs' n a d) w0 w p b c n hs tk x y v) (hx : -9223372036854775808 ≤ x ∧ x < 9223372036854775808) :
    Calls Try.prog 15 #[.slice (some ⟨b, 0, none⟩) n c, .agg #[.int .i64 x, .int .i64 y]] w fun e w' => ∃ b' c', e = .returned (.tuple #[.slice (some ⟨b', 0, none⟩) n c', .int .i64 v]) ∧ ∃ g hs' tk', Both w0 w' p g b' c' n hs' tk' := by
  obtain ⟨g, hs', O, M, R, np, ng, hcase⟩ := T
  have hn2 := O.n2
  rcases hcase with ⟨rfl, hno, rfl⟩ | ⟨a, d, rfl, rfl, hok, hcase⟩
  · refine (rtake_bad _ n c hn2.2 x y hx hno w).mono ?_
    rintro e w' ⟨e1, e2⟩
    exact ⟨b, c, e1, g, hs', tk, O.over e2, M.over e2, R, np, ng⟩
  · obtain ⟨h0, h1, h2, h3⟩ := hok
    have had : a + d ≤ n := by omega
    refine (rtake_any M hn2.2 a d (by omega) had).mono ?_
    rintro e w' ⟨hres, hb⟩
    have hlt := O.lt
    rcases hcase with ⟨rfl, hq, rfl⟩ | ⟨rfl, hq, hC⟩
    · rcases hres with ⟨e1, _⟩ | ⟨b', c', _, e2, _⟩
      · exact ⟨b, c, e1, g, hs', tk, O.over hb, M.over hb, R, np, ng⟩
      · exact absurd ((rel_all R had).2 e2) hq
    · rcases hres with ⟨_, e2⟩ | ⟨b', c', e1, _, e3, e4⟩
      · exact absurd ((rel_all R had).1 hq) e2
      · exact ⟨b', c', e1, g, hs', setTo tk a d true, O.over hb, e3, rel_cut R hC, by omega, by omega⟩
theorem rfree_law {x y v : Int} (T : Turn NoneFree (fun hs hs' a d => Filled hs hs' n a d) w0 w p b c n hs tk x y v) (hx : -9223372036854775808 ≤ x ∧ x < 9223372036854775808) :
    Calls Try.prog 13 #[.slice (some ⟨b, 0, none⟩) n c, .agg #[.int .i64 x, .int .i64 y]] w fun e w' => ∃ b' c', e = .returned (.tuple #[.slice (some ⟨b', 0, none⟩) n c', .int .i64 v]) ∧ ∃ g hs' tk', Both w0 w' p g b' c' n hs' tk' := by
  obtain ⟨g, hs', O, M, R, np, ng, hcase⟩ := T
  have hn2 := O.n2
  rcases hcase with ⟨rfl, hno, rfl⟩ | ⟨a, d, rfl, rfl, hok, hcase⟩
  · refine (rfree_bad _ n c hn2.2 x y hx hno w).mono ?_
    rintro e w' ⟨e1, e2⟩
    exact ⟨b, c, e1, g, hs', tk, O.over e2, M.over e2, R, np, ng⟩
  · obtain ⟨h0, h1, h2, h3⟩ := hok
    have had : a + d ≤ n := by omega
    refine (rfree_any M hn2.2 a d (by omega) had).mono ?_
    rintro e w' ⟨hres, hb⟩
    have hlt := O.lt
    rcases hcase with ⟨rfl, hq, rfl⟩ | ⟨rfl, hq, hC⟩
    · rcases hres with ⟨e1, _⟩ | ⟨b', c', _, e2, _⟩
      · exact ⟨b, c, e1, g, hs', tk, O.over hb, M.over hb, R, np, ng⟩
      · exact absurd ((rel_none R had).2 e2) hq
    · rcases hres with ⟨_, e2⟩ | ⟨b', c', e1, _, e3, e4⟩
      · exact absurd ((rel_none R had).1 hq) e2
      · exact ⟨b', c', e1, g, hs', setTo tk a d false, O.over hb, e3, rel_fill R hC, by omega, by omega⟩
/-- What is known behind the map's Alloc. -/
def TurnA (w0 w : World) (p b c n : Nat) (hs : List (Nat × Nat)) (tk : Nat → Bool) (y : Int) (x z v : Int) : Prop :=
  ∃ g hs', Own w0 w p g n hs' ∧ RefM w b c n tk ∧ Rel n hs tk ∧ b ≠ p ∧ b ≠ g ∧ Nice 0 hs ∧ Within n hs ∧
    ((y < 1 ∧ x = 0 ∧ z = 0 ∧ v = 1 ∧ hs' = hs) ∨ (∃ d : Nat, y = d ∧ 1 ≤ d ∧ ((x = 0 ∧ z = 0 ∧ v = 2 ∧ NoFit hs d ∧ hs' = hs) ∨ ∃ k i, x = i.1 ∧ z = d ∧ v = 0 ∧ FirstFit hs d k i ∧ Cut hs hs' n i.1 d)))
theorem falloc (B : Both w0 w p g b c n hs tk) (y : Int) :
    Calls Try.prog 10 #[.pointer (some ⟨p, 0, none⟩), .int .i64 y] w fun e w' => ∃ x z v, e = .returned (.tuple #[.agg #[.int .i64 x, .int .i64 z], .int .i64 v]) ∧ TurnA w0 w' p b c n hs tk y x z v := by
  by_cases h : 1 ≤ y
  · obtain ⟨d, rfl⟩ : ∃ d : Nat, y = d := ⟨y.toNat, by omega⟩
    refine (alloc_own B.own d h).mono ?_
    rintro e w' (⟨e1, e2, e3⟩ | ⟨k, x, d', e0, e1, e2, hs', g', e4, o, st⟩)
    · exact ⟨0, 0, 2, e1, g, hs, B.own.over e3, B.ref.over e3, B.rel, B.np, B.ng, B.own.nice, B.own.within, .inr ⟨d, rfl, by omega, .inl ⟨rfl, rfl, rfl, e2, rfl⟩⟩⟩
    · obtain ⟨r1, r2⟩ := both_step B st
      obtain rfl : d = d' := by omega
      exact ⟨x.1, d, 0, e1, g', hs', o, r1, B.rel, B.np, r2, B.own.nice, B.own.within, .inr ⟨d, rfl, by omega, .inr ⟨k, x, rfl, rfl, rfl, e2, e4⟩⟩⟩
  · have hO := B.own
    obtain ⟨cap, M, _⟩ := hO
    refine (alloc_bad _ n w M.size y (fun h' => h h'.2)).mono ?_
    rintro e w' ⟨e1, e2⟩
    exact ⟨0, 0, 1, e1, g, hs, B.own.over e2, B.ref.over e2, B.rel, B.np, B.ng, B.own.nice, B.own.within, .inl ⟨by omega, rfl, rfl, rfl, rfl⟩⟩
theorem TurnA.over {w' : World} {y x z v : Int} (T : TurnA w0 w p b c n hs tk y x z v) (k : Below w.heap.size w w') : TurnA w0 w' p b c n hs tk y x z v := by
  obtain ⟨g, hs', O, M, rest⟩ := T
  exact ⟨g, hs', O.over k, M.over k, rest⟩
theorem ralloc_law {y x z v : Int} (T : TurnA w0 w p b c n hs tk y x z v) (hy : y < 9223372036854775808) :
    Calls Try.prog 11 #[.slice (some ⟨b, 0, none⟩) n c, .int .i64 y] w fun e w' => ∃ b' c', e = .returned (.tuple #[.slice (some ⟨b', 0, none⟩) n c', .agg #[.int .i64 x, .int .i64 z], .int .i64 v]) ∧ (∃ g hs' tk', Both w0 w' p g b' c' n hs' tk') ∧ Below w.heap.size w w' := by
  obtain ⟨g, hs', O, M, R, np, ng, hni, hwi, hcase⟩ := T
  have hn2 := O.n2
  rcases hcase with ⟨h1, rfl, rfl, rfl, rfl⟩ | ⟨d, rfl, hd, hcase⟩
  · refine (ralloc_bad _ n c y h1 w).mono ?_
    rintro e w' ⟨e1, e2⟩
    exact ⟨b, c, e1, ⟨g, hs', tk, O.over e2, M.over e2, R, np, ng⟩, e2⟩
  · refine (ralloc_any M hn2.2 d hd hy).mono ?_
    rintro e w' ⟨hres, hb⟩
    have hlt := O.lt
    rcases hcase with ⟨rfl, rfl, rfl, hno, rfl⟩ | ⟨k, i, rfl, rfl, rfl, hf, hC⟩
    · rcases hres with ⟨e1, _⟩ | ⟨i, b', c', _, _, e2, _⟩
      · exact ⟨b, c, e1, ⟨g, hs', tk, O.over hb, M.over hb, R, np, ng⟩, hb⟩
      · exact absurd e2 (nofit_none R hni hd hno i)
    · obtain ⟨f1, f2, f3⟩ := fit_first R hni hwi hd hf
      rcases hres with ⟨_, e2⟩ | ⟨j, b', c', e1, e2, e3, e4, e5, e6⟩
      · exact absurd f2 (e2 i.1 f1)
      · have hji : j = i.1 := by
          rcases Nat.lt_trichotomy j i.1 with h | h | h
          · exact absurd e3 (f3 j h)
          · exact h
          · exact absurd f2 (e4 i.1 h)
        subst hji
        exact ⟨b', c', e1, ⟨g, hs', setTo tk i.1 d true, O.over hb, e5, rel_cut R hC, by omega, by omega⟩, hb⟩
end

set_option maxRecDepth 4000 in
set_option maxHeartbeats 4000000 in
theorem lsame_any {w0 w : World} {p g b c n : Nat} {hs : List (Nat × Nat)} {tk : Nat → Bool} (B : Both w0 w p g b c n hs tk) :
    Calls Try.prog 16 #[.pointer (some ⟨p, 0, none⟩), .slice (some ⟨b, 0, none⟩) n c] w fun e w' => e = .returned (.bool true) ∧ Below w.heap.size w w' := by
  have hn2 := B.own.n2
  have hq4 : hs.length ≤ 4096 := by
    have h1 := len_le hs 0 B.own.nice
    have h2 := sum_le hs 0 n B.own.nice B.own.within (Nat.zero_le _)
    omega
  have hcnt := cnt_taken B.own.nice B.own.within B.rel
  have cl := left_own B.own
  obtain ⟨s, hs0⟩ : ∃ s, s = sumH hs := ⟨_, rfl⟩
  obtain ⟨mx, hmx⟩ : ∃ mx, mx = maxH hs := ⟨_, rfl⟩
  obtain ⟨q, hq⟩ : ∃ q, q = hs.length := ⟨_, rfl⟩
  rw [← hs0] at cl hcnt
  have HB : Hid (Both w0 w p g b c n hs tk ∧ n ≤ 4096 ∧ cnt (fun b => !tk b) n = s ∧ mx = maxH hs ∧ q = hs.length ∧ q ≤ 5000) := ⟨B, hn2.2, hcnt, hmx, hq, by omega⟩
  clear B hn2 hq4 hcnt hs0 hmx hq
  go_enter Try.func16, Try.ntmps16
  go_wp2_with fail
  refine cl.mono ?_
  rintro e w1 ⟨rfl, b1⟩
  have B1 := HB.out.1.over b1
  have cr := rleft_any B1.ref HB.out.2.1
  rw [HB.out.2.2.1] at cr
  have HB1 : Hid (Both w0 w1 p g b c n hs tk ∧ Below w.heap.size w w1) := ⟨B1, b1⟩
  clear cl b1 B1
  go_wp2_with fail
  refine cr.mono ?_
  rintro e w2 ⟨rfl, h2⟩
  subst h2
  have cl := longest_own HB1.out.1.own
  rw [← HB.out.2.2.2.1] at cl
  clear cr
  go_wp2_with fail
  refine cl.mono ?_
  rintro e w3 ⟨rfl, b3⟩
  have B3 := HB1.out.1.over b3
  have cr := rlongest_any B3.ref HB.out.2.1 B3.own.nice B3.own.within B3.rel
  rw [← HB.out.2.2.2.1] at cr
  have HB3 : Hid (Both w0 w3 p g b c n hs tk ∧ Below w.heap.size w w3) := ⟨B3, HB1.out.2.trans (b3.mono HB1.out.2.size)⟩
  clear cl b3 B3
  go_wp2_with fail
  refine cr.mono ?_
  rintro e w4 ⟨rfl, b4⟩
  have B4 := HB3.out.1.over b4
  have cl := holes_own B4.own
  rw [← HB.out.2.2.2.2.1] at cl
  have HB4 : Hid (Both w0 w4 p g b c n hs tk ∧ Below w.heap.size w w4) := ⟨B4, HB3.out.2.trans (b4.mono HB3.out.2.size)⟩
  clear cr b4 B4
  go_wp2_with fail
  refine cl.mono ?_
  rintro e w5 ⟨⟨gh, ch, rfl, hsr, _⟩, b5⟩
  have B5 := HB4.out.1.over b5
  have cr := rholes_any B5.ref HB.out.2.1 B5.own.nice B5.own.within B5.rel
  rw [← HB.out.2.2.2.2.1] at cr
  have HB5 : Hid (SRows w5 (.slice (some ⟨gh, 0, none⟩) q ch) 32 2 (hs.map ec) ∧ Below w.heap.size w w5) := ⟨hsr, HB4.out.2.trans (b5.mono HB4.out.2.size)⟩
  clear cl b5 B5 hsr
  go_wp2_with fail
  refine cr.mono ?_
  rintro e w6 ⟨⟨va, vc, rfl, hsr⟩, b6⟩
  have h6 := HB5.out.1.of_block (fun x hx => b6.block x (HB5.out.1.lt hx))
  have cs := same_yes h6 hsr HB.out.2.2.2.2.2
  have HB6 : Hid (Below w.heap.size w w6) := HB5.out.2.trans (b6.mono HB5.out.2.size)
  clear cr b6 hsr h6
  go_wp2_with fail
  refine cs.mono ?_
  rintro e w7 ⟨rfl, b7⟩
  have HB7 : Hid (Below w.heap.size w w7) := HB6.out.trans (b7.mono HB6.out.size)
  clear cs b7
  go_wp2_with fail
  go_ret
  exact ⟨rfl, HB7.out⟩
end Go.Proofs.Ytjnobdgigeejnaa
