/-
  A map that a call made itself: its methods; law 5's awake.
-/
import Derived.Test.YtjnobdgigeejnaaEFree
namespace Go.Proofs.Ytjnobdgigeejnaa
open Go.RowKit

/-- The map at p is the call's own: all that it turns lies above w. -/
def Own (w W : World) (p g n : Nat) (hs : List (Nat × Nat)) : Prop := ∃ cap, MapIs W p g n cap hs ∧ w.heap.size ≤ p ∧ w.heap.size ≤ g ∧ Below w.heap.size w W
/-- A step: nothing but the map is turned. -/
def Step (W W' : World) (p g g' : Nat) : Prop := (g' = g ∨ W.heap.size ≤ g') ∧ Kept (fun x => x = p ∨ x = g) W W'
section
variable {w W W' : World} {p g g' n cap : Nat} {hs hs' : List (Nat × Nat)}
theorem Step.below (b : Below W.heap.size W W') : Step W W' p g g := ⟨.inl rfl, kept_of_below _ b⟩
theorem Step.box (h : Step W W' p g g') {b : Nat} {t : TypeId} {c : Array Value} (B : Box W b t c) (h1 : b ≠ p) (h2 : b ≠ g) : Box W' b t c := B.kept h.2 (fun e => by rcases e with e | e; exact h1 e; exact h2 e)
theorem Own.bel (h : Own w W p g n hs) : Below w.heap.size w W := by obtain ⟨_, _, _, _, h⟩ := h; exact h
theorem Own.lt (h : Own w W p g n hs) : p < W.heap.size ∧ g < W.heap.size ∧ w.heap.size ≤ p ∧ w.heap.size ≤ g := by obtain ⟨_, m, h1, h2, _⟩ := h; exact ⟨m.ltp, m.ltg, h1, h2⟩
theorem Own.over (h : Own w W p g n hs) (b : Below W.heap.size W W') : Own w W' p g n hs := by
  obtain ⟨cap, h1, h2, h3, h4⟩ := h
  exact ⟨cap, h1.over b, h2, h3, h4.trans (b.mono h4.size)⟩
theorem own_to (h1 : w.heap.size ≤ p) (h2 : w.heap.size ≤ g) (h3 : Below w.heap.size w W) (h : MapTo W p g n hs' W') : ∃ g', Own w W' p g' n hs' ∧ Step W W' p g g' := by
  obtain ⟨g', cap', m, hg, k⟩ := h
  have hs := h3.size
  refine ⟨g', ⟨cap', m, h1, ?_, h3.trans (k.below (fun x hx => ?_) h3.size)⟩, hg, k⟩
  · rcases hg with h | h <;> omega
  · have hx : x = p ∨ x = g := hx
    rcases hx with h | h <;> omega
theorem alloc_own (h : Own w W p g n hs) (c : Int) (hc : 1 ≤ c) :
    Calls Try.prog 10 #[.pointer (some ⟨p, 0, none⟩), .int .i64 c] W fun e W' =>
      (e = .returned (.tuple #[.agg #[.int .i64 0, .int .i64 0], .int .i64 2]) ∧ NoFit hs c ∧ Below W.heap.size W W') ∨
      ∃ (k : Nat) (x : Nat × Nat) (d : Nat), c = d ∧ e = .returned (.tuple #[.agg #[.int .i64 x.1, .int .i64 d], .int .i64 0]) ∧ FirstFit hs c k x ∧ ∃ hs' g', Cut hs hs' n x.1 d ∧ Own w W' p g' n hs' ∧ Step W W' p g g' := by
  obtain ⟨cap, h1, h2, h3, h4⟩ := h
  refine (alloc_any h1 c hc).mono ?_
  rintro e W' (⟨e1, e2, e3⟩ | ⟨k, x, d, e1, e2, e3, hs', e4, e5⟩)
  · exact .inl ⟨e1, e2, e3⟩
  · obtain ⟨g', o, st⟩ := own_to h2 h3 h4 e5
    exact .inr ⟨k, x, d, e1, e2, e3, hs', g', e4, o, st⟩
theorem take_own (h : Own w W p g n hs) (a c : Nat) (hc : 1 ≤ c) (han : a + c ≤ n) :
    Calls Try.prog 14 #[.pointer (some ⟨p, 0, none⟩), .agg #[.int .i64 a, .int .i64 c]] W fun e W' =>
      (e = .returned (.int .i64 3) ∧ ¬ AllFree hs a c ∧ Below W.heap.size W W') ∨ (e = .returned (.int .i64 0) ∧ AllFree hs a c ∧ ∃ hs' g', Cut hs hs' n a c ∧ Own w W' p g' n hs' ∧ Step W W' p g g') := by
  obtain ⟨cap, h1, h2, h3, h4⟩ := h
  refine (take_any h1 a c hc han).mono ?_
  rintro e W' (⟨e1, e2, e3⟩ | ⟨e1, e2, hs', e4, e5⟩)
  · exact .inl ⟨e1, e2, e3⟩
  · obtain ⟨g', o, st⟩ := own_to h2 h3 h4 e5
    exact .inr ⟨e1, e2, hs', g', e4, o, st⟩
theorem free_own (h : Own w W p g n hs) (a c : Nat) (hc : 1 ≤ c) (han : a + c ≤ n) :
    Calls Try.prog 12 #[.pointer (some ⟨p, 0, none⟩), .agg #[.int .i64 a, .int .i64 c]] W fun e W' =>
      (e = .returned (.int .i64 3) ∧ ¬ NoneFree hs a c ∧ Below W.heap.size W W') ∨ (e = .returned (.int .i64 0) ∧ NoneFree hs a c ∧ ∃ hs' g', Filled hs hs' n a c ∧ Own w W' p g' n hs' ∧ Step W W' p g g') := by
  obtain ⟨cap, h1, h2, h3, h4⟩ := h
  refine (free_any h1 a c hc han).mono ?_
  rintro e W' (⟨e1, e2, e3⟩ | ⟨e1, e2, hs', e4, e5⟩)
  · exact .inl ⟨e1, e2, e3⟩
  · obtain ⟨g', o, st⟩ := own_to h2 h3 h4 e5
    exact .inr ⟨e1, e2, hs', g', e4, o, st⟩
theorem Own.nice (h : Own w W p g n hs) : Nice 0 hs := by obtain ⟨_, h, _⟩ := h; exact h.nice
theorem Own.within (h : Own w W p g n hs) : Within n hs := by obtain ⟨_, h, _⟩ := h; exact h.within
theorem left_own (h : Own w W p g n hs) : Calls Try.prog 19 #[.pointer (some ⟨p, 0, none⟩)] W fun e W' => e = .returned (.int .i64 (sumH hs)) ∧ Below W.heap.size W W' := by
  obtain ⟨cap, h1, _⟩ := h
  exact left_any h1
theorem longest_own (h : Own w W p g n hs) : Calls Try.prog 18 #[.pointer (some ⟨p, 0, none⟩)] W fun e W' => e = .returned (.int .i64 (maxH hs)) ∧ Below W.heap.size W W' := by
  obtain ⟨cap, h1, _⟩ := h
  exact longest_any h1
theorem holes_own (h : Own w W p g n hs) : Calls Try.prog 20 #[.pointer (some ⟨p, 0, none⟩)] W fun e w' => (∃ g' cap', e = .returned (.slice (some ⟨g', 0, none⟩) hs.length cap') ∧ SRows w' (.slice (some ⟨g', 0, none⟩) hs.length cap') 32 2 (hs.map ec) ∧ W.heap.size ≤ g') ∧ Below W.heap.size W w' := by
  obtain ⟨cap, h1, _⟩ := h
  exact holes_any h1
end
theorem new_own (n : Nat) (w : World) (h1 : 1 ≤ n) (h2 : n ≤ 4096) :
    Calls Try.prog 8 #[.int .i64 n] w fun e w' => ∃ p, e = .returned (.tuple #[.pointer (some ⟨p, 0, none⟩), .int .i64 0]) ∧ ∃ g, Own w w' p g n [(0, n)] := by
  refine (new_any n w h1 h2).mono ?_
  rintro e w' ⟨⟨p, g, e1, e2, e3, e4⟩, e5⟩
  exact ⟨p, e1, g, 1, e2, e3, e4, e5⟩

theorem cut_is {hs hs' T : List (Nat × Nat)} {n a c : Nat} (h : Cut hs hs' n a c) (hT : Nice 0 T) (hf : ∀ b, FreeAt T b ↔ FreeAt hs b ∧ ¬ (a ≤ b ∧ b < a + c)) : hs' = T :=
  nice_unique hs' T 0 0 h.1 hT fun b => (h.2.2 b).trans (hf b).symm
theorem filled_is {hs hs' T : List (Nat × Nat)} {n a c : Nat} (h : Filled hs hs' n a c) (hT : Nice 0 T) (hf : ∀ b, FreeAt T b ↔ FreeAt hs b ∨ (a ≤ b ∧ b < a + c)) : hs' = T :=
  nice_unique hs' T 0 0 h.1 hT fun b => (h.2.2 b).trans (hf b).symm
theorem fit_one {x y : Nat × Nat} {c : Int} {k : Nat} (h : FirstFit [x] c k y) : y = x := by
  have := h.1
  cases k with
  | zero => simp at this; exact this.symm
  | succ k => simp at this

set_option maxRecDepth 4000 in
set_option maxHeartbeats 4000000 in
theorem awake_any (w : World) : Calls Try.prog 17 #[] w fun e w' => e = .returned (.bool true) ∧ Below w.heap.size w w' := by
  have cn := new_own 4 w (by decide) (by decide)
  go_enter Try.func17, Try.ntmps17
  go_wp2_with fail
  refine cn.mono ?_
  rintro e w1 ⟨p, rfl, g1, O1⟩
  have ca := alloc_own O1 2 (by decide)
  clear cn O1
  go_wp2_with fail
  refine ca.mono ?_
  rintro e w2 (⟨_, hno, _⟩ | ⟨k, x, d, hd, rfl, hfit, hs', g2, hcut, O2, _⟩)
  · exact absurd (hno (0, 4) (by simp)) (by decide)
  have hx := fit_one hfit
  subst hx
  obtain rfl : d = 2 := by omega
  have e1 := cut_is hcut (T := [(2, 2)]) ⟨by decide, by decide, trivial⟩ (fun b => by simp only [free_cons, free_nil, or_false]; omega)
  subst e1
  clear hd hfit hcut ca
  have b2 := below1 w2 (.cells #[.int .i64 0, .int .i64 2] 32)
  have O3 := O2.over b2
  have B3 := box_new w2 #[.int .i64 0, .int .i64 2] 32
  have ca := alloc_own O3 1 (by decide)
  have hl2 := O2.lt
  clear b2
  go_wp2_with fail
  refine ca.mono ?_
  rintro e w3 (⟨_, hno, _⟩ | ⟨k, x, d, hd, rfl, hfit, hs', g3, hcut, O4, S4⟩)
  · exact absurd (hno (2, 2) (by simp)) (by decide)
  have hx := fit_one hfit
  subst hx
  obtain rfl : d = 1 := by omega
  have e1 := cut_is hcut (T := [(3, 1)]) ⟨by decide, by decide, trivial⟩ (fun b => by simp only [free_cons, free_nil, or_false]; omega)
  subst e1
  have B4 := S4.box B3 (by omega) (by omega)
  have b4 := below1 w3 (.cells #[.int .i64 2, .int .i64 1] 32)
  have O5 := O4.over b4
  have B5 := B4.over b4
  have x0 := B5.cell 0 _ rfl
  have x1 := B5.cell 1 _ rfl
  have cf := free_own O5 0 2 (by decide) (by decide)
  clear hd hfit hcut ca O3 O4 O2 B3 B4 B5 S4 b4 hl2 O5
  go_wp2_with fail
  refine cf.mono ?_
  rintro e w4 (⟨_, hno, _⟩ | ⟨rfl, _, hs', g4, hfil, O6, _⟩)
  · exact absurd (fun b h1 h2 hf => by simp only [free_cons, free_nil, or_false] at hf; omega) hno
  have e1 := filled_is hfil (T := [(0, 2), (3, 1)]) ⟨by decide, by decide, by decide, by decide, trivial⟩ (fun b => by simp only [free_cons, free_nil, or_false]; omega)
  subst e1
  have cl := left_own O6
  have HO : Hid (Own w w4 p g4 4 [(0, 2), (3, 1)]) := O6
  clear hfil cf x0 x1 O6
  rw [show sumH [(0, 2), (3, 1)] = 3 by decide] at cl
  go_wp2_with fail
  refine cl.mono ?_
  rintro e w5 ⟨rfl, b5⟩
  have O7 := HO.out.over b5
  have cl := longest_own O7
  rw [show maxH [(0, 2), (3, 1)] = 2 by decide] at cl
  have HO : Hid (Own w w5 p g4 4 [(0, 2), (3, 1)]) := O7
  clear b5 O7
  go_wp2_with fail
  refine cl.mono ?_
  rintro e w6 ⟨rfl, b6⟩
  have O8 := HO.out.over b6
  have cl := holes_own O8
  have HO : Hid (Own w w6 p g4 4 [(0, 2), (3, 1)]) := O8
  clear b6 O8
  go_wp2_with fail
  refine cl.mono ?_
  rintro e w7 ⟨⟨g', cap', rfl, _⟩, b7⟩
  have HB : Hid (Below w.heap.size w w7) := HO.out.bel.trans (b7.mono HO.out.bel.size)
  have cl := for_any 129 (by decide) w7
  rw [show forB 129 = 2 by decide] at cl
  clear b7
  go_wp2_with fail
  refine cl.mono ?_
  rintro e w8 ⟨rfl, h8⟩
  subst h8
  clear cl
  go_wp2_with fail
  go_ret
  exact ⟨rfl, HB.out⟩
end Go.Proofs.Ytjnobdgigeejnaa
