/-
  The walk of law 6's CellTotal: Compare is a total order.
-/
import Derived.Test.YtjkkkdehmgfmeaaDoorKAwake
import Derived.Test.YtjkkkdehmgfmeaaDoorKRow
namespace Go.Proofs.YtjkkkdehmgfmeaaDoor
open Go.RowKit

/-- A cell's block. -/
def cb (a : Cl) : Array Value := #[.int .i64 a.k, .int .i64 a.n, .string a.s]
/-- Three cells in new blocks, in every world above. -/
theorem above_three {w w1 : World} {A B C : Array Value} {t : TypeId} (h : Below (((w.alloc (.cells A t)).alloc (.cells B t)).alloc (.cells C t)).heap.size (((w.alloc (.cells A t)).alloc (.cells B t)).alloc (.cells C t)) w1) :
    Box w1 w.heap.size t A ∧ Box w1 (w.heap.size + 1) t B ∧ Box w1 (w.heap.size + 1 + 1) t C := by
  have b0 := box_new w A t
  have b1 := box_new (w.alloc (.cells A t)) B t
  have b2 := box_new ((w.alloc (.cells A t)).alloc (.cells B t)) C t
  rw [World.size_alloc] at b1
  rw [World.size_alloc, World.size_alloc] at b2
  exact ⟨((b0.over (below1 _ _)).over (below1 _ _)).over h, (b1.over (below1 _ _)).over h, b2.over h⟩
theorem below3c (w : World) (A B C : Obj) : Below w.heap.size w (((w.alloc A).alloc B).alloc C) := (below2 w A B).alloc (by simp; omega) C
/-- Cells that are not the same differ in a field. -/
theorem cl_apart {a b : Cl} (h : a ≠ b) : a.k ≠ b.k ∨ (a.k = b.k ∧ a.n ≠ b.n) ∨ (a.k = b.k ∧ a.n = b.n ∧ a.s.toList ≠ b.s.toList) := by
  by_cases h1 : a.k = b.k
  · by_cases h2 : a.n = b.n
    · refine .inr (.inr ⟨h1, h2, fun h3 => h (cl_ext h1 h2 h3)⟩)
    · exact .inr (.inl ⟨h1, h2⟩)
  · exact .inl h1

set_option maxRecDepth 4000 in
set_option maxHeartbeats 8000000 in
theorem walkCellTotal (a : Cl) (_ha : okC a) (b : Cl) (_hb : okC b) (c : Cl) (_hc : okC c) (w : World) (hE : Env w) :
    Calls Tryd.prog 4 #[cv a, cv b, cv c] w fun e w' => e = .returned (.bool true) ∧ Below w.heap.size w w' := by
  obtain ⟨w3, hw3⟩ : ∃ w3, w3 = ((w.alloc (.cells #[.int .i64 a.k, .int .i64 a.n, .string a.s] 23)).alloc (.cells #[.int .i64 b.k, .int .i64 b.n, .string b.s] 23)).alloc (.cells #[.int .i64 c.k, .int .i64 c.n, .string c.s] 23) := ⟨_, rfl⟩
  have hb3 : Below w.heap.size w w3 := by rw [hw3]; exact below3c _ _ _ _
  have hE3 : Env w3 := hE.below hb3
  have haw : ∀ kq : Above w3, Calls Tryd.prog 9 #[] kq.it fun e w'' => e = .returned (.bool true) ∧ Below kq.it.heap.size kq.it w'' := fun kq => awake_any kq.it (hE3.below kq.is)
  have haw0 := awake_any _ hE3
  have hbx : ∀ kq : Above w3, Box kq.it w.heap.size 23 #[.int .i64 a.k, .int .i64 a.n, .string a.s] ∧ Box kq.it (w.heap.size + 1) 23 #[.int .i64 b.k, .int .i64 b.n, .string b.s] ∧ Box kq.it (w.heap.size + 1 + 1) 23 #[.int .i64 c.k, .int .i64 c.n, .string c.s] := fun kq => by
    have h := kq.is
    subst hw3
    exact above_three h
  subst hw3
  clear hE hE3
  by_cases h1 : (256 : Int) < (a.s.size : Int)
  · clear haw hbx
    go_enter Tryd.func4, Tryd.ntmps4
    go_wp2_with (go_at_call 9; refine haw0.mono ?_; rintro e w2 ⟨rfl, hb2⟩)
    go_ret
    exact ⟨rfl, hb3.trans (hb2.mono hb3.size)⟩
  by_cases h2 : (256 : Int) < (b.s.size : Int)
  · clear haw hbx
    go_enter Tryd.func4, Tryd.ntmps4
    go_wp2_with (go_at_call 9; refine haw0.mono ?_; rintro e w2 ⟨rfl, hb2⟩)
    go_ret
    exact ⟨rfl, hb3.trans (hb2.mono hb3.size)⟩
  by_cases h3 : (256 : Int) < (c.s.size : Int)
  · clear haw hbx
    go_enter Tryd.func4, Tryd.ntmps4
    go_wp2_with (go_at_call 9; refine haw0.mono ?_; rintro e w2 ⟨rfl, hb2⟩)
    go_ret
    exact ⟨rfl, hb3.trans (hb2.mono hb3.size)⟩
  clear haw0
  have q0 := fun kq => (hbx kq).1.cell 0 (.int .i64 a.k) rfl
  have q1 := fun kq => (hbx kq).1.cell 1 (.int .i64 a.n) rfl
  have q2 := fun kq => (hbx kq).1.cell 2 (.string a.s) rfl
  have r0 := fun kq => (hbx kq).2.1.cell 0 (.int .i64 b.k) rfl
  have r1 := fun kq => (hbx kq).2.1.cell 1 (.int .i64 b.n) rfl
  have r2 := fun kq => (hbx kq).2.1.cell 2 (.string b.s) rfl
  have s0 := fun kq => (hbx kq).2.2.cell 0 (.int .i64 c.k) rfl
  have s1 := fun kq => (hbx kq).2.2.cell 1 (.int .i64 c.n) rfl
  have s2 := fun kq => (hbx kq).2.2.cell 2 (.string c.s) rfl
  have c1 : ∀ w, Calls Tryd.prog 10 #[.agg #[.int .i64 a.k, .int .i64 a.n, .string a.s], .agg #[.int .i64 b.k, .int .i64 b.n, .string b.s]] w fun e w' => e = .returned (.int .i64 (cmpC a b)) ∧ Below w.heap.size w w' := fun w => compare_any a b w
  have c2 : ∀ w, Calls Tryd.prog 10 #[.agg #[.int .i64 b.k, .int .i64 b.n, .string b.s], .agg #[.int .i64 a.k, .int .i64 a.n, .string a.s]] w fun e w' => e = .returned (.int .i64 (cmpC b a)) ∧ Below w.heap.size w w' := fun w => compare_any b a w
  have c3 : ∀ w, Calls Tryd.prog 10 #[.agg #[.int .i64 b.k, .int .i64 b.n, .string b.s], .agg #[.int .i64 c.k, .int .i64 c.n, .string c.s]] w fun e w' => e = .returned (.int .i64 (cmpC b c)) ∧ Below w.heap.size w w' := fun w => compare_any b c w
  have c4 : ∀ w, Calls Tryd.prog 10 #[.agg #[.int .i64 a.k, .int .i64 a.n, .string a.s], .agg #[.int .i64 c.k, .int .i64 c.n, .string c.s]] w fun e w' => e = .returned (.int .i64 (cmpC a c)) ∧ Below w.heap.size w w' := fun w => compare_any a c w
  have HF : Hid (cmpC b a = - cmpC a b ∧ (cmpC a b = 0 ↔ a = b) ∧ (-1 ≤ cmpC a b ∧ cmpC a b ≤ 1) ∧ (cmpC a b ≤ 0 → cmpC b c ≤ 0 → cmpC a c ≤ 0) ∧ (0 ≤ cmpC a b → 0 ≤ cmpC b c → 0 ≤ cmpC a c) ∧ (-1 ≤ cmpC b c ∧ cmpC b c ≤ 1) ∧ (-1 ≤ cmpC a c ∧ cmpC a c ≤ 1)) := by
    refine ⟨cmpC_flip a b, cmpC_zero a b, cmpC_bd a b, cmpC_trans a b c, fun x y => ?_, cmpC_bd b c, cmpC_bd a c⟩
    have z := cmpC_trans c b a
    rw [cmpC_flip b c, cmpC_flip a b, cmpC_flip a c] at z
    have := z (by omega) (by omega)
    omega
  obtain ⟨x, hx⟩ : ∃ x, x = cmpC a b := ⟨_, rfl⟩
  obtain ⟨y, hy⟩ : ∃ y, y = cmpC b a := ⟨_, rfl⟩
  obtain ⟨u, hu⟩ : ∃ u, u = cmpC b c := ⟨_, rfl⟩
  obtain ⟨v, hv⟩ : ∃ v, v = cmpC a c := ⟨_, rfl⟩
  rw [← hx] at c1 HF
  rw [← hy] at c2 HF
  rw [← hu] at c3 HF
  rw [← hv] at c4 HF
  clear hx hy hu hv hbx
  go_enter Tryd.func4, Tryd.ntmps4
  go_wp2_with fail
  refine wp_region_above (by kernel_rfl) (by kernel_rfl) ?_
  intro hne
  repeat (go_big_quiet_step (fail))
  go_big_quiet_step (first | (go_at_call 10; exact above_of (c1 _)))
  repeat (go_big_quiet_step (fail))
  go_big_quiet_step (first | (go_at_call 10; exact above_of (c2 _)))
  repeat (go_big_quiet_step (fail))
  go_big_quiet_step (first | (go_at_call 10; exact above_of (c3 _)))
  repeat (go_big_quiet_step (fail))
  go_big_quiet_step (first | (go_at_call 10; exact above_of (c4 _)))
  repeat (go_big_quiet_step (fail))
  refine wpQuiet_nil ?_
  rintro _ ⟨kq, rfl⟩
  have hbq := kq.is
  obtain ⟨rfl, hz, hx, ht, ht', hu, hv⟩ := HF.out
  have hx3 : x = 0 ∨ x = -1 ∨ x = 1 := by omega
  have hu3 : u = 0 ∨ u = -1 ∨ u = 1 := by omega
  have hv3 : v = 0 ∨ v = -1 ∨ v = 1 := by omega
  clear HF
  rcases hx3 with rfl | rfl | rfl
  · obtain rfl := hz.1 rfl
    clear hz hx hu hv
    rcases hu3 with rfl | rfl | rfl <;> rcases hv3 with rfl | rfl | rfl
    all_goals first
      | exact absurd (ht (by decide) (by decide)) (by decide)
      | exact absurd (ht' (by decide) (by decide)) (by decide)
      | (clear ht ht'
         go_wp2_with (go_at_call 9; refine (haw _).mono ?_; rintro e w2 ⟨rfl, hb2⟩)
         go_ret
         exact ⟨rfl, hb3.trans ((hbq.trans (hb2.mono hbq.size)).mono hb3.size)⟩)
  · have hab := cl_apart fun e => absurd (hz.2 e) (by decide)
    clear hz hx hu hv
    rcases hab with h | ⟨hk, h⟩ | ⟨hk, hn, h⟩ <;> rcases hu3 with rfl | rfl | rfl <;> rcases hv3 with rfl | rfl | rfl
    all_goals first
      | exact absurd (ht (by decide) (by decide)) (by decide)
      | exact absurd (ht' (by decide) (by decide)) (by decide)
      | (clear ht ht'
         go_wp2_with (go_at_call 9; refine (haw _).mono ?_; rintro e w2 ⟨rfl, hb2⟩)
         go_ret
         exact ⟨rfl, hb3.trans ((hbq.trans (hb2.mono hbq.size)).mono hb3.size)⟩)
  · have hab := cl_apart fun e => absurd (hz.2 e) (by decide)
    clear hz hx hu hv
    rcases hab with h | ⟨hk, h⟩ | ⟨hk, hn, h⟩ <;> rcases hu3 with rfl | rfl | rfl <;> rcases hv3 with rfl | rfl | rfl
    all_goals first
      | exact absurd (ht (by decide) (by decide)) (by decide)
      | exact absurd (ht' (by decide) (by decide)) (by decide)
      | (clear ht ht'
         go_wp2_with (go_at_call 9; refine (haw _).mono ?_; rintro e w2 ⟨rfl, hb2⟩)
         go_ret
         exact ⟨rfl, hb3.trans ((hbq.trans (hb2.mono hbq.size)).mono hb3.size)⟩)
end Go.Proofs.YtjkkkdehmgfmeaaDoor
