/-
  The walk of law 6's CellOrders: which of any two cells stands first, and whether they may be.
-/
import Derived.Test.YtjkkkdehmgfmeaaDoorKAwake
import Derived.Test.YtjkkkdehmgfmeaaDoorKRow
namespace Go.Proofs.YtjkkkdehmgfmeaaDoor
open Go.RowKit

/-- Two cells in new blocks, in every world above. -/
theorem above_two {w : World} {a b : Cl} {t : TypeId} (k : Above ((w.alloc (.cells #[.int .i64 a.k, .int .i64 a.n, .string a.s] t)).alloc (.cells #[.int .i64 b.k, .int .i64 b.n, .string b.s] t))) :
    Box k.it w.heap.size t #[.int .i64 a.k, .int .i64 a.n, .string a.s] ∧ Box k.it (w.heap.size + 1) t #[.int .i64 b.k, .int .i64 b.n, .string b.s] := by
  obtain ⟨h1, h2, _⟩ := two_box k.is
  exact ⟨h1, h2⟩

set_option maxRecDepth 4000 in
set_option maxHeartbeats 4000000 in
theorem walkCellOrders (a : Cl) (_ha : okC a) (b : Cl) (_hb : okC b) (w : World) (hE : Env w) :
    Calls Tryd.prog 3 #[cv a, cv b] w fun e w' => e = .returned (.bool true) ∧ Below w.heap.size w w' := by
  have hE2 : Env ((w.alloc (.cells #[.int .i64 a.k, .int .i64 a.n, .string a.s] 23)).alloc (.cells #[.int .i64 b.k, .int .i64 b.n, .string b.s] 23)) := hE.below (below2 _ _ _)
  by_cases h1 : (256 : Int) < (a.s.size : Int)
  · have haw := awake_any _ hE2
    clear hE hE2
    go_enter Tryd.func3, Tryd.ntmps3
    go_wp2_with (go_at_call 9; refine haw.mono ?_; rintro e w2 ⟨rfl, hb2⟩)
    go_ret
    exact ⟨rfl, (below2 _ _ _).trans (hb2.mono (by simp; omega))⟩
  · by_cases h2 : (256 : Int) < (b.s.size : Int)
    · have haw := awake_any _ hE2
      clear hE hE2
      go_enter Tryd.func3, Tryd.ntmps3
      go_wp2_with (go_at_call 9; refine haw.mono ?_; rintro e w2 ⟨rfl, hb2⟩)
      go_ret
      exact ⟨rfl, (below2 _ _ _).trans (hb2.mono (by simp; omega))⟩
    · have haw : ∀ kq : Above ((w.alloc (.cells #[.int .i64 a.k, .int .i64 a.n, .string a.s] 23)).alloc (.cells #[.int .i64 b.k, .int .i64 b.n, .string b.s] 23)), Calls Tryd.prog 9 #[] kq.it fun e w'' => e = .returned (.bool true) ∧ Below kq.it.heap.size kq.it w'' := fun kq => awake_any kq.it (hE2.below kq.is)
      have q0 : ∀ kq : Above ((w.alloc (.cells #[.int .i64 a.k, .int .i64 a.n, .string a.s] 23)).alloc (.cells #[.int .i64 b.k, .int .i64 b.n, .string b.s] 23)), kq.it.cell? ⟨w.heap.size, 0, none⟩ = some (.int .i64 a.k) := fun kq => (above_two kq).1.cell 0 _ rfl
      have q1 : ∀ kq : Above ((w.alloc (.cells #[.int .i64 a.k, .int .i64 a.n, .string a.s] 23)).alloc (.cells #[.int .i64 b.k, .int .i64 b.n, .string b.s] 23)), kq.it.cell? ⟨w.heap.size, 1, none⟩ = some (.int .i64 a.n) := fun kq => (above_two kq).1.cell 1 _ rfl
      have q2 : ∀ kq : Above ((w.alloc (.cells #[.int .i64 a.k, .int .i64 a.n, .string a.s] 23)).alloc (.cells #[.int .i64 b.k, .int .i64 b.n, .string b.s] 23)), kq.it.cell? ⟨w.heap.size, 2, none⟩ = some (.string a.s) := fun kq => (above_two kq).1.cell 2 _ rfl
      have r0 : ∀ kq : Above ((w.alloc (.cells #[.int .i64 a.k, .int .i64 a.n, .string a.s] 23)).alloc (.cells #[.int .i64 b.k, .int .i64 b.n, .string b.s] 23)), kq.it.cell? ⟨w.heap.size + 1, 0, none⟩ = some (.int .i64 b.k) := fun kq => (above_two kq).2.cell 0 _ rfl
      have r1 : ∀ kq : Above ((w.alloc (.cells #[.int .i64 a.k, .int .i64 a.n, .string a.s] 23)).alloc (.cells #[.int .i64 b.k, .int .i64 b.n, .string b.s] 23)), kq.it.cell? ⟨w.heap.size + 1, 1, none⟩ = some (.int .i64 b.n) := fun kq => (above_two kq).2.cell 1 _ rfl
      have r2 : ∀ kq : Above ((w.alloc (.cells #[.int .i64 a.k, .int .i64 a.n, .string a.s] 23)).alloc (.cells #[.int .i64 b.k, .int .i64 b.n, .string b.s] 23)), kq.it.cell? ⟨w.heap.size + 1, 2, none⟩ = some (.string b.s) := fun kq => (above_two kq).2.cell 2 _ rfl
      have c1 : ∀ w, Calls Tryd.prog 10 #[cv a, cv b] w fun e w' => e = .returned (.int .i64 (cmpC a b)) ∧ Below w.heap.size w w' := fun w => compare_any a b w
      have c2 : ∀ w, Calls Tryd.prog 11 #[cv a, cv b] w fun e w' => e = .returned (.int .i64 (cmpC a b)) ∧ Below w.heap.size w w' := fun w => refCompare_any a b w
      have c3 : ∀ w, Calls Tryd.prog 12 #[cv a] w fun e w' => e = .returned (.int .i64 (errC a)) ∧ Below w.heap.size w w' := fun w => check_any a w
      have c4 : ∀ w, Calls Tryd.prog 13 #[cv a] w fun e w' => e = .returned (.bool (mayC a)) ∧ Below w.heap.size w w' := fun w => may_any a w
      obtain ⟨x, hx⟩ : ∃ x, x = cmpC a b := ⟨_, rfl⟩
      rw [← hx] at c1 c2
      have hcase : (mayC a = true ∧ errC a = 0) ∨ (mayC a = false ∧ errC a = 1) := by
        cases h : mayC a with
        | true => exact .inl ⟨rfl, by unfold errC; rw [if_pos h]⟩
        | false => exact .inr ⟨rfl, by unfold errC; rw [if_neg (by rw [h]; simp)]⟩
      clear hE hE2 hx
      rcases hcase with ⟨e1, e2⟩ | ⟨e1, e2⟩
      all_goals
        rw [e1] at c4
        rw [e2] at c3
        clear e1 e2
        go_enter Tryd.func3, Tryd.ntmps3
        go_wp2_with fail
        refine wp_region_above (by kernel_rfl) (by kernel_rfl) ?_
        intro hne
        repeat (go_big_quiet_step (first
          | (go_at_call 10; exact above_of (c1 _))
          | (go_at_call 11; exact above_of (c2 _))
          | (go_at_call 12; exact above_of (c3 _))
          | (go_at_call 13; exact above_of (c4 _))
          | (go_at_call 9; exact above_of (haw _))))
        refine wpQuiet_nil ?_
        rintro _ ⟨kq, rfl⟩
        have hbq := kq.is
        go_wp2_with fail
        go_ret
        exact ⟨rfl, (below2 _ _ _).trans (hbq.mono (by simp; omega))⟩
end Go.Proofs.YtjkkkdehmgfmeaaDoor
