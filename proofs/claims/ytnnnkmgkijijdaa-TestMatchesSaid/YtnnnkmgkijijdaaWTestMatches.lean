/-
  The walk of law 17's TestMatches: whether any cell passes any test, and whether the test may be.
-/
import Derived.Test.YtnnnkmgkijijdaaTAwake
import Derived.Test.YtnnnkmgkijijdaaTOpen
namespace Go.Proofs.Ytnnnkmgkijijdaa
open Go.RowKit

set_option maxRecDepth 4000 in
set_option maxHeartbeats 16000000 in
theorem walkTestMatches (t : Ts) (c : Cl) {w : World} :
    Calls Try.prog 3 #[tv t, cv c] w fun e w' => e = .returned (.bool true) ∧ Below w.heap.size w w' := by
  have haw := awake_any
  have k1 := tcheck_any t
  have k2 : ∀ w, _ := fun w => match_any t c w
  have k3 : ∀ w, _ := fun w => refMatch_any t c w
  have k4 : ∀ w, _ := fun w => refMayT_any t w
  obtain ⟨x, hx⟩ : ∃ x, x = matchT t c := ⟨_, rfl⟩
  rw [← hx] at k2 k3
  clear hx
  have hcase : (mayT t = true ∧ errT t = 0) ∨ (mayT t = false ∧ errT t = 1) := by
    cases h : mayT t with
    | true => exact .inl ⟨rfl, errT_yes h⟩
    | false => exact .inr ⟨rfl, errT_no h⟩
  obtain ⟨op, ⟨vk, vn, vs⟩⟩ := t
  obtain ⟨ck, cn, cs⟩ := c
  by_cases h1 : (100 : Int) < (vs.size : Int)
  · clear k1 k2 k3 k4 hcase
    go_enter Try.func3, Try.ntmps3
    go_wp2_with (go_at_call 8; refine (haw _).mono ?_; rintro e w2 ⟨rfl, hb2⟩)
    go_ret
    exact ⟨rfl, (below2 _ _ _).trans (hb2.mono (by simp; omega))⟩
  by_cases h2 : (100 : Int) < (cs.size : Int)
  · clear k1 k2 k3 k4 hcase
    go_enter Try.func3, Try.ntmps3
    go_wp2_with (go_at_call 8; refine (haw _).mono ?_; rintro e w2 ⟨rfl, hb2⟩)
    go_ret
    exact ⟨rfl, (below2 _ _ _).trans (hb2.mono (by simp; omega))⟩
  rcases hcase with ⟨e1, e2⟩ | ⟨e1, e2⟩
  all_goals
    rw [e1] at k4
    rw [e2] at k1
    clear e1 e2
    go_enter Try.func3, Try.ntmps3
    go_wp2_with fail
    refine (k1 _).mono ?_
    rintro e w1 ⟨rfl, hb1⟩
    obtain ⟨b0, b1, hB⟩ := two_box hb1
    clear hb1
    have t0 := fun q : Above w1 => (b0.over q.is).cell 0 (.int .i64 op) rfl
    have t1 := fun q : Above w1 => (b0.over q.is).cell 1 (.int .i64 vk) rfl
    have t2 := fun q : Above w1 => (b0.over q.is).cell 2 (.int .i64 vn) rfl
    have t3 := fun q : Above w1 => (b0.over q.is).cell 3 (.string vs) rfl
    have c0 := fun q : Above w1 => (b1.over q.is).cell 0 (.int .i64 ck) rfl
    have c1 := fun q : Above w1 => (b1.over q.is).cell 1 (.int .i64 cn) rfl
    have c2 := fun q : Above w1 => (b1.over q.is).cell 2 (.string cs) rfl
    clear b0 b1 k1
    go_wp2_with fail
    refine wp_region_above (by kernel_rfl) (by kernel_rfl) ?_
    intro hne
    repeat (go_big_quiet_step (first
      | (go_at_call 10; exact above_of (k2 _))
      | (go_at_call 11; exact above_of (k3 _))
      | (go_at_call 12; exact above_of (k4 _))
      | (go_at_call 8; exact above_of (haw _))))
    refine wpQuiet_nil ?_
    rintro _ ⟨kq, rfl⟩
    have hbq := kq.is
    go_wp2_with fail
    go_ret
    exact ⟨rfl, hB.trans (hbq.mono hB.size)⟩
end Go.Proofs.Ytnnnkmgkijijdaa
