/-
  The contract of law 17's awake.
-/
import Derived.Test.YtnnnkmgkijijdaaTZoneAll
import Derived.Test.YtnnnkmgkijijdaaTAll
import Derived.Test.YtnnnkmgkijijdaaTBounds
namespace Go.Proofs.Ytnnnkmgkijijdaa
open Go.RowKit

theorem row_new3 (w : World) (a b c : Cl) : RowIs (w.alloc (.cells #[.int .i64 a.k, .int .i64 a.n, .string a.s, .int .i64 b.k, .int .i64 b.n, .string b.s, .int .i64 c.k, .int .i64 c.n, .string c.s] 23)) (.slice (some ⟨w.heap.size, 0, none⟩) 3 3) [a, b, c] := by
  have bx := box_new w #[.int .i64 a.k, .int .i64 a.n, .string a.s, .int .i64 b.k, .int .i64 b.n, .string b.s, .int .i64 c.k, .int .i64 c.n, .string c.s] 23
  refine ⟨some ⟨w.heap.size, 0, none⟩, 3, rfl, fun _ => ⟨w.heap.size, 0, rfl, by simp, fun i x hi => ?_⟩⟩
  match i with
  | 0 => simp at hi; subst hi; exact ⟨bx.cell 0 _ rfl, bx.cell 1 _ rfl, bx.cell 2 _ rfl⟩
  | 1 => simp at hi; subst hi; exact ⟨bx.cell 3 _ rfl, bx.cell 4 _ rfl, bx.cell 5 _ rfl⟩
  | 2 => simp at hi; subst hi; exact ⟨bx.cell 6 _ rfl, bx.cell 7 _ rfl, bx.cell 8 _ rfl⟩
  | i + 3 => simp at hi
theorem nums_new3 (w : World) (a b c : Int) : NumsIs (w.alloc (.cells #[.int .i64 a, .int .i64 b, .int .i64 c] 3)) (.slice (some ⟨w.heap.size, 0, none⟩) 3 3) [a, b, c] := by
  have bx := box_new w #[.int .i64 a, .int .i64 b, .int .i64 c] 3
  refine ⟨some ⟨w.heap.size, 0, none⟩, 3, rfl, fun _ => ⟨w.heap.size, 0, rfl, by simp, fun i x hi => ?_⟩⟩
  match i with
  | 0 => simp at hi; subst hi; exact bx.cell 0 _ rfl
  | 1 => simp at hi; subst hi; exact bx.cell 1 _ rfl
  | 2 => simp at hi; subst hi; exact bx.cell 2 _ rfl
  | i + 3 => simp at hi

def zC : Zn := ⟨numC 5, numC 9, 1, 3⟩
def ltC : Ts := ⟨3, numC 5⟩
def geC : Ts := ⟨6, numC 3⟩
theorem isZone_C : IsZone [numC 5, cl0, numC 9] zC := by
  refine ⟨by decide, by decide, fun h => absurd (h (numC 5) (by simp)) (by decide), fun _ => ⟨⟨by simp [zC], by decide⟩, by simp [zC], by decide⟩, fun c hc hk => ?_, fun c hc hk => ?_⟩
  · simp only [List.mem_cons, List.not_mem_nil, or_false] at hc
    rcases hc with rfl | rfl | rfl
    · show cmpC (numC 5) (numC 5) ≤ 0
      rw [cmp_nums]; decide
    · exact absurd rfl hk
    · show cmpC (numC 5) (numC 9) ≤ 0
      rw [cmp_nums]; decide
  · simp only [List.mem_cons, List.not_mem_nil, or_false] at hc
    rcases hc with rfl | rfl | rfl
    · show cmpC (numC 5) (numC 9) ≤ 0
      rw [cmp_nums]; decide
    · exact absurd rfl hk
    · show cmpC (numC 9) (numC 9) ≤ 0
      rw [cmp_nums]; decide
theorem may_lt : mayT ltC = true := by decide
theorem may_ge : mayT geC = true := by decide
theorem none_lt : noneT ltC zC = true := by
  rw [noneT_may may_lt]
  have : matchT ltC zC.mn = false := by
    show matchT ltC (numC 5) = false
    rw [match_num may_lt]
    show (decide ((3 : Int) = 8) || standB 3 (cmpC (numC 5) (numC 5))) = false
    rw [cmp_nums]; decide
  rw [this]
  decide
theorem all_lt : allT ltC zC = false := by
  rw [allT_may may_lt]
  rw [if_neg (by decide), decide_eq_false (show ¬ zC.nu = 0 by decide)]
  simp
theorem match_lt : matchT ltC (numC 4) = true := by
  rw [match_num may_lt]
  show (decide ((3 : Int) = 8) || standB 3 (cmpC (numC 4) (numC 5))) = true
  rw [cmp_nums]; decide
theorem rise_C : Rise [1, 3, 8] := by
  intro i j x y hij hx hy
  match i, j with
  | 0, 1 => simp at hx hy; omega
  | 0, 2 => simp at hx hy; omega
  | 1, 2 => simp at hx hy; omega
  | _, j + 3 => simp at hy
  | i + 3, _ => simp at hx
  | 0, 0 => omega
  | 1, 0 => omega
  | 1, 1 => omega
  | 2, 0 => omega
  | 2, 1 => omega
  | 2, 2 => omega
theorem bounds_C {f u : Nat} (h : BoundsAns geC [1, 3, 8] f u) : f = 1 ∧ u = 3 := by
  obtain ⟨-, h2, -, h4⟩ := h
  have h5 := h4 may_ge (by decide)
  have m : ∀ x, matchT geC (numC x) = decide (0 ≤ cmpI x 3) := fun x => by
    rw [match_num may_ge]
    show (decide ((6 : Int) = 8) || standB 6 (cmpC (numC x) (numC 3))) = _
    rw [cmp_nums]
    simp [standB]
  have a0 := h5 0 1 rfl
  have a1 := h5 1 3 rfl
  have a2 := h5 2 8 rfl
  rw [m] at a0 a1 a2
  have b0 : decide (0 ≤ cmpI 1 3) = false := by decide
  have b1 : decide (0 ≤ cmpI 3 3) = true := by decide
  have b2 : decide (0 ≤ cmpI 8 3) = true := by decide
  rw [b0] at a0
  rw [b1] at a1
  rw [b2] at a2
  simp at a0 a1 a2 h2
  omega
theorem none_C (w : World) : Calls Try.prog 18 #[tv ltC, zv zC] w fun e w' => e = .returned (.bool true) ∧ Below w.heap.size w w' := by have := none_any ltC zC w; rwa [none_lt] at this
theorem all_C (w : World) : Calls Try.prog 20 #[tv ltC, zv zC] w fun e w' => e = .returned (.bool false) ∧ Below w.heap.size w w' := by have := all_any ltC zC w; rwa [all_lt] at this
theorem match_C (w : World) : Calls Try.prog 10 #[tv ltC, cv (numC 4)] w fun e w' => e = .returned (.bool true) ∧ Below w.heap.size w w' := by have := match_any ltC (numC 4) w; rwa [match_lt] at this
theorem check_C (w : World) : Calls Try.prog 9 #[tv ltC] w fun e w' => e = .returned (.int .i64 0) ∧ Below w.heap.size w w' := by have := tcheck_any ltC w; rwa [errT_yes may_lt] at this
theorem check_0 (w : World) : Calls Try.prog 9 #[tv ⟨0, cl0⟩] w fun e w' => e = .returned (.int .i64 1) ∧ Below w.heap.size w w' := by have := tcheck_any ⟨0, cl0⟩ w; rwa [errT_no (mayT_oth (by omega))] at this
theorem zone_C (w : World) : Calls Try.prog 14 #[.slice (some ⟨w.heap.size, 0, none⟩) 3 3] (w.alloc (.cells #[.int .i64 1, .int .i64 5, .string ⟨#[]⟩, .int .i64 0, .int .i64 0, .string ⟨#[]⟩, .int .i64 1, .int .i64 9, .string ⟨#[]⟩] 23)) fun e w' => e = .returned (zv zC) ∧ Below w.heap.size w w' := by
  refine (zone_any (row_new3 w (numC 5) cl0 (numC 9)) (by simp)).mono ?_
  rintro e w' ⟨⟨z, rfl, hz⟩, hb⟩
  obtain rfl := hz.unique isZone_C
  exact ⟨rfl, (below1 _ _).trans (hb.mono (by simp))⟩
theorem bnd_C (w : World) : Calls Try.prog 23 #[tv geC, .slice (some ⟨w.heap.size, 0, none⟩) 3 3] (w.alloc (.cells #[.int .i64 1, .int .i64 3, .int .i64 8] 3)) fun e w' => e = .returned (.tuple #[.int .i64 1, .int .i64 3]) ∧ Below w.heap.size w w' := by
  refine (bounds_any (nums_new3 w 1 3 8) rise_C (by simp) geC).mono ?_
  rintro e w' ⟨⟨f, u, rfl, h⟩, hb⟩
  obtain ⟨rfl, rfl⟩ := bounds_C h
  exact ⟨rfl, (below1 _ _).trans (hb.mono (by simp))⟩

set_option maxRecDepth 4000 in
set_option maxHeartbeats 16000000 in
theorem awake_any (w : World) :
    Calls Try.prog 8 #[] w fun e w' => e = .returned (.bool true) ∧ Below w.heap.size w w' := by
  have n5 : ∀ w, Calls Try.prog 24 #[.int .i64 5] w fun e w' => e = .returned (.agg #[.int .i64 1, .int .i64 5, .string ⟨#[]⟩]) ∧ Below w.heap.size w w' := num_any 5
  have n9 : ∀ w, Calls Try.prog 24 #[.int .i64 9] w fun e w' => e = .returned (.agg #[.int .i64 1, .int .i64 9, .string ⟨#[]⟩]) ∧ Below w.heap.size w w' := num_any 9
  have n3 : ∀ w, Calls Try.prog 24 #[.int .i64 3] w fun e w' => e = .returned (.agg #[.int .i64 1, .int .i64 3, .string ⟨#[]⟩]) ∧ Below w.heap.size w w' := num_any 3
  have n4 : ∀ w, Calls Try.prog 24 #[.int .i64 4] w fun e w' => e = .returned (.agg #[.int .i64 1, .int .i64 4, .string ⟨#[]⟩]) ∧ Below w.heap.size w w' := num_any 4
  go_enter Try.func8, Try.ntmps8
  go_wp2_with fail
  refine (n5 _).mono ?_
  rintro e w1 ⟨rfl, hb1⟩
  go_wp2_with fail
  refine (n9 _).mono ?_
  rintro e w2 ⟨rfl, hb2⟩
  replace hb2 := hb1.trans (hb2.mono hb1.size)
  clear hb1
  go_wp2_with fail
  refine (zone_C _).mono ?_
  rintro e w3 ⟨rfl, hb3⟩
  replace hb3 := hb2.trans (hb3.mono hb2.size)
  clear hb2
  have bz := box_new w3 (za zC) 34
  have hb4 := hb3.trans ((below1 w3 (.cells (za zC) 34)).mono hb3.size)
  obtain ⟨pz, hpz⟩ : ∃ p, p = w3.heap.size := ⟨_, rfl⟩
  clear hb3
  go_wp2_with fail
  refine (n5 _).mono ?_
  rintro e w4 ⟨rfl, hb5⟩
  replace bz := bz.over hb5
  replace hb5 := hb4.trans (hb5.mono hb4.size)
  clear hb4
  rw [← hpz] at bz
  have bl := box_new w4 (ta ltC) 25
  replace bz := bz.over (below1 w4 (.cells (ta ltC) 25))
  have hb6 := hb5.trans ((below1 w4 (.cells (ta ltC) 25)).mono hb5.size)
  clear hb5
  go_wp2_with fail
  refine (n3 _).mono ?_
  rintro e w5 ⟨rfl, hb7⟩
  replace bz := bz.over hb7
  replace bl := bl.over hb7
  replace hb7 := hb6.trans (hb7.mono hb6.size)
  clear hb6
  go_wp2_with fail
  refine (bnd_C _).mono ?_
  rintro e w6 ⟨rfl, hb8⟩
  replace bz := bz.over hb8
  replace bl := bl.over hb8
  replace hb8 := hb7.trans (hb8.mono hb7.size)
  clear hb7
  subst hpz
  have HZ : ∀ q : Above w6, Box q.it w3.heap.size 34 (za zC) := fun q => bz.over q.is
  have HT : ∀ q : Above w6, Box q.it w4.heap.size 25 (ta ltC) := fun q => bl.over q.is
  have a0 := fun q => (HZ q).cell 0 (.int .i64 1) rfl
  have a1 := fun q => (HZ q).cell 1 (.int .i64 5) rfl
  have a2 := fun q => (HZ q).cell 2 (.string ⟨#[]⟩) rfl
  have a3 := fun q => (HZ q).cell 3 (.int .i64 1) rfl
  have a4 := fun q => (HZ q).cell 4 (.int .i64 9) rfl
  have a5 := fun q => (HZ q).cell 5 (.string ⟨#[]⟩) rfl
  have a6 := fun q => (HZ q).cell 6 (.int .i64 1) rfl
  have a7 := fun q => (HZ q).cell 7 (.int .i64 3) rfl
  have t0 := fun q => (HT q).cell 0 (.int .i64 3) rfl
  have t1 := fun q => (HT q).cell 1 (.int .i64 1) rfl
  have t2 := fun q => (HT q).cell 2 (.int .i64 5) rfl
  have t3 := fun q => (HT q).cell 3 (.string ⟨#[]⟩) rfl
  have k1 := none_C
  have k2 := all_C
  have k3 := match_C
  have k4 := check_C
  have k5 := check_0
  clear HZ HT bz bl
  go_wp2_with fail
  refine wp_region_above (by kernel_rfl) (by kernel_rfl) ?_
  intro hne
  repeat (go_big_quiet_step (fail))
  go_big_quiet_step (first | (go_at_call 24; exact above_of (n5 _)))
  repeat (go_big_quiet_step (fail))
  go_big_quiet_step (first | (go_at_call 24; exact above_of (n9 _)))
  repeat (go_big_quiet_step (fail))
  go_big_quiet_step (first | (go_at_call 18; exact above_of (k1 _)))
  repeat (go_big_quiet_step (fail))
  go_big_quiet_step (first | (go_at_call 20; exact above_of (k2 _)))
  repeat (go_big_quiet_step (fail))
  go_big_quiet_step (first | (go_at_call 24; exact above_of (n4 _)))
  repeat (go_big_quiet_step (fail))
  go_big_quiet_step (first | (go_at_call 10; exact above_of (k3 _)))
  repeat (go_big_quiet_step (fail))
  go_big_quiet_step (first | (go_at_call 9; exact above_of (k4 _)))
  repeat (go_big_quiet_step (fail))
  go_big_quiet_step (first | (go_at_call 9; exact above_of (k5 _)))
  repeat (go_big_quiet_step (fail))
  refine wpQuiet_nil ?_
  rintro _ ⟨kq, rfl⟩
  have hbq := kq.is
  go_wp2_with fail
  go_ret
  exact ⟨rfl, hb8.trans (hbq.mono hb8.size)⟩
end Go.Proofs.Ytnnnkmgkijijdaa
