/-
  The contracts of package test's isNull and number, of the document's May, and of law 17's num.
-/
import Derived.Test.YtnnnkmgkijijdaaTChk
namespace Go.Proofs.Ytnnnkmgkijijdaa
open Go.RowKit

set_option maxHeartbeats 1000000 in
theorem isNull_any (c : Cl) (w : World) :
    Calls Try.prog 26 #[cv c] w fun e w' => e = .returned (.bool (c.k == 0)) ∧ Below w.heap.size w w' := by
  go_enter Try.func26, Try.ntmps26
  go_wp2
  go_ret
  exact ⟨rfl, below1 _ _⟩
set_option maxHeartbeats 1000000 in
theorem tnumber_any (n : Int) (w : World) :
    Calls Try.prog 40 #[.int .i64 n] w fun e w' => e = .returned (cv (numC n)) ∧ Below w.heap.size w w' := by
  go_enter Try.func40, Try.ntmps40
  go_wp2
  exact bodyPost_ret (v := cv (numC n)) (by simp [results, Try.results40, go_sem, numC]) rfl ⟨rfl, below1 _ _⟩
set_option maxHeartbeats 1000000 in
theorem num_any (n : Int) (w : World) :
    Calls Try.prog 24 #[.int .i64 n] w fun e w' => e = .returned (cv (numC n)) ∧ Below w.heap.size w w' := by
  go_enter Try.func24, Try.ntmps24
  go_wp2
  exact bodyPost_ret (v := cv (numC n)) (by simp [results, Try.results24, go_sem, numC]) rfl ⟨rfl, below1 _ _⟩

/-- A struct in a new block, behind a call. -/
theorem one_box {w w1 : World} {c : Array Value} {y : TypeId} (hb : Below (w.alloc (.cells c y)).heap.size (w.alloc (.cells c y)) w1) : Box w1 w.heap.size y c ∧ Below w.heap.size w w1 :=
  ⟨(box_new w c y).over hb, (below1 _ _).trans (hb.mono (by simp))⟩
theorem mayT_in {op : Int} {v : Cl} (h : 1 ≤ op ∧ op ≤ 6) : mayT ⟨op, v⟩ = (mayC v && !(v.k == 0)) := by
  unfold mayT
  rw [if_neg (by simp only; omega), decide_eq_true (by simp only; omega), Bool.true_and]

set_option maxRecDepth 4000 in
set_option maxHeartbeats 4000000 in
theorem refMayT_any (t : Ts) (w : World) :
    Calls Try.prog 12 #[tv t] w fun e w' => e = .returned (.bool (mayT t)) ∧ Below w.heap.size w w' := by
  obtain ⟨op, ⟨k, n, s⟩⟩ := t
  by_cases h78 : op = 7 ∨ op = 8
  · have HE : Hid (mayT ⟨op, ⟨k, n, s⟩⟩ = empC ⟨k, n, s⟩) := mayT_nul h78
    rcases emp_cases k n s with ⟨rfl, rfl, rfl⟩ | hE | ⟨rfl, hE⟩ | ⟨rfl, rfl, hE⟩
    · have HE : Hid (mayT ⟨op, ⟨0, 0, ⟨#[]⟩⟩⟩ = true) := HE.out.trans empC_zero
      rcases h78 with rfl | rfl
      all_goals
        go_enter Try.func12, Try.ntmps12
        go_wp2_with fail
        go_ret
        exact ⟨retB HE.out, below1 _ _⟩
    all_goals
      have HE1 := HE.out.trans (show _ = false by simp [empC, hE])
      have HE : Hid _ := HE1
      clear HE1
      rcases h78 with rfl | rfl
      all_goals
        go_enter Try.func12, Try.ntmps12
        go_wp2_with fail
        go_ret
        exact ⟨retB HE.out, below1 _ _⟩
  · have h7 : (op == 7) = false := by simp; omega
    have h8 : (op == 8) = false := by simp; omega
    have hc : ∀ w, Calls Try.prog 22 #[.agg #[.int .i64 k, .int .i64 n, .string s]] w fun e w' => e = .returned (.bool (mayC ⟨k, n, s⟩)) ∧ Below w.heap.size w w' := fun w => may_any ⟨k, n, s⟩ w
    by_cases hin : 1 ≤ op ∧ op ≤ 6
    · have HE : Hid (mayT ⟨op, ⟨k, n, s⟩⟩ = (mayC ⟨k, n, s⟩ && !(k == 0))) := mayT_in hin
      obtain ⟨b, hb⟩ : ∃ b, b = mayC ⟨k, n, s⟩ := ⟨_, rfl⟩
      rw [← hb] at hc HE
      have h1 : (1 : Int) ≤ op := hin.1
      have h6 : op ≤ 6 := hin.2
      clear hb hin h78
      cases b
      all_goals
          go_enter Try.func12, Try.ntmps12
          go_wp2_with (go_at_call 22; refine (hc _).mono ?_; rintro e w1 ⟨rfl, hb1⟩; obtain ⟨bx, hB⟩ := one_box hb1; have c1 := bx.cell 1 _ rfl; clear hb1 bx)
          go_ret
          exact ⟨retB HE.out, hB⟩
    · have HE : Hid (mayT ⟨op, ⟨k, n, s⟩⟩ = false) := mayT_oth (by omega)
      have h16 : ¬ (1 : Int) ≤ op ∨ ((1 : Int) ≤ op ∧ ¬ op ≤ 6) := by omega
      clear hin h78
      rcases h16 with h1 | ⟨h1, h6⟩
      all_goals
        go_enter Try.func12, Try.ntmps12
        go_wp2_with fail
        go_ret
        exact ⟨retB HE.out, below1 _ _⟩
end Go.Proofs.Ytnnnkmgkijijdaa
