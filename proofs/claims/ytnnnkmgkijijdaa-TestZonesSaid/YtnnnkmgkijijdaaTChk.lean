/-
  The contracts of package test's Check, isNull and number, of the document's May, and of law 17's num.
-/
import Derived.Test.YtnnnkmgkijijdaaTRow
import Derived.Test.YtnnnkmgkijijdaaTPure
namespace Go.Proofs.Ytnnnkmgkijijdaa
open Go.RowKit

/-- What Check answers. -/
def errT (t : Ts) : Int := if mayT t = true then 0 else 1
theorem errT_of {t : Ts} {b : Bool} (h : mayT t = b) : errT t = if b = true then 0 else 1 := by unfold errT; rw [h]
theorem op_cases (op : Int) : op = 1 ∨ op = 2 ∨ op = 3 ∨ op = 4 ∨ op = 5 ∨ op = 6 ∨ op = 7 ∨ op = 8 ∨ ((op == 1) = false ∧ (op == 2) = false ∧ (op == 3) = false ∧ (op == 4) = false ∧ (op == 5) = false ∧ (op == 6) = false ∧ (op == 7) = false ∧ (op == 8) = false) := by
  simp only [beq_eq_false_iff_ne]
  omega
theorem emp0 : (⟨#[]⟩ : ByteArray).toList = [] := by rw [Lib.toList_data]
theorem empC_zero : empC ⟨0, 0, ⟨#[]⟩⟩ = true := by simp [empC]
theorem emp_cases (k n : Int) (s : ByteArray) : (k = 0 ∧ n = 0 ∧ s = ⟨#[]⟩) ∨ (k == 0) = false ∨ (k = 0 ∧ (n == 0) = false) ∨ (k = 0 ∧ n = 0 ∧ s.toList.isEmpty = false) := by
  by_cases h1 : k = 0
  · by_cases h2 : n = 0
    · cases h3 : s.toList.isEmpty with
      | true =>
        refine .inl ⟨h1, h2, toList_inj ?_⟩
        rw [List.isEmpty_iff.1 h3, emp0]
      | false => exact .inr (.inr (.inr ⟨h1, h2, rfl⟩))
    · exact .inr (.inr (.inl ⟨h1, by simpa using h2⟩))
  · exact .inr (.inl (by simpa using h1))
theorem mayC_nul {n : Int} {s : ByteArray} : mayC ⟨0, n, s⟩ = empC ⟨0, n, s⟩ := by
  unfold mayC empC
  simp only [emp_size]
  simp
theorem mayT_val {op : Int} {v : Cl} (h : 1 ≤ op ∧ op ≤ 6) (he : empC v = false) : mayT ⟨op, v⟩ = mayC v := by
  obtain ⟨k, n, s⟩ := v
  unfold mayT
  rw [if_neg (by simp only; omega), decide_eq_true (by simp only; omega), Bool.true_and]
  by_cases hk : k = 0
  · subst hk
    rw [mayC_nul, he]
    rfl
  · simp [hk]
theorem mayT_emp {op : Int} {v : Cl} (h : 1 ≤ op ∧ op ≤ 6) (he : empC v = true) : mayT ⟨op, v⟩ = false := by
  obtain ⟨k, n, s⟩ := v
  unfold mayT
  rw [if_neg (by simp only; omega)]
  unfold empC at he
  simp only [Bool.and_eq_true] at he
  simp [he.1]
theorem mayT_nul {op : Int} {v : Cl} (h : op = 7 ∨ op = 8) : mayT ⟨op, v⟩ = empC v := by
  unfold mayT
  rw [if_pos h]
theorem mayT_oth {op : Int} {v : Cl} (h : ¬ (1 ≤ op ∧ op ≤ 8)) : mayT ⟨op, v⟩ = false := by
  unfold mayT
  rw [if_neg (by simp only; omega), decide_eq_false (by simp only; omega), Bool.false_and]

theorem errT_emp (op : Int) : errT ⟨op, ⟨0, 0, ⟨#[]⟩⟩⟩ = if op = 7 ∨ op = 8 then 0 else 1 := by
  by_cases h : op = 7 ∨ op = 8
  · rw [if_pos h, errT_of (mayT_nul h), empC_zero]; rfl
  · rw [if_neg h]
    by_cases h2 : 1 ≤ op ∧ op ≤ 6
    · rw [errT_of (mayT_emp h2 empC_zero)]; rfl
    · rw [errT_of (mayT_oth (by omega))]; rfl
theorem errT_som {op : Int} {v : Cl} (he : empC v = false) : errT ⟨op, v⟩ = if 1 ≤ op ∧ op ≤ 6 then errC v else 1 := by
  by_cases h : 1 ≤ op ∧ op ≤ 6
  · rw [if_pos h, errT_of (mayT_val h he)]; rfl
  · rw [if_neg h]
    by_cases h2 : op = 7 ∨ op = 8
    · rw [errT_of (mayT_nul h2), he]; rfl
    · rw [errT_of (mayT_oth (by omega))]; rfl

set_option maxHeartbeats 4000000 in
theorem tcheck_any (t : Ts) (w : World) :
    Calls Try.prog 9 #[tv t] w fun e w' => e = .returned (.int .i64 (errT t)) ∧ Below w.heap.size w w' := by
  obtain ⟨op, ⟨k, n, s⟩⟩ := t
  have hc : ∀ w, Calls Try.prog 25 #[.agg #[.int .i64 k, .int .i64 n, .string s]] w fun e w' => e = .returned (.int .i64 (errC ⟨k, n, s⟩)) ∧ Below w.heap.size w w' := fun w => check_any ⟨k, n, s⟩ w
  have HS : Hid (empC ⟨k, n, s⟩ = false → errT ⟨op, ⟨k, n, s⟩⟩ = if 1 ≤ op ∧ op ≤ 6 then errC ⟨k, n, s⟩ else 1) := fun h => errT_som h
  obtain ⟨x, hx⟩ : ∃ x, x = errC ⟨k, n, s⟩ := ⟨_, rfl⟩
  rw [← hx] at hc HS
  clear hx
  rcases emp_cases k n s with ⟨rfl, rfl, rfl⟩ | hE | ⟨rfl, hE⟩ | ⟨rfl, rfl, hE⟩
  · clear hc HS
    have HE : Hid (errT ⟨op, ⟨0, 0, ⟨#[]⟩⟩⟩ = if op = 7 ∨ op = 8 then 0 else 1) := errT_emp op
    rcases op_cases op with rfl | rfl | rfl | rfl | rfl | rfl | rfl | rfl | ⟨o1, o2, o3, o4, o5, o6, o7, o8⟩
    all_goals
      go_enter Try.func9, Try.ntmps9
      go_wp2_with fail
      go_ret
      have h := HE.out
      simp_all [below1]
  all_goals
    have HE1 := HS.out (by simp [empC, hE])
    have HE : Hid _ := HE1
    clear HS HE1
    rcases op_cases op with rfl | rfl | rfl | rfl | rfl | rfl | rfl | rfl | ⟨o1, o2, o3, o4, o5, o6, o7, o8⟩
    iterate 6
      · go_enter Try.func9, Try.ntmps9
        go_wp2_with (go_at_call 25; refine (hc _).mono ?_; rintro e w1 ⟨rfl, hb1⟩)
        go_ret
        exact ⟨retI HE.out, (below1 _ _).trans (hb1.mono (by simp))⟩
    iterate 2
      · go_enter Try.func9, Try.ntmps9
        go_wp2_with fail
        go_ret
        exact ⟨retI HE.out, below1 _ _⟩
    · have HE2 := HE.out
      rw [if_neg (by simp only [beq_eq_false_iff_ne] at *; omega)] at HE2
      have HE : Hid _ := HE2
      clear HE2
      go_enter Try.func9, Try.ntmps9
      go_wp2_with fail
      go_ret
      exact ⟨retI HE.out, below1 _ _⟩
end Go.Proofs.Ytnnnkmgkijijdaa
