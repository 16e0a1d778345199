/-
  The contracts of package cell's number, text, meant and Check, and of the document's Compare and May.
-/
import Derived.Test.YtnnnkmgkijijdaaKCmp
import Derived.Test.YtnnnkmgkijijdaaBox
namespace Go.Proofs.Ytnnnkmgkijijdaa
open Go.RowKit

def numC (n : Int) : Cl := ⟨1, n, ⟨#[]⟩⟩
def txtC (s : ByteArray) : Cl := ⟨2, 0, s⟩
def meantC (c : Cl) : Cl := if c.k = 1 then numC c.n else if c.k = 2 then txtC c.s else cl0
/-- A cell's cells in memory. -/
abbrev ca (c : Cl) : Array Value := #[.int .i64 c.k, .int .i64 c.n, .string c.s]
theorem size_cell : (Try.prog.info? 23).map (·.size) = some 3 := by kernel_rfl
theorem ca_one (c : Cl) : (ca c).all (·.oneCell') = true := by simp [ca, Value.oneCell']

set_option maxHeartbeats 1000000 in
theorem number_any (n : Int) (w : World) :
    Calls Try.prog 41 #[.int .i64 n] w fun e w' => e = .returned (cv (numC n)) ∧ Below w.heap.size w w' := by
  go_enter Try.func41, Try.ntmps41
  go_wp2
  exact bodyPost_ret (v := cv (numC n)) (by simp [results, Try.results41, go_sem, numC]) rfl ⟨rfl, below1 _ _⟩
set_option maxHeartbeats 1000000 in
theorem text_any (s : ByteArray) (w : World) :
    Calls Try.prog 42 #[.string s] w fun e w' => e = .returned (cv (txtC s)) ∧ Below w.heap.size w w' := by
  go_enter Try.func42, Try.ntmps42
  go_wp2
  exact bodyPost_ret (v := cv (txtC s)) (by simp [results, Try.results42, go_sem, txtC]) rfl ⟨rfl, below1 _ _⟩

set_option maxHeartbeats 1000000 in
theorem meant_any (c : Cl) (w : World) :
    Calls Try.prog 35 #[cv c] w fun e w' => e = .returned (cv (meantC c)) ∧ Below w.heap.size w w' := by
  by_cases h1 : c.k = 1
  · have HE : Hid (meantC c = numC c.n) := by unfold Hid meantC; rw [if_pos h1]
    go_enter Try.func35, Try.ntmps35
    go_wp2_with (first
      | (go_at_call 41; refine (number_any _ _).mono ?_; rintro e w1 ⟨rfl, hb1⟩; obtain ⟨-, bx1, hB⟩ := two_box hb1; clear hb1; have F1 := bx1.setRow (ca (numC c.n)); have hone := ca_one (numC c.n))
      | (refine wpList_store_row rfl 23 _ _ rfl (w.heap.size + 1) (ca (numC c.n)) rfl rfl 23 _ bx1 size_cell rfl hone ?_))
    rw [HE.out]
    exact bodyPost_ret (res_box Try.results35 _ rfl F1 Try.underlying23 rfl size_cell) rfl ⟨rfl, below_setRow hB (by omega) _⟩
  · by_cases h2 : c.k = 2
    · have HE : Hid (meantC c = txtC c.s) := by unfold Hid meantC; rw [if_neg h1, if_pos h2]
      go_enter Try.func35, Try.ntmps35
      go_wp2_with (first
        | (go_at_call 42; refine (text_any _ _).mono ?_; rintro e w1 ⟨rfl, hb1⟩; obtain ⟨-, bx1, hB⟩ := two_box hb1; clear hb1; have F1 := bx1.setRow (ca (txtC c.s)); have hone := ca_one (txtC c.s))
        | (refine wpList_store_row rfl 23 _ _ rfl (w.heap.size + 1) (ca (txtC c.s)) rfl rfl 23 _ bx1 size_cell rfl hone ?_))
      rw [HE.out]
      exact bodyPost_ret (res_box Try.results35 _ rfl F1 Try.underlying23 rfl size_cell) rfl ⟨rfl, below_setRow hB (by omega) _⟩
    · have HE : Hid (meantC c = cl0) := by unfold Hid meantC; rw [if_neg h1, if_neg h2]
      have h1' : (c.k == 1) = false := by simpa using h1
      have h2' : (c.k == 2) = false := by simpa using h2
      clear h1 h2
      go_enter Try.func35, Try.ntmps35
      go_wp2_with fail
      rw [HE.out]
      exact bodyPost_ret (v := cv cl0) (by simp [results, Try.results35, go_sem, cl0]) rfl ⟨rfl, below2 _ _ _⟩
theorem emp_size (s : ByteArray) : s.toList.isEmpty = (s.size == 0) := by
  rw [Bool.eq_iff_iff, List.isEmpty_iff, beq_iff_eq, ← toList_len]
  exact List.length_eq_zero_iff.symm
set_option maxHeartbeats 1000000 in
theorem may_any (c : Cl) (w : World) :
    Calls Try.prog 22 #[cv c] w fun e w' => e = .returned (.bool (mayC c)) ∧ Below w.heap.size w w' := by
  by_cases h0 : c.k = 0
  · by_cases hn : c.n = 0
    · have HE : Hid (mayC c = c.s.toList.isEmpty) := by unfold Hid mayC; rw [h0, hn, emp_size]; simp
      go_enter Try.func22, Try.ntmps22
      go_wp2
      go_ret
      exact ⟨retB HE.out, below1 _ _⟩
    · have HE : Hid (mayC c = false) := by unfold Hid mayC; rw [h0]; simp [hn]
      go_enter Try.func22, Try.ntmps22
      go_wp2
      go_ret
      exact ⟨retB HE.out, below1 _ _⟩
  · have h0' : (c.k == 0) = false := by simpa using h0
    by_cases h1 : c.k = 1
    · have HE : Hid (mayC c = c.s.toList.isEmpty) := by unfold Hid mayC; rw [h1, emp_size]; simp
      clear h0 h0'
      go_enter Try.func22, Try.ntmps22
      go_wp2
      go_ret
      exact ⟨retB HE.out, below1 _ _⟩
    · have h1' : (c.k == 1) = false := by simpa using h1
      by_cases h2 : c.k = 2
      · clear h0 h1 h0' h1'
        by_cases hn : c.n = 0
        · have HE : Hid (mayC c = decide ((c.s.size : Int) ≤ 32)) := by
            unfold Hid mayC; rw [h2, hn, Bool.eq_iff_iff]; simp; omega
          go_enter Try.func22, Try.ntmps22
          go_wp2
          go_ret
          exact ⟨retB HE.out, below1 _ _⟩
        · have HE : Hid (mayC c = false) := by unfold Hid mayC; rw [h2]; simp [hn]
          go_enter Try.func22, Try.ntmps22
          go_wp2
          go_ret
          exact ⟨retB HE.out, below1 _ _⟩
      · have HE : Hid (mayC c = false) := by unfold Hid mayC; simp [h0, h1, h2]
        have h2' : (c.k == 2) = false := by simpa using h2
        clear h0 h1 h2
        go_enter Try.func22, Try.ntmps22
        go_wp2
        go_ret
        exact ⟨retB HE.out, below1 _ _⟩
/-- A cell in a new block, in every world above. -/
theorem above_ca {w : World} {t : TypeId} {x y : Int} {s : ByteArray} : (∀ k : Above (w.alloc (.cells #[.int .i64 x, .int .i64 y, .string s] t)), k.it.cell? ⟨w.heap.size, 0, none⟩ = some (.int .i64 x)) ∧ (∀ k : Above (w.alloc (.cells #[.int .i64 x, .int .i64 y, .string s] t)), k.it.cell? ⟨w.heap.size, 1, none⟩ = some (.int .i64 y)) ∧ ∀ k : Above (w.alloc (.cells #[.int .i64 x, .int .i64 y, .string s] t)), k.it.cell? ⟨w.heap.size, 2, none⟩ = some (.string s) :=
  ⟨fun k => ((box_new _ _ _).over k.is).cell 0 _ rfl, fun k => ((box_new _ _ _).over k.is).cell 1 _ rfl, fun k => ((box_new _ _ _).over k.is).cell 2 _ rfl⟩
/-- What Check answers. -/
def errC (c : Cl) : Int := if mayC c = true then 0 else 1
set_option maxHeartbeats 1000000 in
theorem check_any (c : Cl) (w : World) :
    Calls Try.prog 25 #[cv c] w fun e w' => e = .returned (.int .i64 (errC c)) ∧ Below w.heap.size w w' := by
  obtain ⟨k, n, s⟩ := c
  have hs := emp_size s
  simp only [cv]
  by_cases h1 : k = 1
  · subst h1
    have hmt : ∀ w, Calls Try.prog 35 #[.agg #[.int .i64 1, .int .i64 n, .string s]] w fun e w' => e = .returned (.agg #[.int .i64 1, .int .i64 n, .string ⟨#[]⟩]) ∧ Below w.heap.size w w' := fun w => meant_any ⟨1, n, s⟩ w
    cases he : s.toList.isEmpty with
    | true =>
      have HE : Hid (errC ⟨1, n, s⟩ = 0) := by unfold Hid errC mayC; rw [he] at hs; simp [← hs]
      have hsz : ¬ (32 : Int) < (s.size : Int) := by rw [he] at hs; have := beq_iff_eq.1 hs.symm; omega
      clear hs
      go_enter Try.func25, Try.ntmps25
      go_wp2_with fail
      refine wp_region_above (by kernel_rfl) (by kernel_rfl) ?_
      intro hne
      obtain ⟨q0, q1, q2⟩ := above_ca (w := w) (t := 23) (x := 1) (y := n) (s := s)
      repeat (go_big_quiet_step ((go_at_call 35; exact above_of (hmt _))))
      refine wpQuiet_nil ?_
      rintro _ ⟨kq, rfl⟩
      have hbq := kq.is
      go_wp2_with fail
      go_ret
      exact ⟨retI HE.out, (below1 _ _).trans (hbq.mono (by simp))⟩
    | false =>
      have HE : Hid (errC ⟨1, n, s⟩ = 1) := by unfold Hid errC mayC; rw [he] at hs; simp [← hs]
      clear hs
      go_enter Try.func25, Try.ntmps25
      go_wp2_with fail
      refine wp_region_above (by kernel_rfl) (by kernel_rfl) ?_
      intro hne
      obtain ⟨q0, q1, q2⟩ := above_ca (w := w) (t := 23) (x := 1) (y := n) (s := s)
      repeat (go_big_quiet_step ((go_at_call 35; exact above_of (hmt _))))
      refine wpQuiet_nil ?_
      rintro _ ⟨kq, rfl⟩
      have hbq := kq.is
      go_wp2_with fail
      go_ret
      exact ⟨retI HE.out, (below1 _ _).trans (hbq.mono (by simp))⟩
  · by_cases h2 : k = 2
    · subst h2
      clear h1 hs
      have hmt : ∀ w, Calls Try.prog 35 #[.agg #[.int .i64 2, .int .i64 n, .string s]] w fun e w' => e = .returned (.agg #[.int .i64 2, .int .i64 0, .string s]) ∧ Below w.heap.size w w' := fun w => meant_any ⟨2, n, s⟩ w
      by_cases hn : n = 0
      · subst hn
        by_cases hl : s.size ≤ 32
        · have HE : Hid (errC ⟨2, 0, s⟩ = 0) := by unfold Hid errC mayC; simp [hl]
          have hsz : ¬ (32 : Int) < (s.size : Int) := by omega
          clear hl
          go_enter Try.func25, Try.ntmps25
          go_wp2_with fail
          refine wp_region_above (by kernel_rfl) (by kernel_rfl) ?_
          intro hne
          obtain ⟨q0, q1, q2⟩ := above_ca (w := w) (t := 23) (x := 2) (y := 0) (s := s)
          repeat (go_big_quiet_step ((go_at_call 35; exact above_of (hmt _))))
          refine wpQuiet_nil ?_
          rintro _ ⟨kq, rfl⟩
          have hbq := kq.is
          go_wp2_with fail
          go_ret
          exact ⟨retI HE.out, (below1 _ _).trans (hbq.mono (by simp))⟩
        · have HE : Hid (errC ⟨2, 0, s⟩ = 1) := by unfold Hid errC mayC; simp [hl]
          have hsz : (32 : Int) < (s.size : Int) := by omega
          clear hl
          go_enter Try.func25, Try.ntmps25
          go_wp2_with fail
          refine wp_region_above (by kernel_rfl) (by kernel_rfl) ?_
          intro hne
          obtain ⟨q0, q1, q2⟩ := above_ca (w := w) (t := 23) (x := 2) (y := 0) (s := s)
          repeat (go_big_quiet_step ((go_at_call 35; exact above_of (hmt _))))
          refine wpQuiet_nil ?_
          rintro _ ⟨kq, rfl⟩
          have hbq := kq.is
          go_wp2_with fail
          go_ret
          exact ⟨retI HE.out, (below1 _ _).trans (hbq.mono (by simp))⟩
      · have HE : Hid (errC ⟨2, n, s⟩ = 1) := by unfold Hid errC mayC; simp [hn]
        have hn' : (n == 0) = false := by simpa using hn
        clear hn
        go_enter Try.func25, Try.ntmps25
        go_wp2_with fail
        refine wp_region_above (by kernel_rfl) (by kernel_rfl) ?_
        intro hne
        obtain ⟨q0, q1, q2⟩ := above_ca (w := w) (t := 23) (x := 2) (y := n) (s := s)
        repeat (go_big_quiet_step ((go_at_call 35; exact above_of (hmt _))))
        refine wpQuiet_nil ?_
        rintro _ ⟨kq, rfl⟩
        have hbq := kq.is
        go_wp2_with fail
        go_ret
        exact ⟨retI HE.out, (below1 _ _).trans (hbq.mono (by simp))⟩
    · have hmt : ∀ w, Calls Try.prog 35 #[.agg #[.int .i64 k, .int .i64 n, .string s]] w fun e w' => e = .returned (.agg #[.int .i64 0, .int .i64 0, .string ⟨#[]⟩]) ∧ Below w.heap.size w w' := fun w => by
        have hm : meantC ⟨k, n, s⟩ = cl0 := by unfold meantC; rw [if_neg h1, if_neg h2]
        have := meant_any ⟨k, n, s⟩ w
        rw [hm] at this; exact this
      by_cases h0 : k = 0
      · subst h0
        clear h1 h2
        by_cases hn : n = 0
        · subst hn
          cases he : s.toList.isEmpty with
          | true =>
            have HE : Hid (errC ⟨0, 0, s⟩ = 0) := by unfold Hid errC mayC; rw [he] at hs; simp [← hs]
            have hsz : ¬ (32 : Int) < (s.size : Int) := by rw [he] at hs; have := beq_iff_eq.1 hs.symm; omega
            clear hs
            go_enter Try.func25, Try.ntmps25
            go_wp2_with fail
            refine wp_region_above (by kernel_rfl) (by kernel_rfl) ?_
            intro hne
            obtain ⟨q0, q1, q2⟩ := above_ca (w := w) (t := 23) (x := 0) (y := 0) (s := s)
            repeat (go_big_quiet_step ((go_at_call 35; exact above_of (hmt _))))
            refine wpQuiet_nil ?_
            rintro _ ⟨kq, rfl⟩
            have hbq := kq.is
            go_wp2_with fail
            go_ret
            exact ⟨retI HE.out, (below1 _ _).trans (hbq.mono (by simp))⟩
          | false =>
            have HE : Hid (errC ⟨0, 0, s⟩ = 1) := by unfold Hid errC mayC; rw [he] at hs; simp [← hs]
            clear hs
            go_enter Try.func25, Try.ntmps25
            go_wp2_with fail
            refine wp_region_above (by kernel_rfl) (by kernel_rfl) ?_
            intro hne
            obtain ⟨q0, q1, q2⟩ := above_ca (w := w) (t := 23) (x := 0) (y := 0) (s := s)
            repeat (go_big_quiet_step ((go_at_call 35; exact above_of (hmt _))))
            refine wpQuiet_nil ?_
            rintro _ ⟨kq, rfl⟩
            have hbq := kq.is
            go_wp2_with fail
            go_ret
            exact ⟨retI HE.out, (below1 _ _).trans (hbq.mono (by simp))⟩
        · have HE : Hid (errC ⟨0, n, s⟩ = 1) := by unfold Hid errC mayC; simp [hn]
          have hn' : (n == 0) = false := by simpa using hn
          clear hn hs
          go_enter Try.func25, Try.ntmps25
          go_wp2_with fail
          refine wp_region_above (by kernel_rfl) (by kernel_rfl) ?_
          intro hne
          obtain ⟨q0, q1, q2⟩ := above_ca (w := w) (t := 23) (x := 0) (y := n) (s := s)
          repeat (go_big_quiet_step ((go_at_call 35; exact above_of (hmt _))))
          refine wpQuiet_nil ?_
          rintro _ ⟨kq, rfl⟩
          have hbq := kq.is
          go_wp2_with fail
          go_ret
          exact ⟨retI HE.out, (below1 _ _).trans (hbq.mono (by simp))⟩
      · have HE : Hid (errC ⟨k, n, s⟩ = 1) := by unfold Hid errC mayC; simp [h0, h1, h2]
        have h0' : (k == 0) = false := by simpa using h0
        clear h0 h1 h2 hs
        go_enter Try.func25, Try.ntmps25
        go_wp2_with fail
        refine wp_region_above (by kernel_rfl) (by kernel_rfl) ?_
        intro hne
        obtain ⟨q0, q1, q2⟩ := above_ca (w := w) (t := 23) (x := k) (y := n) (s := s)
        repeat (go_big_quiet_step ((go_at_call 35; exact above_of (hmt _))))
        refine wpQuiet_nil ?_
        rintro _ ⟨kq, rfl⟩
        have hbq := kq.is
        go_wp2_with fail
        go_ret
        exact ⟨retI HE.out, (below1 _ _).trans (hbq.mono (by simp))⟩
end Go.Proofs.Ytnnnkmgkijijdaa
