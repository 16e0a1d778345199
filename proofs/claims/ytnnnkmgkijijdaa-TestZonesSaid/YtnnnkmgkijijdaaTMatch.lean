/-
  The contracts of package test's Match, and of the document's.
-/
import Derived.Test.YtnnnkmgkijijdaaTStands
namespace Go.Proofs.Ytnnnkmgkijijdaa
open Go.RowKit

theorem errT_yes {t : Ts} (h : mayT t = true) : errT t = 0 := by unfold errT; rw [if_pos h]
theorem errT_no {t : Ts} (h : mayT t = false) : errT t = 1 := by unfold errT; rw [if_neg (by rw [h]; simp)]

set_option maxRecDepth 4000 in
set_option maxHeartbeats 8000000 in
theorem match_any (t : Ts) (c : Cl) (w : World) :
    Calls Try.prog 10 #[tv t, cv c] w fun e w' => e = .returned (.bool (matchT t c)) ∧ Below w.heap.size w w' := by
  have h1 := tcheck_any t
  have h2 := isNull_any c
  have h3 := stands_any c t
  cases hm : mayT t with
  | false =>
    rw [errT_no hm] at h1
    have HE : Hid (matchT t c = false) := match_no hm c
    obtain ⟨op, ⟨vk, vn, vs⟩⟩ := t
    obtain ⟨ck, cn, cs⟩ := c
    clear h2 h3 hm
    go_enter Try.func10, Try.ntmps10
    go_wp2_with (go_at_call 9; refine (h1 _).mono ?_; rintro e w1 ⟨rfl, hb1⟩; obtain ⟨b0, b1, hB⟩ := two_box hb1; clear hb1)
    go_ret
    exact ⟨retB HE.out, hB⟩
  | true =>
    rw [errT_yes hm] at h1
    by_cases hk : c.k = 0
    · have HE : Hid (matchT t c = (t.op == 7)) := by
        unfold Hid; rw [match_null hm hk, Bool.eq_iff_iff]; simp
      obtain ⟨op, ⟨vk, vn, vs⟩⟩ := t
      obtain ⟨ck, cn, cs⟩ := c
      simp only at hk
      subst hk
      clear h3 hm
      go_enter Try.func10, Try.ntmps10
      go_wp2_with (first
        | (go_at_call 9; refine (h1 _).mono ?_; rintro e w1 ⟨rfl, hb1⟩; obtain ⟨b0, b1, hB⟩ := two_box hb1; have c0 := b1.cell 0 _ rfl; have c1 := b1.cell 1 _ rfl; have c2 := b1.cell 2 _ rfl; clear hb1)
        | (go_at_call 26; refine (h2 _).mono ?_; rintro e w2 ⟨rfl, hb2⟩; have d0 := (b0.over hb2).cell 0 _ rfl; replace hB := hB.trans (hb2.mono hB.size); clear hb2 b0 b1))
      go_ret
      exact ⟨retB HE.out, hB⟩
    · have hkb : (c.k == 0) = false := by simpa using hk
      rw [hkb] at h2
      by_cases h8 : t.op = 8
      · have HE : Hid (matchT t c = true) := by
          unfold Hid; rw [match_val hm hk, decide_eq_true h8, Bool.true_or]
        obtain ⟨op, ⟨vk, vn, vs⟩⟩ := t
        obtain ⟨ck, cn, cs⟩ := c
        simp only at h8
        subst h8
        clear h3 hm hk hkb
        go_enter Try.func10, Try.ntmps10
        go_wp2_with (first
          | (go_at_call 9; refine (h1 _).mono ?_; rintro e w1 ⟨rfl, hb1⟩; obtain ⟨b0, b1, hB⟩ := two_box hb1; have c0 := b1.cell 0 _ rfl; have c1 := b1.cell 1 _ rfl; have c2 := b1.cell 2 _ rfl; clear hb1)
          | (go_at_call 26; refine (h2 _).mono ?_; rintro e w2 ⟨rfl, hb2⟩; have d0 := (b0.over hb2).cell 0 _ rfl; replace hB := hB.trans (hb2.mono hB.size); clear hb2 b0 b1))
        go_ret
        exact ⟨retB HE.out, hB⟩
      · have HE : Hid (matchT t c = standB t.op (cmpC c t.v)) := by
          unfold Hid; rw [match_val hm hk, decide_eq_false h8, Bool.false_or]
        obtain ⟨x, hx⟩ : ∃ x, x = standB t.op (cmpC c t.v) := ⟨_, rfl⟩
        rw [← hx] at h3 HE
        obtain ⟨op, ⟨vk, vn, vs⟩⟩ := t
        obtain ⟨ck, cn, cs⟩ := c
        have h8b : (op == 8) = false := by simpa using h8
        clear hm hk hkb h8 hx
        go_enter Try.func10, Try.ntmps10
        go_wp2_with (first
          | (go_at_call 9; refine (h1 _).mono ?_; rintro e w1 ⟨rfl, hb1⟩; obtain ⟨b0, b1, hB⟩ := two_box hb1; have c0 := b1.cell 0 _ rfl; have c1 := b1.cell 1 _ rfl; have c2 := b1.cell 2 _ rfl; clear hb1)
          | (go_at_call 26; refine (h2 _).mono ?_; rintro e w2 ⟨rfl, hb2⟩; have d0 := (b0.over hb2).cell 0 _ rfl; have d1 := (b0.over hb2).cell 1 _ rfl; have d2 := (b0.over hb2).cell 2 _ rfl; have d3 := (b0.over hb2).cell 3 _ rfl; have e0 := (b1.over hb2).cell 0 _ rfl; have e1 := (b1.over hb2).cell 1 _ rfl; have e2 := (b1.over hb2).cell 2 _ rfl; replace hB := hB.trans (hb2.mono hB.size); clear hb2 b0 b1 c0 c1 c2)
          | (go_at_call 27; refine (h3 _).mono ?_; rintro e w3 ⟨rfl, hb3⟩; replace hB := hB.trans (hb3.mono hB.size); clear hb3))
        go_ret
        exact ⟨retB HE.out, hB⟩

set_option maxRecDepth 4000 in
set_option maxHeartbeats 8000000 in
theorem refMatch_any (t : Ts) (c : Cl) (w : World) :
    Calls Try.prog 11 #[tv t, cv c] w fun e w' => e = .returned (.bool (matchT t c)) ∧ Below w.heap.size w w' := by
  have h1 := refMayT_any t
  have h3 : ∀ w, _ := fun w => refCompare_any c t.v w
  cases hm : mayT t with
  | false =>
    rw [hm] at h1
    have HE : Hid (matchT t c = false) := match_no hm c
    obtain ⟨op, ⟨vk, vn, vs⟩⟩ := t
    obtain ⟨ck, cn, cs⟩ := c
    clear h3 hm
    go_enter Try.func11, Try.ntmps11
    go_wp2_with (go_at_call 12; refine (h1 _).mono ?_; rintro e w1 ⟨rfl, hb1⟩; obtain ⟨b0, b1, hB⟩ := two_box hb1; clear hb1)
    go_ret
    exact ⟨retB HE.out, hB⟩
  | true =>
    rw [hm] at h1
    obtain ⟨o1, o8⟩ := mayT_op hm
    by_cases hk : c.k = 0
    · have HE : Hid (matchT t c = (t.op == 7)) := by
        unfold Hid; rw [match_null hm hk, Bool.eq_iff_iff]; simp
      obtain ⟨op, ⟨vk, vn, vs⟩⟩ := t
      obtain ⟨ck, cn, cs⟩ := c
      simp only at hk
      subst hk
      clear h3 hm o1 o8
      by_cases h7 : op = 7
      · subst h7
        go_enter Try.func11, Try.ntmps11
        go_wp2_with (go_at_call 12; refine (h1 _).mono ?_; rintro e w1 ⟨rfl, hb1⟩; obtain ⟨b0, b1, hB⟩ := two_box hb1; have c0 := b1.cell 0 _ rfl; have d0 := b0.cell 0 _ rfl; clear hb1 b0 b1)
        go_ret
        exact ⟨retB HE.out, hB⟩
      · have h7b : (op == 7) = false := by simpa using h7
        rw [h7b] at HE
        clear h7
        go_enter Try.func11, Try.ntmps11
        go_wp2_with (go_at_call 12; refine (h1 _).mono ?_; rintro e w1 ⟨rfl, hb1⟩; obtain ⟨b0, b1, hB⟩ := two_box hb1; have c0 := b1.cell 0 _ rfl; have d0 := b0.cell 0 _ rfl; clear hb1 b0 b1)
        go_ret
        exact ⟨retB HE.out, hB⟩
    · have hkb : (c.k == 0) = false := by simpa using hk
      have HE : Hid (matchT t c = (decide (t.op = 8) || standB t.op (cmpC c t.v))) := match_val hm hk
      have hx3 : cmpC c t.v = 0 ∨ cmpC c t.v = -1 ∨ cmpC c t.v = 1 := by have := cmpC_bd c t.v; omega
      obtain ⟨x, hx⟩ : ∃ x, x = cmpC c t.v := ⟨_, rfl⟩
      rw [← hx] at h3 HE hx3
      obtain ⟨op, ⟨vk, vn, vs⟩⟩ := t
      obtain ⟨ck, cn, cs⟩ := c
      simp only at hkb o1 o8
      clear hm hk hx
      rcases (show op = 1 ∨ op = 2 ∨ op = 3 ∨ op = 4 ∨ op = 5 ∨ op = 6 ∨ op = 7 ∨ op = 8 by omega) with rfl | rfl | rfl | rfl | rfl | rfl | rfl | rfl
      all_goals
        clear o1 o8
        rcases hx3 with rfl | rfl | rfl
        all_goals
          go_enter Try.func11, Try.ntmps11
          go_wp2_with (first
            | (go_at_call 12; refine (h1 _).mono ?_; rintro e w1 ⟨rfl, hb1⟩; obtain ⟨b0, b1, hB⟩ := two_box hb1; have c0 := b1.cell 0 _ rfl; have c1 := b1.cell 1 _ rfl; have c2 := b1.cell 2 _ rfl; have d0 := b0.cell 0 _ rfl; have d1 := b0.cell 1 _ rfl; have d2 := b0.cell 2 _ rfl; have d3 := b0.cell 3 _ rfl; clear hb1)
            | (go_at_call 28; refine (h3 _).mono ?_; rintro e w2 ⟨rfl, hb2⟩; have f0 := (b0.over hb2).cell 0 _ rfl; replace hB := hB.trans (hb2.mono hB.size); clear hb2 b0 b1 c0 c1 c2 d0 d1 d2 d3))
          go_ret
          exact ⟨retB HE.out, hB⟩
end Go.Proofs.Ytnnnkmgkijijdaa
