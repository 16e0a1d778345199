/-
  The contract of package test's All.
-/
import Derived.Test.YtnnnkmgkijijdaaTNone
namespace Go.Proofs.Ytnnnkmgkijijdaa
open Go.RowKit

set_option maxRecDepth 4000 in
set_option maxHeartbeats 16000000 in
theorem all_any (t : Ts) (z : Zn) (w : World) :
    Calls Try.prog 20 #[tv t, zv z] w fun e w' => e = .returned (.bool (allT t z)) ∧ Below w.heap.size w w' := by
  have k1 := tcheck_any t
  have k2 := allNulls_any z
  have k3 : ∀ w, _ := fun w => isBeyond_any t.v z w
  have k4 : ∀ w, _ := fun w => isOnly_any t.v z w
  have k5 : ∀ w, _ := fun w => match_any t z.mn w
  have k6 : ∀ w, _ := fun w => match_any t z.mx w
  have M0 := tz_new w t z
  cases hm : mayT t with
  | false =>
    rw [errT_no hm] at k1
    have HE : Hid (allT t z = false) := by unfold Hid allT; rw [hm, Bool.false_and]
    clear k2 k3 k4 k5 k6 hm
    obtain ⟨op, ⟨vk, vn, vs⟩⟩ := t
    obtain ⟨⟨ak, an, ax⟩, ⟨aK, aN, aX⟩, au, ac⟩ := z
    go_enter Try.func20, Try.ntmps20
    go_wp2_with fail
    refine (k1 _).mono ?_
    rintro e w1 ⟨rfl, hb1⟩
    have M1 := M0.over hb1
    clear M0 hb1 k1
    obtain ⟨t0, t1, t2, t3⟩ := test_cells M1.bt
    obtain ⟨e0, e1, e2, e3, e4, e5, e6, e7⟩ := box_cells M1.bz
    go_wp2_with fail
    go_ret
    exact ⟨retB (HE.out), M1.bel⟩
  | true =>
    rw [errT_yes hm] at k1
    obtain ⟨o1, o8⟩ := mayT_op hm
    have HF : Hid _ := allT_may (z := z) hm
    by_cases h0 : z.ct = 0
    · have HE : Hid (allT t z = false) := by unfold Hid; rw [HF.out, decide_eq_true h0]; rfl
      have h0b : (z.ct == 0) = true := by simpa using h0
      clear k2 k3 k4 k5 k6 hm HF o1 o8 h0
      obtain ⟨op, ⟨vk, vn, vs⟩⟩ := t
      obtain ⟨⟨ak, an, ax⟩, ⟨aK, aN, aX⟩, au, ac⟩ := z
      simp only at h0b
      go_enter Try.func20, Try.ntmps20
      go_wp2_with fail
      refine (k1 _).mono ?_
      rintro e w1 ⟨rfl, hb1⟩
      have M1 := M0.over hb1
      clear M0 hb1 k1
      obtain ⟨t0, t1, t2, t3⟩ := test_cells M1.bt
      obtain ⟨e0, e1, e2, e3, e4, e5, e6, e7⟩ := box_cells M1.bz
      go_wp2_with fail
      go_ret
      exact ⟨retB (HE.out), M1.bel⟩
    · have h0b : (z.ct == 0) = false := by simpa using h0
      rw [decide_eq_false h0] at HF
      by_cases h7 : t.op = 7
      · have HE : Hid (allT t z = (z.nu == z.ct)) := by unfold Hid; rw [HF.out, if_pos h7, Bool.eq_iff_iff]; simp
        clear k3 k4 k5 k6 hm HF o1 o8 h0
        obtain ⟨op, ⟨vk, vn, vs⟩⟩ := t
        obtain ⟨⟨ak, an, ax⟩, ⟨aK, aN, aX⟩, au, ac⟩ := z
        simp only at h7 h0b
        subst h7
        go_enter Try.func20, Try.ntmps20
        go_wp2_with fail
        refine (k1 _).mono ?_
        rintro e w1 ⟨rfl, hb1⟩
        have M1 := M0.over hb1
        clear M0 hb1 k1
        obtain ⟨t0, t1, t2, t3⟩ := test_cells M1.bt
        obtain ⟨e0, e1, e2, e3, e4, e5, e6, e7⟩ := box_cells M1.bz
        go_wp2_with fail
        refine (k2 _).mono ?_
        rintro e w2 ⟨rfl, hb2⟩
        have M2 := M1.over hb2
        clear M1 hb2 k2 t0 t1 t2 t3 e0 e1 e2 e3 e4 e5 e6 e7
        go_wp2_with fail
        go_ret
        exact ⟨retB (HE.out), M2.bel⟩
      · have h7b : (t.op == 7) = false := by simpa using h7
        rw [if_neg h7] at HF
        by_cases hn : z.nu = 0
        · rw [decide_eq_true hn, Bool.true_and] at HF
          have HG : Hid _ := HF.out.trans (Bool.true_and _)
          have hnb : (z.nu == 0) = true := by simpa using hn
          have hnc : (z.nu != 0) = false := by simpa using hn
          obtain ⟨x3, hx3⟩ : ∃ x, x = beyB t.v z := ⟨_, rfl⟩
          obtain ⟨x4, hx4⟩ : ∃ x, x = onlyB t.v z := ⟨_, rfl⟩
          obtain ⟨x5, hx5⟩ : ∃ x, x = matchT t z.mn := ⟨_, rfl⟩
          obtain ⟨x6, hx6⟩ : ∃ x, x = matchT t z.mx := ⟨_, rfl⟩
          rw [← hx3] at k3
          rw [← hx4] at k4
          rw [← hx5] at k5
          rw [← hx6] at k6
          rw [← hx3, ← hx4, ← hx5, ← hx6] at HG
          clear hx3 hx4 hx5 hx6 hm h0 h7 hn HF
          have hop : t.op = 1 ∨ t.op = 2 ∨ t.op = 3 ∨ t.op = 4 ∨ t.op = 5 ∨ t.op = 6 ∨ t.op = 8 := by simp only [beq_eq_false_iff_ne] at h7b; omega
          clear o1 o8
          obtain ⟨op, ⟨vk, vn, vs⟩⟩ := t
          obtain ⟨⟨ak, an, ax⟩, ⟨aK, aN, aX⟩, au, ac⟩ := z
          simp only at hop h0b k3 k4 k5 k6 hnb hnc
          clear h7b
          rcases hop with rfl | rfl | rfl | rfl | rfl | rfl | rfl
          · have HE : Hid (allT ⟨1, ⟨vk, vn, vs⟩⟩ ⟨⟨ak, an, ax⟩, ⟨aK, aN, aX⟩, au, ac⟩ = (x4)) := by unfold Hid; rw [HG.out]; simp
            clear HG k3 k5 k6 k2
            go_enter Try.func20, Try.ntmps20
            go_wp2_with fail
            refine (k1 _).mono ?_
            rintro e w1 ⟨rfl, hb1⟩
            have M1 := M0.over hb1
            clear M0 hb1 k1
            obtain ⟨t0, t1, t2, t3⟩ := test_cells M1.bt
            obtain ⟨e0, e1, e2, e3, e4, e5, e6, e7⟩ := box_cells M1.bz
            go_wp2_with fail
            refine (k4 _).mono ?_
            rintro e w2 ⟨rfl, hb2⟩
            have M2 := M1.over hb2
            clear M1 hb2 k4 t0 t1 t2 t3 e0 e1 e2 e3 e4 e5 e6 e7
            go_wp2_with fail
            go_ret
            exact ⟨retB (HE.out), M2.bel⟩
          · have HE : Hid (allT ⟨2, ⟨vk, vn, vs⟩⟩ ⟨⟨ak, an, ax⟩, ⟨aK, aN, aX⟩, au, ac⟩ = (x3)) := by unfold Hid; rw [HG.out]; simp
            clear HG k4 k5 k6 k2
            go_enter Try.func20, Try.ntmps20
            go_wp2_with fail
            refine (k1 _).mono ?_
            rintro e w1 ⟨rfl, hb1⟩
            have M1 := M0.over hb1
            clear M0 hb1 k1
            obtain ⟨t0, t1, t2, t3⟩ := test_cells M1.bt
            obtain ⟨e0, e1, e2, e3, e4, e5, e6, e7⟩ := box_cells M1.bz
            go_wp2_with fail
            refine (k3 _).mono ?_
            rintro e w2 ⟨rfl, hb2⟩
            have M2 := M1.over hb2
            clear M1 hb2 k3 t0 t1 t2 t3 e0 e1 e2 e3 e4 e5 e6 e7
            go_wp2_with fail
            go_ret
            exact ⟨retB (HE.out), M2.bel⟩
          · have HE : Hid (allT ⟨3, ⟨vk, vn, vs⟩⟩ ⟨⟨ak, an, ax⟩, ⟨aK, aN, aX⟩, au, ac⟩ = (x6)) := by unfold Hid; rw [HG.out]; simp
            clear HG k3 k4 k5 k2
            go_enter Try.func20, Try.ntmps20
            go_wp2_with fail
            refine (k1 _).mono ?_
            rintro e w1 ⟨rfl, hb1⟩
            have M1 := M0.over hb1
            clear M0 hb1 k1
            obtain ⟨t0, t1, t2, t3⟩ := test_cells M1.bt
            obtain ⟨e0, e1, e2, e3, e4, e5, e6, e7⟩ := box_cells M1.bz
            go_wp2_with fail
            refine (k6 _).mono ?_
            rintro e w2 ⟨rfl, hb2⟩
            have M2 := M1.over hb2
            clear M1 hb2 k6 t0 t1 t2 t3 e0 e1 e2 e3 e4 e5 e6 e7
            go_wp2_with fail
            go_ret
            exact ⟨retB (HE.out), M2.bel⟩
          · have HE : Hid (allT ⟨4, ⟨vk, vn, vs⟩⟩ ⟨⟨ak, an, ax⟩, ⟨aK, aN, aX⟩, au, ac⟩ = (x6)) := by unfold Hid; rw [HG.out]; simp
            clear HG k3 k4 k5 k2
            go_enter Try.func20, Try.ntmps20
            go_wp2_with fail
            refine (k1 _).mono ?_
            rintro e w1 ⟨rfl, hb1⟩
            have M1 := M0.over hb1
            clear M0 hb1 k1
            obtain ⟨t0, t1, t2, t3⟩ := test_cells M1.bt
            obtain ⟨e0, e1, e2, e3, e4, e5, e6, e7⟩ := box_cells M1.bz
            go_wp2_with fail
            refine (k6 _).mono ?_
            rintro e w2 ⟨rfl, hb2⟩
            have M2 := M1.over hb2
            clear M1 hb2 k6 t0 t1 t2 t3 e0 e1 e2 e3 e4 e5 e6 e7
            go_wp2_with fail
            go_ret
            exact ⟨retB (HE.out), M2.bel⟩
          · have HE : Hid (allT ⟨5, ⟨vk, vn, vs⟩⟩ ⟨⟨ak, an, ax⟩, ⟨aK, aN, aX⟩, au, ac⟩ = (x5)) := by unfold Hid; rw [HG.out]; simp
            clear HG k3 k4 k6 k2
            go_enter Try.func20, Try.ntmps20
            go_wp2_with fail
            refine (k1 _).mono ?_
            rintro e w1 ⟨rfl, hb1⟩
            have M1 := M0.over hb1
            clear M0 hb1 k1
            obtain ⟨t0, t1, t2, t3⟩ := test_cells M1.bt
            obtain ⟨e0, e1, e2, e3, e4, e5, e6, e7⟩ := box_cells M1.bz
            go_wp2_with fail
            refine (k5 _).mono ?_
            rintro e w2 ⟨rfl, hb2⟩
            have M2 := M1.over hb2
            clear M1 hb2 k5 t0 t1 t2 t3 e0 e1 e2 e3 e4 e5 e6 e7
            go_wp2_with fail
            go_ret
            exact ⟨retB (HE.out), M2.bel⟩
          · have HE : Hid (allT ⟨6, ⟨vk, vn, vs⟩⟩ ⟨⟨ak, an, ax⟩, ⟨aK, aN, aX⟩, au, ac⟩ = (x5)) := by unfold Hid; rw [HG.out]; simp
            clear HG k3 k4 k6 k2
            go_enter Try.func20, Try.ntmps20
            go_wp2_with fail
            refine (k1 _).mono ?_
            rintro e w1 ⟨rfl, hb1⟩
            have M1 := M0.over hb1
            clear M0 hb1 k1
            obtain ⟨t0, t1, t2, t3⟩ := test_cells M1.bt
            obtain ⟨e0, e1, e2, e3, e4, e5, e6, e7⟩ := box_cells M1.bz
            go_wp2_with fail
            refine (k5 _).mono ?_
            rintro e w2 ⟨rfl, hb2⟩
            have M2 := M1.over hb2
            clear M1 hb2 k5 t0 t1 t2 t3 e0 e1 e2 e3 e4 e5 e6 e7
            go_wp2_with fail
            go_ret
            exact ⟨retB (HE.out), M2.bel⟩
          · have HE : Hid (allT ⟨8, ⟨vk, vn, vs⟩⟩ ⟨⟨ak, an, ax⟩, ⟨aK, aN, aX⟩, au, ac⟩ = (true)) := by unfold Hid; rw [HG.out]; simp
            clear HG k3 k4 k5 k6 k2
            go_enter Try.func20, Try.ntmps20
            go_wp2_with fail
            refine (k1 _).mono ?_
            rintro e w1 ⟨rfl, hb1⟩
            have M1 := M0.over hb1
            clear M0 hb1 k1
            obtain ⟨t0, t1, t2, t3⟩ := test_cells M1.bt
            obtain ⟨e0, e1, e2, e3, e4, e5, e6, e7⟩ := box_cells M1.bz
            go_wp2_with fail
            go_ret
            exact ⟨retB (HE.out), M1.bel⟩
        · have HE : Hid (allT t z = false) := by unfold Hid; rw [HF.out, decide_eq_false hn]; rfl
          have hnb : (z.nu == 0) = false := by simpa using hn
          have hnc : (z.nu != 0) = true := by simpa using hn
          clear k2 k3 k4 k5 k6 hm HF o1 o8 h0 h7 hn
          obtain ⟨op, ⟨vk, vn, vs⟩⟩ := t
          obtain ⟨⟨ak, an, ax⟩, ⟨aK, aN, aX⟩, au, ac⟩ := z
          simp only at h7b h0b hnb hnc
          go_enter Try.func20, Try.ntmps20
          go_wp2_with fail
          refine (k1 _).mono ?_
          rintro e w1 ⟨rfl, hb1⟩
          have M1 := M0.over hb1
          clear M0 hb1 k1
          obtain ⟨t0, t1, t2, t3⟩ := test_cells M1.bt
          obtain ⟨e0, e1, e2, e3, e4, e5, e6, e7⟩ := box_cells M1.bz
          go_wp2_with fail
          go_ret
          exact ⟨retB (HE.out), M1.bel⟩
end Go.Proofs.Ytnnnkmgkijijdaa
