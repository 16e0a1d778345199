/-
  The contracts of package test's None.
-/
import Derived.Test.YtnnnkmgkijijdaaTBey
namespace Go.Proofs.Ytnnnkmgkijijdaa
open Go.RowKit

/-- What stays while a zone is asked: the test and the zone. -/
structure Tz (w w' : World) (t : Ts) (z : Zn) : Prop where
  bt : Box w' w.heap.size 25 (ta t)
  bz : Box w' (w.heap.size + 1) 34 (za z)
  bel : Below w.heap.size w w'
theorem Tz.over {w w1 w2 : World} {t : Ts} {z : Zn} (h : Tz w w1 t z) (hb : Below w1.heap.size w1 w2) : Tz w w2 t z := ⟨h.bt.over hb, h.bz.over hb, h.bel.trans (hb.mono h.bel.size)⟩
theorem tz_new (w : World) (t : Ts) (z : Zn) : Tz w ((w.alloc (.cells (ta t) 25)).alloc (.cells (za z) 34)) t z := by
  have b1 := box_new (w.alloc (.cells (ta t) 25)) (za z) 34
  rw [World.size_alloc] at b1
  exact ⟨box_old _ _ _ _, b1, below2 _ _ _⟩
theorem test_cells {w : World} {b : Nat} {y : TypeId} {t : Ts} (h : Box w b y (ta t)) : w.cell? ⟨b, 0, none⟩ = some (.int .i64 t.op) ∧ w.cell? ⟨b, 1, none⟩ = some (.int .i64 t.v.k) ∧ w.cell? ⟨b, 2, none⟩ = some (.int .i64 t.v.n) ∧ w.cell? ⟨b, 3, none⟩ = some (.string t.v.s) :=
  ⟨h.cell 0 _ rfl, h.cell 1 _ rfl, h.cell 2 _ rfl, h.cell 3 _ rfl⟩

theorem noneT_may {t : Ts} {z : Zn} (hm : mayT t = true) : noneT t z = (decide (z.ct = 0) || (if t.op = 7 then decide (z.nu = 0) else (decide (z.nu = z.ct) ||
    (if t.op = 1 then beyB t.v z else if t.op = 2 then onlyB t.v z else if t.op = 3 ∨ t.op = 4 then !matchT t z.mn else if t.op = 5 ∨ t.op = 6 then !matchT t z.mx else false)))) := by
  unfold noneT; rw [hm, Bool.true_and]
theorem allT_may {t : Ts} {z : Zn} (hm : mayT t = true) : allT t z = (!decide (z.ct = 0) && (if t.op = 7 then decide (z.nu = z.ct) else (decide (z.nu = 0) &&
    (if t.op = 1 then onlyB t.v z else if t.op = 2 then beyB t.v z else if t.op = 3 ∨ t.op = 4 then matchT t z.mx else if t.op = 5 ∨ t.op = 6 then matchT t z.mn else true)))) := by
  unfold allT; rw [hm, Bool.true_and]

set_option maxRecDepth 4000 in
set_option maxHeartbeats 16000000 in
theorem none_any (t : Ts) (z : Zn) (w : World) :
    Calls Try.prog 18 #[tv t, zv z] w fun e w' => e = .returned (.bool (noneT t z)) ∧ Below w.heap.size w w' := by
  have k1 := tcheck_any t
  have k2 := allNulls_any z
  have k3 : ∀ w, _ := fun w => isBeyond_any t.v z w
  have k4 : ∀ w, _ := fun w => isOnly_any t.v z w
  have k5 : ∀ w, _ := fun w => match_any t z.mn w
  have k6 : ∀ w, _ := fun w => match_any t z.mx w
  have M0 := tz_new w t z
  cases hm : mayT t with
  | false =>
    rw [errT_no hm] at k1
    have HE : Hid (noneT t z = false) := by unfold Hid noneT; rw [hm, Bool.false_and]
    clear k2 k3 k4 k5 k6 hm
    obtain ⟨op, ⟨vk, vn, vs⟩⟩ := t
    obtain ⟨⟨ak, an, ax⟩, ⟨aK, aN, aX⟩, au, ac⟩ := z
    go_enter Try.func18, Try.ntmps18
    go_wp2_with fail
    refine (k1 _).mono ?_
    rintro e w1 ⟨rfl, hb1⟩
    have M1 := M0.over hb1
    clear M0 hb1 k1
    obtain ⟨t0, t1, t2, t3⟩ := test_cells M1.bt
    obtain ⟨e0, e1, e2, e3, e4, e5, e6, e7⟩ := box_cells M1.bz
    go_wp2_with fail
    go_ret
    exact ⟨retB (HE.out), M1.bel⟩
  | true =>
    rw [errT_yes hm] at k1
    obtain ⟨o1, o8⟩ := mayT_op hm
    have HF : Hid _ := noneT_may (z := z) hm
    by_cases h0 : z.ct = 0
    · have HE : Hid (noneT t z = true) := by unfold Hid; rw [HF.out, decide_eq_true h0]; rfl
      have h0b : (z.ct == 0) = true := by simpa using h0
      clear k2 k3 k4 k5 k6 hm HF o1 o8 h0
      obtain ⟨op, ⟨vk, vn, vs⟩⟩ := t
      obtain ⟨⟨ak, an, ax⟩, ⟨aK, aN, aX⟩, au, ac⟩ := z
      simp only at h0b
      go_enter Try.func18, Try.ntmps18
      go_wp2_with fail
      refine (k1 _).mono ?_
      rintro e w1 ⟨rfl, hb1⟩
      have M1 := M0.over hb1
      clear M0 hb1 k1
      obtain ⟨t0, t1, t2, t3⟩ := test_cells M1.bt
      obtain ⟨e0, e1, e2, e3, e4, e5, e6, e7⟩ := box_cells M1.bz
      go_wp2_with fail
      go_ret
      exact ⟨retB (HE.out), M1.bel⟩
    · have h0b : (z.ct == 0) = false := by simpa using h0
      rw [decide_eq_false h0] at HF
      by_cases h7 : t.op = 7
      · have HE : Hid (noneT t z = (z.nu == 0)) := by unfold Hid; rw [HF.out, if_pos h7, Bool.eq_iff_iff]; simp
        clear k2 k3 k4 k5 k6 hm HF o1 o8 h0
        obtain ⟨op, ⟨vk, vn, vs⟩⟩ := t
        obtain ⟨⟨ak, an, ax⟩, ⟨aK, aN, aX⟩, au, ac⟩ := z
        simp only at h7 h0b
        subst h7
        go_enter Try.func18, Try.ntmps18
        go_wp2_with fail
        refine (k1 _).mono ?_
        rintro e w1 ⟨rfl, hb1⟩
        have M1 := M0.over hb1
        clear M0 hb1 k1
        obtain ⟨t0, t1, t2, t3⟩ := test_cells M1.bt
        obtain ⟨e0, e1, e2, e3, e4, e5, e6, e7⟩ := box_cells M1.bz
        go_wp2_with fail
        go_ret
        exact ⟨retB (HE.out), M1.bel⟩
      · have h7b : (t.op == 7) = false := by simpa using h7
        rw [if_neg h7] at HF
        by_cases hn : z.nu = z.ct
        · have HE : Hid (noneT t z = true) := by unfold Hid; rw [HF.out, decide_eq_true hn]; rfl
          have hnb : (z.nu == z.ct) = true := by simpa using hn
          rw [hnb] at k2
          clear k3 k4 k5 k6 hm HF o1 o8 h0 h7 hn hnb
          obtain ⟨op, ⟨vk, vn, vs⟩⟩ := t
          obtain ⟨⟨ak, an, ax⟩, ⟨aK, aN, aX⟩, au, ac⟩ := z
          simp only at h7b h0b
          go_enter Try.func18, Try.ntmps18
          go_wp2_with fail
          refine (k1 _).mono ?_
          rintro e w1 ⟨rfl, hb1⟩
          have M1 := M0.over hb1
          clear M0 hb1 k1
          obtain ⟨t0, t1, t2, t3⟩ := test_cells M1.bt
          obtain ⟨e0, e1, e2, e3, e4, e5, e6, e7⟩ := box_cells M1.bz
          go_wp2_with fail
          refine (k2 _).mono ?_
          rintro e w2 ⟨rfl, hb2⟩
          have M2 := M1.over hb2
          clear M1 hb2 k2 t0 t1 t2 t3 e0 e1 e2 e3 e4 e5 e6 e7
          obtain ⟨t0, t1, t2, t3⟩ := test_cells M2.bt
          obtain ⟨e0, e1, e2, e3, e4, e5, e6, e7⟩ := box_cells M2.bz
          go_wp2_with fail
          go_ret
          exact ⟨retB (HE.out), M2.bel⟩
        · have hnb : (z.nu == z.ct) = false := by simpa using hn
          rw [hnb] at k2
          rw [decide_eq_false hn, Bool.false_or, Bool.false_or] at HF
          obtain ⟨x3, hx3⟩ : ∃ x, x = beyB t.v z := ⟨_, rfl⟩
          obtain ⟨x4, hx4⟩ : ∃ x, x = onlyB t.v z := ⟨_, rfl⟩
          obtain ⟨x5, hx5⟩ : ∃ x, x = matchT t z.mn := ⟨_, rfl⟩
          obtain ⟨x6, hx6⟩ : ∃ x, x = matchT t z.mx := ⟨_, rfl⟩
          rw [← hx3] at k3
          rw [← hx4] at k4
          rw [← hx5] at k5
          rw [← hx6] at k6
          rw [← hx3, ← hx4, ← hx5, ← hx6] at HF
          clear hx3 hx4 hx5 hx6 hm h0 h7 hn hnb
          have hop : t.op = 1 ∨ t.op = 2 ∨ t.op = 3 ∨ t.op = 4 ∨ t.op = 5 ∨ t.op = 6 ∨ t.op = 8 := by simp only [beq_eq_false_iff_ne] at h7b; omega
          clear o1 o8
          obtain ⟨op, ⟨vk, vn, vs⟩⟩ := t
          obtain ⟨⟨ak, an, ax⟩, ⟨aK, aN, aX⟩, au, ac⟩ := z
          simp only at hop h0b k3 k4 k5 k6
          clear h7b
          rcases hop with rfl | rfl | rfl | rfl | rfl | rfl | rfl
          · have HE : Hid (noneT ⟨1, ⟨vk, vn, vs⟩⟩ ⟨⟨ak, an, ax⟩, ⟨aK, aN, aX⟩, au, ac⟩ = (x3)) := by unfold Hid; rw [HF.out]; simp
            clear HF k4 k5 k6
            go_enter Try.func18, Try.ntmps18
            go_wp2_with fail
            refine (k1 _).mono ?_
            rintro e w1 ⟨rfl, hb1⟩
            have M1 := M0.over hb1
            clear M0 hb1 k1
            obtain ⟨t0, t1, t2, t3⟩ := test_cells M1.bt
            obtain ⟨e0, e1, e2, e3, e4, e5, e6, e7⟩ := box_cells M1.bz
            go_wp2_with fail
            refine (k2 _).mono ?_
            rintro e w2 ⟨rfl, hb2⟩
            have M2 := M1.over hb2
            clear M1 hb2 k2 t0 t1 t2 t3 e0 e1 e2 e3 e4 e5 e6 e7
            obtain ⟨t0, t1, t2, t3⟩ := test_cells M2.bt
            obtain ⟨e0, e1, e2, e3, e4, e5, e6, e7⟩ := box_cells M2.bz
            go_wp2_with fail
            refine (k3 _).mono ?_
            rintro e w3 ⟨rfl, hb3⟩
            have M3 := M2.over hb3
            clear M2 hb3 k3 t0 t1 t2 t3 e0 e1 e2 e3 e4 e5 e6 e7
            go_wp2_with fail
            go_ret
            exact ⟨retB (HE.out), M3.bel⟩
          · have HE : Hid (noneT ⟨2, ⟨vk, vn, vs⟩⟩ ⟨⟨ak, an, ax⟩, ⟨aK, aN, aX⟩, au, ac⟩ = (x4)) := by unfold Hid; rw [HF.out]; simp
            clear HF k3 k5 k6
            go_enter Try.func18, Try.ntmps18
            go_wp2_with fail
            refine (k1 _).mono ?_
            rintro e w1 ⟨rfl, hb1⟩
            have M1 := M0.over hb1
            clear M0 hb1 k1
            obtain ⟨t0, t1, t2, t3⟩ := test_cells M1.bt
            obtain ⟨e0, e1, e2, e3, e4, e5, e6, e7⟩ := box_cells M1.bz
            go_wp2_with fail
            refine (k2 _).mono ?_
            rintro e w2 ⟨rfl, hb2⟩
            have M2 := M1.over hb2
            clear M1 hb2 k2 t0 t1 t2 t3 e0 e1 e2 e3 e4 e5 e6 e7
            obtain ⟨t0, t1, t2, t3⟩ := test_cells M2.bt
            obtain ⟨e0, e1, e2, e3, e4, e5, e6, e7⟩ := box_cells M2.bz
            go_wp2_with fail
            refine (k4 _).mono ?_
            rintro e w3 ⟨rfl, hb3⟩
            have M3 := M2.over hb3
            clear M2 hb3 k4 t0 t1 t2 t3 e0 e1 e2 e3 e4 e5 e6 e7
            go_wp2_with fail
            go_ret
            exact ⟨retB (HE.out), M3.bel⟩
          · have HE : Hid (noneT ⟨3, ⟨vk, vn, vs⟩⟩ ⟨⟨ak, an, ax⟩, ⟨aK, aN, aX⟩, au, ac⟩ = (!x5)) := by unfold Hid; rw [HF.out]; simp
            clear HF k3 k4 k6
            go_enter Try.func18, Try.ntmps18
            go_wp2_with fail
            refine (k1 _).mono ?_
            rintro e w1 ⟨rfl, hb1⟩
            have M1 := M0.over hb1
            clear M0 hb1 k1
            obtain ⟨t0, t1, t2, t3⟩ := test_cells M1.bt
            obtain ⟨e0, e1, e2, e3, e4, e5, e6, e7⟩ := box_cells M1.bz
            go_wp2_with fail
            refine (k2 _).mono ?_
            rintro e w2 ⟨rfl, hb2⟩
            have M2 := M1.over hb2
            clear M1 hb2 k2 t0 t1 t2 t3 e0 e1 e2 e3 e4 e5 e6 e7
            obtain ⟨t0, t1, t2, t3⟩ := test_cells M2.bt
            obtain ⟨e0, e1, e2, e3, e4, e5, e6, e7⟩ := box_cells M2.bz
            go_wp2_with fail
            refine (k5 _).mono ?_
            rintro e w3 ⟨rfl, hb3⟩
            have M3 := M2.over hb3
            clear M2 hb3 k5 t0 t1 t2 t3 e0 e1 e2 e3 e4 e5 e6 e7
            go_wp2_with fail
            go_ret
            exact ⟨retB (HE.out), M3.bel⟩
          · have HE : Hid (noneT ⟨4, ⟨vk, vn, vs⟩⟩ ⟨⟨ak, an, ax⟩, ⟨aK, aN, aX⟩, au, ac⟩ = (!x5)) := by unfold Hid; rw [HF.out]; simp
            clear HF k3 k4 k6
            go_enter Try.func18, Try.ntmps18
            go_wp2_with fail
            refine (k1 _).mono ?_
            rintro e w1 ⟨rfl, hb1⟩
            have M1 := M0.over hb1
            clear M0 hb1 k1
            obtain ⟨t0, t1, t2, t3⟩ := test_cells M1.bt
            obtain ⟨e0, e1, e2, e3, e4, e5, e6, e7⟩ := box_cells M1.bz
            go_wp2_with fail
            refine (k2 _).mono ?_
            rintro e w2 ⟨rfl, hb2⟩
            have M2 := M1.over hb2
            clear M1 hb2 k2 t0 t1 t2 t3 e0 e1 e2 e3 e4 e5 e6 e7
            obtain ⟨t0, t1, t2, t3⟩ := test_cells M2.bt
            obtain ⟨e0, e1, e2, e3, e4, e5, e6, e7⟩ := box_cells M2.bz
            go_wp2_with fail
            refine (k5 _).mono ?_
            rintro e w3 ⟨rfl, hb3⟩
            have M3 := M2.over hb3
            clear M2 hb3 k5 t0 t1 t2 t3 e0 e1 e2 e3 e4 e5 e6 e7
            go_wp2_with fail
            go_ret
            exact ⟨retB (HE.out), M3.bel⟩
          · have HE : Hid (noneT ⟨5, ⟨vk, vn, vs⟩⟩ ⟨⟨ak, an, ax⟩, ⟨aK, aN, aX⟩, au, ac⟩ = (!x6)) := by unfold Hid; rw [HF.out]; simp
            clear HF k3 k4 k5
            go_enter Try.func18, Try.ntmps18
            go_wp2_with fail
            refine (k1 _).mono ?_
            rintro e w1 ⟨rfl, hb1⟩
            have M1 := M0.over hb1
            clear M0 hb1 k1
            obtain ⟨t0, t1, t2, t3⟩ := test_cells M1.bt
            obtain ⟨e0, e1, e2, e3, e4, e5, e6, e7⟩ := box_cells M1.bz
            go_wp2_with fail
            refine (k2 _).mono ?_
            rintro e w2 ⟨rfl, hb2⟩
            have M2 := M1.over hb2
            clear M1 hb2 k2 t0 t1 t2 t3 e0 e1 e2 e3 e4 e5 e6 e7
            obtain ⟨t0, t1, t2, t3⟩ := test_cells M2.bt
            obtain ⟨e0, e1, e2, e3, e4, e5, e6, e7⟩ := box_cells M2.bz
            go_wp2_with fail
            refine (k6 _).mono ?_
            rintro e w3 ⟨rfl, hb3⟩
            have M3 := M2.over hb3
            clear M2 hb3 k6 t0 t1 t2 t3 e0 e1 e2 e3 e4 e5 e6 e7
            go_wp2_with fail
            go_ret
            exact ⟨retB (HE.out), M3.bel⟩
          · have HE : Hid (noneT ⟨6, ⟨vk, vn, vs⟩⟩ ⟨⟨ak, an, ax⟩, ⟨aK, aN, aX⟩, au, ac⟩ = (!x6)) := by unfold Hid; rw [HF.out]; simp
            clear HF k3 k4 k5
            go_enter Try.func18, Try.ntmps18
            go_wp2_with fail
            refine (k1 _).mono ?_
            rintro e w1 ⟨rfl, hb1⟩
            have M1 := M0.over hb1
            clear M0 hb1 k1
            obtain ⟨t0, t1, t2, t3⟩ := test_cells M1.bt
            obtain ⟨e0, e1, e2, e3, e4, e5, e6, e7⟩ := box_cells M1.bz
            go_wp2_with fail
            refine (k2 _).mono ?_
            rintro e w2 ⟨rfl, hb2⟩
            have M2 := M1.over hb2
            clear M1 hb2 k2 t0 t1 t2 t3 e0 e1 e2 e3 e4 e5 e6 e7
            obtain ⟨t0, t1, t2, t3⟩ := test_cells M2.bt
            obtain ⟨e0, e1, e2, e3, e4, e5, e6, e7⟩ := box_cells M2.bz
            go_wp2_with fail
            refine (k6 _).mono ?_
            rintro e w3 ⟨rfl, hb3⟩
            have M3 := M2.over hb3
            clear M2 hb3 k6 t0 t1 t2 t3 e0 e1 e2 e3 e4 e5 e6 e7
            go_wp2_with fail
            go_ret
            exact ⟨retB (HE.out), M3.bel⟩
          · have HE : Hid (noneT ⟨8, ⟨vk, vn, vs⟩⟩ ⟨⟨ak, an, ax⟩, ⟨aK, aN, aX⟩, au, ac⟩ = (false)) := by unfold Hid; rw [HF.out]; simp
            clear HF k3 k4 k5 k6
            go_enter Try.func18, Try.ntmps18
            go_wp2_with fail
            refine (k1 _).mono ?_
            rintro e w1 ⟨rfl, hb1⟩
            have M1 := M0.over hb1
            clear M0 hb1 k1
            obtain ⟨t0, t1, t2, t3⟩ := test_cells M1.bt
            obtain ⟨e0, e1, e2, e3, e4, e5, e6, e7⟩ := box_cells M1.bz
            go_wp2_with fail
            refine (k2 _).mono ?_
            rintro e w2 ⟨rfl, hb2⟩
            have M2 := M1.over hb2
            clear M1 hb2 k2 t0 t1 t2 t3 e0 e1 e2 e3 e4 e5 e6 e7
            obtain ⟨t0, t1, t2, t3⟩ := test_cells M2.bt
            obtain ⟨e0, e1, e2, e3, e4, e5, e6, e7⟩ := box_cells M2.bz
            go_wp2_with fail
            go_ret
            exact ⟨retB (HE.out), M2.bel⟩

end Go.Proofs.Ytnnnkmgkijijdaa
