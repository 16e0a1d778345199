/-
  The contracts of package test's isBeyond and isOnly.
-/
import Derived.Test.YtnnnkmgkijijdaaTMatch
import Derived.Test.YtnnnkmgkijijdaaTZone
namespace Go.Proofs.Ytnnnkmgkijijdaa
open Go.RowKit

set_option maxRecDepth 4000 in
set_option maxHeartbeats 4000000 in
theorem isBeyond_any (v : Cl) (z : Zn) (w : World) :
    Calls Try.prog 32 #[cv v, zv z] w fun e w' => e = .returned (.bool (beyB v z)) ∧ Below w.heap.size w w' := by
  have c1 : ∀ w, _ := fun w => compare_any v z.mn w
  have c2 : ∀ w, _ := fun w => compare_any v z.mx w
  obtain ⟨x, hx⟩ : ∃ x, x = cmpC v z.mn := ⟨_, rfl⟩
  obtain ⟨y, hy⟩ : ∃ y, y = cmpC v z.mx := ⟨_, rfl⟩
  have HE : Hid (beyB v z = (decide (x < 0) || decide (0 < y))) := by unfold Hid beyB; rw [hx, hy]
  rw [← hx] at c1
  rw [← hy] at c2
  clear hx hy
  obtain ⟨vk, vn, vs⟩ := v
  obtain ⟨⟨ak, an, ax⟩, ⟨aK, aN, aX⟩, au, ac⟩ := z
  simp only at c1 c2
  by_cases hx : x < 0
  · rw [decide_eq_true hx] at HE
    go_enter Try.func32, Try.ntmps32
    go_wp2_with fail
    refine (c1 _).mono ?_
    rintro e w1 ⟨rfl, hb1⟩
    obtain ⟨-, -, hB⟩ := two_box hb1
    clear hb1 c1 c2
    go_wp2_with fail
    go_ret
    exact ⟨retB HE.out, hB⟩
  · go_enter Try.func32, Try.ntmps32
    go_wp2_with fail
    refine (c1 _).mono ?_
    rintro e w1 ⟨rfl, hb1⟩
    obtain ⟨b0, b1, hB⟩ := two_box hb1
    have p0 := b0.cell 0 _ rfl
    have p1 := b0.cell 1 _ rfl
    have p2 := b0.cell 2 _ rfl
    have q3 := b1.cell 3 _ rfl
    have q4 := b1.cell 4 _ rfl
    have q5 := b1.cell 5 _ rfl
    clear hb1 c1 b0 b1
    go_wp2_with fail
    refine (c2 _).mono ?_
    rintro e w2 ⟨rfl, hb2⟩
    clear c2
    go_wp2_with fail
    go_ret
    exact ⟨retB HE.out, hB.trans (hb2.mono hB.size)⟩

set_option maxRecDepth 4000 in
set_option maxHeartbeats 4000000 in
theorem isOnly_any (v : Cl) (z : Zn) (w : World) :
    Calls Try.prog 33 #[cv v, zv z] w fun e w' => e = .returned (.bool (onlyB v z)) ∧ Below w.heap.size w w' := by
  obtain ⟨mn, mx, au, ac⟩ := z
  obtain ⟨ak, an, ax⟩ := mn
  obtain ⟨aK, aN, aX⟩ := mx
  obtain ⟨vk, vn, vs⟩ := v
  rcases same_cases ⟨ak, an, ax⟩ ⟨vk, vn, vs⟩ with ⟨he, h0⟩ | ⟨h0, hd⟩
  · rcases same_cases ⟨aK, aN, aX⟩ ⟨vk, vn, vs⟩ with ⟨he', h1⟩ | ⟨h1, hd⟩
    · have HE : Hid (onlyB ⟨vk, vn, vs⟩ ⟨⟨ak, an, ax⟩, ⟨aK, aN, aX⟩, au, ac⟩ = true) := by unfold Hid onlyB; simp only; rw [decide_eq_true h0, decide_eq_true h1]; rfl
      injection he with e1 e2 e3
      injection he' with e4 e5 e6
      subst e1 e2 e3 e4 e5 e6
      clear h0 h1
      go_enter Try.func33, Try.ntmps33
      go_wp2_with fail
      go_ret
      exact ⟨retB HE.out, below2 _ _ _⟩
    · have HE : Hid (onlyB ⟨vk, vn, vs⟩ ⟨⟨ak, an, ax⟩, ⟨aK, aN, aX⟩, au, ac⟩ = false) := by unfold Hid onlyB; simp only; rw [decide_eq_true h0, decide_eq_false h1]; rfl
      injection he with e1 e2 e3
      subst e1 e2 e3
      clear h0 h1
      simp only at hd
      rcases hd with hd | ⟨hk, hd⟩ | ⟨hk, hn, hd⟩
      all_goals
        try subst hk
        try subst hn
        go_enter Try.func33, Try.ntmps33
        go_wp2_with fail
        go_ret
        exact ⟨retB HE.out, below2 _ _ _⟩
  · have HE : Hid (onlyB ⟨vk, vn, vs⟩ ⟨⟨ak, an, ax⟩, ⟨aK, aN, aX⟩, au, ac⟩ = false) := by unfold Hid onlyB; simp only; rw [decide_eq_false h0]; rfl
    clear h0
    simp only at hd
    rcases hd with hd | ⟨hk, hd⟩ | ⟨hk, hn, hd⟩
    all_goals
      try subst hk
      try subst hn
      go_enter Try.func33, Try.ntmps33
      go_wp2_with fail
      go_ret
      exact ⟨retB HE.out, below2 _ _ _⟩
end Go.Proofs.Ytnnnkmgkijijdaa
