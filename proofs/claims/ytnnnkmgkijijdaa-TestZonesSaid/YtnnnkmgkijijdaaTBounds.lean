/-
  The contract of package test's Bounds.
-/
import Derived.Test.YtnnnkmgkijijdaaTBinS
import Derived.Test.YtnnnkmgkijijdaaTMatch
namespace Go.Proofs.Ytnnnkmgkijijdaa
open Go.RowKit

/-- Which of numbers that rise pass: those from f on, below u. -/
def BoundsAns (t : Ts) (l : List Int) (f u : Nat) : Prop :=
  (f < u ∨ (f = 0 ∧ u = 0)) ∧ u ≤ l.length ∧ (mayT t = false ∨ t.op = 2 → f = 0 ∧ u = 0) ∧ (mayT t = true → t.op ≠ 2 → ∀ (j : Nat) (x : Int), l[j]? = some x → (matchT t (numC x) = true ↔ f ≤ j ∧ j < u))
theorem bounds_zero {t : Ts} {l : List Int} (h : mayT t = false ∨ t.op = 2) : BoundsAns t l 0 0 :=
  ⟨.inr ⟨rfl, rfl⟩, Nat.zero_le _, fun _ => ⟨rfl, rfl⟩, fun h1 h2 => by rcases h with h | h; rw [h] at h1; cases h1; exact absurd h h2⟩
theorem match_num {t : Ts} (hm : mayT t = true) (x : Int) : matchT t (numC x) = (decide (t.op = 8) || standB t.op (cmpC (numC x) t.v)) := match_val hm (by simp [numC])
/-- What passes lies between f and u. -/
def Betw (t : Ts) (l : List Int) (f u : Nat) : Prop := f ≤ u ∧ u ≤ l.length ∧ ∀ (j : Nat) (x : Int), l[j]? = some x → (matchT t (numC x) = true ↔ f ≤ j ∧ j < u)
theorem bounds_some {t : Ts} {l : List Int} {f u : Nat} (h : Betw t l f u) (h2 : t.op ≠ 2) (hm : mayT t = true) (hn : f ≠ u) : BoundsAns t l f u :=
  ⟨.inl (by have := h.1; omega), h.2.1, fun h3 => by rcases h3 with h3 | h3; rw [h3] at hm; cases hm; exact absurd h3 h2, fun _ _ => h.2.2⟩
theorem bounds_none {t : Ts} {l : List Int} {f u : Nat} (h : Betw t l f u) (hn : f = u) : BoundsAns t l 0 0 :=
  ⟨.inr ⟨rfl, rfl⟩, Nat.zero_le _, fun _ => ⟨rfl, rfl⟩, fun _ _ j x hx => by rw [h.2.2 j x hx]; omega⟩
theorem betw_of {t : Ts} {l : List Int} {k m : Nat} (hm : mayT t = true) (h : AroundIs l t.v k m) :
    (t.op = 1 → Betw t l k m) ∧ (t.op = 4 → Betw t l 0 m) ∧ (t.op = 3 → Betw t l 0 k) ∧ (t.op = 6 → Betw t l k l.length) ∧ (t.op = 5 → Betw t l m l.length) ∧ (t.op = 8 → Betw t l 0 l.length) ∧ (t.op = 7 → Betw t l 0 0) := by
  obtain ⟨h1, h2, h3⟩ := h
  refine ⟨fun e => ?_, fun e => ?_, fun e => ?_, fun e => ?_, fun e => ?_, fun e => ?_, fun e => ?_⟩
  all_goals
    refine ⟨by omega, by omega, fun j x hx => ?_⟩
    have hj := (List.getElem?_eq_some_iff.1 hx).1
    obtain ⟨p, q⟩ := h3 j x hx
    rw [match_num hm, e]
    simp [standB]
    try omega

set_option maxRecDepth 4000 in
set_option maxHeartbeats 16000000 in
theorem bounds_any {w : World} {v : Value} {l : List Int} (h : NumsIs w v l) (hr : Rise l) (hm : l.length ≤ 1000000) (t : Ts) :
    Calls Try.prog 23 #[tv t, v] w fun e w' => (∃ (f u : Nat), e = .returned (.tuple #[.int .i64 f, .int .i64 u]) ∧ BoundsAns t l f u) ∧ Below w.heap.size w w' := by
  have k1 := tcheck_any t
  have k2 : ∀ W, Below w.heap.size w W → _ := fun W hW => around_any (h.below hW) hr hm t.v
  obtain ⟨a, cap, rfl, -⟩ := h
  obtain ⟨n, hn⟩ : ∃ n, n = l.length := ⟨_, rfl⟩
  rw [← hn] at k2
  rw [← hn]
  have HN : Hid (n = l.length) := hn
  cases hmt : mayT t with
  | false =>
    rw [errT_no hmt] at k1
    have HE : Hid (BoundsAns t l 0 0) := bounds_zero (.inl hmt)
    clear k2 hn hr hmt
    obtain ⟨op, ⟨vk, vn, vs⟩⟩ := t
    go_enter Try.func23, Try.ntmps23
    go_wp2_with fail
    refine (k1 _).mono ?_
    rintro e w1 ⟨rfl, hb1⟩
    obtain ⟨-, hB⟩ := one_box hb1
    clear k1 hb1
    go_wp2_with fail
    go_ret2
    exact ⟨⟨0, 0, rfl, HE.out⟩, hB⟩
  | true =>
    rw [errT_yes hmt] at k1
    obtain ⟨o1, o8⟩ := mayT_op hmt
    have HM : Hid (mayT t = true) := hmt
    clear hmt hr hn
    obtain ⟨op, ⟨vk, vn, vs⟩⟩ := t
    simp only at o1 o8 k2
    have hop : op = 1 ∨ op = 2 ∨ op = 3 ∨ op = 4 ∨ op = 5 ∨ op = 6 ∨ op = 7 ∨ op = 8 := by omega
    clear o1 o8
    rcases hop with rfl | rfl | rfl | rfl | rfl | rfl | rfl | rfl
    · go_enter Try.func23, Try.ntmps23
      go_wp2_with fail
      refine (k1 _).mono ?_
      rintro e w1 ⟨rfl, hb1⟩
      obtain ⟨b0, hB⟩ := one_box hb1
      have t1 := b0.cell 1 _ rfl
      have t2 := b0.cell 2 _ rfl
      have t3 := b0.cell 3 _ rfl
      clear k1 hb1
      go_wp2_with fail
      refine (k2 _ hB).mono ?_
      rintro e w2 ⟨⟨k, m, rfl, hk⟩, hb2⟩
      have t0 := (b0.over hb2).cell 0 _ rfl
      have hB2 := hB.trans (hb2.mono hB.size)
      clear k2 hb2 b0 hB t1 t2 t3
      have HT : Hid (Betw ⟨1, ⟨vk, vn, vs⟩⟩ l k m) := (betw_of HM.out hk).1 rfl
      clear hk
      by_cases hfu : k = m
      · have HE : Hid (BoundsAns ⟨1, ⟨vk, vn, vs⟩⟩ l 0 0) := bounds_none HT.out hfu
        have e1 : ((k : Int) == (m : Int)) = true := by simp; omega
        have e2 : (k == m) = true := by simp; omega
        clear HT hfu
        go_wp2_with fail
        go_ret2
        exact ⟨⟨0, 0, rfl, HE.out⟩, hB2⟩
      · have HE : Hid (BoundsAns ⟨1, ⟨vk, vn, vs⟩⟩ l k m) := bounds_some HT.out (by simp) HM.out hfu
        have e1 : ((k : Int) == (m : Int)) = false := by simp; omega
        have e2 : (k == m) = false := by simp; omega
        clear HT hfu
        go_wp2_with fail
        go_ret2
        exact ⟨⟨k, m, rfl, HE.out⟩, hB2⟩
    · go_enter Try.func23, Try.ntmps23
      go_wp2_with fail
      refine (k1 _).mono ?_
      rintro e w1 ⟨rfl, hb1⟩
      obtain ⟨b0, hB⟩ := one_box hb1
      have t1 := b0.cell 1 _ rfl
      have t2 := b0.cell 2 _ rfl
      have t3 := b0.cell 3 _ rfl
      clear k1 hb1
      go_wp2_with fail
      refine (k2 _ hB).mono ?_
      rintro e w2 ⟨⟨k, m, rfl, hk⟩, hb2⟩
      have t0 := (b0.over hb2).cell 0 _ rfl
      have hB2 := hB.trans (hb2.mono hB.size)
      clear k2 hb2 b0 hB t1 t2 t3
      have HE : Hid (BoundsAns ⟨2, ⟨vk, vn, vs⟩⟩ l 0 0) := bounds_zero (.inr rfl)
      clear hk
      go_wp2_with fail
      go_ret2
      exact ⟨⟨0, 0, rfl, HE.out⟩, hB2⟩
    · go_enter Try.func23, Try.ntmps23
      go_wp2_with fail
      refine (k1 _).mono ?_
      rintro e w1 ⟨rfl, hb1⟩
      obtain ⟨b0, hB⟩ := one_box hb1
      have t1 := b0.cell 1 _ rfl
      have t2 := b0.cell 2 _ rfl
      have t3 := b0.cell 3 _ rfl
      clear k1 hb1
      go_wp2_with fail
      refine (k2 _ hB).mono ?_
      rintro e w2 ⟨⟨k, m, rfl, hk⟩, hb2⟩
      have t0 := (b0.over hb2).cell 0 _ rfl
      have hB2 := hB.trans (hb2.mono hB.size)
      clear k2 hb2 b0 hB t1 t2 t3
      have HT : Hid (Betw ⟨3, ⟨vk, vn, vs⟩⟩ l 0 k) := (betw_of HM.out hk).2.2.1 rfl
      clear hk
      by_cases hfu : 0 = k
      · have HE : Hid (BoundsAns ⟨3, ⟨vk, vn, vs⟩⟩ l 0 0) := bounds_none HT.out hfu
        have e1 : ((0 : Int) == (k : Int)) = true := by simp; omega
        have e2 : ((0 : Nat) == k) = true := by simp; omega
        clear HT hfu
        go_wp2_with fail
        go_ret2
        exact ⟨⟨0, 0, rfl, HE.out⟩, hB2⟩
      · have HE : Hid (BoundsAns ⟨3, ⟨vk, vn, vs⟩⟩ l 0 k) := bounds_some HT.out (by simp) HM.out hfu
        have e1 : ((0 : Int) == (k : Int)) = false := by simp; omega
        have e2 : ((0 : Nat) == k) = false := by simp; omega
        clear HT hfu
        go_wp2_with fail
        go_ret2
        exact ⟨⟨0, k, rfl, HE.out⟩, hB2⟩
    · go_enter Try.func23, Try.ntmps23
      go_wp2_with fail
      refine (k1 _).mono ?_
      rintro e w1 ⟨rfl, hb1⟩
      obtain ⟨b0, hB⟩ := one_box hb1
      have t1 := b0.cell 1 _ rfl
      have t2 := b0.cell 2 _ rfl
      have t3 := b0.cell 3 _ rfl
      clear k1 hb1
      go_wp2_with fail
      refine (k2 _ hB).mono ?_
      rintro e w2 ⟨⟨k, m, rfl, hk⟩, hb2⟩
      have t0 := (b0.over hb2).cell 0 _ rfl
      have hB2 := hB.trans (hb2.mono hB.size)
      clear k2 hb2 b0 hB t1 t2 t3
      have HT : Hid (Betw ⟨4, ⟨vk, vn, vs⟩⟩ l 0 m) := (betw_of HM.out hk).2.1 rfl
      clear hk
      by_cases hfu : 0 = m
      · have HE : Hid (BoundsAns ⟨4, ⟨vk, vn, vs⟩⟩ l 0 0) := bounds_none HT.out hfu
        have e1 : ((0 : Int) == (m : Int)) = true := by simp; omega
        have e2 : ((0 : Nat) == m) = true := by simp; omega
        clear HT hfu
        go_wp2_with fail
        go_ret2
        exact ⟨⟨0, 0, rfl, HE.out⟩, hB2⟩
      · have HE : Hid (BoundsAns ⟨4, ⟨vk, vn, vs⟩⟩ l 0 m) := bounds_some HT.out (by simp) HM.out hfu
        have e1 : ((0 : Int) == (m : Int)) = false := by simp; omega
        have e2 : ((0 : Nat) == m) = false := by simp; omega
        clear HT hfu
        go_wp2_with fail
        go_ret2
        exact ⟨⟨0, m, rfl, HE.out⟩, hB2⟩
    · go_enter Try.func23, Try.ntmps23
      go_wp2_with fail
      refine (k1 _).mono ?_
      rintro e w1 ⟨rfl, hb1⟩
      obtain ⟨b0, hB⟩ := one_box hb1
      have t1 := b0.cell 1 _ rfl
      have t2 := b0.cell 2 _ rfl
      have t3 := b0.cell 3 _ rfl
      clear k1 hb1
      go_wp2_with fail
      refine (k2 _ hB).mono ?_
      rintro e w2 ⟨⟨k, m, rfl, hk⟩, hb2⟩
      have t0 := (b0.over hb2).cell 0 _ rfl
      have hB2 := hB.trans (hb2.mono hB.size)
      clear k2 hb2 b0 hB t1 t2 t3
      have HT : Hid (Betw ⟨5, ⟨vk, vn, vs⟩⟩ l m n) := by have := (betw_of HM.out hk).2.2.2.2.1 rfl; rw [← HN.out] at this; exact this
      clear hk
      by_cases hfu : m = n
      · have HE : Hid (BoundsAns ⟨5, ⟨vk, vn, vs⟩⟩ l 0 0) := bounds_none HT.out hfu
        have e1 : ((m : Int) == (n : Int)) = true := by simp; omega
        have e2 : (m == n) = true := by simp; omega
        clear HT hfu
        go_wp2_with fail
        go_ret2
        exact ⟨⟨0, 0, rfl, HE.out⟩, hB2⟩
      · have HE : Hid (BoundsAns ⟨5, ⟨vk, vn, vs⟩⟩ l m n) := bounds_some HT.out (by simp) HM.out hfu
        have e1 : ((m : Int) == (n : Int)) = false := by simp; omega
        have e2 : (m == n) = false := by simp; omega
        clear HT hfu
        go_wp2_with fail
        go_ret2
        exact ⟨⟨m, n, rfl, HE.out⟩, hB2⟩
    · go_enter Try.func23, Try.ntmps23
      go_wp2_with fail
      refine (k1 _).mono ?_
      rintro e w1 ⟨rfl, hb1⟩
      obtain ⟨b0, hB⟩ := one_box hb1
      have t1 := b0.cell 1 _ rfl
      have t2 := b0.cell 2 _ rfl
      have t3 := b0.cell 3 _ rfl
      clear k1 hb1
      go_wp2_with fail
      refine (k2 _ hB).mono ?_
      rintro e w2 ⟨⟨k, m, rfl, hk⟩, hb2⟩
      have t0 := (b0.over hb2).cell 0 _ rfl
      have hB2 := hB.trans (hb2.mono hB.size)
      clear k2 hb2 b0 hB t1 t2 t3
      have HT : Hid (Betw ⟨6, ⟨vk, vn, vs⟩⟩ l k n) := by have := (betw_of HM.out hk).2.2.2.1 rfl; rw [← HN.out] at this; exact this
      clear hk
      by_cases hfu : k = n
      · have HE : Hid (BoundsAns ⟨6, ⟨vk, vn, vs⟩⟩ l 0 0) := bounds_none HT.out hfu
        have e1 : ((k : Int) == (n : Int)) = true := by simp; omega
        have e2 : (k == n) = true := by simp; omega
        clear HT hfu
        go_wp2_with fail
        go_ret2
        exact ⟨⟨0, 0, rfl, HE.out⟩, hB2⟩
      · have HE : Hid (BoundsAns ⟨6, ⟨vk, vn, vs⟩⟩ l k n) := bounds_some HT.out (by simp) HM.out hfu
        have e1 : ((k : Int) == (n : Int)) = false := by simp; omega
        have e2 : (k == n) = false := by simp; omega
        clear HT hfu
        go_wp2_with fail
        go_ret2
        exact ⟨⟨k, n, rfl, HE.out⟩, hB2⟩
    · go_enter Try.func23, Try.ntmps23
      go_wp2_with fail
      refine (k1 _).mono ?_
      rintro e w1 ⟨rfl, hb1⟩
      obtain ⟨b0, hB⟩ := one_box hb1
      have t1 := b0.cell 1 _ rfl
      have t2 := b0.cell 2 _ rfl
      have t3 := b0.cell 3 _ rfl
      clear k1 hb1
      go_wp2_with fail
      refine (k2 _ hB).mono ?_
      rintro e w2 ⟨⟨k, m, rfl, hk⟩, hb2⟩
      have t0 := (b0.over hb2).cell 0 _ rfl
      have hB2 := hB.trans (hb2.mono hB.size)
      clear k2 hb2 b0 hB t1 t2 t3
      have HE : Hid (BoundsAns ⟨7, ⟨vk, vn, vs⟩⟩ l 0 0) := bounds_none ((betw_of HM.out hk).2.2.2.2.2.2 rfl) rfl
      clear hk
      go_wp2_with fail
      go_ret2
      exact ⟨⟨0, 0, rfl, HE.out⟩, hB2⟩
    · go_enter Try.func23, Try.ntmps23
      go_wp2_with fail
      refine (k1 _).mono ?_
      rintro e w1 ⟨rfl, hb1⟩
      obtain ⟨b0, hB⟩ := one_box hb1
      have t1 := b0.cell 1 _ rfl
      have t2 := b0.cell 2 _ rfl
      have t3 := b0.cell 3 _ rfl
      clear k1 hb1
      go_wp2_with fail
      refine (k2 _ hB).mono ?_
      rintro e w2 ⟨⟨k, m, rfl, hk⟩, hb2⟩
      have t0 := (b0.over hb2).cell 0 _ rfl
      have hB2 := hB.trans (hb2.mono hB.size)
      clear k2 hb2 b0 hB t1 t2 t3
      have HT : Hid (Betw ⟨8, ⟨vk, vn, vs⟩⟩ l 0 n) := by have := (betw_of HM.out hk).2.2.2.2.2.1 rfl; rw [← HN.out] at this; exact this
      clear hk
      by_cases hfu : 0 = n
      · have HE : Hid (BoundsAns ⟨8, ⟨vk, vn, vs⟩⟩ l 0 0) := bounds_none HT.out hfu
        have e1 : ((0 : Int) == (n : Int)) = true := by simp; omega
        have e2 : ((0 : Nat) == n) = true := by simp; omega
        clear HT hfu
        go_wp2_with fail
        go_ret2
        exact ⟨⟨0, 0, rfl, HE.out⟩, hB2⟩
      · have HE : Hid (BoundsAns ⟨8, ⟨vk, vn, vs⟩⟩ l 0 n) := bounds_some HT.out (by simp) HM.out hfu
        have e1 : ((0 : Int) == (n : Int)) = false := by simp; omega
        have e2 : ((0 : Nat) == n) = false := by simp; omega
        clear HT hfu
        go_wp2_with fail
        go_ret2
        exact ⟨⟨0, n, rfl, HE.out⟩, hB2⟩
end Go.Proofs.Ytnnnkmgkijijdaa
