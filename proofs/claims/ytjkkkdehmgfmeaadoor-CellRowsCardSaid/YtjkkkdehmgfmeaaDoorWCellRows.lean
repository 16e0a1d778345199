/-
  The walk of law 6's CellRows: which of any two rows stands first, by any columns.
-/
import Derived.Test.YtjkkkdehmgfmeaaDoorKAwake
import Derived.Test.YtjkkkdehmgfmeaaDoorKRefRows
namespace Go.Proofs.YtjkkkdehmgfmeaaDoor
open Go.RowKit

theorem SortsIs.below {w w' : World} {v : Value} {ks : List (Int × Bool)} (h : SortsIs w v ks) (k : Below w.heap.size w w') : SortsIs w' v ks := by
  obtain ⟨a, cap, rfl, h⟩ := h
  refine ⟨a, cap, rfl, fun hr => ?_⟩
  obtain ⟨b, off, rfl, hb, hc⟩ := h hr
  refine ⟨b, off, rfl, Nat.lt_of_lt_of_le hb k.size, fun i x hi => ?_⟩
  obtain ⟨h1, h2, h3⟩ := hc i x hi
  exact ⟨(k.cell hb).trans h1, (k.cell hb).trans h2, h3⟩
/-- What stays between the calls of CellRows. -/
structure Rw (w w' : World) (v1 v2 v3 : Value) (r1 r2 : List Cl) (ks : List (Int × Bool)) : Prop where
  a : RowIs w' v1 r1
  b : RowIs w' v2 r2
  by' : SortsIs w' v3 ks
  bel : Below w.heap.size w w'
  env : Env w'
theorem Rw.over {w w1 w2 : World} {v1 v2 v3 : Value} {r1 r2 : List Cl} {ks : List (Int × Bool)} (h : Rw w w1 v1 v2 v3 r1 r2 ks) (hb : Below w1.heap.size w1 w2) : Rw w w2 v1 v2 v3 r1 r2 ks :=
  ⟨h.a.below hb, h.b.below hb, h.by'.below hb, h.bel.trans (hb.mono h.bel.size), h.env.below hb⟩
theorem cmpR_bd (a b : List Cl) : ∀ ks, -1 ≤ cmpR a b ks ∧ cmpR a b ks ≤ 1
  | [] => by unfold cmpR; omega
  | (k, d) :: r => by
    have ih := cmpR_bd a b r
    have h := cmpC_bd (atC a k) (atC b k)
    unfold cmpR
    (repeat' split) <;> omega

set_option maxRecDepth 4000 in
set_option maxHeartbeats 4000000 in
theorem walkCellRows {w : World} {v1 v2 : Value} {la lc : Nat} {ad : Option Addr} {r1 r2 : List Cl} {ks : List (Int × Bool)} (h1 : RowIs w v1 r1 ∧ (∀ (i : Nat) (c : Cl), r1[i]? = some c → okC c) ∧ r1.length ≤ maxLen) (h2 : RowIs w v2 r2 ∧ (∀ (i : Nat) (c : Cl), r2[i]? = some c → okC c) ∧ r2.length ≤ maxLen) (h3 : SortsIs w (.slice ad la lc) ks ∧ ks.length ≤ maxLen) (hE : Env w) :
    Calls Tryd.prog 5 #[v1, v2, .slice ad la lc] w fun e w' => e = .returned (.bool true) ∧ Below w.heap.size w w' := by
  obtain ⟨h1, _, m1⟩ := h1
  obtain ⟨h2, _, m2⟩ := h2
  obtain ⟨h3, m3⟩ := h3
  have A0 : Rw w w v1 v2 (.slice ad la lc) r1 r2 ks := ⟨h1, h2, h3, Below.refl _ _, hE⟩
  have l1 : ∀ w, RowIs w v1 r1 → Calls Tryd.prog 14 #[v1] w fun e w' => e = .returned (.bool (lightC r1)) ∧ Below w.heap.size w w' := fun w h => light_any w v1 r1 h m1
  have l2 : ∀ w, RowIs w v2 r2 → Calls Tryd.prog 14 #[v2] w fun e w' => e = .returned (.bool (lightC r2)) ∧ Below w.heap.size w w' := fun w h => light_any w v2 r2 h m2
  have c1 : ∀ w', Rw w w' v1 v2 (.slice ad la lc) r1 r2 ks → Calls Tryd.prog 15 #[v1, v2, .slice ad la lc] w' fun e w'' => e = .returned (.int .i64 (cmpR r1 r2 ks)) ∧ Below w'.heap.size w' w'' := fun w' h => compareRows_any h.a h.b h.by' m3
  have c2 : ∀ w', Rw w w' v1 v2 (.slice ad la lc) r1 r2 ks → Calls Tryd.prog 16 #[v1, v2, .slice ad la lc] w' fun e w'' => e = .returned (.int .i64 (cmpR r1 r2 ks)) ∧ Below w'.heap.size w' w'' := fun w' h => refCompareRows_any h.a h.b h.by' m3
  have c3 : ∀ w', Rw w w' v1 v2 (.slice ad la lc) r1 r2 ks → Calls Tryd.prog 15 #[v2, v1, .slice ad la lc] w' fun e w'' => e = .returned (.int .i64 (- cmpR r1 r2 ks)) ∧ Below w'.heap.size w' w'' := fun w' h => by
    rw [← cmpR_flip]
    exact compareRows_any h.b h.a h.by' m3
  have hbd := cmpR_bd r1 r2 ks
  obtain ⟨x, hx⟩ : ∃ x, x = cmpR r1 r2 ks := ⟨_, rfl⟩
  rw [← hx] at c1 c2 c3 hbd
  clear hx hE h1 h2 h3 m1 m2 m3
  cases e1 : lightC r1 with
  | false =>
    rw [e1] at l1
    clear e1 l2 c1 c2 c3 hbd
    go_enter Tryd.func5, Tryd.ntmps5
    go_wp2_with fail
    refine (l1 _ A0.a).mono ?_
    rintro e w2 ⟨rfl, hb2⟩
    have A2 := A0.over hb2
    clear A0 hb2 l1
    go_wp2_with fail
    refine (awake_any _ A2.env).mono ?_
    rintro e w3 ⟨rfl, hb3⟩
    have A3 := A2.over hb3
    go_wp2_with fail
    go_ret
    exact ⟨rfl, A3.bel⟩
  | true =>
    rw [e1] at l1
    clear e1
    cases e2 : lightC r2 with
    | false =>
      rw [e2] at l2
      clear e2 c1 c2 c3 hbd
      go_enter Tryd.func5, Tryd.ntmps5
      go_wp2_with fail
      refine (l1 _ A0.a).mono ?_
      rintro e w2 ⟨rfl, hb2⟩
      have A2 := A0.over hb2
      clear A0 hb2 l1
      go_wp2_with fail
      refine (l2 _ A2.b).mono ?_
      rintro e w3 ⟨rfl, hb3⟩
      have A3 := A2.over hb3
      clear A2 hb3 l2
      go_wp2_with fail
      refine (awake_any _ A3.env).mono ?_
      rintro e w4 ⟨rfl, hb4⟩
      have A4 := A3.over hb4
      go_wp2_with fail
      go_ret
      exact ⟨rfl, A4.bel⟩
    | true =>
      rw [e2] at l2
      clear e2
      by_cases hl : (10 : Int) < (la : Int)
      · clear c1 c2 c3 hbd
        go_enter Tryd.func5, Tryd.ntmps5
        go_wp2_with fail
        refine (l1 _ A0.a).mono ?_
        rintro e w2 ⟨rfl, hb2⟩
        have A2 := A0.over hb2
        clear A0 hb2 l1
        go_wp2_with fail
        refine (l2 _ A2.b).mono ?_
        rintro e w3 ⟨rfl, hb3⟩
        have A3 := A2.over hb3
        clear A2 hb3 l2
        go_wp2_with fail
        refine (awake_any _ A3.env).mono ?_
        rintro e w4 ⟨rfl, hb4⟩
        have A4 := A3.over hb4
        go_wp2_with fail
        go_ret
        exact ⟨rfl, A4.bel⟩
      · have hx3 : IntKind.i64.wrap (-x) = -x := by rw [IntKind.wrap_i64]; omega
        clear hbd
        go_enter Tryd.func5, Tryd.ntmps5
        go_wp2_with fail
        refine (l1 _ A0.a).mono ?_
        rintro e w2 ⟨rfl, hb2⟩
        have A2 := A0.over hb2
        clear A0 hb2 l1
        go_wp2_with fail
        refine (l2 _ A2.b).mono ?_
        rintro e w3 ⟨rfl, hb3⟩
        have A3 := A2.over hb3
        clear A2 hb3 l2
        go_wp2_with fail
        refine (c1 _ A3).mono ?_
        rintro e w4 ⟨rfl, hb4⟩
        have A4 := A3.over hb4
        clear A3 hb4
        go_wp2_with fail
        refine (c2 _ A4).mono ?_
        rintro e w5 ⟨rfl, hb5⟩
        have A5 := A4.over hb5
        clear A4 hb5
        go_wp2_with fail
        refine (c3 _ A5).mono ?_
        rintro e w6 ⟨rfl, hb6⟩
        have A6 := A5.over hb6
        clear A5 hb6
        go_wp2_with fail
        refine (c1 _ A6).mono ?_
        rintro e w7 ⟨rfl, hb7⟩
        have A7 := A6.over hb7
        clear A6 hb7
        go_wp2_with fail
        refine (awake_any _ A7.env).mono ?_
        rintro e w8 ⟨rfl, hb8⟩
        have A8 := A7.over hb8
        go_wp2_with fail
        go_ret
        exact ⟨rfl, A8.bel⟩
end Go.Proofs.YtjkkkdehmgfmeaaDoor
