/-
  The walk of law 6's CellFits: whether any row fits any columns.
-/
import Derived.Test.YtjkkkdehmgfmeaaDoorKAwake
import Derived.Test.YtjkkkdehmgfmeaaDoorKRefFits
namespace Go.Proofs.YtjkkkdehmgfmeaaDoor
open Go.RowKit

/-- What stays between the calls of CellFits. -/
structure Fi (w w' : World) (v1 v2 : Value) (r : List Cl) (qs : List Col) : Prop where
  row : RowIs w' v1 r
  cols : ColsIs w' v2 qs
  bel : Below w.heap.size w w'
  env : Env w'
theorem Fi.over {w w1 w2 : World} {v1 v2 : Value} {r : List Cl} {qs : List Col} (h : Fi w w1 v1 v2 r qs) (hb : Below w1.heap.size w1 w2) : Fi w w2 v1 v2 r qs :=
  ⟨h.row.below hb, h.cols.below hb, h.bel.trans (hb.mono h.bel.size), h.env.below hb⟩

set_option maxRecDepth 4000 in
set_option maxHeartbeats 4000000 in
theorem walkCellFits {w : World} {v1 : Value} {ad : Option Addr} {la lc : Nat} {r : List Cl} {qs : List Col} (h1 : RowIs w v1 r ∧ (∀ (i : Nat) (c : Cl), r[i]? = some c → okC c) ∧ r.length ≤ maxLen) (h2 : ColsIs w (.slice ad la lc) qs ∧ qs.length ≤ maxLen) (hE : Env w) :
    Calls Tryd.prog 7 #[v1, .slice ad la lc] w fun e w' => e = .returned (.bool true) ∧ Below w.heap.size w w' := by
  obtain ⟨h1, _, m1⟩ := h1
  obtain ⟨h2, _⟩ := h2
  have A0 : Fi w w v1 (.slice ad la lc) r qs := ⟨h1, h2, Below.refl _ _, hE⟩
  have l1 : ∀ w, RowIs w v1 r → Calls Tryd.prog 14 #[v1] w fun e w' => e = .returned (.bool (lightC r)) ∧ Below w.heap.size w w' := fun w h => light_any w v1 r h m1
  have c1 : ∀ w', Fi w w' v1 (.slice ad la lc) r qs → Calls Tryd.prog 22 #[v1, .slice ad la lc] w' fun e w'' => e = .returned (.int .i64 (if fitsR r qs = true then 0 else 1)) ∧ Below w'.heap.size w' w'' := fun w' h => fitsRow_any h.row h.cols m1
  have c2 : ∀ w', Fi w w' v1 (.slice ad la lc) r qs → Calls Tryd.prog 23 #[v1, .slice ad la lc] w' fun e w'' => e = .returned (.bool (fitsR r qs)) ∧ Below w'.heap.size w' w'' := fun w' h => refFits_any h.row h.cols m1
  obtain ⟨f, hf⟩ : ∃ f, f = fitsR r qs := ⟨_, rfl⟩
  rw [← hf] at c1 c2
  clear hf hE h1 h2 m1
  cases e1 : lightC r with
  | false =>
    rw [e1] at l1
    clear e1 c1 c2
    go_enter Tryd.func7, Tryd.ntmps7
    go_wp2_with fail
    refine (l1 _ A0.row).mono ?_
    rintro e w2 ⟨rfl, hb2⟩
    have A2 := A0.over hb2
    clear A0 hb2 l1
    go_wp2_with fail
    refine (awake_any _ A2.env).mono ?_
    rintro e w3 ⟨rfl, hb3⟩
    have A3 := A2.over hb3
    go_wp2_with fail
    go_ret
    exact ⟨rfl, A3.bel⟩
  | true =>
    rw [e1] at l1
    clear e1
    by_cases hl : (20 : Int) < (la : Int)
    · clear c1 c2
      go_enter Tryd.func7, Tryd.ntmps7
      go_wp2_with fail
      refine (l1 _ A0.row).mono ?_
      rintro e w2 ⟨rfl, hb2⟩
      have A2 := A0.over hb2
      clear A0 hb2 l1
      go_wp2_with fail
      refine (awake_any _ A2.env).mono ?_
      rintro e w3 ⟨rfl, hb3⟩
      have A3 := A2.over hb3
      go_wp2_with fail
      go_ret
      exact ⟨rfl, A3.bel⟩
    · cases f
      all_goals
        simp only [Bool.false_eq_true, if_true, if_false] at c1
        go_enter Tryd.func7, Tryd.ntmps7
        go_wp2_with fail
        refine (l1 _ A0.row).mono ?_
        rintro e w2 ⟨rfl, hb2⟩
        have A2 := A0.over hb2
        clear A0 hb2 l1
        go_wp2_with fail
        refine (c1 _ A2).mono ?_
        rintro e w3 ⟨rfl, hb3⟩
        have A3 := A2.over hb3
        clear A2 hb3
        go_wp2_with fail
        refine (c2 _ A3).mono ?_
        rintro e w4 ⟨rfl, hb4⟩
        have A4 := A3.over hb4
        clear A3 hb4
        go_wp2_with fail
        refine (awake_any _ A4.env).mono ?_
        rintro e w5 ⟨rfl, hb5⟩
        have A5 := A4.over hb5
        go_wp2_with fail
        go_ret
        exact ⟨rfl, A5.bel⟩
end Go.Proofs.YtjkkkdehmgfmeaaDoor
