/-
  Rows of cells in memory, and the contract of the document's Compare.
-/
import Derived.Test.YtnnnkmgkijijdaaKChk
import Derived.Test.YtnnnkmgkijijdaaSApp
import Derived.Deep.MidRow
import Derived.Deep.LoopGhost
namespace Go.Proofs.Ytnnnkmgkijijdaa
open Go.RowKit

/-- The cell c lies at b, from o on. -/
structure CellAt (w : World) (b o : Nat) (c : Cl) : Prop where
  c0 : w.cell? ⟨b, o, none⟩ = some (.int .i64 c.k)
  c1 : w.cell? ⟨b, o + 1, none⟩ = some (.int .i64 c.n)
  c2 : w.cell? ⟨b, o + 2, none⟩ = some (.string c.s)
theorem CellAt.below {w w' : World} {b o : Nat} {c : Cl} (h : CellAt w b o c) (hb : b < w.heap.size) (k : Below w.heap.size w w') : CellAt w' b o c :=
  ⟨(k.cell (p := ⟨b, o, none⟩) hb).trans h.c0, (k.cell (p := ⟨b, o + 1, none⟩) hb).trans h.c1, (k.cell (p := ⟨b, o + 2, none⟩) hb).trans h.c2⟩
/-- A slice of cells reads as r. -/
def RowIs (w : World) (v : Value) (r : List Cl) : Prop :=
  ∃ a cap, v = .slice a r.length cap ∧ (r ≠ [] → ∃ b off, a = some ⟨b, off, none⟩ ∧ b < w.heap.size ∧ ∀ i c, r[i]? = some c → CellAt w b (off + i * 3) c)
theorem RowIs.below {w w' : World} {v : Value} {r : List Cl} (h : RowIs w v r) (k : Below w.heap.size w w') : RowIs w' v r := by
  obtain ⟨a, cap, rfl, h⟩ := h
  refine ⟨a, cap, rfl, fun hr => ?_⟩
  obtain ⟨b, off, rfl, hb, hc⟩ := h hr
  exact ⟨b, off, rfl, Nat.lt_of_lt_of_le hb k.size, fun i c hi => (hc i c hi).below hb k⟩
set_option maxHeartbeats 2000000 in
theorem refCompare_any (a b : Cl) (w : World) :
    Calls Try.prog 28 #[cv a, cv b] w fun e w' => e = .returned (.int .i64 (cmpC a b)) ∧ Below w.heap.size w w' := by
  obtain ⟨ak, an, sa⟩ := a
  obtain ⟨bk, bn, sb⟩ := b
  simp only [cv]
  by_cases hk : ak = bk
  · by_cases hn : an = bn
    · by_cases hs : sa.toList = sb.toList
      · have HE : Hid (cmpC ⟨ak, an, sa⟩ ⟨bk, bn, sb⟩ = 0) := (cmpC_zero _ _).2 (cl_ext hk hn hs)
        subst hk hn
        have h2 : (sa.toList == sb.toList) = true := by simpa using hs
        clear hs
        go_enter Try.func28, Try.ntmps28
        go_wp2_with fail
        go_ret
        exact ⟨retI HE.out, below2 _ _ _⟩
      · subst hk hn
        have h2 : (sa.toList == sb.toList) = false := by simpa using hs
        cases h3 : Op.bytesLess sa.toList sb.toList with
        | true =>
          have HE : Hid (cmpC ⟨ak, an, sa⟩ ⟨ak, an, sb⟩ = -1) := by unfold Hid cmpC cmpS; simp [h3]
          clear hs
          go_enter Try.func28, Try.ntmps28
          go_wp2_with fail
          go_ret
          exact ⟨retI HE.out, below2 _ _ _⟩
        | false =>
          have HE : Hid (cmpC ⟨ak, an, sa⟩ ⟨ak, an, sb⟩ = 1) := by unfold Hid cmpC cmpS; simp [h3, hs]
          clear hs
          go_enter Try.func28, Try.ntmps28
          go_wp2_with fail
          go_ret
          exact ⟨retI HE.out, below2 _ _ _⟩
    · subst hk
      have h1 : (an == bn) = false := by simpa using hn
      by_cases h3 : an < bn
      · have HE : Hid (cmpC ⟨ak, an, sa⟩ ⟨ak, bn, sb⟩ = -1) := by unfold Hid cmpC cmpI; simp [hn, h3]
        clear hn
        go_enter Try.func28, Try.ntmps28
        go_wp2_with fail
        go_ret
        exact ⟨retI HE.out, below2 _ _ _⟩
      · have HE : Hid (cmpC ⟨ak, an, sa⟩ ⟨ak, bn, sb⟩ = 1) := by unfold Hid cmpC cmpI; rw [if_pos rfl, if_neg hn, if_neg h3, if_pos (show bn < an by omega)]
        clear hn
        go_enter Try.func28, Try.ntmps28
        go_wp2_with fail
        go_ret
        exact ⟨retI HE.out, below2 _ _ _⟩
  · have h1 : (ak == bk) = false := by simpa using hk
    by_cases h3 : ak < bk
    · have HE : Hid (cmpC ⟨ak, an, sa⟩ ⟨bk, bn, sb⟩ = -1) := by unfold Hid cmpC cmpI; simp [hk, h3]
      clear hk
      go_enter Try.func28, Try.ntmps28
      go_wp2_with fail
      go_ret
      exact ⟨retI HE.out, below2 _ _ _⟩
    · have HE : Hid (cmpC ⟨ak, an, sa⟩ ⟨bk, bn, sb⟩ = 1) := by unfold Hid cmpC cmpI; rw [if_neg hk, if_neg h3, if_pos (show bk < ak by omega)]
      clear hk
      go_enter Try.func28, Try.ntmps28
      go_wp2_with fail
      go_ret
      exact ⟨retI HE.out, below2 _ _ _⟩

end Go.Proofs.Ytnnnkmgkijijdaa
