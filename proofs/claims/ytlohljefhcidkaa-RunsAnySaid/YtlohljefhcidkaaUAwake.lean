/-
  The contract of law 10's awake.
-/
import Derived.Test.YtlohljefhcidkaaUOf
import Derived.Test.YtlohljefhcidkaaUPut
import Derived.Test.YtlohljefhcidkaaUFind
import Derived.Test.YtlohljefhcidkaaUFlat
namespace Go.Proofs.Ytlohljefhcidkaa
open Go.RowKit

theorem reads_new (w : World) (cs : Array Value) (l : List (BitVec 64)) (h : cs.toList = iv l) (hl : l ≠ []) : ReadsI (w.alloc (.cells cs 3)) (.slice (some ⟨w.heap.size, 0, none⟩) l.length l.length) l := by
  refine .inr ⟨w.heap.size, 0, l.length, rfl, hl, by simp, fun i hi => ?_⟩
  rw [cell_of_row _ _ _ cs 3 _ (heap_alloc_last w _)]
  rw [← Array.getElem?_toList, h]
  simp [iv, hi]
abbrev awL : List (BitVec 64) := [7#64, 7#64, 3#64]
def awR : List Rn := [⟨7#64, 0, 2⟩, ⟨3#64, 2, 1⟩]
theorem aw_of : ofP awL awL.length = awR := by simp [ofP, bump, awR]
theorem aw_may : May awR := by rw [← aw_of]; exact (of_is awL 3 (by decide) (by decide)).may
theorem aw_enc : encR awR = [14, 4, 6, 2] := by decide +kernel
theorem aw_str : str (encR awR) = ⟨#[14, 4, 6, 2]⟩ := by rw [aw_enc]; rfl
theorem aw_find : findA awR 2 = (1, 0) := by rfl
theorem aw_flat : flat awR = awL := by rfl
theorem aw_shape {w : World} {v : Value} (h : RunsIs w v awR) : ∃ b off cap, v = .slice (some ⟨b, off, none⟩) 2 cap := by
  obtain ⟨a, n, cap, rfl, hn, hcap⟩ := h.slice
  obtain ⟨b, off, rfl, hall⟩ := h.some (by simp [awR])
  exact ⟨b, off, cap, by rw [← hn]; rfl⟩
theorem aw_cells {w : World} {b off cap : Nat} (h : RunsIs w (.slice (some ⟨b, off, none⟩) 2 cap) awR) : w.cell? ⟨b, off + 3, none⟩ = some (.int .i64 3) ∧ w.cell? ⟨b, off + 3 + 1, none⟩ = some (.int .i64 2) ∧ w.cell? ⟨b, off + 3 + 2, none⟩ = some (.int .i64 1) := by
  obtain ⟨b2, off2, e, hall⟩ := h.some (by simp [awR])
  cases e
  have := hall 1 ⟨3#64, 2, 1⟩ rfl
  exact ⟨this.c0, this.c1, this.c2⟩
theorem aw_put {w : World} {v : Value} (h : RunsIs w v awR) : Calls Try.prog 16 #[v] w fun e w' => e = .returned (.tuple #[.string ⟨#[14, 4, 6, 2]⟩, .int .i64 0]) ∧ Below w.heap.size w w' := by
  have := put_yes h (by decide) aw_may
  rwa [aw_str] at this
theorem aw_findC {w : World} {v : Value} (h : RunsIs w v awR) : Calls Try.prog 10 #[v, .int .i64 2] w fun e w' => e = .returned (.tuple #[.int .i64 1, .int .i64 0]) ∧ Below w.heap.size w w' := by
  have := find_yes h aw_may 2
  rwa [aw_find] at this

set_option maxRecDepth 4000 in
set_option maxHeartbeats 4000000 in
theorem awake_any (w : World) : Calls Try.prog 7 #[] w fun e w' => e = .returned (.bool true) ∧ Below w.heap.size w w' := by
  have h1 := runsOf_any (reads_new w #[.int .i64 7, .int .i64 7, .int .i64 3] awL rfl (by simp)) (by decide)
  have hb0 := below1 w (.cells #[.int .i64 7, .int .i64 7, .int .i64 3] 3)
  go_enter Try.func7, Try.ntmps7
  go_wp2_with fail
  refine h1.mono ?_
  rintro e w1 ⟨⟨v, rfl, hv⟩, hb1⟩
  rw [aw_of] at hv
  obtain ⟨b, off, cap, rfl⟩ := aw_shape hv
  have H1 : Hid (RunsIs w1 (.slice (some ⟨b, off, none⟩) 2 cap) awR ∧ Below w.heap.size w w1) := ⟨hv, hb0.trans (hb1.mono hb0.size)⟩
  clear h1 hb0 hv hb1
  go_wp2_with fail
  refine (aw_put H1.out.1).mono ?_
  rintro e w2 ⟨rfl, hb2⟩
  have H2 : Hid (RunsIs w2 (.slice (some ⟨b, off, none⟩) 2 cap) awR ∧ Below w.heap.size w w2) := ⟨H1.out.1.below hb2, H1.out.2.trans (hb2.mono H1.out.2.size)⟩
  clear H1 hb2
  go_wp2_with fail
  refine (aw_findC H2.out.1).mono ?_
  rintro e w3 ⟨rfl, hb3⟩
  have H3 : Hid (RunsIs w3 (.slice (some ⟨b, off, none⟩) 2 cap) awR ∧ Below w.heap.size w w3) := ⟨H2.out.1.below hb3, H2.out.2.trans (hb3.mono H2.out.2.size)⟩
  clear H2 hb3
  go_wp2_with fail
  refine (flat_yes H3.out.1 aw_may).mono ?_
  rintro e w4 ⟨⟨m, rfl, hm⟩, hb4⟩
  rw [aw_flat] at hm
  have H4 : Hid (RunsIs w4 (.slice (some ⟨b, off, none⟩) 2 cap) awR ∧ Below w.heap.size w w4 ∧ ReadsI w4 m awL) := ⟨H3.out.1.below hb4, H3.out.2.trans (hb4.mono H3.out.2.size), hm.reads⟩
  clear H3 hb4 hm
  obtain ⟨c0, c1, c2⟩ := aw_cells H4.out.1
  go_wp2_with fail
  refine (same_any _ _ _ awL (by decide) (H4.out.2.2.below (below1 _ _)) (reads_new w4 #[.int .i64 7, .int .i64 7, .int .i64 3] awL rfl (by simp))).mono ?_
  rintro e w5 ⟨rfl, nq, rfl⟩
  have H5 : Hid (Below w.heap.size w (w4.alloc (.cells #[.int .i64 7, .int .i64 7, .int .i64 3] 3))) := H4.out.2.1.trans ((below1 _ _).mono H4.out.2.1.size)
  clear c0 c1 c2
  go_wp2_with fail
  go_ret
  exact ⟨rfl, ⟨H5.out.os, H5.out.tape, H5.out.output, H5.out.size, H5.out.block⟩⟩
end Go.Proofs.Ytlohljefhcidkaa
