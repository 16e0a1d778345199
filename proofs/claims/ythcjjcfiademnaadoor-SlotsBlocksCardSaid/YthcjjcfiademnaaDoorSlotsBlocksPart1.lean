/-
  1 texts, one behind the other: WSlotsBlocks.
-/
import Derived.Test.YthcjjcfiademnaaDoorJoin4
/-
  The walk of law SlotsBlocks: it answers true, whatever the extent, the turn and the bytes.
-/
namespace Go.Proofs.YthcjjcfiademnaaDoor
open Go.RowKit Leb

set_option maxRecDepth 4000 in
set_option maxHeartbeats 2000000 in
theorem walkSlotsBlocks (a0 c0 : Int) (w0 : (Lit.int .i64 a0).wf = true) (w0' : (Lit.int .i64 c0).wf = true) (a1 : Int) (w1 : (Lit.int .i64 a1).wf = true) (a2 : ByteArray) (_w2 : a2.size ≤ maxLen) (w : World) :
    Calls Tryd.prog 4 #[.agg #[.int .i64 a0, .int .i64 c0], .int .i64 a1, .string a2] w fun e w' => e = .returned (.bool true) ∧ Below w.heap.size w w' := by
  obtain ⟨f, rfl⟩ := Wd.word_of a0 w0
  obtain ⟨c, rfl⟩ := Wd.word_of c0 w0'
  obtain ⟨turn, rfl⟩ := Wd.word_of a1 w1
  have ca := awake24
  have hb1 := below1 w (.cells #[.int .i64 f.toInt, .int .i64 c.toInt] 32)
  have B0 := box_new w #[.int .i64 f.toInt, .int .i64 c.toInt] 32
  by_cases hl : a2.size ≤ 512
  · have hlI : ¬ 512 < (a2.size : Int) := by omega
    have htl : a2.data.toList.length ≤ 1000000 := by simp; omega
    have cs := fun w => qslot_any f c turn a2.data.toList htl w
    have cr := fun w => refSlot_any f c turn a2.data.toList htl w
    rw [strB_of] at cs cr
    obtain ⟨R, hR⟩ : ∃ R, R = strB (slotB ⟨turn, f, c, BitVec.ofNat 64 a2.data.toList.length, BitVec.ofNat 64 (Crc.sum a2.data.toList).toNat⟩) := ⟨_, rfl⟩
    rw [← hR] at cs cr
    obtain ⟨x, hx⟩ : ∃ x, x = f.toInt := ⟨_, rfl⟩
    obtain ⟨y, hy⟩ : ∃ y, y = c.toInt := ⟨_, rfl⟩
    obtain ⟨z, hz⟩ : ∃ z, z = turn.toInt := ⟨_, rfl⟩
    rw [← hx, ← hy, ← hz] at cs cr
    rw [← hx, ← hy] at hb1 B0
    rw [← hx, ← hy, ← hz]
    have k0 : ∀ k : Above (w.alloc (.cells #[.int .i64 x, .int .i64 y] 32)), k.it.cell? ⟨w.heap.size, 0, none⟩ = some (.int .i64 x) := fun k => (B0.over k.is).cell 0 _ rfl
    have k1 : ∀ k : Above (w.alloc (.cells #[.int .i64 x, .int .i64 y] 32)), k.it.cell? ⟨w.heap.size, 1, none⟩ = some (.int .i64 y) := fun k => (B0.over k.is).cell 1 _ rfl
    clear hR hx hy hz B0 htl w0 w0' w1
    go_enter Tryd.func4, Tryd.ntmps4
    go_wp2_with fail
    refine wp_region_above (by kernel_rfl) (by kernel_rfl) ?_
    intro hne
    repeat (go_big_quiet_step (first
      | (go_at_call 11; exact above_of (cs _))
      | (go_at_call 12; exact above_of (cr _))
      | (go_at_call 6; exact above_of (ca _))))
    refine wpQuiet_nil ?_
    rintro _ ⟨kq, rfl⟩
    have hbq := kq.is
    replace hbq := hb1.trans (hbq.mono hb1.size)
    clear k0 k1
    go_wp2
    go_ret
    exact ⟨by simp, hbq⟩
  · have hlI : 512 < (a2.size : Int) := by omega
    obtain ⟨x, hx⟩ : ∃ x, x = f.toInt := ⟨_, rfl⟩
    obtain ⟨y, hy⟩ : ∃ y, y = c.toInt := ⟨_, rfl⟩
    obtain ⟨z, hz⟩ : ∃ z, z = turn.toInt := ⟨_, rfl⟩
    rw [← hx, ← hy] at hb1
    rw [← hx, ← hy, ← hz]
    clear hx hy hz B0 w0 w0' w1
    go_enter Tryd.func4, Tryd.ntmps4
    go_wp2_with fail
    refine (ca _).mono ?_
    rintro e w2 ⟨rfl, b2⟩
    go_wp2_with fail
    go_ret
    exact ⟨rfl, hb1.trans (b2.mono hb1.size)⟩
end Go.Proofs.YthcjjcfiademnaaDoor
