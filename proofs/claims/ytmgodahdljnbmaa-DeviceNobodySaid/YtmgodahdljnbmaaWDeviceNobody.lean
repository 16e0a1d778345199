/-
  The walk of law 4's DeviceNobody: a device of no blocks, or too many, there is not; one that nobody made answers nothing.
-/
import Derived.Test.YtmgodahdljnbmaaDFree
namespace Go.Proofs.Ytmgodahdljnbmaa
open Go.RowKit

set_option maxRecDepth 4000 in
set_option maxHeartbeats 4000000 in
theorem walkDeviceNobody (a0 : Int) (_ : (Lit.int .i64 a0).wf = true) (s : ByteArray) (_ : s.size ≤ maxLen) (w : World) :
    Calls Try.prog 6 #[.int .i64 a0, .string s] w fun e w' => e = .returned (.bool true) ∧ Below w.heap.size w w' := by

  by_cases hlen : (200 : Int) < (s.size : Int)
  · go_enter Try.func6, Try.ntmps6
    go_wp2_with (go_at_call 9; refine (awake_any _).mono ?_; rintro e w2 ⟨rfl, hb2⟩)
    go_ret
    exact ⟨rfl, hb2⟩
  · obtain ⟨x, hx, hx0⟩ : ∃ x : Int, (if (0 : Int) < a0 then (0 : Int) else a0) = x ∧ x ≤ 0 := ⟨_, rfl, by split <;> omega⟩
    obtain ⟨y, hy, hy0⟩ : ∃ y : Int, (if a0 < 4097 then (4097 : Int) else a0) = y ∧ 4097 ≤ y := ⟨_, rfl, by split <;> omega⟩
    have cx := new_bad x (by omega)
    have cy := new_bad y (by omega)
    go_enter Try.func6, Try.ntmps6
    go_wp2_with (first
      | (go_at_call 7; with_reducible refine (cx _).mono ?_; rintro e w1 ⟨rfl, hw1⟩; replace hw1 := hw1.symm; subst hw1)
      | (go_at_call 7; with_reducible refine (cy _).mono ?_; rintro e w1 ⟨rfl, hw1⟩; replace hw1 := hw1.symm; subst hw1))
    obtain ⟨W2, hW2⟩ : ∃ W2, W2 = (w.alloc (.cells #[.slice none 0 0, .slice none 0 0, .slice none 0 0, .int .i64 0, .bool false] 56)).alloc (.cells #[.pointer none, .pointer (some ⟨w.heap.size, 0, none⟩)] 23) := ⟨_, rfl⟩
    rw [← hW2]
    have hsz : w.heap.size + 1 < W2.heap.size := by rw [hW2]; simp
    have hbW : Below w.heap.size w W2 := by rw [hW2]; exact ((Below.refl _ w).alloc (Nat.le_refl _) _).alloc (by simp) _
    have hB : W2.cell? ⟨w.heap.size, 0, none⟩ = some (.slice none 0 0) := by
      rw [hW2, cell_of_row _ w.heap.size 0 _ _ _ (heap_alloc2_old w _ _)]
      rfl
    have hL0 : W2.cell? ⟨w.heap.size + 1, 0, none⟩ = some (.pointer none) := by
      rw [hW2, cell_of_row _ (w.heap.size + 1) 0 _ _ _ (heap_alloc2_new w _ _)]
      rfl
    have hL1 : W2.cell? ⟨w.heap.size + 1, 1, none⟩ = some (.pointer (some ⟨w.heap.size, 0, none⟩)) := by
      rw [hW2, cell_of_row _ (w.heap.size + 1) 1 _ _ _ (heap_alloc2_new w _ _)]
      rfl
    have hel : ∀ i, i < 2 → ∃ d, (∀ wx, Below W2.heap.size W2 wx → wx.cell? ⟨w.heap.size + 1, i, none⟩ = some d) ∧ ∀ wx, Below W2.heap.size W2 wx → SizeIs d 0 wx := by
      intro i hi
      have : i = 0 ∨ i = 1 := by omega
      rcases this with rfl | rfl
      · exact ⟨.pointer none, fun wx hb => (hb.cell (p := ⟨w.heap.size + 1, 0, none⟩) hsz).trans hL0, fun wx _ => sizeIs_nil wx⟩
      · exact ⟨_, fun wx hb => (hb.cell (p := ⟨w.heap.size + 1, 1, none⟩) hsz).trans hL1, fun wx hb => sizeIs_some _ _ _ _ _ ((hb.cell (p := ⟨w.heap.size, 0, none⟩) (by show w.heap.size < _; omega)).trans hB)⟩
    clear hW2 cx cy hx hy hx0 hy0 hB hL0 hL1
    go_loopg [10, 11, 12] 2 (fun g s10 s11 s12 wx => ∃ i : Nat, i + g = 2 ∧ s10 = .int .i64 i ∧ Below W2.heap.size W2 wx)
    case atStart => exact ⟨0, by omega, rfl, Below.refl _ _⟩
    case round =>
      obtain ⟨i, hig, rfl, hb⟩ := hrel
      by_cases hi : i < 2
      · have hiI : (i : Int) < 2 := by omega
        obtain ⟨d, hc, hS⟩ := hel i hi
        have hcell := hc wr hb
        have hs := hS wr hb
        have hs2 := hS _ (hb.alloc hb.size (.cells #[.int .i64 a0] 3))
        have no : ¬ ((0 ≤ a0 ∧ a0 < ((0 : Nat) : Int)) ∧ s.size = 128) := by omega
        have cr := read_bad d 0 a0 wr hs (by omega)
        have cz := hs wr rfl
        have cw := write_bad d 0 a0 s wr hs no
        have cs := sync_none d wr hs
        have cn := waiting_none d wr hs
        have cf := fuse_none d a0 wr hs
        have co := off_none d wr hs
        have cc := crash_none d (.slice none 0 0) wr hs
        have cp := spoil_bad d 0 a0 s wr hs2 no
        have hr2 : IntKind.i64.wrap ((i : Int) + 1) = (i : Int) + 1 := by rw [IntKind.wrap_i64]; omega
        clear hc hS hel hs hs2 no
        go_wp2_with (first
          | (go_at_call 18; refine cr.mono ?_; rintro e w1 ⟨rfl, hw1⟩; replace hw1 := hw1.symm; subst hw1)
          | (go_at_call 20; refine cz.mono ?_; rintro e w1 ⟨rfl, hw1⟩; replace hw1 := hw1.symm; subst hw1)
          | (go_at_call 12; refine cw.mono ?_; rintro e w1 ⟨rfl, hw1⟩; replace hw1 := hw1.symm; subst hw1)
          | (go_at_call 14; refine cs.mono ?_; rintro e w1 ⟨rfl, hw1⟩; replace hw1 := hw1.symm; subst hw1)
          | (go_at_call 15; refine cn.mono ?_; rintro e w1 ⟨rfl, hw1⟩; replace hw1 := hw1.symm; subst hw1)
          | (go_at_call 19; refine cf.mono ?_; rintro e w1 ⟨rfl, hw1⟩; replace hw1 := hw1.symm; subst hw1)
          | (go_at_call 17; refine co.mono ?_; rintro e w1 ⟨rfl, hw1⟩; replace hw1 := hw1.symm; subst hw1)
          | (go_at_call 16; refine cc.mono ?_; rintro e w1 ⟨rfl, hw1⟩; replace hw1 := hw1.symm; subst hw1)
          | (go_at_call 21; refine cp.mono ?_; rintro e w9 ⟨rfl, hb9⟩))
        go_roundg (2 - (i + 1))
        case measure => omega
        case rel => exact ⟨i + 1, by omega, by go_num, hb.trans (hb9.mono hb.size)⟩
      · have hiI : ¬ (i : Int) < 2 := by omega
        clear hel
        go_wp2_with (go_at_call 9; refine (awake_any _).mono ?_; rintro e w2 ⟨rfl, hb2⟩)
        go_ret
        exact ⟨rfl, (hbW.trans (hb.mono hbW.size)).trans (hb2.mono (Nat.le_trans hbW.size hb.size))⟩
end Go.Proofs.Ytmgodahdljnbmaa
