/-
  The contracts of slices.IndexFunc and slices.DeleteFunc, as a device's Spoil calls them, and of Spoil.
-/
import Derived.Test.YtmgodahdljnbmaaDFree
import Derived.Test.YtmgodahdljnbmaaBox
import Derived.Test.YtmgodahdljnbmaaArr
namespace Go.Proofs.Ytmgodahdljnbmaa
open Go.RowKit

/-- 'w.at == at'. -/
theorem spoil1_any (x : Nat × List UInt8) (k bb : Nat) (w : World) (hc : w.cell? ⟨bb, 0, none⟩ = some (.int .i64 k)) (hb : bb < w.heap.size) :
    Calls Try.prog 34 #[.agg (wArr x), .pointer (some ⟨bb, 0, none⟩)] w fun e w' => e = .returned (.bool (x.1 == k)) ∧ Below w.heap.size w w' := by
  have q0 := (wArr_cell (heap_alloc_last w (.cells (wArr x) 72))).1
  have q1 : (w.alloc (.cells (wArr x) 72)).cell? ⟨bb, 0, none⟩ = some (.int .i64 k) := (World.cell?_of_block (heap_alloc_old _ _ hb)).trans hc
  have e8 : ((x.1 : Int) == (k : Int)) = (x.1 == k) := by rw [Bool.eq_iff_iff]; simp; omega
  go_enter Try.func34, Try.ntmps34
  go_wp2_with (refine Arr.box_arr _ (wArr x) rfl rfl rfl ?_)
  go_ret
  exact ⟨rfl, below1 _ _⟩

/-- None of the first j writes is to the block k. -/
def noneTo (wt : List (Nat × List UInt8)) (k j : Nat) : Prop := ∀ i x, i < j → wt[i]? = some x → x.1 ≠ k
/-- The write j is to the block k. -/
def isTo (wt : List (Nat × List UInt8)) (k j : Nat) : Prop := ∃ x, wt[j]? = some x ∧ x.1 = k

set_option maxRecDepth 4000 in
set_option maxHeartbeats 2000000 in
theorem index_any {w : World} {g : Option Addr} {cap : Nat} {wt : List (Nat × List UInt8)} (hs : SRows w (.slice g wt.length cap) 72 129 (wt.map wcells)) (h128 : ∀ x ∈ wt, x.2.length = 128) (hl6 : wt.length ≤ 1000000) (k bb : Nat) (hc : w.cell? ⟨bb, 0, none⟩ = some (.int .i64 k)) (hb : bb < w.heap.size) :
    Calls Try.prog 39 #[.slice g wt.length cap, .func (.func 34) #[] #[.pointer (some ⟨bb, 0, none⟩)]] w fun e w' => (∃ j : Nat, ((j < wt.length ∧ e = .returned (.int .i64 j) ∧ isTo wt k j) ∨ (j = wt.length ∧ e = .returned (.int .i64 (-1)))) ∧ noneTo wt k j) ∧ Below w.heap.size w w' := by
  obtain ⟨m, hm⟩ : ∃ m, m = wt.length := ⟨_, rfl⟩
  rw [← hm] at hs hl6 ⊢
  have HM : Hid (m = wt.length ∧ ∀ x ∈ wt, x.2.length = 128) := ⟨hm, h128⟩
  clear hm h128
  go_enter Try.func39, Try.ntmps39
  go_wp2_with fail
  go_loopg [4, 8] m (fun g' s4 s8 wx => ∃ j : Nat, j + g' = m ∧ s8 = .int .i64 j ∧ noneTo wt k j ∧ Below w.heap.size w wx)
  case atStart => exact ⟨0, by omega, rfl, fun i x hi => by omega, Below.refl _ _⟩
  case round =>
    obtain ⟨j, hjg, rfl, hno, hbel⟩ := hrel
    by_cases hj : j < m
    · have hjI : (j : Int) < (m : Int) := by omega
      obtain ⟨x, hx⟩ : ∃ x, wt[j]? = some x := ⟨_, List.getElem?_eq_getElem (by have := HM.out.1; omega)⟩
      have hs2 := hs.of_block (w' := wr) fun x hx => hbel.block x (hs.lt hx)
      obtain ⟨g0, rfl, _, hrange⟩ : ∃ g0, g = some ⟨g0, 0, none⟩ ∧ True ∧ wr.rangeAt g0 (j * 129) (wcells x) := by
        rcases hs2 with ⟨_, h0⟩ | ⟨g', cap', hv, _, _, hrows⟩
        · simp at h0
          subst h0
          simp at hx
        · simp only [Value.slice.injEq] at hv
          exact ⟨g', hv.1, trivial, hrows.range (by rw [List.getElem?_map, hx]; rfl)⟩
      have hxl := HM.out.2 x (List.mem_of_getElem? hx)
      have hwl : some (wcells x).length = some 129 := by simp [wcells, bcells_len, hxl]
      have c1 := spoil1_any x k bb wr ((hbel.cell (p := ⟨bb, 0, none⟩) hb).trans hc) (Nat.lt_of_lt_of_le hb hbel.size)
      have hr2 : IntKind.i64.wrap ((j : Int) + 1) = (j : Int) + 1 := by rw [IntKind.wrap_i64]; omega
      have HX : Hid (wt[j]? = some x ∧ noneTo wt k j ∧ Below w.heap.size w wr) := ⟨hx, hno, hbel⟩
      clear hx hno hs2 hxl hbel
      go_wp2_with (refine wpList_load_mid rfl 72 _ rfl g0 (j * 129) rfl (wcells x) _ hrange Try.underlying72 rfl (size_write.trans hwl.symm) ?_)
      refine c1.mono ?_
      rintro e w1 ⟨rfl, b1⟩
      clear c1 hrange
      by_cases hxk : x.1 = k
      · have hb8 : (x.1 == k) = true := by simpa using hxk
        have HXK : Hid (x.1 = k) := hxk
        rw [hb8]
        clear hb8 hxk
        go_wp2_with fail
        go_ret
        obtain ⟨hx, hno, hbel⟩ := HX.out
        exact ⟨⟨j, .inl ⟨hj, rfl, x, hx, HXK.out⟩, hno⟩, hbel.trans (b1.mono hbel.size)⟩
      · have hb8 : (x.1 == k) = false := by simpa using hxk
        have HXK : Hid (¬ x.1 = k) := hxk
        rw [hb8]
        clear hb8 hxk
        go_wp2_with fail
        obtain ⟨hx, hno, hbel⟩ := HX.out
        go_roundg (m - (j + 1))
        case measure => clear hr2; omega
        case rel =>
          refine ⟨j + 1, by clear hr2; omega, by go_num, ?_, hbel.trans (b1.mono hbel.size)⟩
          intro i y hi hy
          by_cases e : i = j
          · subst e
            rw [hx] at hy
            rw [← Option.some.inj hy]
            exact HXK.out
          · exact hno i y (by clear hr2; omega) hy
    · have hjI : ¬ (j : Int) < (m : Int) := by omega
      have HX : Hid (noneTo wt k j ∧ Below w.heap.size w wr) := ⟨hno, hbel⟩
      clear hno hbel
      go_wp2_with fail
      go_ret
      exact ⟨⟨j, .inr ⟨by omega, rfl⟩, HX.out.1⟩, HX.out.2⟩
end Go.Proofs.Ytmgodahdljnbmaa
