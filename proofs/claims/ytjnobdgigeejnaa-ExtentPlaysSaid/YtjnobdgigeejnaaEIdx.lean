/-
  The contracts of slices.IndexFunc and slices.Clone, as extent calls them.
-/
import Derived.Test.YtjnobdgigeejnaaEMap
namespace Go.Proofs.Ytjnobdgigeejnaa
open Go.RowKit

set_option maxHeartbeats 1000000 in
theorem alloc1_any (x y : Int) (c : Int) (bb : Nat) (w : World) (hc : w.cell? ⟨bb, 0, none⟩ = some (.int .i64 c)) :
    Calls Try.prog 27 #[.agg #[.int .i64 x, .int .i64 y], .pointer (some ⟨bb, 0, none⟩)] w fun e w' => e = .returned (.bool (decide (c ≤ y))) ∧ Below w.heap.size w w' := by
  have hlt := World.block_lt_of_cell? w _ hc
  have hc' : (w.alloc (.cells #[.int .i64 x, .int .i64 y] 32)).cell? ⟨bb, 0, none⟩ = some (.int .i64 c) := ((below1 w _).cell (p := ⟨bb, 0, none⟩) hlt).trans hc
  go_enter Try.func27, Try.ntmps27
  go_wp2_with fail
  go_ret
  exact ⟨rfl, below1 w _⟩

def FirstFit (hs : List (Nat × Nat)) (c : Int) (k : Nat) (x : Nat × Nat) : Prop := hs[k]? = some x ∧ c ≤ x.2 ∧ ∀ (j : Nat) y, j < k → hs[j]? = some y → (y.2 : Int) < c
def NoFit (hs : List (Nat × Nat)) (c : Int) : Prop := ∀ y ∈ hs, (y.2 : Int) < c

set_option maxRecDepth 4000 in
set_option maxHeartbeats 4000000 in
theorem index_any {w : World} {g n cap : Nat} {hs : List (Nat × Nat)} (H : SRows w (.slice (some ⟨g, 0, none⟩) n cap) 32 2 (hs.map ec)) (hl : n ≤ 5000) (c : Int) (bb : Nat) (hc : w.cell? ⟨bb, 0, none⟩ = some (.int .i64 c)) :
    Calls Try.prog 26 #[.slice (some ⟨g, 0, none⟩) n cap, .func (.func 27) #[] #[.pointer (some ⟨bb, 0, none⟩)]] w fun e w' => ((∃ k x, e = .returned (.int .i64 (k : Nat)) ∧ FirstFit hs c k x) ∨ (e = .returned (.int .i64 (-1)) ∧ NoFit hs c)) ∧ Below w.heap.size w w' := by
  have hlt := World.block_lt_of_cell? w _ hc
  simp only at hlt
  have hlen := (srows_open H).1
  rw [List.length_map] at hlen
  have HH : Hid (SRows w (.slice (some ⟨g, 0, none⟩) n cap) 32 2 (hs.map ec) ∧ hs.length = n ∧ w.cell? ⟨bb, 0, none⟩ = some (.int .i64 c)) := ⟨H, hlen, hc⟩
  clear H hlen hc
  go_enter Try.func26, Try.ntmps26
  go_wp2_with fail
  go_loopg [8] n (fun gg s8 wx => ∃ i : Nat, i + gg = n ∧ s8 = .int .i64 i ∧ (∀ (j : Nat) y, j < i → hs[j]? = some y → (y.2 : Int) < c) ∧ Below w.heap.size w wx)
  case atStart => exact ⟨0, by omega, rfl, fun j y hj => by omega, Below.refl _ _⟩
  case round =>
    obtain ⟨i, hig, rfl, hno, hbel⟩ := hrel
    have HR : Hid ((∀ (j : Nat) y, j < i → hs[j]? = some y → (y.2 : Int) < c) ∧ Below w.heap.size w wr) := ⟨hno, hbel⟩
    clear hno
    by_cases hi : i < n
    · have hiI : (i : Int) < (n : Int) := by omega
      obtain ⟨x, hx⟩ : ∃ x, hs[i]? = some x := ⟨_, List.getElem?_eq_getElem (by have := HH.out.2.1; omega)⟩
      have hrow := HH.out.1.of_block (w' := wr) (fun k hk => hbel.block k (HH.out.1.lt hk))
      obtain ⟨e0, e1⟩ := row_cells hrow hx
      have ca := alloc1_any x.1 x.2 c bb wr ((hbel.cell (p := ⟨bb, 0, none⟩) hlt).trans HH.out.2.2)
      have HX : Hid (hs[i]? = some x) := hx
      have hr2 : IntKind.i64.wrap ((i : Int) + 1) = (i : Int) + 1 := by rw [IntKind.wrap_i64]; omega
      clear hx hrow hbel
      go_wp2_with fail
      refine ca.mono ?_
      rintro e w1 ⟨rfl, hb⟩
      have HB : Hid (Below w.heap.size w w1) := HR.out.2.trans (hb.mono HR.out.2.size)
      clear ca hb e0 e1
      by_cases hcx : c ≤ (x.2 : Int)
      · rw [decide_eq_true hcx]
        have HC : Hid (c ≤ (x.2 : Int)) := hcx
        clear hcx
        go_wp2_with fail
        go_ret
        exact ⟨.inl ⟨i, x, rfl, HX.out, HC.out, HR.out.1⟩, HB.out⟩
      · rw [decide_eq_false hcx]
        have HC : Hid (¬ c ≤ (x.2 : Int)) := hcx
        clear hcx
        go_wp2_with fail
        go_roundg (n - (i + 1))
        case measure => clear hr2; omega
        case rel =>
          refine ⟨i + 1, by clear hr2; omega, by go_num, fun j y hj hy => ?_, HB.out⟩
          by_cases hji : j = i
          · subst hji
            rw [HX.out] at hy
            simp only [Option.some.injEq] at hy
            subst hy
            have := HC.out
            omega
          · exact HR.out.1 j y (by clear hr2; omega) hy
    · have hiI : ¬ (i : Int) < (n : Int) := by omega
      clear hbel
      go_wp2_with fail
      go_ret
      refine ⟨.inr ⟨rfl, fun y hy => ?_⟩, HR.out.2⟩
      obtain ⟨j, hj⟩ := List.mem_iff_getElem?.1 hy
      have := (List.getElem?_eq_some_iff.1 hj).1
      have := HH.out.2.1
      exact HR.out.1 j y (by omega) hj

set_option maxRecDepth 4000 in
set_option maxHeartbeats 4000000 in
theorem clone_any {w : World} {g n cap : Nat} {R : List (List Value)} (H : SRows w (.slice (some ⟨g, 0, none⟩) n cap) 32 2 R) (hone : ∀ x ∈ R, ∀ c ∈ x, c.oneCell' = true) (hl : n ≤ 5000) :
    Calls Try.prog 39 #[.slice (some ⟨g, 0, none⟩) n cap] w fun e w' => (∃ g' cap', e = .returned (.slice (some ⟨g', 0, none⟩) n cap') ∧ SRows w' (.slice (some ⟨g', 0, none⟩) n cap') 32 2 R ∧ w.heap.size ≤ g') ∧ Below w.heap.size w w' := by
  obtain ⟨i0, hi0, hz0, hz1, hz2⟩ := info_parts info_ext
  have HI : Hid (Try.prog.info? 32 = some i0 ∧ i0.zero = some (.agg #[.int .i64 0, .int .i64 0]) ∧ i0.size = 2 ∧ i0.bytes = 16) := ⟨hi0, hz0, hz1, hz2⟩
  have hlen := (srows_open H).1
  clear hi0 hz0 hz1 hz2
  have hnil : ∀ W, (binOp BinOp.eql 45 (Value.slice (some ⟨g, 0, none⟩) n cap) (Value.slice none 0 0)).run Try.prog W = .ok (.bool false) W := fun W => by
    simp only [binOp]
    simp [run_equal_slice_nil (P := Try.prog) W 45 32 (some ⟨g, 0, none⟩) n cap Try.underlying45]
  have HE : Hid (SRows (w.alloc (.cells #[] 32)) (.slice (some ⟨w.heap.size, 0, none⟩) 0 0) 32 2 [] ∧ SRows (w.alloc (.cells #[] 32)) (.slice (some ⟨g, 0, none⟩) n cap) 32 2 R) :=
    ⟨srows_shut rfl (Nat.le_refl _) (by unfold maxLen; omega) ⟨#[], heap_alloc_last w _, rfl, by simp, by simp, fun i r hi => by simp at hi⟩, H.of_block (fun k hk => Below.heap_alloc w _ k (H.lt hk))⟩
  have HN : Hid (0 + R.length = n ∧ [] ++ R = R ∧ n ≤ 1000000) := ⟨by omega, rfl, by omega⟩
  have HO : Hid (∀ x ∈ R, ∀ c ∈ x, c.oneCell' = true) := hone
  clear H hone hlen
  go_enter Try.func39, Try.ntmps39
  go_wp2_with (at_builtin; refine append_rowsK rfl _ _ 45 32 i0 _ 2 16 rfl Try.underlying45 HI.out.1 HI.out.2.1 HI.out.2.2.1 HI.out.2.2.2 rfl (by decide) (by decide) rfl rfl HE.out.1 HE.out.2 rfl HO.out n HN.out.1 R HN.out.2.1 HN.out.2.2 ?_; intro g' cap' w' h1 h2 h3)
  go_ret
  refine ⟨⟨g', cap', rfl, h1.out, ?_⟩, ((kept_of_below (fun _ => False) (below1 w _)).trans h3.out ?_).below (fun _ h => h.elim) (Nat.le_refl _)⟩
  · rcases h2.out with ⟨e, _⟩ | ⟨h, _⟩
    · rw [e]; exact Nat.le_refl _
    · have : (w.alloc (.cells #[] 32)).heap.size = w.heap.size + 1 := by simp
      omega
  · intro k hk
    have e : k = w.heap.size := hk
    right
    omega
end Go.Proofs.Ytjnobdgigeejnaa
