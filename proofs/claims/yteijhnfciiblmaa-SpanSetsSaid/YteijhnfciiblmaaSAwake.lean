/-
  The contract of law 14's awake.
-/
import Derived.Test.YteijhnfciiblmaaSWhere
import Derived.Test.YteijhnfciiblmaaSOf
import Derived.Test.YteijhnfciiblmaaSPick
import Derived.Test.YteijhnfciiblmaaSRefA
namespace Go.Proofs.Yteijhnfciiblmaa
open Go.RowKit

theorem readsZ_new (w : World) (cs : Array Value) (l : List Int) (h : cs.toList = zv l) : ReadsZ (w.alloc (.cells cs 3)) (.slice (some ⟨w.heap.size, 0, none⟩) l.length l.length) l := by
  refine ⟨_, _, rfl, Nat.le_refl _, fun _ => ⟨w.heap.size, 0, rfl, by simp, fun i x hi => ?_⟩⟩
  refine (box_new w cs 3).cell (0 + i) _ ?_
  rw [← Array.getElem?_toList, h, Nat.zero_add]
  simp [zv, hi]
theorem spans_new (w : World) (cs : Array Value) (rs : List Sn) (h : ∀ (i : Nat) (s : Sn), rs[i]? = some s → cs[i * 2]? = some (.int .i64 s.lo) ∧ cs[i * 2 + 1]? = some (.int .i64 s.hi)) : SpansIs (w.alloc (.cells cs 43)) (.slice (some ⟨w.heap.size, 0, none⟩) rs.length rs.length) rs := by
  refine ⟨_, _, rfl, Nat.le_refl _, fun _ => ⟨w.heap.size, 0, rfl, fun i s hi => ?_⟩⟩
  have hb := box_new w cs 43
  rw [Nat.zero_add]
  exact ⟨hb.cell _ _ (h i s hi).1, hb.cell _ _ (h i s hi).2⟩
def awL : List Sn := [⟨3, 5⟩, ⟨7, 8⟩]
def awM : List Sn := [⟨4, 5⟩, ⟨7, 8⟩]
theorem aw_of {R : List Sn} (h : IsSet R (fun x => x ∈ ([7, 3, 4] : List Int))) : R = awL := by
  refine h.unique (R' := awL) (P' := fun x => x ∈ ([7, 3, 4] : List Int)) ⟨by rfl, fun x => ?_⟩ (fun _ => Iff.rfl)
  simp [InS, awL]
  omega
theorem aw_and {R : List Sn} (h : IsSet R (Wn (fun p q => p && q) awL [⟨4, 9⟩])) : R = awM := by
  refine h.unique (R' := awM) ⟨by rfl, fun _ => Iff.rfl⟩ (fun x => ?_)
  simp [Wn, inB, InS, awL, awM]
  omega
theorem aw_pick : pickA awL 2 = (7, 0) := by rfl
theorem aw_count : rankA awL 65536 = 3 := by rfl
theorem aw_rank : rankA awL 4 = 1 := by rfl
theorem aw_two {rs : List Sn} {a b c d : Int} (h : rs = [⟨a, b⟩, ⟨c, d⟩]) : ∀ (i : Nat) (s : Sn), rs[i]? = some s → (#[Value.int .i64 a, .int .i64 b, .int .i64 c, .int .i64 d] : Array Value)[i * 2]? = some (.int .i64 s.lo) ∧ (#[Value.int .i64 a, .int .i64 b, .int .i64 c, .int .i64 d] : Array Value)[i * 2 + 1]? = some (.int .i64 s.hi) := by
  subst h
  intro i s hs
  match i with
  | 0 => simp at hs; subst hs; simp
  | 1 => simp at hs; subst hs; simp
  | i + 2 => simp at hs
theorem aw_one (a b : Int) : ∀ (i : Nat) (s : Sn), ([⟨a, b⟩] : List Sn)[i]? = some s → (#[Value.int .i64 a, .int .i64 b] : Array Value)[i * 2]? = some (.int .i64 s.lo) ∧ (#[Value.int .i64 a, .int .i64 b] : Array Value)[i * 2 + 1]? = some (.int .i64 s.hi) := by
  intro i s hs
  match i with
  | 0 => simp at hs; subst hs; simp
  | i + 1 => simp at hs

set_option maxRecDepth 100000 in
set_option maxHeartbeats 4000000 in
theorem awake_any (w : World) : Calls Try.prog 9 #[] w fun e w' => e = .returned (.bool true) ∧ Below w.heap.size w w' := by
  have h1 := of_any (readsZ_new w #[.int .i64 7, .int .i64 3, .int .i64 4] [7, 3, 4] rfl) (by decide)
  have hb0 := below1 w (.cells #[.int .i64 7, .int .i64 3, .int .i64 4] 3)
  go_enter Try.func9, Try.ntmps9
  go_wp2_with fail
  refine h1.mono ?_
  rintro e w1 ⟨⟨_, v, R, rfl, hv, hR⟩ | ⟨hbad, _⟩, hb1⟩
  · obtain rfl := aw_of hR
    obtain ⟨va, vn, vc, rfl, hvn, _⟩ := hv.slice
    have H1 : Hid (SpansIs w1 (.slice va vn vc) awL ∧ Below w.heap.size w w1) := ⟨hv, hb0.trans (hb1.mono hb0.size)⟩
    have h2 := and_any (H1.out.1.below (below1 w1 (.cells #[.int .i64 4, .int .i64 9] 43))) (spans_new w1 #[.int .i64 4, .int .i64 9] [⟨4, 9⟩] (aw_one 4 9)) (by decide) (by decide)
    clear h1 hb0 hv hb1 hR hvn
    go_wp2_with fail
    refine h2.mono ?_
    rintro e w2 ⟨⟨_, m, R2, rfl, hm, hR2⟩ | ⟨hbad, _⟩, hb2⟩
    · obtain rfl := aw_and hR2
      obtain ⟨ma, mn, mc, rfl, hmn, _⟩ := hm.slice
      have hb12 := (below1 w1 (.cells #[.int .i64 4, .int .i64 9] 43)).trans (hb2.mono (below1 w1 _).size)
      have H2 : Hid (SpansIs w2 (.slice va vn vc) awL ∧ SpansIs w2 (.slice ma mn mc) awM ∧ Below w.heap.size w w2) := ⟨H1.out.1.below hb12, hm, H1.out.2.trans (hb12.mono H1.out.2.size)⟩
      have h3 := pick_any H2.out.1 (by decide) 2 (by omega)
      rw [aw_pick] at h3
      clear h2 H1 hm hb2 hb12 hR2 hmn
      go_wp2_with fail
      refine h3.mono ?_
      rintro e w3 ⟨rfl, hb3⟩
      have H3 : Hid (SpansIs w3 (.slice va vn vc) awL ∧ SpansIs w3 (.slice ma mn mc) awM ∧ Below w.heap.size w w3) := ⟨H2.out.1.below hb3, H2.out.2.1.below hb3, H2.out.2.2.trans (hb3.mono H2.out.2.2.size)⟩
      clear h3 hb3 H2
      have h4 := sameS_any (H3.out.1.below (below1 w3 (.cells #[.int .i64 3, .int .i64 5, .int .i64 7, .int .i64 8] 43))) (spans_new w3 #[.int .i64 3, .int .i64 5, .int .i64 7, .int .i64 8] awL (aw_two rfl)) (by decide)
      go_wp2_with fail
      refine h4.mono ?_
      rintro e w4 ⟨rfl, q4, hw4⟩
      have hb4 : Below w3.heap.size w3 w4 := by rw [hw4]; exact below_drewN (below1 _ _) _
      have H4 : Hid (SpansIs w4 (.slice va vn vc) awL ∧ SpansIs w4 (.slice ma mn mc) awM ∧ Below w.heap.size w w4) := ⟨H3.out.1.below hb4, H3.out.2.1.below hb4, H3.out.2.2.trans (hb4.mono H3.out.2.2.size)⟩
      clear h4 hb4 hw4 H3
      have h5 := sameS_any (H4.out.2.1.below (below1 w4 (.cells #[.int .i64 4, .int .i64 5, .int .i64 7, .int .i64 8] 43))) (spans_new w4 #[.int .i64 4, .int .i64 5, .int .i64 7, .int .i64 8] awM (aw_two rfl)) (by decide)
      go_wp2_with fail
      refine h5.mono ?_
      rintro e w5 ⟨rfl, q5, hw5⟩
      have hb5 : Below w4.heap.size w4 w5 := by rw [hw5]; exact below_drewN (below1 _ _) _
      have H5 : Hid (SpansIs w5 (.slice va vn vc) awL ∧ Below w.heap.size w w5) := ⟨H4.out.1.below hb5, H4.out.2.2.trans (hb5.mono H4.out.2.2.size)⟩
      clear h5 hb5 hw5 H4
      have h6 := count_any H5.out.1 (by decide)
      rw [aw_count] at h6
      go_wp2_with fail
      refine h6.mono ?_
      rintro e w6 ⟨rfl, hb6⟩
      have H6 : Hid (SpansIs w6 (.slice va vn vc) awL ∧ Below w.heap.size w w6) := ⟨H5.out.1.below hb6, H5.out.2.trans (hb6.mono H5.out.2.size)⟩
      clear h6 hb6 H5
      have h7 := rank_any H6.out.1 (by decide) 4
      rw [aw_rank] at h7
      go_wp2_with fail
      refine h7.mono ?_
      rintro e w7 ⟨rfl, hb7⟩
      have H7 : Hid (Below w.heap.size w w7) := H6.out.2.trans (hb7.mono H6.out.2.size)
      clear h7 hb7 H6
      go_wp2_with fail
      go_ret
      exact ⟨rfl, H7.out⟩
    · exact absurd hbad (by decide)
  · exact absurd hbad (by decide)
end Go.Proofs.Yteijhnfciiblmaa
