/-
  1 texts, one behind the other: WMoverMerges.
-/
import Derived.Test.YtflabcmjbhmphaaJoin11
/-
  The walk of law 27's MoverMerges.
-/
namespace Go.Proofs.Ytflabcmjbhmphaa
open Go.RowKit

set_option maxRecDepth 4000 in
set_option maxHeartbeats 8000000 in
theorem walkMoverMerges {w : World} (a0 : Option Addr) (n0 c0 : Nat) (h0 : LivesIn w (.slice a0 n0 c0)) (a1 : Option Addr) (n1 c1 : Nat) (h1 : LivesIn w (.slice a1 n1 c1)) (low : Int) (_ : (Lit.int .i64 low).wf = true) :
    Calls Try.prog 3 #[.slice a0 n0 c0, .slice a1 n1 c1, .int .i64 low] w fun e w' => e = .returned (.bool true) ∧ Below w.heap.size w w' := by
  obtain ⟨la, ha, hla, hra⟩ := h0
  obtain ⟨lb, hb, hlb, hrb⟩ := h1
  have HA : Hid (∀ W, Calls Try.prog 8 #[] W fun e w' => e = .returned (.bool true) ∧ Below W.heap.size W w') := awake_any
  have HH : Hid (LfsIs w (.slice a0 n0 c0) la ∧ LfsIs w (.slice a1 n1 c1) lb ∧ (∀ x ∈ la, x.r.length ≤ maxLen) ∧ (∀ x ∈ lb, x.r.length ≤ maxLen)) := ⟨ha, hb, hra, hrb⟩
  have cl := litL_any ha hra
  clear ha hb hla hlb hra hrb
  go_enter Try.func3, Try.ntmps3
  go_wp2_with fail
  refine cl.mono ?_
  rintro e w1 ⟨⟨q, rfl, hq⟩, hb1⟩
  have HB1 : Hid (Below w.heap.size w w1) := hb1
  clear cl hb1
  cases q with
  | false =>
    clear hq
    go_wp2_with fail
    refine (HA.out _).mono ?_
    rintro e w2 ⟨rfl, hb2⟩
    have HB2 : Hid (Below w.heap.size w w2) := HB1.out.trans (hb2.mono HB1.out.size)
    clear hb2
    go_wp2_with fail
    go_ret
    exact ⟨rfl, HB2.out⟩
  | true =>
    have HL1 : Hid (litL 30 la) := hq rfl
    clear hq
    go_wp2_with fail
    refine (litL_any (HH.out.2.1.over stays_lf HB1.out) HH.out.2.2.2).mono ?_
    rintro e w2 ⟨⟨q, rfl, hq⟩, hb2⟩
    have HB2 : Hid (Below w.heap.size w w2) := HB1.out.trans (hb2.mono HB1.out.size)
    clear hb2 HB1
    cases q with
    | false =>
      clear hq
      go_wp2_with fail
      refine (HA.out _).mono ?_
      rintro e w3 ⟨rfl, hb3⟩
      have HB3 : Hid (Below w.heap.size w w3) := HB2.out.trans (hb3.mono HB2.out.size)
      clear hb3
      go_wp2_with fail
      go_ret
      exact ⟨rfl, HB3.out⟩
    | true =>
      have HL2 : Hid (litL 30 lb) := hq rfl
      have HR : Hid (∀ x ∈ la ++ lb, x.r.length ≤ 1000) := fun x hx => by
        rcases List.mem_append.1 hx with h | h
        · have := HL1.out.2 x h; omega
        · have := HL2.out.2 x h; omega
      clear hq
      go_wp2_with fail
      refine (merge_any (HH.out.1.over stays_lf HB2.out) (HH.out.2.1.over stays_lf HB2.out) (by have := HL1.out.1; omega) (by have := HL2.out.1; omega) HR.out low).mono ?_
      rintro e w3 ⟨v3, rfl, s3, hb3⟩
      have H3 : Hid (Below w.heap.size w w3 ∧ LfsIs w3 v3 (mergeA la lb low)) := ⟨HB2.out.trans (hb3.mono HB2.out.size), s3⟩
      obtain ⟨a3, n3, c3, rfl, _, _⟩ := s3.slice
      clear s3 hb3 HB2
      go_wp2_with fail
      refine (vectors_any (HH.out.1.over stays_lf H3.out.1) (by have := HL1.out.1; omega) (fun x hx => by have := HL1.out.2 x hx; omega)).mono ?_
      rintro e w4 ⟨r4, b4, m4, rfl, sr4, sb4, sm4, hb4⟩
      have H4 : Hid (Below w.heap.size w w4 ∧ LfsIs w4 (.slice a3 n3 c3) (mergeA la lb low) ∧ RwsIs w4 r4 (la.map (·.r)) ∧ RunsIs w4 b4 (ofP (la.map (·.b)) la.length) ∧ MksIs w4 m4 (mksP la la.length)) := ⟨H3.out.1.trans (hb4.mono H3.out.1.size), H3.out.2.over stays_lf hb4, sr4, sb4, sm4⟩
      obtain ⟨ar4, nr4, cr4, rfl, _, _⟩ := sr4.slice
      obtain ⟨ab4, nb4, cb4, rfl, _, _⟩ := sb4.slice
      obtain ⟨am4, nm4, cm4, rfl, _, _⟩ := sm4.slice
      clear sr4 sb4 sm4 hb4 H3
      go_wp2_with fail
      refine (refVectors_any (HH.out.1.over stays_lf H4.out.1) (by have := HL1.out.1; omega)).mono ?_
      rintro e w5 ⟨r5, b5, m5, rfl, sr5, sb5, sm5, hb5⟩
      have H5 : Hid (Below w.heap.size w w5 ∧ LfsIs w5 (.slice a3 n3 c3) (mergeA la lb low) ∧ RwsIs w5 (.slice ar4 nr4 cr4) (la.map (·.r)) ∧ RunsIs w5 (.slice ab4 nb4 cb4) (ofP (la.map (·.b)) la.length) ∧ MksIs w5 (.slice am4 nm4 cm4) (mksP la la.length) ∧ RwsIs w5 r5 (la.map (·.r)) ∧ RunsIs w5 b5 (ofP (la.map (·.b)) la.length) ∧ MksIs w5 m5 (mksP la la.length)) :=
        ⟨H4.out.1.trans (hb5.mono H4.out.1.size), H4.out.2.1.over stays_lf hb5, H4.out.2.2.1.over stays_rw hb5, H4.out.2.2.2.1.below hb5, H4.out.2.2.2.2.over stays_mk hb5, sr5, sb5, sm5⟩
      obtain ⟨ar5, nr5, cr5, rfl, _, _⟩ := sr5.slice
      obtain ⟨ab5, nb5, cb5, rfl, _, _⟩ := sb5.slice
      obtain ⟨am5, nm5, cm5, rfl, _, _⟩ := sm5.slice
      clear sr5 sb5 sm5 hb5 H4
      go_wp2_with fail
      refine (refMerge_any (HH.out.1.over stays_lf H5.out.1) (HH.out.2.1.over stays_lf H5.out.1) (by have := HL1.out.1; omega) (by have := HL2.out.1; omega) low).mono ?_
      rintro e w6 ⟨v6, rfl, s6, hb6⟩
      have H6 : Hid (Below w.heap.size w w6 ∧ RwsIs w6 (.slice ar4 nr4 cr4) (la.map (·.r)) ∧ RunsIs w6 (.slice ab4 nb4 cb4) (ofP (la.map (·.b)) la.length) ∧ MksIs w6 (.slice am4 nm4 cm4) (mksP la la.length) ∧ RwsIs w6 (.slice ar5 nr5 cr5) (la.map (·.r)) ∧ RunsIs w6 (.slice ab5 nb5 cb5) (ofP (la.map (·.b)) la.length) ∧ MksIs w6 (.slice am5 nm5 cm5) (mksP la la.length)) :=
        ⟨H5.out.1.trans (hb6.mono H5.out.1.size), H5.out.2.2.1.over stays_rw hb6, H5.out.2.2.2.1.below hb6, H5.out.2.2.2.2.1.over stays_mk hb6, H5.out.2.2.2.2.2.1.over stays_rw hb6, H5.out.2.2.2.2.2.2.1.below hb6, H5.out.2.2.2.2.2.2.2.over stays_mk hb6⟩
      have H6b : Hid (LfsIs w6 (.slice a3 n3 c3) (mergeA la lb low) ∧ LfsIs w6 v6 (mergeA la lb low)) := ⟨H5.out.2.1.over stays_lf hb6, s6⟩
      obtain ⟨a6, n6, c6, rfl, _, _⟩ := s6.slice
      clear s6 hb6 H5
      go_wp2_with fail
      refine (sameL_any H6b.out.1 H6b.out.2 (by have := (merge_lit (low := low) HL1.out HL2.out).1; omega) (fun x hx => by have := (merge_lit (low := low) HL1.out HL2.out).2 x hx; omega)).mono ?_
      rintro e w7 ⟨rfl, hb7⟩
      have H7 : Hid (Below w.heap.size w w7 ∧ RwsIs w7 (.slice ar4 nr4 cr4) (la.map (·.r)) ∧ RunsIs w7 (.slice ab4 nb4 cb4) (ofP (la.map (·.b)) la.length) ∧ MksIs w7 (.slice am4 nm4 cm4) (mksP la la.length) ∧ RwsIs w7 (.slice ar5 nr5 cr5) (la.map (·.r)) ∧ RunsIs w7 (.slice ab5 nb5 cb5) (ofP (la.map (·.b)) la.length) ∧ MksIs w7 (.slice am5 nm5 cm5) (mksP la la.length)) :=
        ⟨H6.out.1.trans (hb7.mono H6.out.1.size), H6.out.2.1.over stays_rw hb7, H6.out.2.2.1.below hb7, H6.out.2.2.2.1.over stays_mk hb7, H6.out.2.2.2.2.1.over stays_rw hb7, H6.out.2.2.2.2.2.1.below hb7, H6.out.2.2.2.2.2.2.over stays_mk hb7⟩
      clear hb7 H6 H6b
      go_wp2_with fail
      refine (sameRows_any H7.out.2.1 H7.out.2.2.2.2.1 (by rw [List.length_map]; have := HL1.out.1; omega) (fun r hr => by
        obtain ⟨x, hx, rfl⟩ := List.mem_map.1 hr
        have := HL1.out.2 x hx; omega)).mono ?_
      rintro e w8 ⟨rfl, hb8⟩
      have H8 : Hid (Below w.heap.size w w8 ∧ RunsIs w8 (.slice ab4 nb4 cb4) (ofP (la.map (·.b)) la.length) ∧ MksIs w8 (.slice am4 nm4 cm4) (mksP la la.length) ∧ RunsIs w8 (.slice ab5 nb5 cb5) (ofP (la.map (·.b)) la.length) ∧ MksIs w8 (.slice am5 nm5 cm5) (mksP la la.length)) :=
        ⟨H7.out.1.trans (hb8.mono H7.out.1.size), H7.out.2.2.1.below hb8, H7.out.2.2.2.1.over stays_mk hb8, H7.out.2.2.2.2.2.1.below hb8, H7.out.2.2.2.2.2.2.over stays_mk hb8⟩
      clear hb8 H7
      go_wp2_with fail
      refine (sameR_any H8.out.2.1 H8.out.2.2.2.1 (by have := ofP_len (la.map (·.b)) la.length; have := HL1.out.1; omega)).mono ?_
      rintro e w9 ⟨rfl, n9, hw9⟩
      have hb9 : Below w8.heap.size w8 w9 := by rw [hw9]; exact below_drewN (Below.refl _ _) _
      have H9 : Hid (Below w.heap.size w w9 ∧ MksIs w9 (.slice am4 nm4 cm4) (mksP la la.length) ∧ MksIs w9 (.slice am5 nm5 cm5) (mksP la la.length)) :=
        ⟨H8.out.1.trans (hb9.mono H8.out.1.size), H8.out.2.2.1.over stays_mk hb9, H8.out.2.2.2.2.over stays_mk hb9⟩
      clear hb9 H8 hw9
      go_wp2_with fail
      refine (sameM_any H9.out.2.1 H9.out.2.2 (by have := mksP_len la la.length; have := HL1.out.1; omega)).mono ?_
      rintro e w10 ⟨rfl, hb10⟩
      have H10 : Hid (Below w.heap.size w w10) := H9.out.1.trans (hb10.mono H9.out.1.size)
      clear hb10 H9
      go_wp2_with fail
      refine (HA.out _).mono ?_
      rintro e w11 ⟨rfl, hb11⟩
      have H11 : Hid (Below w.heap.size w w11) := H10.out.trans (hb11.mono H10.out.size)
      clear hb11 H10
      go_wp2_with fail
      go_ret
      exact ⟨rfl, H11.out⟩
end Go.Proofs.Ytflabcmjbhmphaa
