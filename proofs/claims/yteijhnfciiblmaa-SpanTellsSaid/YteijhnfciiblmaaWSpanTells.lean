/-
  The walk of law 14's SpanTells: what any spans tell.
-/
import Derived.Test.YteijhnfciiblmaaWSpanRanks
import Derived.Test.YteijhnfciiblmaaSRefB
namespace Go.Proofs.Yteijhnfciiblmaa
open Go.RowKit

/-- What stays: the spans that came in, and two slices of numbers that read alike. -/
structure In3 (w W : World) (v p q : Value) (rs : List Sn) (l : List Int) : Prop where
  a : SpansIs W v rs
  p : ReadsZ W p l
  q : ReadsZ W q l
  below : Below w.heap.size w W
theorem In3.over {w W W' : World} {v p q : Value} {rs : List Sn} {l : List Int} (h : In3 w W v p q rs l) (k : Below W.heap.size W W') : In3 w W' v p q rs l := ⟨h.a.below k, h.p.below k, h.q.below k, h.below.trans (k.mono h.below.size)⟩
/-- What Places tells, whatever spans there are. -/
def plA (rs : List Sn) : List Int := if mayS rs = true then pl rs else []
def plE (rs : List Sn) : Int := if mayS rs = true then 0 else 1
theorem PlacesAns.all {w : World} {rs : List Sn} {e : Ending} {w' : World} (h : PlacesAns w rs e w') : (∃ v, e = .returned (.tuple #[v, .int .i64 (plE rs)]) ∧ ReadsZ w' v (plA rs)) ∧ Below w.heap.size w w' := by
  refine ⟨?_, h.2⟩
  rcases h.1 with ⟨hm, v, rfl, ho⟩ | ⟨hm, rfl⟩
  · exact ⟨v, by simp [plE, hm], by rw [plA, if_pos hm]; exact ho.reads⟩
  · exact ⟨.slice none 0 0, by simp [plE, hm], by rw [plA, hm]; exact readsZ_nil _⟩
theorem plA_len (rs : List Sn) : (plA rs).length ≤ 65537 ∧ rankA rs 65536 = ((plA rs).length : Int) := by
  unfold plA rankA
  cases hm : mayS rs with
  | true => exact ⟨by simpa using pl_len hm, by simpa using count_is hm⟩
  | false => simp

set_option maxRecDepth 100000 in
set_option maxHeartbeats 4000000 in
theorem walkSpanTells {w : World} (a : Option Addr) (len cap : Nat) (h : SpansAre w a len cap) (k : Int) (hk : (Lit.int .i64 k).wf = true) (x : Int) (_ : (Lit.int .i64 x).wf = true) :
    Calls Try.prog 4 #[.slice a len cap, .int .i64 k, .int .i64 x] w fun e w' => e = .returned (.bool true) ∧ Below w.heap.size w w' := by
  have hk1 : k ≤ 9223372036854775807 := by
    obtain ⟨y, rfl⟩ := Wd.word_of k hk
    have := BitVec.toInt_lt (x := y)
    omega
  clear hk
  obtain ⟨rs, hs, _⟩ := h
  have hfew := few_any hs
  have H0 : Hid (In1 w w (.slice a len cap) rs) := ⟨hs, Below.refl _ _⟩
  cases hf : fewA rs with
  | false =>
    rw [hf] at hfew
    clear hs hf
    go_enter Try.func4, Try.ntmps4
    go_wp2_with fail
    refine hfew.mono ?_
    rintro e w1 ⟨rfl, q1, hw1⟩
    have hb1 : Below w.heap.size w w1 := by rw [hw1]; exact below_self_drewN _ _
    clear hfew hw1
    go_wp2_with (go_at_call 9; refine (awake_any _).mono ?_; rintro e w2 ⟨rfl, hb2⟩)
    go_ret
    exact ⟨rfl, hb1.trans (hb2.mono hb1.size)⟩
  | true =>
    rw [hf] at hfew
    have hl := few_len hf
    have HL : Hid (rs.length ≤ 1000000 ∧ k ≤ 9223372036854775807) := ⟨by omega, hk1⟩
    clear hs hf hl
    go_enter Try.func4, Try.ntmps4
    go_wp2_with fail
    refine hfew.mono ?_
    rintro e w1 ⟨rfl, q1, hw1⟩
    have H1 : Hid (In1 w w1 (.slice a len cap) rs) := H0.out.over (by rw [hw1]; exact below_self_drewN _ _)
    clear hfew hw1 H0
    have hp := places_any H1.out.a HL.out.1
    go_wp2_with fail
    refine hp.mono ?_
    intro e w2 hans
    obtain ⟨⟨vp, rfl, hvp⟩, hb2⟩ := hans.all
    obtain ⟨E, hE⟩ : ∃ E, E = plE rs := ⟨_, rfl⟩
    rw [← hE]
    have H2 : Hid (In1 w w2 (.slice a len cap) rs ∧ ReadsZ w2 vp (plA rs) ∧ E = plE rs) := ⟨H1.out.over hb2, hvp, hE⟩
    clear hp hans hvp hb2 hE H1
    have hp := refPlaces_any H2.out.1.a HL.out.1
    go_wp2_with fail
    refine hp.mono ?_
    intro e w3 hans
    obtain ⟨⟨vq, rfl, hvq⟩, hb3⟩ := hans.all
    rw [← H2.out.2.2]
    have hln := plA_len rs
    obtain ⟨qa, N, qc, rfl, hN, hNc⟩ := hvq.slice
    have HN : Hid ((plA rs).length = N ∧ rankA rs 65536 = (N : Int) ∧ (plA rs).length ≤ 1000000) := ⟨hN, by rw [hln.2, hN], by omega⟩
    have H3 : Hid (In3 w w3 (.slice a len cap) vp (.slice qa N qc) rs (plA rs)) := ⟨H2.out.1.a.below hb3, H2.out.2.1.below hb3, hvq, H2.out.1.below.trans (hb3.mono H2.out.1.below.size)⟩
    clear hp hans hvq hb3 H2 hN hln
    have hpk := pick_any H3.out.a HL.out.1 k HL.out.2
    have hrp := fun W (hW : In3 w W (.slice a len cap) vp (.slice qa N qc) rs (plA rs)) => refPick_any hW.a HL.out.1 k
    obtain ⟨x1, hx1⟩ : ∃ x1, x1 = (pickA rs k).1 := ⟨_, rfl⟩
    obtain ⟨x2, hx2⟩ : ∃ x2, x2 = (pickA rs k).2 := ⟨_, rfl⟩
    rw [← hx1, ← hx2] at hpk hrp
    clear hx1 hx2
    go_wp2_with fail
    refine hpk.mono ?_
    rintro e w4 ⟨rfl, hb4⟩
    have H4 := H3.out.over hb4
    have hrp' := hrp w4 H4
    have H4 : Hid (In3 w w4 (.slice a len cap) vp (.slice qa N qc) rs (plA rs)) := H4
    clear hpk hrp hb4 H3
    go_wp2_with fail
    refine hrp'.mono ?_
    rintro e w5 ⟨rfl, hb5⟩
    have H5 : Hid (In3 w w5 (.slice a len cap) vp (.slice qa N qc) rs (plA rs)) := H4.out.over hb5
    clear hrp' hb5 H4
    have hsm := sameZ_any H5.out.p H5.out.q HN.out.2.2
    go_wp2_with fail
    refine hsm.mono ?_
    rintro e w6 ⟨rfl, q6, hw6⟩
    have H6 : Hid (In3 w w6 (.slice a len cap) vp (.slice qa N qc) rs (plA rs)) := H5.out.over (by rw [hw6]; exact below_self_drewN _ _)
    clear hsm hw6 H5
    have hcn := count_any H6.out.a HL.out.1
    rw [HN.out.2.1] at hcn
    go_wp2_with fail
    refine hcn.mono ?_
    rintro e w7 ⟨rfl, hb7⟩
    have H7 : Hid (In3 w w7 (.slice a len cap) vp (.slice qa N qc) rs (plA rs)) := H6.out.over hb7
    clear hcn hb7 H6
    have hrk := rank_any H7.out.a HL.out.1 x
    have hrr := fun W (hW : In3 w W (.slice a len cap) vp (.slice qa N qc) rs (plA rs)) => refRank_any hW.a HL.out.1 x
    obtain ⟨r, hr⟩ : ∃ r, r = rankA rs x := ⟨_, rfl⟩
    rw [← hr] at hrk hrr
    clear hr
    go_wp2_with fail
    refine hrk.mono ?_
    rintro e w8 ⟨rfl, hb8⟩
    have H8 := H7.out.over hb8
    have hrr' := hrr w8 H8
    have H8 : Hid (In3 w w8 (.slice a len cap) vp (.slice qa N qc) rs (plA rs)) := H8
    clear hrk hrr hb8 H7
    go_wp2_with fail
    refine hrr'.mono ?_
    rintro e w9 ⟨rfl, hb9⟩
    have H9 : Hid (In3 w w9 (.slice a len cap) vp (.slice qa N qc) rs (plA rs)) := H8.out.over hb9
    clear hrr' hb9 H8
    have hhs := has_any H9.out.a HL.out.1 x
    have hrh := fun W (hW : In3 w W (.slice a len cap) vp (.slice qa N qc) rs (plA rs)) => refHas_any hW.a HL.out.1 x
    obtain ⟨t, ht⟩ : ∃ t, t = hasA rs x := ⟨_, rfl⟩
    rw [← ht] at hhs hrh
    clear ht
    go_wp2_with fail
    refine hhs.mono ?_
    rintro e w10 ⟨rfl, hb10⟩
    have H10 := H9.out.over hb10
    have hrh' := hrh w10 H10
    have H10 : Hid (In3 w w10 (.slice a len cap) vp (.slice qa N qc) rs (plA rs)) := H10
    clear hhs hrh hb10 H9
    go_wp2_with fail
    refine hrh'.mono ?_
    rintro e w11 ⟨rfl, hb11⟩
    have H11 : Hid (In3 w w11 (.slice a len cap) vp (.slice qa N qc) rs (plA rs)) := H10.out.over hb11
    clear hrh' hb11 H10
    go_wp2_with (go_at_call 9; refine (awake_any _).mono ?_; rintro e w12 ⟨rfl, hb12⟩)
    go_ret
    exact ⟨rfl, (H11.out.over hb12).below⟩
end Go.Proofs.Yteijhnfciiblmaa
