/-
  The walk of law 14's SpanRanks: the place with the number k has k below it, and is there.
-/
import Derived.Test.YteijhnfciiblmaaSAwake
import Derived.Test.YteijhnfciiblmaaSIdx
import Derived.Test.YteijhnfciiblmaaSOpen
import Derived.Test.YteijhnfciiblmaaWords
namespace Go.Proofs.Yteijhnfciiblmaa
open Go.RowKit

theorem and_low (m : Int) (h : (Lit.int .i64 m).wf = true) (c : Nat) (hc : c < 9223372036854775808) : ∃ z : Nat, z ≤ c ∧ bits .and .i64 m (c : Int) = (z : Int) := by
  obtain ⟨x, rfl⟩ := Wd.word_of m h
  refine ⟨(x &&& BitVec.ofNat 64 c).toNat, ?_, ?_⟩
  · rw [BitVec.toNat_and, BitVec.toNat_ofNat, Nat.mod_eq_of_lt (by omega)]
    exact Nat.and_le_right
  · have e := Wd.i64_and x (BitVec.ofNat 64 c)
    rw [Wd.toInt_of_small c hc] at e
    rw [e]
    refine BitVec.toInt_eq_toNat_of_lt ?_
    have : (x &&& BitVec.ofNat 64 c).toNat ≤ c := by
      rw [BitVec.toNat_and, BitVec.toNat_ofNat, Nat.mod_eq_of_lt (by omega)]
      exact Nat.and_le_right
    omega
/-- What stays: the spans that came in. -/
structure In1 (w W : World) (v : Value) (rs : List Sn) : Prop where
  a : SpansIs W v rs
  below : Below w.heap.size w W
theorem In1.over {w W W' : World} {v : Value} {rs : List Sn} (h : In1 w W v rs) (k : Below W.heap.size W W') : In1 w W' v rs := ⟨h.a.below k, h.below.trans (k.mono h.below.size)⟩
theorem below_self_drewN (w : World) (n : Nat) : Below w.heap.size w (w.drewN n) := below_drewN (Below.refl _ _) n
theorem few_len {rs : List Sn} (h : fewA rs = true) : rs.length ≤ 60 := by
  unfold fewA at h
  simp at h
  exact h.1

set_option maxRecDepth 100000 in
set_option maxHeartbeats 4000000 in
theorem walkSpanRanks {w : World} (a : Option Addr) (len cap : Nat) (h : SpansAre w a len cap) (k : Int) (hk : (Lit.int .i64 k).wf = true) :
    Calls Try.prog 7 #[.slice a len cap, .int .i64 k] w fun e w' => e = .returned (.bool true) ∧ Below w.heap.size w w' := by
  obtain ⟨rs, hs, _⟩ := h
  have hfew := few_any hs
  have H0 : Hid (In1 w w (.slice a len cap) rs) := ⟨hs, Below.refl _ _⟩
  cases hf : fewA rs with
  | false =>
    rw [hf] at hfew
    clear hs hf
    go_enter Try.func7, Try.ntmps7
    go_wp2_with fail
    refine hfew.mono ?_
    rintro e w1 ⟨rfl, q1, hw1⟩
    have hb1 : Below w.heap.size w w1 := by rw [hw1]; exact below_self_drewN _ _
    clear hfew hw1
    go_wp2_with (go_at_call 9; refine (awake_any _).mono ?_; rintro e w2 ⟨rfl, hb2⟩)
    go_ret
    exact ⟨rfl, hb1.trans (hb2.mono hb1.size)⟩
  | true =>
    rw [hf] at hfew
    have hl := few_len hf
    have HL : Hid (rs.length ≤ 1000000) := by unfold Hid; omega
    clear hs hf hl
    go_enter Try.func7, Try.ntmps7
    go_wp2_with fail
    refine hfew.mono ?_
    rintro e w1 ⟨rfl, q1, hw1⟩
    have H1 : Hid (In1 w w1 (.slice a len cap) rs) := H0.out.over (by rw [hw1]; exact below_self_drewN _ _)
    clear hfew hw1 H0
    have hmay := refMay_any H1.out.a HL.out
    cases hm : mayS rs with
    | false =>
      rw [hm] at hmay
      clear hm
      go_wp2_with fail
      refine hmay.mono ?_
      rintro e w2 ⟨rfl, q2, hw2⟩
      have H2 : Hid (In1 w w2 (.slice a len cap) rs) := H1.out.over (by rw [hw2]; exact below_self_drewN _ _)
      clear hmay hw2 H1
      go_wp2_with (go_at_call 9; refine (awake_any _).mono ?_; rintro e w3 ⟨rfl, hb3⟩)
      go_ret
      exact ⟨rfl, (H2.out.over hb3).below⟩
    | true =>
      rw [hm] at hmay
      have HM : Hid (mayS rs = true) := hm
      have hcn : rankA rs 65536 = ((pl rs).length : Int) := by unfold rankA; rw [if_pos hm]; exact count_is hm
      have hpl := pl_len hm
      obtain ⟨N, hN⟩ : ∃ N, N = (pl rs).length := ⟨_, rfl⟩
      have HN : Hid (N = (pl rs).length) := hN
      rw [← hN] at hcn hpl
      have HC : Hid (rankA rs 65536 = (N : Int)) := hcn
      have hN1 : (N : Int) ≤ 65537 := by omega
      clear hm hN hcn hpl
      go_wp2_with fail
      refine hmay.mono ?_
      rintro e w2 ⟨rfl, q2, hw2⟩
      have H2 : Hid (In1 w w2 (.slice a len cap) rs) := H1.out.over (by rw [hw2]; exact below_self_drewN _ _)
      clear hmay hw2 H1
      have hcount := count_any H2.out.a HL.out
      rw [HC.out] at hcount
      go_wp2_with fail
      refine hcount.mono ?_
      rintro e w3 ⟨rfl, hb3⟩
      have H3 : Hid (In1 w w3 (.slice a len cap) rs) := H2.out.over hb3
      clear hcount hb3 H2
      rcases Nat.eq_zero_or_pos N with h0 | hp
      · subst h0
        have hpick := pick_any H3.out.a HL.out 0 (by omega)
        rw [pick_none HM.out (by omega) (by rw [← HN.out]; simp)] at hpick
        go_wp2_with fail
        refine hpick.mono ?_
        rintro e w4 ⟨rfl, hb4⟩
        have H4 : Hid (In1 w w4 (.slice a len cap) rs) := H3.out.over hb4
        clear hpick hb4 H3
        go_wp2_with (go_at_call 9; refine (awake_any _).mono ?_; rintro e w5 ⟨rfl, hb5⟩)
        go_ret
        exact ⟨rfl, (H4.out.over hb5).below⟩
      · obtain ⟨z, hz1, hz2⟩ := and_low k hk 65535 (by omega)
        have hNp : (0 : Int) < (N : Int) := by omega
        have hzI : (z : Int) ≤ 65535 := by omega
        obtain ⟨I, hI⟩ : ∃ I, I = z % N := ⟨_, rfl⟩
        have hIN : I < N := by rw [hI]; exact Nat.mod_lt _ hp
        have hmod : (z : Int) % (N : Int) = (I : Int) := by rw [hI]; exact (Int.natCast_emod z N).symm
        have hI1 : (I : Int) ≤ 65537 := by omega
        have hx := List.getElem?_eq_getElem (l := pl rs) (i := I) (by rw [← HN.out]; exact hIN)
        obtain ⟨x, hxe⟩ : ∃ x, x = (pl rs)[I]'(by rw [← HN.out]; exact hIN) := ⟨_, rfl⟩
        rw [← hxe] at hx
        have hra := rank_at HM.out hx
        have hxb := in_may HM.out hra.2.2
        have hx1 : 0 ≤ x ∧ x ≤ 65536 := by omega
        have HP : Hid (pickA rs (I : Int) = (x, 0) ∧ rankA rs x = (I : Int) ∧ rankA rs (x + 1) = (I : Int) + 1 ∧ hasA rs x = true) :=
          ⟨pick_some HM.out (by omega) (by simpa using hx), by unfold rankA; rw [if_pos HM.out]; exact hra.1, by unfold rankA; rw [if_pos HM.out]; exact hra.2.1, by unfold hasA; rw [HM.out, inB_iff.2 hra.2.2]; rfl⟩
        have hpick := pick_any H3.out.a HL.out (I : Int) (by omega)
        rw [HP.out.1] at hpick
        clear hz1 hI hIN hx hxe hra hxb hk hp
        have hz2' : bits .and .i64 k 65535 = (z : Int) := hz2
        clear hz2
        have HMD : Hid ((z : Int) % (N : Int) = (I : Int)) := hmod
        clear hmod
        go_wp2_with fail
        rw [HMD.out]
        refine hpick.mono ?_
        rintro e w4 ⟨rfl, hb4⟩
        have H4 : Hid (In1 w w4 (.slice a len cap) rs) := H3.out.over hb4
        clear hpick hb4 H3 HMD hz2'
        have hrk := rank_any H4.out.a HL.out x
        rw [HP.out.2.1] at hrk
        go_wp2_with fail
        refine hrk.mono ?_
        rintro e w5 ⟨rfl, hb5⟩
        have H5 : Hid (In1 w w5 (.slice a len cap) rs) := H4.out.over hb5
        clear hrk hb5 H4
        have hhas := has_any H5.out.a HL.out x
        rw [HP.out.2.2.2] at hhas
        go_wp2_with fail
        refine hhas.mono ?_
        rintro e w6 ⟨rfl, hb6⟩
        have H6 : Hid (In1 w w6 (.slice a len cap) rs) := H5.out.over hb6
        clear hhas hb6 H5
        have hrk := rank_any H6.out.a HL.out (x + 1)
        rw [HP.out.2.2.1] at hrk
        go_wp2_with fail
        refine hrk.mono ?_
        rintro e w7 ⟨rfl, hb7⟩
        have H7 : Hid (In1 w w7 (.slice a len cap) rs) := H6.out.over hb7
        clear hrk hb7 H6
        go_wp2_with (go_at_call 9; refine (awake_any _).mono ?_; rintro e w8 ⟨rfl, hb8⟩)
        go_ret
        exact ⟨rfl, (H7.out.over hb8).below⟩
end Go.Proofs.Yteijhnfciiblmaa
