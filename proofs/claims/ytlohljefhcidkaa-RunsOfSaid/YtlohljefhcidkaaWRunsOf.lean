/-
  The walk of law 10's RunsOf: the runs of any numbers; they have these again, and each place is found.
-/
import Derived.Test.YtlohljefhcidkaaUAwake
import Derived.Test.YtlohljefhcidkaaURefOf
import Derived.Test.YtlohljefhcidkaaURefFind
import Derived.Test.YtlohljefhcidkaaUSame
import Derived.Test.YtlohljefhcidkaaVRow
namespace Go.Proofs.Ytlohljefhcidkaa
open Go.RowKit

set_option maxRecDepth 4000 in
set_option maxHeartbeats 4000000 in
theorem walkRunsOf {w : World} (a : Option Addr) (len cap : Nat) (zs : List Int) (h : IsRow .i64 w a len cap zs) (at' : Int) (hat : (Lit.int .i64 at').wf = true) :
    Calls Try.prog 3 #[.slice a len cap, .int .i64 at'] w fun e w' => e = .returned (.bool true) ∧ Below w.heap.size w w' := by
  obtain ⟨l, hl, hrd⟩ := reads_of_row h
  clear h
  have ha : at' ≤ 9223372036854775807 := by
    obtain ⟨x, rfl⟩ := Wd.word_of at' hat
    have := BitVec.toInt_lt (x := x)
    omega
  clear hat
  have hmx : len ≤ 100 ∨ (100 : Int) < (len : Int) := by omega
  rcases hmx with h100 | h100
  · have h1I : (len : Int) ≤ 100 := by omega
    have hO := of_is l len (by omega) (by omega)
    obtain ⟨R, hR⟩ : ∃ R, R = ofP l len := ⟨_, rfl⟩
    have HO : Hid (May R ∧ R.length ≤ 100 ∧ flat R = l ∧ ofP l l.length = R) := ⟨by rw [hR]; exact hO.may, by rw [hR]; have := ofP_len l len; omega, by rw [hR, hO.flat, ← hl, List.take_length], by rw [hl, hR]⟩
    have HL : Hid (l.length = len ∧ ReadsI w (.slice a len cap) l) := ⟨hl, hrd⟩
    have HA : Hid (at' ≤ 9223372036854775807) := ha
    have hof : ∀ W, Below w.heap.size w W → Calls Try.prog 8 #[.slice a len cap] W (OfAns W l) := fun W hW => runsOf_any (HL.out.2.below hW) (by have := HL.out.1; omega)
    have hrf : ∀ W, Below w.heap.size w W → Calls Try.prog 12 #[.slice a len cap] W (OfAns W l) := fun W hW => refRunsOf_any (HL.out.2.below hW) (by have := HL.out.1; omega)
    clear hl hrd hO hR ha
    go_enter Try.func3, Try.ntmps3
    go_wp2_with fail
    refine (hof _ (Below.refl _ _)).mono ?_
    rintro e w1 ⟨⟨v1, rfl, hv1⟩, hb1⟩
    rw [HO.out.2.2.2] at hv1
    have H1 : Hid (RunsIs w1 v1 R ∧ Below w.heap.size w w1) := ⟨hv1, hb1⟩
    clear hof hv1 hb1
    have hfl := flat_yes H1.out.1 HO.out.1
    go_wp2_with fail
    refine hfl.mono ?_
    rintro e w2 ⟨⟨m, rfl, hm⟩, hb2⟩
    rw [HO.out.2.2.1] at hm
    have H2 : Hid (RunsIs w2 v1 R ∧ Below w.heap.size w w2 ∧ ReadsI w2 m l) := ⟨H1.out.1.below hb2, H1.out.2.trans (hb2.mono H1.out.2.size), hm.reads⟩
    clear hfl hm hb2 H1
    obtain ⟨fk, hfk⟩ : ∃ fk, fk = (findA R at').1 := ⟨_, rfl⟩
    obtain ⟨fe, hfe⟩ : ∃ fe, fe = (findA R at').2 := ⟨_, rfl⟩
    have hfi : Calls Try.prog 10 #[v1, .int .i64 at'] w2 fun e w' => e = .returned (.tuple #[.int .i64 fk, .int .i64 fe]) ∧ Below w2.heap.size w2 w' := by rw [hfk, hfe]; exact find_yes H2.out.1 HO.out.1 at'
    have hrfi : ∀ W v, RunsIs W v R → Calls Try.prog 11 #[v, .int .i64 at'] W fun e w' => e = .returned (.tuple #[.int .i64 fk, .int .i64 fe]) ∧ Below W.heap.size W w' := fun W v hv => by rw [hfk, hfe]; exact refFind_yes hv HO.out.1 at' HA.out
    clear hfk hfe
    go_wp2_with fail
    refine hfi.mono ?_
    rintro e w3 ⟨rfl, hb3⟩
    have H3 : Hid (RunsIs w3 v1 R ∧ Below w.heap.size w w3 ∧ ReadsI w3 m l) := ⟨H2.out.1.below hb3, H2.out.2.1.trans (hb3.mono H2.out.2.1.size), H2.out.2.2.below hb3⟩
    clear hfi hb3 H2
    go_wp2_with fail
    refine (hrf _ H3.out.2.1).mono ?_
    rintro e w4 ⟨⟨v4, rfl, hv4⟩, hb4⟩
    rw [HO.out.2.2.2] at hv4
    have H4 : Hid (RunsIs w4 v1 R ∧ Below w.heap.size w w4 ∧ ReadsI w4 m l ∧ RunsIs w4 v4 R) := ⟨H3.out.1.below hb4, H3.out.2.1.trans (hb4.mono H3.out.2.1.size), H3.out.2.2.below hb4, hv4⟩
    clear hv4 hb4 H3
    go_wp2_with fail
    refine (hrfi _ _ H4.out.2.2.2).mono ?_
    rintro e w5 ⟨rfl, hb5⟩
    have H5 : Hid (RunsIs w5 v1 R ∧ Below w.heap.size w w5 ∧ ReadsI w5 m l) := ⟨H4.out.1.below hb5, H4.out.2.1.trans (hb5.mono H4.out.2.1.size), H4.out.2.2.1.below hb5⟩
    clear hb5 H4 hrfi
    go_wp2_with fail
    refine (hrf _ H5.out.2.1).mono ?_
    rintro e w6 ⟨⟨v6, rfl, hv6⟩, hb6⟩
    rw [HO.out.2.2.2] at hv6
    have H6 : Hid (RunsIs w6 v1 R ∧ Below w.heap.size w w6 ∧ ReadsI w6 m l ∧ RunsIs w6 v6 R) := ⟨H5.out.1.below hb6, H5.out.2.1.trans (hb6.mono H5.out.2.1.size), H5.out.2.2.below hb6, hv6⟩
    clear hv6 hb6 H5 hrf
    have hsm := sameR_any H6.out.1 H6.out.2.2.2 (by have := HO.out; omega)
    go_wp2_with fail
    refine hsm.mono ?_
    rintro e w7 ⟨rfl, nq, rfl⟩
    clear hsm
    obtain ⟨W, hW⟩ : ∃ W, W = w6.drewN nq := ⟨_, rfl⟩
    rw [← hW]
    have HW : Hid (Below w.heap.size w W ∧ ReadsI W m l ∧ ReadsI W (.slice a len cap) l) := by
      have hb : Below w6.heap.size w6 W := by rw [hW]; exact ⟨rfl, rfl, rfl, Nat.le_refl _, fun _ _ => rfl⟩
      have hbw := H6.out.2.1.trans (hb.mono H6.out.2.1.size)
      exact ⟨hbw, H6.out.2.2.1.below hb, HL.out.2.below hbw⟩
    clear hW H6
    have hsi := same_any W m (.slice a len cap) l (by have := HL.out.1; omega) HW.out.2.1 HW.out.2.2
    go_wp2_with fail
    refine hsi.mono ?_
    rintro e w8 ⟨rfl, nq2, rfl⟩
    clear hsi
    go_wp2_with (go_at_call 7; refine (awake_any _).mono ?_; rintro e w9 ⟨rfl, hb9⟩)
    go_ret
    exact ⟨rfl, HW.out.1.trans ((show Below W.heap.size W w9 from ⟨hb9.os, hb9.tape, hb9.output, hb9.size, hb9.block⟩).mono HW.out.1.size)⟩
  · clear hl hrd
    go_enter Try.func3, Try.ntmps3
    go_wp2_with (go_at_call 7; refine (awake_any _).mono ?_; rintro e w1 ⟨rfl, hb1⟩)
    go_ret
    exact ⟨rfl, hb1⟩
end Go.Proofs.Ytlohljefhcidkaa
