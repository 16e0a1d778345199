/-
  The walk of law 10's RunsAny: the numbers, and the bytes, of any runs, or that they may not be.
-/
import Derived.Test.YtlohljefhcidkaaUAwake
import Derived.Test.YtlohljefhcidkaaUOpen
import Derived.Test.YtlohljefhcidkaaURefFlat
import Derived.Test.YtlohljefhcidkaaURefPut
import Derived.Test.YtlohljefhcidkaaURefFind
namespace Go.Proofs.Ytlohljefhcidkaa
open Go.RowKit

set_option maxRecDepth 4000 in
set_option maxHeartbeats 4000000 in
theorem walkRunsAny {w : World} (a : Option Addr) (len cap : Nat) (h : RunsAre w a len cap) (at' : Int) (hat : (Lit.int .i64 at').wf = true) :
    Calls Try.prog 4 #[.slice a len cap, .int .i64 at'] w fun e w' => e = .returned (.bool true) ∧ Below w.heap.size w w' := by
  obtain ⟨rs, hrs, hmax⟩ := h
  have ha : at' ≤ 9223372036854775807 := by
    obtain ⟨x, rfl⟩ := Wd.word_of at' hat
    have := BitVec.toInt_lt (x := x)
    omega
  unfold maxLen at hmax
  obtain ⟨hlen, hcap⟩ := hrs.len
  have HH : Hid (RunsIs w (.slice a len cap) rs ∧ rs.length = len ∧ at' ≤ 9223372036854775807) := ⟨hrs, hlen, ha⟩
  clear hat hrs hlen ha
  go_enter Try.func4, Try.ntmps4
  go_wp2_with fail
  go_loopg [5, 6] 60 (fun gg s5 s6 wx => ∃ (i : Nat) (m : Int), i + gg = 60 ∧ i ≤ len ∧ s6 = .int .i64 i ∧ s5 = .int .i64 m ∧ 0 ≤ m ∧ m ≤ 2048 ∧ wx = w)
  case atStart => exact ⟨0, 0, by omega, by omega, rfl, rfl, by omega, by omega, rfl⟩
  case round =>
    obtain ⟨i, m, hig, hil, rfl, rfl, hm0, hm1, rfl⟩ := hrel
    by_cases hi : i < len
    · have hiI : (i : Int) < (len : Int) := by omega
      by_cases h60 : (i : Int) < 60
      · by_cases hm : m ≤ 1024
        · obtain ⟨r, hr⟩ : ∃ r, rs[i]? = some r := ⟨_, List.getElem?_eq_getElem (by have := HH.out.2.1; omega)⟩
          obtain ⟨b, off, rfl, hall⟩ := HH.out.1.some (by rintro rfl; simp at hr)
          have q2 := (hall i r hr).c2
          generalize r.c = c at q2
          have hr2 : IntKind.i64.wrap ((i : Int) + 1) = (i : Int) + 1 := by rw [IntKind.wrap_i64]; omega
          clear hr hall
          go_wp2_with fail
          all_goals
            go_roundg (60 - (i + 1))
            case measure => clear hr2; omega
            case rel => exact ⟨i + 1, _, by clear hr2; omega, by clear hr2; omega, by go_num, rfl, by clear hr2; omega, by clear hr2; omega, rfl⟩
        · go_wp2_with (go_at_call 7; refine (awake_any _).mono ?_; rintro e w1 ⟨rfl, hb1⟩)
          all_goals
            go_ret
            exact ⟨rfl, hb1⟩
      · have h60N : (60 : Int) < (len : Int) := by omega
        go_wp2_with (go_at_call 7; refine (awake_any _).mono ?_; rintro e w1 ⟨rfl, hb1⟩)
        all_goals
          go_ret
          exact ⟨rfl, hb1⟩
    · have hiI : ¬ (i : Int) < (len : Int) := by omega
      obtain rfl : i = len := by omega
      by_cases hm : (1024 : Int) < m
      · go_wp2_with (go_at_call 7; refine (awake_any _).mono ?_; rintro e w1 ⟨rfl, hb1⟩)
        all_goals
          go_ret
          exact ⟨rfl, hb1⟩
      · have h60 : (i : Int) ≤ 60 := by omega
        by_cases hmay : May rs
        · have HM : Hid (May rs ∧ rs.length ≤ 60 ∧ (flat rs).length ≤ 1000000) := ⟨hmay, by have := HH.out.2.1; omega, by have := flat_len hmay.chain; have := end_bd hmay.chain; omega⟩
          obtain ⟨fk, hfk⟩ : ∃ fk, fk = (findA rs at').1 := ⟨_, rfl⟩
          obtain ⟨fe, hfe⟩ : ∃ fe, fe = (findA rs at').2 := ⟨_, rfl⟩
          have c1 : ∀ W, Below wr.heap.size wr W → Calls Try.prog 9 #[.slice a i cap] W (FlatAns W rs) := fun W hW => flat_yes (HH.out.1.below hW) HM.out.1
          have c2 : ∀ W, Below wr.heap.size wr W → Calls Try.prog 15 #[.slice a i cap] W (FlatAns W rs) := fun W hW => refFlat_yes (HH.out.1.below hW) HM.out.1
          have c3 : ∀ W, Below wr.heap.size wr W → Calls Try.prog 16 #[.slice a i cap] W fun e w' => e = .returned (.tuple #[.string (str (encR rs)), .int .i64 0]) ∧ Below W.heap.size W w' := fun W hW => put_yes (HH.out.1.below hW) (by have := HM.out.2.1; omega) HM.out.1
          have c4 : ∀ W, Below wr.heap.size wr W → Calls Try.prog 17 #[.slice a i cap] W fun e w' => e = .returned (.tuple #[.string (str (encR rs)), .int .i64 0]) ∧ Below W.heap.size W w' := fun W hW => refPut_yes (HH.out.1.below hW) (by have := HM.out.2.1; omega) HM.out.1
          have c5 : ∀ W, Below wr.heap.size wr W → Calls Try.prog 10 #[.slice a i cap, .int .i64 at'] W fun e w' => e = .returned (.tuple #[.int .i64 fk, .int .i64 fe]) ∧ Below W.heap.size W w' := fun W hW => by rw [hfk, hfe]; exact find_yes (HH.out.1.below hW) HM.out.1 at'
          have c6 : ∀ W, Below wr.heap.size wr W → Calls Try.prog 11 #[.slice a i cap, .int .i64 at'] W fun e w' => e = .returned (.tuple #[.int .i64 fk, .int .i64 fe]) ∧ Below W.heap.size W w' := fun W hW => by rw [hfk, hfe]; exact refFind_yes (HH.out.1.below hW) HM.out.1 at' HH.out.2.2
          generalize str (encR rs) = t at c3 c4
          clear hfk hfe hmay
          go_wp2_with fail
          refine (c1 _ (Below.refl _ _)).mono ?_
          rintro e w1 ⟨⟨v1, rfl, o1⟩, hb1⟩
          have H1 : Hid (Below wr.heap.size wr w1 ∧ ReadsI w1 v1 (flat rs)) := ⟨hb1, o1.reads⟩
          clear o1 hb1 c1
          go_wp2_with fail
          refine (c2 _ H1.out.1).mono ?_
          rintro e w2 ⟨⟨v2, rfl, o2⟩, hb2⟩
          have H2 : Hid (Below wr.heap.size wr w2 ∧ ReadsI w2 v1 (flat rs) ∧ ReadsI w2 v2 (flat rs)) := ⟨H1.out.1.trans (hb2.mono H1.out.1.size), H1.out.2.below hb2, o2.reads⟩
          clear o2 hb2 c2 H1
          go_wp2_with fail
          refine (c3 _ H2.out.1).mono ?_
          rintro e w3 ⟨rfl, hb3⟩
          have H3 : Hid (Below wr.heap.size wr w3 ∧ ReadsI w3 v1 (flat rs) ∧ ReadsI w3 v2 (flat rs)) := ⟨H2.out.1.trans (hb3.mono H2.out.1.size), H2.out.2.1.below hb3, H2.out.2.2.below hb3⟩
          clear hb3 c3 H2
          go_wp2_with fail
          refine (c4 _ H3.out.1).mono ?_
          rintro e w4 ⟨rfl, hb4⟩
          have H4 : Hid (Below wr.heap.size wr w4 ∧ ReadsI w4 v1 (flat rs) ∧ ReadsI w4 v2 (flat rs)) := ⟨H3.out.1.trans (hb4.mono H3.out.1.size), H3.out.2.1.below hb4, H3.out.2.2.below hb4⟩
          clear hb4 c4 H3
          go_wp2_with fail
          refine (c5 _ H4.out.1).mono ?_
          rintro e w5 ⟨rfl, hb5⟩
          have H5 : Hid (Below wr.heap.size wr w5 ∧ ReadsI w5 v1 (flat rs) ∧ ReadsI w5 v2 (flat rs)) := ⟨H4.out.1.trans (hb5.mono H4.out.1.size), H4.out.2.1.below hb5, H4.out.2.2.below hb5⟩
          clear hb5 c5 H4
          go_wp2_with fail
          refine (c6 _ H5.out.1).mono ?_
          rintro e w6 ⟨rfl, hb6⟩
          have H6 : Hid (Below wr.heap.size wr w6 ∧ ReadsI w6 v1 (flat rs) ∧ ReadsI w6 v2 (flat rs)) := ⟨H5.out.1.trans (hb6.mono H5.out.1.size), H5.out.2.1.below hb6, H5.out.2.2.below hb6⟩
          clear hb6 c6 H5
          have hsi := same_any w6 v1 v2 (flat rs) HM.out.2.2 H6.out.2.1 H6.out.2.2
          go_wp2_with fail
          refine hsi.mono ?_
          rintro e w7 ⟨rfl, nq, rfl⟩
          clear hsi
          go_wp2_with (go_at_call 7; refine (awake_any _).mono ?_; rintro e w9 ⟨rfl, hb9⟩)
          go_ret
          exact ⟨rfl, H6.out.1.trans ((show Below w6.heap.size w6 w9 from ⟨hb9.os, hb9.tape, hb9.output, hb9.size, hb9.block⟩).mono H6.out.1.size)⟩
        · have HM : Hid (¬ May rs ∧ rs.length ≤ 60) := ⟨hmay, by have := HH.out.2.1; omega⟩
          have c1 : ∀ W, Below wr.heap.size wr W → Calls Try.prog 9 #[.slice a i cap] W fun e w' => e = .returned (.tuple #[.slice none 0 0, .int .i64 1]) ∧ Below W.heap.size W w' := fun W hW => flat_no (HH.out.1.below hW) (by have := HM.out.2; omega) HM.out.1
          have c2 : ∀ W, Below wr.heap.size wr W → Calls Try.prog 15 #[.slice a i cap] W fun e w' => e = .returned (.tuple #[.slice none 0 0, .int .i64 1]) ∧ Below W.heap.size W w' := fun W hW => refFlat_no (HH.out.1.below hW) (by have := HM.out.2; omega) HM.out.1
          have c3 : ∀ W, Below wr.heap.size wr W → Calls Try.prog 16 #[.slice a i cap] W fun e w' => e = .returned (.tuple #[.string ⟨#[]⟩, .int .i64 1]) ∧ Below W.heap.size W w' := fun W hW => put_no (HH.out.1.below hW) (by have := HM.out.2; omega) HM.out.1
          have c4 : ∀ W, Below wr.heap.size wr W → Calls Try.prog 17 #[.slice a i cap] W fun e w' => e = .returned (.tuple #[.string ⟨#[]⟩, .int .i64 1]) ∧ Below W.heap.size W w' := fun W hW => refPut_no (HH.out.1.below hW) (by have := HM.out.2; omega) HM.out.1
          have c5 : ∀ W, Below wr.heap.size wr W → Calls Try.prog 10 #[.slice a i cap, .int .i64 at'] W fun e w' => e = .returned (.tuple #[.int .i64 0, .int .i64 1]) ∧ Below W.heap.size W w' := fun W hW => find_no (HH.out.1.below hW) (by have := HM.out.2; omega) HM.out.1 at'
          have c6 : ∀ W, Below wr.heap.size wr W → Calls Try.prog 11 #[.slice a i cap, .int .i64 at'] W fun e w' => e = .returned (.tuple #[.int .i64 0, .int .i64 1]) ∧ Below W.heap.size W w' := fun W hW => refFind_no (HH.out.1.below hW) (by have := HM.out.2; omega) HM.out.1 at'
          clear hmay
          go_wp2_with fail
          refine (c1 _ (Below.refl _ _)).mono ?_
          rintro e w1 ⟨rfl, hb1⟩
          have H1 : Hid (Below wr.heap.size wr w1) := hb1
          clear hb1 c1
          go_wp2_with fail
          refine (c2 _ H1.out).mono ?_
          rintro e w2 ⟨rfl, hb2⟩
          have H2 : Hid (Below wr.heap.size wr w2) := H1.out.trans (hb2.mono H1.out.size)
          clear hb2 c2 H1
          go_wp2_with fail
          refine (c3 _ H2.out).mono ?_
          rintro e w3 ⟨rfl, hb3⟩
          have H3 : Hid (Below wr.heap.size wr w3) := H2.out.trans (hb3.mono H2.out.size)
          clear hb3 c3 H2
          go_wp2_with fail
          refine (c4 _ H3.out).mono ?_
          rintro e w4 ⟨rfl, hb4⟩
          have H4 : Hid (Below wr.heap.size wr w4) := H3.out.trans (hb4.mono H3.out.size)
          clear hb4 c4 H3
          go_wp2_with fail
          refine (c5 _ H4.out).mono ?_
          rintro e w5 ⟨rfl, hb5⟩
          have H5 : Hid (Below wr.heap.size wr w5) := H4.out.trans (hb5.mono H4.out.size)
          clear hb5 c5 H4
          go_wp2_with fail
          refine (c6 _ H5.out).mono ?_
          rintro e w6 ⟨rfl, hb6⟩
          have H6 : Hid (Below wr.heap.size wr w6) := H5.out.trans (hb6.mono H5.out.size)
          clear hb6 c6 H5
          have hsi := same_nil w6 none none 0 0
          go_wp2_with fail
          refine hsi.mono ?_
          rintro e w7 ⟨rfl, nq, rfl⟩
          clear hsi
          go_wp2_with (go_at_call 7; refine (awake_any _).mono ?_; rintro e w9 ⟨rfl, hb9⟩)
          go_ret
          exact ⟨rfl, H6.out.trans ((show Below w6.heap.size w6 w9 from ⟨hb9.os, hb9.tape, hb9.output, hb9.size, hb9.block⟩).mono H6.out.size)⟩
end Go.Proofs.Ytlohljefhcidkaa
