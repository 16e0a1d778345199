/-
  The contract of peristyleref10's Find.
-/
import Derived.Test.YtlohljefhcidkaaUFind
import Derived.Test.YtlohljefhcidkaaURefMay
namespace Go.Proofs.Ytlohljefhcidkaa
open Go.RowKit

set_option maxRecDepth 4000 in
set_option maxHeartbeats 4000000 in
theorem refFind_no {w : World} {v : Value} {rs : List Rn} (h : RunsIs w v rs) (hl : rs.length ≤ 1000000) (hm : ¬ May rs) (a : Int) :
    Calls Try.prog 11 #[v, .int .i64 a] w fun e w' => e = .returned (.tuple #[.int .i64 0, .int .i64 1]) ∧ Below w.heap.size w w' := by
  have hmb := refMay_any h hl false (by simp [hm])
  obtain ⟨ad, n, cap, rfl, hn, hcap⟩ := h.slice
  clear h hm
  go_enter Try.func11, Try.ntmps11
  go_wp2_with (go_at_call 24; refine hmb.mono ?_; rintro e w1 ⟨rfl, hb1⟩)
  go_ret2
  exact ⟨rfl, hb1⟩

set_option maxRecDepth 4000 in
set_option maxHeartbeats 4000000 in
theorem refFind_yes {w : World} {v : Value} {rs : List Rn} (h : RunsIs w v rs) (hm : May rs) (a : Int) (ha : a ≤ 9223372036854775807) :
    Calls Try.prog 11 #[v, .int .i64 a] w fun e w' => e = .returned (.tuple #[.int .i64 (findA rs a).1, .int .i64 (findA rs a).2]) ∧ Below w.heap.size w w' := by
  have hlen := chain_len hm.chain
  have hmb := refMay_any h (by omega) true (by simp [hm])
  obtain ⟨ad, n, cap, rfl, hn, hcap⟩ := h.slice
  have hn1 : (n : Int) ≤ 65536 := by omega
  have HH : Hid (RunsIs w (.slice ad n cap) rs ∧ May rs ∧ rs.length = n) := ⟨h, hm, hn⟩
  clear h hm hn hlen
  go_enter Try.func11, Try.ntmps11
  go_wp2_with (go_at_call 24; refine hmb.mono ?_; rintro e w1 ⟨rfl, hb1⟩; have HB1 : Hid (Below w.heap.size w w1) := hb1; clear hb1)
  clear hmb
  go_loopg [6] n (fun gg s6 wx => ∃ k : Nat, k + gg = n ∧ s6 = .int .i64 k ∧ Hid (∀ (j : Nat) x, j < k → rs[j]? = some x → ¬ (x.f ≤ a ∧ a < x.f + x.c)) ∧ Hid (Below w.heap.size w wx))
  case atStart => exact ⟨0, by omega, rfl, fun j x hj => by omega, HB1⟩
  case round =>
    obtain ⟨k, hkg, rfl, HA, HB⟩ := hrel
    clear HB1
    by_cases hk : k < n
    · have hkI : (k : Int) < (n : Int) := by omega
      obtain ⟨r, hr⟩ : ∃ r, rs[k]? = some r := ⟨_, List.getElem?_eq_getElem (by have := HH.out.2.2; omega)⟩
      obtain ⟨bb, off, rfl, hall⟩ := (HH.out.1.below HB.out).some (by rintro rfl; simp at hr)
      have hra := hall k r hr
      have q0 := hra.c0
      have q1 := hra.c1
      have q2 := hra.c2
      have hrb := run_bd HH.out.2.1.chain hr
      have hfc : 0 ≤ r.f ∧ r.f ≤ 65536 ∧ 1 ≤ r.c ∧ r.c ≤ 65536 := by omega
      have HR : Hid (rs[k]? = some r) := hr
      have hr2 : IntKind.i64.wrap ((k : Int) + 1) = (k : Int) + 1 := by rw [IntKind.wrap_i64]; omega
      obtain ⟨f, hf⟩ : ∃ f, f = r.f := ⟨_, rfl⟩
      obtain ⟨c, hc⟩ : ∃ c, c = r.c := ⟨_, rfl⟩
      rw [← hf] at q1 hfc
      rw [← hc] at q2 hfc
      have HF : Hid (f = r.f ∧ c = r.c) := ⟨hf, hc⟩
      clear hra hall hr hrb hf hc
      by_cases g1 : f ≤ a
      · have D1 : decide (f ≤ a) = true := by simpa using g1
        have hw : IntKind.i64.wrap (a - f) = a - f := by rw [IntKind.wrap_i64]; omega
        have hbd : 0 ≤ a - f ∧ a - f ≤ 9223372036854775807 := by omega
        by_cases g2 : a - f < c
        · have D2 : decide (a - f < c) = true := by simpa using g2
          have HE : Hid (findA rs a = (k, 0)) := findA_some HR.out (by have := HF.out; omega) (by have := HF.out; omega) HA.out
          clear g2
          go_wp2_with fail
          go_quiet (fail)
          go_wp2_with fail
          go_ret2
          exact ⟨ret_find HE.out, ⟨HB.out.os, HB.out.tape, HB.out.output, HB.out.size, HB.out.block⟩⟩
        · have D2 : decide (a - f < c) = false := by simpa using g2
          have HN : Hid (¬ (r.f ≤ a ∧ a < r.f + r.c)) := by unfold Hid; rw [← HF.out.1, ← HF.out.2]; omega
          clear g2
          go_wp2_with fail
          go_quiet (fail)
          go_wp2_with fail
          go_roundg (n - (k + 1))
          case measure => clear hr2 hw; omega
          case rel =>
            refine ⟨k + 1, by clear hr2 hw; omega, by go_num, fun j x hj hx => ?_, ⟨HB.out.os, HB.out.tape, HB.out.output, HB.out.size, HB.out.block⟩⟩
            rcases Nat.lt_or_ge j k with h1 | h1
            · exact HA.out j x h1 hx
            · obtain rfl : j = k := by clear hr2 hw; omega
              rw [HR.out] at hx
              cases hx
              exact HN.out
      · have D1 : decide (f ≤ a) = false := by simpa using g1
        have HN : Hid (¬ (r.f ≤ a ∧ a < r.f + r.c)) := by unfold Hid; rw [← HF.out.1, ← HF.out.2]; omega
        go_wp2_with fail
        go_quiet (fail)
        go_wp2_with fail
        go_roundg (n - (k + 1))
        case measure => clear hr2; omega
        case rel =>
          refine ⟨k + 1, by clear hr2; omega, by go_num, fun j x hj hx => ?_, ⟨HB.out.os, HB.out.tape, HB.out.output, HB.out.size, HB.out.block⟩⟩
          rcases Nat.lt_or_ge j k with h1 | h1
          · exact HA.out j x h1 hx
          · obtain rfl : j = k := by clear hr2; omega
            rw [HR.out] at hx
            cases hx
            exact HN.out
    · have hkI : ¬ (k : Int) < (n : Int) := by omega
      obtain rfl : k = n := by omega
      have HE : Hid (findA rs a = (0, 3)) := findA_none fun j x hx => HA.out j x (by have := (List.getElem?_eq_some_iff.1 hx).1; have := HH.out.2.2; omega) hx
      go_wp2_with fail
      go_ret2
      exact ⟨ret_find HE.out, HB.out⟩
end Go.Proofs.Ytlohljefhcidkaa
