/-
  The contract of peristyleref10's Put.
-/
import Derived.Test.YtlohljefhcidkaaUPut
import Derived.Test.YtlohljefhcidkaaURefMay
import Derived.Test.YtlohljefhcidkaaVRefPut
namespace Go.Proofs.Ytlohljefhcidkaa
open Go.RowKit

theorem str_app (a b : List UInt8) : str a ++ str b = str (a ++ b) := by
  apply ByteArray.ext
  simp [str]

set_option maxRecDepth 4000 in
set_option maxHeartbeats 4000000 in
theorem refPut_no {w : World} {v : Value} {rs : List Rn} (h : RunsIs w v rs) (hl : rs.length ≤ 20000) (hm : ¬ May rs) :
    Calls Try.prog 17 #[v] w fun e w' => e = .returned (.tuple #[.string ⟨#[]⟩, .int .i64 1]) ∧ Below w.heap.size w w' := by
  have hmb := refMay_any h (by omega) false (by simp [hm])
  obtain ⟨a, n, cap, rfl, hn, hcap⟩ := h.slice
  clear h hm
  go_enter Try.func17, Try.ntmps17
  go_wp2_with (go_at_call 24; refine hmb.mono ?_; rintro e w1 ⟨rfl, hb1⟩)
  go_ret2
  exact ⟨rfl, hb1⟩

set_option maxRecDepth 4000 in
set_option maxHeartbeats 4000000 in
theorem refPut_yes {w : World} {v : Value} {rs : List Rn} (h : RunsIs w v rs) (hl : rs.length ≤ 20000) (hm : May rs) :
    Calls Try.prog 17 #[v] w fun e w' => e = .returned (.tuple #[.string (str (encR rs)), .int .i64 0]) ∧ Below w.heap.size w w' := by
  have hmb := refMay_any h (by omega) true (by simp [hm])
  obtain ⟨a, n, cap, rfl, hn, hcap⟩ := h.slice
  have hn1 : (n : Int) ≤ 20000 := by omega
  have HH : Hid (RunsIs w (.slice a n cap) rs ∧ rs.length = n ∧ May rs) := ⟨h, hn, hm⟩
  clear h hm hn hl
  go_enter Try.func17, Try.ntmps17
  go_wp2_with (go_at_call 24; refine hmb.mono ?_; rintro e w1 ⟨rfl, hb1⟩; have HB1 : Hid (Below w.heap.size w w1) := hb1; clear hb1)
  clear hmb
  go_loopg [4, 5] n (fun gg s4 s5 wx => ∃ (k : Nat) (t : ByteArray), k + gg = n ∧ s5 = .int .i64 k ∧ s4 = .string t ∧ Hid (t = str (encR (rs.take k))) ∧ Hid (Below w.heap.size w wx))
  case atStart => exact ⟨0, _, by omega, rfl, rfl, rfl, HB1⟩
  case round =>
    obtain ⟨k, t, hkg, rfl, rfl, HT, HB⟩ := hrel
    by_cases hk : k < n
    · have hkI : (k : Int) < (n : Int) := by omega
      obtain ⟨r, hr⟩ : ∃ r, rs[k]? = some r := ⟨_, List.getElem?_eq_getElem (by have := HH.out.2.1; omega)⟩
      obtain ⟨bb, off, rfl, hall⟩ := (HH.out.1.below HB.out).some (by rintro rfl; simp at hr)
      have hra := hall k r hr
      have q0 := above_cell hra.c0
      have q1 := above_cell hra.c1
      have q2 := above_cell hra.c2
      have hrb := run_bd HH.out.2.2.chain hr
      have hci := ofInt_toInt (c := r.c) (by omega) (by omega)
      have hp1 := refPut_any r.v
      have hp2 := refPut_any (BitVec.ofInt 64 r.c)
      rw [hci] at hp2
      have ht1 : (t.size : Int) ≤ 400000 := by rw [HT.out, str_size]; have := encR_take_len rs k; omega
      have ht2 : ((str (enc1 r.v)).size : Int) ≤ 10 := by rw [str_size]; have := enc1_bd r.v; omega
      have ht3 : ((str (enc1 (BitVec.ofInt 64 r.c))).size : Int) ≤ 10 := by rw [str_size]; have := enc1_bd (BitVec.ofInt 64 r.c); omega
      have HE : Hid (str (encR (rs.take (k + 1))) = t ++ str (enc1 r.v) ++ str (enc1 (BitVec.ofInt 64 r.c))) := by
        unfold Hid
        rw [HT.out, take_succ_of hr, encR_snoc, str_app, str_app]
      have hr2 : IntKind.i64.wrap ((k : Int) + 1) = (k : Int) + 1 := by rw [IntKind.wrap_i64]; omega
      generalize str (enc1 r.v) = t1 at *
      generalize str (enc1 (BitVec.ofInt 64 r.c)) = t2 at *
      generalize r.f = f at *
      generalize r.c = c at *
      generalize r.v.toInt = z at *
      clear hra hall hr hrb hci
      go_wp2_with fail
      refine wp_region_above (by kernel_rfl) (by kernel_rfl) ?_
      intro hne
      repeat (go_big_quiet_step (fail))
      go_big_quiet_step (first | (go_at_call 26; exact above_of (hp1 _)))
      repeat (go_big_quiet_step (fail))
      go_big_quiet_step (first | (go_at_call 26; exact above_of (hp2 _)))
      repeat (go_big_quiet_step (fail))
      refine wpQuiet_nil ?_
      rintro _ ⟨kq, rfl⟩
      have HB2 : Hid (Below w.heap.size w kq.it) := HB.out.trans (kq.is.mono HB.out.size)
      go_wp2_with fail
      go_roundg (n - (k + 1))
      case measure => clear hr2; omega
      case rel => exact ⟨k + 1, _, by clear hr2; omega, by go_num, rfl, HE.out.symm, HB2⟩
    · have hkI : ¬ (k : Int) < (n : Int) := by omega
      obtain rfl : k = n := by omega
      have HE : Hid (t = str (encR rs)) := by unfold Hid; rw [HT.out, List.take_of_length_le (by rw [HH.out.2.1]; exact Nat.le_refl _)]
      go_wp2_with fail
      go_ret2
      exact ⟨by rw [HE.out]; rfl, HB.out⟩
end Go.Proofs.Ytlohljefhcidkaa
