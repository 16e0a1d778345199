/-
  The contract of package runs' Put: the bytes of runs.
-/
import Derived.Test.YtlohljefhcidkaaUApp
namespace Go.Proofs.Ytlohljefhcidkaa
open Go.RowKit

theorem encR_step {rs : List Rn} {k : Nat} {r : Rn} (hr : rs[k]? = some r) : encR (rs.take (k + 1)) = encR (rs.take k) ++ (str (enc1 r.v)).data.toList ++ (str (enc1 (BitVec.ofInt 64 r.c))).data.toList := by
  rw [take_succ_of hr, encR_snoc, str_list, str_list]
theorem encR_take_len (rs : List Rn) (k : Nat) : (encR (rs.take k)).length ≤ 20 * k := by
  have := (encR_len (rs.take k)).1
  rw [List.length_take] at this
  omega

set_option maxRecDepth 4000 in
set_option maxHeartbeats 4000000 in
theorem put_no {w : World} {v : Value} {rs : List Rn} (h : RunsIs w v rs) (hl : rs.length ≤ 20000) (hm : ¬ May rs) :
    Calls Try.prog 16 #[v] w fun e w' => e = .returned (.tuple #[.string ⟨#[]⟩, .int .i64 1]) ∧ Below w.heap.size w w' := by
  have hmb := fun W (hW : Below w.heap.size w W) => mayBe_any (h.below hW) (by omega) false (by simp [hm])
  obtain ⟨a, n, cap, rfl, hn, hcap⟩ := h.slice
  clear h hm
  go_enter Try.func16, Try.ntmps16
  go_wp2_with (go_at_call 20; refine (hmb _ (Below.refl _ _)).mono ?_; rintro e w1 ⟨rfl, hb1⟩)
  go_ret2
  exact ⟨rfl, hb1⟩

set_option maxRecDepth 4000 in
set_option maxHeartbeats 4000000 in
theorem put_yes {w : World} {v : Value} {rs : List Rn} (h : RunsIs w v rs) (hl : rs.length ≤ 20000) (hm : May rs) :
    Calls Try.prog 16 #[v] w fun e w' => e = .returned (.tuple #[.string (str (encR rs)), .int .i64 0]) ∧ Below w.heap.size w w' := by
  have hmb := fun W (hW : Below w.heap.size w W) => mayBe_any (h.below hW) (by omega) true (by simp [hm])
  obtain ⟨a, n, cap, rfl, hn, hcap⟩ := h.slice
  have hn1 : (n : Int) ≤ 20000 := by omega
  have HH : Hid (RunsIs w (.slice a n cap) rs ∧ rs.length = n ∧ May rs) := ⟨h, hn, hm⟩
  clear h hm hn hl
  go_enter Try.func16, Try.ntmps16
  go_wp2_with (go_at_call 20; refine (hmb _ (Below.refl _ _)).mono ?_; rintro e w1 ⟨rfl, hb1⟩; have HB1 : Hid (Below w.heap.size w w1) := hb1; clear hb1)
  clear hmb
  go_loopg [4, 12] n (fun gg s4 s12 wx => ∃ k : Nat, k + gg = n ∧ s12 = .int .i64 k ∧ Hid (OwnsB wx w.heap.size s4 (encR (rs.take k))) ∧ Hid (Below w.heap.size w wx))
  case atStart => exact ⟨0, by omega, rfl, ownsB_nil _ _, HB1⟩
  case round =>
    obtain ⟨k, hkg, rfl, HO, HB⟩ := hrel
    by_cases hk : k < n
    · have hkI : (k : Int) < (n : Int) := by omega
      obtain ⟨r, hr⟩ : ∃ r, rs[k]? = some r := ⟨_, List.getElem?_eq_getElem (by have := HH.out.2.1; omega)⟩
      obtain ⟨bb, off, rfl, hall⟩ := (HH.out.1.below HB.out).some (by rintro rfl; simp at hr)
      have hra := hall k r hr
      have q0 := hra.c0
      have q1 := hra.c1
      have q2 := hra.c2
      have hlt := hra.lt
      have hrb := run_bd HH.out.2.2.chain hr
      have hci := ofInt_toInt (c := r.c) (by omega) (by omega)
      have hp1 := put_any r.v
      have hp2 := put_any (BitVec.ofInt 64 r.c)
      rw [hci] at hp2
      have HL : Hid ((encR (rs.take k)).length ≤ 20 * k ∧ (str (enc1 r.v)).size ≤ 10 ∧ (str (enc1 (BitVec.ofInt 64 r.c))).size ≤ 10) := ⟨encR_take_len rs k, (enc1_bd _).2, (enc1_bd _).2⟩
      have HE : Hid (encR (rs.take (k + 1)) = encR (rs.take k) ++ (str (enc1 r.v)).data.toList ++ (str (enc1 (BitVec.ofInt 64 r.c))).data.toList) := encR_step hr
      have hr2 : IntKind.i64.wrap ((k : Int) + 1) = (k : Int) + 1 := by rw [IntKind.wrap_i64]; omega
      generalize str (enc1 r.v) = t1 at *
      generalize str (enc1 (BitVec.ofInt 64 r.c)) = t2 at *
      generalize encR (rs.take k) = l at *
      generalize r.f = f at *
      generalize r.c = c at *
      generalize r.v.toInt = z at *
      clear hra hall hr hrb hci
      have hl1 : l.length + t1.size ≤ 1000000 := by have := HL.out; omega
      have hl2 : (l ++ t1.data.toList).length + t2.size ≤ 1000000 := by rw [List.length_append, ← Lib.size_eq]; have := HL.out; omega
      have HL2 : Hid (l.length + t1.size ≤ 1000000 ∧ (l ++ t1.data.toList).length + t2.size ≤ 1000000) := ⟨hl1, hl2⟩
      clear HL hl1 hl2
      go_wp2_with fail
      generalize hW : wr.alloc (.cells #[.int .i64 z, .int .i64 f, .int .i64 c] 35) = W
      have HS : Hid (PutSt w W wr.heap.size z f c u4 l) := by
        unfold Hid
        rw [← hW]
        exact ⟨HO.out.below (below1 _ _), box_new _ _ _, HB.out.trans ((below1 _ _).mono HB.out.size)⟩
      clear hW q0 q1 q2 HO HB HB1
      generalize wr.heap.size = g at *
      refine (hp1 W).mono ?_
      rintro e w2 ⟨rfl, hb2⟩
      have HS2 : Hid (PutSt w w2 g z f c u4 l) := HS.out.over hb2
      clear hb2 HS
      go_wp2_with (first
        | (at_builtin; (refine append_strk rfl (.tmp 16) (.tmp 19) rfl t1 rfl rfl HS2.out.own HS2.out.below.size HL2.out.1 ?_; intro v3 w3 o3 k3; have HS3 : Hid (PutSt w w3 g z f c v3 (l ++ t1.data.toList)) := HS2.out.app k3 o3; have e2 := HS3.out.box.cell 2 _ rfl; clear o3 k3))
        | (go_at_call 25; refine (hp2 _).mono ?_; rintro e w4 ⟨rfl, hb4⟩; have HS4 : Hid (PutSt w w4 g z f c v3 (l ++ t1.data.toList)) := HS3.out.over hb4; clear hb4)
        | (at_builtin; refine append_strk rfl (.tmp 21) (.tmp 24) rfl t2 rfl rfl HS4.out.own HS4.out.below.size HL2.out.2 ?_; intro v5 w5 o5 k5; have HS5 : Hid (PutSt w w5 g z f c v5 (l ++ t1.data.toList ++ t2.data.toList)) := HS4.out.app k5 o5; clear o5 k5))
      go_roundg (n - (k + 1))
      case measure => clear hr2; omega
      case rel => exact ⟨k + 1, by clear hr2; omega, by go_num, by unfold Hid; rw [HE.out]; exact HS5.out.own, HS5.out.below⟩
    · have hkI : ¬ (k : Int) < (n : Int) := by omega
      obtain rfl : k = n := by omega
      have hcv := convert_all HO.out
      have HE : Hid (encR (rs.take k) = encR rs) := by unfold Hid; rw [List.take_of_length_le (by rw [HH.out.2.1]; exact Nat.le_refl _)]
      rw [HE.out] at hcv
      go_wp2_with fail
      go_ret2
      exact ⟨rfl, HB.out⟩
end Go.Proofs.Ytlohljefhcidkaa
