/-
  The contract of peristyleref10's Flat.
-/
import Derived.Test.YtlohljefhcidkaaUFlat
import Derived.Test.YtlohljefhcidkaaURefMay
namespace Go.Proofs.Ytlohljefhcidkaa
open Go.RowKit

set_option maxRecDepth 4000 in
set_option maxHeartbeats 4000000 in
theorem refFlat_no {w : World} {v : Value} {rs : List Rn} (h : RunsIs w v rs) (hl : rs.length ≤ 1000000) (hm : ¬ May rs) :
    Calls Try.prog 15 #[v] w fun e w' => e = .returned (.tuple #[.slice none 0 0, .int .i64 1]) ∧ Below w.heap.size w w' := by
  have hmb := refMay_any h hl false (by simp [hm])
  obtain ⟨a, n, cap, rfl, hn, hcap⟩ := h.slice
  clear h hm
  go_enter Try.func15, Try.ntmps15
  go_wp2_with (go_at_call 24; refine hmb.mono ?_; rintro e w1 ⟨rfl, hb1⟩)
  go_ret2
  exact ⟨rfl, hb1⟩
set_option maxRecDepth 4000 in
set_option maxHeartbeats 4000000 in
theorem refFlat_yes {w : World} {v : Value} {rs : List Rn} (h : RunsIs w v rs) (hm : May rs) :
    Calls Try.prog 15 #[v] w (FlatAns w rs) := by
  have hlen := chain_len hm.chain
  have hmb := refMay_any h (by omega) true (by simp [hm])
  have hEb := end_bd hm.chain
  have hfl := flat_len hm.chain
  obtain ⟨E, hE⟩ : ∃ E : Nat, endR rs = (E : Int) := ⟨(endR rs).toNat, by omega⟩
  rw [hE] at hEb hfl
  obtain ⟨a, n, cap, rfl, hn, hcap⟩ := h.slice
  have hn1 : (n : Int) ≤ 65536 := by omega
  have hE1 : E ≤ 65536 := by omega
  have HH : Hid (RunsIs w (.slice a n cap) rs ∧ rs.length = n ∧ May rs ∧ (flat rs).length = E) := ⟨h, hn, hm, by omega⟩
  clear h hm hn hlen hEb hfl hE
  go_enter Try.func15, Try.ntmps15
  go_wp2_with (first
    | (go_at_call 24; refine hmb.mono ?_; rintro e w1 ⟨rfl, hb1⟩; have HB3 : Hid (Below w.heap.size w w1) := hb1; clear hb1))
  go_loopg [4, 5] n (fun gg s4 s5 wx => ∃ k : Nat, k + gg = n ∧ s5 = .int .i64 k ∧ Hid (OwnsI wx w.heap.size s4 (flat (rs.take k))) ∧ Hid (Below w.heap.size w wx))
  case atStart => exact ⟨0, by omega, rfl, ownsI_nil _ _, HB3⟩
  case round =>
    obtain ⟨k, hkg, rfl, HO, HB⟩ := hrel
    clear hmb HB3
    by_cases hk : k < n
    · have hkI : (k : Int) < (n : Int) := by omega
      obtain ⟨r, hr⟩ : ∃ r, rs[k]? = some r := ⟨_, List.getElem?_eq_getElem (by have := HH.out.2.1; omega)⟩
      obtain ⟨bb, off, rfl, hall⟩ := (HH.out.1.below HB.out).some (by rintro rfl; simp at hr)
      have HBB : Hid (bb < w.heap.size) := by
        obtain ⟨b2, o2, e2, k2⟩ := HH.out.1.some (by rintro rfl; simp at hr)
        cases e2
        exact (k2 k r hr).lt
      have hra := hall k r hr
      have q0 := hra.c0
      have q1 := hra.c1
      have q2 := hra.c2
      have hlt := hra.lt
      have hrb := run_bd HH.out.2.2.1.chain hr
      obtain ⟨C, hC⟩ : ∃ C : Nat, r.c = (C : Int) := ⟨r.c.toNat, by omega⟩
      have HE : Hid (flat (rs.take (k + 1)) = flat (rs.take k) ++ List.replicate C r.v) := by unfold Hid; rw [flat_step hr, hC]; rfl
      have hl0 : (flat (rs.take k)).length + C ≤ 65536 := by
        have h1 := flat_take_len HH.out.2.2.1.chain k (by have := HH.out.2.1; omega)
        have h2 := hrb.2.2.2.2.2.1
        omega
      rw [hC] at q2
      have hC1 : (C : Int) ≤ 65536 := by omega
      have hr2 : IntKind.i64.wrap ((k : Int) + 1) = (k : Int) + 1 := by rw [IntKind.wrap_i64]; omega
      generalize flat (rs.take k) = l at *
      generalize r.f = f at *
      obtain ⟨x, hx⟩ : ∃ x, x = r.v := ⟨_, rfl⟩
      rw [← hx] at HE q0
      clear hra hall hr hrb hx hC
      obtain ⟨z, hz⟩ : ∃ z, z = x.toInt := ⟨_, rfl⟩
      rw [← hz] at q0
      have HZ : Hid (z = x.toInt) := hz
      clear hz
      have HR : Hid (wr.cell? ⟨bb, off + k * 3, none⟩ = some (.int .i64 z) ∧ wr.cell? ⟨bb, off + k * 3 + 2, none⟩ = some (.int .i64 (C : Int)) ∧ bb < w.heap.size) := ⟨q0, q2, HBB.out⟩
      have HZ2 : Hid (w.heap.size ≤ wr.heap.size) := HB.out.size
      clear q0 q1 q2 hlt
      go_wp2_with fail
      go_loopg [4, 6] C (fun gj s4 s6 wx => ∃ i : Nat, i + gj = C ∧ s6 = .int .i64 i ∧ Hid (OwnsI wx w.heap.size s4 (l ++ List.replicate i x)) ∧ Hid (Below w.heap.size wr wx))
      case atStart => exact ⟨0, by omega, rfl, by unfold Hid; rw [List.replicate_zero, List.append_nil]; exact HO.out, Below.refl _ _⟩
      case round =>
        obtain ⟨i, hig, rfl, HF, HJ⟩ := hrel
        have b0 := (HJ.out.cell (p := ⟨bb, off + k * 3, none⟩) HR.out.2.2).trans HR.out.1
        have b2 := (HJ.out.cell (p := ⟨bb, off + k * 3 + 2, none⟩) HR.out.2.2).trans HR.out.2.1
        by_cases hi : i < C
        · have hiI : (i : Int) < (C : Int) := by omega
          have HL : Hid ((l ++ List.replicate i x).length + 1 ≤ 1000000 ∧ l ++ List.replicate i x ++ [x] = l ++ List.replicate (i + 1) x) := ⟨by simp; omega, by rw [List.append_assoc, List.replicate_succ']⟩
          have hr3 : IntKind.i64.wrap ((i : Int) + 1) = (i : Int) + 1 := by rw [IntKind.wrap_i64]; omega
          generalize l ++ List.replicate i x = y at *
          go_wp2_with (at_builtin; refine append_i64 rfl (.tmp 25) (.tmp 31) rfl rfl rfl HZ.out HF.out (Nat.le_trans HZ2.out HJ.out.size) HL.out.1 ?_; intro v5 w5 o5 k5; have HO5 : Hid (OwnsI w5 w.heap.size v5 (y ++ [x])) := o5; have HJ5 := HJ.out.trans k5; clear o5 k5)
          go_roundg (C - (i + 1))
          case measure => clear hr2 hr3; omega
          case rel => exact ⟨i + 1, by clear hr2 hr3; omega, by go_num, by unfold Hid; rw [← HL.out.2]; exact HO5.out, HJ5⟩
        · have hiI : ¬ (i : Int) < (C : Int) := by omega
          obtain rfl : i = C := by omega
          go_wp2_with fail
          go_roundg (n - (k + 1))
          case measure => clear hr2; omega
          case rel => exact ⟨k + 1, by clear hr2; omega, by go_num, by unfold Hid; rw [HE.out]; exact HF.out, HB.out.trans HJ.out⟩
    · have hkI : ¬ (k : Int) < (n : Int) := by omega
      obtain rfl : k = n := by omega
      have HE : Hid (flat (rs.take k) = flat rs) := by unfold Hid; rw [List.take_of_length_le (by rw [HH.out.2.1]; exact Nat.le_refl _)]
      go_wp2_with fail
      go_ret2
      exact ⟨⟨_, rfl, by rw [← HE.out]; exact HO.out⟩, HB.out⟩
end Go.Proofs.Ytlohljefhcidkaa
