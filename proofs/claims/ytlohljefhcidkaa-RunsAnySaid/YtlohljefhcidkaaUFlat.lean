/-
  The contract of package runs' Flat: the numbers of runs.
-/
import Derived.Test.YtlohljefhcidkaaUApp
namespace Go.Proofs.Ytlohljefhcidkaa
open Go.RowKit

theorem flat_step {rs : List Rn} {k : Nat} {r : Rn} (hr : rs[k]? = some r) : flat (rs.take (k + 1)) = flat (rs.take k) ++ List.replicate r.c.toNat r.v := by
  rw [take_succ_of hr, flat_snoc]

set_option maxRecDepth 4000 in
set_option maxHeartbeats 4000000 in
theorem flat_no {w : World} {v : Value} {rs : List Rn} (h : RunsIs w v rs) (hl : rs.length ≤ 1000000) (hm : ¬ May rs) :
    Calls Try.prog 9 #[v] w fun e w' => e = .returned (.tuple #[.slice none 0 0, .int .i64 1]) ∧ Below w.heap.size w w' := by
  have hmb := mayBe_any h hl false (by simp [hm])
  obtain ⟨a, n, cap, rfl, hn, hcap⟩ := h.slice
  clear h hm
  go_enter Try.func9, Try.ntmps9
  go_wp2_with (go_at_call 20; refine hmb.mono ?_; rintro e w1 ⟨rfl, hb1⟩)
  go_ret2
  exact ⟨rfl, hb1⟩
/-- What Flat answers for runs that may be. -/
def FlatAns (w : World) (rs : List Rn) (e : Ending) (w' : World) : Prop := (∃ v, e = .returned (.tuple #[v, .int .i64 0]) ∧ OwnsI w' w.heap.size v (flat rs)) ∧ Below w.heap.size w w'

set_option maxRecDepth 4000 in
set_option maxHeartbeats 4000000 in
theorem flat_yes {w : World} {v : Value} {rs : List Rn} (h : RunsIs w v rs) (hm : May rs) :
    Calls Try.prog 9 #[v] w (FlatAns w rs) := by
  have hlen := chain_len hm.chain
  have hmb := mayBe_any h (by omega) true (by simp [hm])
  have hce := fun W (hW : Below w.heap.size w W) => end_any (h.below hW) hm.chain
  have hEb := end_bd hm.chain
  have hfl := flat_len hm.chain
  obtain ⟨E, hE⟩ : ∃ E : Nat, endR rs = (E : Int) := ⟨(endR rs).toNat, by omega⟩
  rw [hE] at hEb hfl
  rw [hE] at hce
  obtain ⟨a, n, cap, rfl, hn, hcap⟩ := h.slice
  have hn1 : (n : Int) ≤ 65536 := by omega
  have hE1 : E ≤ 65536 := by omega
  have HH : Hid (RunsIs w (.slice a n cap) rs ∧ rs.length = n ∧ May rs ∧ (flat rs).length = E) := ⟨h, hn, hm, by omega⟩
  clear h hm hn hlen hEb hfl hE
  go_enter Try.func9, Try.ntmps9
  go_wp2_with (first
    | (go_at_call 20; refine hmb.mono ?_; rintro e w1 ⟨rfl, hb1⟩)
    | (go_at_call 21; refine (hce _ hb1).mono ?_; rintro e w2 ⟨rfl, hb2⟩; have HB2 : Hid (Below w.heap.size w w2) := hb1.trans (hb2.mono hb1.size); clear hb1 hb2)
    | (refine make_i64 rfl _ _ rfl rfl rfl rfl (Nat.le_trans hE1 (by decide)) HB2.out.size ?_; intro v3 w3 h3 hb3; have HO3 : Hid (OwnsI w3 w.heap.size v3 []) := h3; have HB3 : Hid (Below w.heap.size w w3) := HB2.out.trans hb3; clear h3 hb3))
  go_loopg [4, 15] n (fun gg s4 s15 wx => ∃ k : Nat, k + gg = n ∧ s15 = .int .i64 k ∧ Hid (OwnsI wx w.heap.size s4 (flat (rs.take k))) ∧ Hid (Below w.heap.size w wx))
  case atStart => exact ⟨0, by omega, rfl, HO3, HB3⟩
  case round =>
    obtain ⟨k, hkg, rfl, HO, HB⟩ := hrel
    clear hmb hce HO3 HB3 HB2
    by_cases hk : k < n
    · have hkI : (k : Int) < (n : Int) := by omega
      obtain ⟨r, hr⟩ : ∃ r, rs[k]? = some r := ⟨_, List.getElem?_eq_getElem (by have := HH.out.2.1; omega)⟩
      obtain ⟨bb, off, rfl, hall⟩ := (HH.out.1.below HB.out).some (by rintro rfl; simp at hr)
      have hra := hall k r hr
      have q0 := hra.c0
      have q1 := hra.c1
      have q2 := hra.c2
      have hlt := hra.lt
      have hrb := run_bd HH.out.2.2.1.chain hr
      obtain ⟨C, hC⟩ : ∃ C : Nat, r.c = (C : Int) := ⟨r.c.toNat, by omega⟩
      have HE : Hid (flat (rs.take (k + 1)) = flat (rs.take k) ++ List.replicate C r.v) := by unfold Hid; rw [flat_step hr, hC]; rfl
      have hl0 : (flat (rs.take k)).length + C ≤ 65536 := by
        have h1 := flat_take_len HH.out.2.2.1.chain k (by have := HH.out.2.1; omega)
        have h2 := hrb.2.2.2.2.2.1
        omega
      rw [hC] at q2
      have hC1 : (C : Int) ≤ 65536 := by omega
      have hr2 : IntKind.i64.wrap ((k : Int) + 1) = (k : Int) + 1 := by rw [IntKind.wrap_i64]; omega
      generalize flat (rs.take k) = l at *
      generalize r.f = f at *
      obtain ⟨x, hx⟩ : ∃ x, x = r.v := ⟨_, rfl⟩
      rw [← hx] at HE q0
      clear hra hall hr hrb hx hC
      obtain ⟨z, hz⟩ : ∃ z, z = x.toInt := ⟨_, rfl⟩
      rw [← hz] at q0
      have HZ : Hid (z = x.toInt) := hz
      clear hz
      go_wp2_with fail
      generalize hW : wr.alloc (.cells #[.int .i64 z, .int .i64 f, .int .i64 C] 35) = W
      have HS : Hid (FlatSt w W wr.heap.size z f C u4 l) := by
        unfold Hid
        rw [← hW]
        exact ⟨HO.out.below (below1 _ _), box_new _ _ _, HB.out.trans ((below1 _ _).mono HB.out.size)⟩
      clear hW q0 q1 q2 HO HB
      generalize wr.heap.size = g at *
      go_loopg [4, 21] C (fun gj s4 s21 wx => ∃ i : Nat, i + gj = C ∧ s21 = .int .i64 i ∧ Hid (FlatSt w wx g z f C s4 (l ++ List.replicate i x)))
      case atStart => exact ⟨0, by omega, rfl, by unfold Hid; rw [List.replicate_zero, List.append_nil]; exact HS.out⟩
      case round =>
        obtain ⟨i, hig, rfl, HF⟩ := hrel
        clear HS
        by_cases hi : i < C
        · have hiI : (i : Int) < (C : Int) := by omega
          have b0 := HF.out.box.cell 0 _ rfl
          have HL : Hid ((l ++ List.replicate i x).length + 1 ≤ 1000000 ∧ l ++ List.replicate i x ++ [x] = l ++ List.replicate (i + 1) x) := ⟨by simp; omega, by rw [List.append_assoc, List.replicate_succ']⟩
          have hr3 : IntKind.i64.wrap ((i : Int) + 1) = (i : Int) + 1 := by rw [IntKind.wrap_i64]; omega
          generalize l ++ List.replicate i x = y at *
          go_wp2_with (at_builtin; refine append_i64k rfl (.tmp 23) (.tmp 26) rfl rfl rfl HZ.out HF.out.own HF.out.below.size HL.out.1 ?_; intro v5 w5 o5 k5; have HS5 : Hid (FlatSt w w5 g z f C v5 (y ++ [x])) := HF.out.app k5 o5; clear o5 k5)
          go_roundg (C - (i + 1))
          case measure => clear hr2 hr3; omega
          case rel => exact ⟨i + 1, by clear hr2 hr3; omega, by go_num, by unfold Hid; rw [← HL.out.2]; exact HS5.out⟩
        · have hiI : ¬ (i : Int) < (C : Int) := by omega
          obtain rfl : i = C := by omega
          go_wp2_with fail
          go_roundg (n - (k + 1))
          case measure => clear hr2; omega
          case rel => exact ⟨k + 1, by clear hr2; omega, by go_num, by unfold Hid; rw [HE.out]; exact HF.out.own, HF.out.below⟩
    · have hkI : ¬ (k : Int) < (n : Int) := by omega
      obtain rfl : k = n := by omega
      have HE : Hid (flat (rs.take k) = flat rs) := by unfold Hid; rw [List.take_of_length_le (by rw [HH.out.2.1]; exact Nat.le_refl _)]
      go_wp2_with fail
      go_ret2
      exact ⟨⟨_, rfl, by rw [← HE.out]; exact HO.out⟩, HB.out⟩
end Go.Proofs.Ytlohljefhcidkaa
