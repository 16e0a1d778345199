/-
  The contract of package runs' mayBe: whether runs may be.
-/
import Derived.Test.YtlohljefhcidkaaUFol
namespace Go.Proofs.Ytlohljefhcidkaa
open Go.RowKit

theorem may_no {b : Bool} {rs : List Rn} (hb : b = true ↔ May rs) (h : ¬ May rs) : Ending.returned (.bool false) = .returned (.bool b) := by
  cases b with
  | false => rfl
  | true => exact absurd (hb.1 rfl) h
theorem may_yes {b : Bool} {rs : List Rn} (hb : b = true ↔ May rs) (h : May rs) : Ending.returned (.bool true) = .returned (.bool b) := by rw [hb.2 h]
theorem may_next {rs : List Rn} {k : Nat} {r : Rn} (h : May (rs.take k)) (hr : rs[k]? = some r) (hf : Fol (rs.take k) r) : May (rs.take (k + 1)) := by
  rw [take_succ_of hr]; exact may_snoc h hf

set_option maxRecDepth 4000 in
set_option maxHeartbeats 4000000 in
theorem mayBe_any {w : World} {v : Value} {rs : List Rn} (h : RunsIs w v rs) (hl : rs.length ≤ 1000000) (b : Bool) (hb : b = true ↔ May rs) :
    Calls Try.prog 20 #[v] w fun e w' => e = .returned (.bool b) ∧ Below w.heap.size w w' := by
  obtain ⟨a, n, cap, rfl, hn, hcap⟩ := h.slice
  have hn1 : (n : Int) ≤ 1000000 := by omega
  have HH : Hid (RunsIs w (.slice a n cap) rs ∧ rs.length = n ∧ (b = true ↔ May rs)) := ⟨h, hn, hb⟩
  clear h hl hb hn
  go_enter Try.func20, Try.ntmps20
  go_wp2_with fail
  go_loopg [7] n (fun gg s7 wx => ∃ k : Nat, k + gg = n ∧ s7 = .int .i64 k ∧ Hid (May (rs.take k)) ∧ Hid (Below w.heap.size w wx))
  case atStart => exact ⟨0, by omega, rfl, by unfold Hid; rw [List.take_zero]; exact may_nil, Below.refl _ _⟩
  case round =>
    obtain ⟨k, hkg, rfl, HM, HB⟩ := hrel
    by_cases hk : k < n
    · have hkI : (k : Int) < (n : Int) := by omega
      obtain ⟨r, hr⟩ : ∃ r, rs[k]? = some r := ⟨_, List.getElem?_eq_getElem (by have := HH.out.2.1; omega)⟩
      obtain ⟨bb, off, rfl, hall⟩ := (HH.out.1.below HB.out).some (by rintro rfl; simp at hr)
      have hra := hall k r hr
      have q0 := hra.c0
      have q1 := hra.c1
      have q2 := hra.c2
      have hlt := hra.lt
      obtain ⟨fb, hfb⟩ : ∃ fb : Bool, fb = true ↔ Fol (rs.take k) r := by
        by_cases hf : Fol (rs.take k) r
        · exact ⟨true, by simp [hf]⟩
        · exact ⟨false, by simp [hf]⟩
      have HF : Hid (∀ W, Below wr.heap.size wr W → Calls Try.prog 28 #[.slice (some ⟨bb, off, none⟩) k cap, .agg #[.int .i64 r.v.toInt, .int .i64 r.f, .int .i64 r.c]] W fun e w' => e = .returned (.bool fb) ∧ Below W.heap.size W w') := fun W hW =>
        follows_any (((HH.out.1.below HB.out).below hW).take (by omega)) (HM.out.chain) r fb hfb
      have HR : Hid (rs[k]? = some r ∧ (fb = true ↔ Fol (rs.take k) r)) := ⟨hr, hfb⟩
      have hkc : (0 : Int) ≤ (k : Int) ∧ (k : Int) ≤ (cap : Int) := by omega
      have hr2 : IntKind.i64.wrap ((k : Int) + 1) = (k : Int) + 1 := by rw [IntKind.wrap_i64]; omega
      generalize r.f = f at q1 HF
      generalize r.c = c at q2 HF
      generalize r.v.toInt = z at q0 HF
      clear hra hall hfb hr
      go_wp2_with fail
      generalize hW : wr.alloc (.cells #[.int .i64 z, .int .i64 f, .int .i64 c] 35) = W
      have hbx : Box W wr.heap.size 35 #[.int .i64 z, .int .i64 f, .int .i64 c] := by rw [← hW]; exact box_new _ _ _
      have hbw : Below wr.heap.size wr W := by rw [← hW]; exact below1 _ _
      clear hW
      have HBW : Hid (Below wr.heap.size wr W) := hbw
      generalize hg : wr.heap.size = g at hbx
      have e0 := above_cell (hbx.cell 0 _ rfl)
      have e1 := above_cell (hbx.cell 1 _ rfl)
      have e2 := above_cell (hbx.cell 2 _ rfl)
      have hce : ∀ q : Above W, Calls Try.prog 28 #[.slice (some ⟨bb, off, none⟩) k cap, .agg #[.int .i64 z, .int .i64 f, .int .i64 c]] q.it fun e w' => e = .returned (.bool fb) ∧ Below q.it.heap.size q.it w' := fun q => HF.out q.it (hbw.trans (q.is.mono hbw.size))
      clear hbx hbw q0 q1 q2
      refine wp_region_above (by kernel_rfl) (by kernel_rfl) ?_
      intro hne
      repeat (go_big_quiet_step (first | (go_at_call 28; exact above_of (hce _))))
      refine wpQuiet_nil ?_
      rintro _ ⟨kq, rfl⟩
      have HB2 : Hid (Below w.heap.size w kq.it) := HB.out.trans ((HBW.out.trans (kq.is.mono HBW.out.size)).mono HB.out.size)
      cases fb with
      | false =>
        go_wp2_with fail
        go_ret
        exact ⟨may_no HH.out.2.2 (fun h => by have := HR.out.2.2 (h k r HR.out.1); simp at this), HB2.out⟩
      | true =>
        go_wp2_with fail
        go_roundg (n - (k + 1))
        case measure => clear hr2; omega
        case rel => exact ⟨k + 1, by clear hr2; omega, by go_num, may_next HM.out HR.out.1 (HR.out.2.1 (by trivial)), HB2⟩
    · have hkI : ¬ (k : Int) < (n : Int) := by omega
      obtain rfl : k = n := by omega
      go_wp2_with fail
      go_ret
      exact ⟨may_yes HH.out.2.2 (by have := HM.out; rwa [List.take_of_length_le (by rw [HH.out.2.1]; exact Nat.le_refl _)] at this), HB.out⟩
end Go.Proofs.Ytlohljefhcidkaa
