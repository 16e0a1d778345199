/-
  The contract of peristyleref10's May.
-/
import Derived.Test.YtlohljefhcidkaaUMay
namespace Go.Proofs.Ytlohljefhcidkaa
open Go.RowKit

set_option maxRecDepth 4000 in
set_option maxHeartbeats 4000000 in
theorem refMay_any {w : World} {v : Value} {rs : List Rn} (h : RunsIs w v rs) (hl : rs.length ≤ 1000000) (b : Bool) (hb : b = true ↔ May rs) :
    Calls Try.prog 24 #[v] w fun e w' => e = .returned (.bool b) ∧ Below w.heap.size w w' := by
  obtain ⟨a, n, cap, rfl, hn, hcap⟩ := h.slice
  have hn1 : (n : Int) ≤ 1000000 := by omega
  have HH : Hid (RunsIs w (.slice a n cap) rs ∧ rs.length = n ∧ (b = true ↔ May rs)) := ⟨h, hn, hb⟩
  clear h hl hb hn
  go_enter Try.func24, Try.ntmps24
  go_wp2_with fail
  go_loopg [3, 4] n (fun gg s3 s4 wx => ∃ k : Nat, k + gg = n ∧ s4 = .int .i64 k ∧ s3 = .int .i64 (endR (rs.take k)) ∧ Hid (May (rs.take k)) ∧ Hid (Below w.heap.size w wx))
  case atStart => exact ⟨0, by omega, rfl, by rw [List.take_zero]; rfl, by unfold Hid; rw [List.take_zero]; exact may_nil, Below.refl _ _⟩
  case round =>
    obtain ⟨k, hkg, rfl, rfl, HM, HB⟩ := hrel
    by_cases hk : k < n
    · have hkI : (k : Int) < (n : Int) := by omega
      obtain ⟨r, hr⟩ : ∃ r, rs[k]? = some r := ⟨_, List.getElem?_eq_getElem (by have := HH.out.2.1; omega)⟩
      obtain ⟨bb, off, rfl, hall⟩ := (HH.out.1.below HB.out).some (by rintro rfl; simp at hr)
      have hra := hall k r hr
      have q0 := hra.c0
      have q1 := hra.c1
      have q2 := hra.c2
      have hr2 : IntKind.i64.wrap ((k : Int) + 1) = (k : Int) + 1 := by rw [IntKind.wrap_i64]; omega
      have HS : Hid (Fol (rs.take k) r → endR (rs.take (k + 1)) = endR (rs.take k) + r.c) := fun hf => by rw [take_succ_of hr, endR_snoc, hf.link.f]
      have HR : Hid (rs[k]? = some r) := hr
      have hEb := end_bd HM.out.chain
      have hlk : ∀ f c : Int, f = r.f → c = r.c → Link (rs.take k) r = (f = endR (rs.take k) ∧ 1 ≤ c ∧ c ≤ 65536 - endR (rs.take k)) := fun f c hf hc => by
        subst hf hc
        exact propext ⟨fun h => ⟨h.f, h.c1, h.c2⟩, fun ⟨a, b, c⟩ => ⟨a, b, c⟩⟩
      obtain ⟨f, hf⟩ : ∃ f, f = r.f := ⟨_, rfl⟩
      obtain ⟨c, hc⟩ : ∃ c, c = r.c := ⟨_, rfl⟩
      obtain ⟨z, hz⟩ : ∃ z, z = r.v.toInt := ⟨_, rfl⟩
      have hlk := hlk f c hf hc
      rw [← hf] at q1
      rw [← hc] at q2 HS
      rw [← hz] at q0
      have HZ : Hid (z = r.v.toInt) := hz
      have hlast : ∀ m : Nat, k = m + 1 → ∃ t : Rn, rs[m]? = some t ∧ (rs.take k).getLast? = some t ∧ wr.cell? ⟨bb, off + m * 3, none⟩ = some (.int .i64 t.v.toInt) := fun m hm => by
        obtain ⟨t, ht⟩ : ∃ t, rs[m]? = some t := ⟨_, List.getElem?_eq_getElem (by have := HH.out.2.1; omega)⟩
        refine ⟨t, ht, ?_, (hall m t ht).c0⟩
        subst hm
        rw [take_succ_of ht]; simp
      have hk0 : k = 0 → (rs.take k).getLast? = none := fun h => by subst h; simp
      obtain ⟨E, hE⟩ : ∃ E, E = endR (rs.take k) := ⟨_, rfl⟩
      rw [← hE] at HS hlk hEb
      rw [← hE]
      have hEb2 : 0 ≤ E ∧ E ≤ 65536 := by omega
      clear hra hall hr hf hc hz hEb hE
      by_cases hL : Link (rs.take k) r
      · have hL2 := hL
        rw [hlk] at hL2
        obtain ⟨l1, l2, l3⟩ := hL2
        have B1 : (f == E) = true := by simpa using l1
        have B2 : decide (c < 1) = false := by simp; omega
        have B3 : decide (65536 - E < c) = false := by simp; omega
        have hw : IntKind.i64.wrap (E + c) = E + c := by rw [IntKind.wrap_i64]; omega
        have HL : Hid (Link (rs.take k) r) := hL
        have hc2 : 1 ≤ c ∧ E + c ≤ 65536 := by omega
        clear hL hlk
        cases k with
        | zero =>
          have HF : Hid (Fol (rs.take 0) r) := ⟨HL.out, fun q hq => by rw [hk0 rfl] at hq; cases hq⟩
          clear hlast hk0
          subst l1
          clear B1
          go_wp2_with fail
          go_quiet (fail)
          go_wp2_with fail
          go_roundg (n - 1)
          case measure => clear hr2; omega
          case rel => exact ⟨1, by clear hr2; omega, rfl, by rw [HS.out HF.out], may_next HM.out HR.out HF.out, ⟨HB.out.os, HB.out.tape, HB.out.output, HB.out.size, HB.out.block⟩⟩
        | succ m =>
          obtain ⟨t, ht1, ht2, ht3⟩ := hlast m rfl
          have hm1 : (m : Int) ≤ 1000000 := by omega
          obtain ⟨y, hy⟩ : ∃ y, y = t.v.toInt := ⟨_, rfl⟩
          rw [← hy] at ht3
          subst l1
          by_cases hv : z = y
          · have HN : Hid (¬ Fol (rs.take (m + 1)) r) := fun h => h.diff t ht2 (BitVec.toInt_inj.1 (by rw [← hy, ← hv, HZ.out]))
            have B4 : (z == y) = true := by simpa using hv
            clear hlast hk0 ht1 ht2 hy hv B1
            go_wp2_with fail
            go_quiet (fail)
            go_wp2_with fail
            go_ret
            exact ⟨may_no HH.out.2.2 (fun h => HN.out (h _ r HR.out)), ⟨HB.out.os, HB.out.tape, HB.out.output, HB.out.size, HB.out.block⟩⟩
          · have HF : Hid (Fol (rs.take (m + 1)) r) := ⟨HL.out, fun q hq e => by rw [ht2] at hq; cases hq; exact hv (by rw [hy, e, HZ.out])⟩
            have B4 : (z == y) = false := by simpa using hv
            clear hlast hk0 ht1 ht2 hy hv B1
            go_wp2_with fail
            go_quiet (fail)
            go_wp2_with fail
            go_roundg (n - (m + 2))
            case measure => clear hr2; omega
            case rel => exact ⟨m + 2, by clear hr2; omega, by go_num, by rw [HS.out HF.out], may_next HM.out HR.out HF.out, ⟨HB.out.os, HB.out.tape, HB.out.output, HB.out.size, HB.out.block⟩⟩
      · have HN : Hid (¬ Fol (rs.take k) r) := fun h => hL h.link
        rw [hlk] at hL
        by_cases g1 : f = E
        · subst g1
          by_cases g2 : c < 1
          · have B2 : decide (c < 1) = true := by simpa using g2
            clear hL hlk hlast hk0
            go_wp2_with fail
            go_quiet (fail)
            go_wp2_with fail
            go_ret
            exact ⟨may_no HH.out.2.2 (fun h => HN.out (h _ r HR.out)), ⟨HB.out.os, HB.out.tape, HB.out.output, HB.out.size, HB.out.block⟩⟩
          · have B2 : decide (c < 1) = false := by simpa using g2
            have B3 : decide (65536 - f < c) = true := by simp; omega
            clear hL hlk hlast hk0
            go_wp2_with fail
            go_quiet (fail)
            go_wp2_with fail
            go_ret
            exact ⟨may_no HH.out.2.2 (fun h => HN.out (h _ r HR.out)), ⟨HB.out.os, HB.out.tape, HB.out.output, HB.out.size, HB.out.block⟩⟩
        · have B0 : (f == E) = false := by simpa using g1
          have B1 : (f != E) = true := by simpa using g1
          clear g1
          clear hL hlk hlast hk0
          go_wp2_with fail
          go_quiet (fail)
          go_wp2_with fail
          go_ret
          exact ⟨may_no HH.out.2.2 (fun h => HN.out (h _ r HR.out)), ⟨HB.out.os, HB.out.tape, HB.out.output, HB.out.size, HB.out.block⟩⟩
    · have hkI : ¬ (k : Int) < (n : Int) := by omega
      obtain rfl : k = n := by omega
      go_wp2_with fail
      go_ret
      exact ⟨may_yes HH.out.2.2 (by have := HM.out; rwa [List.take_of_length_le (by rw [HH.out.2.1]; exact Nat.le_refl _)] at this), HB.out⟩
end Go.Proofs.Ytlohljefhcidkaa
