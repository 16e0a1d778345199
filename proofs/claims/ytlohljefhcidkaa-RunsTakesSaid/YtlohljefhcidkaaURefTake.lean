/-
  The contract of peristyleref10's Take.
-/
import Derived.Test.YtlohljefhcidkaaUTake
import Derived.Test.YtlohljefhcidkaaURefMay
import Derived.Test.YtlohljefhcidkaaVRefTake
namespace Go.Proofs.Ytlohljefhcidkaa
open Go.RowKit

theorem refTake_at (s : ByteArray) (u : Nat) {z : BitVec 64} {k e : Nat} (h : tk (s.data.toList.drop u) = (z, k, e)) (w : World) :
    Calls Try.prog 29 #[.string (s.extract u s.size)] w fun r w' => r = .returned (.tuple #[.int .i64 (zagW z).toInt, .int .i64 k, .int .i64 e]) ∧ Below w.heap.size w w' := by
  have := refTake_any (s.extract u s.size) w
  rw [extract_end, h] at this
  exact this

set_option maxRecDepth 4000 in
set_option maxHeartbeats 4000000 in
theorem refTake_bad (s : ByteArray) (n : Int) (h : n < 0 ∨ 65536 < n) (w : World) :
    Calls Try.prog 19 #[.string s, .int .i64 n] w fun e w' => e = .returned (.tuple #[.slice none 0 0, .int .i64 1]) ∧ Below w.heap.size w w' := by
  by_cases h1 : n < 0
  · clear h
    go_enter Try.func19, Try.ntmps19
    go_wp2
    go_ret2
    exact ⟨rfl, Below.refl _ _⟩
  · have h2 : 65536 < n := by omega
    clear h
    go_enter Try.func19, Try.ntmps19
    go_wp2
    go_ret2
    exact ⟨rfl, Below.refl _ _⟩

set_option maxRecDepth 4000 in
set_option maxHeartbeats 4000000 in
theorem refTakeRuns_any (s : ByteArray) (hs : s.size ≤ 1000000) (n : Int) (h0 : 0 ≤ n) (h1 : n ≤ 65536) (w : World) :
    Calls Try.prog 19 #[.string s, .int .i64 n] w (TookR w s.data.toList n) := by
  obtain ⟨S, hS⟩ : ∃ S, S = s.data.toList := ⟨_, rfl⟩
  rw [← hS]
  obtain ⟨i0, hi0, hz0, hz1, hz2⟩ := info_parts info_run
  have HI : Hid (Try.prog.info? 35 = some i0 ∧ i0.zero = some (.agg #[.int .i64 0, .int .i64 0, .int .i64 0]) ∧ i0.size = 3 ∧ i0.bytes = 24) := ⟨hi0, hz0, hz1, hz2⟩
  have hsl : s.size = s.data.toList.length := Lib.size_eq s
  rw [← hS] at hsl
  have HS : Hid (S = s.data.toList ∧ s.size = S.length) := ⟨hS, hsl⟩
  have hsI : (s.size : Int) ≤ 1000000 := by omega
  clear hi0 hz0 hz1 hz2 hS hs hsl
  go_enter Try.func19, Try.ntmps19
  go_wp2_with fail
  go_loopg [6, 7, 8] s.size (fun gg s6 s7 s8 wx => ∃ (A : Nat) (p : List Rn) (E : Int), s7 = .int .i64 A ∧ s8 = .int .i64 E ∧ A ≤ s.size ∧ s.size - A ≤ gg ∧ 0 ≤ E ∧ E ≤ n ∧ Hid (E = endR p ∧ Chain p ∧ S = encR p ++ S.drop A) ∧ Hid (SRows wx s6 35 3 (p.map rc) ∧ ∀ x, s6.ownBlock = some x → w.heap.size ≤ x) ∧ Hid (Below w.heap.size w wx))
  case atStart => exact ⟨0, [], 0, rfl, rfl, Nat.zero_le _, by omega, by omega, h0, ⟨rfl, chain_nil, by simp [encR]⟩, ⟨srows_nil _ _ _, noOwn _⟩, Below.refl _ _⟩
  case round =>
    obtain ⟨A, p, E, rfl, rfl, hA, hAg, hE0, hEn, HP, HR, HB⟩ := hrel
    obtain ⟨a6, c6, h6⟩ := srows_slice HR.out.1
    rw [List.length_map] at h6
    subst h6
    have hpl := chain_len HP.out.2.1
    by_cases hAs : A < s.size
    · have hAI : (A : Int) < (s.size : Int) := by omega
      have hne : S.drop A ≠ [] := by
        intro e
        have := congrArg List.length e
        rw [List.length_drop, ← HS.out.2] at this
        simp at this
        omega
      have hu1 : (0 : Int) ≤ (A : Int) ∧ (A : Int) ≤ (s.size : Int) := by omega
      have hu2 : (A : Int) ≤ (s.size : Int) := by omega
      by_cases htw : Two (S.drop A)
      · obtain ⟨x, y, q, hq⟩ := htw
        have hbx := enc1_bd x
        have hby := enc1_bd y
        have hql : s.size - A = (enc1 x).length + ((enc1 y).length + q.length) := by
          have := congrArg List.length hq
          rw [List.length_drop, ← HS.out.2, List.length_append, List.length_append] at this
          exact this
        have k1 : tk (s.data.toList.drop A) = (zigW x, (enc1 x).length, 0) := by rw [← HS.out.1, hq]; exact tk_enc x _
        have k2 : tk (s.data.toList.drop (A + (enc1 x).length)) = (zigW y, (enc1 y).length, 0) := by rw [← HS.out.1, ← List.drop_drop, hq, List.drop_left]; exact tk_enc y _
        have t1 := refTake_at s A k1
        have t2 := refTake_at s (A + (enc1 x).length) k2
        rw [zag_zig] at t1 t2
        have HQ : Hid (S.drop A = enc1 x ++ (enc1 y ++ q) ∧ S.drop (A + ((enc1 x).length + (enc1 y).length)) = q) := ⟨hq, by rw [← List.drop_drop, hq, ← List.append_assoc, ← List.length_append, List.drop_left]⟩
        generalize (enc1 x).length = L1 at *
        generalize (enc1 y).length = L2 at *
        obtain ⟨zx, hzx⟩ : ∃ z, z = x.toInt := ⟨_, rfl⟩
        obtain ⟨zy, hzy⟩ : ∃ z, z = y.toInt := ⟨_, rfl⟩
        rw [← hzx] at t1
        rw [← hzy] at t2
        have HXY : Hid (zx = x.toInt ∧ zy = y.toInt) := ⟨hzx, hzy⟩
        have hL : A + L1 + L2 ≤ s.size ∧ 1 ≤ L1 ∧ 1 ≤ L2 := by omega
        have hv1 : IntKind.i64.wrap ((A : Int) + (L1 : Int)) = ((A + L1 : Nat) : Int) := by rw [IntKind.wrap_i64]; omega
        have hv2 : IntKind.i64.wrap (((A + L1 : Nat) : Int) + (L2 : Int)) = ((A + L1 + L2 : Nat) : Int) := by rw [IntKind.wrap_i64]; omega
        have HNE : Hid (S.drop A ≠ []) := hne
        clear hq hbx hby hql k1 k2 hzx hzy hne
        go_wp2_with fail
        refine (t1 _).mono ?_
        rintro e w1 ⟨rfl, hb1⟩
        have HB1 : Hid (Below wr.heap.size wr w1) := hb1
        clear hb1 t1
        go_wp2_with fail
        refine (t2 _).mono ?_
        rintro e w2 ⟨rfl, hb2⟩
        have HB2 : Hid (Below wr.heap.size wr w2 ∧ Below w.heap.size w w2) := ⟨HB1.out.trans (hb2.mono HB1.out.size), HB.out.trans ((HB1.out.trans (hb2.mono HB1.out.size)).mono HB.out.size)⟩
        clear hb2 t2 HB1
        by_cases hc1 : zy < 1
        · have HN : Hid (¬ ∃ rs, IsRuns S n rs) := fun ⟨R, hR⟩ => by
            obtain ⟨x', y', q', e1, e2, _⟩ := hR.next HP.out.2.1 HP.out.2.2 HNE.out
            rw [HQ.out.1] at e1
            obtain ⟨rfl, e3⟩ := enc1_inj e1
            obtain ⟨rfl, _⟩ := enc1_inj e3
            have := e2.link.c1
            have := HXY.out.2
            simp only at *
            omega
          go_wp2_with fail
          go_ret2
          exact tookR_no HN.out HB2.out.2
        · by_cases hc2 : n - E < zy
          · have HN : Hid (¬ ∃ rs, IsRuns S n rs) := fun ⟨R, hR⟩ => by
              obtain ⟨x', y', q', e1, _, e2⟩ := hR.next HP.out.2.1 HP.out.2.2 HNE.out
              rw [HQ.out.1] at e1
              obtain ⟨rfl, e3⟩ := enc1_inj e1
              obtain ⟨rfl, _⟩ := enc1_inj e3
              have := HXY.out.2
              have := HP.out.1
              omega
            go_wp2_with fail
            go_ret2
            exact tookR_no HN.out HB2.out.2
          · have hzz : 1 ≤ zy ∧ zy ≤ n - E := by omega
            have hwE : IntKind.i64.wrap (E + zy) = E + zy := by rw [IntKind.wrap_i64]; omega
            have HLk : Hid (Link p ⟨x, E, zy⟩) := ⟨HP.out.1, hzz.1, by have := HP.out.1; simp only; omega⟩
            have HQ2 : Hid (E + zy = endR (p ++ [⟨x, E, zy⟩]) ∧ S = encR (p ++ [⟨x, E, zy⟩]) ++ S.drop (A + (L1 + L2))) := by
              refine ⟨by rw [endR_snoc], ?_⟩
              rw [HQ.out.2, encR_snoc, HXY.out.2, BitVec.ofInt_toInt]
              have e1 := HP.out.2.2
              rw [HQ.out.1] at e1
              simpa using e1
            have HV : Hid (SRows (w2.alloc (.cells #[.int .i64 zx, .int .i64 E, .int .i64 zy] 35)) (.slice a6 p.length c6) 35 3 (p.map rc) ∧ SRows (w2.alloc (.cells #[.int .i64 zx, .int .i64 E, .int .i64 zy] 35)) (.slice (some ⟨w2.heap.size, 0, none⟩) 1 1) 35 3 [rc ⟨x, E, zy⟩]) :=
              ⟨HR.out.1.of_block (fun k hk => (HB2.out.1.trans ((below1 w2 _).mono HB2.out.1.size)).block k (HR.out.1.lt hk)), by rw [HXY.out.1]; exact srows_new w2 (rc ⟨x, E, zy⟩) 35 (sz := 3) rfl⟩
            have HX : Hid ((p.map rc).length + [rc ⟨x, E, zy⟩].length = p.length + 1 ∧ p.map rc ++ [rc ⟨x, E, zy⟩] = (p ++ [(⟨x, E, zy⟩ : Rn)]).map rc ∧ p.length + 1 ≤ 1000000 ∧ w.heap.size ≤ (w2.alloc (.cells #[.int .i64 zx, .int .i64 E, .int .i64 zy] 35)).heap.size) :=
              ⟨by simp, by simp, by omega, by have := HB2.out.2.size; simp; omega⟩
            have hone := rc_one ⟨x, E, zy⟩
            go_wp2_with (at_builtin; refine append_rows rfl (.tmp 62) (.tmp 67) 24 35 i0 _ 3 24 rfl Try.underlying24 HI.out.1 HI.out.2.1 HI.out.2.2.1 HI.out.2.2.2 rfl (by decide) (by decide) rfl rfl HV.out.1 HV.out.2 HR.out.2 HX.out.2.2.2 hone (p.length + 1) HX.out.1 ((p ++ [(⟨x, E, zy⟩ : Rn)]).map rc) HX.out.2.1 HX.out.2.2.1 ?_; intro va vc w4 h1 h2 h3; have H4 : Hid (SRows w4 (.slice va (p.length + 1) vc) 35 3 ((p ++ [(⟨x, E, zy⟩ : Rn)]).map rc) ∧ ∀ k, (Value.slice va (p.length + 1) vc).ownBlock = some k → w.heap.size ≤ k) := ⟨h1, h2⟩; have HB4 : Hid (Below w.heap.size w w4) := (HB2.out.2.trans (belowOne _ HB2.out.2.size _)).trans h3; clear h1 h2 h3)
            go_roundg (s.size - (A + (L1 + L2)))
            case measure => clear hv1 hv2 hwE; omega
            case rel => exact ⟨A + (L1 + L2), p ++ [⟨x, E, zy⟩], E + zy, by go_num, rfl, by clear hv1 hv2 hwE; omega, Nat.le_refl _, by clear hv1 hv2 hwE; omega, by clear hv1 hv2 hwE; omega, ⟨HQ2.out.1, chain_snoc HP.out.2.1 HLk.out, HQ2.out.2⟩, H4, HB4⟩
      · have HN : Hid (¬ ∃ rs, IsRuns S n rs) := fun ⟨R, hR⟩ => by
          obtain ⟨x', y', q', e1, _, _⟩ := hR.next HP.out.2.1 HP.out.2.2 hne
          exact htw ⟨x', y', q', e1⟩
        rcases two_no htw with k1 | ⟨x, k1, hle, k2⟩
        · have k1' : tk (s.data.toList.drop A) = (0#64, 0, 20) := by rw [← HS.out.1]; exact k1
          have t1 := refTake_at s A k1'
          clear hne htw k1 k1'
          go_wp2_with fail
          refine (t1 _).mono ?_
          rintro e w1 ⟨rfl, hb1⟩
          have HB1 : Hid (Below w.heap.size w w1) := HB.out.trans (hb1.mono HB.out.size)
          clear hb1 t1
          go_wp2_with fail
          go_ret2
          exact tookR_no HN.out HB1.out
        · have k1' : tk (s.data.toList.drop A) = (zigW x, (enc1 x).length, 0) := by rw [← HS.out.1]; exact k1
          have k2' : tk (s.data.toList.drop (A + (enc1 x).length)) = (0#64, 0, 20) := by rw [← HS.out.1, ← List.drop_drop]; exact k2
          have t1 := refTake_at s A k1'
          have t2 := refTake_at s (A + (enc1 x).length) k2'
          have hb1 := enc1_bd x
          rw [List.length_drop, ← HS.out.2] at hle
          generalize (enc1 x).length = L1 at *
          have hL : A + L1 ≤ s.size ∧ L1 ≤ 10 := by omega
          have hv1 : IntKind.i64.wrap ((A : Int) + (L1 : Int)) = ((A + L1 : Nat) : Int) := by rw [IntKind.wrap_i64]; omega
          generalize (zagW (zigW x)).toInt = zx at *
          generalize (zagW 0#64).toInt = z0 at *
          clear hne htw k1 k1' k2 k2' hb1 hle
          go_wp2_with fail
          refine (t1 _).mono ?_
          rintro e w1 ⟨rfl, hb1⟩
          have HB1 : Hid (Below wr.heap.size wr w1) := hb1
          clear hb1 t1
          go_wp2_with fail
          refine (t2 _).mono ?_
          rintro e w2 ⟨rfl, hb2⟩
          have HB2 : Hid (Below w.heap.size w w2) := HB.out.trans ((HB1.out.trans (hb2.mono HB1.out.size)).mono HB.out.size)
          clear hb2 t2 HB1
          go_wp2_with fail
          go_ret2
          exact tookR_no HN.out HB2.out
    · have hAI : ¬ (A : Int) < (s.size : Int) := by omega
      have HT : Hid (S = encR p) := by
        have e1 := HP.out.2.2
        rw [List.drop_eq_nil_of_le (by rw [← HS.out.2]; omega), List.append_nil] at e1
        exact e1
      by_cases hen : E = n
      · have B1 : (E == n) = true := by simpa using hen
        obtain ⟨mb, hmb⟩ : ∃ mb : Bool, mb = true ↔ May p := by
          by_cases hm : May p
          · exact ⟨true, by simp [hm]⟩
          · exact ⟨false, by simp [hm]⟩
        have hmc := refMay_any (runs_of_srows HR.out.1) (by omega) mb hmb
        have HMB : Hid (mb = true ↔ May p) := hmb
        have HEN : Hid (endR p = n) := by unfold Hid; rw [← HP.out.1]; exact hen
        subst hen
        clear hmb
        cases mb with
        | true =>
          have HY : Hid (IsRuns S E p) := ⟨HMB.out.1 rfl, HT.out.symm, HEN.out⟩
          go_wp2_with (go_at_call 24; refine hmc.mono ?_; rintro e w1 ⟨rfl, hb1⟩; have HB1 : Hid (Below w.heap.size w w1 ∧ Below wr.heap.size wr w1) := ⟨HB.out.trans (hb1.mono HB.out.size), hb1⟩; clear hb1)
          go_ret2
          exact ⟨HB1.out.1, .inl ⟨p, _, rfl, (runs_of_srows HR.out.1).below HB1.out.2, HY.out⟩⟩
        | false =>
          have HN : Hid (¬ ∃ rs, IsRuns S E rs) := fun ⟨R, hR⟩ => by
            have := hR.same HP.out.2.1 HT.out
            subst this
            have := HMB.out.2 hR.may
            simp at this
          go_wp2_with (go_at_call 24; refine hmc.mono ?_; rintro e w1 ⟨rfl, hb1⟩; have HB1 : Hid (Below w.heap.size w w1) := HB.out.trans (hb1.mono HB.out.size); clear hb1)
          go_ret2
          exact tookR_no HN.out HB1.out
      · have B1 : (E == n) = false := by simpa using hen
        have B2 : (E != n) = true := by simpa using hen
        have HN : Hid (¬ ∃ rs, IsRuns S n rs) := fun ⟨R, hR⟩ => by
          have := hR.same HP.out.2.1 HT.out
          subst this
          exact hen (by rw [HP.out.1]; exact hR.all)
        clear hen
        go_wp2_with fail
        go_ret2
        exact tookR_no HN.out HB.out
end Go.Proofs.Ytlohljefhcidkaa
