/-
  The contract of peristyleref10's Of.
-/
import Derived.Test.YtlohljefhcidkaaUOf
namespace Go.Proofs.Ytlohljefhcidkaa
open Go.RowKit

set_option maxRecDepth 4000 in
set_option maxHeartbeats 4000000 in
theorem refRunsOf_row (w : World) (b off cap : Nat) (l : List (BitVec 64)) (hl : l.length ≤ 65536)
    (hcell : ∀ i, i < l.length → w.cell? ⟨b, off + i, none⟩ = some (.int .i64 (l.getD i 0#64).toInt)) :
    Calls Try.prog 12 #[.slice (some ⟨b, off, none⟩) l.length cap] w (OfAns w l) := by
  obtain ⟨n, hn⟩ : ∃ n, n = l.length := ⟨_, rfl⟩
  rw [← hn]
  have hn1 : (n : Int) ≤ 65536 := by omega
  have HN : Hid (n = l.length) := hn
  have HC : Hid (∀ i, i < n → w.cell? ⟨b, off + i, none⟩ = some (.int .i64 (l.getD i 0#64).toInt)) := by unfold Hid; rw [hn]; exact hcell
  obtain ⟨i0, hi0, hz0, hz1, hz2⟩ := info_parts info_run
  have HI : Hid (Try.prog.info? 35 = some i0 ∧ i0.zero = some (.agg #[.int .i64 0, .int .i64 0, .int .i64 0]) ∧ i0.size = 3 ∧ i0.bytes = 24) := ⟨hi0, hz0, hz1, hz2⟩
  clear hn hl hcell hi0 hz0 hz1 hz2
  go_enter Try.func12, Try.ntmps12
  go_wp2_with fail
  go_loopg [3, 4] n (fun gg s3 s4 wx => ∃ k : Nat, k + gg = n ∧ s4 = .int .i64 k ∧ Hid (SRows wx s3 35 3 ((ofP l k).map rc) ∧ ∀ x, s3.ownBlock = some x → w.heap.size ≤ x) ∧ Hid (Below w.heap.size w wx))
  case atStart => exact ⟨0, by omega, rfl, ⟨srows_nil _ _ _, noOwn _⟩, Below.refl _ _⟩
  case round =>
    obtain ⟨k, hkg, rfl, HS, HB⟩ := hrel
    by_cases hk : k < n
    · have hkI : (k : Int) < (n : Int) := by omega
      have hcell : wr.cell? ⟨b, off + k, none⟩ = some (.int .i64 (l.getD k 0#64).toInt) := (HB.out.cell (p := ⟨b, off + k, none⟩) (World.block_lt_of_cell? w _ (HC.out k hk))).trans (HC.out k hk)
      obtain ⟨x, hx⟩ : ∃ x, x = l.getD k 0#64 := ⟨_, rfl⟩
      obtain ⟨z, hz⟩ : ∃ z, z = x.toInt := ⟨_, rfl⟩
      rw [← hx, ← hz] at hcell
      have hO := of_is l k (by rw [← HN.out]; omega) (by omega)
      have hlen := ofP_len l k
      have hr2 : IntKind.i64.wrap ((k : Int) + 1) = (k : Int) + 1 := by rw [IntKind.wrap_i64]; omega
      obtain ⟨R, hR⟩ : ∃ R, R = ofP l k := ⟨_, rfl⟩
      rw [← hR] at HS hlen
      obtain ⟨a3, c3, h3⟩ := srows_slice HS.out.1
      rw [List.length_map] at h3
      subst h3
      have HZ : Hid (z = x.toInt) := hz
      have hqm : (R.length : Int) ≤ 65536 := by omega
      cases k with
      | zero =>
          rw [Nat.add_zero] at hcell
          have HE : Hid (ofP l (0 + 1) = R ++ [⟨x, 0, 1⟩]) := by unfold Hid; rw [ofP_new (.inl rfl), hR, hx]; rfl
          clear hR hx hz hO
          go_wp2_with fail
          go_quiet (fail)
          obtain ⟨W, hW⟩ : ∃ W, W = wr.drewN nq := ⟨_, rfl⟩
          rw [← hW]
          have HSW : Hid (SRows W (.slice a3 R.length c3) 35 3 (R.map rc) ∧ ∀ x, (Value.slice a3 R.length c3).ownBlock = some x → w.heap.size ≤ x) := by unfold Hid; rw [hW]; exact HS.out
          have HBW : Hid (Below w.heap.size w W) := by unfold Hid; rw [hW]; exact ⟨HB.out.os, HB.out.tape, HB.out.output, HB.out.size, HB.out.block⟩
          have hcW : W.cell? ⟨b, off, none⟩ = some (.int .i64 z) := by rw [hW]; exact hcell
          clear hW hcell HS HB
          have HV : Hid (SRows (W.alloc (.cells #[.int .i64 z, .int .i64 0, .int .i64 1] 35)) (.slice a3 R.length c3) 35 3 (R.map rc) ∧ SRows (W.alloc (.cells #[.int .i64 z, .int .i64 0, .int .i64 1] 35)) (.slice (some ⟨W.heap.size, 0, none⟩) 1 1) 35 3 [rc ⟨x, 0, 1⟩]) :=
            ⟨HSW.out.1.of_block (fun y hy => (below1 W _).block y (HSW.out.1.lt hy)), by rw [HZ.out]; exact srows_new W (rc ⟨x, 0, 1⟩) 35 (sz := 3) rfl⟩
          have HX : Hid ((R.map rc).length + [rc ⟨x, 0, 1⟩].length = R.length + 1 ∧ R.map rc ++ [rc ⟨x, 0, 1⟩] = (R ++ [(⟨x, 0, 1⟩ : Rn)]).map rc ∧ R.length + 1 ≤ 1000000 ∧ w.heap.size ≤ (W.alloc (.cells #[.int .i64 z, .int .i64 0, .int .i64 1] 35)).heap.size) :=
            ⟨by simp, by simp, by omega, by have := HBW.out.size; simp; omega⟩
          have hone := rc_one ⟨x, 0, 1⟩
          go_wp2_with (at_builtin; refine append_rows rfl (.tmp 40) (.tmp 47) 24 35 i0 _ 3 24 rfl Try.underlying24 HI.out.1 HI.out.2.1 HI.out.2.2.1 HI.out.2.2.2 rfl (by decide) (by decide) rfl rfl HV.out.1 HV.out.2 HSW.out.2 HX.out.2.2.2 hone (R.length + 1) HX.out.1 ((R ++ [(⟨x, 0, 1⟩ : Rn)]).map rc) HX.out.2.1 HX.out.2.2.1 ?_; intro va vc w4 h1 h2 h3; have H4 : Hid (SRows w4 (.slice va (R.length + 1) vc) 35 3 ((R ++ [(⟨x, 0, 1⟩ : Rn)]).map rc) ∧ ∀ k, (Value.slice va (R.length + 1) vc).ownBlock = some k → w.heap.size ≤ k) := ⟨h1, h2⟩; have HB4 : Hid (Below w.heap.size w w4) := (HBW.out.trans (belowOne _ HBW.out.size _)).trans h3; clear h1 h2 h3)
          go_roundg (n - (1))
          case measure => clear hr2; omega
          case rel => exact ⟨1, by clear hr2; omega, by go_num, ⟨by rw [HE.out]; exact H4.out.1, H4.out.2⟩, HB4⟩
      | succ m =>
        have hmI : (m : Int) ≤ 65536 := by omega
        have hcell2 : wr.cell? ⟨b, off + m, none⟩ = some (.int .i64 (l.getD m 0#64).toInt) := (HB.out.cell (p := ⟨b, off + m, none⟩) (World.block_lt_of_cell? w _ (HC.out m (by omega)))).trans (HC.out m (by omega))
        obtain ⟨y, hy⟩ : ∃ y, y = (l.getD m 0#64).toInt := ⟨_, rfl⟩
        rw [← hy] at hcell2
        by_cases hzy : z = y
        · have hon : l.getD (m + 1) 0#64 = l.getD m 0#64 := BitVec.toInt_inj.1 (by rw [← hy, ← hzy, hz, hx])
          have B1 : (z == y) = true := by simpa using hzy
          obtain ⟨p, r, hp, hv⟩ := hO.last (by omega)
          have HE : Hid (ofP l (m + 1 + 1) = p ++ [⟨r.v, r.f, r.c + 1⟩]) := by unfold Hid; rw [ofP_on (by omega) hon, hp, bump_snoc]
          have hm := hO.may
          rw [hp] at hm
          have hrb := run_bd hm.chain (k := p.length) (r := r) (by simp)
          have hcc : 1 ≤ r.c ∧ r.c ≤ 65536 := ⟨hrb.2.1, hrb.2.2.1⟩
          have HP : Hid (R = p ++ [r]) := by unfold Hid; rw [hR, hp]
          clear hR hx hz hO hon hy hzy hp hv hm hrb
          go_wp2_with fail
          go_quiet (fail)
          obtain ⟨W, hW⟩ : ∃ W, W = wr.drewN nq := ⟨_, rfl⟩
          rw [← hW]
          have HSW : Hid (SRows W (.slice a3 R.length c3) 35 3 (R.map rc) ∧ ∀ x, (Value.slice a3 R.length c3).ownBlock = some x → w.heap.size ≤ x) := by unfold Hid; rw [hW]; exact HS.out
          have HBW : Hid (Below w.heap.size w W) := by unfold Hid; rw [hW]; exact ⟨HB.out.os, HB.out.tape, HB.out.output, HB.out.size, HB.out.block⟩
          have hcW : W.cell? ⟨b, off + (m + 1), none⟩ = some (.int .i64 z) := by rw [hW]; exact hcell
          clear hW hcell HS HB
          obtain ⟨hS, hown⟩ := HSW.out
          clear HSW
          have hP := HP.out
          subst hP
          clear HP
          rw [List.length_append, List.length_singleton] at hS hown hlen hqm
          rw [List.length_append, List.length_singleton]
          obtain ⟨g, rfl, hg, g1, g2, g3⟩ := bump_at hS rfl rfl
          have hwc : IntKind.i64.wrap (r.c + 1) = r.c + 1 := by rw [IntKind.wrap_i64]; omega
          have HO : Hid (w.heap.size ≤ g) := hown g rfl
          have hpm : (p.length : Int) ≤ 65536 := by omega
          clear hS hown
          generalize p.length = q at *
          have HG : Hid (∀ u : Int, SRows (W.setCell ⟨g, q * 3 + 2, none⟩ (.int .i64 u)) (.slice (some ⟨g, 0, none⟩) (q + 1) c3) 35 3 ((p ++ [(⟨r.v, r.f, u⟩ : Rn)]).map rc)) := g3
          clear g3
          generalize hc : r.c = c at *
          clear hc
          go_wp2_with fail
          go_roundg (n - (m + 2))
          case measure => clear hr2; omega
          case rel => exact ⟨m + 2, by clear hr2; omega, by go_num, ⟨by rw [HE.out]; exact HG.out _, fun x hx => by simp [Value.ownBlock] at hx; subst hx; exact HO.out⟩, HBW.out.setCell HO.out _⟩
        · have hne : l.getD (m + 1) 0#64 ≠ l.getD m 0#64 := fun e => hzy (by rw [hz, hx, hy, e])
          have HE : Hid (ofP l (m + 1 + 1) = R ++ [⟨x, (m : Int) + 1, 1⟩]) := by unfold Hid; rw [ofP_new (.inr hne), hR, hx]; rfl
          have B1 : (z == y) = false := by simpa using hzy
          clear hR hx hz hO hne hy hzy
          go_wp2_with fail
          go_quiet (fail)
          obtain ⟨W, hW⟩ : ∃ W, W = wr.drewN nq := ⟨_, rfl⟩
          rw [← hW]
          have HSW : Hid (SRows W (.slice a3 R.length c3) 35 3 (R.map rc) ∧ ∀ x, (Value.slice a3 R.length c3).ownBlock = some x → w.heap.size ≤ x) := by unfold Hid; rw [hW]; exact HS.out
          have HBW : Hid (Below w.heap.size w W) := by unfold Hid; rw [hW]; exact ⟨HB.out.os, HB.out.tape, HB.out.output, HB.out.size, HB.out.block⟩
          have hcW : W.cell? ⟨b, off + (m + 1), none⟩ = some (.int .i64 z) := by rw [hW]; exact hcell
          clear hW hcell HS HB
          have HV : Hid (SRows (W.alloc (.cells #[.int .i64 z, .int .i64 ((m : Int) + 1), .int .i64 1] 35)) (.slice a3 R.length c3) 35 3 (R.map rc) ∧ SRows (W.alloc (.cells #[.int .i64 z, .int .i64 ((m : Int) + 1), .int .i64 1] 35)) (.slice (some ⟨W.heap.size, 0, none⟩) 1 1) 35 3 [rc ⟨x, ((m : Int) + 1), 1⟩]) :=
            ⟨HSW.out.1.of_block (fun y hy => (below1 W _).block y (HSW.out.1.lt hy)), by rw [HZ.out]; exact srows_new W (rc ⟨x, ((m : Int) + 1), 1⟩) 35 (sz := 3) rfl⟩
          have HX : Hid ((R.map rc).length + [rc ⟨x, ((m : Int) + 1), 1⟩].length = R.length + 1 ∧ R.map rc ++ [rc ⟨x, ((m : Int) + 1), 1⟩] = (R ++ [(⟨x, ((m : Int) + 1), 1⟩ : Rn)]).map rc ∧ R.length + 1 ≤ 1000000 ∧ w.heap.size ≤ (W.alloc (.cells #[.int .i64 z, .int .i64 ((m : Int) + 1), .int .i64 1] 35)).heap.size) :=
            ⟨by simp, by simp, by omega, by have := HBW.out.size; simp; omega⟩
          have hone := rc_one ⟨x, ((m : Int) + 1), 1⟩
          go_wp2_with (at_builtin; refine append_rows rfl (.tmp 40) (.tmp 47) 24 35 i0 _ 3 24 rfl Try.underlying24 HI.out.1 HI.out.2.1 HI.out.2.2.1 HI.out.2.2.2 rfl (by decide) (by decide) rfl rfl HV.out.1 HV.out.2 HSW.out.2 HX.out.2.2.2 hone (R.length + 1) HX.out.1 ((R ++ [(⟨x, ((m : Int) + 1), 1⟩ : Rn)]).map rc) HX.out.2.1 HX.out.2.2.1 ?_; intro va vc w4 h1 h2 h3; have H4 : Hid (SRows w4 (.slice va (R.length + 1) vc) 35 3 ((R ++ [(⟨x, ((m : Int) + 1), 1⟩ : Rn)]).map rc) ∧ ∀ k, (Value.slice va (R.length + 1) vc).ownBlock = some k → w.heap.size ≤ k) := ⟨h1, h2⟩; have HB4 : Hid (Below w.heap.size w w4) := (HBW.out.trans (belowOne _ HBW.out.size _)).trans h3; clear h1 h2 h3)
          go_roundg (n - (m + 2))
          case measure => clear hr2; omega
          case rel => exact ⟨m + 2, by clear hr2; omega, by go_num, ⟨by rw [HE.out]; exact H4.out.1, H4.out.2⟩, HB4⟩
    · have hkI : ¬ (k : Int) < (n : Int) := by omega
      obtain rfl : k = n := by omega
      go_wp2_with fail
      go_ret
      exact ⟨⟨_, rfl, by rw [← HN.out]; exact runs_of_srows HS.out.1⟩, HB.out⟩
set_option maxHeartbeats 400000 in
theorem refRunsOf_none (w : World) (a : Option Addr) (c : Nat) : Calls Try.prog 12 #[.slice a 0 c] w (OfAns w []) := by
  go_enter Try.func12, Try.ntmps12
  go_wp2_with fail
  go_loopg [3, 4] 0 (fun g s3 s4 wx => g = 0 ∧ s3 = .slice none 0 0 ∧ s4 = .int .i64 0 ∧ wx = w)
  case atStart => exact ⟨rfl, rfl, rfl, rfl⟩
  case round =>
    obtain ⟨hg, rfl, rfl, rfl⟩ := hrel
    clear hg
    go_wp2_with fail
    go_ret
    exact ⟨⟨_, rfl, runs_nil _⟩, Below.refl _ _⟩
theorem refRunsOf_any {w : World} {v : Value} {l : List (BitVec 64)} (h : ReadsI w v l) (hl : l.length ≤ 65536) : Calls Try.prog 12 #[v] w (OfAns w l) := by
  rcases h with ⟨rfl, a1, c1, rfl⟩ | ⟨b1, off1, c1, rfl, hne, _, hc1⟩
  · exact refRunsOf_none w _ _
  · exact refRunsOf_row w _ _ _ l hl hc1
end Go.Proofs.Ytlohljefhcidkaa
