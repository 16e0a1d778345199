/-
  The contract of package runs' Of: the runs of numbers.
-/
import Derived.Test.YtlohljefhcidkaaUMay
namespace Go.Proofs.Ytlohljefhcidkaa
open Go.RowKit

/-- The last run's Count, and what a store there makes. -/
theorem bump_at {w : World} {va : Option Addr} {q n vc : Nat} {p : List Rn} {r : Rn} (h : SRows w (.slice va n vc) 35 3 ((p ++ [r]).map rc)) (hn : n = q + 1) (hp : p.length = q) :
    ∃ g, va = some ⟨g, 0, none⟩ ∧ g < w.heap.size ∧ w.cell? ⟨g, q * 3 + 2, none⟩ = some (.int .i64 r.c) ∧ w.frozen? ⟨g, q * 3 + 2, none⟩ = false ∧
      ∀ u : Int, SRows (w.setCell ⟨g, q * 3 + 2, none⟩ (.int .i64 u)) (.slice (some ⟨g, 0, none⟩) n vc) 35 3 ((p ++ [(⟨r.v, r.f, u⟩ : Rn)]).map rc) := by
  rcases h with ⟨h1, h0⟩ | ⟨g, cap, h1, hc1, hc2, hrows⟩
  · simp at h0
  · cases h1
    have hat : ((p ++ [r]).map rc)[q]? = some (rc r) := by rw [← hp]; simp
    have hr := hrows.range hat
    have hone := fun u : Int => rows_setOne hrows hat (j := 2) (by omega) (.int .i64 u)
    refine ⟨g, rfl, hrows.lt, hr 2 _ rfl, ?_, fun u => ?_⟩
    · obtain ⟨cur, c1, _⟩ := hrows
      exact frozen_of_row w g _ cur _ c1
    · have e : ((p ++ [r]).map rc).set q ((rc r).set 2 (.int .i64 u)) = (p ++ [(⟨r.v, r.f, u⟩ : Rn)]).map rc := by
        rw [← hp]; simp
      have h2 := hone u
      rw [e] at h2
      refine .inr ⟨g, vc, by simp, by simpa using hc1, hc2, h2⟩
/-- What Of makes. -/
def OfAns (w : World) (l : List (BitVec 64)) (e : Ending) (w' : World) : Prop := (∃ v, e = .returned v ∧ RunsIs w' v (ofP l l.length)) ∧ Below w.heap.size w w'
theorem getD_some {l : List (BitVec 64)} {k : Nat} (h : k < l.length) : l[k]? = some (l.getD k 0#64) := by
  rw [List.getD_eq_getElem?_getD, List.getElem?_eq_getElem h]; rfl
theorem ofP_len (l : List (BitVec 64)) : ∀ k : Nat, (ofP l k).length ≤ k
  | 0 => by simp [ofP]
  | k + 1 => by
    have := ofP_len l k
    rw [ofP]
    split
    · rcases List.eq_nil_or_concat (ofP l k) with e | ⟨a, r, e⟩
      · rw [e]; simp [bump]
      · rw [List.concat_eq_append] at e
        rw [e, bump_snoc]
        rw [e] at this
        simp at this ⊢
        omega
    · simp; omega

set_option maxRecDepth 4000 in
set_option maxHeartbeats 4000000 in
theorem runsOf_row (w : World) (b off cap : Nat) (l : List (BitVec 64)) (hl : l.length ≤ 65536)
    (hcell : ∀ i, i < l.length → w.cell? ⟨b, off + i, none⟩ = some (.int .i64 (l.getD i 0#64).toInt)) :
    Calls Try.prog 8 #[.slice (some ⟨b, off, none⟩) l.length cap] w (OfAns w l) := by
  obtain ⟨n, hn⟩ : ∃ n, n = l.length := ⟨_, rfl⟩
  rw [← hn]
  have hn1 : (n : Int) ≤ 65536 := by omega
  have HN : Hid (n = l.length) := hn
  have HC : Hid (∀ i, i < n → w.cell? ⟨b, off + i, none⟩ = some (.int .i64 (l.getD i 0#64).toInt)) := by unfold Hid; rw [hn]; exact hcell
  obtain ⟨i0, hi0, hz0, hz1, hz2⟩ := info_parts info_run
  have HI : Hid (Try.prog.info? 35 = some i0 ∧ i0.zero = some (.agg #[.int .i64 0, .int .i64 0, .int .i64 0]) ∧ i0.size = 3 ∧ i0.bytes = 24) := ⟨hi0, hz0, hz1, hz2⟩
  clear hn hl hcell hi0 hz0 hz1 hz2
  go_enter Try.func8, Try.ntmps8
  go_wp2_with fail
  go_loopg [3, 11] n (fun gg s3 s11 wx => ∃ k : Nat, k + gg = n ∧ s11 = .int .i64 k ∧ Hid (SRows wx s3 35 3 ((ofP l k).map rc) ∧ ∀ x, s3.ownBlock = some x → w.heap.size ≤ x) ∧ Hid (Below w.heap.size w wx))
  case atStart => exact ⟨0, by omega, rfl, ⟨srows_nil _ _ _, noOwn _⟩, Below.refl _ _⟩
  case round =>
    obtain ⟨k, hkg, rfl, HS, HB⟩ := hrel
    by_cases hk : k < n
    · have hkI : (k : Int) < (n : Int) := by omega
      have hcell : wr.cell? ⟨b, off + k, none⟩ = some (.int .i64 (l.getD k 0#64).toInt) := (HB.out.cell (p := ⟨b, off + k, none⟩) (World.block_lt_of_cell? w _ (HC.out k hk))).trans (HC.out k hk)
      obtain ⟨x, hx⟩ : ∃ x, x = l.getD k 0#64 := ⟨_, rfl⟩
      obtain ⟨z, hz⟩ : ∃ z, z = x.toInt := ⟨_, rfl⟩
      rw [← hx, ← hz] at hcell
      have hO := of_is l k (by rw [← HN.out]; omega) (by omega)
      have hlen := ofP_len l k
      have hr2 : IntKind.i64.wrap ((k : Int) + 1) = (k : Int) + 1 := by rw [IntKind.wrap_i64]; omega
      obtain ⟨R, hR⟩ : ∃ R, R = ofP l k := ⟨_, rfl⟩
      rw [← hR] at HS hlen
      obtain ⟨a3, c3, h3⟩ := srows_slice HS.out.1
      rw [List.length_map] at h3
      subst h3
      by_cases hon : 0 < k ∧ l.getD k 0#64 = l.getD (k - 1) 0#64
      · obtain ⟨m, rfl⟩ : ∃ m, k = m + 1 := ⟨k - 1, by omega⟩
        obtain ⟨p, r, hp, hv⟩ := hO.last (by omega)
        have HE : Hid (ofP l (m + 1 + 1) = p ++ [⟨r.v, r.f, r.c + 1⟩]) := by unfold Hid; rw [ofP_on hon.1 hon.2, hp, bump_snoc]
        have hm := hO.may
        rw [hp] at hm hR
        subst hR
        have hrb := run_bd hm.chain (k := p.length) (r := r) (by simp)
        have hcc : 1 ≤ r.c ∧ r.c ≤ 65536 := ⟨hrb.2.1, hrb.2.2.1⟩
        obtain ⟨hS, hown⟩ := HS.out
        clear HS
        rw [List.length_append, List.length_singleton] at hS hown hlen
        rw [List.length_append, List.length_singleton]
        obtain ⟨g, rfl, hg, g1, g2, g3⟩ := bump_at hS rfl rfl
        have hwc : IntKind.i64.wrap (r.c + 1) = r.c + 1 := by rw [IntKind.wrap_i64]; omega
        have HO : Hid (w.heap.size ≤ g) := hown g rfl
        have hpm : (p.length : Int) ≤ 65536 := by omega
        have hcell2 : wr.cell? ⟨b, off + m, none⟩ = some (.int .i64 z) := by
          rw [hz, hx, hon.2]
          exact (HB.out.cell (p := ⟨b, off + m, none⟩) (World.block_lt_of_cell? w _ (HC.out m (by omega)))).trans (HC.out m (by omega))
        have hmI : (m : Int) ≤ 65536 := by omega
        clear hO hon hp hv hm hrb hS hx hz hown
        generalize p.length = q at *
        have HG : Hid (∀ u : Int, SRows (wr.setCell ⟨g, q * 3 + 2, none⟩ (.int .i64 u)) (.slice (some ⟨g, 0, none⟩) (q + 1) c3) 35 3 ((p ++ [(⟨r.v, r.f, u⟩ : Rn)]).map rc)) := g3
        clear g3
        generalize hc : r.c = c at *
        clear hc
        go_wp2_with fail
        go_roundg (n - (m + 2))
        case measure => clear hr2; omega
        case rel => exact ⟨m + 2, by clear hr2; omega, by go_num, ⟨by rw [HE.out]; exact HG.out _, fun x hx => by simp [Value.ownBlock] at hx; subst hx; exact HO.out⟩, HB.out.setCell HO.out _⟩
      · have hnew : k = 0 ∨ l.getD k 0#64 ≠ l.getD (k - 1) 0#64 := by
          rcases Nat.eq_zero_or_pos k with h0 | h0
          · exact .inl h0
          · exact .inr fun e => hon ⟨h0, e⟩
        have HZ : Hid (z = x.toInt) := hz
        have hqm : (R.length : Int) ≤ 65536 := by omega
        cases k with
        | zero =>
          rw [Nat.add_zero] at hcell
          have HE : Hid (ofP l (0 + 1) = R ++ [⟨x, 0, 1⟩]) := by unfold Hid; rw [ofP_new hnew, hR, hx]; rfl
          clear hnew hon hR hx hz hO
          have HV : Hid (SRows (wr.alloc (.cells #[.int .i64 z, .int .i64 0, .int .i64 0] 35)) (.slice a3 R.length c3) 35 3 (R.map rc) ∧ SRows (wr.alloc (.cells #[.int .i64 z, .int .i64 0, .int .i64 0] 35)) (.slice (some ⟨wr.heap.size, 0, none⟩) 1 1) 35 3 [rc ⟨x, 0, 0⟩]) :=
            ⟨HS.out.1.of_block (fun y hy => (below1 wr _).block y (HS.out.1.lt hy)), by rw [HZ.out]; exact srows_new wr (rc ⟨x, 0, 0⟩) 35 (sz := 3) rfl⟩
          have HX : Hid ((R.map rc).length + [rc ⟨x, 0, 0⟩].length = R.length + 1 ∧ R.map rc ++ [rc ⟨x, 0, 0⟩] = (R ++ [(⟨x, 0, 0⟩ : Rn)]).map rc ∧ R.length + 1 ≤ 1000000 ∧ w.heap.size ≤ (wr.alloc (.cells #[.int .i64 z, .int .i64 0, .int .i64 0] 35)).heap.size) :=
            ⟨by simp, by simp, by omega, by have := HB.out.size; simp; omega⟩
          have hone := rc_one ⟨x, 0, 0⟩
          go_wp2_with (at_builtin; refine append_rows rfl (.tmp 27) (.tmp 31) 24 35 i0 _ 3 24 rfl Try.underlying24 HI.out.1 HI.out.2.1 HI.out.2.2.1 HI.out.2.2.2 rfl (by decide) (by decide) rfl rfl HV.out.1 HV.out.2 HS.out.2 HX.out.2.2.2 hone (R.length + 1) HX.out.1 ((R ++ [(⟨x, 0, 0⟩ : Rn)]).map rc) HX.out.2.1 HX.out.2.2.1 ?_; intro va vc w4 h1 h2 h3; obtain ⟨g, rfl, hg, g1, g2, g3⟩ := bump_at h1 rfl rfl; have HG : Hid (∀ u : Int, SRows (w4.setCell ⟨g, R.length * 3 + 2, none⟩ (.int .i64 u)) (.slice (some ⟨g, 0, none⟩) (R.length + 1) vc) 35 3 ((R ++ [(⟨x, 0, u⟩ : Rn)]).map rc)) := g3; have HO : Hid (w.heap.size ≤ g) := h2 g rfl; have HB4 : Hid (Below w.heap.size w w4) := (HB.out.trans (belowOne _ HB.out.size _)).trans h3; clear h1 h2 h3 g3)
          go_roundg (n - (1))
          case measure => clear hr2; omega
          case rel => exact ⟨1, by clear hr2; omega, by go_num, ⟨by rw [HE.out]; exact HG.out _, fun x hx => by simp [Value.ownBlock] at hx; subst hx; exact HO.out⟩, HB4.out.setCell HO.out _⟩
        | succ m =>
          have HE : Hid (ofP l (m + 1 + 1) = R ++ [⟨x, (m : Int) + 1, 1⟩]) := by unfold Hid; rw [ofP_new hnew, hR, hx]; rfl
          have hne : l.getD (m + 1) 0#64 ≠ l.getD m 0#64 := by
            rcases hnew with h0 | h0
            · omega
            · exact h0
          have hcell2 : wr.cell? ⟨b, off + m, none⟩ = some (.int .i64 (l.getD m 0#64).toInt) := (HB.out.cell (p := ⟨b, off + m, none⟩) (World.block_lt_of_cell? w _ (HC.out m (by omega)))).trans (HC.out m (by omega))
          obtain ⟨y, hy⟩ : ∃ y, y = (l.getD m 0#64).toInt := ⟨_, rfl⟩
          rw [← hy] at hcell2
          have hzy : z ≠ y := fun e => hne (BitVec.toInt_inj.1 (by rw [← hy, ← e, hz, hx]))
          have B1 : (z == y) = false := by simpa using hzy
          have B2 : (z != y) = true := by simpa using hzy
          have hmI : (m : Int) ≤ 65536 := by omega
          clear hnew hon hR hx hz hO hne hy hzy
          have HV : Hid (SRows (wr.alloc (.cells #[.int .i64 z, .int .i64 ((m : Int) + 1), .int .i64 0] 35)) (.slice a3 R.length c3) 35 3 (R.map rc) ∧ SRows (wr.alloc (.cells #[.int .i64 z, .int .i64 ((m : Int) + 1), .int .i64 0] 35)) (.slice (some ⟨wr.heap.size, 0, none⟩) 1 1) 35 3 [rc ⟨x, ((m : Int) + 1), 0⟩]) :=
            ⟨HS.out.1.of_block (fun y hy => (below1 wr _).block y (HS.out.1.lt hy)), by rw [HZ.out]; exact srows_new wr (rc ⟨x, ((m : Int) + 1), 0⟩) 35 (sz := 3) rfl⟩
          have HX : Hid ((R.map rc).length + [rc ⟨x, ((m : Int) + 1), 0⟩].length = R.length + 1 ∧ R.map rc ++ [rc ⟨x, ((m : Int) + 1), 0⟩] = (R ++ [(⟨x, ((m : Int) + 1), 0⟩ : Rn)]).map rc ∧ R.length + 1 ≤ 1000000 ∧ w.heap.size ≤ (wr.alloc (.cells #[.int .i64 z, .int .i64 ((m : Int) + 1), .int .i64 0] 35)).heap.size) :=
            ⟨by simp, by simp, by omega, by have := HB.out.size; simp; omega⟩
          have hone := rc_one ⟨x, ((m : Int) + 1), 0⟩
          go_wp2_with (at_builtin; refine append_rows rfl (.tmp 27) (.tmp 31) 24 35 i0 _ 3 24 rfl Try.underlying24 HI.out.1 HI.out.2.1 HI.out.2.2.1 HI.out.2.2.2 rfl (by decide) (by decide) rfl rfl HV.out.1 HV.out.2 HS.out.2 HX.out.2.2.2 hone (R.length + 1) HX.out.1 ((R ++ [(⟨x, ((m : Int) + 1), 0⟩ : Rn)]).map rc) HX.out.2.1 HX.out.2.2.1 ?_; intro va vc w4 h1 h2 h3; obtain ⟨g, rfl, hg, g1, g2, g3⟩ := bump_at h1 rfl rfl; have HG : Hid (∀ u : Int, SRows (w4.setCell ⟨g, R.length * 3 + 2, none⟩ (.int .i64 u)) (.slice (some ⟨g, 0, none⟩) (R.length + 1) vc) 35 3 ((R ++ [(⟨x, ((m : Int) + 1), u⟩ : Rn)]).map rc)) := g3; have HO : Hid (w.heap.size ≤ g) := h2 g rfl; have HB4 : Hid (Below w.heap.size w w4) := (HB.out.trans (belowOne _ HB.out.size _)).trans h3; clear h1 h2 h3 g3)
          go_roundg (n - (m + 2))
          case measure => clear hr2; omega
          case rel => exact ⟨m + 2, by clear hr2; omega, by go_num, ⟨by rw [HE.out]; exact HG.out _, fun x hx => by simp [Value.ownBlock] at hx; subst hx; exact HO.out⟩, HB4.out.setCell HO.out _⟩
    · have hkI : ¬ (k : Int) < (n : Int) := by omega
      obtain rfl : k = n := by omega
      go_wp2_with fail
      go_ret
      exact ⟨⟨_, rfl, by rw [← HN.out]; exact runs_of_srows HS.out.1⟩, HB.out⟩
set_option maxHeartbeats 400000 in
theorem runsOf_none (w : World) (a : Option Addr) (c : Nat) : Calls Try.prog 8 #[.slice a 0 c] w (OfAns w []) := by
  go_enter Try.func8, Try.ntmps8
  go_wp2_with fail
  go_loopg [3, 11] 0 (fun g s3 s11 wx => g = 0 ∧ s3 = .slice none 0 0 ∧ s11 = .int .i64 0 ∧ wx = w)
  case atStart => exact ⟨rfl, rfl, rfl, rfl⟩
  case round =>
    obtain ⟨hg, rfl, rfl, rfl⟩ := hrel
    clear hg
    go_wp2_with fail
    go_ret
    exact ⟨⟨_, rfl, runs_nil _⟩, Below.refl _ _⟩
theorem runsOf_any {w : World} {v : Value} {l : List (BitVec 64)} (h : ReadsI w v l) (hl : l.length ≤ 65536) : Calls Try.prog 8 #[v] w (OfAns w l) := by
  rcases h with ⟨rfl, a1, c1, rfl⟩ | ⟨b1, off1, c1, rfl, hne, _, hc1⟩
  · exact runsOf_none w _ _
  · exact runsOf_row w _ _ _ l hl hc1
end Go.Proofs.Ytlohljefhcidkaa
