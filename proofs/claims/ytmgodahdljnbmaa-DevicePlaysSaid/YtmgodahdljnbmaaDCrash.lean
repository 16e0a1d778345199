/-
  The contract of a device's Crash.
-/
import Derived.Test.YtmgodahdljnbmaaDSync
import Derived.Test.YtmgodahdljnbmaaVRow
import Derived.Deep.OwnRows
namespace Go.Proofs.Ytmgodahdljnbmaa
open Go.RowKit

/-- Is a number among these? -/
def among (l : List (BitVec 64)) (i : Nat) : Bool := l.any fun x => x.toInt == (i : Int)
theorem among_step (l : List (BitVec 64)) (j : Nat) (hj : j < l.length) (i : Nat) : among (l.take (j + 1)) i = (among (l.take j) i || ((l.getD j 0#64).toInt == (i : Int))) := by
  unfold among
  rw [List.take_add_one, List.getElem?_eq_getElem hj, List.any_append]
  simp [hj]
theorem reads_at {w : World} {v : Value} {l : List (BitVec 64)} (h : ReadsI w v l) : ∃ a c, v = .slice a l.length c ∧ ∀ i, i < l.length → ∃ b off, a = some ⟨b, off, none⟩ ∧ b < w.heap.size ∧ w.cell? ⟨b, off + i, none⟩ = some (.int .i64 (l.getD i 0#64).toInt) := by
  rcases h with ⟨rfl, a, c, rfl⟩ | ⟨b, off, c, rfl, _, hb, hc⟩
  · exact ⟨a, c, rfl, by simp⟩
  · exact ⟨_, c, rfl, fun i hi => ⟨b, off, rfl, hb, hc i hi⟩⟩
theorem info_bool : (Try.prog.info? 4).map (fun i => (i.zero, i.size, i.bytes)) = some (some (.bool false), 1, 1) := by kernel_rfl
theorem crash_none (d v : Value) (w : World) (hs : SizeIs d 0 w) :
    Calls Try.prog 16 #[d, v] w fun e w' => e = .returned (.int .i64 1) ∧ w' = w := by
  have c := given_any d 0 w hs
  have hd : decide (0 < 0) = false := by simp
  rw [hd] at c
  go_enter Try.func16, Try.ntmps16
  go_wp2_with (go_at_call 31; refine c.mono ?_; rintro e w1 ⟨rfl, hw1⟩; replace hw1 := hw1.symm; subst hw1)
  go_ret
  exact ⟨rfl, rfl⟩
theorem back_take (su sn : List (List UInt8)) (wt : List (Nat × List UInt8)) (k : Nat) (x : Nat × List UInt8) (hx : wt[k]? = some x) : back su sn (wt.take (k + 1)) = (back su sn (wt.take k)).set x.1 (su.getD x.1 []) := by
  rw [List.take_add_one, hx]
  exact back_snoc _ _ _ _
theorem keep_take (f : Nat → Bool) (wt : List (Nat × List UInt8)) (k : Nat) (x : Nat × List UInt8) (hx : wt[k]? = some x) : keepW f 0 (wt.take (k + 1)) = keepW f 0 (wt.take k) ++ if f k then [x] else [] := by
  have hk : k < wt.length := (List.getElem?_eq_some_iff.1 hx).1
  rw [List.take_add_one, hx]
  show keepW f 0 (wt.take k ++ [x]) = _
  rw [keepW_snoc, List.length_take, Nat.zero_add, Nat.min_eq_left (by omega)]

set_option maxRecDepth 4000 in
set_option maxHeartbeats 4000000 in
theorem crash_any {w : World} {H : Hnd} {s : St} (D : DevIs w H s) (v : Value) (l : List (BitVec 64)) (hv : ReadsI w v l) (hll : l.length ≤ maxLen) :
    Calls Try.prog 16 #[.pointer (some ⟨H.p, 0, none⟩), v] w fun e w' => e = .returned (.int .i64 0) ∧ ∃ H', DevIs w' H' (s.crashed (among l)) ∧ Turned H H' w w' := by
  have c := given_any _ _ w D.size
  have hp := D.pos
  have hd : decide (0 < s.sure.length) = true := by simp; omega
  rw [hd] at c
  have hz := zero_write
  have hu := Try.underlying70
  have R0 := D.raw
  obtain ⟨n, hn⟩ : ∃ n, n = s.sure.length := ⟨_, rfl⟩
  rw [← hn] at R0
  obtain ⟨gg, cap, hwv⟩ := R0.wv
  obtain ⟨m, hm⟩ : ∃ m, m = s.wait.length := ⟨_, rfl⟩
  rw [← hm] at hwv
  obtain ⟨i0, hi0, hz0, hz1, hz2⟩ := info_parts info_bool
  have hmb : i0.bytes * m ≤ 281474976710656 := by have := D.few; rw [hz2]; omega
  have hmb2 : m ≤ 9223372036854775807 := by have := D.few; omega
  have q2 := R0.c2
  rw [hwv] at q2
  have q2a : (w.alloc (.cells (madeCells #[.bool false] m) 4)).cell? ⟨H.p, 2, none⟩ = some (.slice gg m cap) := by rw [← hwv]; exact (R0.alloc _).c2
  obtain ⟨av, cv, rfl, hread⟩ := reads_at hv
  have hL : (l.length : Int) ≤ 9223372036854775807 := by simp only [maxLen] at hll; omega
  have HM : Hid (m = s.wait.length) := hm
  have HN : Hid (n = s.sure.length) := hn
  clear hd hv hm hn hp hll
  go_enter Try.func16, Try.ntmps16
  go_wp2_with (first
    | (go_at_call 31; refine c.mono ?_; rintro e w1 ⟨rfl, hw1⟩; replace hw1 := hw1.symm; subst hw1)
    | (refine wpList_make_row _ rfl _ _ 73 rfl 4 i0 (.bool false) Try.underlying73 hi0 hz0 hz1 rfl .i64 .i64 m rfl rfl hmb hmb2 ?_))
  go_loopg [7, 23, 24, 25, 26, 27, 28, 29, 30, 31, 32, 33, 34, 35, 36, 37, 38] l.length (fun g s7 s23 s24 s25 s26 s27 s28 s29 s30 s31 s32 s33 s34 s35 s36 s37 s38 wx => ∃ j : Nat, j + g = l.length ∧ s23 = .int .i64 j ∧ wx.rowIs w.heap.size 4 m (fun i => .bool (among (l.take j) i)) ∧ Below w.heap.size w wx)
  case atStart =>
    refine ⟨0, by omega, rfl, ?_, (Below.refl _ _).alloc (Nat.le_refl _) _⟩
    have := World.rowIs_made w (.bool false) m 4
    exact this
  case round =>
    obtain ⟨j, hjg, rfl, hrow, hb⟩ := hrel
    by_cases hj : j < l.length
    · have hjI : (j : Int) < (l.length : Int) := by omega
      obtain ⟨b, off, rfl, hbw, hcell⟩ := hread j hj
      have hc2 := (hb.cell (p := ⟨b, off + j, none⟩) hbw).trans hcell
      have hst := among_step l j hj
      obtain ⟨z, hzz⟩ : ∃ z, z = (l.getD j 0#64).toInt := ⟨_, rfl⟩
      rw [← hzz] at hc2 hst
      have hr2 : IntKind.i64.wrap ((j : Int) + 1) = (j : Int) + 1 := by rw [IntKind.wrap_i64]; omega
      have HS : Hid (∀ i, among (l.take (j + 1)) i = (among (l.take j) i || (z == (i : Int)))) := hst
      clear hst hcell hread hzz D R0 q2 q2a c
      by_cases hz2 : 0 ≤ z ∧ z < (m : Int)
      · obtain ⟨q, rfl⟩ : ∃ q : Nat, z = (q : Int) := ⟨z.toNat, by omega⟩
        have hqm : q < m := by omega
        have hqI : (q : Int) < (m : Int) := by omega
        have hcl := hrow.cell (i := q) hqm
        have hfr := hrow.frozen q
        have hset := (hrow.set q (.bool true)).congr (g := fun i => .bool (among (l.take (j + 1)) i)) (fun i _ => by
          rw [HS.out i]
          by_cases e : i = q
          · subst e; simp
          · have : ((q : Int) == (i : Int)) = false := by simp; omega
            simp [e, this])
        have hb2 := hb.setCell (p := ⟨w.heap.size, q, none⟩) (Nat.le_refl _) (.bool true)
        clear hrow hb hz2
        go_wp2
        go_roundg (l.length - (j + 1))
        case measure => omega
        case rel => exact ⟨j + 1, by omega, by go_num, hset, hb2⟩
      · have hset := hrow.congr (g := fun i => .bool (among (l.take (j + 1)) i)) (fun i hi => by
          rw [HS.out i]
          have : (z == (i : Int)) = false := by simp; omega
          simp [this])
        clear hrow
        by_cases h0 : 0 ≤ z
        · have h1 : ¬ z < (m : Int) := by omega
          clear hz2
          go_wp2
          go_roundg (l.length - (j + 1))
          case measure => omega
          case rel => exact ⟨j + 1, by omega, by go_num, hset, hb⟩
        · clear hz2
          go_wp2
          go_roundg (l.length - (j + 1))
          case measure => omega
          case rel => exact ⟨j + 1, by omega, by go_num, hset, hb⟩
    · have hjI : ¬ (j : Int) < (l.length : Int) := by omega
      obtain rfl : j = l.length := by omega
      rw [List.take_length] at hrow
      have R1 : Raw wr H n s.sure (lay s.sure s.wait) s.wait s.fuse s.off := R0.kept (kept_of_below (fun _ => False) hb) (fun _ _ h => h)
      have K1 : Kept H.foot w wr := kept_of_below _ hb
      have nf : ¬ H.foot w.heap.size := fun h => Nat.lt_irrefl _ (R0.lt h)
      obtain ⟨B0, hB0⟩ : ∃ B0, B0 = w.heap.size := ⟨_, rfl⟩
      rw [← hB0] at hrow nf ⊢
      have hq : wr.cell? ⟨H.p, 2, none⟩ = some (.slice gg m cap) := by rw [← hwv]; exact R1.c2
      obtain ⟨w2, hw2⟩ : ∃ w2, w2 = wr := ⟨_, rfl⟩
      subst hw2
      have HL : Hid (Kept H.foot w w2) := K1
      clear hread q2 q2a c hb hjI hjg D R0 hi0 hz0 hz1 hz2 hmb hB0
      go_wp2_with fail
      go_loopg [8, 9, 44, 45, 46, 47, 48, 49, 50, 51, 52, 53, 54, 55, 56, 57, 58, 59, 60, 61, 62] m (fun g s8 s9 s44 s45 s46 s47 s48 s49 s50 s51 s52 s53 s54 s55 s56 s57 s58 s59 s60 s61 s62 wx => ∃ k : Nat, k + g = m ∧ s44 = .int .i64 k ∧ Raw wx H n (lay s.sure (keepW (among l) 0 (s.wait.take k))) (lay s.sure s.wait) s.wait s.fuse s.off ∧ Kept H.foot w wx ∧ wx.rowIs B0 4 m (fun i => .bool (among l i)))
      case atStart => exact ⟨0, by omega, rfl, by simpa [lay, keepW] using R1, HL.out, hrow⟩
      case round =>
        obtain ⟨k, hkg, rfl, R, K, hrow⟩ := hrel
        clear R1 K1 hq
        by_cases hk : k < m
        · have hkI : (k : Int) < (m : Int) := by omega
          obtain ⟨x, hx⟩ : ∃ x, s.wait[k]? = some x := ⟨_, List.getElem?_eq_getElem (by have := HM.out; omega)⟩
          obtain ⟨g, cap', hv, hrange⟩ := R.at_ hx
          rw [hwv] at hv
          simp only [Value.slice.injEq] at hv
          obtain ⟨rfl, hmm, rfl⟩ := hv
          clear hmm
          obtain ⟨hxa, hxl⟩ := R.ats x (List.mem_of_getElem? hx)
          have RA := R.alloc (.cells (wArr x) 72)
          have p0 := RA.c0
          obtain ⟨b0, b1⟩ := wArr_cell (heap_alloc_last wr (.cells (wArr x) 72))
          have th := RA.sure.there (i := x.1) (by rw [List.length_map, RA.l1]; exact hxa)
          obtain ⟨cs, hcs⟩ : ∃ cs, cs = bcells x.2 := ⟨_, rfl⟩
          rw [← hcs] at b1
          have hcl : cs.length = 128 := by rw [hcs, bcells_len, hxl]
          have hone : ∀ v ∈ cs, v.oneCell' = true := by rw [hcs]; exact bcells_one _
          have hi : Option.map (fun x => x.size) (Try.prog.info? 70) = some cs.length := by rw [hcl]; exact size_block
          have hws := wArr_size hxl
          have d1 := R.d1
          have nB : wr.heap.size ≠ H.bs := Nat.ne_of_gt (R.lt (.inr (.inl rfl)))
          have hxI : (x.1 : Int) < (n : Int) := by omega
          have hr2 : IntKind.i64.wrap ((k : Int) + 1) = (k : Int) + 1 := by rw [IntKind.wrap_i64]; omega
          have hwl : some (wcells x).length = some 129 := by simp [wcells, bcells_len, hxl]
          have hrA := hrow.alloc (.cells (wArr x) 72)
          have hbc := hrA.cell (i := k) hk
          have nbs : B0 ≠ H.bs := fun e => nf (.inr (.inl e))
          have HR : Hid (Raw (wr.alloc (.cells (wArr x) 72)) H n (lay s.sure (keepW (among l) 0 (s.wait.take k))) (lay s.sure s.wait) s.wait s.fuse s.off ∧ Kept H.foot w wr ∧ cs = bcells x.2 ∧ s.wait[k]? = some x ∧ x.2.length = 128 ∧ (wr.alloc (.cells (wArr x) 72)).rowIs B0 4 m (fun i => .bool (among l i))) := ⟨RA, K, hcs, hx, hxl, hrA⟩
          clear RA K hcs hx hxl R hrA hrow
          cases hal : among l k with
          | true =>
            have HA : Hid (among l k = true) := hal
            rw [hal] at hbc
            clear hal
            go_wp2_with (first
              | (refine wpList_load_mid rfl 72 _ rfl g (k * 129) rfl (wcells x) _ hrange Try.underlying72 rfl (size_write.trans hwl.symm) ?_)
              | (refine alloc_wide hz rfl rfl ?_)
              | (refine store_wide size_write _ _ _ zw (wArr x) wr rfl rfl rfl rfl rfl rfl zw_size hws (wArr_one x) ?_))
            go_region_held3 (fun w' => w'.cell? ⟨H.p, 0, none⟩ = some (.slice (some ⟨H.bs, 0, none⟩) n n) ∧ w'.cell? ⟨wr.heap.size, 0, none⟩ = some (.int .i64 x.1) ∧ w'.rangeAt wr.heap.size 1 cs ∧ w'.there H.bs (x.1 * 128) 128)
              (first
                | exact ⟨p0, b0, b1, th⟩
                | exact ⟨(World.cell?_setCells_out _ _ _ _ _ (fun e _ => absurd e d1)).trans p0, (World.cell?_setCells_out _ _ _ _ _ (fun e _ => absurd e nB)).trans b0, World.rangeAt_setCells_apart ((World.rangeAt_drew _ _ _ _).2 b1) _ _ _ (.inl nB), World.there_setCells ((World.there_drew _ _ _ _).2 th) _ _ _⟩)
              (fail)
            all_goals go_wp2
            go_roundg (m - (k + 1))
            case measure => omega
            case rel =>
              obtain ⟨RA, K, hcs, hx, hxl, hrA⟩ := HR.out
              refine ⟨k + 1, by omega, by go_num, ?_, ?_, ?_⟩
              · rw [keep_take _ _ _ _ hx, HA.out, hcs]
                simp only [if_true]
                rw [lay_snoc]
                exact RA.drew.setSure hxa hxl
              · exact Kept.setCells (.inl (.inr (.inl rfl))) _ _ _ (K.alloc _).drew
              · exact hrA.drew.of_block (heap_setCells_far _ _ _ _ _ nbs)
          | false =>
            have HA : Hid (among l k = false) := hal
            rw [hal] at hbc
            clear hal
            go_wp2_with (first
              | (refine wpList_load_mid rfl 72 _ rfl g (k * 129) rfl (wcells x) _ hrange Try.underlying72 rfl (size_write.trans hwl.symm) ?_)
              | (refine alloc_wide hz rfl rfl ?_)
              | (refine store_wide size_write _ _ _ zw (wArr x) wr rfl rfl rfl rfl rfl rfl zw_size hws (wArr_one x) ?_))
            go_roundg (m - (k + 1))
            case measure => omega
            case rel =>
              obtain ⟨RA, K, hcs, hx, hxl, hrA⟩ := HR.out
              refine ⟨k + 1, by omega, by go_num, ?_, K.alloc _, hrA⟩
              rw [keep_take _ _ _ _ hx, HA.out]
              simp only [Bool.false_eq_true, if_false, List.append_nil]
              exact RA
        · have hkI : ¬ (k : Int) < (m : Int) := by omega
          obtain rfl : k = m := by omega
          obtain ⟨w3, hw3⟩ : ∃ w3, w3 = wr := ⟨_, rfl⟩
          subst hw3
          have ht : s.wait.take k = s.wait := by rw [HM.out, List.take_length]
          rw [ht] at R
          clear ht
          obtain ⟨su, hsu⟩ : ∃ su, su = lay s.sure (keepW (among l) 0 s.wait) := ⟨_, rfl⟩
          rw [← hsu] at R
          have hq : w3.cell? ⟨H.p, 2, none⟩ = some (.slice gg k cap) := by rw [← hwv]; exact R.c2
          have HS : Hid (su = lay s.sure (keepW (among l) 0 s.wait)) := hsu
          have HK : Hid (Kept H.foot w w3) := K
          have HRR : Hid (Raw w3 H n su (lay s.sure s.wait) s.wait s.fuse s.off) := R
          clear hrow hkg hsu R K
          go_wp2_with fail
          go_loopg [11, 68, 69, 70, 71, 72, 73, 74, 75, 76, 77, 78, 79, 80, 81, 82, 83, 84, 85, 86, 87] k (fun g s11 s68 s69 s70 s71 s72 s73 s74 s75 s76 s77 s78 s79 s80 s81 s82 s83 s84 s85 s86 s87 wx => ∃ i : Nat, i + g = k ∧ s68 = .int .i64 i ∧ Raw wx H n su (back su (lay s.sure s.wait) (s.wait.take i)) s.wait s.fuse s.off ∧ Kept H.foot w wx)
          case atStart => exact ⟨0, by omega, rfl, by simpa [back] using HRR.out, HK.out⟩
          case round =>
            obtain ⟨i, hig, rfl, R, K⟩ := hrel
            clear hq
            by_cases hi : i < k
            · have hiI : (i : Int) < (k : Int) := by omega
              obtain ⟨x, hx⟩ : ∃ x, s.wait[i]? = some x := ⟨_, List.getElem?_eq_getElem (by have := HM.out; omega)⟩
              obtain ⟨g, cap', hv, hrange⟩ := R.at_ hx
              rw [hwv] at hv
              simp only [Value.slice.injEq] at hv
              obtain ⟨rfl, hmm, rfl⟩ := hv
              clear hmm
              obtain ⟨hxa, hxl⟩ := R.ats x (List.mem_of_getElem? hx)
              have RA := R.alloc (.cells (wArr x) 72)
              have p0 := RA.c0
              have p1 := RA.c1
              obtain ⟨b0, _⟩ := wArr_cell (heap_alloc_last wr (.cells (wArr x) 72))
              have hxs : x.1 < su.length := by rw [RA.l1]; exact hxa
              have hbk : su[x.1]? = some (su.getD x.1 []) := by simp [hxs]
              have hbl : (su.getD x.1 []).length = 128 := RA.b1 _ (List.mem_of_getElem? hbk)
              have b1 := RA.sure.range (i := x.1) (r := bcells (su.getD x.1 [])) (by rw [List.getElem?_map, hbk]; rfl)
              have th := RA.seen.there (i := x.1) (by rw [List.length_map, RA.l2]; exact hxa)
              obtain ⟨cs, hcs⟩ : ∃ cs, cs = bcells (su.getD x.1 []) := ⟨_, rfl⟩
              rw [← hcs] at b1
              have hcl : cs.length = 128 := by rw [hcs, bcells_len, hbl]
              have hone : ∀ v ∈ cs, v.oneCell' = true := by rw [hcs]; exact bcells_one _
              have hin : Option.map (fun x => x.size) (Try.prog.info? 70) = some cs.length := by rw [hcl]; exact size_block
              have hws := wArr_size hxl
              have d2 := R.d2
              have d3 := R.d3
              have nB : wr.heap.size ≠ H.bn := Nat.ne_of_gt (R.lt (.inr (.inr (.inl rfl))))
              have hxI : (x.1 : Int) < (n : Int) := by omega
              have hr2 : IntKind.i64.wrap ((i : Int) + 1) = (i : Int) + 1 := by rw [IntKind.wrap_i64]; omega
              have hwl : some (wcells x).length = some 129 := by simp [wcells, bcells_len, hxl]
              have HR : Hid (Raw (wr.alloc (.cells (wArr x) 72)) H n su (back su (lay s.sure s.wait) (s.wait.take i)) s.wait s.fuse s.off ∧ Kept H.foot w wr ∧ cs = bcells (su.getD x.1 []) ∧ s.wait[i]? = some x ∧ (su.getD x.1 []).length = 128) := ⟨RA, K, hcs, hx, hbl⟩
              clear RA K hcs hx hxl R hbl hbk hxs
              go_wp2_with (first
                | (refine wpList_load_mid rfl 72 _ rfl g (i * 129) rfl (wcells x) _ hrange Try.underlying72 rfl (size_write.trans hwl.symm) ?_)
                | (refine alloc_wide hz rfl rfl ?_)
                | (refine store_wide size_write _ _ _ zw (wArr x) wr rfl rfl rfl rfl rfl rfl zw_size hws (wArr_one x) ?_))
              go_region_held3 (fun w' => w'.cell? ⟨H.p, 0, none⟩ = some (.slice (some ⟨H.bs, 0, none⟩) n n) ∧ w'.cell? ⟨H.p, 1, none⟩ = some (.slice (some ⟨H.bn, 0, none⟩) n n) ∧ w'.cell? ⟨wr.heap.size, 0, none⟩ = some (.int .i64 x.1) ∧ w'.rangeAt H.bs (x.1 * 128) cs ∧ w'.there H.bn (x.1 * 128) 128)
                (first
                  | exact ⟨p0, p1, b0, b1, th⟩
                  | exact ⟨(World.cell?_setCells_out _ _ _ _ _ (fun e _ => absurd e d2)).trans p0, (World.cell?_setCells_out _ _ _ _ _ (fun e _ => absurd e d2)).trans p1, (World.cell?_setCells_out _ _ _ _ _ (fun e _ => absurd e nB)).trans b0, World.rangeAt_setCells_apart ((World.rangeAt_drew _ _ _ _).2 b1) _ _ _ (.inl d3), World.there_setCells ((World.there_drew _ _ _ _).2 th) _ _ _⟩)
                (fail)
              all_goals go_wp2
              go_roundg (k - (i + 1))
              case measure => omega
              case rel =>
                obtain ⟨RA, K, hcs, hx, hbl⟩ := HR.out
                refine ⟨i + 1, by omega, by go_num, ?_, ?_⟩
                · rw [back_take _ _ _ _ _ hx, hcs]
                  exact RA.drew.setSeen hxa hbl
                · exact Kept.setCells (.inl (.inr (.inr (.inl rfl)))) _ _ _ (K.alloc _).drew
            · have hiI : ¬ (i : Int) < (k : Int) := by omega
              obtain rfl : i = k := by omega
              have ht : s.wait.take i = s.wait := by rw [HM.out, List.take_length]
              rw [ht] at R
              have hbb : back su (lay s.sure s.wait) s.wait = su := by
                rw [HS.out]
                exact back_all _ _ _ (fun x hx => keepW_mem _ _ _ x hx)
              rw [hbb] at R
              clear ht hbb
              have q2 := R.c2
              have q3 := R.c3
              have q4 := R.c4
              have f2 := R.fr 2
              have f3 := R.fr 3
              have f4 := R.fr 4
              have DD := ((R.setNone.setF (-1) (by omega)).setO false).is rfl
              have TT : Turned H { H with wv := .slice none 0 0 } w (((wr.setCell ⟨H.p, 2, none⟩ (.slice none 0 0)).setCell ⟨H.p, 3, none⟩ (.int .i64 (-1))).setCell ⟨H.p, 4, none⟩ (.bool false)) :=
                ⟨rfl, ((K.setCell (p := ⟨H.p, 2, none⟩) (.inl (.inl rfl)) _).setCell (p := ⟨H.p, 3, none⟩) (.inl (.inl rfl)) _).setCell (p := ⟨H.p, 4, none⟩) (.inl (.inl rfl)) _, fun x hx => by
                  rcases hx with rfl | rfl | rfl | hx
                  · exact .inl (.inl rfl)
                  · exact .inl (.inr (.inl rfl))
                  · exact .inl (.inr (.inr (.inl rfl)))
                  · simp [Value.ownBlock] at hx⟩
              rw [HS.out] at DD
              clear R K
              go_wp2
              go_ret
              exact ⟨rfl, _, DD, TT⟩
end Go.Proofs.Ytmgodahdljnbmaa
