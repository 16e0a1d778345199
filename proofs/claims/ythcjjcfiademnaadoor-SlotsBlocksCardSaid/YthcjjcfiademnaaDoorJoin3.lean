/-
  15 texts, one behind the other: DCrash, Last, Box, DAwake, DWait, DFree, SApp, QA, QB, QC, QD, QE, QF, QG, QH.
-/
import Derived.Test.YthcjjcfiademnaaDoorJoin2
import Derived.Deep.OwnRows
import Derived.WalkKit
import Derived.Deep.Quiet
import Derived.Deep.QuietTactic
import Derived.BigQuiet
import Derived.Below
import Derived.Deep.RegionHeld3
import Derived.Test.YthcjjcfiademnaaDoorJoin1
import Derived.Deep.WholeRow
import Derived.Laws.OwnMore
import Derived.Test.YthcjjcfiademnaaDoorShelf
import Derived.Lib.Builder
import Derived.Lib.AppendStr
import Derived.Lib.UnsafeStr
import Derived.Laws.Externs
/-
  The contract of a device's Crash.
-/
namespace Go.Proofs.YthcjjcfiademnaaDoor
open Go.RowKit

/-- Is a number among these? -/
def among (l : List (BitVec 64)) (i : Nat) : Bool := l.any fun x => x.toInt == (i : Int)
theorem among_step (l : List (BitVec 64)) (j : Nat) (hj : j < l.length) (i : Nat) : among (l.take (j + 1)) i = (among (l.take j) i || ((l.getD j 0#64).toInt == (i : Int))) := by
  unfold among
  rw [List.take_add_one, List.getElem?_eq_getElem hj, List.any_append]
  simp [hj]
theorem reads_at {w : World} {v : Value} {l : List (BitVec 64)} (h : ReadsI w v l) : ∃ a c, v = .slice a l.length c ∧ ∀ i, i < l.length → ∃ b off, a = some ⟨b, off, none⟩ ∧ b < w.heap.size ∧ w.cell? ⟨b, off + i, none⟩ = some (.int .i64 (l.getD i 0#64).toInt) := by
  rcases h with ⟨rfl, a, c, rfl⟩ | ⟨b, off, c, rfl, _, hb, hc⟩
  · exact ⟨a, c, rfl, by simp⟩
  · exact ⟨_, c, rfl, fun i hi => ⟨b, off, rfl, hb, hc i hi⟩⟩
theorem info_bool : (Tryd.prog.info? 4).map (fun i => (i.zero, i.size, i.bytes)) = some (some (.bool false), 1, 1) := by kernel_rfl
theorem crash_none (d v : Value) (w : World) (hs : SizeIs d 0 w) :
    Calls Tryd.prog 9 #[d, v] w fun e w' => e = .returned (.int .i64 1) ∧ w' = w := by
  have c := given_any d 0 w hs
  have hd : decide (0 < 0) = false := by simp
  rw [hd] at c
  go_enter Tryd.func9, Tryd.ntmps9
  go_wp2_with (go_at_call 13; refine c.mono ?_; rintro e w1 ⟨rfl, hw1⟩; replace hw1 := hw1.symm; subst hw1)
  go_ret
  exact ⟨rfl, rfl⟩
theorem back_take (su sn : List (List UInt8)) (wt : List (Nat × List UInt8)) (k : Nat) (x : Nat × List UInt8) (hx : wt[k]? = some x) : back su sn (wt.take (k + 1)) = (back su sn (wt.take k)).set x.1 (su.getD x.1 []) := by
  rw [List.take_add_one, hx]
  exact back_snoc _ _ _ _
theorem keep_take (f : Nat → Bool) (wt : List (Nat × List UInt8)) (k : Nat) (x : Nat × List UInt8) (hx : wt[k]? = some x) : keepW f 0 (wt.take (k + 1)) = keepW f 0 (wt.take k) ++ if f k then [x] else [] := by
  have hk : k < wt.length := (List.getElem?_eq_some_iff.1 hx).1
  rw [List.take_add_one, hx]
  show keepW f 0 (wt.take k ++ [x]) = _
  rw [keepW_snoc, List.length_take, Nat.zero_add, Nat.min_eq_left (by omega)]

set_option maxRecDepth 4000 in
set_option maxHeartbeats 4000000 in
theorem crash_any {w : World} {H : Hnd} {s : St} (D : DevIs w H s) (v : Value) (l : List (BitVec 64)) (hv : ReadsI w v l) (hll : l.length ≤ maxLen) :
    Calls Tryd.prog 9 #[.pointer (some ⟨H.p, 0, none⟩), v] w fun e w' => e = .returned (.int .i64 0) ∧ ∃ H', DevIs w' H' (s.crashed (among l)) ∧ Turned H H' w w' := by
  have c := given_any _ _ w D.size
  have hp := D.pos
  have hd : decide (0 < s.sure.length) = true := by simp; omega
  rw [hd] at c
  have hz := zero_write
  have hu := Tryd.underlying51
  have R0 := D.raw
  obtain ⟨n, hn⟩ : ∃ n, n = s.sure.length := ⟨_, rfl⟩
  rw [← hn] at R0
  obtain ⟨gg, cap, hwv⟩ := R0.wv
  obtain ⟨m, hm⟩ : ∃ m, m = s.wait.length := ⟨_, rfl⟩
  rw [← hm] at hwv
  obtain ⟨i0, hi0, hz0, hz1, hz2⟩ := info_parts info_bool
  have hmb : i0.bytes * m ≤ 281474976710656 := by have := D.few; rw [hz2]; omega
  have hmb2 : m ≤ 9223372036854775807 := by have := D.few; omega
  have q2 := R0.c2
  rw [hwv] at q2
  have q2a : (w.alloc (.cells (madeCells #[.bool false] m) 4)).cell? ⟨H.p, 2, none⟩ = some (.slice gg m cap) := by rw [← hwv]; exact (R0.alloc _).c2
  obtain ⟨av, cv, rfl, hread⟩ := reads_at hv
  have hL : (l.length : Int) ≤ 9223372036854775807 := by simp only [maxLen] at hll; omega
  have HM : Hid (m = s.wait.length) := hm
  have HN : Hid (n = s.sure.length) := hn
  clear hd hv hm hn hp hll
  go_enter Tryd.func9, Tryd.ntmps9
  go_wp2_with (first
    | (go_at_call 13; refine c.mono ?_; rintro e w1 ⟨rfl, hw1⟩; replace hw1 := hw1.symm; subst hw1)
    | (refine wpList_make_row _ rfl _ _ 49 rfl 4 i0 (.bool false) Tryd.underlying49 hi0 hz0 hz1 rfl .i64 .i64 m rfl rfl hmb hmb2 ?_))
  go_loopg [7, 23, 24, 25, 26, 27, 28, 29, 30, 31, 32, 33, 34, 35, 36, 37, 38] l.length (fun g s7 s23 s24 s25 s26 s27 s28 s29 s30 s31 s32 s33 s34 s35 s36 s37 s38 wx => ∃ j : Nat, j + g = l.length ∧ s23 = .int .i64 j ∧ wx.rowIs w.heap.size 4 m (fun i => .bool (among (l.take j) i)) ∧ Below w.heap.size w wx)
  case atStart =>
    refine ⟨0, by omega, rfl, ?_, (Below.refl _ _).alloc (Nat.le_refl _) _⟩
    have := World.rowIs_made w (.bool false) m 4
    exact this
  case round =>
    obtain ⟨j, hjg, rfl, hrow, hb⟩ := hrel
    by_cases hj : j < l.length
    · have hjI : (j : Int) < (l.length : Int) := by omega
      obtain ⟨b, off, rfl, hbw, hcell⟩ := hread j hj
      have hc2 := (hb.cell (p := ⟨b, off + j, none⟩) hbw).trans hcell
      have hst := among_step l j hj
      obtain ⟨z, hzz⟩ : ∃ z, z = (l.getD j 0#64).toInt := ⟨_, rfl⟩
      rw [← hzz] at hc2 hst
      have hr2 : IntKind.i64.wrap ((j : Int) + 1) = (j : Int) + 1 := by rw [IntKind.wrap_i64]; omega
      have HS : Hid (∀ i, among (l.take (j + 1)) i = (among (l.take j) i || (z == (i : Int)))) := hst
      clear hst hcell hread hzz D R0 q2 q2a c
      by_cases hz2 : 0 ≤ z ∧ z < (m : Int)
      · obtain ⟨q, rfl⟩ : ∃ q : Nat, z = (q : Int) := ⟨z.toNat, by omega⟩
        have hqm : q < m := by omega
        have hqI : (q : Int) < (m : Int) := by omega
        have hcl := hrow.cell (i := q) hqm
        have hfr := hrow.frozen q
        have hset := (hrow.set q (.bool true)).congr (g := fun i => .bool (among (l.take (j + 1)) i)) (fun i _ => by
          rw [HS.out i]
          by_cases e : i = q
          · subst e; simp
          · have : ((q : Int) == (i : Int)) = false := by simp; omega
            simp [e, this])
        have hb2 := hb.setCell (p := ⟨w.heap.size, q, none⟩) (Nat.le_refl _) (.bool true)
        clear hrow hb hz2
        go_wp2
        go_roundg (l.length - (j + 1))
        case measure => omega
        case rel => exact ⟨j + 1, by omega, by go_num, hset, hb2⟩
      · have hset := hrow.congr (g := fun i => .bool (among (l.take (j + 1)) i)) (fun i hi => by
          rw [HS.out i]
          have : (z == (i : Int)) = false := by simp; omega
          simp [this])
        clear hrow
        by_cases h0 : 0 ≤ z
        · have h1 : ¬ z < (m : Int) := by omega
          clear hz2
          go_wp2
          go_roundg (l.length - (j + 1))
          case measure => omega
          case rel => exact ⟨j + 1, by omega, by go_num, hset, hb⟩
        · clear hz2
          go_wp2
          go_roundg (l.length - (j + 1))
          case measure => omega
          case rel => exact ⟨j + 1, by omega, by go_num, hset, hb⟩
    · have hjI : ¬ (j : Int) < (l.length : Int) := by omega
      obtain rfl : j = l.length := by omega
      rw [List.take_length] at hrow
      have R1 : Raw wr H n s.sure (lay s.sure s.wait) s.wait s.fuse s.off := R0.kept (kept_of_below (fun _ => False) hb) (fun _ _ h => h)
      have K1 : Kept H.foot w wr := kept_of_below _ hb
      have nf : ¬ H.foot w.heap.size := fun h => Nat.lt_irrefl _ (R0.lt h)
      obtain ⟨B0, hB0⟩ : ∃ B0, B0 = w.heap.size := ⟨_, rfl⟩
      rw [← hB0] at hrow nf ⊢
      have hq : wr.cell? ⟨H.p, 2, none⟩ = some (.slice gg m cap) := by rw [← hwv]; exact R1.c2
      obtain ⟨w2, hw2⟩ : ∃ w2, w2 = wr := ⟨_, rfl⟩
      subst hw2
      have HL : Hid (Kept H.foot w w2) := K1
      clear hread q2 q2a c hb hjI hjg D R0 hi0 hz0 hz1 hz2 hmb hB0
      go_wp2_with fail
      go_loopg [8, 9, 44, 45, 46, 47, 48, 49, 50, 51, 52, 53, 54, 55, 56, 57, 58, 59, 60, 61, 62] m (fun g s8 s9 s44 s45 s46 s47 s48 s49 s50 s51 s52 s53 s54 s55 s56 s57 s58 s59 s60 s61 s62 wx => ∃ k : Nat, k + g = m ∧ s44 = .int .i64 k ∧ Raw wx H n (lay s.sure (keepW (among l) 0 (s.wait.take k))) (lay s.sure s.wait) s.wait s.fuse s.off ∧ Kept H.foot w wx ∧ wx.rowIs B0 4 m (fun i => .bool (among l i)))
      case atStart => exact ⟨0, by omega, rfl, by simpa [lay, keepW] using R1, HL.out, hrow⟩
      case round =>
        obtain ⟨k, hkg, rfl, R, K, hrow⟩ := hrel
        clear R1 K1 hq
        by_cases hk : k < m
        · have hkI : (k : Int) < (m : Int) := by omega
          obtain ⟨x, hx⟩ : ∃ x, s.wait[k]? = some x := ⟨_, List.getElem?_eq_getElem (by have := HM.out; omega)⟩
          obtain ⟨g, cap', hv, hrange⟩ := R.at_ hx
          rw [hwv] at hv
          simp only [Value.slice.injEq] at hv
          obtain ⟨rfl, hmm, rfl⟩ := hv
          clear hmm
          obtain ⟨hxa, hxl⟩ := R.ats x (List.mem_of_getElem? hx)
          have RA := R.alloc (.cells (wArr x) 53)
          have p0 := RA.c0
          obtain ⟨b0, b1⟩ := wArr_cell (heap_alloc_last wr (.cells (wArr x) 53))
          have th := RA.sure.there (i := x.1) (by rw [List.length_map, RA.l1]; exact hxa)
          obtain ⟨cs, hcs⟩ : ∃ cs, cs = bcells x.2 := ⟨_, rfl⟩
          rw [← hcs] at b1
          have hcl : cs.length = 128 := by rw [hcs, bcells_len, hxl]
          have hone : ∀ v ∈ cs, v.oneCell' = true := by rw [hcs]; exact bcells_one _
          have hi : Option.map (fun x => x.size) (Tryd.prog.info? 51) = some cs.length := by rw [hcl]; exact size_block
          have hws := wArr_size hxl
          have d1 := R.d1
          have nB : wr.heap.size ≠ H.bs := Nat.ne_of_gt (R.lt (.inr (.inl rfl)))
          have hxI : (x.1 : Int) < (n : Int) := by omega
          have hr2 : IntKind.i64.wrap ((k : Int) + 1) = (k : Int) + 1 := by rw [IntKind.wrap_i64]; omega
          have hwl : some (wcells x).length = some 129 := by simp [wcells, bcells_len, hxl]
          have hrA := hrow.alloc (.cells (wArr x) 53)
          have hbc := hrA.cell (i := k) hk
          have nbs : B0 ≠ H.bs := fun e => nf (.inr (.inl e))
          have HR : Hid (Raw (wr.alloc (.cells (wArr x) 53)) H n (lay s.sure (keepW (among l) 0 (s.wait.take k))) (lay s.sure s.wait) s.wait s.fuse s.off ∧ Kept H.foot w wr ∧ cs = bcells x.2 ∧ s.wait[k]? = some x ∧ x.2.length = 128 ∧ (wr.alloc (.cells (wArr x) 53)).rowIs B0 4 m (fun i => .bool (among l i))) := ⟨RA, K, hcs, hx, hxl, hrA⟩
          clear RA K hcs hx hxl R hrA hrow
          cases hal : among l k with
          | true =>
            have HA : Hid (among l k = true) := hal
            rw [hal] at hbc
            clear hal
            go_wp2_with (first
              | (refine wpList_load_mid rfl 53 _ rfl g (k * 129) rfl (wcells x) _ hrange Tryd.underlying53 rfl (size_write.trans hwl.symm) ?_)
              | (refine alloc_wide hz rfl rfl ?_)
              | (refine store_wide size_write _ _ _ zw (wArr x) wr rfl rfl rfl rfl rfl rfl zw_size hws (wArr_one x) ?_))
            go_region_held3 (fun w' => w'.cell? ⟨H.p, 0, none⟩ = some (.slice (some ⟨H.bs, 0, none⟩) n n) ∧ w'.cell? ⟨wr.heap.size, 0, none⟩ = some (.int .i64 x.1) ∧ w'.rangeAt wr.heap.size 1 cs ∧ w'.there H.bs (x.1 * 128) 128)
              (first
                | exact ⟨p0, b0, b1, th⟩
                | exact ⟨(World.cell?_setCells_out _ _ _ _ _ (fun e _ => absurd e d1)).trans p0, (World.cell?_setCells_out _ _ _ _ _ (fun e _ => absurd e nB)).trans b0, World.rangeAt_setCells_apart ((World.rangeAt_drew _ _ _ _).2 b1) _ _ _ (.inl nB), World.there_setCells ((World.there_drew _ _ _ _).2 th) _ _ _⟩)
              (fail)
            all_goals go_wp2
            go_roundg (m - (k + 1))
            case measure => omega
            case rel =>
              obtain ⟨RA, K, hcs, hx, hxl, hrA⟩ := HR.out
              refine ⟨k + 1, by omega, by go_num, ?_, ?_, ?_⟩
              · rw [keep_take _ _ _ _ hx, HA.out, hcs]
                simp only [if_true]
                rw [lay_snoc]
                exact RA.drew.setSure hxa hxl
              · exact Kept.setCells (.inl (.inr (.inl rfl))) _ _ _ (K.alloc _).drew
              · exact hrA.drew.of_block (heap_setCells_far _ _ _ _ _ nbs)
          | false =>
            have HA : Hid (among l k = false) := hal
            rw [hal] at hbc
            clear hal
            go_wp2_with (first
              | (refine wpList_load_mid rfl 53 _ rfl g (k * 129) rfl (wcells x) _ hrange Tryd.underlying53 rfl (size_write.trans hwl.symm) ?_)
              | (refine alloc_wide hz rfl rfl ?_)
              | (refine store_wide size_write _ _ _ zw (wArr x) wr rfl rfl rfl rfl rfl rfl zw_size hws (wArr_one x) ?_))
            go_roundg (m - (k + 1))
            case measure => omega
            case rel =>
              obtain ⟨RA, K, hcs, hx, hxl, hrA⟩ := HR.out
              refine ⟨k + 1, by omega, by go_num, ?_, K.alloc _, hrA⟩
              rw [keep_take _ _ _ _ hx, HA.out]
              simp only [Bool.false_eq_true, if_false, List.append_nil]
              exact RA
        · have hkI : ¬ (k : Int) < (m : Int) := by omega
          obtain rfl : k = m := by omega
          obtain ⟨w3, hw3⟩ : ∃ w3, w3 = wr := ⟨_, rfl⟩
          subst hw3
          have ht : s.wait.take k = s.wait := by rw [HM.out, List.take_length]
          rw [ht] at R
          clear ht
          obtain ⟨su, hsu⟩ : ∃ su, su = lay s.sure (keepW (among l) 0 s.wait) := ⟨_, rfl⟩
          rw [← hsu] at R
          have hq : w3.cell? ⟨H.p, 2, none⟩ = some (.slice gg k cap) := by rw [← hwv]; exact R.c2
          have HS : Hid (su = lay s.sure (keepW (among l) 0 s.wait)) := hsu
          have HK : Hid (Kept H.foot w w3) := K
          have HRR : Hid (Raw w3 H n su (lay s.sure s.wait) s.wait s.fuse s.off) := R
          clear hrow hkg hsu R K
          go_wp2_with fail
          go_loopg [11, 68, 69, 70, 71, 72, 73, 74, 75, 76, 77, 78, 79, 80, 81, 82, 83, 84, 85, 86, 87] k (fun g s11 s68 s69 s70 s71 s72 s73 s74 s75 s76 s77 s78 s79 s80 s81 s82 s83 s84 s85 s86 s87 wx => ∃ i : Nat, i + g = k ∧ s68 = .int .i64 i ∧ Raw wx H n su (back su (lay s.sure s.wait) (s.wait.take i)) s.wait s.fuse s.off ∧ Kept H.foot w wx)
          case atStart => exact ⟨0, by omega, rfl, by simpa [back] using HRR.out, HK.out⟩
          case round =>
            obtain ⟨i, hig, rfl, R, K⟩ := hrel
            clear hq
            by_cases hi : i < k
            · have hiI : (i : Int) < (k : Int) := by omega
              obtain ⟨x, hx⟩ : ∃ x, s.wait[i]? = some x := ⟨_, List.getElem?_eq_getElem (by have := HM.out; omega)⟩
              obtain ⟨g, cap', hv, hrange⟩ := R.at_ hx
              rw [hwv] at hv
              simp only [Value.slice.injEq] at hv
              obtain ⟨rfl, hmm, rfl⟩ := hv
              clear hmm
              obtain ⟨hxa, hxl⟩ := R.ats x (List.mem_of_getElem? hx)
              have RA := R.alloc (.cells (wArr x) 53)
              have p0 := RA.c0
              have p1 := RA.c1
              obtain ⟨b0, _⟩ := wArr_cell (heap_alloc_last wr (.cells (wArr x) 53))
              have hxs : x.1 < su.length := by rw [RA.l1]; exact hxa
              have hbk : su[x.1]? = some (su.getD x.1 []) := by simp [hxs]
              have hbl : (su.getD x.1 []).length = 128 := RA.b1 _ (List.mem_of_getElem? hbk)
              have b1 := RA.sure.range (i := x.1) (r := bcells (su.getD x.1 [])) (by rw [List.getElem?_map, hbk]; rfl)
              have th := RA.seen.there (i := x.1) (by rw [List.length_map, RA.l2]; exact hxa)
              obtain ⟨cs, hcs⟩ : ∃ cs, cs = bcells (su.getD x.1 []) := ⟨_, rfl⟩
              rw [← hcs] at b1
              have hcl : cs.length = 128 := by rw [hcs, bcells_len, hbl]
              have hone : ∀ v ∈ cs, v.oneCell' = true := by rw [hcs]; exact bcells_one _
              have hin : Option.map (fun x => x.size) (Tryd.prog.info? 51) = some cs.length := by rw [hcl]; exact size_block
              have hws := wArr_size hxl
              have d2 := R.d2
              have d3 := R.d3
              have nB : wr.heap.size ≠ H.bn := Nat.ne_of_gt (R.lt (.inr (.inr (.inl rfl))))
              have hxI : (x.1 : Int) < (n : Int) := by omega
              have hr2 : IntKind.i64.wrap ((i : Int) + 1) = (i : Int) + 1 := by rw [IntKind.wrap_i64]; omega
              have hwl : some (wcells x).length = some 129 := by simp [wcells, bcells_len, hxl]
              have HR : Hid (Raw (wr.alloc (.cells (wArr x) 53)) H n su (back su (lay s.sure s.wait) (s.wait.take i)) s.wait s.fuse s.off ∧ Kept H.foot w wr ∧ cs = bcells (su.getD x.1 []) ∧ s.wait[i]? = some x ∧ (su.getD x.1 []).length = 128) := ⟨RA, K, hcs, hx, hbl⟩
              clear RA K hcs hx hxl R hbl hbk hxs
              go_wp2_with (first
                | (refine wpList_load_mid rfl 53 _ rfl g (i * 129) rfl (wcells x) _ hrange Tryd.underlying53 rfl (size_write.trans hwl.symm) ?_)
                | (refine alloc_wide hz rfl rfl ?_)
                | (refine store_wide size_write _ _ _ zw (wArr x) wr rfl rfl rfl rfl rfl rfl zw_size hws (wArr_one x) ?_))
              go_region_held3 (fun w' => w'.cell? ⟨H.p, 0, none⟩ = some (.slice (some ⟨H.bs, 0, none⟩) n n) ∧ w'.cell? ⟨H.p, 1, none⟩ = some (.slice (some ⟨H.bn, 0, none⟩) n n) ∧ w'.cell? ⟨wr.heap.size, 0, none⟩ = some (.int .i64 x.1) ∧ w'.rangeAt H.bs (x.1 * 128) cs ∧ w'.there H.bn (x.1 * 128) 128)
                (first
                  | exact ⟨p0, p1, b0, b1, th⟩
                  | exact ⟨(World.cell?_setCells_out _ _ _ _ _ (fun e _ => absurd e d2)).trans p0, (World.cell?_setCells_out _ _ _ _ _ (fun e _ => absurd e d2)).trans p1, (World.cell?_setCells_out _ _ _ _ _ (fun e _ => absurd e nB)).trans b0, World.rangeAt_setCells_apart ((World.rangeAt_drew _ _ _ _).2 b1) _ _ _ (.inl d3), World.there_setCells ((World.there_drew _ _ _ _).2 th) _ _ _⟩)
                (fail)
              all_goals go_wp2
              go_roundg (k - (i + 1))
              case measure => omega
              case rel =>
                obtain ⟨RA, K, hcs, hx, hbl⟩ := HR.out
                refine ⟨i + 1, by omega, by go_num, ?_, ?_⟩
                · rw [back_take _ _ _ _ _ hx, hcs]
                  exact RA.drew.setSeen hxa hbl
                · exact Kept.setCells (.inl (.inr (.inr (.inl rfl)))) _ _ _ (K.alloc _).drew
            · have hiI : ¬ (i : Int) < (k : Int) := by omega
              obtain rfl : i = k := by omega
              have ht : s.wait.take i = s.wait := by rw [HM.out, List.take_length]
              rw [ht] at R
              have hbb : back su (lay s.sure s.wait) s.wait = su := by
                rw [HS.out]
                exact back_all _ _ _ (fun x hx => keepW_mem _ _ _ x hx)
              rw [hbb] at R
              clear ht hbb
              have q2 := R.c2
              have q3 := R.c3
              have q4 := R.c4
              have f2 := R.fr 2
              have f3 := R.fr 3
              have f4 := R.fr 4
              have DD := ((R.setNone.setF (-1) (by omega)).setO false).is rfl
              have TT : Turned H { H with wv := .slice none 0 0 } w (((wr.setCell ⟨H.p, 2, none⟩ (.slice none 0 0)).setCell ⟨H.p, 3, none⟩ (.int .i64 (-1))).setCell ⟨H.p, 4, none⟩ (.bool false)) :=
                ⟨rfl, ((K.setCell (p := ⟨H.p, 2, none⟩) (.inl (.inl rfl)) _).setCell (p := ⟨H.p, 3, none⟩) (.inl (.inl rfl)) _).setCell (p := ⟨H.p, 4, none⟩) (.inl (.inl rfl)) _, fun x hx => by
                  rcases hx with rfl | rfl | rfl | hx
                  · exact .inl (.inl rfl)
                  · exact .inl (.inr (.inl rfl))
                  · exact .inl (.inr (.inr (.inl rfl)))
                  · simp [Value.ownBlock] at hx⟩
              rw [HS.out] at DD
              clear R K
              go_wp2
              go_ret
              exact ⟨rfl, _, DD, TT⟩
end Go.Proofs.YthcjjcfiademnaaDoor
/-
  Regions that draw their order, whose last operation waits for all others: where these are quiet in a class of worlds, the walk in the order of the text serves, and the last operation is done in whatever world of the class. No program is spoken of.
-/
namespace Go.Proofs.YthcjjcfiademnaaDoor
open Go.RowKit

/-- What the text of the region must be. -/
def lastB (L : List Oper) : Bool :=
  Region.lexB .any L.dropLast.toArray &&
  (match L.getLast? with
    | some z => z.guard.isNone && ((List.range L.dropLast.length).all fun i => z.after.any fun e => Region.binds .any e && (e.on == i || (match L.dropLast[e.on]? with | some o => o.after.any fun e' => Region.binds .any e' && e'.on == i | none => false))) && (z.after.all fun e => !Region.binds .any e || decide (e.on < L.dropLast.length))
    | none => false) &&
  ((List.range L.dropLast.length).all fun j => match L.dropLast[j]? with
    | some o => (o.after.all fun e => !Region.binds .any e || decide (e.on < j)) && (match o.guard with | some (k, _) => decide (k < L.dropLast.length) | none => true)
    | none => true)

section
variable {P : Program} {l : List Oper} {z : Oper} {Q : Exit → Act → World → Prop}

theorem push_get (l : List Oper) (z : Oper) (j : Nat) (hj : j < l.length) : (l ++ [z]).toArray[j]? = l.toArray[j]? := by
  simp [List.getElem?_append_left hj]
theorem yielded_push (l : List Oper) (z : Oper) (t : Array Value) (j : Nat) (hj : j < l.length) : yielded (l ++ [z]).toArray t j = yielded l.toArray t j := by
  unfold yielded
  rw [push_get l z j hj]
theorem wanted_push (o : Oper) (hg : ∀ k b, o.guard = some (k, b) → k < l.length) (t : Array Value) : Region.wanted o (yielded (l ++ [z]).toArray t) = Region.wanted o (yielded l.toArray t) := by
  unfold Region.wanted
  split
  · rfl
  · rename_i k b hk
    rw [yielded_push l z t k (hg k b hk)]
theorem listed_push (a : Array Bool) (j : Nat) (d : Bool) (hj : j < a.size) : (a.push false).getD j d = a.getD j d := by
  simp [Array.getElem?_push, Nat.ne_of_lt hj]
theorem listed_pushF (a : Array Bool) (j : Nat) : (a.push false).getD j false = a.getD j false := by
  by_cases h : j < a.size
  · exact listed_push a j false h
  · by_cases e : j = a.size
    · subst e; simp
    · simp [Array.getElem?_push, e]
/-- How many have not come up. -/
def unl (a : Array Bool) : Nat := a.toList.count false
theorem unl_set (a : Array Bool) (i : Nat) (h : a.getD i true = false) : unl (a.setIfInBounds i true) + 1 = unl a := by
  have hi : i < a.size := by
    rcases Nat.lt_or_ge i a.size with h' | h'
    · exact h'
    · simp [Array.getElem?_eq_none h'] at h
  have h0 : a.toList[i]'(by simpa using hi) = false := by simpa [hi] using h
  unfold unl
  rw [Array.toList_setIfInBounds, List.count_set (by simpa using hi), h0]
  have h1 : false ∈ a.toList := by
    have hm := List.getElem_mem (l := a.toList) (n := i) (by simpa using hi)
    rwa [h0] at hm
  have h2 : 0 < a.toList.count false := List.count_pos_iff.2 h1
  have e1 : (false == false) = true := rfl
  have e2 : (true == false) = false := rfl
  simp only [e1, e2, if_true, Bool.false_eq_true, if_false]
  omega
theorem unl_pos (a : Array Bool) (h : 0 < unl a) : ∃ i, i < a.size ∧ a.getD i true = false ∧ ∀ j, j < i → a.getD j true = true := by
  have hm : false ∈ a.toList := List.count_pos_iff.1 h
  obtain ⟨i, hi, he⟩ := List.getElem_of_mem hm
  have hex : ∃ i, i < a.size ∧ a.getD i true = false := ⟨i, by simpa using hi, by simp at hi; simp [hi]; simpa using he⟩
  obtain ⟨n, hn⟩ : ∃ n, n = a.size := ⟨_, rfl⟩
  have key : ∀ n, (∃ i, i < n ∧ i < a.size ∧ a.getD i true = false) → ∃ i, i < a.size ∧ a.getD i true = false ∧ ∀ j, j < i → a.getD j true = true := by
    intro n
    induction n with
    | zero => rintro ⟨i, hi, _⟩; omega
    | succ n ih =>
      rintro ⟨i, hi, h1, h2⟩
      by_cases hx : ∃ i, i < n ∧ i < a.size ∧ a.getD i true = false
      · exact ih hx
      · refine ⟨i, h1, h2, fun j hj => ?_⟩
        cases hb : a.getD j true with
        | true => rfl
        | false => exact absurd ⟨j, by omega, by omega, hb⟩ hx
  obtain ⟨i, h1, h2⟩ := hex
  exact key (i + 1) ⟨i, by omega, h1, h2⟩
theorem unl_zero (a : Array Bool) (h : unl a = 0) (j : Nat) (hj : j < a.size) : a.getD j false = true := by
  cases hb : a.getD j false with
  | true => rfl
  | false =>
    have : false ∈ a.toList := by
      have h0 : a[j] = false := by simpa [hj] using hb
      rw [← h0]
      exact Array.getElem_mem_toList hj
    have := List.count_pos_iff.2 this
    unfold unl at h
    omega

theorem ready_lt {listed : Array Bool} (hs : listed.size = l.length) {j : Nat} (hj : j < l.length) : j ∈ Region.ready .any (l ++ [z]).toArray (listed.push false) ↔ j ∈ Region.ready .any l.toArray listed := by
  rw [mem_ready, mem_ready, push_get l z j hj, listed_push listed j true (by omega)]
  constructor
  · rintro ⟨h1, o, ho, h2⟩
    exact ⟨h1, o, ho, fun e he hb => by rw [← listed_pushF]; exact h2 e he hb⟩
  · rintro ⟨h1, o, ho, h2⟩
    exact ⟨h1, o, ho, fun e he hb => by rw [listed_pushF]; exact h2 e he hb⟩
theorem ready_top {ops : Array Oper} {listed : Array Bool} {j : Nat} (h : j ∈ Region.ready .any ops listed) : j < ops.size := by
  obtain ⟨_, o, ho, _⟩ := mem_ready.1 h
  exact (Array.getElem?_eq_some_iff.1 ho).1
/-- What is asked behind the others: the last operation. -/
def Then (P : Program) (z : Oper) (Q : Exit → Act → World → Prop) : Exit → Act → World → Prop
  | .normal, a, w => z.wp P a w (fun a w => Q .normal a w) Q
  | e, a, w => Q e a w
theorem then_panic {d : Option Tmp} {v : Value} (hQ : ∀ c a w, Q (.panic c) (a.put d v) w → Q (.panic c) a w) : ∀ c a w, Then P z Q (.panic c) (a.put d v) w → Then P z Q (.panic c) a w := hQ
theorem wp_then {o : Oper} {a : Act} {w : World} {K K' : Act → World → Prop} (h : ∀ a w, K a w → K' a w) (hh : o.wp P a w K (Then P z Q)) : o.wp P a w K' Q := by
  unfold Oper.wp at *
  generalize (execOp a.eval o).run P w = r at *
  cases r with
  | ok n w' =>
    cases n <;> simp only [Oper.upon] at hh ⊢
    case value => exact h _ _ hh
    case skip => exact h _ _ hh
    case defer => exact h _ _ hh
    case enter =>
      refine Calls.mono hh (fun e w'' he => ?_)
      cases e with
      | returned v => exact h _ _ he
      | panicked c => exact he
      | outgrown => exact he
    case row => exact Rows.mono hh (fun _ _ he => h _ _ he)
  | halt x w' => cases x <;> simp only [Oper.upon] at hh ⊢ <;> exact hh
theorem any_of_pre (hdep : ∀ j o, l[j]? = some o → (∀ e ∈ o.after, Region.binds .any e = true → e.on < j) ∧ ∀ k b, o.guard = some (k, b) → k < l.length)
    (hz : z.guard = none) (hw : ∀ i, i < l.length → ∃ e ∈ z.after, Region.binds .any e = true ∧ (e.on = i ∨ ∃ o, l[e.on]? = some o ∧ ∃ e' ∈ o.after, Region.binds .any e' = true ∧ e'.on = i)) (hze : ∀ e ∈ z.after, Region.binds .any e = true → e.on < l.length) :
    ∀ (fuel : Nat) (listed : Array Bool) (a : Act) (w : World), listed.size = l.length → unl listed = fuel → (∀ j o, l[j]? = some o → listed.getD j false = true → ∀ e ∈ o.after, Region.binds .any e = true → listed.getD e.on false = true) →
      wpAny P .any l.toArray (Then P z Q) fuel listed a w → wpAny P .any (l ++ [z]).toArray Q (fuel + 1) (listed.push false) a w := by
  intro fuel
  induction fuel with
  | zero =>
    intro listed a w hs hu _ h
    have hall := unl_zero listed hu
    have hone : ∀ j, j < l.length → ¬ (listed.getD j true = false) := fun j hj e => by
      have h1 := hall j (by omega)
      have hj' : j < listed.size := by omega
      simp [hj'] at e h1
      rw [e] at h1
      cases h1
    have hrz : l.length ∈ Region.ready .any (l ++ [z]).toArray (listed.push false) := by
      rw [mem_ready]
      refine ⟨by simp [← hs], z, by simp, fun e he hb => ?_⟩
      rw [listed_pushF]
      exact hall _ (by have := hze e he hb; omega)
    refine ⟨fun h0 => (by rw [h0] at hrz; cases hrz), fun i hi => ?_⟩
    have hlt := ready_top hi
    have hil : i = l.length := by
      simp at hlt
      rcases Nat.lt_or_ge i l.length with h' | h'
      · have := (mem_ready.1 hi).1
        rw [listed_push listed i true (by omega)] at this
        exact absurd this (hone i h')
      · omega
    subst hil
    have hsz : (l ++ [z]).toArray[l.length]? = some z := by simp
    unfold wpOp
    simp only [hsz, Region.wanted, hz, if_true]
    have hlast : z.wp P a w (fun a w => Q .normal a w) Q := h.2
    refine .inl (Oper.wp_mono (fun a' w' hq => ⟨?_, hq⟩) hlast)
    cases hr : Region.ready .any (l ++ [z]).toArray ((listed.push false).setIfInBounds l.length true) with
    | nil => rfl
    | cons x xs =>
      have hx : x ∈ Region.ready .any (l ++ [z]).toArray ((listed.push false).setIfInBounds l.length true) := by rw [hr]; simp
      have hxt := ready_top hx
      have hx1 := (mem_ready.1 hx).1
      simp at hxt
      by_cases e : x = l.length
      · subst e
        simp [← hs] at hx1
      · rw [getD_set_ne true (fun h' => e h'.symm), listed_push listed x true (by omega)] at hx1
        exact absurd hx1 (hone x (by omega))
  | succ fuel ih =>
    intro listed a w hs hu hcl h
    obtain ⟨i0, hi0, hf0, hmin⟩ := unl_pos listed (by omega)
    have hr0 : i0 ∈ Region.ready .any l.toArray listed := by
      have hsome : l[i0]? = some l[i0] := List.getElem?_eq_getElem (by omega)
      rw [mem_ready]
      refine ⟨hf0, l[i0], by simp, fun e he hb => ?_⟩
      have hlt := (hdep i0 _ hsome).1 e he hb
      have h1 := hmin _ hlt
      have h2 : e.on < listed.size := by omega
      simp [h2] at h1 ⊢
      exact h1
    have hr1 := (ready_lt (z := z) hs (by omega)).2 hr0
    refine ⟨fun h0 => (by rw [h0] at hr1; cases hr1), fun i hi => ?_⟩
    have hlt := ready_top hi
    have hil : i < l.length := by
      simp at hlt
      rcases Nat.lt_or_ge i l.length with h' | h'
      · exact h'
      · have e : i = l.length := by omega
        subst e
        obtain ⟨_, o, ho, hall⟩ := mem_ready.1 hi
        have hsz : (l ++ [z]).toArray[l.length]? = some z := by simp
        rw [hsz] at ho
        cases ho
        obtain ⟨e, he, hb, heq⟩ := hw i0 (by omega)
        have this := hall e he hb
        rw [listed_pushF] at this
        have this : listed.getD i0 false = true := by
          rcases heq with heq | ⟨o, ho, e', he', hb', heq⟩
          · rw [heq] at this; exact this
          · have h1 := hcl e.on o ho this e' he' hb'
            rw [heq] at h1
            exact h1
        simp [hi0] at this hf0
        rw [hf0] at this
        cases this
    have hi' := (ready_lt (z := z) hs hil).1 hi
    have hq := h.2 i hi'
    obtain ⟨hun, o, ho, hrd⟩ := mem_ready.1 hi'
    have ho' : l[i]? = some o := by simpa using ho
    have hset : (listed.push false).setIfInBounds i true = (listed.setIfInBounds i true).push false := by
      apply Array.ext'
      simp [List.set_append_left, hs, hil]
    have hus := unl_set listed i hun
    have hkeep : ∀ j, listed.getD j false = true → (listed.setIfInBounds i true).getD j false = true := fun j hj => by
      by_cases e : i = j
      · subst e
        have : i < listed.size := by omega
        simp [this]
      · rw [getD_set_ne false e]
        exact hj
    have hcl2 : ∀ j o, l[j]? = some o → (listed.setIfInBounds i true).getD j false = true → ∀ e ∈ o.after, Region.binds .any e = true → (listed.setIfInBounds i true).getD e.on false = true := by
      intro j o2 ho2 hj e he hb
      by_cases ej : i = j
      · subst ej
        rw [ho'] at ho2
        cases ho2
        exact hkeep _ (hrd e he hb)
      · rw [getD_set_ne false ej] at hj
        exact hkeep _ (hcl j o2 ho2 hj e he hb)
    unfold wpOp at hq
    rw [ho] at hq
    unfold wpOp
    rw [push_get l z i hil, ho]
    simp only at hq ⊢
    rw [wanted_push o (hdep i o ho').2]
    have hnext : ∀ a' w', wpAny P .any l.toArray (Then P z Q) fuel (listed.setIfInBounds i true) a' w' → wpAny P .any (l ++ [z]).toArray Q (fuel + 1) ((listed.push false).setIfInBounds i true) a' w' := by
      intro a' w' h'
      rw [hset]
      exact ih _ _ _ (by simpa using hs) (by omega) hcl2 h'
    split
    · rename_i hwt
      simp only [hwt, if_true] at hq
      rcases hq with hq | ⟨hq, a', w', hl⟩
      · exact .inl (wp_then hnext hq)
      · exact .inr ⟨hq, a', w', hl⟩
    · rename_i hwt
      simp only [hwt] at hq
      exact hnext _ _ hq

/-- **The last operation waits for all others.** -/
theorem wp_region_then {id : Nat} {a : Act} {w : World} {L : List Oper} (z : Oper) (hm : P.follows .mixedOrders = true) (hL : L.getLast? = some z) (hB : lastB L = true)
    (h : wpAny P .any L.dropLast.toArray (Then P z Q) L.dropLast.length (Array.replicate L.dropLast.length false) a w.drew) : (Code.region id L.toArray true).wp P Q a w := by
  have hne : L = L.dropLast ++ [z] := by
    have hn : L ≠ [] := by intro e; subst e; simp at hL
    have h1 := List.dropLast_concat_getLast hn
    rw [List.getLast?_eq_some_getLast hn] at hL
    rw [Option.some.inj hL] at h1
    exact h1.symm
  obtain ⟨l, hl⟩ : ∃ l, l = L.dropLast := ⟨_, rfl⟩
  unfold lastB at hB
  rw [hL] at hB
  rw [← hl] at hne h hB
  subst hne
  simp only [Bool.and_eq_true, List.all_eq_true, List.mem_range, Region.lexB, Option.isNone_iff_eq_none] at hB
  obtain ⟨⟨⟨hns, hlex⟩, ⟨hzg, hz1⟩, hz2⟩, hdep⟩ := hB
  refine wp_region_any hm ?_
  have hrep : Array.replicate (l ++ [z]).toArray.size false = (Array.replicate l.length false).push false := by
    apply Array.ext'
    simp [List.replicate_succ']
  have hsz : (l ++ [z]).toArray.size = l.length + 1 := by simp
  rw [hrep, hsz]
  refine any_of_pre ?_ hzg ?_ ?_ l.length _ a _ (by simp) ?_ ?_ h
  · intro j o ho
    have hj := (List.getElem?_eq_some_iff.1 ho).1
    have h1 := hdep j hj
    rw [ho] at h1
    simp only [Bool.and_eq_true, Array.all_eq_true_iff_forall_mem, Bool.or_eq_true, Bool.not_eq_true', decide_eq_true_eq] at h1
    refine ⟨fun e he hb => ?_, fun k b hg => ?_⟩
    · rcases h1.1 e he with h2 | h2
      · rw [hb] at h2; cases h2
      · exact h2
    · have h2 := h1.2
      rw [hg] at h2
      simpa using h2
  · intro i hi
    have h1 := hz1 i hi
    rw [Array.any_eq_true] at h1
    obtain ⟨j, hj, h2⟩ := h1
    simp only [Bool.and_eq_true, Bool.or_eq_true, beq_iff_eq] at h2
    refine ⟨z.after[j], Array.getElem_mem hj, h2.1, ?_⟩
    rcases h2.2 with h3 | h3
    · exact .inl h3
    · cases ho : l[z.after[j].on]? with
      | none => rw [ho] at h3; cases h3
      | some o =>
        rw [ho] at h3
        simp only [Array.any_eq_true, Bool.and_eq_true, beq_iff_eq] at h3
        obtain ⟨j', hj', h4⟩ := h3
        exact .inr ⟨o, rfl, o.after[j'], Array.getElem_mem hj', h4.1, h4.2⟩
  · intro e he hb
    rw [Array.all_eq_true_iff_forall_mem] at hz2
    have h1 := hz2 e he
    simp only [Bool.or_eq_true, Bool.not_eq_true', decide_eq_true_eq] at h1
    rcases h1 with h1 | h1
    · rw [hb] at h1; cases h1
    · exact h1
  · unfold unl
    simp
  · intro j o _ hj
    simp [Array.getElem?_replicate] at hj
    split at hj <;> simp at hj
/-- The others held under the condition S. -/
theorem wp_region_held_then {id : Nat} {a : Act} {w : World} {L : List Oper} (S : World → Prop) (z : Oper) (hm : P.follows .mixedOrders = true) (hL : L.getLast? = some z) (hB : lastB L = true)
    (h : wpAnyH P .any L.dropLast.toArray (Then P z Q) S L.dropLast.length (Array.replicate L.dropLast.length false) a w.drew) : (Code.region id L.toArray true).wp P Q a w :=
  wp_region_then z hm hL hB (wpAny_of_held _ _ _ _ h)
/-- One of the others, by its number, taken first. -/
theorem takeL {S : World → Prop} (i : Nat) {oi : Oper} {v : Value} {fuel : Nat} {listed : Array Bool} {a : Act} {w : World} (hi : l[i]? = some oi)
    (hs : Region.noSelect l.toArray = true) (hf : Region.free .any l.toArray listed i = true) (hr : (Region.ready .any l.toArray listed).contains i = true) (hQ : ∀ c a w, Q (.panic c) (a.put oi.dst v) w → Q (.panic c) a w)
    (hw : Region.wanted oi (yielded l.toArray a.tmps) = true) (hS : S w) (hy : ∀ w, S w → (execOp a.eval oi).run P w = .ok (.value v) w)
    (h : wpAnyH P .any l.toArray (Then P z Q) S fuel (listed.setIfInBounds i true) (a.put oi.dst v) w) : wpAnyH P .any l.toArray (Then P z Q) S (fuel + 1) listed a w :=
  wpAnyH_take (by simpa using hi) hs hf hr (then_panic hQ) (.inl ⟨hw, hy⟩) hS h
/-- A call of a Go function that alone may come up. -/
theorem callL {S : World → Prop} (i : Nat) {oi : Oper} {f : FuncId} {vs : Array Value} {fuel : Nat} {listed : Array Bool} {a : Act} {w : World} (hi : l[i]? = some oi) (hr : Region.ready .any l.toArray listed = [i])
    (hw : Region.wanted oi (yielded l.toArray a.tmps) = true) (hop : (execOp a.eval oi).run P w = .ok (.enter f vs) w)
    (hc : Calls P f vs w fun e w' => ∃ v, e = .returned v ∧ S w' ∧ wpAnyH P .any l.toArray (Then P z Q) S fuel (listed.setIfInBounds i true) (a.put oi.dst v) w') : wpAnyH P .any l.toArray (Then P z Q) S (fuel + 1) listed a w := by
  refine wpAnyH_all hr (by simp) ?_
  intro j hj
  simp only [List.mem_singleton] at hj
  subst hj
  have hi' : l.toArray[j]? = some oi := by simpa using hi
  unfold wpOp
  simp only [hi', hw, if_true]
  refine .inl ?_
  unfold Oper.wp
  rw [hop]
  refine Calls.mono hc fun e w' he => ?_
  obtain ⟨v, rfl, h⟩ := he
  exact h
/-- A store that alone may come up. -/
theorem stepL {S : World → Prop} (i : Nat) {oi : Oper} {fuel : Nat} {listed : Array Bool} {a : Act} {w : World} (w' : World) (hi : l[i]? = some oi) (hr : Region.ready .any l.toArray listed = [i])
    (hw : Region.wanted oi (yielded l.toArray a.tmps) = true) (hop : (execOp a.eval oi).run P w = .ok .skip w') (hS : S w')
    (h : wpAnyH P .any l.toArray (Then P z Q) S fuel (listed.setIfInBounds i true) (a.put oi.dst undef) w') : wpAnyH P .any l.toArray (Then P z Q) S (fuel + 1) listed a w := by
  refine wpAnyH_all hr (by simp) ?_
  intro j hj
  simp only [List.mem_singleton] at hj
  subst hj
  have hi' : l.toArray[j]? = some oi := by simpa using hi
  unfold wpOp
  simp only [hi', hw, if_true]
  refine .inl ?_
  unfold Oper.wp
  rw [hop]
  exact ⟨hS, h⟩
/-- A variable that is made, where that alone may come up. -/
theorem newL {S : World → Prop} (i : Nat) {oi : Oper} {fuel : Nat} {listed : Array Bool} {a : Act} {w : World} (w' : World) (v : Value) (hi : l[i]? = some oi) (hr : Region.ready .any l.toArray listed = [i])
    (hw : Region.wanted oi (yielded l.toArray a.tmps) = true) (hop : (execOp a.eval oi).run P w = .ok (.value v) w') (hS : S w')
    (h : wpAnyH P .any l.toArray (Then P z Q) S fuel (listed.setIfInBounds i true) (a.put oi.dst v) w') : wpAnyH P .any l.toArray (Then P z Q) S (fuel + 1) listed a w := by
  refine wpAnyH_all hr (by simp) ?_
  intro j hj
  simp only [List.mem_singleton] at hj
  subst hj
  have hi' : l.toArray[j]? = some oi := by simpa using hi
  unfold wpOp
  simp only [hi', hw, if_true]
  refine .inl ?_
  unfold Oper.wp
  rw [hop]
  exact ⟨hS, h⟩
/-- A call of a Go function or a variable that is made, whichever comes up first. -/
theorem callNewL {S : World → Prop} (i j : Nat) {oi oj : Oper} {f : FuncId} {vs : Array Value} {fuel : Nat} {listed : Array Bool} {a : Act} {w : World} (w' : World) (v : Value) (hi : l[i]? = some oi) (hj : l[j]? = some oj) (hr : Region.ready .any l.toArray listed = [i, j])
    (hwi : Region.wanted oi (yielded l.toArray a.tmps) = true) (hwj : Region.wanted oj (yielded l.toArray a.tmps) = true) (hop : (execOp a.eval oi).run P w = .ok (.enter f vs) w) (hop' : (execOp a.eval oj).run P w = .ok (.value v) w') (hS : S w')
    (hc : Calls P f vs w fun e w' => ∃ v, e = .returned v ∧ S w' ∧ wpAnyH P .any l.toArray (Then P z Q) S fuel (listed.setIfInBounds i true) (a.put oi.dst v) w')
    (h : wpAnyH P .any l.toArray (Then P z Q) S fuel (listed.setIfInBounds j true) (a.put oj.dst v) w') : wpAnyH P .any l.toArray (Then P z Q) S (fuel + 1) listed a w := by
  refine wpAnyH_all hr (by simp) ?_
  intro k hk
  simp only [List.mem_cons, List.not_mem_nil, or_false] at hk
  have hi' : l.toArray[i]? = some oi := by simpa using hi
  have hj' : l.toArray[j]? = some oj := by simpa using hj
  rcases hk with rfl | rfl
  · unfold wpOp
    simp only [hi', hwi, if_true]
    refine .inl ?_
    unfold Oper.wp
    rw [hop]
    refine Calls.mono hc fun e w' he => ?_
    obtain ⟨v, rfl, h⟩ := he
    exact h
  · unfold wpOp
    simp only [hj', hwj, if_true]
    refine .inl ?_
    unfold Oper.wp
    rw [hop']
    exact ⟨hS, h⟩
/-- All others have come up. -/
theorem doneL {S : World → Prop} {fuel : Nat} {listed : Array Bool} {a : Act} {w : World} (hr : Region.ready .any l.toArray listed = []) (h : z.wp P a w (fun a w => Q .normal a w) Q) : wpAnyH P .any l.toArray (Then P z Q) S fuel listed a w :=
  wpAnyH_done hr h fuel
/-- The others quiet in a class of worlds. -/
theorem wp_region_last {C : World → Prop} {id : Nat} {a : Act} {w : World} {L : List Oper} (z : Oper) (hm : P.follows .mixedOrders = true) (hL : L.getLast? = some z) (hB : lastB L = true) (hC : C w.drew)
    (h : wpQuiet P L.dropLast.toArray C (fun a' => ∀ w', C w' → z.wp P a' w' (fun a w => Q .normal a w) Q) L.dropLast a) : (Code.region id L.toArray true).wp P Q a w := by
  refine wp_region_then z hm hL hB (wpAny_of_quiet (C := C) (Q := fun a' => ∀ w', C w' → z.wp P a' w' (fun a w => Q .normal a w) Q) (fun a w' hw' hq => hq w' hw') _ _ _ _ hC ?_)
  unfold lastB at hB
  simp only [Bool.and_eq_true, Region.lexB] at hB
  exact wpAnyQ_lex (P := P) (C := C) (md := .any) hB.1.1.1 L.dropLast 0 (Array.replicate L.dropLast.length false) a (by simp) (by simpa using hB.1.1.2) h
/-- The same, in the class of all worlds above the first one. -/
theorem wp_region_above_last {id : Nat} {a : Act} {w : World} {L : List Oper} (z : Oper) (hm : P.follows .mixedOrders = true) (hL : L.getLast? = some z) (hB : lastB L = true)
    (h : Nonempty (Above w) → wpQuiet P L.dropLast.toArray (fun w' => ∃ k : Above w, w' = k.it) (fun a' => ∀ w', (∃ k : Above w, w' = k.it) → z.wp P a' w' (fun a w => Q .normal a w) Q) L.dropLast a) : (Code.region id L.toArray true).wp P Q a w :=
  wp_region_last (C := fun w' => ∃ k : Above w, w' = k.it) z hm hL hB ⟨⟨w.drew, (Below.refl _ _).drew⟩, rfl⟩ (h (above_some w))
end
end Go.Proofs.YthcjjcfiademnaaDoor
/-
  A struct in a block of its own: what it reads as, behind calls and stores; a call's results of which one lies in memory. No program is spoken of.
-/
namespace Go.Proofs.YthcjjcfiademnaaDoor
open Go.RowKit

/-- The block b is the struct (or array) c. -/
def Box (w : World) (b : Nat) (t : TypeId) (c : Array Value) : Prop := w.heap[b]? = some (.cells c t (0, 0))
section
variable {w w' : World} {b : Nat} {t : TypeId} {c : Array Value}
theorem Box.lt (h : Box w b t c) : b < w.heap.size := (Array.getElem?_eq_some_iff.1 h).1
theorem Box.of_block (h : Box w b t c) (e : w'.heap[b]? = w.heap[b]?) : Box w' b t c := e.trans h
theorem Box.below {B : Nat} (h : Box w b t c) (k : Below B w w') (hb : b < B) : Box w' b t c := h.of_block (k.block b hb)
theorem Box.over (h : Box w b t c) (k : Below w.heap.size w w') : Box w' b t c := h.below k h.lt
theorem Box.kept {F : Nat → Prop} (h : Box w b t c) (k : Kept F w w') (hF : ¬ F b) : Box w' b t c := h.of_block (k.block b h.lt hF)
theorem Box.alloc (h : Box w b t c) (o : Obj) : Box (w.alloc o) b t c := h.of_block (Below.heap_alloc w o b h.lt)
theorem Box.drew (h : Box w b t c) : Box w.drew b t c := h
theorem Box.drewN (h : Box w b t c) (n : Nat) : Box (w.drewN n) b t c := h
theorem box_new (w : World) (c : Array Value) (t : TypeId) : Box (w.alloc (.cells c t)) w.heap.size t c := heap_alloc_last w _
theorem box_old (w : World) (c : Array Value) (t : TypeId) (o : Obj) : Box ((w.alloc (.cells c t)).alloc o) w.heap.size t c := (box_new w c t).alloc o
theorem Box.set (h : Box w b t c) (k : Nat) (v : Value) : Box (w.setCell ⟨b, k, none⟩ v) b t (c.setIfInBounds k v) := heap_setCell_same w b k c t v h
theorem Box.other (h : Box w b t c) {a : Addr} (hn : b ≠ a.block) (v : Value) : Box (w.setCell a v) b t c := h.of_block (heap_setCell_other w a b v hn)
theorem Box.setRow (h : Box w b t c) (c' : Array Value) : Box (w.setRow b c') b t c' := setRow_heap w b c c' t (0, 0) h
theorem Box.rowOther (h : Box w b t c) {p : Nat} (hn : b ≠ p) (c' : Array Value) : Box (w.setRow p c') b t c := h.of_block (setRow_other w p b c' hn)
theorem Box.cell (h : Box w b t c) (k : Nat) (v : Value) (hv : c[k]? = some v) : w.cell? ⟨b, k, none⟩ = some v := (cell_of_row w b k c t (0, 0) h).trans hv
theorem Box.frozen (h : Box w b t c) (k : Nat) : w.frozen? ⟨b, k, none⟩ = false := frozen_of_row w b k c t h
end
theorem below_setRow {B : Nat} {a w : World} {b : Nat} (h : Below B a w) (hb : B ≤ b) (cs : Array Value) : Below B a (w.setRow b cs) :=
  h.trans ⟨rfl, rfl, rfl, by simp, fun k hk => setRow_other w b k cs (by omega)⟩
theorem below2 (w : World) (A B : Obj) : Below w.heap.size w ((w.alloc A).alloc B) := ((Below.refl _ w).alloc (Nat.le_refl _) _).alloc (by simp) _
theorem below1 (w : World) (A : Obj) : Below w.heap.size w (w.alloc A) := (Below.refl _ w).alloc (Nat.le_refl _) _

theorem two_box {w w1 : World} {c0 c1 : Array Value} {t0 t1 : TypeId} (hb : Below ((w.alloc (.cells c0 t0)).alloc (.cells c1 t1)).heap.size ((w.alloc (.cells c0 t0)).alloc (.cells c1 t1)) w1) :
    Box w1 w.heap.size t0 c0 ∧ Box w1 (w.heap.size + 1) t1 c1 ∧ Below w.heap.size w w1 := by
  have b1 := box_new (w.alloc (.cells c0 t0)) c1 t1
  rw [World.size_alloc] at b1
  exact ⟨(box_old _ _ _ _).over hb, b1.over hb, (below2 _ _ _).trans (hb.mono (by simp; omega))⟩

section
variable {P : Program} {fn : Func} {p q : Tmp} {ty : TypeId} {w : World} {g : Nat} {t : TypeId} {cs : Array Value} {tmps : Array Value}
theorem res_box (h : fn.results = #[.cell p ty]) (d : TypeDesc) (hp : tmps.getD p undef = .pointer (some ⟨g, 0, none⟩)) (hg : Box w g t cs)
    (hu : P.underlying ty = some d) (hd : (match d with | .struct _ | .array _ _ => true | _ => false) = true) (hi : (P.info? ty).map (·.size) = some cs.size) :
    (results fn tmps).run P w = .ok (.agg cs) w := results_cell_row h tmps w g t cs (0, 0) d hp hg hu hd hi
theorem res_box_slot (h : fn.results = #[.cell p ty, .tmp q]) (d : TypeDesc) (hp : tmps.getD p undef = .pointer (some ⟨g, 0, none⟩)) (hg : Box w g t cs)
    (hu : P.underlying ty = some d) (hd : (match d with | .struct _ | .array _ _ => true | _ => false) = true) (hi : (P.info? ty).map (·.size) = some cs.size) (v : Value) (hq : tmps.getD q undef = v) :
    (results fn tmps).run P w = .ok (.tuple #[.agg cs, v]) w := by
  have hp' : tmps[p]?.getD undef = .pointer (some ⟨g, 0, none⟩) := by simpa using hp
  have hq' : tmps[q]?.getD undef = v := by simpa using hq
  have hl := run_loadVar_row (P := P) w g t ty cs (0, 0) d hg hu hd hi
  simp [results, h, hp', hq', asAddr, hl]
end
end Go.Proofs.YthcjjcfiademnaaDoor
/-
  Law 4's awake, and the contracts that it and the laws lean on, where there is no fuse and the power is on.
-/
namespace Go.Proofs.YthcjjcfiademnaaDoor
open Go.RowKit

def fl (c : UInt8) : List UInt8 := List.replicate 128 c
def FS (c : UInt8) : ByteArray := strB (fl c)
theorem fl_len (c : UInt8) : (fl c).length = 128 := by simp [fl]
theorem FS_size (c : UInt8) : (FS c).size = 128 := by rw [FS, strB_size, fl_len]
theorem FS_list (c : UInt8) : (FS c).data.toList = fl c := strB_list _
section
variable {w : World} {H : Hnd} {su : List (List UInt8)} {wt : List (Nat × List UInt8)}
theorem write_free (D : DevIs w H ⟨su, wt, -1, false⟩) (k : Nat) (c : UInt8) (hk : k < su.length) (hfew : wt.length < 1000000) :
    Calls Tryd.prog 29 #[.pointer (some ⟨H.p, 0, none⟩), .int .i64 k, .string (FS c)] w fun e w' => e = .returned (.int .i64 0) ∧ ∃ H', DevIs w' H' ⟨su, wt ++ [(k, fl c)], -1, false⟩ ∧ Turned H H' w w' := by
  have := write_on D k (FS c) hk (FS_size c) rfl hfew
  rw [FS_list] at this
  exact this
theorem sync_free (D : DevIs w H ⟨su, wt, -1, false⟩) :
    Calls Tryd.prog 30 #[.pointer (some ⟨H.p, 0, none⟩)] w fun e w' => e = .returned (.int .i64 0) ∧ ∃ H', DevIs w' H' ⟨lay su wt, [], -1, false⟩ ∧ Turned H H' w w' := sync_on D rfl
theorem read_free (D : DevIs w H ⟨su, wt, -1, false⟩) (k : Nat) (c : UInt8) (hl : (lay su wt)[k]? = some (fl c)) :
    Calls Tryd.prog 32 #[.pointer (some ⟨H.p, 0, none⟩), .int .i64 k] w fun e w' => e = .returned (.tuple #[.string (FS c), .int .i64 0]) ∧ w' = w := read_on D k (fl c) hl rfl
end
theorem reads_one (W : World) (x : BitVec 64) (n : Int) (hn : n = x.toInt) (t : TypeId) : ReadsI (W.alloc (.cells #[.int .i64 n] t)) (.slice (some ⟨W.heap.size, 0, none⟩) 1 1) [x] := by
  subst hn
  refine .inr ⟨W.heap.size, 0, 1, rfl, by simp, by simp, ?_⟩
  intro i hi
  obtain rfl : i = 0 := by simpa using hi
  rw [cell_of_row _ W.heap.size (0 + 0) _ t _ (heap_alloc_last W _)]
  rfl
/-- A device of the call's own, at p: above all that was there ahead. -/
structure Own (w0 w : World) (p : Nat) (H : Hnd) (s : St) : Prop where
  dev : DevIs w H s
  bel : Below w0.heap.size w0 w
  abv : ∀ k, H.foot k → w0.heap.size ≤ k
  at_ : H.p = p
section
variable {w0 w w' : World} {p : Nat} {H H' : Hnd} {s s' : St} {su : List (List UInt8)} {wt : List (Nat × List UInt8)}
theorem Own.turned (o : Own w0 w p H s) (D : DevIs w' H' s') (T : Turned H H' w w') : Own w0 w' p H' s' :=
  ⟨D, o.bel.trans (T.below o.abv o.bel.size), T.above o.abv o.bel.size, T.p.trans o.at_⟩
theorem Own.below (o : Own w0 w p H s) (b : Below w.heap.size w w') : Own w0 w' p H s :=
  ⟨o.dev.below b, o.bel.trans (b.mono o.bel.size), o.abv, o.at_⟩
theorem Own.alloc (o : Own w0 w p H s) (x : Obj) : Own w0 (w.alloc x) p H s := o.below ((Below.refl _ _).alloc (Nat.le_refl _) _)
theorem Own.drewN (o : Own w0 w p H s) (n : Nat) : Own w0 (w.drewN n) p H s := o.below ⟨rfl, rfl, rfl, Nat.le_refl _, fun _ _ => rfl⟩
theorem Own.write (o : Own w0 w p H ⟨su, wt, -1, false⟩) (k : Nat) (c : UInt8) (hk : k < su.length) (hfew : wt.length < 1000000) :
    Calls Tryd.prog 29 #[.pointer (some ⟨p, 0, none⟩), .int .i64 k, .string (FS c)] w fun e w' => e = .returned (.int .i64 0) ∧ ∃ H', Own w0 w' p H' ⟨su, wt ++ [(k, fl c)], -1, false⟩ ∧ Turned H H' w w' := by
  have h := o.at_
  subst h
  refine (write_free o.dev k c hk hfew).mono ?_
  rintro e w' ⟨rfl, H', D, T⟩
  exact ⟨rfl, H', o.turned D T, T⟩
theorem Own.sync (o : Own w0 w p H ⟨su, wt, -1, false⟩) :
    Calls Tryd.prog 30 #[.pointer (some ⟨p, 0, none⟩)] w fun e w' => e = .returned (.int .i64 0) ∧ ∃ H', Own w0 w' p H' ⟨lay su wt, [], -1, false⟩ ∧ Turned H H' w w' := by
  have h := o.at_
  subst h
  refine (sync_free o.dev).mono ?_
  rintro e w' ⟨rfl, H', D, T⟩
  exact ⟨rfl, H', o.turned D T, T⟩
theorem Own.read (o : Own w0 w p H ⟨su, wt, -1, false⟩) (k : Nat) (c : UInt8) (hl : (lay su wt)[k]? = some (fl c)) :
    Calls Tryd.prog 32 #[.pointer (some ⟨p, 0, none⟩), .int .i64 k] w fun e w' => e = .returned (.tuple #[.string (FS c), .int .i64 0]) ∧ w' = w := by
  have h := o.at_
  subst h
  exact read_free o.dev k c hl
theorem Own.crash (o : Own w0 w p H s) (v : Value) (l : List (BitVec 64)) (hv : ReadsI w v l) (hll : l.length ≤ maxLen) :
    Calls Tryd.prog 9 #[.pointer (some ⟨p, 0, none⟩), v] w fun e w' => e = .returned (.int .i64 0) ∧ ∃ H', Own w0 w' p H' ⟨lay s.sure (keepW (among l) 0 s.wait), [], -1, false⟩ ∧ Turned H H' w w' := by
  have h := o.at_
  subst h
  refine (crash_any o.dev v l hv hll).mono ?_
  rintro e w' ⟨rfl, H', D, T⟩
  exact ⟨rfl, H', o.turned D T, T⟩
theorem Own.size (o : Own w0 w p H s) :
    Calls Tryd.prog 28 #[.pointer (some ⟨p, 0, none⟩)] w fun e w' => e = .returned (.int .i64 s.sure.length) ∧ w' = w := by
  have h := o.at_
  subst h
  exact o.dev.size w rfl
end
theorem own_new {w w1 : World} {H : Hnd} {s : St} (D : DevIs w1 H s) (b : Below w.heap.size w w1) (a : ∀ k, H.foot k → w.heap.size ≤ k) : Own w w1 H.p H s := ⟨D, b, a, rfl⟩

end Go.Proofs.YthcjjcfiademnaaDoor
/-
  The contract of a device's Waiting; what Spoil and Waiting answer where there is no device.
-/
namespace Go.Proofs.YthcjjcfiademnaaDoor
open Go.RowKit

theorem toInt_small (a : Nat) (h : a < 1000000) : (BitVec.ofNat 64 a).toInt = (a : Int) := by
  rw [BitVec.toInt_eq_toNat_bmod, BitVec.toNat_ofNat, Int.bmod_def]
  omega
def ats (wt : List (Nat × List UInt8)) : List (BitVec 64) := wt.map fun x => BitVec.ofNat 64 x.1
theorem ats_len (wt : List (Nat × List UInt8)) : (ats wt).length = wt.length := by simp [ats]

end Go.Proofs.YthcjjcfiademnaaDoor
/-
  A device of the call's own with a fuse: what Write and Sync do with it; small masks of words.
-/
namespace Go.Proofs.YthcjjcfiademnaaDoor
open Go.RowKit

section
variable {w0 w w' : World} {p : Nat} {H H' : Hnd} {s s' : St} {su : List (List UInt8)} {wt : List (Nat × List UInt8)} {f : Int}
theorem Own.fuse (o : Own w0 w p H s) (n : Int) (hn : -9223372036854775808 ≤ n ∧ n < 9223372036854775808) :
    Calls Tryd.prog 7 #[.pointer (some ⟨p, 0, none⟩), .int .i64 n] w fun e w' => e = .returned (.int .i64 0) ∧ Own w0 w' p H { s with fuse := n } := by
  have h := o.at_
  subst h
  refine (fuse_any o.dev n hn).mono ?_
  rintro e w' ⟨rfl, D, T⟩
  exact ⟨rfl, o.turned D T⟩
theorem Own.write_pos (o : Own w0 w p H ⟨su, wt, f, false⟩) (hf : 0 < f) (k : Nat) (c : UInt8) (hk : k < su.length) (hfew : wt.length < 1000000) :
    Calls Tryd.prog 29 #[.pointer (some ⟨p, 0, none⟩), .int .i64 k, .string (FS c)] w fun e w' => e = .returned (.int .i64 0) ∧ ∃ H', Own w0 w' p H' ⟨su, wt ++ [(k, fl c)], f - 1, false⟩ := by
  have h := o.at_
  subst h
  have h0 : ¬ f = 0 := by omega
  have hb0 : (f == 0) = false := by simpa using h0
  refine (write_on o.dev k (FS c) hk (FS_size c) (by simp [St.goes, h0]) hfew).mono ?_
  rintro e w' ⟨rfl, H', D, T⟩
  rw [FS_list] at D
  have D' : DevIs w' H' ⟨su, wt ++ [(k, fl c)], f - 1, false⟩ := by simpa [St.write, St.burnt, h0, hf, hb0] using D
  exact ⟨rfl, H', o.turned D' T⟩
theorem Own.sync_pos (o : Own w0 w p H ⟨su, wt, f, false⟩) (hf : 0 < f) :
    Calls Tryd.prog 30 #[.pointer (some ⟨p, 0, none⟩)] w fun e w' => e = .returned (.int .i64 0) ∧ ∃ H', Own w0 w' p H' ⟨lay su wt, [], f - 1, false⟩ := by
  have h := o.at_
  subst h
  have h0 : ¬ f = 0 := by omega
  have hb0 : (f == 0) = false := by simpa using h0
  refine (sync_on o.dev (by simp [St.goes, h0])).mono ?_
  rintro e w' ⟨rfl, H', D, T⟩
  have D' : DevIs w' H' ⟨lay su wt, [], f - 1, false⟩ := by simpa [St.synced, St.burnt, h0, hf, hb0] using D
  exact ⟨rfl, H', o.turned D' T⟩
theorem Own.write_dead {b : Bool} (o : Own w0 w p H ⟨su, wt, f, b⟩) (hf : b = true ∧ f = -1 ∨ b = false ∧ f = 0) (k : Nat) (c : UInt8) (hk : k < su.length) :
    Calls Tryd.prog 29 #[.pointer (some ⟨p, 0, none⟩), .int .i64 k, .string (FS c)] w fun e w' => e = .returned (.int .i64 40) ∧ Own w0 w' p H ⟨su, wt, -1, true⟩ := by
  have h := o.at_
  subst h
  refine (write_off o.dev k (FS c) hk (FS_size c) (by rcases hf with ⟨rfl, rfl⟩ | ⟨rfl, rfl⟩ <;> simp [St.goes])).mono ?_
  rintro e w' ⟨rfl, D, T⟩
  have D' : DevIs w' H ⟨su, wt, -1, true⟩ := by rcases hf with ⟨rfl, rfl⟩ | ⟨rfl, rfl⟩ <;> simpa [St.burnt] using D
  exact ⟨rfl, o.turned D' T⟩
theorem Own.sync_dead {b : Bool} (o : Own w0 w p H ⟨su, wt, f, b⟩) (hf : b = true ∧ f = -1 ∨ b = false ∧ f = 0) :
    Calls Tryd.prog 30 #[.pointer (some ⟨p, 0, none⟩)] w fun e w' => e = .returned (.int .i64 40) ∧ Own w0 w' p H ⟨su, wt, -1, true⟩ := by
  have h := o.at_
  subst h
  refine (sync_off o.dev (by rcases hf with ⟨rfl, rfl⟩ | ⟨rfl, rfl⟩ <;> simp [St.goes])).mono ?_
  rintro e w' ⟨rfl, D, T⟩
  have D' : DevIs w' H ⟨su, wt, -1, true⟩ := by rcases hf with ⟨rfl, rfl⟩ | ⟨rfl, rfl⟩ <;> simpa [St.burnt] using D
  exact ⟨rfl, o.turned D' T⟩
end
theorem and_mask (x : BitVec 64) (m : Nat) (hm : m < 1000000) : ∃ u : Nat, bits .and .i64 x.toInt (m : Int) = (u : Int) ∧ u ≤ m := by
  have hb : (x &&& BitVec.ofNat 64 m).toNat ≤ m := by
    rw [BitVec.toNat_and, BitVec.toNat_ofNat, Nat.mod_eq_of_lt (by omega)]
    exact Nat.and_le_right
  refine ⟨(x &&& BitVec.ofNat 64 m).toNat, ?_, hb⟩
  rw [← toInt_small m hm, Wd.i64_and, BitVec.toInt_eq_toNat_bmod, Int.bmod_def]
  omega
theorem and_pow (K j m : Nat) (hm : m + 1 = 2 ^ j) (hm2 : m < 1000000) (hK : K < 1000000) : bits .and .i64 (K : Int) (m : Int) = ((K % (m + 1) : Nat) : Int) := by
  have h2 : (BitVec.ofNat 64 K &&& BitVec.ofNat 64 m).toNat = K % (m + 1) := by
    rw [BitVec.toNat_and, BitVec.toNat_ofNat, BitVec.toNat_ofNat, Nat.mod_eq_of_lt (by omega), Nat.mod_eq_of_lt (by omega), hm]
    have e : m = 2 ^ j - 1 := by omega
    rw [e]
    exact Nat.and_two_pow_sub_one_eq_mod K j
  rw [← toInt_small m hm2, ← toInt_small K hK, Wd.i64_and, BitVec.toInt_eq_toNat_bmod, h2, Int.bmod_def]
  have : K % (m + 1) < m + 1 := Nat.mod_lt _ (by omega)
  omega
end Go.Proofs.YthcjjcfiademnaaDoor
/-
  Slices of rows (elements of any number of cells): append of one to another, a store into one, what they read as. No program is spoken of.
-/
namespace Go.Proofs.YthcjjcfiademnaaDoor
open Go.RowKit

theorem srows_own_base {w : World} {v : Value} {t : TypeId} {sz : Nat} {R : List (List Value)} (h : SRows w v t sz R) (hsz : 0 < sz) {B : Nat} (hB : ∀ k, v.ownBlock = some k → B ≤ k) : w.ownsRow B t sz v R.length R.flatten := by
  obtain ⟨h1, h2⟩ := h.own hsz
  refine ⟨h1, ?_⟩
  rcases h2 with h2 | ⟨g, cap, cur, rfl, _, h3⟩
  · exact .inl h2
  · exact .inr ⟨g, cap, cur, rfl, hB g rfl, h3⟩
theorem own_shape {w : World} {B : Nat} {e : TypeId} {size : Nat} {v : Value} {n : Nat} {xs : List Value} (h : w.ownsRow B e size v n xs) : (∃ va vc, v = .slice va n vc) ∧ ∀ k, v.ownBlock = some k → B ≤ k := by
  refine ⟨?_, fun k hk => (h.lt k hk).1⟩
  rcases h.2 with ⟨rfl, rfl⟩ | ⟨g, cap, cur, rfl, _⟩
  · exact ⟨_, _, rfl⟩
  · exact ⟨_, _, rfl⟩
theorem srows_new (w : World) (r : List Value) (t : TypeId) {sz : Nat} (hr : r.length = sz) : SRows (w.alloc (.cells r.toArray t)) (.slice (some ⟨w.heap.size, 0, none⟩) 1 1) t sz [r] := by
  refine .inr ⟨w.heap.size, 1, rfl, Nat.le_refl _, by unfold maxLen; omega, r.toArray, heap_alloc_last w _, by simp [hr], by simp, by simp [hr], ?_⟩
  intro i x hx j v hv
  cases i with
  | zero => simp at hx; subst hx; simpa using hv
  | succ i => simp at hx

theorem noOwn (B : Nat) : ∀ k, (Value.slice none 0 0).ownBlock = some k → B ≤ k := by intro k hk; simp [Value.ownBlock] at hk

section
variable {P : Program} {ops : Array Oper} {rest : List Oper} {o : Oper} {a : Act} {w : World} {Q : Exit → Act → World → Prop}
/-- 'append(v, u...)', v the call's own. -/
theorem append_rows (hgd : o.guard = none) (s x : Operand) (T e : TypeId) (i : TypeInfo) (z : Value) (sz bytes : Nat) (ho : o.op = .call { callee := .builtin .append, args := #[s, x], argTypes := #[T, T] })
    (hT : P.underlying T = some (.slice e)) (hi : P.info? e = some i) (hz : i.zero = some z) (hsize : i.size = sz) (hby : i.bytes = bytes) (hzs : z.cells.size = sz) (hsz : 0 < sz) (hbl : bytes ≤ 200)
    {B : Nat} {v u : Value} {R1 R2 : List (List Value)} (hs : a.eval s = v) (hx : a.eval x = u) (hv : SRows w v e sz R1) (hu : SRows w u e sz R2) (hvB : ∀ k, v.ownBlock = some k → B ≤ k) (hB : B ≤ w.heap.size)
    (h1 : ∀ r ∈ R2, ∀ c ∈ r, c.oneCell' = true) (m : Nat) (hm : R1.length + R2.length = m) (R : List (List Value)) (hR : R1 ++ R2 = R) (hl : m ≤ 1000000)
    (h : ∀ va vc w', SRows w' (.slice va m vc) e sz R → (∀ k, (Value.slice va m vc).ownBlock = some k → B ≤ k) → Below B w w' → wpList P ops Q rest (a.put o.dst (.slice va m vc)) w') :
    wpList P ops Q (o :: rest) a w := by
  subst hm hR
  have hown := srows_own_base hv hsz hvB
  have hlens : ∀ r ∈ R1 ++ R2, r.length = sz := fun r hr => by
    rcases List.mem_append.1 hr with hr | hr
    · exact hv.rowlen r hr
    · exact hu.rowlen r hr
  rcases hu with ⟨rfl, rfl⟩ | ⟨g, cap, rfl, hc1, hc2, hrows⟩
  · have hrun := run_append_owned_none (P := P) w B T (o.type) e i sz hT hi v R1.length _ hown
    obtain ⟨⟨va, vc, rfl⟩, hvb⟩ := own_shape hown
    simp only [List.append_nil, List.length_nil, Nat.add_zero] at h
    refine wpList_plain hgd fun K hK => ?_
    unfold Oper.wp execOp
    simp only [ho, resolve, invoke, builtin, Sem.run_bind, Sem.run_pure, Result.andThen_ok, List.map_toArray, List.map_cons, List.map_nil, hs, hx, hrun]
    exact hK _ _ (h va vc w hv hvB (Below.refl _ _))
  · have hus : SRows w (.slice (some ⟨g, 0, none⟩) R2.length cap) e sz R2 := .inr ⟨g, cap, rfl, hc1, hc2, hrows⟩
    have hnews : ∀ j u, R2.flatten[j]? = some u → w.cell? ((⟨g, 0, none⟩ : Addr).add j) = some u := (hus.own hsz).cells rfl
    refine wpList_append_own w hgd s x T ho B e i z sz bytes hT hi hz hsize hby hzs hsz v R1.length R1.flatten hs hown ⟨g, 0, none⟩ R2.length cap R2.flatten hx (length_flat R2 hus.rowlen) hnews ?_ ?_ ?_ hB ?_
    · intro u hu
      obtain ⟨r, hr, hur⟩ := List.mem_flatten.1 hu
      exact h1 r hr u hur
    · unfold maxLen; omega
    · have : (R1.length + R2.length) * bytes ≤ 1000000 * 200 := Nat.mul_le_mul hl hbl
      omega
    · intro v' w' hown' hgrow _
      obtain ⟨⟨va, vc, rfl⟩, hvb⟩ := own_shape hown'
      refine h va vc w' (srows_of_own hown' (by rw [List.flatten_append]) hlens hsz (by simp)) hvb ?_
      exact (Below.refl B w).grown hgrow hB fun k hk => hvB k hk
end
end Go.Proofs.YthcjjcfiademnaaDoor
/-
  The contracts of package slots' small functions: filled, isTurn, has, room, isBlank, numbers; a strings.Builder.
-/
namespace Go.Proofs.YthcjjcfiademnaaDoor
open Go.RowKit Leb

/-! ### A strings.Builder that holds bytes -/
def IsB (w : World) (B b : Nat) (l : List UInt8) : Prop := Lib.IsBuilder 69 5 B b (Lib.byteCells l) w
theorem bat_over {T e : TypeId} {B b : Nat} {p : Value} {bs : List Value} {w w' : World} (h : Lib.BuilderAt T e B b p bs w) (hb : Below w.heap.size w w') : Lib.BuilderAt T e B b p bs w' := by
  obtain ⟨h1, v, h2, h3, h4⟩ := h
  exact ⟨h1, v, (hb.block b (Array.getElem?_eq_some_iff.1 h2).1).trans h2, ownsRow_below h3 hb, h4⟩
theorem IsB.over {w w' : World} {B b : Nat} {l : List UInt8} (h : IsB w B b l) (hb : Below w.heap.size w w') : IsB w' B b l := by
  rcases h with h | h
  · exact .inl (bat_over h hb)
  · exact .inr (bat_over h hb)
theorem isB_new (w : World) : IsB (w.alloc (.cells #[.pointer none, .slice none 0 0] 69)) w.heap.size w.heap.size [] :=
  .inl ⟨Nat.le_refl _, .slice none 0 0, heap_alloc_last w _, World.ownsRow_nil _ _ _ _, by simp [Value.ownBlock]⟩
set_option maxRecDepth 100000 in
theorem chk_used (b : Nat) (w : World) (h0 : w.cell? ⟨b, 0, none⟩ = some (.pointer (some ⟨b, 0, none⟩))) :
    Calls Tryd.prog 48 #[.pointer (some ⟨b, 0, none⟩)] w fun e w' => e = .returned (.tuple #[]) ∧ w' = w := by
  obtain ⟨j, hj, _⟩ := Option.map_eq_some_iff.1 (Tryd.Builder_Extra_169).toX72.sizeBuilder
  replace hj : Tryd.prog.info? 69 = some j := hj
  go_enter Tryd.func48, Tryd.ntmps48
  go_wp2
  rw [Lib.run_neq_ptr_same w _ Tryd.underlying67 hj]
  go_wp2
  go_end0
  exact ⟨rfl, rfl⟩
set_option maxRecDepth 100000 in
set_option maxHeartbeats 1000000 in
theorem chk_fresh (b : Nat) (w : World) (h0 : w.cell? ⟨b, 0, none⟩ = some (.pointer none)) (hsh : w.shape? b = some (69, 2)) (hfz : w.frozen? ⟨b, 0, none⟩ = false) :
    Calls Tryd.prog 48 #[.pointer (some ⟨b, 0, none⟩)] w fun e w' => e = .returned (.tuple #[]) ∧ w' = w.setCell ⟨b, 0, none⟩ (.pointer (some ⟨b, 0, none⟩)) := by
  obtain ⟨j, hj, hjs⟩ := Option.map_eq_some_iff.1 (Tryd.Builder_Extra_169).toX72.sizeBuilder
  replace hj : Tryd.prog.info? 69 = some j := hj
  have hlies : _ := (Tryd.Builder_Extra_169).toX72.liesBuilder
  go_enter Tryd.func48, Tryd.ntmps48
  go_wp2
  rw [Lib.run_to_unsafe w ⟨b, 0, none⟩ Tryd.underlying67 Tryd.underlying97 hj (by rw [hjs]; decide) hsh (Nat.zero_lt_succ 1)]
  simp only [Result.andThen]
  rw [Oper.upon_value]
  go_wp2
  rw [run_callFunc_extern Tryd.func55 (by kernel_rfl) (by kernel_rfl) (by kernel_rfl) (e := Extern.AbiNoEscape.same) (by kernel_rfl), Lib.run_noEscape]
  simp only [Result.andThen]
  rw [Oper.upon_value]
  go_wp2
  rw [Lib.run_from_unsafe w ⟨b, 0, none⟩ Tryd.underlying97 Tryd.underlying67 hj hsh hlies]
  simp only [Result.andThen]
  rw [Oper.upon_value]
  go_wp2
  go_end0
  exact ⟨rfl, rfl⟩
theorem chk_any {w : World} {B b : Nat} {l : List UInt8} (h : IsB w B b l) :
    Calls Tryd.prog 48 #[.pointer (some ⟨b, 0, none⟩)] w fun e w' => e = .returned (.tuple #[]) ∧ Lib.BuilderAt 69 5 B b (.pointer (some ⟨b, 0, none⟩)) (Lib.byteCells l) w' ∧ Below B w w' := by
  rcases h with h | h
  · refine (chk_fresh b w h.cell0 h.shape h.frozen0).mono ?_
    rintro e w' ⟨rfl, rfl⟩
    exact ⟨rfl, h.used _, (Below.refl B w).setCell (p := ⟨b, 0, none⟩) h.1 _⟩
  · refine (chk_used b w h.cell0).mono ?_
    rintro e w' ⟨rfl, hw⟩
    subst hw
    exact ⟨rfl, h, Below.refl B _⟩
set_option maxRecDepth 100000 in
set_option maxHeartbeats 1000000 in
theorem bld_write {w : World} {B b : Nat} {l : List UInt8} (h : IsB w B b l) (s : List UInt8) (hl : l.length + s.length ≤ 1000000) (hB : B ≤ w.heap.size) :
    Calls Tryd.prog 33 #[.pointer (some ⟨b, 0, none⟩), .string (strB s)] w fun e w' => e = .returned (.tuple #[.int .i64 s.length, .nilIface]) ∧ IsB w' B b (l ++ s) ∧ Below B w w' := by
  obtain ⟨i0, hi, hz0, hz1, hz2⟩ := info_parts (Tryd.Builder_Extra_169).infoByte
  have c := chk_any h
  have hlb := Lib.byteCells_length l
  have hz : (strB s).size = s.length := rfl
  obtain ⟨S, hS⟩ : ∃ S, S = strB s := ⟨_, rfl⟩
  rw [← hS] at hz ⊢
  have HS : Hid (S = strB s) := hS
  clear hS
  go_enter Tryd.func33, Tryd.ntmps33
  go_wp2_with (go_at_call 48; refine c.mono ?_)
  rintro e w1 ⟨rfl, h1, hb1⟩
  obtain ⟨hB1, v, hbk, hown, hne⟩ := h1
  have c0 : w1.cell? ⟨b, 0, none⟩ = some (.pointer (some ⟨b, 0, none⟩)) := by rw [Lib.cell_of_heap hbk]; rfl
  have c1 : w1.cell? ⟨b, 1, none⟩ = some v := by rw [Lib.cell_of_heap hbk]; rfl
  go_wp2_with (at_builtin; refine Lib.wpList_append_own_string _ rfl _ _ 62 9 rfl B 5 i0 Tryd.underlying62 Tryd.underlying9 hi hz0 hz1 hz2 _ _ _ rfl hown S rfl ?c3 ?c4 ?c5 ?_)
  case c3 => unfold maxLen; omega
  case c4 => omega
  case c5 => have := hb1.size; omega
  intro v' w2 hown' hgrow _
  have hlt : b < w1.heap.size := (Array.getElem?_eq_some_iff.1 hbk).1
  have hb2 : w2.heap[b]? = some (.cells #[.pointer (some ⟨b, 0, none⟩), v] 69 (0, 0)) := by
    rw [hgrow.block b hlt (fun e => hne e.symm)]
    exact hbk
  have d1 : w2.cell? ⟨b, 1, none⟩ = some v := by rw [Lib.cell_of_heap hb2]; rfl
  have f1 : w2.frozen? ⟨b, 1, none⟩ = false := Lib.frozen_of_heap hb2 1
  have d0 : w2.cell? ⟨b, 0, none⟩ = some (.pointer (some ⟨b, 0, none⟩)) := by rw [Lib.cell_of_heap hb2]; rfl
  obtain ⟨ao, n', cap, rfl⟩ : ∃ ao n' cap, v' = .slice ao n' cap := by
    rcases hown'.2 with ⟨hv, _⟩ | ⟨g, cap, cur, hv, _⟩
    · exact ⟨_, _, _, hv⟩
    · exact ⟨_, _, _, hv⟩
  go_wp2
  go_ret2
  refine ⟨rfl, .inr ?_, ?_⟩
  · rw [Lib.byteCells_append]
    have e1 : Lib.strCells S = Lib.byteCells s := by rw [HS.out, Lib.strCells_eq, strB_list]
    rw [← e1]
    exact Lib.BuilderAt.put (T := 69) (e := 5) hB1 hb2 (bs' := Lib.byteCells l ++ Lib.strCells S) (by simpa [Lib.strCells_length, hz, hlb] using hown') (Tryd.Builder_Extra_169).neB5
  · exact (hb1.grown hgrow (by have := hb1.size; omega) (fun k hk => (hown.lt k hk).1)).setCell (p := ⟨b, 1, none⟩) hB1 _
theorem bld_string {w : World} {B b : Nat} {l : List UInt8} (h : IsB w B b l) (hB : B ≤ w.heap.size) :
    Calls Tryd.prog 34 #[.pointer (some ⟨b, 0, none⟩)] w fun e w' => e = .returned (.string (strB l)) ∧ Below B w w' :=
  Any.Builder_String_any Tryd.lays169 Tryd.Builder_Extra_169 B b l w h hB

/-! ### isBlank -/
theorem dropWhile_nil {p : UInt8 → Bool} : ∀ {l : List UInt8}, l.dropWhile p = [] ↔ ∀ x ∈ l, p x = true
  | [] => by simp
  | a :: r => by
    rw [List.dropWhile_cons]
    by_cases h : p a = true
    · rw [if_pos h, dropWhile_nil]
      simp [h]
    · rw [if_neg h]
      simp [h]
theorem trim_nil (l : List UInt8) : (Lib.trimB l 0 = []) ↔ blankL l = true := by
  unfold Lib.trimB Lib.trimLeftB Lib.trimRightB blankL
  constructor
  · intro h
    rw [dropWhile_nil] at h
    rw [List.all_eq_true]
    intro x hx
    by_cases e : (x == 0) = true
    · exact e
    · exfalso
      have hne : (l.reverse.dropWhile (· == (0 : UInt8))) ≠ [] := by
        intro h0
        rw [dropWhile_nil] at h0
        exact e (h0 x (by simpa using hx))
      have hd := List.head_dropWhile_not (p := fun b : UInt8 => b == 0) (l := l.reverse) hne
      have := h ((l.reverse.dropWhile (· == (0 : UInt8))).head hne) (by simp)
      rw [hd] at this
      cases this
  · intro h
    have : l.reverse.dropWhile (· == (0 : UInt8)) = [] := by
      rw [dropWhile_nil]
      intro x hx
      rw [List.all_eq_true] at h
      exact h x (by simpa using hx)
    rw [this]
    rfl
theorem qblank_any (l : List UInt8) (hl : l.length ≤ 1000000) (w : World) :
    Calls Tryd.prog 35 #[.string (strB l)] w fun e w' => e = .returned (.bool (blankL l)) ∧ Below w.heap.size w w' := by
  have c := Any.strings_Trim_one Tryd.lays160 (strB l) 0 (by decide) w (by rw [strB_size]; omega)
  rw [strB_list] at c
  have hq : (⟨(Lib.trimB l 0).toArray⟩ : ByteArray).toList.isEmpty = blankL l := by
    rw [Bool.eq_iff_iff, ← trim_nil, List.isEmpty_iff]
    have h1 : (⟨(Lib.trimB l 0).toArray⟩ : ByteArray).toList = Lib.trimB l 0 := strB_toList _
    rw [h1]
  obtain ⟨T, hT⟩ : ∃ T, T = (⟨(Lib.trimB l 0).toArray⟩ : ByteArray) := ⟨_, rfl⟩
  rw [← hT] at c hq
  obtain ⟨b, hb⟩ : ∃ b, b = blankL l := ⟨_, rfl⟩
  rw [← hb] at hq ⊢
  obtain ⟨S, hS⟩ : ∃ S, S = strB l := ⟨_, rfl⟩
  rw [← hS] at c ⊢
  clear hT hb hS
  go_enter Tryd.func35, Tryd.ntmps35
  go_wp2_with (go_at_call 49; refine c.mono ?_; rintro e w1 ⟨rfl, hw1⟩)
  go_ret
  refine ⟨by rw [← hq]; rfl, ?_⟩
  rcases hw1 with rfl | rfl
  · exact Below.refl _ _
  · exact (Below.refl _ _).drew

/-! ### isTurn, room, has -/
theorem qturn_yes (n : Int) (h1 : 1 ≤ n) (h2 : n ≤ 4294967296) (w : World) :
    Calls Tryd.prog 14 #[.int .i64 n] w fun e w' => e = .returned (.bool true) ∧ w' = w := by
  go_enter Tryd.func14, Tryd.ntmps14
  go_wp2
  go_ret
  first | exact ⟨rfl, rfl⟩ | simp
theorem qroom_any (f c : Int) (h1 : 0 ≤ c) (h2 : c ≤ 4096) (w : World) :
    Calls Tryd.prog 16 #[.agg #[.int .i64 f, .int .i64 c]] w fun e w' => e = .returned (.int .i64 (c * 128)) ∧ Below w.heap.size w w' := by
  have r1 : wrap64 (c * 128) = c * 128 := by unfold wrap64; omega
  have r2 : IntKind.i64.wrap (c * 128) = c * 128 := by rw [IntKind.wrap_i64]; omega
  have hb1 := below1 w (.cells #[.int .i64 f, .int .i64 c] 32)
  go_enter Tryd.func16, Tryd.ntmps16
  go_wp2
  go_ret
  exact ⟨by first | rfl | (rw [r1]) | (rw [r2]), hb1⟩
set_option maxRecDepth 4000 in
set_option maxHeartbeats 1000000 in
theorem qhas_yes {w : World} {H : Hnd} {s : St} (D : DevIs w H s) (f c : Int) (h1 : 2 ≤ f) (h2 : 1 ≤ c) (h3 : f + c ≤ s.sure.length) :
    Calls Tryd.prog 15 #[.pointer (some ⟨H.p, 0, none⟩), .agg #[.int .i64 f, .int .i64 c]] w fun e w' => e = .returned (.bool true) ∧ Below w.heap.size w w' := by
  have hn := D.top
  have hb1 := below1 w (.cells #[.int .i64 f, .int .i64 c] 32)
  have D1 := D.below hb1
  have cs : ∀ k : Above (w.alloc (.cells #[.int .i64 f, .int .i64 c] 32)), Calls Tryd.prog 28 #[.pointer (some ⟨H.p, 0, none⟩)] k.it fun e w' => e = .returned (.int .i64 s.sure.length) ∧ w' = k.it := fun k => size_some _ _ _ _ _ (D1.below k.is).c0
  have B0 := box_new w #[.int .i64 f, .int .i64 c] 32
  have k0 : ∀ k : Above (w.alloc (.cells #[.int .i64 f, .int .i64 c] 32)), k.it.cell? ⟨w.heap.size, 0, none⟩ = some (.int .i64 f) := fun k => (B0.over k.is).cell 0 _ rfl
  have k1 : ∀ k : Above (w.alloc (.cells #[.int .i64 f, .int .i64 c] 32)), k.it.cell? ⟨w.heap.size, 1, none⟩ = some (.int .i64 c) := fun k => (B0.over k.is).cell 1 _ rfl
  obtain ⟨n, hn2⟩ : ∃ n, n = s.sure.length := ⟨_, rfl⟩
  rw [← hn2] at cs h3 hn
  obtain ⟨p, hp⟩ : ∃ p, p = H.p := ⟨_, rfl⟩
  rw [← hp] at cs ⊢
  have r1 : IntKind.i64.wrap ((n : Int) - f) = (n : Int) - f := by rw [IntKind.wrap_i64]; omega
  have g1 : decide (2 ≤ f) = true := by simp; omega
  have g2 : decide (1 ≤ c) = true := by simp; omega
  have g3 : decide (c ≤ (n : Int) - f) = true := by simp; omega
  clear D D1 B0 hn2 hp
  go_enter Tryd.func15, Tryd.ntmps15
  go_wp2_with fail
  refine wp_region_above (by kernel_rfl) (by kernel_rfl) ?_
  intro hne
  repeat (go_big_quiet_step (first
    | (go_at_call 28; exact above_same (cs _))))
  refine wpQuiet_nil ?_
  rintro _ ⟨kq, rfl⟩
  have hbq := kq.is
  replace hbq := hb1.trans (hbq.mono hb1.size)
  clear k0 k1
  go_wp2
  go_ret
  exact ⟨by simp, hbq⟩
end Go.Proofs.YthcjjcfiademnaaDoor
/-
  The contracts of package slots' filled, numbers, block and Slot.
-/
namespace Go.Proofs.YthcjjcfiademnaaDoor
open Go.RowKit Leb

theorem run_copy_min {P : Program} (w : World) (dT sT ty elem : TypeId) (b o n cap : Nat) (s : ByteArray)
    (hu : P.underlying dT = some (.slice elem)) (hsz : (P.info? elem).map (·.size) = some 1) (ht : w.there b o n) :
    (Builtin.copy_ #[dT, sT] ty #[.slice (some ⟨b, o, none⟩) n cap, .string s]).run P w = .ok (goInt ((min s.size n : Nat) : Int)) (w.setCells b o ((cellsS s).take (min s.size n))) := by
  have hl := cellsS_len s
  have hlt : ((cellsS s).take (min s.size n)).length = min s.size n := by rw [List.length_take, hl]; omega
  have hst := run_storeCells_cells (P := P) b o ((cellsS s).take (min s.size n)) 0 w (fun j hj => by simpa using (ht j (by omega)).1) (fun j hj => by simpa using (ht j (by omega)).2) (fun v hv => by
    have hv := List.mem_of_mem_take hv
    simp only [cellsS, List.mem_map] at hv
    obtain ⟨x, _, rfl⟩ := hv
    rfl)
  simp only [Nat.add_zero] at hst
  cases hq : P.info? elem with
  | none => simp [hq] at hsz
  | some i =>
    have hm : ∀ a b : Nat, Nat.min a b = min a b := fun _ _ => rfl
    simp [Builtin.copy_, run_underlying hu, Builtin.lenOf, Builtin.firstCells, sizeOf, typeInfo, hq, hm]
    rw [show (List.map (fun b : UInt8 => Value.int IntKind.u8 (b.toNat : Int)) s.data.toList) = cellsS s from rfl]
    rw [hst]
    rfl
theorem wpList_copy_min {P : Program} {ops : Array Oper} {rest : List Oper} {op : Oper} {a : Act} {w : World} {Q : Exit → Act → World → Prop} (hgd : op.guard = none) (d x : Operand) (dT sT elem : TypeId)
    (ho : op.op = .call { callee := .builtin .copy, args := #[d, x], argTypes := #[dT, sT] }) (b o n cap : Nat) (s : ByteArray) (hd : a.eval d = .slice (some ⟨b, o, none⟩) n cap) (hx : a.eval x = .string s)
    (hu : P.underlying dT = some (.slice elem)) (hsz : (P.info? elem).map (·.size) = some 1) (ht : w.there b o n)
    (h : wpList P ops Q rest (a.put op.dst (goInt ((min s.size n : Nat) : Int))) (w.setCells b o ((cellsS s).take (min s.size n)))) : wpList P ops Q (op :: rest) a w := by
  refine wpList_plain hgd fun K hK => ?_
  have hr := run_copy_min (P := P) w dT sT op.type elem b o n cap s hu hsz ht
  unfold Oper.wp execOp
  simp only [ho, resolve, invoke, builtin, Sem.run_bind, Sem.run_pure, Result.andThen_ok, List.map_toArray, List.map_cons, List.map_nil, hd, hx, hr]
  exact hK _ _ h
theorem fill_get (l : List UInt8) (i : Nat) (hi : i < 128) : (fillL l).getD i 0 = if h : i < l.length then l[i] else 0 := by
  rw [List.getD_eq_getElem?_getD, fillL, List.getElem?_append, List.length_take]
  by_cases h : i < l.length
  · rw [if_pos (by omega), List.getElem?_take, if_pos hi, List.getElem?_eq_getElem h, dif_pos h]
    rfl
  · rw [if_neg (by omega), dif_neg h, List.getElem?_replicate]
    split <;> rfl
theorem zero50 (i : Nat) (hi : i < 128) : Tryd.zeroCells50[i]? = some (.int .u8 0) := by
  have : Tryd.zeroCells50 = Array.replicate 128 (.int .u8 0) := by kernel_rfl
  rw [this, Array.getElem?_replicate, if_pos hi]
theorem zero50_size : Tryd.zeroCells50.size = 128 := by kernel_rfl
theorem below_setCells {B : Nat} {a : World} {b : Nat} : ∀ {w : World}, Below B a w → B ≤ b → ∀ (o : Nat) (vs : List Value), Below B a (w.setCells b o vs)
  | _, h, _, _, [] => h
  | w, h, hb, o, v :: r => by
    rw [World.setCells]
    exact below_setCells (h.setCell (p := ⟨b, o, none⟩) hb v) hb (o + 1) r
theorem fill_row (w : World) (l : List UInt8) : RowB ((w.alloc (.cells Tryd.zeroCells50 50)).setCells w.heap.size 0 ((cellsS (strB l)).take (min (strB l).size 128))) w.heap.size (fillL l) := by
  have hl : ((cellsS (strB l)).take (min (strB l).size 128)).length = min l.length 128 := by rw [List.length_take, cellsS_len, strB_size]; omega
  obtain ⟨cur, h1, h2, h3, h4⟩ := heap_setCells w.heap.size 50 ((cellsS (strB l)).take (min (strB l).size 128)) 0 (w.alloc (.cells Tryd.zeroCells50 50)) Tryd.zeroCells50 (box_new w _ _) (by rw [hl, zero50_size]; omega)
  refine ⟨cur, 50, (0, 0), h1, fun i hi => ?_, .inl (Nat.le_refl _)⟩
  rw [fillL_len] at hi
  rw [fill_get l i hi]
  by_cases h : i < l.length
  · rw [dif_pos h]
    have := h4 i (.int .u8 (l[i].toNat : Int)) (by
      rw [List.getElem?_take, if_pos (by rw [strB_size]; omega)]
      simp [cellsS, strB, h])
    rw [Nat.zero_add] at this
    exact this
  · rw [dif_neg h, h3 i (by rw [hl]; omega), zero50 i hi]
    rfl
set_option maxRecDepth 4000 in
set_option maxHeartbeats 1000000 in
theorem qfilled_any (l : List UInt8) (w : World) :
    Calls Tryd.prog 19 #[.string (strB l)] w fun e w' => e = .returned (.string (strB (fillL l))) ∧ Below w.heap.size w w' := by
  have hbx := box_new w Tryd.zeroCells50 50
  have hth : (w.alloc (.cells Tryd.zeroCells50 50)).there w.heap.size 0 128 := by
    intro j hj
    refine ⟨?_, hbx.frozen _⟩
    rw [hbx.cell (0 + j) (.int .u8 0) (zero50 _ (by omega))]
    rfl
  have hrow := fill_row w l
  have hbel : Below w.heap.size w ((w.alloc (.cells Tryd.zeroCells50 50)).setCells w.heap.size 0 ((cellsS (strB l)).take (min (strB l).size 128))) := below_setCells (below1 w _) (Nat.le_refl _) _ _
  go_enter Tryd.func19, Tryd.ntmps19
  go_wp2_with fail
  rw [run_copy_min _ _ _ _ 5 _ _ _ _ _ Tryd.underlying62 size_byte hth]
  simp only [Result.andThen]
  rw [Oper.upon_value]
  obtain ⟨W, hW⟩ : ∃ W, W = (w.alloc (.cells Tryd.zeroCells50 50)).setCells w.heap.size 0 ((cellsS (strB l)).take (min (strB l).size 128)) := ⟨_, rfl⟩
  rw [← hW] at hrow hbel ⊢
  have ht := hrow.text 128
  rw [fillL_len] at ht
  clear hrow hW hth
  go_wp2
  go_ret
  exact ⟨rfl, hbel⟩

/-- A slot's numbers, as its cells. -/
def sdv (d : Sd) : Array Value := #[.int .i64 d.turn.toInt, .int .i64 d.f.toInt, .int .i64 d.c.toInt, .int .i64 d.n.toInt, .int .i64 d.s.toInt]
def ptr5 (p : Nat) : Array Value := #[.pointer (some ⟨p, 0, none⟩), .pointer (some ⟨p, 1, none⟩), .pointer (some ⟨p, 2, none⟩), .pointer (some ⟨p, 3, none⟩), .pointer (some ⟨p, 4, none⟩)]
theorem size_ptr5 : (Tryd.prog.info? 78).map (·.size) = some 5 := by kernel_rfl
theorem size_slot : (Tryd.prog.info? 55).map (·.size) = some 5 := by kernel_rfl
theorem box_five {w : World} {p : Nat} {t : TypeId} {x0 x1 x2 x3 x4 : Value} (B : Box w p t #[x0, x1, x2, x3, x4]) (v0 v1 v2 v3 v4 : Value) : Box (((((w.setCell ⟨p, 0, none⟩ v0).setCell ⟨p, 1, none⟩ v1).setCell ⟨p, 2, none⟩ v2).setCell ⟨p, 3, none⟩ v3).setCell ⟨p, 4, none⟩ v4) p t #[v0, v1, v2, v3, v4] :=
  ((((B.set 0 v0).set 1 v1).set 2 v2).set 3 v3).set 4 v4
theorem below_five {B : Nat} {a w : World} {p : Nat} (h : Below B a w) (hp : B ≤ p) (v0 v1 v2 v3 v4 : Value) : Below B a (((((w.setCell ⟨p, 0, none⟩ v0).setCell ⟨p, 1, none⟩ v1).setCell ⟨p, 2, none⟩ v2).setCell ⟨p, 3, none⟩ v3).setCell ⟨p, 4, none⟩ v4) :=
  ((((h.setCell (p := ⟨p, 0, none⟩) hp v0).setCell (p := ⟨p, 1, none⟩) hp v1).setCell (p := ⟨p, 2, none⟩) hp v2).setCell (p := ⟨p, 3, none⟩) hp v3).setCell (p := ⟨p, 4, none⟩) hp v4
set_option maxRecDepth 4000 in
set_option maxHeartbeats 1000000 in
theorem qnumbers_any (p : Nat) (w : World) :
    Calls Tryd.prog 37 #[.pointer (some ⟨p, 0, none⟩)] w fun e w' => e = .returned (.agg (ptr5 p)) ∧ Below w.heap.size w w' := by
  go_enter Tryd.func37, Tryd.ntmps37
  go_wp2_with fail
  refine wp_region_held_then (fun _ : World => True) _ (by kernel_rfl) rfl (by kernel_rfl) ?_
  have hHeld : ∀ W : World, (fun _ : World => True) W := fun _ => trivial
  dsimp only [List.dropLast, List.length, List.getLast]
  have hH := hHeld (w.alloc (.cells #[.pointer none, .pointer none, .pointer none, .pointer none, .pointer none] 78)).drew
  ((refine takeL 0 (v := ?_) rfl (by kernel_rfl) (by kernel_rfl) (by kernel_rfl) (fun _ _ _ h => h) (by rfl) hH ?_ ?_; rotate_left; focus (intro w hSw; (try dsimp only at hSw); go_simp <;> with_reducible rfl); (try simp only [Act.put, List.setIfInBounds_toArray, List.set_cons_zero, List.set_cons_succ])); (refine takeL 1 (v := ?_) rfl (by kernel_rfl) (by kernel_rfl) (by kernel_rfl) (fun _ _ _ h => h) (by rfl) hH ?_ ?_; rotate_left; focus (intro w hSw; (try dsimp only at hSw); go_simp <;> with_reducible rfl); (try simp only [Act.put, List.setIfInBounds_toArray, List.set_cons_zero, List.set_cons_succ])); (refine takeL 2 (v := ?_) rfl (by kernel_rfl) (by kernel_rfl) (by kernel_rfl) (fun _ _ _ h => h) (by rfl) hH ?_ ?_; rotate_left; focus (intro w hSw; (try dsimp only at hSw); go_simp <;> with_reducible rfl); (try simp only [Act.put, List.setIfInBounds_toArray, List.set_cons_zero, List.set_cons_succ])))
  dsimp only [Act.put]
  simp only [List.setIfInBounds_toArray, List.set_cons_zero, List.set_cons_succ]
  ((refine takeL 3 (v := ?_) rfl (by kernel_rfl) (by kernel_rfl) (by kernel_rfl) (fun _ _ _ h => h) (by rfl) hH ?_ ?_; rotate_left; focus (intro w hSw; (try dsimp only at hSw); go_simp <;> with_reducible rfl); (try simp only [Act.put, List.setIfInBounds_toArray, List.set_cons_zero, List.set_cons_succ])); (refine takeL 4 (v := ?_) rfl (by kernel_rfl) (by kernel_rfl) (by kernel_rfl) (fun _ _ _ h => h) (by rfl) hH ?_ ?_; rotate_left; focus (intro w hSw; (try dsimp only at hSw); go_simp <;> with_reducible rfl); (try simp only [Act.put, List.setIfInBounds_toArray, List.set_cons_zero, List.set_cons_succ])); (refine takeL 5 (v := ?_) rfl (by kernel_rfl) (by kernel_rfl) (by kernel_rfl) (fun _ _ _ h => h) (by rfl) hH ?_ ?_; rotate_left; focus (intro w hSw; (try dsimp only at hSw); go_simp <;> with_reducible rfl); (try simp only [Act.put, List.setIfInBounds_toArray, List.set_cons_zero, List.set_cons_succ])); (refine takeL 6 (v := ?_) rfl (by kernel_rfl) (by kernel_rfl) (by kernel_rfl) (fun _ _ _ h => h) (by rfl) hH ?_ ?_; rotate_left; focus (intro w hSw; (try dsimp only at hSw); go_simp <;> with_reducible rfl); (try simp only [Act.put, List.setIfInBounds_toArray, List.set_cons_zero, List.set_cons_succ])))
  dsimp only [Act.put]
  simp only [List.setIfInBounds_toArray, List.set_cons_zero, List.set_cons_succ]
  ((refine takeL 7 (v := ?_) rfl (by kernel_rfl) (by kernel_rfl) (by kernel_rfl) (fun _ _ _ h => h) (by rfl) hH ?_ ?_; rotate_left; focus (intro w hSw; (try dsimp only at hSw); go_simp <;> with_reducible rfl); (try simp only [Act.put, List.setIfInBounds_toArray, List.set_cons_zero, List.set_cons_succ])); (refine takeL 8 (v := ?_) rfl (by kernel_rfl) (by kernel_rfl) (by kernel_rfl) (fun _ _ _ h => h) (by rfl) hH ?_ ?_; rotate_left; focus (intro w hSw; (try dsimp only at hSw); go_simp <;> with_reducible rfl); (try simp only [Act.put, List.setIfInBounds_toArray, List.set_cons_zero, List.set_cons_succ])); (refine takeL 9 (v := ?_) rfl (by kernel_rfl) (by kernel_rfl) (by kernel_rfl) (fun _ _ _ h => h) (by rfl) hH ?_ ?_; rotate_left; focus (intro w hSw; (try dsimp only at hSw); go_simp <;> with_reducible rfl); (try simp only [Act.put, List.setIfInBounds_toArray, List.set_cons_zero, List.set_cons_succ])); (refine takeL 10 (v := ?_) rfl (by kernel_rfl) (by kernel_rfl) (by kernel_rfl) (fun _ _ _ h => h) (by rfl) hH ?_ ?_; rotate_left; focus (intro w hSw; (try dsimp only at hSw); go_simp <;> with_reducible rfl); (try simp only [Act.put, List.setIfInBounds_toArray, List.set_cons_zero, List.set_cons_succ])))
  dsimp only [Act.put]
  simp only [List.setIfInBounds_toArray, List.set_cons_zero, List.set_cons_succ]
  ((refine takeL 11 (v := ?_) rfl (by kernel_rfl) (by kernel_rfl) (by kernel_rfl) (fun _ _ _ h => h) (by rfl) hH ?_ ?_; rotate_left; focus (intro w hSw; (try dsimp only at hSw); go_simp <;> with_reducible rfl); (try simp only [Act.put, List.setIfInBounds_toArray, List.set_cons_zero, List.set_cons_succ])); (refine takeL 12 (v := ?_) rfl (by kernel_rfl) (by kernel_rfl) (by kernel_rfl) (fun _ _ _ h => h) (by rfl) hH ?_ ?_; rotate_left; focus (intro w hSw; (try dsimp only at hSw); go_simp <;> with_reducible rfl); (try simp only [Act.put, List.setIfInBounds_toArray, List.set_cons_zero, List.set_cons_succ])); (refine takeL 13 (v := ?_) rfl (by kernel_rfl) (by kernel_rfl) (by kernel_rfl) (fun _ _ _ h => h) (by rfl) hH ?_ ?_; rotate_left; focus (intro w hSw; (try dsimp only at hSw); go_simp <;> with_reducible rfl); (try simp only [Act.put, List.setIfInBounds_toArray, List.set_cons_zero, List.set_cons_succ])))
  dsimp only [Act.put]
  simp only [List.setIfInBounds_toArray, List.set_cons_zero, List.set_cons_succ]
  ((refine takeL 14 (v := ?_) rfl (by kernel_rfl) (by kernel_rfl) (by kernel_rfl) (fun _ _ _ h => h) (by rfl) hH ?_ ?_; rotate_left; focus (intro w hSw; (try dsimp only at hSw); go_simp <;> with_reducible rfl); (try simp only [Act.put, List.setIfInBounds_toArray, List.set_cons_zero, List.set_cons_succ])); (refine takeL 15 (v := ?_) rfl (by kernel_rfl) (by kernel_rfl) (by kernel_rfl) (fun _ _ _ h => h) (by rfl) hH ?_ ?_; rotate_left; focus (intro w hSw; (try dsimp only at hSw); go_simp <;> with_reducible rfl); (try simp only [Act.put, List.setIfInBounds_toArray, List.set_cons_zero, List.set_cons_succ])); (refine takeL 16 (v := ?_) rfl (by kernel_rfl) (by kernel_rfl) (by kernel_rfl) (fun _ _ _ h => h) (by rfl) hH ?_ ?_; rotate_left; focus (intro w hSw; (try dsimp only at hSw); go_simp <;> with_reducible rfl); (try simp only [Act.put, List.setIfInBounds_toArray, List.set_cons_zero, List.set_cons_succ])))
  dsimp only [Act.put]
  simp only [List.setIfInBounds_toArray, List.set_cons_zero, List.set_cons_succ]
  ((refine takeL 17 (v := ?_) rfl (by kernel_rfl) (by kernel_rfl) (by kernel_rfl) (fun _ _ _ h => h) (by rfl) hH ?_ ?_; rotate_left; focus (intro w hSw; (try dsimp only at hSw); go_simp <;> with_reducible rfl); (try simp only [Act.put, List.setIfInBounds_toArray, List.set_cons_zero, List.set_cons_succ])))
  dsimp only [Act.put]
  simp only [List.setIfInBounds_toArray, List.set_cons_zero, List.set_cons_succ]
  refine doneL (by kernel_rfl) ?_
  try dsimp only [Act.put]
  unfold Oper.wp
  have B0 := (box_new w #[.pointer none, .pointer none, .pointer none, .pointer none, .pointer none] 78).drew
  have bA := (below1 w (.cells #[.pointer none, .pointer none, .pointer none, .pointer none, .pointer none] 78)).drew
  obtain ⟨W, hW⟩ : ∃ W, W = (w.alloc (.cells #[.pointer none, .pointer none, .pointer none, .pointer none, .pointer none] 78)).drew := ⟨_, rfl⟩
  rw [← hW] at B0 bA ⊢
  have z0 := B0.cell 0 (.pointer none) rfl
  have z1 := B0.cell 1 (.pointer none) rfl
  have z2 := B0.cell 2 (.pointer none) rfl
  have z3 := B0.cell 3 (.pointer none) rfl
  have z4 := B0.cell 4 (.pointer none) rfl
  have y0 := B0.frozen 0
  have y1 := B0.frozen 1
  have y2 := B0.frozen 2
  have y3 := B0.frozen 3
  have y4 := B0.frozen 4
  have HF : Hid _ := (show Hid _ from box_five B0 (.pointer (some ⟨p, 0, none⟩)) (.pointer (some ⟨p, 1, none⟩)) (.pointer (some ⟨p, 2, none⟩)) (.pointer (some ⟨p, 3, none⟩)) (.pointer (some ⟨p, 4, none⟩)))
  have HL : Hid _ := (show Hid _ from below_five bA (Nat.le_refl _) (.pointer (some ⟨p, 0, none⟩)) (.pointer (some ⟨p, 1, none⟩)) (.pointer (some ⟨p, 2, none⟩)) (.pointer (some ⟨p, 3, none⟩)) (.pointer (some ⟨p, 4, none⟩)))
  clear B0 bA hW hH hHeld
  go_simp
  go_wp2_with fail
  exact bodyPost_ret (res_box Tryd.results37 _ rfl HF.out Tryd.underlying78 rfl size_ptr5) rfl ⟨rfl, HL.out⟩
end Go.Proofs.YthcjjcfiademnaaDoor
/-
  The contracts of package slots' block and Slot.
-/
namespace Go.Proofs.YthcjjcfiademnaaDoor
open Go.RowKit Leb

/-- The numbers of a slot, one behind the other. -/
theorem sdv_at (d : Sd) (k : Nat) (hk : k < 5) : (sdv d)[k]? = some (.int .i64 (d.nums.getD k 0#64).toInt) := by
  match k, hk with
  | 0, _ => rfl
  | 1, _ => rfl
  | 2, _ => rfl
  | 3, _ => rfl
  | 4, _ => rfl
theorem index5 (p k : Nat) (hk : k < 5) (w : World) : (Instr.index 78 (.agg (ptr5 p)) (.int .i64 k)).run Tryd.prog w = .ok (.pointer (some ⟨p, k, none⟩)) w := by
  have h : k = 0 ∨ k = 1 ∨ k = 2 ∨ k = 3 ∨ k = 4 := by omega
  rcases h with rfl | rfl | rfl | rfl | rfl <;> (show Sem.run _ _ _ = _; kernel_rfl)
theorem strs_eq (l : List UInt8) : str l = strB l := rfl
theorem sealS_str (l : List UInt8) : sealS (strB l) = strB (sealL l) := by
  rw [← strB_of (sealS (strB l)), sealS_list, strB_list]
set_option maxRecDepth 4000 in
set_option maxHeartbeats 1000000 in
theorem qblock_any (d : Sd) (w : World) :
    Calls Tryd.prog 24 #[.agg (sdv d)] w fun e w' => e = .returned (.string (strB (slotB d))) ∧ Below w.heap.size w w' := by
  have HP : Hid (∀ x w, Calls Tryd.prog 38 #[.int .i64 (BitVec.toInt x)] w fun e w' => e = .returned (.string (strB (enc1 x))) ∧ Below w.heap.size w w') := fun x w => put_any x w
  have HN : Hid (∀ p w, Calls Tryd.prog 37 #[.pointer (some ⟨p, 0, none⟩)] w fun e w' => e = .returned (.agg (ptr5 p)) ∧ Below w.heap.size w w') := qnumbers_any
  have HF : Hid (∀ l w, Calls Tryd.prog 19 #[.string (strB l)] w fun e w' => e = .returned (.string (strB (fillL l))) ∧ Below w.heap.size w w') := qfilled_any
  show Calls _ _ #[.agg #[.int .i64 d.turn.toInt, .int .i64 d.f.toInt, .int .i64 d.c.toInt, .int .i64 d.n.toInt, .int .i64 d.s.toInt]] w _
  have B0 := box_old w (sdv d) 55 (.cells #[.pointer none, .slice none 0 0] 69)
  have B1 := isB_new (w.alloc (.cells (sdv d) 55))
  have b01 := below2 w (.cells (sdv d) 55) (.cells #[.pointer none, .slice none 0 0] 69)
  rw [World.size_alloc] at B1
  have HB : Hid (Box _ w.heap.size 55 (sdv d) ∧ IsB _ (w.heap.size + 1) (w.heap.size + 1) [] ∧ Below w.heap.size w _) := ⟨B0, B1, b01⟩
  clear B0 B1 b01
  go_enter Tryd.func24, Tryd.ntmps24
  go_wp2_with fail
  refine (HN.out _ _).mono ?_
  rintro e w1 ⟨rfl, b1⟩
  have HC : Hid (Box w1 w.heap.size 55 (sdv d) ∧ IsB w1 (w.heap.size + 1) (w.heap.size + 1) [] ∧ Below w.heap.size w w1) := ⟨HB.out.1.over b1, HB.out.2.1.over b1, HB.out.2.2.trans (b1.mono HB.out.2.2.size)⟩
  clear b1 HB
  obtain ⟨P5, hP5⟩ : ∃ P5, P5 = ptr5 w.heap.size := ⟨_, rfl⟩
  have HIX : Hid (∀ k w', k < 5 → (Instr.index 78 (.agg P5) (.int .i64 (k : Nat))).run Tryd.prog w' = .ok (.pointer (some ⟨w.heap.size, k, none⟩)) w') := fun k w' hk => by rw [hP5]; exact index5 _ k hk w'
  rw [← hP5]
  clear hP5
  go_wp2_with fail
  go_loopg [7] 5 (fun g s7 wx => ∃ k : Nat, k + g = 5 ∧ s7 = .int .i64 k ∧ Box wx w.heap.size 55 (sdv d) ∧ IsB wx (w.heap.size + 1) (w.heap.size + 1) (encs (d.nums.take k)) ∧ Below w.heap.size w wx)
  case atStart => exact ⟨0, rfl, rfl, HC.out.1, HC.out.2.1, HC.out.2.2⟩
  case round =>
    obtain ⟨k, hkg, rfl, hB, hI, hb⟩ := hrel
    by_cases hk : k < 5
    · have hkI : 0 ≤ (k : Int) ∧ (k : Int) < 5 := by omega
      have hcell : wr.cell? ⟨w.heap.size, k, none⟩ = some (.int .i64 (d.nums.getD k 0#64).toInt) := hB.cell k _ (sdv_at d k hk)
      obtain ⟨x, hx⟩ : ∃ x, x = d.nums.getD k 0#64 := ⟨_, rfl⟩
      rw [← hx] at hcell
      have cp := HP.out x
      have HK : Hid (Box wr w.heap.size 55 (sdv d) ∧ IsB wr (w.heap.size + 1) (w.heap.size + 1) (encs (d.nums.take k)) ∧ Below w.heap.size w wr ∧ x = d.nums.getD k 0#64) := ⟨hB, hI, hb, hx⟩
      clear hB hI hb hx
      have hix := HIX.out k wr hk
      go_wp2_with fail
      refine (cp _).mono ?_
      rintro e w2 ⟨rfl, b2⟩
      have hl := slot_used d k hk
      have cw := bld_write (HK.out.2.1.over b2) (enc1 x) (by rw [HK.out.2.2.2, hl.1]; omega) (by have := HK.out.2.2.1.size; have := b2.size; have := HK.out.1.lt; omega)
      rw [HK.out.2.2.2, ← encs_snoc d.nums k hk, ← HK.out.2.2.2] at cw
      have HK2 : Hid (Box w2 w.heap.size 55 (sdv d) ∧ Below w.heap.size w w2) := ⟨HK.out.1.over b2, HK.out.2.2.1.trans (b2.mono HK.out.2.2.1.size)⟩
      obtain ⟨E, hE⟩ : ∃ E, E = strB (enc1 x) := ⟨_, rfl⟩
      obtain ⟨n, hn⟩ : ∃ n, n = (enc1 x).length := ⟨_, rfl⟩
      rw [← hE, ← hn] at cw
      rw [← hE]
      clear b2 hl hE hn cp hix
      go_wp2_with fail
      refine cw.mono ?_
      rintro e w3 ⟨rfl, hI3, b3⟩
      have HK3 : Hid (Box w3 w.heap.size 55 (sdv d) ∧ IsB w3 (w.heap.size + 1) (w.heap.size + 1) (encs (d.nums.take (k + 1))) ∧ Below w.heap.size w w3) := ⟨HK2.out.1.below b3 (by omega), hI3, HK2.out.2.trans (b3.mono (by omega))⟩
      clear hI3 b3 cw
      go_wp2_with fail
      go_roundg (5 - (k + 1))
      case measure => omega
      case rel => exact ⟨k + 1, by omega, by go_num, HK3.out⟩
    · have hkI : ¬ (k : Int) < 5 := by omega
      have hk5 : k = 5 := by omega
      subst hk5
      rw [show d.nums.take 5 = d.nums from rfl] at hI
      have hsz : w.heap.size + 1 ≤ wr.heap.size := by have := hB.lt; omega
      have cs := bld_string hI hsz
      have hnl := nums_len d
      have HE : Hid (Box wr w.heap.size 55 (sdv d) ∧ Below w.heap.size w wr) := ⟨hB, hb⟩
      obtain ⟨E, hE⟩ : ∃ E, E = strB (encs d.nums) := ⟨_, rfl⟩
      have hEz : E.size = (encs d.nums).length := by rw [hE]; rfl
      have cl := fun w => seal_any E (by omega) w
      rw [hE, sealS_str, ← hE] at cl
      have cf := HF.out (sealL (encs d.nums))
      rw [← hE] at cs
      have HZ : Hid (fillL (sealL (encs d.nums)) = slotB d) := rfl
      obtain ⟨S, hS⟩ : ∃ S, S = strB (sealL (encs d.nums)) := ⟨_, rfl⟩
      rw [← hS] at cl cf
      obtain ⟨F, hF⟩ : ∃ F, F = strB (fillL (sealL (encs d.nums))) := ⟨_, rfl⟩
      rw [← hF] at cf
      have HFF : Hid (F = strB (slotB d)) := hF
      clear hF hS hE hEz hnl hI hB hb
      go_wp2_with fail
      refine cs.mono ?_
      rintro e w2 ⟨rfl, b2⟩
      go_wp2_with fail
      refine (cl _).mono ?_
      rintro e w3 ⟨rfl, b3⟩
      go_wp2_with fail
      refine (cf _).mono ?_
      rintro e w4 ⟨rfl, b4⟩
      go_wp2_with fail
      go_ret
      refine ⟨congrArg (fun x => Ending.returned (.string x)) HFF.out, ?_⟩
      have h2 := HE.out.2.trans (b2.mono (by omega))
      have h3 := h2.trans (b3.mono h2.size)
      exact h3.trans (b4.mono h3.size)
set_option maxRecDepth 4000 in
set_option maxHeartbeats 1000000 in
theorem qslot_any (f c turn : BitVec 64) (t : List UInt8) (ht : t.length ≤ 1000000) (w : World) :
    Calls Tryd.prog 11 #[.agg #[.int .i64 f.toInt, .int .i64 c.toInt], .int .i64 turn.toInt, .string (strB t)] w fun e w' => e = .returned (.string (strB (slotB ⟨turn, f, c, BitVec.ofNat 64 t.length, BitVec.ofNat 64 (Crc.sum t).toNat⟩))) ∧ Below w.heap.size w w' := by
  have cs := fun w => sum_any (strB t) (by rw [strB_size]; unfold maxLen; omega) w
  rw [strB_list] at cs
  have cb := fun w => qblock_any ⟨turn, f, c, BitVec.ofNat 64 t.length, BitVec.ofNat 64 (Crc.sum t).toNat⟩ w
  have hs32 : (Crc.sum t).toNat < 4294967296 := (Crc.sum t).isLt
  unfold sdv at cb
  simp only at cb
  rw [ofNat_toInt (by omega), ofNat_toInt (by omega)] at cb
  obtain ⟨R, hR⟩ : ∃ R, R = strB (slotB ⟨turn, f, c, BitVec.ofNat 64 t.length, BitVec.ofNat 64 (Crc.sum t).toNat⟩) := ⟨_, rfl⟩
  rw [← hR] at cb ⊢
  have hz : (strB t).size = t.length := rfl
  obtain ⟨S, hS⟩ : ∃ S, S = strB t := ⟨_, rfl⟩
  rw [← hS] at cs hz ⊢
  obtain ⟨m, hm⟩ : ∃ m, m = (Crc.sum t).toNat := ⟨_, rfl⟩
  rw [← hm] at cs cb
  obtain ⟨n, hn⟩ : ∃ n, n = t.length := ⟨_, rfl⟩
  rw [← hn] at hz cb
  obtain ⟨x, hx⟩ : ∃ x, x = f.toInt := ⟨_, rfl⟩
  obtain ⟨y, hy⟩ : ∃ y, y = c.toInt := ⟨_, rfl⟩
  obtain ⟨z, hz2⟩ : ∃ z, z = turn.toInt := ⟨_, rfl⟩
  rw [← hx, ← hy, ← hz2] at cb ⊢
  have hb1 := below1 w (.cells #[.int .i64 x, .int .i64 y] 32)
  have B0 := box_new w #[.int .i64 x, .int .i64 y] 32
  have k0 : ∀ k : Above (w.alloc (.cells #[.int .i64 x, .int .i64 y] 32)), k.it.cell? ⟨w.heap.size, 0, none⟩ = some (.int .i64 x) := fun k => (B0.over k.is).cell 0 _ rfl
  have k1 : ∀ k : Above (w.alloc (.cells #[.int .i64 x, .int .i64 y] 32)), k.it.cell? ⟨w.heap.size, 1, none⟩ = some (.int .i64 y) := fun k => (B0.over k.is).cell 1 _ rfl
  clear hR hS hm hn hx hy hz2 hs32 ht B0
  go_enter Tryd.func11, Tryd.ntmps11
  go_wp2_with fail
  refine wp_region_above (by kernel_rfl) (by kernel_rfl) ?_
  intro hne
  repeat (go_big_quiet_step (first
    | (go_at_call 23; exact above_same (cs _))
    | (go_at_call 24; exact above_of (cb _))))
  refine wpQuiet_nil ?_
  rintro _ ⟨kq, rfl⟩
  have hbq := kq.is
  replace hbq := hb1.trans (hbq.mono hb1.size)
  clear k0 k1
  go_wp2
  go_ret
  exact ⟨rfl, hbq⟩
end Go.Proofs.YthcjjcfiademnaaDoor
/-
  The contract of package peristyleref24's Slot: it is package slots'.
-/
namespace Go.Proofs.YthcjjcfiademnaaDoor
open Go.RowKit Leb

theorem strB_app (a b : List UInt8) : strB a ++ strB b = strB (a ++ b) := by
  apply ByteArray.ext
  rw [ByteArray.data_append]
  simp [strB]
set_option maxRecDepth 4000 in
set_option maxHeartbeats 2000000 in
theorem refSlot_any (f c turn : BitVec 64) (t : List UInt8) (ht : t.length ≤ 1000000) (w : World) :
    Calls Tryd.prog 12 #[.agg #[.int .i64 f.toInt, .int .i64 c.toInt], .int .i64 turn.toInt, .string (strB t)] w fun e w' => e = .returned (.string (strB (slotB ⟨turn, f, c, BitVec.ofNat 64 t.length, BitVec.ofNat 64 (Crc.sum t).toNat⟩))) ∧ Below w.heap.size w w' := by
  obtain ⟨d, hd⟩ : ∃ d : Sd, d = ⟨turn, f, c, BitVec.ofNat 64 t.length, BitVec.ofNat 64 (Crc.sum t).toNat⟩ := ⟨_, rfl⟩
  have hs32 : (Crc.sum t).toNat < 4294967296 := (Crc.sum t).isLt
  have csum := fun w => refSum_any (strB t) (by rw [strB_size]; unfold maxLen; omega) w
  rw [strB_list] at csum
  have c1 := fun w => refPut_any turn w
  have c2 := fun w => refPut_any f w
  have c3 := fun w => refPut_any c w
  have c4 := fun w => refPut_any (BitVec.ofNat 64 t.length) w
  have c5 := fun w => refPut_any (BitVec.ofNat 64 (Crc.sum t).toNat) w
  rw [ofNat_toInt (by omega)] at c4 c5
  have hnl := nums_len d
  have hen : encs d.nums = enc1 turn ++ enc1 f ++ enc1 c ++ enc1 (BitVec.ofNat 64 t.length) ++ enc1 (BitVec.ofNat 64 (Crc.sum t).toNat) := by rw [hd]; exact encs_five _ _ _ _ _
  have hsb : slotB d = sealL (encs d.nums) ++ List.replicate (128 - ((encs d.nums).length + 4)) 0 := by
    rw [slotB, fillL, List.take_of_length_le (by rw [sealL_len]; omega), sealL_len]
  rw [← hd]
  have hz : (strB t).size = t.length := rfl
  obtain ⟨S, hS⟩ : ∃ S, S = strB t := ⟨_, rfl⟩
  rw [← hS] at csum hz ⊢
  obtain ⟨sm, hsm⟩ : ∃ m, m = (Crc.sum t).toNat := ⟨_, rfl⟩
  rw [← hsm] at csum c5 hen
  obtain ⟨n, hn⟩ : ∃ n, n = t.length := ⟨_, rfl⟩
  rw [← hn] at hz c4 hen ht
  obtain ⟨e1, he1⟩ : ∃ e, e = str (enc1 turn) := ⟨_, rfl⟩
  obtain ⟨e2, he2⟩ : ∃ e, e = str (enc1 f) := ⟨_, rfl⟩
  obtain ⟨e3, he3⟩ : ∃ e, e = str (enc1 c) := ⟨_, rfl⟩
  obtain ⟨e4, he4⟩ : ∃ e, e = str (enc1 (BitVec.ofNat 64 n)) := ⟨_, rfl⟩
  obtain ⟨e5, he5⟩ : ∃ e, e = str (enc1 (BitVec.ofNat 64 sm)) := ⟨_, rfl⟩
  have hall : e1 ++ e2 ++ e3 ++ e4 ++ e5 = strB (encs d.nums) := by
    rw [hen, he1, he2, he3, he4, he5]
    show strB _ ++ strB _ ++ strB _ ++ strB _ ++ strB _ = _
    rw [strB_app, strB_app, strB_app, strB_app]
  obtain ⟨m, hm⟩ : ∃ m, m = (encs d.nums).length := ⟨_, rfl⟩
  have q6 : (e1 ++ e2 ++ e3 ++ e4 ++ e5).size = m := by rw [hall, strB_size, hm]
  have cs := fun w => refSeal_any (e1 ++ e2 ++ e3 ++ e4 ++ e5) (by omega) w
  rw [hall, sealS_str] at cs
  rw [← hall] at cs
  rw [← hm] at hnl hsb
  obtain ⟨B, hB⟩ : ∃ B, B = strB (sealL (encs d.nums)) := ⟨_, rfl⟩
  have hBz : B.size = m + 4 := by rw [hB, strB_size, sealL_len, hm]
  rw [← hB] at cs
  obtain ⟨g, hg⟩ : ∃ g, g = 128 - (m + 4) := ⟨_, rfl⟩
  rw [← hg] at hsb
  have hz9 : (strB (List.replicate g 0)).size = g := by rw [strB_size, List.length_replicate]
  have hg9 : g ≤ 124 := by omega
  obtain ⟨Z, hZ⟩ : ∃ Z, Z = strB (List.replicate g 0) := ⟨_, rfl⟩
  have HE : Hid (B ++ Z = strB (slotB d)) := by
    show _ = _
    rw [hB, hZ, strB_app, hsb]
  have HZ : Hid (Z = strB (List.replicate g 0)) := hZ
  rw [← hZ] at hz9
  have hmI : (m : Int) ≤ 50 := by omega
  have hwI : (128 : Int) - ((m : Int) + 4) = (g : Int) := by omega
  rw [ByteArray.size_append, ByteArray.size_append, ByteArray.size_append, ByteArray.size_append] at q6
  have q1 : e1.size ≤ 124 := by omega
  have r2 : e2.size ≤ 124 := by omega
  have r3 : e3.size ≤ 124 := by omega
  have r4 : e4.size ≤ 124 := by omega
  have r5 : e5.size ≤ 124 := by omega
  have q2 : (e1 ++ e2).size ≤ 124 := by rw [ByteArray.size_append]; omega
  have q3 : (e1 ++ e2 ++ e3).size ≤ 124 := by rw [ByteArray.size_append, ByteArray.size_append]; omega
  have q4 : (e1 ++ e2 ++ e3 ++ e4).size ≤ 124 := by rw [ByteArray.size_append, ByteArray.size_append, ByteArray.size_append]; omega
  have q5 : (e1 ++ e2 ++ e3 ++ e4 ++ e5).size = m := by rw [ByteArray.size_append, ByteArray.size_append, ByteArray.size_append, ByteArray.size_append]; omega
  rw [← he1] at c1
  rw [← he2] at c2
  rw [← he3] at c3
  rw [← he4] at c4
  rw [← he5] at c5
  obtain ⟨x, hx⟩ : ∃ x, x = f.toInt := ⟨_, rfl⟩
  obtain ⟨y, hy⟩ : ∃ y, y = c.toInt := ⟨_, rfl⟩
  obtain ⟨z, hz2⟩ : ∃ z, z = turn.toInt := ⟨_, rfl⟩
  rw [← hz2] at c1
  rw [← hx] at c2
  rw [← hy] at c3
  rw [← hx, ← hy, ← hz2]
  have hb1 := below1 w (.cells #[.int .i64 x, .int .i64 y] 32)
  have B0 := box_new w #[.int .i64 x, .int .i64 y] 32
  have k0 : ∀ k : Above (w.alloc (.cells #[.int .i64 x, .int .i64 y] 32)), k.it.cell? ⟨w.heap.size, 0, none⟩ = some (.int .i64 x) := fun k => (B0.over k.is).cell 0 _ rfl
  have k1 : ∀ k : Above (w.alloc (.cells #[.int .i64 x, .int .i64 y] 32)), k.it.cell? ⟨w.heap.size, 1, none⟩ = some (.int .i64 y) := fun k => (B0.over k.is).cell 1 _ rfl
  clear hS he1 he2 he3 he4 he5 hB hn hm hg hZ hd hen hsb hall hnl hsm hx hy hz2 B0 hs32 ht q6
  go_enter Tryd.func12, Tryd.ntmps12
  go_wp2_with fail
  refine wp_region_above (by kernel_rfl) (by kernel_rfl) ?_
  intro hne
  repeat (go_big_quiet_step (first
    | (go_at_call 26; first | with_reducible exact above_of (c1 _) | with_reducible exact above_of (c2 _) | with_reducible exact above_of (c3 _) | with_reducible exact above_of (c4 _) | with_reducible exact above_of (c5 _))
    | (go_at_call 27; first | exact above_same (csum _) | exact above_of (csum _))
    | (go_at_call 25; exact above_of (cs _))))
  refine wpQuiet_nil ?_
  rintro _ ⟨kq, rfl⟩
  have hbq := kq.is
  replace hbq := hb1.trans (hbq.mono hb1.size)
  clear k0 k1
  go_wp2_with (at_make; refine make_u8 rfl _ _ rfl rfl rfl rfl (by omega) ?_; intro w7 hrow hb7; have htx := hrow.text g; rw [List.length_replicate, ← HZ.out] at htx)
  go_ret
  exact ⟨congrArg (fun x => Ending.returned (.string x)) HE.out, hbq.trans (hb7.mono hbq.size)⟩
end Go.Proofs.YthcjjcfiademnaaDoor
/-
  The contracts of package slots' take and belongs, of a slot's block that belongs there.
-/
namespace Go.Proofs.YthcjjcfiademnaaDoor
open Go.RowKit Leb

/-- A slot of which the first k numbers are there. -/
def sdK (d : Sd) : Nat → Array Value
  | 0 => #[.int .i64 0, .int .i64 0, .int .i64 0, .int .i64 0, .int .i64 0]
  | 1 => #[.int .i64 d.turn.toInt, .int .i64 0, .int .i64 0, .int .i64 0, .int .i64 0]
  | 2 => #[.int .i64 d.turn.toInt, .int .i64 d.f.toInt, .int .i64 0, .int .i64 0, .int .i64 0]
  | 3 => #[.int .i64 d.turn.toInt, .int .i64 d.f.toInt, .int .i64 d.c.toInt, .int .i64 0, .int .i64 0]
  | 4 => #[.int .i64 d.turn.toInt, .int .i64 d.f.toInt, .int .i64 d.c.toInt, .int .i64 d.n.toInt, .int .i64 0]
  | _ => sdv d
theorem sdK_set (d : Sd) (k : Nat) (hk : k < 5) : (sdK d k).setIfInBounds k (.int .i64 (d.nums.getD k 0#64).toInt) = sdK d (k + 1) := by
  have h : k = 0 ∨ k = 1 ∨ k = 2 ∨ k = 3 ∨ k = 4 := by omega
  rcases h with rfl | rfl | rfl | rfl | rfl <;> rfl
theorem sdK_at (d : Sd) (k : Nat) (hk : k < 5) : (sdK d k)[k]? = some (.int .i64 0) := by
  have h : k = 0 ∨ k = 1 ∨ k = 2 ∨ k = 3 ∨ k = 4 := by omega
  rcases h with rfl | rfl | rfl | rfl | rfl <;> rfl
theorem rest_cut (l : List UInt8) (n : Nat) : (strB l).extract n (strB l).size = strB (l.drop n) := by
  rw [← strB_of ((strB l).extract n (strB l).size), extract_rest, strB_list]
theorem head_cut (l : List UInt8) (n : Nat) : (strB l).extract 0 n = strB (l.take n) := by
  rw [← strB_of ((strB l).extract 0 n), extract_head, strB_list]
set_option maxRecDepth 4000 in
set_option maxHeartbeats 1600000 in
theorem qtake_good (d : Sd) (w : World) :
    Calls Tryd.prog 45 #[.string (strB (slotB d))] w fun e w' => e = .returned (.tuple #[.agg (sdv d), .int .i64 0]) ∧ Below w.heap.size w w' := by
  have HT : Hid (∀ (l : List UInt8) (w : World), l.length ≤ 128 → Calls Tryd.prog 54 #[.string (strB l)] w fun e w' => e = .returned (.tuple #[.int .i64 (zagW (tk l).1).toInt, .int .i64 (tk l).2.1, .int .i64 (tk l).2.2]) ∧ w' = w) := by
    intro l w hl
    have := take_any (strB l) (by rw [strB_size]; unfold maxLen; omega) w
    rw [strB_list] at this
    exact this
  have HN : Hid (∀ p w, Calls Tryd.prog 37 #[.pointer (some ⟨p, 0, none⟩)] w fun e w' => e = .returned (.agg (ptr5 p)) ∧ Below w.heap.size w w') := qnumbers_any
  have HBk : Hid (∀ w, Calls Tryd.prog 24 #[.agg (sdv d)] w fun e w' => e = .returned (.string (strB (slotB d))) ∧ Below w.heap.size w w') := qblock_any d
  have B1 := box_new (w.alloc (.cells (sdK d 0) 55)) (sdK d 0) 55
  rw [World.size_alloc] at B1
  have HB : Hid (Box _ w.heap.size 55 (sdK d 0) ∧ Box _ (w.heap.size + 1) 55 (sdK d 0) ∧ Below w.heap.size w _) := ⟨box_old w (sdK d 0) 55 (.cells (sdK d 0) 55), B1, below2 w (.cells (sdK d 0) 55) (.cells (sdK d 0) 55)⟩
  clear B1
  obtain ⟨S, hS⟩ : ∃ S, S = strB (slotB d) := ⟨_, rfl⟩
  have HS : Hid (S = strB (slotB d)) := hS
  rw [← hS] at HBk ⊢
  clear hS
  go_enter Tryd.func45, Tryd.ntmps45
  go_wp2_with fail
  refine (HN.out _ _).mono ?_
  rintro e w1 ⟨rfl, b1⟩
  have HC : Hid (Box w1 w.heap.size 55 (sdK d 0) ∧ Box w1 (w.heap.size + 1) 55 (sdK d 0) ∧ Below w.heap.size w w1) := ⟨HB.out.1.over b1, HB.out.2.1.over b1, HB.out.2.2.trans (b1.mono HB.out.2.2.size)⟩
  clear b1 HB
  obtain ⟨P5, hP5⟩ : ∃ P5, P5 = ptr5 (w.heap.size + 1) := ⟨_, rfl⟩
  have HIX : Hid (∀ k w', k < 5 → (Instr.index 78 (.agg P5) (.int .i64 (k : Nat))).run Tryd.prog w' = .ok (.pointer (some ⟨w.heap.size + 1, k, none⟩)) w') := fun k w' hk => by rw [hP5]; exact index5 _ k hk w'
  rw [← hP5]
  clear hP5
  go_wp2_with fail
  go_loopg [5, 13] 5 (fun g s5 s13 wx => ∃ (k : Nat) (R : ByteArray), k + g = 5 ∧ s13 = .int .i64 k ∧ s5 = .string R ∧ R = strB ((slotB d).drop (encs (d.nums.take k)).length) ∧ Box wx w.heap.size 55 (sdK d 0) ∧ Box wx (w.heap.size + 1) 55 (sdK d k) ∧ Below w.heap.size w wx)
  case atStart => exact ⟨0, S, rfl, rfl, rfl, HS.out, HC.out.1, HC.out.2.1, HC.out.2.2⟩
  case round =>
    obtain ⟨k, R, hkg, rfl, rfl, hR, hB0, hB1, hbel⟩ := hrel
    have HR : Hid (R = strB ((slotB d).drop (encs (d.nums.take k)).length)) := hR
    by_cases hk : k < 5
    · have hkI : (k : Int) < 5 := by omega
      have hul := slot_used d k hk
      have hRz : R.size = 128 - (encs (d.nums.take k)).length := by rw [hR, strB_size, List.length_drop, slotB_len]
      have c := HT.out ((slotB d).drop (encs (d.nums.take k)).length) wr (by rw [List.length_drop, slotB_len]; omega)
      rw [← hR, slot_tk d k hk] at c
      simp only at c
      rw [zag_zig] at c
      have hset := hB1.drew.set k (.int .i64 (d.nums.getD k 0#64).toInt)
      rw [sdK_set d k hk] at hset
      obtain ⟨x, hx⟩ : ∃ x, x = (d.nums.getD k 0#64).toInt := ⟨_, rfl⟩
      obtain ⟨n, hn⟩ : ∃ n, n = (enc1 (d.nums.getD k 0#64)).length := ⟨_, rfl⟩
      rw [← hx, ← hn] at c
      rw [← hx] at hset
      rw [← hn] at hul
      have hbd : 0 ≤ (n : Int) ∧ (n : Int) ≤ (R.size : Int) := by omega
      have hix := HIX.out k wr hk
      have hc1 := hB1.cell k (.int .i64 0) (sdK_at d k hk)
      have hf1 := hB1.frozen k
      have HK : Hid (Box wr w.heap.size 55 (sdK d 0) ∧ Box (wr.drew.setCell ⟨w.heap.size + 1, k, none⟩ (.int .i64 x)) (w.heap.size + 1) 55 (sdK d (k + 1)) ∧ Below w.heap.size w wr ∧ (encs (d.nums.take k)).length + n = (encs (d.nums.take (k + 1))).length) := ⟨hB0, hset, hbel, hul.1⟩
      clear hx hn hR hB0 hB1 hbel hset hul hRz
      go_wp2_with fail
      refine c.mono ?_
      rintro e w2 ⟨rfl, hw2⟩
      replace hw2 := hw2.symm
      subst hw2
      go_wp2_with fail
      refine wp_region_held_then (fun _ : World => True) _ (by kernel_rfl) rfl (by kernel_rfl) ?_
      have hHeld : (fun _ : World => True) wr.drew := trivial
      dsimp only [List.dropLast, List.length, List.getLast]
      ((refine takeL 0 (v := ?_) rfl (by kernel_rfl) (by kernel_rfl) (by kernel_rfl) (fun _ _ _ h => h) (by rfl) hHeld ?_ ?_; rotate_left; focus (intro w hSw; (try dsimp only at hSw); go_simp <;> with_reducible rfl); (try simp only [Act.put, List.setIfInBounds_toArray, List.set_cons_zero, List.set_cons_succ])); (refine takeL 1 (v := ?_) rfl (by kernel_rfl) (by kernel_rfl) (by kernel_rfl) (fun _ _ _ h => h) (by rfl) hHeld ?_ ?_; rotate_left; focus (intro w hSw; (try dsimp only at hSw); go_simp <;> with_reducible rfl); (try simp only [Act.put, List.setIfInBounds_toArray, List.set_cons_zero, List.set_cons_succ])); (refine takeL 2 (v := ?_) rfl (by kernel_rfl) (by kernel_rfl) (by kernel_rfl) (fun _ _ _ h => h) (by rfl) hHeld ?_ ?_; rotate_left; focus (intro w hSw; (try dsimp only at hSw); go_simp <;> with_reducible rfl); (try simp only [Act.put, List.setIfInBounds_toArray, List.set_cons_zero, List.set_cons_succ])); (refine takeL 3 (v := ?_) rfl (by kernel_rfl) (by kernel_rfl) (by kernel_rfl) (fun _ _ _ h => h) (by rfl) hHeld ?_ ?_; rotate_left; focus (intro w hSw; (try dsimp only at hSw); go_simp <;> with_reducible rfl); (try simp only [Act.put, List.setIfInBounds_toArray, List.set_cons_zero, List.set_cons_succ])); (refine takeL 4 (v := ?_) rfl (by kernel_rfl) (by kernel_rfl) (by kernel_rfl) (fun _ _ _ h => h) (by rfl) hHeld ?_ ?_; rotate_left; focus (intro w hSw; (try dsimp only at hSw); go_simp <;> with_reducible rfl); (try simp only [Act.put, List.setIfInBounds_toArray, List.set_cons_zero, List.set_cons_succ])); (refine takeL 5 (v := ?_) rfl (by kernel_rfl) (by kernel_rfl) (by kernel_rfl) (fun _ _ _ h => h) (by rfl) hHeld ?_ ?_; rotate_left; focus (intro w hSw; (try dsimp only at hSw); go_simp <;> with_reducible rfl); (try simp only [Act.put, List.setIfInBounds_toArray, List.set_cons_zero, List.set_cons_succ])))
      dsimp only [Act.put]
      simp only [List.setIfInBounds_toArray, List.set_cons_zero, List.set_cons_succ]
      refine stepL 6 (wr.drew.setCell ⟨w.heap.size + 1, k, none⟩ (.int .i64 x)) rfl (by kernel_rfl) (by rfl) (by go_simp) trivial ?_
      refine doneL (by kernel_rfl) ?_
      dsimp only [Act.put]
      unfold Oper.wp
      go_simp
      go_wp2_with fail
      go_roundg (5 - (k + 1))
      case measure => omega
      case rel =>
        refine ⟨k + 1, R.extract n R.size, by omega, by go_num, by simp, ?_, HK.out.1.drew.other (by simp) _, HK.out.2.1, HK.out.2.2.1.drew.setCell (p := ⟨w.heap.size + 1, k, none⟩) (by simp) _⟩
        rw [HR.out, rest_cut, List.drop_drop, HK.out.2.2.2]
    · have hkI : ¬ (k : Int) < 5 := by omega
      have hk5 : k = 5 := by omega
      subst hk5
      have l0 := hB1.cell 0 (.int .i64 d.turn.toInt) rfl
      have l1 := hB1.cell 1 (.int .i64 d.f.toInt) rfl
      have l2 := hB1.cell 2 (.int .i64 d.c.toInt) rfl
      have l3 := hB1.cell 3 (.int .i64 d.n.toInt) rfl
      have l4 := hB1.cell 4 (.int .i64 d.s.toInt) rfl
      have cb := HBk.out wr
      unfold sdv at cb
      have HK : Hid (Box wr w.heap.size 55 (sdK d 0) ∧ Box wr (w.heap.size + 1) 55 (sdK d 5) ∧ Below w.heap.size w wr) := ⟨hB0, hB1, hbel⟩
      clear hB0 hB1 hbel hR
      go_wp2_with fail
      refine cb.mono ?_
      rintro e w2 ⟨rfl, b2⟩
      have C0 := HK.out.1.over b2
      have C1 := HK.out.2.1.over b2
      have C2 := HK.out.2.2.trans (b2.mono HK.out.2.2.size)
      have m0 := C1.cell 0 (.int .i64 d.turn.toInt) rfl
      have m1 := C1.cell 1 (.int .i64 d.f.toInt) rfl
      have m2 := C1.cell 2 (.int .i64 d.c.toInt) rfl
      have m3 := C1.cell 3 (.int .i64 d.n.toInt) rfl
      have m4 := C1.cell 4 (.int .i64 d.s.toInt) rfl
      have z0 := C0.cell 0 (.int .i64 0) rfl
      have z1 := C0.cell 1 (.int .i64 0) rfl
      have z2 := C0.cell 2 (.int .i64 0) rfl
      have z3 := C0.cell 3 (.int .i64 0) rfl
      have z4 := C0.cell 4 (.int .i64 0) rfl
      have y0 := C0.frozen 0
      have y1 := C0.frozen 1
      have y2 := C0.frozen 2
      have y3 := C0.frozen 3
      have y4 := C0.frozen 4
      have HF : Hid _ := (show Hid _ from box_five C0 (.int .i64 d.turn.toInt) (.int .i64 d.f.toInt) (.int .i64 d.c.toInt) (.int .i64 d.n.toInt) (.int .i64 d.s.toInt))
      have HL : Hid _ := (show Hid _ from below_five C2 (Nat.le_refl _) (.int .i64 d.turn.toInt) (.int .i64 d.f.toInt) (.int .i64 d.c.toInt) (.int .i64 d.n.toInt) (.int .i64 d.s.toInt))
      clear C0 C1 C2 l0 l1 l2 l3 l4 cb
      go_wp2_with fail
      exact bodyPost_ret (res_box_slot Tryd.results45 _ rfl HF.out Tryd.underlying55 rfl size_slot _ rfl) rfl ⟨rfl, HL.out⟩
end Go.Proofs.YthcjjcfiademnaaDoor
/-
  The contracts of package slots' belongs, slotIn and last, of slots that belong there.
-/
namespace Go.Proofs.YthcjjcfiademnaaDoor
open Go.RowKit Leb

set_option maxRecDepth 4000 in
set_option maxHeartbeats 2000000 in
theorem qbelongs_good {w : World} {H : Hnd} {s : St} (D : DevIs w H s) (d : Sd) (place : Nat) (hb : Bel s.sure.length place d) :
    Calls Tryd.prog 46 #[.agg (sdv d), .pointer (some ⟨H.p, 0, none⟩), .int .i64 place] w fun e w' => e = .returned (.bool true) ∧ Below w.heap.size w w' := by
  have hb1 := below1 w (.cells (sdv d) 55)
  have B0 := box_new w (sdv d) 55
  have D1 := D.below hb1
  have hn := D.top
  obtain ⟨t1, t2, tp, f1, c1, fc, n0, n1, s0, s1⟩ := hb
  show Calls _ _ #[.agg #[.int .i64 d.turn.toInt, .int .i64 d.f.toInt, .int .i64 d.c.toInt, .int .i64 d.n.toInt, .int .i64 d.s.toInt], _, _] w _
  have hs0 : sdv d = #[.int .i64 d.turn.toInt, .int .i64 d.f.toInt, .int .i64 d.c.toInt, .int .i64 d.n.toInt, .int .i64 d.s.toInt] := rfl
  rw [hs0] at hb1 B0 D1
  obtain ⟨x, hx⟩ : ∃ x, x = d.turn.toInt := ⟨_, rfl⟩
  obtain ⟨f, hf⟩ : ∃ f, f = d.f.toInt := ⟨_, rfl⟩
  obtain ⟨c, hc⟩ : ∃ c, c = d.c.toInt := ⟨_, rfl⟩
  obtain ⟨n, hnn⟩ : ∃ n, n = d.n.toInt := ⟨_, rfl⟩
  obtain ⟨m, hm⟩ : ∃ m, m = d.s.toInt := ⟨_, rfl⟩
  rw [← hx, ← hf, ← hc, ← hnn, ← hm] at B0 D1 hb1 ⊢
  rw [← hx] at t1 t2 tp
  rw [← hf] at f1 fc
  rw [← hc] at c1 fc n1
  rw [← hnn] at n0 n1
  rw [← hm] at s0 s1
  clear hx hf hc hnn hm hs0
  have ct : ∀ k : Above (w.alloc (.cells #[.int .i64 x, .int .i64 f, .int .i64 c, .int .i64 n, .int .i64 m] 55)), Calls Tryd.prog 14 #[.int .i64 x] k.it fun e w' => e = .returned (.bool true) ∧ w' = k.it := fun k => qturn_yes x t1 t2 _
  have ch : ∀ k : Above (w.alloc (.cells #[.int .i64 x, .int .i64 f, .int .i64 c, .int .i64 n, .int .i64 m] 55)), Calls Tryd.prog 15 #[.pointer (some ⟨H.p, 0, none⟩), .agg #[.int .i64 f, .int .i64 c]] k.it fun e w' => e = .returned (.bool true) ∧ Below k.it.heap.size k.it w' := fun k => qhas_yes (D1.below k.is) f c f1 c1 fc
  have cr : ∀ k : Above (w.alloc (.cells #[.int .i64 x, .int .i64 f, .int .i64 c, .int .i64 n, .int .i64 m] 55)), Calls Tryd.prog 16 #[.agg #[.int .i64 f, .int .i64 c]] k.it fun e w' => e = .returned (.int .i64 (c * 128)) ∧ Below k.it.heap.size k.it w' := fun k => qroom_any f c (by omega) (by omega) _
  have k0 : ∀ k : Above (w.alloc (.cells #[.int .i64 x, .int .i64 f, .int .i64 c, .int .i64 n, .int .i64 m] 55)), k.it.cell? ⟨w.heap.size, 0, none⟩ = some (.int .i64 x) := fun k => (B0.over k.is).cell 0 _ rfl
  have k1 : ∀ k : Above (w.alloc (.cells #[.int .i64 x, .int .i64 f, .int .i64 c, .int .i64 n, .int .i64 m] 55)), k.it.cell? ⟨w.heap.size, 1, none⟩ = some (.int .i64 f) := fun k => (B0.over k.is).cell 1 _ rfl
  have k2 : ∀ k : Above (w.alloc (.cells #[.int .i64 x, .int .i64 f, .int .i64 c, .int .i64 n, .int .i64 m] 55)), k.it.cell? ⟨w.heap.size, 2, none⟩ = some (.int .i64 c) := fun k => (B0.over k.is).cell 2 _ rfl
  have k3 : ∀ k : Above (w.alloc (.cells #[.int .i64 x, .int .i64 f, .int .i64 c, .int .i64 n, .int .i64 m] 55)), k.it.cell? ⟨w.heap.size, 3, none⟩ = some (.int .i64 n) := fun k => (B0.over k.is).cell 3 _ rfl
  have k4 : ∀ k : Above (w.alloc (.cells #[.int .i64 x, .int .i64 f, .int .i64 c, .int .i64 n, .int .i64 m] 55)), k.it.cell? ⟨w.heap.size, 4, none⟩ = some (.int .i64 m) := fun k => (B0.over k.is).cell 4 _ rfl
  have g0 : (Int.tmod x 2 == (place : Int)) = true := by rw [Int.tmod_eq_emod_of_nonneg (by omega), tp]; simp
  have g1 : decide (0 ≤ n) = true := by simp; omega
  have g2 : decide (n ≤ c * 128) = true := by simp; omega
  have g3 : decide (0 ≤ m) = true := by simp; omega
  have g4 : decide (m ≤ 4294967295) = true := by simp; omega
  obtain ⟨p, hp⟩ : ∃ p, p = H.p := ⟨_, rfl⟩
  rw [← hp] at ch ⊢
  clear D D1 B0 hp tp t1 t2
  go_enter Tryd.func46, Tryd.ntmps46
  go_wp2_with fail
  refine wp_region_above (by kernel_rfl) (by kernel_rfl) ?_
  intro hne
  repeat (go_big_quiet_step (first
    | (go_at_call 14; exact above_same (ct _))
    | (go_at_call 15; exact above_of (ch _))
    | (go_at_call 16; exact above_of (cr _))))
  refine wpQuiet_nil ?_
  rintro _ ⟨kq, rfl⟩
  have hbq := kq.is
  replace hbq := hb1.trans (hbq.mono hb1.size)
  clear k0 k1 k2 k3 k4
  go_wp2
  go_ret
  exact ⟨by simp, hbq⟩
end Go.Proofs.YthcjjcfiademnaaDoor
/-
  The contracts of package slots' slotIn and last, of slots that belong there.
-/
namespace Go.Proofs.YthcjjcfiademnaaDoor
open Go.RowKit Leb

set_option maxRecDepth 4000 in
set_option maxHeartbeats 1600000 in
theorem qslotIn_none {w : World} {H : Hnd} {s : St} (D : DevIs w H s) (hoff : s.off = false) (place : Nat) (hS : (lay s.sure s.wait)[place]? = some zeros) :
    Calls Tryd.prog 31 #[.pointer (some ⟨H.p, 0, none⟩), .int .i64 place] w fun e w' => e = .returned (.tuple #[.agg (sdv noSd), .int .i64 0]) ∧ Below w.heap.size w w' := by
  have b1 := below1 w (.cells (sdK noSd 0) 55)
  have B1 := box_new w (sdK noSd 0) 55
  have cr := read_on (D.below b1) place zeros hS hoff
  have cb := fun w => qblank_any zeros (by decide) w
  rw [blank_zeros] at cb
  obtain ⟨Z, hZ⟩ : ∃ Z, Z = strB zeros := ⟨_, rfl⟩
  rw [← hZ] at cr cb
  obtain ⟨p, hp⟩ : ∃ p, p = H.p := ⟨_, rfl⟩
  rw [← hp] at cr ⊢
  have HB : Hid (Box _ w.heap.size 55 (sdK noSd 0) ∧ Below w.heap.size w _) := ⟨B1, b1⟩
  unfold sdK at cr
  clear B1 b1 hZ hp D hS hoff
  go_enter Tryd.func31, Tryd.ntmps31
  go_wp2_with fail
  refine cr.mono ?_
  rintro e w1 ⟨rfl, hw1⟩
  have C0 : Box w1 w.heap.size 55 (sdK noSd 0) ∧ Below w.heap.size w w1 := by
    subst hw1
    exact HB.out
  have HC : Hid (Box w1 w.heap.size 55 (sdK noSd 0) ∧ Below w.heap.size w w1) := C0
  clear hw1 C0 HB
  go_wp2_with fail
  refine (cb _).mono ?_
  rintro e w2 ⟨rfl, b2⟩
  have C0 := HC.out.1.over b2
  have C2 := HC.out.2.trans (b2.mono HC.out.2.size)
  have z0 := C0.cell 0 (.int .i64 0) rfl
  have z1 := C0.cell 1 (.int .i64 0) rfl
  have z2 := C0.cell 2 (.int .i64 0) rfl
  have z3 := C0.cell 3 (.int .i64 0) rfl
  have z4 := C0.cell 4 (.int .i64 0) rfl
  have y0 := C0.frozen 0
  have y1 := C0.frozen 1
  have y2 := C0.frozen 2
  have y3 := C0.frozen 3
  have y4 := C0.frozen 4
  have HF : Hid _ := (show Hid _ from box_five C0 (.int .i64 0) (.int .i64 0) (.int .i64 0) (.int .i64 0) (.int .i64 0))
  have HL : Hid _ := (show Hid _ from below_five C2 (Nat.le_refl _) (.int .i64 0) (.int .i64 0) (.int .i64 0) (.int .i64 0) (.int .i64 0))
  clear C0 C2 b2 cb
  go_wp2_with fail
  exact bodyPost_ret (res_box_slot Tryd.results31 _ rfl HF.out Tryd.underlying55 rfl size_slot _ rfl) rfl ⟨rfl, HL.out⟩
set_option maxRecDepth 4000 in
set_option maxHeartbeats 1600000 in
theorem qslotIn_some {w : World} {H : Hnd} {s : St} (D : DevIs w H s) (hoff : s.off = false) (place : Nat) (d : Sd) (hS : (lay s.sure s.wait)[place]? = some (slotB d)) (hbel : Bel s.sure.length place d) :
    Calls Tryd.prog 31 #[.pointer (some ⟨H.p, 0, none⟩), .int .i64 place] w fun e w' => e = .returned (.tuple #[.agg (sdv d), .int .i64 0]) ∧ Below w.heap.size w w' := by
  have b1 := below1 w (.cells (sdK noSd 0) 55)
  have B1 := box_new w (sdK noSd 0) 55
  have cr := read_on (D.below b1) place (slotB d) hS hoff
  have cb := fun w => qblank_any (slotB d) (by rw [slotB_len]; omega) w
  rw [slot_not_blank d hbel.t1] at cb
  have ct := fun w => qtake_good d w
  have HG : Hid (∀ w', DevIs w' H s → Calls Tryd.prog 46 #[.agg (sdv d), .pointer (some ⟨H.p, 0, none⟩), .int .i64 place] w' fun e w'' => e = .returned (.bool true) ∧ Below w'.heap.size w' w'') := fun w' D' => qbelongs_good D' d place hbel
  obtain ⟨Z, hZ⟩ : ∃ Z, Z = strB (slotB d) := ⟨_, rfl⟩
  rw [← hZ] at cr cb ct
  obtain ⟨p, hp⟩ : ∃ p, p = H.p := ⟨_, rfl⟩
  rw [← hp] at cr HG ⊢
  have HB : Hid (Box _ w.heap.size 55 (sdK noSd 0) ∧ Below w.heap.size w _ ∧ DevIs _ H s) := ⟨B1, b1, D.below b1⟩
  unfold sdK at cr
  unfold sdv at ct
  clear B1 b1 hZ hp D hS hoff hbel
  go_enter Tryd.func31, Tryd.ntmps31
  go_wp2_with fail
  refine cr.mono ?_
  rintro e w1 ⟨rfl, hw1⟩
  have C0 : Box w1 w.heap.size 55 (sdK noSd 0) ∧ Below w.heap.size w w1 ∧ DevIs w1 H s := by
    subst hw1
    exact HB.out
  have HC : Hid (Box w1 w.heap.size 55 (sdK noSd 0) ∧ Below w.heap.size w w1 ∧ DevIs w1 H s) := C0
  clear hw1 C0 HB cr
  go_wp2_with fail
  refine (cb _).mono ?_
  rintro e w2 ⟨rfl, b2⟩
  have HC2 : Hid (Box w2 w.heap.size 55 (sdK noSd 0) ∧ Below w.heap.size w w2 ∧ DevIs w2 H s) := ⟨HC.out.1.over b2, HC.out.2.1.trans (b2.mono HC.out.2.1.size), HC.out.2.2.below b2⟩
  clear b2 HC cb
  go_wp2_with fail
  refine (ct _).mono ?_
  rintro e w3 ⟨rfl, b3⟩
  have C0 := HC2.out.1.over b3
  have C1 := HC2.out.2.1.trans (b3.mono HC2.out.2.1.size)
  have C2 := HC2.out.2.2.below b3
  have b4 := below1 w3 (.cells (sdv d) 55)
  have N0 := box_new w3 (sdv d) 55
  have hlt := C0.lt
  have cg := HG.out _ (C2.below b4)
  have HN : Hid (Box _ w3.heap.size 55 (sdv d) ∧ Box _ w.heap.size 55 (sdK noSd 0) ∧ Below w.heap.size w _ ∧ w.heap.size < w3.heap.size) := ⟨N0, C0.over b4, C1.trans (b4.mono C1.size), hlt⟩
  clear N0 b4 C0 C1 C2 HC2 ct b3 hlt
  unfold sdv at cg
  go_wp2_with fail
  refine cg.mono ?_
  rintro e w5 ⟨rfl, b5⟩
  have C1 := HN.out.1.over b5
  have C0 := HN.out.2.1.over b5
  have C2 := HN.out.2.2.1.trans (b5.mono HN.out.2.2.1.size)
  have m0 := C1.cell 0 (.int .i64 d.turn.toInt) rfl
  have m1 := C1.cell 1 (.int .i64 d.f.toInt) rfl
  have m2 := C1.cell 2 (.int .i64 d.c.toInt) rfl
  have m3 := C1.cell 3 (.int .i64 d.n.toInt) rfl
  have m4 := C1.cell 4 (.int .i64 d.s.toInt) rfl
  have z0 := C0.cell 0 (.int .i64 0) rfl
  have z1 := C0.cell 1 (.int .i64 0) rfl
  have z2 := C0.cell 2 (.int .i64 0) rfl
  have z3 := C0.cell 3 (.int .i64 0) rfl
  have z4 := C0.cell 4 (.int .i64 0) rfl
  have y0 := C0.frozen 0
  have y1 := C0.frozen 1
  have y2 := C0.frozen 2
  have y3 := C0.frozen 3
  have y4 := C0.frozen 4
  have HF : Hid _ := (show Hid _ from box_five C0 (.int .i64 d.turn.toInt) (.int .i64 d.f.toInt) (.int .i64 d.c.toInt) (.int .i64 d.n.toInt) (.int .i64 d.s.toInt))
  have HL : Hid _ := (show Hid _ from below_five C2 (Nat.le_refl _) (.int .i64 d.turn.toInt) (.int .i64 d.f.toInt) (.int .i64 d.c.toInt) (.int .i64 d.n.toInt) (.int .i64 d.s.toInt))
  clear C0 C1 C2 cg b5 HN
  go_wp2_with fail
  exact bodyPost_ret (res_box_slot Tryd.results31 _ rfl HF.out Tryd.underlying55 rfl size_slot _ rfl) rfl ⟨rfl, HL.out⟩
theorem qslotIn_good {w : World} {H : Hnd} {s : St} (D : DevIs w H s) (hoff : s.off = false) (place : Nat) (o : Option Sd) (hS : (lay s.sure s.wait)[place]? = some (blkO o)) (hbel : BelO s.sure.length place o) :
    Calls Tryd.prog 31 #[.pointer (some ⟨H.p, 0, none⟩), .int .i64 place] w fun e w' => e = .returned (.tuple #[.agg (sdv (sdO o)), .int .i64 0]) ∧ Below w.heap.size w w' := by
  cases o with
  | none => exact qslotIn_none D hoff place hS
  | some d => exact qslotIn_some D hoff place d hS hbel
end Go.Proofs.YthcjjcfiademnaaDoor
/-
  The contract of package slots' last, of slots that belong there.
-/
namespace Go.Proofs.YthcjjcfiademnaaDoor
open Go.RowKit Leb

theorem other_five {w : World} {g z : Nat} {t : TypeId} {c : Array Value} (h : Box w g t c) (hn : g ≠ z) (x y u v r : Value) : Box (((((w.setCell ⟨z, 0, none⟩ x).setCell ⟨z, 1, none⟩ y).setCell ⟨z, 2, none⟩ u).setCell ⟨z, 3, none⟩ v).setCell ⟨z, 4, none⟩ r) g t c :=
  ((((h.other (a := ⟨z, 0, none⟩) hn x).other (a := ⟨z, 1, none⟩) hn y).other (a := ⟨z, 2, none⟩) hn u).other (a := ⟨z, 3, none⟩) hn v).other (a := ⟨z, 4, none⟩) hn r
theorem kept_five {a w : World} {F : Nat → Prop} {z : Nat} (h : Kept F a w) (hz : F z ∨ a.heap.size ≤ z) (x y u v r : Value) : Kept F a (((((w.setCell ⟨z, 0, none⟩ x).setCell ⟨z, 1, none⟩ y).setCell ⟨z, 2, none⟩ u).setCell ⟨z, 3, none⟩ v).setCell ⟨z, 4, none⟩ r) :=
  ((((h.setCell (p := ⟨z, 0, none⟩) hz x).setCell (p := ⟨z, 1, none⟩) hz y).setCell (p := ⟨z, 2, none⟩) hz u).setCell (p := ⟨z, 3, none⟩) hz v).setCell (p := ⟨z, 4, none⟩) hz r
def LastAns (o : Option Sd) (w : World) (e : Ending) (w' : World) : Prop :=
  ((o = none ∧ e = .returned (.tuple #[.agg (sdv noSd), .int .i64 3])) ∨ (∃ d, o = some d ∧ e = .returned (.tuple #[.agg (sdv d), .int .i64 0]))) ∧ Below w.heap.size w w'
/-- The slot with the greater turn so far. -/
def gr (o0 o1 : Option Sd) : Nat → Option Sd
  | 0 => none
  | 1 => o0
  | _ => best o0 o1
def oAt (o0 o1 : Option Sd) : Nat → Option Sd
  | 0 => o0
  | _ => o1
theorem gr_yes {o0 o1 : Option Sd} {k : Nat} (hk : k < 2) (h : (sdO (gr o0 o1 k)).turn.toInt < (sdO (oAt o0 o1 k)).turn.toInt) : gr o0 o1 (k + 1) = oAt o0 o1 k := by
  have : k = 0 ∨ k = 1 := by omega
  rcases this with rfl | rfl
  · rfl
  · exact if_pos h
theorem gr_no {n : Nat} {o0 o1 : Option Sd} (h0 : BelO n 0 o0) {k : Nat} (hk : k < 2) (h : ¬ (sdO (gr o0 o1 k)).turn.toInt < (sdO (oAt o0 o1 k)).turn.toInt) : gr o0 o1 (k + 1) = gr o0 o1 k := by
  have : k = 0 ∨ k = 1 := by omega
  rcases this with rfl | rfl
  · have h0' := sdO_turn h0
    have h : ¬ (0 : Int) < (sdO o0).turn.toInt := h
    show o0 = none
    exact h0'.2.1 (by omega)
  · exact if_neg h
theorem oAt_blk {S : List (List UInt8)} {o0 o1 : Option Sd} (h : Two S o0 o1) {k : Nat} (hk : k < 2) : S[k]? = some (blkO (oAt o0 o1 k)) ∧ BelO S.length k (oAt o0 o1 k) := by
  have : k = 0 ∨ k = 1 := by omega
  rcases this with rfl | rfl
  · exact ⟨h.s0, h.b0⟩
  · exact ⟨h.s1, h.b1⟩
theorem gr_bel {n : Nat} {o0 o1 : Option Sd} (h0 : BelO n 0 o0) (h1 : BelO n 1 o1) (k : Nat) : 0 ≤ (sdO (gr o0 o1 k)).turn.toInt ∧ ((sdO (gr o0 o1 k)).turn.toInt = 0 ↔ gr o0 o1 k = none) := by
  match k with
  | 0 => exact ⟨by show (0 : Int) ≤ (0#64).toInt; decide, by simp [gr, sdO, noSd]⟩
  | 1 => exact sdO_turn h0
  | k + 2 =>
    show 0 ≤ (sdO (best o0 o1)).turn.toInt ∧ ((sdO (best o0 o1)).turn.toInt = 0 ↔ best o0 o1 = none)
    unfold best
    split
    · exact sdO_turn h1
    · exact sdO_turn h0
set_option maxRecDepth 4000 in
set_option maxHeartbeats 2000000 in
theorem qlast_good {w : World} {H : Hnd} {s : St} (D : DevIs w H s) (hoff : s.off = false) (o0 o1 : Option Sd) (hT : Two (lay s.sure s.wait) o0 o1) :
    Calls Tryd.prog 21 #[.pointer (some ⟨H.p, 0, none⟩)] w (LastAns (best o0 o1) w) := by
  have hlen : (lay s.sure s.wait).length = s.sure.length := lay_len _ _
  have h2 := hT.n2
  rw [hlen] at h2
  have HT : Hid (Two (lay s.sure s.wait) o0 o1 ∧ BelO s.sure.length 0 o0 ∧ BelO s.sure.length 1 o1) := ⟨hT, by rw [← hlen]; exact hT.b0, by rw [← hlen]; exact hT.b1⟩
  have HI : Hid (∀ w' k, k < 2 → DevIs w' H s → Calls Tryd.prog 31 #[.pointer (some ⟨H.p, 0, none⟩), .int .i64 (k : Nat)] w' fun e w'' => e = .returned (.tuple #[.agg (sdv (sdO (oAt o0 o1 k))), .int .i64 0]) ∧ Below w'.heap.size w' w'') := fun w' k hk D' => qslotIn_good D' hoff k _ (oAt_blk hT hk).1 (by rw [← hlen]; exact (oAt_blk hT hk).2)
  have b1 := below1 w (.cells (sdK noSd 0) 55)
  have B1 := box_new w (sdK noSd 0) 55
  have cs := size_some H.p _ _ _ _ (D.below b1).c0
  have B2 := box_new (w.alloc (.cells (sdK noSd 0) 55)) (sdK noSd 0) 55
  rw [World.size_alloc] at B2
  have b2 := below2 w (.cells (sdK noSd 0) 55) (.cells (sdK noSd 0) 55)
  have HB : Hid (Unit → Box _ w.heap.size 55 (sdK noSd 0) ∧ Box _ (w.heap.size + 1) 55 (sdK noSd 0) ∧ Below w.heap.size w _ ∧ DevIs _ H s) := fun _ => ⟨box_old w (sdK noSd 0) 55 (.cells (sdK noSd 0) 55), B2, b2, D.below b2⟩
  obtain ⟨p, hp⟩ : ∃ p, p = H.p := ⟨_, rfl⟩
  rw [← hp] at cs HI ⊢
  obtain ⟨n, hn⟩ : ∃ n, n = s.sure.length := ⟨_, rfl⟩
  rw [← hn] at h2 cs
  have hnI : ¬ (n : Int) < 2 := by omega
  unfold sdK at cs
  have HFar : Hid (∀ k, H.foot k → k < w.heap.size) := fun k hk => D.lt hk
  clear D hoff hT hlen b1 B1 B2 b2 hp hn h2
  go_enter Tryd.func21, Tryd.ntmps21
  go_wp2_with fail
  refine cs.mono ?_
  rintro e w1 ⟨rfl, hw1⟩
  replace hw1 := hw1.symm
  subst hw1
  go_wp2_with fail
  go_loopg [12] 2 (fun g s12 wx => ∃ k : Nat, k + g = 2 ∧ s12 = .int .i64 k ∧ Box wx w.heap.size 55 (sdK noSd 0) ∧ Box wx (w.heap.size + 1) 55 (sdv (sdO (gr o0 o1 k))) ∧ Below w.heap.size w wx ∧ DevIs wx H s)
  case atStart => exact ⟨0, rfl, rfl, HB.out ()⟩
  case round =>
    obtain ⟨k, hkg, rfl, hB0, hB1, hb, hD⟩ := hrel
    by_cases hk : k < 2
    · have hkI : (k : Int) < 2 := by omega
      have ci := HI.out wr k hk hD
      have HK : Hid (Box wr w.heap.size 55 (sdK noSd 0) ∧ Box wr (w.heap.size + 1) 55 (sdv (sdO (gr o0 o1 k))) ∧ Below w.heap.size w wr ∧ DevIs wr H s) := ⟨hB0, hB1, hb, hD⟩
      obtain ⟨a, ha⟩ : ∃ a, a = sdO (oAt o0 o1 k) := ⟨_, rfl⟩
      obtain ⟨q, hq⟩ : ∃ q, q = sdO (gr o0 o1 k) := ⟨_, rfl⟩
      rw [← ha] at ci
      rw [← hq] at HK
      have HA : Hid (a = sdO (oAt o0 o1 k) ∧ q = sdO (gr o0 o1 k)) := ⟨ha, hq⟩
      have HV : Hid (∃ a0 a1 a2 a3 a4 q0 q1 q2 q3 q4, sdv a = #[.int .i64 a0, .int .i64 a1, .int .i64 a2, .int .i64 a3, .int .i64 a4] ∧ sdv q = #[.int .i64 q0, .int .i64 q1, .int .i64 q2, .int .i64 q3, .int .i64 q4] ∧ a0 = a.turn.toInt ∧ q0 = q.turn.toInt) := ⟨_, _, _, _, _, _, _, _, _, _, rfl, rfl, rfl, rfl⟩
      obtain ⟨a0, a1, a2, a3, a4, q0, q1, q2, q3, q4, hav, hqv, ha0, hq0⟩ := HV.out
      rw [hav] at ci
      have HV2 : Hid (sdv a = #[.int .i64 a0, .int .i64 a1, .int .i64 a2, .int .i64 a3, .int .i64 a4] ∧ a0 = a.turn.toInt ∧ q0 = q.turn.toInt) := ⟨hav, ha0, hq0⟩
      have HQV : Hid (sdv q = #[.int .i64 q0, .int .i64 q1, .int .i64 q2, .int .i64 q3, .int .i64 q4]) := hqv
      clear hB0 hB1 hb hD ha hq hav hqv ha0 hq0 HV
      go_wp2_with fail
      refine ci.mono ?_
      rintro e w2 ⟨rfl, b2⟩
      have b3 := below1 w2 (.cells #[.int .i64 a0, .int .i64 a1, .int .i64 a2, .int .i64 a3, .int .i64 a4] 55)
      have N0 := box_new w2 #[.int .i64 a0, .int .i64 a1, .int .i64 a2, .int .i64 a3, .int .i64 a4] 55
      have b23 := b2.trans (b3.mono b2.size)
      have C0 := HK.out.1.over b23
      have C1 := HK.out.2.1.over b23
      rw [HQV.out] at C1
      have C2 := HK.out.2.2.1.trans (b23.mono HK.out.2.2.1.size)
      have D2 := HK.out.2.2.2.below b23
      have hlt1 : w.heap.size + 1 < w2.heap.size := Nat.lt_of_lt_of_le HK.out.2.1.lt b2.size
      have E1 := HK.out.2.1.over b2
      rw [HQV.out] at E1
      have u0 := E1.cell 0 (.int .i64 q0) rfl
      have u1 := E1.cell 1 (.int .i64 q1) rfl
      have u2 := E1.cell 2 (.int .i64 q2) rfl
      have u3 := E1.cell 3 (.int .i64 q3) rfl
      have u4 := E1.cell 4 (.int .i64 q4) rfl
      have v0 := E1.frozen 0
      have v1 := E1.frozen 1
      have v2 := E1.frozen 2
      have v3 := E1.frozen 3
      have v4 := E1.frozen 4
      have E0 := HK.out.1.over b2
      have E2 := HK.out.2.2.1.trans (b2.mono HK.out.2.2.1.size)
      have E3 := HK.out.2.2.2.below b2
      have HS : Hid (Unit → Box _ w.heap.size 55 (sdK noSd 0) ∧ Box _ (w.heap.size + 1) 55 #[.int .i64 a0, .int .i64 a1, .int .i64 a2, .int .i64 a3, .int .i64 a4] ∧ Below w.heap.size w _ ∧ DevIs _ H s) := fun _ =>
        ⟨(other_five E0 (z := w.heap.size + 1) (by omega) (.int .i64 a0) (.int .i64 a1) (.int .i64 a2) (.int .i64 a3) (.int .i64 a4)).alloc (.cells #[.int .i64 a0, .int .i64 a1, .int .i64 a2, .int .i64 a3, .int .i64 a4] 55), (box_five E1 (.int .i64 a0) (.int .i64 a1) (.int .i64 a2) (.int .i64 a3) (.int .i64 a4)).alloc (.cells #[.int .i64 a0, .int .i64 a1, .int .i64 a2, .int .i64 a3, .int .i64 a4] 55), (below_five E2 (p := w.heap.size + 1) (by omega) (.int .i64 a0) (.int .i64 a1) (.int .i64 a2) (.int .i64 a3) (.int .i64 a4)).alloc (Nat.le_trans E2.size (by simp)) (.cells #[.int .i64 a0, .int .i64 a1, .int .i64 a2, .int .i64 a3, .int .i64 a4] 55),
        (E3.kept (kept_five (Kept.refl (fun k => k = w.heap.size + 1) w2) (.inl rfl) (.int .i64 a0) (.int .i64 a1) (.int .i64 a2) (.int .i64 a3) (.int .i64 a4)) (fun x hx e => by have := HFar.out x hx; omega)).below (below1 _ (.cells #[.int .i64 a0, .int .i64 a1, .int .i64 a2, .int .i64 a3, .int .i64 a4] 55))⟩
      have HM : Hid (Unit → Box _ w.heap.size 55 (sdK noSd 0) ∧ Box _ (w.heap.size + 1) 55 #[.int .i64 q0, .int .i64 q1, .int .i64 q2, .int .i64 q3, .int .i64 q4] ∧ Below w.heap.size w _ ∧ DevIs _ H s) := fun _ => ⟨C0, C1, C2, D2⟩
      clear N0 b2 b3 b23 C0 C1 C2 D2 ci HK E0 E1 E2 E3
      by_cases hc : q0 < a0
      · go_wp2_with fail
        go_roundg (2 - (k + 1))
        case measure => omega
        case rel =>
          have hg := gr_yes hk (by rw [← HA.out.1, ← HA.out.2, ← HV2.out.2.1, ← HV2.out.2.2]; omega)
          have hs := HS.out ()
          refine ⟨k + 1, by omega, by go_num, hs.1, ?_, hs.2.2⟩
          rw [hg, ← HA.out.1, HV2.out.1]
          exact hs.2.1
      · go_wp2_with fail
        go_roundg (2 - (k + 1))
        case measure => omega
        case rel =>
          have hg := gr_no HT.out.2.1 hk (by rw [← HA.out.1, ← HA.out.2, ← HV2.out.2.1, ← HV2.out.2.2]; omega)
          have hm := HM.out ()
          refine ⟨k + 1, by omega, by go_num, hm.1, ?_, hm.2.2⟩
          rw [hg, ← HA.out.2, HQV.out]
          exact hm.2.1
    · have hkI : ¬ (k : Int) < 2 := by omega
      have hk5 : k = 2 := by omega
      subst hk5
      have hgb := gr_bel HT.out.2.1 HT.out.2.2 2
      rw [show gr o0 o1 2 = best o0 o1 from rfl] at hB1 hgb
      have hbo : ∀ d, best o0 o1 = some d → sdO (best o0 o1) = d := fun d h => by rw [h]; rfl
      obtain ⟨q, hq⟩ : ∃ q, q = sdO (best o0 o1) := ⟨_, rfl⟩
      rw [← hq] at hB1 hgb hbo
      have HV : Hid (∃ q0 q1 q2 q3 q4, sdv q = #[.int .i64 q0, .int .i64 q1, .int .i64 q2, .int .i64 q3, .int .i64 q4] ∧ q0 = q.turn.toInt) := ⟨_, _, _, _, _, rfl, rfl⟩
      obtain ⟨q0, q1, q2, q3, q4, hqv, hq0⟩ := HV.out
      have HQV : Hid (sdv q = #[.int .i64 q0, .int .i64 q1, .int .i64 q2, .int .i64 q3, .int .i64 q4]) := hqv
      rw [hqv] at hB1
      rw [← hq0] at hgb
      have HG : Hid ((q0 = 0 ↔ best o0 o1 = none) ∧ ∀ d, best o0 o1 = some d → q = d) := ⟨hgb.2, hbo⟩
      have l0 := hB1.cell 0 (.int .i64 q0) rfl
      have l1 := hB1.cell 1 (.int .i64 q1) rfl
      have l2 := hB1.cell 2 (.int .i64 q2) rfl
      have l3 := hB1.cell 3 (.int .i64 q3) rfl
      have l4 := hB1.cell 4 (.int .i64 q4) rfl
      have z0 := hB0.cell 0 (.int .i64 0) rfl
      have z1 := hB0.cell 1 (.int .i64 0) rfl
      have z2 := hB0.cell 2 (.int .i64 0) rfl
      have z3 := hB0.cell 3 (.int .i64 0) rfl
      have z4 := hB0.cell 4 (.int .i64 0) rfl
      have y0 := hB0.frozen 0
      have y1 := hB0.frozen 1
      have y2 := hB0.frozen 2
      have y3 := hB0.frozen 3
      have y4 := hB0.frozen 4
      by_cases hc : q0 = 0
      · have HNN : Hid (best o0 o1 = none) := HG.out.1.1 hc
        subst hc
        have HF : Hid (Unit → _) := (fun _ => box_five hB0 (.int .i64 0) (.int .i64 0) (.int .i64 0) (.int .i64 0) (.int .i64 0))
        have HL : Hid (Unit → _) := (fun _ => below_five hb (p := w.heap.size) (Nat.le_refl _) (.int .i64 0) (.int .i64 0) (.int .i64 0) (.int .i64 0) (.int .i64 0))
        clear hB0 hB1 hb hD hqv hq0 HV hq hgb hbo
        go_wp2_with fail
        exact bodyPost_ret (res_box_slot Tryd.results21 _ rfl (HF.out ()) Tryd.underlying55 rfl size_slot _ rfl) rfl ⟨.inl ⟨HNN.out, rfl⟩, HL.out ()⟩
      · have hcb : (q0 == 0) = false := by simpa using hc
        have HF : Hid (Unit → _) := (fun _ => box_five hB0 (.int .i64 q0) (.int .i64 q1) (.int .i64 q2) (.int .i64 q3) (.int .i64 q4))
        have HL : Hid (Unit → _) := (fun _ => below_five hb (p := w.heap.size) (Nat.le_refl _) (.int .i64 q0) (.int .i64 q1) (.int .i64 q2) (.int .i64 q3) (.int .i64 q4))
        have HNE : Hid (¬ q0 = 0) := hc
        clear hB0 hB1 hb hD hqv hq0 HV hq hgb hbo hc
        go_wp2_with fail
        refine bodyPost_ret (res_box_slot Tryd.results21 _ rfl (HF.out ()) Tryd.underlying55 rfl size_slot _ rfl) rfl ⟨.inr ?_, HL.out ()⟩
        cases h : best o0 o1 with
        | none => exact absurd (HG.out.1.2 h) HNE.out
        | some d => exact ⟨d, rfl, by rw [← HG.out.2 d h, HQV.out]; rfl⟩
end Go.Proofs.YthcjjcfiademnaaDoor
