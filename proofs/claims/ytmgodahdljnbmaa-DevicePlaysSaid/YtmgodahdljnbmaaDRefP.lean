/-
  The contract of peristyleref04's Spoil.
-/
import Derived.Test.YtmgodahdljnbmaaDRefC
namespace Go.Proofs.Ytmgodahdljnbmaa
open Go.RowKit

set_option maxHeartbeats 1000000 in
theorem rspoil_bad (sa : Option Addr) (n sc : Nat) (wa : Option Addr) (m wc : Nat) (f : Int) (o : Bool) (at_ : Int) (str : ByteArray) (w : World) (h : ¬ ((0 ≤ at_ ∧ at_ < n) ∧ str.size = 128)) :
    Calls Try.prog 26 #[.agg #[.slice sa n sc, .slice wa m wc, .int .i64 f, .bool o], .int .i64 at_, .string str] w fun e w' => e = .returned (.tuple #[.agg #[.slice sa n sc, .slice wa m wc, .int .i64 f, .bool o], .int .i64 1]) ∧ Below w.heap.size w w' := by
  have ci := fun W => in_any sa n sc wa m wc f o at_ W
  have hone := rd_one sa n sc wa m wc f o
  by_cases h1 : 0 ≤ at_ ∧ at_ < n
  case' pos =>
    have hd : decide (0 ≤ at_ ∧ at_ < (n : Int)) = true := by simp [h1]
    have h8 : ((str.size : Int) == 128) = false := by
      have : ¬ str.size = 128 := fun e => h ⟨h1, e⟩
      simp; omega
  case' neg =>
    have hd : decide (0 ≤ at_ ∧ at_ < (n : Int)) = false := by simpa using h1
  all_goals
    rw [hd] at ci
    clear h h1 hd
    go_enter Try.func26, Try.ntmps26
    go_wp2_with fail
    refine (ci _).mono ?_
    rintro e w1 ⟨rfl, hb⟩
    obtain ⟨B0, B1, hB⟩ := two_box hb
    have F1 := B1.setRow (rd sa n sc wa m wc f o)
    clear ci hb
    go_wp2_with (first
      | (refine wpList_load_row rfl 30 _ rfl w.heap.size rfl 30 (rd sa n sc wa m wc f o) (0, 0) _ B0 Try.underlying30 rfl size_rd ?_)
      | (refine wpList_store_row rfl 30 _ _ rfl (w.heap.size + 1) (rd sa n sc wa m wc f o) rfl rfl 30 _ B1 size_rd rfl hone ?_))
    exact bodyPost_ret (res_box_slot Try.results26 _ rfl F1 Try.underlying30 rfl size_rd _ rfl) rfl ⟨rfl, below_setRow hB (by omega) _⟩
theorem filter_take (wt : List (Nat × List UInt8)) (k i : Nat) (x : Nat × List UInt8) (hx : wt[i]? = some x) : (wt.take (i + 1)).filter (fun y => y.1 != k) = (wt.take i).filter (fun y => y.1 != k) ++ if x.1 != k then [x] else [] := by
  rw [List.take_add_one, hx, List.filter_append]
  congr 1
  simp only [Option.toList, List.filter_cons, List.filter_nil]

set_option maxRecDepth 4000 in
set_option maxHeartbeats 4000000 in
theorem rspoil_on {w : World} {G : Nat → Prop} {R : RH} {su : List (List UInt8)} {wt : List (Nat × List UInt8)} (r : RefIs w G R su wt) (hG : ∀ k, G k → k < w.heap.size) (f : Int) (o : Bool) (k : Nat) (hk : k < su.length) (b : List UInt8) (h8 : b.length = 128)
    (hl : su.length ≤ 4096) (hlw : wt.length ≤ 1000000) :
    Calls Try.prog 26 #[.agg #[.slice R.sa su.length R.sc, .slice R.wa wt.length R.wc, .int .i64 f, .bool o], .int .i64 k, .string (strB b)] w fun e w' => (∃ R', e = .returned (.tuple #[.agg #[.slice R'.sa su.length R'.sc, .slice R'.wa (wt.filter fun y => y.1 != k).length R'.wc, .int .i64 f, .bool o], .int .i64 0]) ∧ RefIs w' G R' (su.set k b) (wt.filter fun y => y.1 != k)) ∧ Below w.heap.size w w' := by
  obtain ⟨n, hn⟩ : ∃ n, n = su.length := ⟨_, rfl⟩
  obtain ⟨m, hm⟩ : ∃ m, m = wt.length := ⟨_, rfl⟩
  obtain ⟨sa, sc, wa, wc⟩ := R
  simp only at r ⊢
  have r1 := r.sure
  have r2 := r.wait
  have r3 := r.g1
  have r4 := r.g2
  simp only at r1 r2 r3 r4
  rw [← hn] at r1 r3 hl hk
  rw [← hm] at r2 r4 hlw
  rw [← hn, ← hm]
  have ci := fun W => in_any sa n sc wa m wc f o k W
  have hd : decide (0 ≤ (k : Int) ∧ (k : Int) < (n : Int)) = true := by simp; omega
  have h8' : (((strB b).size : Int) != 128) = false := by rw [strB_size, h8]; rfl
  rw [hd] at ci
  obtain ⟨str, hstr⟩ : ∃ str, str = strB b := ⟨_, rfl⟩
  rw [← hstr] at h8' ⊢
  have HN : Hid (n = su.length ∧ m = wt.length ∧ str = strB b) := ⟨hn, hm, hstr⟩
  obtain ⟨i0, hi0, hz0, hz1', hz2'⟩ := info_parts info_rw
  have HI : Hid (Try.prog.info? 67 = some i0 ∧ i0.zero = some (.agg #[.int .i64 0, .string { data := #[] }]) ∧ i0.size = 2 ∧ i0.bytes = 24) := ⟨hi0, hz0, hz1', hz2'⟩
  clear hn hm hstr r hd h8 hi0 hz0 hz1' hz2'
  go_enter Try.func26, Try.ntmps26
  go_wp2_with fail
  refine (ci _).mono ?_
  rintro e W ⟨rfl, hb⟩
  obtain ⟨B0, B1, hB⟩ := two_box hb
  have hlt := B1.lt
  have M0 : Mid w W G w.heap.size (w.heap.size + 1) sa n sc wa m wc f o su wt :=
    { box := B0
      zero := B1
      sure := r1.over hB
      wait := r2.over hB
      own := fun x hx => by have := r1.lt hx; exact ⟨r3 x hx, by omega, by omega⟩
      ownw := fun x hx => by have := r2.lt hx; exact ⟨r4 x hx, by omega, by omega⟩
      bel := hB
      abv := ⟨by omega, by omega⟩
      ne := by omega
      len := HN.out.1.symm
      lenw := HN.out.2.1.symm }
  have HG : Hid (∀ k, G k → k < w.heap.size) := hG
  have HM0 : Hid (Mid w W G w.heap.size (w.heap.size + 1) sa n sc wa m wc f o su wt) := M0
  clear M0 B0 B1 hB hb ci r1 r2 r3 r4 hG
  go_wp2_with fail
  obtain ⟨bx, hbb⟩ : ∃ b, b = w.heap.size := ⟨_, rfl⟩
  obtain ⟨z, hzz⟩ : ∃ z, z = w.heap.size + 1 := ⟨_, rfl⟩
  rw [← hzz, ← hbb] at HM0
  rw [← hzz, ← hbb]
  have HLT : Hid (bx < W.heap.size ∧ z < W.heap.size) := ⟨by omega, by omega⟩
  clear hbb hzz hlt
  go_loopg [8, 9] m (fun g s8 s9 wx => ∃ (i : Nat) (va : Option Addr) (vc : Nat), i + g = m ∧ s9 = .int .i64 i ∧ s8 = .slice va ((wt.take i).filter fun y => y.1 != k).length vc ∧ SRows wx (.slice va ((wt.take i).filter fun y => y.1 != k).length vc) 67 2 (((wt.take i).filter fun y => y.1 != k).map w2) ∧ (∀ x, (Value.slice va ((wt.take i).filter fun y => y.1 != k).length vc).ownBlock = some x → W.heap.size ≤ x) ∧ Below W.heap.size W wx)
  case atStart => exact ⟨0, none, 0, by omega, rfl, rfl, srows_nil _ _ _, noOwn _, Below.refl _ _⟩
  case round =>
    obtain ⟨i, va, vc, hig, rfl, rfl, hsr, hown, hbel⟩ := hrel
    have M := HM0.out.over hbel
    have p1 := M.box.cell 1 _ rfl
    obtain ⟨q, hq⟩ : ∃ q, q = ((wt.take i).filter fun y => y.1 != k).length := ⟨_, rfl⟩
    rw [← hq] at hsr hown ⊢
    have hqi : q ≤ i := by
      rw [hq]
      refine Nat.le_trans (List.length_filter_le _ _) ?_
      rw [List.length_take]; omega
    by_cases hi : i < m
    · have hiI : (i : Int) < (m : Int) := by omega
      obtain ⟨x, hx⟩ : ∃ x, wt[i]? = some x := ⟨_, List.getElem?_eq_getElem (by have := HN.out.2.1; omega)⟩
      have hwt := M.wait
      rw [HN.out.2.1] at hwt
      obtain ⟨g, rfl, e0, e1, hgl⟩ := w2_at hwt hx
      have hst := filter_take wt k i x hx
      have hr2 : IntKind.i64.wrap ((i : Int) + 1) = (i : Int) + 1 := by rw [IntKind.wrap_i64]; omega
      have HS : Hid (SRows wr (.slice va q vc) 67 2 (((wt.take i).filter fun y => y.1 != k).map w2) ∧ (∀ x, (Value.slice va q vc).ownBlock = some x → W.heap.size ≤ x) ∧ Below W.heap.size W wr ∧ q = ((wt.take i).filter fun y => y.1 != k).length) := ⟨hsr, hown, hbel, hq⟩
      have HST : Hid ((wt.take (i + 1)).filter (fun y => y.1 != k) = (wt.take i).filter (fun y => y.1 != k) ++ if x.1 != k then [x] else []) := hst
      have hq6 : q + 1 ≤ 1000000 := by clear hr2; omega
      have hWs : W.heap.size ≤ wr.heap.size := hbel.size
      by_cases hxk : x.1 = k
      · have hb1 : ((x.1 : Int) != (k : Int)) = false := by simp [hxk]
        have HF : Hid ((wt.take (i + 1)).filter (fun y => y.1 != k) = (wt.take i).filter (fun y => y.1 != k)) := by show _ = _; rw [hst, hxk]; simp
        obtain ⟨x1, hx1⟩ : ∃ x1, x1 = x.1 := ⟨_, rfl⟩
        rw [← hx1] at e0 hb1
        clear hx hst hwt hsr hown hbel hq M hx1 hxk
        go_wp2_with fail
        go_roundg (m - (i + 1))
        case measure => clear hr2; omega
        case rel => exact ⟨i + 1, va, vc, by clear hr2; omega, by go_num, by rw [HF.out, ← HS.out.2.2.2], by rw [HF.out, ← HS.out.2.2.2]; exact HS.out.1, by rw [HF.out, ← HS.out.2.2.2]; exact HS.out.2.1, HS.out.2.2.1⟩
      · have hb1 : ((x.1 : Int) != (k : Int)) = true := by simp; omega
        have HF : Hid ((wt.take (i + 1)).filter (fun y => y.1 != k) = (wt.take i).filter (fun y => y.1 != k) ++ [x]) := by show _ = _; rw [hst]; simp [hxk]
        obtain ⟨x1, hx1⟩ : ∃ x1, x1 = x.1 := ⟨_, rfl⟩
        obtain ⟨st, hst1⟩ : ∃ st, st = strB x.2 := ⟨_, rfl⟩
        rw [← hx1] at e0 hb1
        rw [← hst1] at e1
        have HX : Hid (x1 = x.1 ∧ st = strB x.2) := ⟨hx1, hst1⟩
        clear hx hst hwt hsr hown hbel hq M hx1 hst1 hxk
        go_wp2_with (at_builtin; refine append_rows rfl (.tmp 35) (.tmp 41) 28 67 i0 _ 2 24 rfl Try.underlying28 HI.out.1 HI.out.2.1 HI.out.2.2.1 HI.out.2.2.2 rfl (by decide) (by decide) rfl rfl (HS.out.1.of_block (fun k hk => heap_alloc_old _ _ (HS.out.1.lt hk))) (srows_new wr [.int .i64 x1, .string st] 67 (sz := 2) rfl) HS.out.2.1 ?hB ?h1 (q + 1) ?hm ((((wt.take (i + 1)).filter fun y => y.1 != k)).map w2) ?hR hq6 ?_; (case hB => simp; omega); (case h1 => intro r hr c hc; simp at hr; subst hr; simp at hc; rcases hc with rfl | rfl <;> rfl); (case hm => rw [HS.out.2.2.2]; simp); (case hR => rw [HF.out, HX.out.1, HX.out.2]; simp [w2]); intro va4 vc4 w4 h1 h2 h4; have HY : Hid (SRows w4 (.slice va4 (q + 1) vc4) 67 2 (((wt.take (i + 1)).filter fun y => y.1 != k).map w2) ∧ (∀ k, (Value.slice va4 (q + 1) vc4).ownBlock = some k → W.heap.size ≤ k) ∧ Below W.heap.size (wr.alloc (.cells #[.int .i64 x1, .string st] 67)) w4) := ⟨h1, h2, h4⟩; clear h1 h2 h4)
        have hq1 : q + 1 = ((wt.take (i + 1)).filter fun y => y.1 != k).length := by rw [HF.out, List.length_append, ← HS.out.2.2.2]; rfl
        go_roundg (m - (i + 1))
        case measure => clear hr2; omega
        case rel => exact ⟨i + 1, va4, vc4, by clear hr2; omega, by go_num, by rw [← hq1], by rw [← hq1]; exact HY.out.1, by rw [← hq1]; exact HY.out.2.1, (HS.out.2.2.1.alloc hWs _).trans HY.out.2.2⟩
    · have hiI : ¬ (i : Int) < (m : Int) := by omega
      have ht : wt.take i = wt := List.take_of_length_le (by have := HN.out.2.1; omega)
      rw [ht] at hsr hq
      have f1 := M.box.frozen 1
      -- the field Wait
      have M1 : Mid w (wr.setCell ⟨bx, 1, none⟩ (.slice va q vc)) G bx z sa n sc va q vc f o su (wt.filter fun y => y.1 != k) :=
        { M with
          box := M.box.set 1 _
          zero := M.zero.other (fun e => M.ne e.symm) _
          sure := M.sure.setOther _ fun x hx => (M.own x hx).2.1
          wait := hsr.setOther _ fun x hx => by have := hown x hx; have := HLT.out.1; simp; omega
          ownw := fun x hx => by
            have h1 := hown x hx
            have h2 := HLT.out
            refine ⟨fun hg => ?_, by omega, by omega⟩
            have h3 := HG.out x hg
            have h4 := HM0.out.bel.size
            omega
          bel := M.bel.setCell M.abv.1 _
          lenw := hq.symm }
      have p0 := M1.box.cell 0 _ rfl
      have f0 := M1.box.frozen 0
      have hkI : (k : Int) < (n : Int) := by omega
      have cw := with_n (w := wr.setCell ⟨bx, 1, none⟩ (.slice va q vc)) M1.len M1.sure k hk hl b
      rw [← HN.out.2.2] at cw
      have HM1 : Hid (Mid w (wr.setCell ⟨bx, 1, none⟩ (.slice va q vc)) G bx z sa n sc va q vc f o su (wt.filter fun y => y.1 != k)) := M1
      have hbl := M1.box.lt
      clear M M1 hsr hown hbel hq ht HM0
      go_wp2_with fail
      refine cw.mono ?_
      rintro e w2' ⟨⟨va5, vc5, rfl, hr5, hf5⟩, hb5⟩
      have M5 := HM1.out.put hb5 HG.out hr5 (by rw [List.length_set]; exact HM1.out.len) hf5
      have p02 := (hb5.cell (p := ⟨bx, 0, none⟩) hbl).trans p0
      have f02 := (hb5.frozen (p := ⟨bx, 0, none⟩) hbl).trans f0
      have B5 := M5.box
      have Z5 := M5.zero
      have F1 := Z5.setRow (rd va5 n vc5 va q vc f o)
      have hone := rd_one va5 n vc5 va q vc f o
      have HM5 : Hid (Mid w (w2'.setCell ⟨bx, 0, none⟩ (.slice va5 n vc5)) G bx z va5 n vc5 va q vc f o (su.set k b) (wt.filter fun y => y.1 != k)) := M5
      clear cw M5 hr5 hf5 hb5 HM1 p0 f0
      go_wp2_with (first
        | (refine wpList_load_row rfl 30 _ rfl bx rfl 30 (rd va5 n vc5 va q vc f o) (0, 0) _ B5 Try.underlying30 rfl size_rd ?_)
        | (refine wpList_store_row rfl 30 _ _ rfl z (rd va5 n vc5 va q vc f o) rfl rfl 30 _ Z5 size_rd rfl hone ?_))
      have M := HM5.out
      have hqq := M.lenw
      refine bodyPost_ret (res_box_slot Try.results26 _ rfl F1 Try.underlying30 rfl size_rd _ rfl) rfl ⟨⟨⟨va5, vc5, va, vc⟩, by rw [hqq]; rfl, ⟨?_, ?_, ?_, ?_⟩⟩, below_setRow M.bel M.abv.2 _⟩
      · have := M.sure.rowOther (p := z) (rd va5 n vc5 va q vc f o) fun k hk => (M.own k hk).2.2
        simp only [M.len]
        exact this
      · have := M.wait.rowOther (p := z) (rd va5 n vc5 va q vc f o) fun k hk => (M.ownw k hk).2.2
        simp only [hqq]
        exact this
      · simp only [M.len]
        exact fun k hk => (M.own k hk).1
      · simp only [hqq]
        exact fun k hk => (M.ownw k hk).1
end Go.Proofs.Ytmgodahdljnbmaa
