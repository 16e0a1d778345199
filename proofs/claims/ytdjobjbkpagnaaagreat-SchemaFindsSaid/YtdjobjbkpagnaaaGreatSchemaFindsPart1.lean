/-
  5 texts, one behind the other: XRefMay3, XRefMay4, XLight, XOpen, WSchemaFinds.
-/
import Derived.Test.YtdjobjbkpagnaaaGreatJoin7
import Derived.Test.YtdjobjbkpagnaaaGreatJoin9
import Derived.Lib.SmallJoins
import Derived.Deep.Slices
import Derived.ChangeArms
import Derived.WideShapes
import Derived.Test.YtdjobjbkpagnaaaGreatJoin10
/-
  The contracts of the document's table and May.
-/
namespace Go.Proofs.YtdjobjbkpagnaaaGreat
open Go.RowKit Go.Shelf

/-- What is asked of a table ahead of its projections. -/
def tbHead (t : Tb) : Bool := nameB t.name && colsB t.cols && decide (t.projs.length ≤ 6)
theorem tb_head (t : Tb) : tbB t = (tbHead t && t.projs.all (pjB t.cols.length) && readB t.cols.length t.projs && !tw sameP t.projs) := rfl
theorem tb_bad0 {t : Tb} (h : tbHead t = false) : tbB t = false := by rw [tb_head, h]; rfl
theorem tb_bad1 {t : Tb} {i : Nat} {x : Pj} (hx : t.projs[i]? = some x) (h : pjB t.cols.length x = false) : tbB t = false := by
  rw [tb_head, all_false_of hx h, Bool.and_false, Bool.false_and, Bool.false_and]
theorem tb_bad2 {t : Tb} {i j : Nat} {x y : Pj} (hij : i < j) (hx : t.projs[i]? = some x) (hy : t.projs[j]? = some y) (h : sameP x y = true) : tbB t = false := by
  rw [tb_head, tw_true_of hij hx hy h, Bool.not_true, Bool.and_false]
theorem tb_end {t : Tb} (h0 : tbHead t = true) (h1 : t.projs.all (pjB t.cols.length) = true) (h2 : tw sameP t.projs = false) : tbB t = readB t.cols.length t.projs := by
  rw [tb_head, h0, h1, h2, Bool.true_and, Bool.not_false, Bool.and_true, Bool.true_and]
theorem read_take {n : Nat} {l : List Pj} {i : Nat} {x : Pj} (hx : l[i]? = some x) : readB n (l.take (i + 1)) = (readB n (l.take i) || superB n x.cols) := any_take_succ hx
set_option maxRecDepth 4000 in
set_option maxHeartbeats 4000000 in
theorem refTable_any {w : World} {t : Tb} {c0 c1 c2 : Value} (ht : TbE w t [c0, c1, c2]) (hl : litT t) :
    Calls Tryz.prog 38 #[.agg #[c0, c1, c2]] w fun e w' => e = .returned (.bool (tbB t)) ∧ Below w.heap.size w w' := by
  obtain ⟨rfl, aC, nC, capC, aP, nP, capP, rfl, rfl, hnC, hnP, hC, hP⟩ := tb_cells ht
  have b1 := below1 w (.cells #[.string t.name, .slice aC nC capC, .slice aP nP capP] 41)
  have B1 := box_new w #[.string t.name, .slice aC nC capC, .slice aP nP capP] 41
  have hnm := fun W => refName_any t.name (by have := hl.1; unfold maxLen; omega) W
  have HC : Hid (∀ W, Below w.heap.size w W → Calls Tryz.prog 67 #[.slice aC nC capC] W fun e w' => e = .returned (.bool (colsB t.cols)) ∧ Below W.heap.size W w') := fun W hW => refCols_any (hC.over stays_col hW) (Nat.le_trans hl.2.1 (by decide)) hl.2.2.2.1
  have HT : Hid (TbE w t [.string t.name, .slice aC nC capC, .slice aP nP capP] ∧ PjsIs w (.slice aP nP capP) t.projs ∧ t.projs.length = nP ∧ t.cols.length = nC ∧ litT t) := ⟨ht, hP, hnP, hnC, hl⟩
  have HE : Hid (tbHead t = (nameB t.name && colsB t.cols && decide (nP ≤ 6))) := by unfold Hid tbHead; rw [hnP]
  have hPI : (nP : Int) ≤ 1000000 := by have := hl.2.2.1; omega
  obtain ⟨tn, htn⟩ : ∃ x, x = t.name := ⟨_, rfl⟩
  rw [← htn] at b1 B1 HE HT hnm
  rw [← htn]
  have HB0 : Hid (Below w.heap.size w _ ∧ Box _ w.heap.size 41 #[.string tn, .slice aC nC capC, .slice aP nP capP]) := ⟨b1, B1⟩
  obtain ⟨q1, hq1⟩ : ∃ q, q = nameB tn := ⟨_, rfl⟩
  obtain ⟨q2, hq2⟩ : ∃ q, q = colsB t.cols := ⟨_, rfl⟩
  rw [← hq1, ← hq2] at HE
  rw [← hq1] at hnm
  rw [← hq2] at HC
  clear ht hl hC hP hnC hnP b1 B1 htn hq1 hq2
  cases q1 with
  | false =>
    go_enter Tryz.func38, Tryz.ntmps38
    go_wp2_with fail
    refine (hnm _).mono ?_
    rintro e w1 ⟨rfl, hw⟩
    replace hw := hw.symm
    subst hw
    clear hnm
    go_wp2_with fail
    go_ret
    exact ⟨ret_bool (tb_bad0 (by rw [HE.out]; rfl)).symm, HB0.out.1⟩
  | true =>
    cases q2 with
    | false =>
      go_enter Tryz.func38, Tryz.ntmps38
      go_wp2_with fail
      refine (hnm _).mono ?_
      rintro e w1 ⟨rfl, hw⟩
      replace hw := hw.symm
      subst hw
      clear hnm
      go_wp2_with fail
      refine (HC.out _ HB0.out.1).mono ?_
      rintro e w2 ⟨rfl, hb2⟩
      have HB2 : Hid (Below w.heap.size w w2 ∧ Box w2 w.heap.size 41 #[.string tn, .slice aC nC capC, .slice aP nP capP]) := ⟨HB0.out.1.trans (hb2.mono HB0.out.1.size), HB0.out.2.over hb2⟩
      have f2 := HB2.out.2.cell 2 _ rfl
      clear hb2
      go_wp2_with fail
      go_ret
      exact ⟨ret_bool (tb_bad0 (by rw [HE.out]; rfl)).symm, HB2.out.1⟩
    | true =>
      by_cases h6 : 6 < (nP : Int)
      · have e6 : decide (nP ≤ 6) = false := by simp; omega
        rw [e6] at HE
        clear e6
        go_enter Tryz.func38, Tryz.ntmps38
        go_wp2_with fail
        refine (hnm _).mono ?_
        rintro e w1 ⟨rfl, hw⟩
        replace hw := hw.symm
        subst hw
        clear hnm
        go_wp2_with fail
        refine (HC.out _ HB0.out.1).mono ?_
        rintro e w2 ⟨rfl, hb2⟩
        have HB2 : Hid (Below w.heap.size w w2 ∧ Box w2 w.heap.size 41 #[.string tn, .slice aC nC capC, .slice aP nP capP]) := ⟨HB0.out.1.trans (hb2.mono HB0.out.1.size), HB0.out.2.over hb2⟩
        have f2 := HB2.out.2.cell 2 _ rfl
        clear hb2
        go_wp2_with fail
        go_ret
        exact ⟨ret_bool (tb_bad0 (by rw [HE.out]; rfl)).symm, HB2.out.1⟩
      · have e6 : decide (nP ≤ 6) = true := by simp; omega
        rw [e6] at HE
        have j6 : decide (6 < (nP : Int)) = false := by simpa using h6
        clear e6 h6
        go_enter Tryz.func38, Tryz.ntmps38
        go_wp2_with fail
        refine (hnm _).mono ?_
        rintro e w1 ⟨rfl, hw⟩
        replace hw := hw.symm
        subst hw
        clear hnm
        go_wp2_with fail
        refine (HC.out _ HB0.out.1).mono ?_
        rintro e w2 ⟨rfl, hb2⟩
        have HB2 : Hid (Below w.heap.size w w2 ∧ Box w2 w.heap.size 41 #[.string tn, .slice aC nC capC, .slice aP nP capP]) := ⟨HB0.out.1.trans (hb2.mono HB0.out.1.size), HB0.out.2.over hb2⟩
        have f2 := HB2.out.2.cell 2 _ rfl
        clear hb2
        go_wp2_with fail
        clear f2
        go_loopg [3, 4] nP (fun gg s3 s4 wx => ∃ i : Nat, i + gg = nP ∧ s4 = .int .i64 i ∧ s3 = .bool (readB t.cols.length (t.projs.take i)) ∧ Hid ((t.projs.take i).all (pjB t.cols.length) = true ∧ tw sameP (t.projs.take i) = false) ∧ Hid (Below w.heap.size w wx ∧ Box wx w.heap.size 41 #[.string tn, .slice aC nC capC, .slice aP nP capP]))
        case atStart => exact ⟨0, by omega, rfl, by rw [List.take_zero]; rfl, by unfold Hid; rw [List.take_zero]; exact ⟨rfl, rfl⟩, HB2⟩
        case round =>
          clear HB2
          obtain ⟨i, hig, rfl, rfl, HN, HB⟩ := hrel
          have f2 := HB.out.2.cell 2 _ rfl
          by_cases hi : i < nP
          · have hiI : (i : Int) < (nP : Int) := by omega
            obtain ⟨x, d0, d1, d2, b, off, hs, rfl, hE, p0, p1, p2⟩ := at3P (HT.out.2.1.over stays_pj HB.out.1) hi
            have hr2 : IntKind.i64.wrap ((i : Int) + 1) = (i : Int) + 1 := by rw [IntKind.wrap_i64]; omega
            have hlit := HT.out.2.2.2.2
            have hlx := hlit.2.2.2.2 x (List.mem_of_getElem? hs)
            have hone := one_three (one_pj hE)
            have HW : Hid (∀ z, Below w.heap.size w ((wr.alloc (.cells z 26)).setRow wr.heap.size #[d0, d1, d2]) ∧ Box ((wr.alloc (.cells z 26)).setRow wr.heap.size #[d0, d1, d2]) w.heap.size 41 #[.string tn, .slice aC nC capC, .slice (some ⟨b, off, none⟩) nP capP] ∧ Box ((wr.alloc (.cells z 26)).setRow wr.heap.size #[d0, d1, d2]) wr.heap.size 26 #[d0, d1, d2] ∧ PjE ((wr.alloc (.cells z 26)).setRow wr.heap.size #[d0, d1, d2]) x [d0, d1, d2]) := fun z => by
              have b1 : Below wr.heap.size wr ((wr.alloc (.cells z 26)).setRow wr.heap.size #[d0, d1, d2]) := below_setRow (below1 wr _) (Nat.le_refl _) _
              exact ⟨HB.out.1.trans (b1.mono HB.out.1.size), HB.out.2.over b1, (box_new wr z 26).setRow _, stays_pj _ _ _ _ hE b1⟩
            have HZ : Hid (∀ z, Box (wr.alloc (.cells z 26)) wr.heap.size 26 z) := fun z => box_new wr z _
            have HS : Hid (t.projs[i]? = some x ∧ litP x ∧ litT t) := ⟨hs, hlx, hlit⟩
            obtain ⟨Bp, hBp⟩ : ∃ Bp, Bp = wr.heap.size := ⟨_, rfl⟩
            obtain ⟨rfl, aI, nI, capI, rfl, rfl⟩ := pj_cells hE
            have HR : Hid (Bp = wr.heap.size) := hBp
            obtain ⟨pq, hpq⟩ : ∃ pq, pq = pjB nC x := ⟨_, rfl⟩
            have HPQ : Hid (pjB nC x = pq) := hpq.symm
            have HPB0 : Hid (pjB t.cols.length x = pq) := by unfold Hid; rw [HT.out.2.2.2.1, hpq]
            obtain ⟨al, hal⟩ : ∃ al, al = readB t.cols.length (t.projs.take i) := ⟨_, rfl⟩
            have HAL : Hid (readB t.cols.length (t.projs.take i) = al) := hal.symm
            rw [← hal]
            clear hE hs hlx hlit hBp hpq hal
            cases pq with
            | false =>
              go_wp2_with (refine wpList_store_row rfl 26 _ _ rfl wr.heap.size _ rfl rfl 26 _ (HZ.out _) size_pj rfl hone ?_; obtain ⟨W1, hW1⟩ : ∃ W1, W1 = (wr.alloc (.cells #[.string ⟨#[]⟩, .slice none 0 0, .int .i64 0] 26)).setRow wr.heap.size #[.string x.name, .slice aI nI capI, .int .i64 x.keys.toInt] := ⟨_, rfl⟩; rw [← hW1]; have HW1 := HW.out #[.string ⟨#[]⟩, .slice none 0 0, .int .i64 0]; rw [← hW1, ← HR.out] at HW1; rw [← HR.out]; have HH1 : Hid _ := HW1; clear hW1; have g0 := HW1.2.2.1.cell 0 _ rfl; have g1 := HW1.2.2.1.cell 1 _ rfl; have g2 := HW1.2.2.1.cell 2 _ rfl; have g3 := HW1.2.1.cell 1 _ rfl; clear HW1)
              have cpj := refProj_any HH1.out.2.2.2 nC (by have := HS.out.2.2.2.1; rw [HT.out.2.2.2.1] at this; omega) HS.out.2.1
              rw [HPQ.out] at cpj
              refine cpj.mono ?_
              rintro e w3 ⟨rfl, hb3⟩
              have HB3 : Hid (Below w.heap.size w w3 ∧ Box w3 w.heap.size 41 #[.string tn, .slice aC nC capC, .slice (some ⟨b, off, none⟩) nP capP] ∧ Box w3 Bp 26 #[.string x.name, .slice aI nI capI, .int .i64 x.keys.toInt] ∧ PjE w3 x [.string x.name, .slice aI nI capI, .int .i64 x.keys.toInt]) := ⟨HH1.out.1.trans (hb3.mono HH1.out.1.size), HH1.out.2.1.over hb3, HH1.out.2.2.1.over hb3, stays_pj _ _ _ _ HH1.out.2.2.2 hb3⟩
              clear hb3 cpj g0 g1 g2 g3 HH1 p0 p1 p2 f2
              go_wp2_with fail
              go_ret
              exact ⟨ret_bool (tb_bad1 HS.out.1 HPB0.out).symm, HB3.out.1⟩
            | true =>
              have HPB := HPB0
              cases al with
              | true =>
                go_wp2_with (refine wpList_store_row rfl 26 _ _ rfl wr.heap.size _ rfl rfl 26 _ (HZ.out _) size_pj rfl hone ?_; obtain ⟨W1, hW1⟩ : ∃ W1, W1 = (wr.alloc (.cells #[.string ⟨#[]⟩, .slice none 0 0, .int .i64 0] 26)).setRow wr.heap.size #[.string x.name, .slice aI nI capI, .int .i64 x.keys.toInt] := ⟨_, rfl⟩; rw [← hW1]; have HW1 := HW.out #[.string ⟨#[]⟩, .slice none 0 0, .int .i64 0]; rw [← hW1, ← HR.out] at HW1; rw [← HR.out]; have HH1 : Hid _ := HW1; clear hW1; have g0 := HW1.2.2.1.cell 0 _ rfl; have g1 := HW1.2.2.1.cell 1 _ rfl; have g2 := HW1.2.2.1.cell 2 _ rfl; have g3 := HW1.2.1.cell 1 _ rfl; clear HW1)
                have cpj := refProj_any HH1.out.2.2.2 nC (by have := HS.out.2.2.2.1; rw [HT.out.2.2.2.1] at this; omega) HS.out.2.1
                rw [HPQ.out] at cpj
                refine cpj.mono ?_
                rintro e w3 ⟨rfl, hb3⟩
                have HB3 : Hid (Below w.heap.size w w3 ∧ Box w3 w.heap.size 41 #[.string tn, .slice aC nC capC, .slice (some ⟨b, off, none⟩) nP capP] ∧ Box w3 Bp 26 #[.string x.name, .slice aI nI capI, .int .i64 x.keys.toInt] ∧ PjE w3 x [.string x.name, .slice aI nI capI, .int .i64 x.keys.toInt]) := ⟨HH1.out.1.trans (hb3.mono HH1.out.1.size), HH1.out.2.1.over hb3, HH1.out.2.2.1.over hb3, stays_pj _ _ _ _ HH1.out.2.2.2 hb3⟩
                clear hb3 cpj g0 g1 g2 g3 HH1 p0 p1 p2 f2
                have HRR : Hid ((true || superB t.cols.length x.cols) = true) := rfl
                have HLAST : Hid (Below w.heap.size w w3 ∧ Box w3 w.heap.size 41 #[.string tn, .slice aC nC capC, .slice (some ⟨b, off, none⟩) nP capP] ∧ Box w3 Bp 26 #[.string x.name, .slice aI nI capI, .int .i64 x.keys.toInt]) := ⟨HB3.out.1, HB3.out.2.1, HB3.out.2.2.1⟩
                go_wp2_with fail
                go_loopg [6] i (fun gg s6 wx => ∃ k : Nat, k + gg = i ∧ s6 = .int .i64 k ∧ Hid (((t.projs.take i).take k).any (fun y => sameP y x) = false) ∧ Hid (Below w.heap.size w wx ∧ Box wx w.heap.size 41 #[.string tn, .slice aC nC capC, .slice (some ⟨b, off, none⟩) nP capP] ∧ Box wx Bp 26 #[.string x.name, .slice aI nI capI, .int .i64 x.keys.toInt]))
                case atStart => exact ⟨0, by omega, rfl, by unfold Hid; rw [List.take_zero]; rfl, HLAST⟩
                case round =>
                  clear HLAST
                  obtain ⟨k, hkg, rfl, HK, HB⟩ := hrel
                  have f2 := HB.out.2.1.cell 2 _ rfl
                  have f3 := HB.out.2.2.cell 0 _ rfl
                  by_cases hk : k < i
                  · have hkI : (k : Int) < (i : Int) := by omega
                    have hkn : (k : Int) < (nP : Int) := by omega
                    obtain ⟨y, e0, e1, e2, b2, off2, hy, eb, hE2, g0, g1, g2⟩ := at3P (HT.out.2.1.over stays_pj HB.out.1) (k := k) (by omega)
                    cases eb
                    obtain ⟨rfl, _⟩ := pj_cells hE2
                    have hr3 : IntKind.i64.wrap ((k : Int) + 1) = (k : Int) + 1 := by rw [IntKind.wrap_i64]; omega
                    obtain ⟨q, hq⟩ : ∃ q, (y.name.toList == x.name.toList) = q := ⟨_, rfl⟩
                    have HY : Hid (t.projs[k]? = some y ∧ ((t.projs.take i).take (k + 1)).any (fun y => sameP y x) = (((t.projs.take i).take k).any (fun y => sameP y x) || sameP y x) ∧ sameP y x = q) := ⟨hy, any_take_take hk hy, by rw [← hq, eqS_beq]; rfl⟩
                    clear hE2 hy g1 g2
                    cases q with
                    | true =>
                      go_wp2_with fail
                      go_quiet (fail)
                      go_wp2_with fail
                      go_ret
                      exact ⟨ret_bool (tb_bad2 hk HY.out.1 HS.out.1 HY.out.2.2).symm, drewN_below HB.out.1 _⟩
                    | false =>
                      go_wp2_with fail
                      go_quiet (fail)
                      go_wp2_with fail
                      go_roundg (i - (k + 1))
                      case measure => clear hr2 hr3; omega
                      case rel => exact ⟨k + 1, by clear hr2 hr3; omega, by go_num, by unfold Hid; rw [HY.out.2.1, HK.out, HY.out.2.2]; rfl, ⟨drewN_below HB.out.1 _, HB.out.2.1, HB.out.2.2⟩⟩
                  · have hkI : ¬ (k : Int) < (i : Int) := by omega
                    obtain rfl : k = i := by omega
                    go_wp2_with fail
                    go_roundg (nP - (k + 1))
                    case measure => clear hr2; omega
                    case rel => exact ⟨k + 1, by clear hr2; omega, by go_num, by rw [read_take HS.out.1, HAL.out]; rfl, ⟨by rw [all_take_succ HS.out.1, HN.out.1, HPB.out]; rfl, by rw [tw_take HS.out.1, HN.out.2]; have := HK.out; rw [List.take_of_length_le (by rw [List.length_take]; omega)] at this; rw [this]; rfl⟩, ⟨HB.out.1, HB.out.2.1⟩⟩
              | false =>
                go_wp2_with (refine wpList_store_row rfl 26 _ _ rfl wr.heap.size _ rfl rfl 26 _ (HZ.out _) size_pj rfl hone ?_; obtain ⟨W1, hW1⟩ : ∃ W1, W1 = (wr.alloc (.cells #[.string ⟨#[]⟩, .slice none 0 0, .int .i64 0] 26)).setRow wr.heap.size #[.string x.name, .slice aI nI capI, .int .i64 x.keys.toInt] := ⟨_, rfl⟩; rw [← hW1]; have HW1 := HW.out #[.string ⟨#[]⟩, .slice none 0 0, .int .i64 0]; rw [← hW1, ← HR.out] at HW1; rw [← HR.out]; have HH1 : Hid _ := HW1; clear hW1; have g0 := HW1.2.2.1.cell 0 _ rfl; have g1 := HW1.2.2.1.cell 1 _ rfl; have g2 := HW1.2.2.1.cell 2 _ rfl; have g3 := HW1.2.1.cell 1 _ rfl; clear HW1)
                have cpj := refProj_any HH1.out.2.2.2 nC (by have := HS.out.2.2.2.1; rw [HT.out.2.2.2.1] at this; omega) HS.out.2.1
                rw [HPQ.out] at cpj
                refine cpj.mono ?_
                rintro e w3 ⟨rfl, hb3⟩
                have HB3 : Hid (Below w.heap.size w w3 ∧ Box w3 w.heap.size 41 #[.string tn, .slice aC nC capC, .slice (some ⟨b, off, none⟩) nP capP] ∧ Box w3 Bp 26 #[.string x.name, .slice aI nI capI, .int .i64 x.keys.toInt] ∧ PjE w3 x [.string x.name, .slice aI nI capI, .int .i64 x.keys.toInt]) := ⟨HH1.out.1.trans (hb3.mono HH1.out.1.size), HH1.out.2.1.over hb3, HH1.out.2.2.1.over hb3, stays_pj _ _ _ _ HH1.out.2.2.2 hb3⟩
                clear hb3 cpj g0 g1 g2 g3 HH1 p0 p1 p2 f2
                have t0 := HB3.out.2.1.cell 0 _ rfl
                have t1 := HB3.out.2.1.cell 1 _ rfl
                have t2 := HB3.out.2.1.cell 2 _ rfl
                have p0 := HB3.out.2.2.1.cell 0 _ rfl
                have p1 := HB3.out.2.2.1.cell 1 _ rfl
                have p2 := HB3.out.2.2.1.cell 2 _ rfl
                have csu := refSuper_any (stays_tb _ _ _ _ HT.out.1 HB3.out.1) HB3.out.2.2.2 (Nat.le_trans HS.out.2.2.2.1 (by decide)) (Nat.le_trans HS.out.2.1.2 (by decide))
                obtain ⟨r, hr⟩ : ∃ r, r = superB t.cols.length x.cols := ⟨_, rfl⟩
                rw [← hr] at csu
                have HRR : Hid (superB t.cols.length x.cols = r) := hr.symm
                clear hr
                go_wp2_with fail
                refine csu.mono ?_
                rintro e w4 ⟨rfl, hb4⟩
                have HLAST : Hid (Below w.heap.size w w4 ∧ Box w4 w.heap.size 41 #[.string tn, .slice aC nC capC, .slice (some ⟨b, off, none⟩) nP capP] ∧ Box w4 Bp 26 #[.string x.name, .slice aI nI capI, .int .i64 x.keys.toInt]) := ⟨HB3.out.1.trans (hb4.mono HB3.out.1.size), HB3.out.2.1.over hb4, HB3.out.2.2.1.over hb4⟩
                clear csu hb4 HB3 t0 t1 t2 p0 p1 p2
                go_wp2_with fail
                go_loopg [6] i (fun gg s6 wx => ∃ k : Nat, k + gg = i ∧ s6 = .int .i64 k ∧ Hid (((t.projs.take i).take k).any (fun y => sameP y x) = false) ∧ Hid (Below w.heap.size w wx ∧ Box wx w.heap.size 41 #[.string tn, .slice aC nC capC, .slice (some ⟨b, off, none⟩) nP capP] ∧ Box wx Bp 26 #[.string x.name, .slice aI nI capI, .int .i64 x.keys.toInt]))
                case atStart => exact ⟨0, by omega, rfl, by unfold Hid; rw [List.take_zero]; rfl, HLAST⟩
                case round =>
                  clear HLAST
                  obtain ⟨k, hkg, rfl, HK, HB⟩ := hrel
                  have f2 := HB.out.2.1.cell 2 _ rfl
                  have f3 := HB.out.2.2.cell 0 _ rfl
                  by_cases hk : k < i
                  · have hkI : (k : Int) < (i : Int) := by omega
                    have hkn : (k : Int) < (nP : Int) := by omega
                    obtain ⟨y, e0, e1, e2, b2, off2, hy, eb, hE2, g0, g1, g2⟩ := at3P (HT.out.2.1.over stays_pj HB.out.1) (k := k) (by omega)
                    cases eb
                    obtain ⟨rfl, _⟩ := pj_cells hE2
                    have hr3 : IntKind.i64.wrap ((k : Int) + 1) = (k : Int) + 1 := by rw [IntKind.wrap_i64]; omega
                    obtain ⟨q, hq⟩ : ∃ q, (y.name.toList == x.name.toList) = q := ⟨_, rfl⟩
                    have HY : Hid (t.projs[k]? = some y ∧ ((t.projs.take i).take (k + 1)).any (fun y => sameP y x) = (((t.projs.take i).take k).any (fun y => sameP y x) || sameP y x) ∧ sameP y x = q) := ⟨hy, any_take_take hk hy, by rw [← hq, eqS_beq]; rfl⟩
                    clear hE2 hy g1 g2
                    cases q with
                    | true =>
                      go_wp2_with fail
                      go_quiet (fail)
                      go_wp2_with fail
                      go_ret
                      exact ⟨ret_bool (tb_bad2 hk HY.out.1 HS.out.1 HY.out.2.2).symm, drewN_below HB.out.1 _⟩
                    | false =>
                      go_wp2_with fail
                      go_quiet (fail)
                      go_wp2_with fail
                      go_roundg (i - (k + 1))
                      case measure => clear hr2 hr3; omega
                      case rel => exact ⟨k + 1, by clear hr2 hr3; omega, by go_num, by unfold Hid; rw [HY.out.2.1, HK.out, HY.out.2.2]; rfl, ⟨drewN_below HB.out.1 _, HB.out.2.1, HB.out.2.2⟩⟩
                  · have hkI : ¬ (k : Int) < (i : Int) := by omega
                    obtain rfl : k = i := by omega
                    go_wp2_with fail
                    go_roundg (nP - (k + 1))
                    case measure => clear hr2; omega
                    case rel => exact ⟨k + 1, by clear hr2; omega, by go_num, by rw [read_take HS.out.1, HAL.out]; rw [HRR.out]; rfl, ⟨by rw [all_take_succ HS.out.1, HN.out.1, HPB.out]; rfl, by rw [tw_take HS.out.1, HN.out.2]; have := HK.out; rw [List.take_of_length_le (by rw [List.length_take]; omega)] at this; rw [this]; rfl⟩, ⟨HB.out.1, HB.out.2.1⟩⟩
          · have hiI : ¬ (i : Int) < (nP : Int) := by omega
            obtain rfl : i = nP := by omega
            have hend := HN.out
            rw [List.take_of_length_le (by rw [HT.out.2.2.1]; exact Nat.le_refl _)] at hend ⊢
            have HEND : Hid (tbB t = readB t.cols.length t.projs) := tb_end (by rw [HE.out]; rfl) hend.1 hend.2
            generalize readB t.cols.length t.projs = al at *
            clear hend
            go_wp2_with fail
            go_ret
            exact ⟨ret_bool HEND.out.symm, HB.out.1⟩
end Go.Proofs.YtdjobjbkpagnaaaGreat
/-
  The contract of the document's May.
-/
namespace Go.Proofs.YtdjobjbkpagnaaaGreat
open Go.RowKit Go.Shelf

theorem tabs_bad1 {l : List Tb} {i : Nat} {x : Tb} (hx : l[i]? = some x) (h : tbB x = false) : tabsB l = false := by
  unfold tabsB; rw [all_false_of hx h, Bool.and_false, Bool.false_and]
theorem tabs_bad2 {l : List Tb} {i j : Nat} {x y : Tb} (hij : i < j) (hx : l[i]? = some x) (hy : l[j]? = some y) (h : sameT x y = true) : tabsB l = false := by
  unfold tabsB; rw [tw_true_of hij hx hy h, Bool.not_true, Bool.and_false]
theorem tabs_end {l : List Tb} (h1 : l.all tbB = true) (h2 : tw sameT l = false) : tabsB l = decide (l.length ≤ 8) := by
  unfold tabsB; rw [h1, h2, Bool.not_false, Bool.and_true, Bool.and_true]
set_option maxRecDepth 4000 in
set_option maxHeartbeats 4000000 in
theorem refMay_any {w : World} {v : Value} {l : List Tb} (h : TabsIs w v l) (hl : litL l) :
    Calls Tryz.prog 13 #[v] w fun e w' => e = .returned (.bool (tabsB l)) ∧ Below w.heap.size w w' := by
  obtain ⟨a, n, cap, rfl, hn, hcap⟩ := h.slice
  have hn1 : (n : Int) ≤ 1000000 := by have := hl.1; omega
  have HH : Hid (TabsIs w (.slice a n cap) l ∧ l.length = n ∧ ∀ t ∈ l, litT t) := ⟨h, hn, hl.2⟩
  clear h hl hn
  go_enter Tryz.func13, Tryz.ntmps13
  go_wp2_with fail
  go_loopg [3] n (fun gg s3 wx => ∃ i : Nat, i + gg = n ∧ s3 = .int .i64 i ∧ Hid ((l.take i).all tbB = true ∧ tw sameT (l.take i) = false) ∧ Hid (Below w.heap.size w wx))
  case atStart => exact ⟨0, by omega, rfl, by unfold Hid; rw [List.take_zero]; exact ⟨rfl, rfl⟩, Below.refl _ _⟩
  case round =>
    obtain ⟨i, hig, rfl, HN, HB⟩ := hrel
    by_cases hi : i < n
    · have hiI : (i : Int) < (n : Int) := by omega
      obtain ⟨x, d0, d1, d2, b, off, hs, rfl, hE, c0, c1, c2⟩ := at3T (HH.out.1.over stays_tb HB.out) hi
      have hr2 : IntKind.i64.wrap ((i : Int) + 1) = (i : Int) + 1 := by rw [IntKind.wrap_i64]; omega
      have ct := refTable_any hE (HH.out.2.2 x (List.mem_of_getElem? hs))
      obtain ⟨q, hq⟩ : ∃ q, q = tbB x := ⟨_, rfl⟩
      have HS : Hid (l[i]? = some x ∧ tbB x = q) := ⟨hs, hq.symm⟩
      rw [← hq] at ct
      obtain ⟨rfl, aC, nC, capC, aP, nP, capP, rfl, rfl, _⟩ := tb_cells hE
      clear hE hs hq
      go_wp2_with fail
      refine ct.mono ?_
      rintro e w1 ⟨rfl, hb1⟩
      have HB1 : Hid (Below w.heap.size w w1) := HB.out.trans (hb1.mono HB.out.size)
      clear ct hb1 c0 c1 c2 HB
      cases q with
      | false =>
        go_wp2_with fail
        go_ret
        exact ⟨ret_bool (tabs_bad1 HS.out.1 HS.out.2).symm, HB1.out⟩
      | true =>
        go_wp2_with fail
        go_loopg [4] i (fun gg s4 wx => ∃ k : Nat, k + gg = i ∧ s4 = .int .i64 k ∧ Hid (((l.take i).take k).any (fun y => sameT y x) = false) ∧ Hid (Below w.heap.size w wx))
        case atStart => exact ⟨0, by omega, rfl, by unfold Hid; rw [List.take_zero]; rfl, HB1⟩
        case round =>
          clear HB1
          obtain ⟨k, hkg, rfl, HK, HB⟩ := hrel
          by_cases hk : k < i
          · have hkI : (k : Int) < (i : Int) := by omega
            have hkn : (k : Int) < (n : Int) := by omega
            obtain ⟨y, f0, f1, f2, b2, off2, hy, eb, hE2, g0, g1, g2⟩ := at3T (HH.out.1.over stays_tb HB.out) (k := k) (by omega)
            obtain ⟨x2, e0, e1, e2, b3, off3, hx2, eb2, hE3, g3, g4, g5⟩ := at3T (HH.out.1.over stays_tb HB.out) (k := i) hi
            cases eb
            cases eb2
            obtain ⟨rfl, _⟩ := tb_cells hE2
            obtain ⟨rfl, _⟩ := tb_cells hE3
            obtain rfl : x2 = x := Option.some.inj (hx2.symm.trans HS.out.1)
            have hr3 : IntKind.i64.wrap ((k : Int) + 1) = (k : Int) + 1 := by rw [IntKind.wrap_i64]; omega
            obtain ⟨q, hq⟩ : ∃ q, (y.name.toList == x2.name.toList) = q := ⟨_, rfl⟩
            have HY : Hid (l[k]? = some y ∧ ((l.take i).take (k + 1)).any (fun y => sameT y x2) = (((l.take i).take k).any (fun y => sameT y x2) || sameT y x2) ∧ sameT y x2 = q) := ⟨hy, any_take_take hk hy, by rw [← hq, eqS_beq]; rfl⟩
            clear hE2 hE3 hy hx2 g1 g2 g4 g5
            cases q with
            | true =>
              go_wp2_with fail
              go_quiet (fail)
              go_wp2_with fail
              go_ret
              exact ⟨ret_bool (tabs_bad2 hk HY.out.1 HS.out.1 HY.out.2.2).symm, drewN_below HB.out _⟩
            | false =>
              go_wp2_with fail
              go_quiet (fail)
              go_wp2_with fail
              go_roundg (i - (k + 1))
              case measure => clear hr2 hr3; omega
              case rel => exact ⟨k + 1, by clear hr2 hr3; omega, by go_num, by unfold Hid; rw [HY.out.2.1, HK.out, HY.out.2.2]; rfl, drewN_below HB.out _⟩
          · have hkI : ¬ (k : Int) < (i : Int) := by omega
            obtain rfl : k = i := by omega
            go_wp2_with fail
            go_roundg (n - (k + 1))
            case measure => clear hr2; omega
            case rel => exact ⟨k + 1, by clear hr2; omega, by go_num, ⟨by rw [all_take_succ HS.out.1, HN.out.1, HS.out.2]; rfl, by rw [tw_take HS.out.1, HN.out.2]; have := HK.out; rw [List.take_of_length_le (by rw [List.length_take]; omega)] at this; rw [this]; rfl⟩, HB⟩
    · have hiI : ¬ (i : Int) < (n : Int) := by omega
      obtain rfl : i = n := by omega
      have hend : Hid (tabsB l = decide (i ≤ 8)) := by
        have := HN.out
        rw [List.take_of_length_le (by rw [HH.out.2.1]; exact Nat.le_refl _)] at this
        unfold Hid
        rw [tabs_end this.1 this.2, HH.out.2.1]
      obtain ⟨q, hq⟩ : ∃ q, decide ((i : Int) ≤ 8) = q := ⟨_, rfl⟩
      have HQ : Hid (decide (i ≤ 8) = q) := by unfold Hid; rw [← hq, Bool.eq_iff_iff]; simp; omega
      go_wp2_with fail
      go_ret
      exact ⟨ret_bool (by rw [hend.out, HQ.out]), HB.out⟩
end Go.Proofs.YtdjobjbkpagnaaaGreat
/-
  The contract of the document's Light: where it is true, tables are of few parts.
-/
namespace Go.Proofs.YtdjobjbkpagnaaaGreat
open Go.RowKit Go.Shelf

def smT (t : Tb) : Prop := t.name.size ≤ 40 ∧ t.cols.length ≤ 12 ∧ t.projs.length ≤ 10 ∧ (∀ c ∈ t.cols, c.name.size ≤ 40) ∧ (∀ p ∈ t.projs, p.name.size ≤ 40 ∧ p.cols.length ≤ 12)
def smL (l : List Tb) : Prop := l.length ≤ 10 ∧ ∀ t ∈ l, smT t
theorem smT.lit {t : Tb} (h : smT t) : litT t := ⟨by have := h.1; omega, by have := h.2.1; omega, by have := h.2.2.1; omega, fun c hc => by have := h.2.2.2.1 c hc; unfold litC; omega, fun p hp => by have := h.2.2.2.2 p hp; unfold litP; omega⟩
theorem smL.lit {l : List Tb} (h : smL l) : litL l := ⟨by have := h.1; omega, fun t ht => (h.2 t ht).lit⟩
theorem all_at {α : Type} {P : α → Prop} {l : List α} {i : Nat} (h : ∀ (j : Nat) (x : α), j < i → l[j]? = some x → P x) (hi : l.length ≤ i) : ∀ x ∈ l, P x := by
  intro x hx
  obtain ⟨j, hj⟩ := List.getElem?_of_mem hx
  exact h j x (by have := (List.getElem?_eq_some_iff.1 hj).1; omega) hj
theorem to_next {α : Type} {P : α → Prop} {l : List α} {i : Nat} {x : α} (h : ∀ (j : Nat) (y : α), j < i → l[j]? = some y → P y) (hx : l[i]? = some x) (hp : P x) : ∀ (j : Nat) (y : α), j < i + 1 → l[j]? = some y → P y := by
  intro j y hj hy
  by_cases e : j = i
  · subst e
    obtain rfl : x = y := Option.some.inj (hx.symm.trans hy)
    exact hp
  · exact h j y (by omega) hy

def LightAns (w : World) (l : List Tb) (e : Ending) (w' : World) : Prop := (∃ q, e = .returned (.bool q) ∧ (q = true → smL l)) ∧ Below w.heap.size w w'
theorem light_no {w w' : World} {l : List Tb} (h : Below w.heap.size w w') : LightAns w l (.returned (.bool false)) w' := ⟨⟨_, rfl, by simp⟩, h⟩
set_option maxRecDepth 4000 in
set_option maxHeartbeats 4000000 in
theorem refLight_any {w : World} {v : Value} {l : List Tb} (h : TabsIs w v l) :
    Calls Tryz.prog 7 #[v] w (LightAns w l) := by
  obtain ⟨a, n, cap, rfl, hn, _⟩ := h.slice
  have HH : Hid (TabsIs w (.slice a n cap) l ∧ l.length = n) := ⟨h, hn⟩
  clear h hn
  go_enter Tryz.func7, Tryz.ntmps7
  go_wp2_with fail
  go_loopg [3] 10 (fun gg s3 wx => ∃ i : Nat, i + gg = 10 ∧ s3 = .int .i64 i ∧ Hid (∀ (j : Nat) (x : Tb), j < i → l[j]? = some x → smT x) ∧ Hid (Below w.heap.size w wx))
  case atStart => exact ⟨0, by omega, rfl, fun j x hj _ => absurd hj (by omega), Below.refl _ _⟩
  case round =>
    obtain ⟨i, hig, rfl, HN, HB⟩ := hrel
    by_cases hi : i < n
    · have hiI : (i : Int) < (n : Int) := by omega
      by_cases h10 : i < 10
      · have h10I : (i : Int) < 10 := by omega
        obtain ⟨x, d0, d1, d2, b, off, hs, rfl, hE, p0, p1, p2⟩ := at3T (HH.out.1.over stays_tb HB.out) hi
        have hr2 : IntKind.i64.wrap ((i : Int) + 1) = (i : Int) + 1 := by rw [IntKind.wrap_i64]; omega
        have hone := one_three (one_tb hE)
        obtain ⟨rfl, aC, nC, capC, aP, nP, capP, rfl, rfl, hnC, hnP, hC, hP⟩ := tb_cells hE
        obtain ⟨xn, hxn⟩ : ∃ xn, xn = x.name := ⟨_, rfl⟩
        rw [← hxn] at p0 hone
        obtain ⟨W1, hW1⟩ : ∃ W1, W1 = (wr.alloc (.cells #[.string ⟨#[]⟩, .slice none 0 0, .slice none 0 0] 41)).setRow wr.heap.size #[.string xn, .slice aC nC capC, .slice aP nP capP] := ⟨_, rfl⟩
        have b1 : Below wr.heap.size wr W1 := by rw [hW1]; exact below_setRow (below1 wr _) (Nat.le_refl _) _
        have B1 : Box W1 wr.heap.size 41 #[.string xn, .slice aC nC capC, .slice aP nP capP] := by rw [hW1]; exact (box_new wr _ _).setRow _
        have HZ : Hid (∀ z, Box (wr.alloc (.cells z 41)) wr.heap.size 41 z) := fun z => box_new wr z _
        have HW : Hid (W1 = (wr.alloc (.cells #[.string ⟨#[]⟩, .slice none 0 0, .slice none 0 0] 41)).setRow wr.heap.size #[.string xn, .slice aC nC capC, .slice aP nP capP] ∧ Below w.heap.size w W1) := ⟨hW1, HB.out.trans (b1.mono HB.out.size)⟩
        obtain ⟨Bp, hBp⟩ : ∃ Bp, Bp = wr.heap.size := ⟨_, rfl⟩
        have HR : Hid (Bp = wr.heap.size) := hBp
        rw [← hBp] at B1
        have HBX : Hid (Below w.heap.size w W1 ∧ Box W1 Bp 41 #[.string xn, .slice aC nC capC, .slice aP nP capP]) := ⟨HW.out.2, B1⟩
        have g0 := B1.cell 0 _ rfl
        have g1 := B1.cell 1 _ rfl
        have g2 := B1.cell 2 _ rfl
        have HX : Hid (l[i]? = some x ∧ xn = x.name ∧ x.cols.length = nC ∧ x.projs.length = nP ∧ (∀ W, Below w.heap.size w W → TbE W x [.string x.name, .slice aC nC capC, .slice aP nP capP])) := ⟨hs, hxn, hnC, hnP, fun W hW => by
          obtain ⟨x2, e0, e1, e2, b2, off2, hs2, eb, hE2, q0, q1, q2⟩ := at3T HH.out.1 hi
          cases eb
          obtain rfl : x2 = x := Option.some.inj (hs2.symm.trans hs)
          have u0 := above_cell q0 ⟨wr, HB.out⟩
          have u1 := above_cell q1 ⟨wr, HB.out⟩
          have u2 := above_cell q2 ⟨wr, HB.out⟩
          obtain rfl := Option.some.inj (u0.symm.trans (hxn ▸ p0))
          obtain rfl := Option.some.inj (u1.symm.trans p1)
          obtain rfl := Option.some.inj (u2.symm.trans p2)
          exact stays_tb _ _ _ _ hE2 hW⟩
        clear hE hs hnC hnP hC hP hxn b1 B1 hW1 hBp
        by_cases hb0 : 40 < (xn.size : Int)
        · go_wp2_with (refine wpList_store_row rfl 41 _ _ rfl wr.heap.size _ rfl rfl 41 _ (HZ.out _) size_tb rfl hone ?_; rw [← HW.out.1, ← HR.out])
          go_ret
          exact light_no HW.out.2
        · by_cases hb1 : 12 < (nC : Int)
          · go_wp2_with (refine wpList_store_row rfl 41 _ _ rfl wr.heap.size _ rfl rfl 41 _ (HZ.out _) size_tb rfl hone ?_; rw [← HW.out.1, ← HR.out])
            go_ret
            exact light_no HW.out.2
          · by_cases hb2 : 10 < (nP : Int)
            · go_wp2_with (refine wpList_store_row rfl 41 _ _ rfl wr.heap.size _ rfl rfl 41 _ (HZ.out _) size_tb rfl hone ?_; rw [← HW.out.1, ← HR.out])
              go_ret
              exact light_no HW.out.2
            · go_wp2_with (refine wpList_store_row rfl 41 _ _ rfl wr.heap.size _ rfl rfl 41 _ (HZ.out _) size_tb rfl hone ?_; rw [← HW.out.1, ← HR.out])
              clear g0 g1 g2 p0 p1 p2
              go_loopg [5] nC (fun gg s5 wx => ∃ k : Nat, k + gg = nC ∧ s5 = .int .i64 k ∧ Hid (∀ (j : Nat) (c : Col), j < k → x.cols[j]? = some c → c.name.size ≤ 40) ∧ Hid (Below w.heap.size w wx ∧ Box wx Bp 41 #[.string xn, .slice aC nC capC, .slice aP nP capP]))
              case atStart => exact ⟨0, by omega, rfl, fun j x hj _ => absurd hj (by omega), HBX⟩
              case round =>
                clear HBX HW HZ
                obtain ⟨k, hkg, rfl, HK, HB⟩ := hrel
                have f1 := HB.out.2.cell 1 _ rfl
                by_cases hk : k < nC
                · have hkI : (k : Int) < (nC : Int) := by omega
                  have hr3 : IntKind.i64.wrap ((k : Int) + 1) = (k : Int) + 1 := by rw [IntKind.wrap_i64]; omega
                  obtain ⟨_, _, _, _, _, _, _, ea, eb, _, _, hC, _⟩ := tb_cells (HX.out.2.2.2.2 _ HB.out.1)
                  cases ea
                  cases eb
                  obtain ⟨c, e0, e1, e2, b2, off2, hc, rfl, hE2, q0, q1, q2⟩ := at3C hC hk
                  cases hE2
                  have HC : Hid (x.cols[k]? = some c) := hc
                  clear hC hc q1 q2
                  by_cases hbc : 40 < (c.name.size : Int)
                  · go_wp2_with fail
                    go_ret
                    exact light_no HB.out.1
                  · have HCC : Hid (c.name.size ≤ 40) := by unfold Hid; omega
                    go_wp2_with fail
                    go_roundg (nC - (k + 1))
                    case measure => clear hr2 hr3; omega
                    case rel => exact ⟨k + 1, by clear hr2 hr3; omega, by go_num, to_next HK.out HC.out HCC.out, HB⟩
                · have hkI : ¬ (k : Int) < (nC : Int) := by omega
                  have HCS : Hid (∀ c ∈ x.cols, c.name.size ≤ 40) := all_at HK.out (by rw [HX.out.2.2.1]; omega)
                  go_wp2_with fail
                  clear HK f1 hkg hk hkI
                  go_loopg [6] nP (fun gg s6 wx => ∃ k : Nat, k + gg = nP ∧ s6 = .int .i64 k ∧ Hid (∀ (j : Nat) (p : Pj), j < k → x.projs[j]? = some p → p.name.size ≤ 40 ∧ p.cols.length ≤ 12) ∧ Hid (Below w.heap.size w wx ∧ Box wx Bp 41 #[.string xn, .slice aC nC capC, .slice aP nP capP]))
                  case atStart => exact ⟨0, by omega, rfl, fun j x hj _ => absurd hj (by omega), HB⟩
                  case round =>
                    clear HB
                    obtain ⟨k, hkg, rfl, HK, HB⟩ := hrel
                    have f2 := HB.out.2.cell 2 _ rfl
                    by_cases hk : k < nP
                    · have hkI : (k : Int) < (nP : Int) := by omega
                      have hr3 : IntKind.i64.wrap ((k : Int) + 1) = (k : Int) + 1 := by rw [IntKind.wrap_i64]; omega
                      obtain ⟨_, _, _, _, _, _, _, ea, eb, _, _, _, hP⟩ := tb_cells (HX.out.2.2.2.2 _ HB.out.1)
                      cases ea
                      cases eb
                      obtain ⟨p, e0, e1, e2, b2, off2, hp, rfl, hE2, q0, q1, q2⟩ := at3P hP hk
                      obtain ⟨v2, ev, hI⟩ := hE2
                      simp only [List.cons.injEq, and_true] at ev
                      obtain ⟨rfl, rfl, rfl⟩ := ev
                      obtain ⟨aI, nI, capI, rfl, hnI, _⟩ := hI.slice
                      have HC : Hid (x.projs[k]? = some p ∧ p.cols.length = nI) := ⟨hp, hnI⟩
                      clear hP hp q2 hI hnI
                      by_cases hbc : 40 < (p.name.size : Int)
                      · go_wp2_with fail
                        go_ret
                        exact light_no HB.out.1
                      · by_cases hbd : 12 < (nI : Int)
                        · go_wp2_with fail
                          go_ret
                          exact light_no HB.out.1
                        · have HCC : Hid (p.name.size ≤ 40 ∧ p.cols.length ≤ 12) := by unfold Hid; rw [HC.out.2]; omega
                          go_wp2_with fail
                          go_roundg (nP - (k + 1))
                          case measure => clear hr2 hr3; omega
                          case rel => exact ⟨k + 1, by clear hr2 hr3; omega, by go_num, to_next HK.out HC.out.1 HCC.out, HB⟩
                    · have hkI : ¬ (k : Int) < (nP : Int) := by omega
                      have HSM : Hid (smT x) := ⟨by rw [← HX.out.2.1]; omega, by rw [HX.out.2.2.1]; omega, by rw [HX.out.2.2.2.1]; omega, HCS.out, all_at HK.out (by rw [HX.out.2.2.2.1]; omega)⟩
                      go_wp2_with fail
                      go_roundg (10 - (i + 1))
                      case measure => clear hr2; omega
                      case rel => exact ⟨i + 1, by clear hr2; omega, by go_num, to_next HN.out HX.out.1 HSM.out, HB.out.1⟩
      · have h10I : ¬ (i : Int) < 10 := by omega
        have hnI : ¬ (n : Int) ≤ 10 := by omega
        go_wp2_with fail
        go_ret
        exact light_no HB.out
    · have hiI : ¬ (i : Int) < (n : Int) := by omega
      have hnI : (n : Int) ≤ 10 := by omega
      have HSM : Hid (smL l) := ⟨by rw [HH.out.2]; omega, all_at HN.out (by rw [HH.out.2]; omega)⟩
      go_wp2_with fail
      go_ret
      exact ⟨⟨_, rfl, fun _ => HSM.out⟩, HB.out⟩
end Go.Proofs.YtdjobjbkpagnaaaGreat
/-
  Tables, projections and changes that came in as arguments: what their cells are.
-/
namespace Go.Proofs.YtdjobjbkpagnaaaGreat
open Go.RowKit

/-- A list of what there is at each place. -/
theorem list_of {α : Type} {Q : Nat → α → Prop} : ∀ n : Nat, (∀ i, i < n → ∃ c, Q i c) → ∃ r : List α, r.length = n ∧ ∀ i c, r[i]? = some c → Q i c
  | 0, _ => ⟨[], rfl, fun i c h => by simp at h⟩
  | n + 1, h => by
    obtain ⟨r, hl, hr⟩ := list_of n fun i hi => h i (by omega)
    obtain ⟨c, hc⟩ := h n (by omega)
    refine ⟨r ++ [c], by simp [hl], fun i x hx => ?_⟩
    by_cases hi : i < n
    · rw [List.getElem?_append_left (by omega)] at hx
      exact hr i x hx
    · have hlt := (List.getElem?_eq_some_iff.1 hx).1
      rw [List.length_append, List.length_singleton] at hlt
      obtain rfl : i = n := by omega
      rw [List.getElem?_append_right (by omega), hl, Nat.sub_self] at hx
      simp at hx
      subst hx
      exact hc
set_option maxRecDepth 100000 in
/-- A slice that came in, its elements told by how their cells read. -/
theorem slice_of {α : Type} {E : World → α → List Value → Prop} {sz : Nat} (hsz : 0 < sz) {H : Type} {enc : TypeId × Value → H} {W : World} {base : Nat} {hd : Bool} {fuel : Nat} {v : Value} {x : DataW H × List MemPlace} {T e : TypeId}
    (hT : Tryz.prog.underlying T = some (.slice e)) (hc : Tryz.prog.cellsOf e = sz)
    (hE : ∀ (k : Nat) (cs : List Value) (y : DataW H × List MemPlace), cs.length = sz → DataW.trod enc Tryz.prog W base (fun _ => true) hd k e cs = some y → ∃ x : α, E W x cs)
    (h : DataW.trod enc Tryz.prog W base (fun _ => true) hd fuel T [v] = some x) : ∃ l : List α, SlIs E sz W v l := by
  rcases Go.Deep.open_slice hT h with ⟨h0, _⟩ | ⟨ad, len, cap, m, n, D, Pl, hv, _, hl, hm, hmm, _, hx⟩
  · simp at h0
    subst h0
    exact ⟨[], slIs_nil _ _ _ _ _⟩
  · simp at hv
    subst hv
    obtain ⟨b, off, spot⟩ := ad
    rcases Nat.eq_zero_or_pos len with rfl | hpos
    · exact ⟨[], slIs_nil _ _ _ _ _⟩
    · have hspot : spot = none := by
        obtain ⟨cs0, h10, _⟩ := hx 0 (by rw [hmm]; split <;> omega)
        rw [hc] at h10
        obtain ⟨_, hlen0, hcell0⟩ := World.cells?_some h10
        have q := hcell0 0 (by omega)
        rw [List.getElem?_eq_getElem (by omega)] at q
        have := World.cell?_spot q
        simpa [Addr.add] using this
      subst hspot
      have hadd : ∀ t : Nat, (⟨b, off, none⟩ : Addr).add t = ⟨b, off + t, none⟩ := fun t => by unfold Addr.add; split <;> simp_all
      obtain ⟨r, hrl, hr⟩ := list_of (Q := fun i (x : α) => ∃ cs : List Value, cs.length = sz ∧ E W x cs ∧ ∀ (j : Nat) (u : Value), cs[j]? = some u → W.cell? ⟨b, off + i * sz + j, none⟩ = some u) len fun i hi => by
        have him : i < m := by rw [hmm]; split <;> omega
        obtain ⟨cs', h1, h2⟩ := hx i him
        rw [hc] at h1
        obtain ⟨_, hlen, hcell⟩ := World.cells?_some h1
        obtain ⟨x, hx⟩ := hE _ _ _ hlen h2
        refine ⟨x, cs', hlen, hx, fun j u hu => ?_⟩
        have hj := (List.getElem?_eq_some_iff.1 hu).1
        have q := hcell j (by omega)
        rw [Go.Deep.add_add, hadd, hu] at q
        rw [← q, Nat.add_assoc]
      have hb : b < W.heap.size := by
        obtain ⟨x0, hx0⟩ : ∃ x0, r[0]? = some x0 := ⟨r[0]'(by omega), List.getElem?_eq_getElem _⟩
        obtain ⟨cs, hl0, _, hc0⟩ := hr 0 x0 hx0
        exact World.block_lt_of_cell? W _ (hc0 0 (cs[0]'(by omega)) (List.getElem?_eq_getElem _))
      exact ⟨r, _, cap, by rw [hrl], by omega, fun _ => ⟨b, off, rfl, hb, fun i x hi => hr i x hi⟩⟩
variable {H : Type} {enc : TypeId × Value → H} {W : World} {base : Nat} {hd : Bool}
theorem c_int : Tryz.prog.cellsOf 3 = 1 := by kernel_rfl
theorem c_bool : Tryz.prog.cellsOf 4 = 1 := by kernel_rfl
theorem c_str : Tryz.prog.cellsOf 9 = 1 := by kernel_rfl
theorem c_ints : Tryz.prog.cellsOf 24 = 1 := by kernel_rfl
theorem c_cols : Tryz.prog.cellsOf 23 = 1 := by kernel_rfl
theorem c_pjs : Tryz.prog.cellsOf 39 = 1 := by kernel_rfl
theorem c_pj : Tryz.prog.cellsOf 26 = 3 := by kernel_rfl
theorem int_read {k : Nat} {cs : List Value} {y : DataW H × List MemPlace} (h : DataW.trod enc Tryz.prog W base (fun _ => true) hd k 3 cs = some y) : ∃ x : BitVec 64, cs = [.int .i64 x.toInt] := by
  obtain ⟨m, e, _, hw⟩ := DataW.trod_int Tryz.underlying3 h
  obtain ⟨x, rfl⟩ := Wd.word_of m hw
  exact ⟨x, e⟩
theorem str_read {k : Nat} {cs : List Value} {y : DataW H × List MemPlace} (h : DataW.trod enc Tryz.prog W base (fun _ => true) hd k 9 cs = some y) : ∃ s : ByteArray, cs = [.string s] := by
  obtain ⟨s, e, _⟩ := DataW.trod_string Tryz.underlying9 h
  exact ⟨s, e⟩
theorem ints_read {k : Nat} {v : Value} {y : DataW H × List MemPlace} (h : DataW.trod enc Tryz.prog W base (fun _ => true) hd k 24 [v] = some y) : ∃ l, IntsIs W v l :=
  slice_of (by decide) Tryz.underlying24 c_int (fun k cs y _ h => int_read h) h
set_option maxRecDepth 100000 in
theorem col_read {k : Nat} {cs : List Value} {y : DataW H × List MemPlace} (hl : cs.length = 3) (h : DataW.trod enc Tryz.prog W base (fun _ => true) hd k 53 cs = some y) : ∃ x : Col, ColE W x cs := by
  obtain ⟨xs, n, _, _, _, hxl, hf⟩ := DataW.trod_struct Tryz.underlying53 h
  have hx3 : xs.length = 3 := hxl
  have p0 := hf 0 _ rfl
  have p1 := hf 1 _ rfl
  have p2 := hf 2 _ rfl
  match xs, hx3, cs, hl with
  | [y0, y1, y2], _, [v0, v1, v2], _ =>
    obtain ⟨s, e0⟩ := str_read p0
    obtain ⟨m, e1⟩ := int_read p1
    obtain ⟨z, e2, _⟩ := DataW.trod_bool Tryz.underlying4 p2
    simp [c_str, c_int, c_bool] at e0 e1 e2
    subst e0 e1 e2
    exact ⟨⟨s, m, z⟩, rfl⟩
theorem cols_read {k : Nat} {v : Value} {y : DataW H × List MemPlace} (h : DataW.trod enc Tryz.prog W base (fun _ => true) hd k 23 [v] = some y) : ∃ l, ColsIs W v l :=
  slice_of (by decide) Tryz.underlying23 (by kernel_rfl) (fun k cs y hl h => col_read hl h) h
set_option maxRecDepth 100000 in
theorem pj_read {k : Nat} {cs : List Value} {y : DataW H × List MemPlace} (hl : cs.length = 3) (h : DataW.trod enc Tryz.prog W base (fun _ => true) hd k 26 cs = some y) : ∃ x : Pj, PjE W x cs := by
  obtain ⟨xs, n, _, _, _, hxl, hf⟩ := DataW.trod_struct Tryz.underlying26 h
  have hx3 : xs.length = 3 := hxl
  have p0 := hf 0 _ rfl
  have p1 := hf 1 _ rfl
  have p2 := hf 2 _ rfl
  match xs, hx3, cs, hl with
  | [y0, y1, y2], _, [v0, v1, v2], _ =>
    obtain ⟨s, e0⟩ := str_read p0
    obtain ⟨l, hI⟩ := ints_read (v := v1) (by simpa [c_ints] using p1)
    obtain ⟨z, e2⟩ := int_read p2
    simp [c_str, c_int] at e0 e2
    subst e0 e2
    exact ⟨⟨s, l, z⟩, _, rfl, hI⟩
theorem pjs_read {k : Nat} {v : Value} {y : DataW H × List MemPlace} (h : DataW.trod enc Tryz.prog W base (fun _ => true) hd k 39 [v] = some y) : ∃ l, PjsIs W v l :=
  slice_of (by decide) Tryz.underlying39 c_pj (fun k cs y hl h => pj_read hl h) h
set_option maxRecDepth 100000 in
theorem tb_read {k : Nat} {cs : List Value} {y : DataW H × List MemPlace} (hl : cs.length = 3) (h : DataW.trod enc Tryz.prog W base (fun _ => true) hd k 41 cs = some y) : ∃ x : Tb, TbE W x cs := by
  obtain ⟨xs, n, _, _, _, hxl, hf⟩ := DataW.trod_struct Tryz.underlying41 h
  have hx3 : xs.length = 3 := hxl
  have p0 := hf 0 _ rfl
  have p1 := hf 1 _ rfl
  have p2 := hf 2 _ rfl
  match xs, hx3, cs, hl with
  | [y0, y1, y2], _, [v0, v1, v2], _ =>
    obtain ⟨s, e0⟩ := str_read p0
    obtain ⟨l, hC⟩ := cols_read (v := v1) (by simpa [c_cols] using p1)
    obtain ⟨m, hP⟩ := pjs_read (v := v2) (by simpa [c_pjs] using p2)
    simp [c_str] at e0
    subst e0
    exact ⟨⟨s, l, m⟩, _, _, rfl, hC, hP⟩
/-- Tables that came in. -/
theorem tabs_read {k : Nat} {v : Value} {y : DataW H × List MemPlace} (h : DataW.trod enc Tryz.prog W base (fun _ => true) hd k 22 [v] = some y) : ∃ l, TabsIs W v l :=
  slice_of (by decide) Tryz.underlying22 (by kernel_rfl) (fun k cs y hl h => tb_read hl h) h
set_option maxRecDepth 100000 in
/-- A projection that came in. -/
theorem pj_of {b0 : Nat} {r : Reach} {v : Value} {d : DataW H} {p : List MemPlace}
    (hv : Value.okWide Tryz.prog W r b0 26 v) (h : DataW.Trod enc Tryz.prog W base (fun _ => true) hd 26 v d p) : ∃ (v0 v1 v2 : Value) (x : Pj), v = .agg #[v0, v1, v2] ∧ PjE W x [v0, v1, v2] := by
  obtain ⟨cs, rfl, hsz⟩ := Go.WideShapes.okWide_struct Tryz.underlying26 hv
  obtain ⟨v0, v1, v2, rfl⟩ := Go.Joins.array3 (hsz.trans c_pj)
  obtain ⟨fuel, hf⟩ := h
  obtain ⟨x, hx⟩ := pj_read (cs := [v0, v1, v2]) rfl (by simpa [Value.cells] using hf)
  exact ⟨v0, v1, v2, x, rfl, hx⟩

/-- What is done to tables. -/
structure Chg where
  kind : BitVec 64
  name : ByteArray
  which : ByteArray
  cols : List Col
  pj : Pj
def ChE (w : World) (c : Chg) (cs : List Value) : Prop := ∃ vc vi, cs = [.int .i64 c.kind.toInt, .string c.name, .string c.which, vc, .string c.pj.name, vi, .int .i64 c.pj.keys.toInt] ∧ ColsIs w vc c.cols ∧ IntsIs w vi c.pj.cols
abbrev ChgsIs (w : World) (v : Value) (l : List Chg) : Prop := SlIs ChE 7 w v l
theorem stays_ch : Stays ChE := fun _ _ _ _ ⟨vc, vi, e, h1, h2⟩ k => ⟨vc, vi, e, h1.over stays_col k, h2.over stays_int k⟩
set_option maxRecDepth 100000 in
theorem ch_read {k : Nat} {cs : List Value} {y : DataW H × List MemPlace} (hl : cs.length = 7) (h : DataW.trod enc Tryz.prog W base (fun _ => true) hd k 28 cs = some y) : ∃ x : Chg, ChE W x cs := by
  obtain ⟨xs, n, _, _, _, hxl, hf⟩ := DataW.trod_struct Tryz.underlying28 h
  have hx5 : xs.length = 5 := hxl
  have p0 := hf 0 _ rfl
  have p1 := hf 1 _ rfl
  have p2 := hf 2 _ rfl
  have p3 := hf 3 _ rfl
  have p4 := hf 4 _ rfl
  match xs, hx5, cs, hl with
  | [y0, y1, y2, y3, y4], _, [v0, v1, v2, v3, v4, v5, v6], _ =>
    obtain ⟨m, e0⟩ := int_read p0
    obtain ⟨s, e1⟩ := str_read p1
    obtain ⟨s2, e2⟩ := str_read p2
    obtain ⟨l, hC⟩ := cols_read (v := v3) (by simpa [c_cols] using p3)
    obtain ⟨q, vi, e4, hI⟩ := pj_read (cs := [v4, v5, v6]) rfl (by simpa [c_pj] using p4)
    simp [c_str, c_int] at e0 e1 e2
    simp only [List.cons.injEq, and_true] at e4
    obtain ⟨rfl, rfl, rfl⟩ := e4
    subst e0 e1 e2
    exact ⟨⟨m, s, s2, l, q⟩, _, _, rfl, hC, hI⟩
/-- Changes that came in. -/
theorem chgs_read {k : Nat} {v : Value} {y : DataW H × List MemPlace} (h : DataW.trod enc Tryz.prog W base (fun _ => true) hd k 38 [v] = some y) : ∃ l, ChgsIs W v l :=
  slice_of (by decide) Tryz.underlying38 (by kernel_rfl) (fun k cs y hl h => ch_read hl h) h
set_option maxRecDepth 100000 in
/-- A change that came in. -/
theorem ch_of {b0 : Nat} {r : Reach} {v : Value} {d : DataW H} {p : List MemPlace}
    (hv : Value.okWide Tryz.prog W r b0 28 v) (h : DataW.Trod enc Tryz.prog W base (fun _ => true) hd 28 v d p) : ∃ (cs : Array Value) (x : Chg), v = .agg cs ∧ ChE W x cs.toList := by
  obtain ⟨cs, rfl, hsz⟩ := Go.WideShapes.okWide_struct Tryz.underlying28 hv
  have h7 : Tryz.prog.cellsOf 28 = 7 := by kernel_rfl
  obtain ⟨fuel, hf⟩ := h
  obtain ⟨x, hx⟩ := ch_read (cs := cs.toList) (by rw [Array.length_toList]; exact hsz.trans h7) (by simpa [Value.cells] using hf)
  exact ⟨cs, x, rfl, hx⟩
end Go.Proofs.YtdjobjbkpagnaaaGreat
/-
  The walk of law 25's SchemaFinds: which of any tables, and columns, has a name; whether any projection has all columns.
-/
namespace Go.Proofs.YtdjobjbkpagnaaaGreat
open Go.RowKit Go.Shelf

set_option maxRecDepth 4000 in
set_option maxHeartbeats 4000000 in
theorem walkSchemaFinds {w : World} (a : Option Addr) (len cap : Nat) (h0 : ∃ l, TabsIs w (.slice a len cap) l) (nm : ByteArray) (_ : nm.size ≤ maxLen) (v0 v1 v2 : Value) (p : Pj) (hp : PjE w p [v0, v1, v2]) :
    Calls Tryz.prog 6 #[.slice a len cap, .string nm, .agg #[v0, v1, v2]] w fun e w' => e = .returned (.bool true) ∧ Below w.heap.size w w' := by
  obtain ⟨l, h0⟩ := h0
  have HA : Hid (∀ W, Calls Tryz.prog 9 #[] W fun e w' => e = .returned (.bool true) ∧ Below W.heap.size W w') := awake_any
  have hlen : Hid (l.length = len) := by obtain ⟨_, _, _, e, hn, _⟩ := h0.slice; cases e; exact hn
  obtain ⟨rfl, aI, nI, capI, rfl, rfl⟩ := pj_cells hp
  have hnI : Hid (p.cols.length = nI) := by obtain ⟨_, e, hI⟩ := hp; simp only [List.cons.injEq, true_and, and_true] at e; subst e; obtain ⟨_, _, _, e, hn, _⟩ := hI.slice; cases e; exact hn
  obtain ⟨W0, hW0⟩ : ∃ W0, W0 = w.alloc (.cells #[.string p.name, .slice aI nI capI, .int .i64 p.keys.toInt] 26) := ⟨_, rfl⟩
  have b0 : Below w.heap.size w W0 := by rw [hW0]; exact below1 _ _
  have B0 : Box W0 w.heap.size 26 #[.string p.name, .slice aI nI capI, .int .i64 p.keys.toInt] := by rw [hW0]; exact box_new _ _ _
  obtain ⟨Bq, hBq⟩ : ∃ Bq, Bq = w.heap.size := ⟨_, rfl⟩
  rw [← hBq] at B0
  have HR : Hid (Bq = w.heap.size) := hBq
  have HH : Hid (TabsIs w (.slice a len cap) l ∧ PjE w p [.string p.name, .slice aI nI capI, .int .i64 p.keys.toInt] ∧ Below w.heap.size w W0 ∧ Box W0 Bq 26 #[.string p.name, .slice aI nI capI, .int .i64 p.keys.toInt]) := ⟨h0, hp, b0, B0⟩
  have HW0 : Hid (W0 = w.alloc (.cells #[.string p.name, .slice aI nI capI, .int .i64 p.keys.toInt] 26)) := hW0
  have cl := refLight_any (h0.over stays_tb b0)
  clear h0 hp b0 B0 hW0 hBq
  go_enter Tryz.func6, Tryz.ntmps6
  go_wp2_with fail
  rw [← HW0.out]
  refine Calls.mono cl ?_
  rintro e w1 ⟨⟨q, rfl, hq⟩, hb1⟩
  have HB1 : Hid (Below w.heap.size w w1 ∧ Box w1 Bq 26 #[.string p.name, .slice aI nI capI, .int .i64 p.keys.toInt]) := ⟨HH.out.2.2.1.trans (hb1.mono HH.out.2.2.1.size), HH.out.2.2.2.over hb1⟩
  clear cl hb1
  have f1 := HB1.out.2.cell 1 _ rfl
  rw [← HR.out]
  cases q with
  | false =>
    clear hq
    go_wp2_with fail
    refine Calls.mono (HA.out _) ?_
    rintro e w2 ⟨rfl, hb2⟩
    have HB2 : Hid (Below w.heap.size w w2) := HB1.out.1.trans (hb2.mono HB1.out.1.size)
    clear hb2 f1
    go_wp2_with fail
    go_ret
    exact ⟨rfl, HB2.out⟩
  | true =>
    have HS : Hid (smL l) := hq rfl
    clear hq
    by_cases hn : 40 < (nm.size : Int)
    · go_wp2_with fail
      refine Calls.mono (HA.out _) ?_
      rintro e w2 ⟨rfl, hb2⟩
      have HB2 : Hid (Below w.heap.size w w2) := HB1.out.1.trans (hb2.mono HB1.out.1.size)
      clear hb2 f1
      go_wp2_with fail
      go_ret
      exact ⟨rfl, HB2.out⟩
    · by_cases hc : 12 < (nI : Int)
      · go_wp2_with fail
        refine Calls.mono (HA.out _) ?_
        rintro e w2 ⟨rfl, hb2⟩
        have HB2 : Hid (Below w.heap.size w w2) := HB1.out.1.trans (hb2.mono HB1.out.1.size)
        clear hb2 f1
        go_wp2_with fail
        go_ret
        exact ⟨rfl, HB2.out⟩
      · have c1 := find_any (HH.out.1.over stays_tb HB1.out.1) (by have := HS.out.1; omega) nm
        obtain ⟨z, hz⟩ : ∃ z, z = findT l nm := ⟨_, rfl⟩
        have HZ : Hid (findT l nm = z) := hz.symm
        have hzz : (z != z) = false := by simp
        rw [← hz] at c1
        clear hz
        go_wp2_with fail
        refine Calls.mono c1 ?_
        rintro e w2 ⟨rfl, hb2⟩
        have HB2 : Hid (Below w.heap.size w w2 ∧ Box w2 Bq 26 #[.string p.name, .slice aI nI capI, .int .i64 p.keys.toInt]) := ⟨HB1.out.1.trans (hb2.mono HB1.out.1.size), HB1.out.2.over hb2⟩
        have c2 := refFind_any (HH.out.1.over stays_tb HB2.out.1) (by have := HS.out.1; omega) nm
        rw [HZ.out] at c2
        clear c1 hb2 f1
        go_wp2_with fail
        refine Calls.mono c2 ?_
        rintro e w3 ⟨rfl, hw⟩
        replace hw := hw.symm
        subst hw
        clear c2
        go_wp2_with fail
        go_loopg [7] len (fun gg s7 wx => ∃ i : Nat, i + gg = len ∧ s7 = .int .i64 i ∧ Hid (Below w.heap.size w wx ∧ Box wx Bq 26 #[.string p.name, .slice aI nI capI, .int .i64 p.keys.toInt]))
        case atStart => exact ⟨0, by omega, rfl, HB2⟩
        case round =>
          clear HB1 HB2
          obtain ⟨i, hig, rfl, HB⟩ := hrel
          have hlI : (len : Int) ≤ 10 := by have := HS.out.1; rw [hlen.out] at this; omega
          by_cases hi : i < len
          · have hiI : (i : Int) < (len : Int) := by omega
            have hr2 : IntKind.i64.wrap ((i : Int) + 1) = (i : Int) + 1 := by rw [IntKind.wrap_i64]; omega
            obtain ⟨x, e0, e1, e2, b, off, hx, rfl, hE, g0, g1, g2⟩ := at3T (HH.out.1.over stays_tb HB.out.1) hi
            have hsm := HS.out.2 x (List.mem_of_getElem? hx)
            have hpE := stays_pj _ _ _ _ HH.out.2.1 HB.out.1
            have d1 := fun (k : Above wr) => column_any (stays_tb _ _ _ _ hE k.is) (by have := hsm.2.1; omega) nm
            have d2 := fun (k : Above wr) => refColumn_any (stays_tb _ _ _ _ hE k.is) (by have := hsm.2.1; omega) nm
            have d3 := fun (k : Above wr) => super_any (stays_tb _ _ _ _ hE k.is) (stays_pj _ _ _ _ hpE k.is) (by have := hsm.2.1; omega) (by rw [hnI.out]; omega)
            have d4 := fun (k : Above wr) => refSuper_any (stays_tb _ _ _ _ hE k.is) (stays_pj _ _ _ _ hpE k.is) (by have := hsm.2.1; omega) (by rw [hnI.out]; omega)
            obtain ⟨y, hy⟩ : ∃ y, y = findC x.cols nm := ⟨_, rfl⟩
            obtain ⟨s, hs⟩ : ∃ s, s = superB x.cols.length p.cols := ⟨_, rfl⟩
            have hyy : (y != y) = false := by simp
            have hss : (s != s) = false := by simp
            rw [← hy] at d1 d2
            rw [← hs] at d3 d4
            have k0 := fun (k : Above wr) => above_cell g0 k
            have k1 := fun (k : Above wr) => above_cell g1 k
            have k2 := fun (k : Above wr) => above_cell g2 k
            have k3 := fun (k : Above wr) => above_cell (HB.out.2.cell 0 (.string p.name) rfl) k
            have k4 := fun (k : Above wr) => above_cell (HB.out.2.cell 1 (.slice aI nI capI) rfl) k
            have k5 := fun (k : Above wr) => above_cell (HB.out.2.cell 2 (.int .i64 p.keys.toInt) rfl) k
            obtain ⟨rfl, aC, nC, capC, aP, nP, capP, rfl, rfl, _⟩ := tb_cells hE
            clear hx hE hsm hpE g0 g1 g2 hy hs
            go_wp2_with fail
            refine wp_region_above (by kernel_rfl) (by kernel_rfl) ?_
            intro hne
            repeat (go_big_quiet_step (fail))
            repeat (go_big_quiet_step (first | (go_at_call 21; exact above_of (d1 _)) | (go_at_call 22; exact above_of (d2 _)) | (go_at_call 14; exact above_of (d3 _)) | (go_at_call 23; exact above_of (d4 _))))
            refine wpQuiet_nil ?_
            rintro _ ⟨kq, rfl⟩
            have HQ : Hid (Below w.heap.size w kq.it ∧ Box kq.it Bq 26 #[.string p.name, .slice aI nI capI, .int .i64 p.keys.toInt]) := ⟨HB.out.1.trans (kq.is.mono HB.out.1.size), HB.out.2.over kq.is⟩
            clear d1 d2 d3 d4 k0 k1 k2 k3 k4 k5 hne
            go_wp2_with fail
            go_roundg (len - (i + 1))
            case measure => clear hr2; omega
            case rel => exact ⟨i + 1, by clear hr2; omega, by go_num, HQ⟩
          · have hiI : ¬ (i : Int) < (len : Int) := by omega
            go_wp2_with fail
            refine Calls.mono (HA.out _) ?_
            rintro e w4 ⟨rfl, hb4⟩
            have HB4 : Hid (Below w.heap.size w w4) := HB.out.1.trans (hb4.mono HB.out.1.size)
            clear hb4
            go_wp2_with fail
            go_ret
            exact ⟨rfl, HB4.out⟩
end Go.Proofs.YtdjobjbkpagnaaaGreat
