/-
  11 texts, one behind the other: XDo2, XDo3, VRefPut, VPutAll, VRefPutAll, XEnc, XPars, VTakeAll, XTakeP, XTake, XTake2.
-/
import Derived.Test.YtdjobjbkpagnaaaGreatJoin4
import Derived.Test.YtdjobjbkpagnaaaGreatJoin1
import Derived.Test.YtdjobjbkpagnaaaGreatJoin2
/-
  The contracts of schema's Add and Remove.
-/
namespace Go.Proofs.YtdjobjbkpagnaaaGreat
open Go.RowKit Go.Shelf

theorem litL_set {l : List Tb} (h : litL l) (k : Nat) {t : Tb} (ht : litT t) : litL (l.set k t) := by
  refine ⟨by simpa using h.1, fun x hx => ?_⟩
  rcases List.mem_or_eq_of_mem_set hx with hx | rfl
  · exact h.2 x hx
  · exact ht
theorem litT_more {t : Tb} {p : Pj} (h : litT t) (hp : litP p) (hl : t.projs.length ≤ 999) : litT ⟨t.name, t.cols, t.projs ++ [p]⟩ := by
  refine ⟨h.1, h.2.1, by simp; omega, h.2.2.2.1, fun x hx => ?_⟩
  rcases List.mem_append.1 hx with hx | hx
  · exact h.2.2.2.2 x hx
  · simp at hx; rw [hx]; exact hp
theorem litT_less {t : Tb} (h : litT t) (k : Nat) : litT ⟨t.name, t.cols, t.projs.take k ++ t.projs.drop (k + 1)⟩ := by
  refine ⟨h.1, h.2.1, by have := h.2.2.1; simp; omega, h.2.2.2.1, fun x hx => h.2.2.2.2 x ?_⟩
  rcases List.mem_append.1 hx with hx | hx
  · exact List.mem_of_mem_take hx
  · exact List.mem_of_mem_drop hx
theorem tb_few {l : List Tb} {k : Nat} {t : Tb} (h : tabsB l = true) (ht : l[k]? = some t) : tbB t = true := by
  unfold tabsB at h
  simp only [Bool.and_eq_true] at h
  exact List.all_eq_true.1 h.1.2 t (List.mem_of_getElem? ht)
theorem tb_six {t : Tb} (h : tbB t = true) : t.projs.length ≤ 6 := by
  unfold tbB at h
  simp only [Bool.and_eq_true, decide_eq_true_eq] at h
  exact h.1.1.1.2
/-- A table in a variable of its own. -/
structure Tv (w W : World) (B : Nat) (t : Tb) (c0 c1 c2 : Value) : Prop where
  bel : Below w.heap.size w W
  box : Box W B 41 #[c0, c1, c2]
  tb : TbE W t [c0, c1, c2]
  up : w.heap.size ≤ B
theorem Tv.over {w W W' : World} {B : Nat} {t : Tb} {c0 c1 c2 : Value} (h : Tv w W B t c0 c1 c2) (b : Below W.heap.size W W') : Tv w W' B t c0 c1 c2 :=
  ⟨h.bel.trans (b.mono h.bel.size), h.box.over b, stays_tb _ _ _ _ h.tb b, h.up⟩
theorem slIs_const {α : Type} {E : World → α → List Value → Prop} {sz : Nat} {w W : World} {v : Value} {l : List α} (h : SlIs E sz w v l) (k : Below w.heap.size w W) : SlIs (fun _ x cs => E w x cs) sz W v l := by
  obtain ⟨a, cap, rfl, hcap, h⟩ := h
  refine ⟨a, cap, rfl, hcap, fun hl => ?_⟩
  obtain ⟨b, off, rfl, hb, hc⟩ := h hl
  refine ⟨b, off, rfl, Nat.lt_of_lt_of_le hb k.size, fun i x hi => ?_⟩
  obtain ⟨cs, h1, h2, h3⟩ := hc i x hi
  exact ⟨cs, h1, h2, fun j u hu => (k.cell (p := ⟨b, off + i * sz + j, none⟩) hb).trans (h3 j u hu)⟩
/-- Its projections are others, made since. -/
theorem Tv.turn {w W W' : World} {B : Nat} {t : Tb} {c0 c1 c2 v : Value} {ps : List Pj} {R : List (List Value)} (h : Tv w W B t c0 c1 c2) (b : Below W.heap.size W W') (hs : SRows W' v 26 3 R) (hE : RowsE (fun _ x cs => PjE w x cs) W ps R) (ho : ∀ x, v.ownBlock = some x → W.heap.size ≤ x) (hc : ColsIs w c1 t.cols) :
    Tv w (W'.setCell ⟨B, 2, none⟩ v) B ⟨t.name, t.cols, ps⟩ c0 c1 v := by
  have h1 := h.over b
  have hb : Below w.heap.size w (W'.setCell ⟨B, 2, none⟩ v) := h1.bel.setCell (p := ⟨B, 2, none⟩) h1.up _
  have hlt := h.box.lt
  have hs2 : SRows (W'.setCell ⟨B, 2, none⟩ v) v 26 3 R := hs.of_block fun g hg => heap_setCell_other _ _ _ _ (by have := ho g hg; simp only; omega)
  have hE0 : RowsE PjE w ps R := ⟨hE.1, fun i x r hx hr => hE.2 i x r hx hr⟩
  obtain ⟨vc, vp, e, _, _⟩ := h.tb
  simp only [List.cons.injEq, and_true] at e
  obtain ⟨rfl, rfl, rfl⟩ := e
  exact ⟨hb, h1.box.set 2 v, ⟨_, _, rfl, hc.over stays_col hb, slIs_of_srows hs2 (rowsE_over stays_pj hE0 hb)⟩, h.up⟩
set_option maxRecDepth 4000 in
set_option maxHeartbeats 4000000 in
theorem add_any {w : World} {v : Value} {l : List Tb} (h : TabsIs w v l) (hl : litL l) (n : ByteArray) {p : Pj} {d0 d1 d2 : Value} (hp : PjE w p [d0, d1, d2]) (hlp : litP p) :
    Calls Tryz.prog 26 #[v, .string n, .agg #[d0, d1, d2]] w (XAns w (addF l n p)) := by
  obtain ⟨a, m, cap, rfl, hm, _⟩ := h.slice
  have HCK : Hid (∀ W, Below w.heap.size w W → Calls Tryz.prog 12 #[.slice a m cap] W fun e w' => e = .returned (.int .i64 (errT (tabsB l))) ∧ Below W.heap.size W w') := fun W hW => check_any (h.over stays_tb hW) hl
  have HF : Hid (∀ W, Below w.heap.size w W → Calls Tryz.prog 15 #[.slice a m cap, .string n] W fun e w' => e = .returned (.int .i64 (findT l n)) ∧ Below W.heap.size W w') := fun W hW => find_any (h.over stays_tb hW) (by have := hl.1; omega) n
  have HH : Hid (TabsIs w (.slice a m cap) l ∧ litL l) := ⟨h, hl⟩
  have HM : Hid (l.length = m) := hm
  have hmI : (m : Int) ≤ 1000 := by have := hl.1; omega
  have HWZ : Hid (findT l n = -1 ∨ ∃ (k : Nat) (x : Tb), findT l n = k ∧ l[k]? = some x ∧ eqS x.name n = true) := idx_or (fun t : Tb => eqS t.name n) l
  obtain ⟨q1, hq1⟩ : ∃ q, q = tabsB l := ⟨_, rfl⟩
  have HTB : Hid (tabsB l = q1) := hq1.symm
  rw [← hq1] at HCK
  obtain ⟨rfl, aI, nI, capI, rfl, rfl⟩ := pj_cells hp
  obtain ⟨W0, hW0⟩ : ∃ W0, W0 = w.alloc (.cells #[.string p.name, .slice aI nI capI, .int .i64 p.keys.toInt] 26) := ⟨_, rfl⟩
  have HW0 : Hid (W0 = w.alloc (.cells #[.string p.name, .slice aI nI capI, .int .i64 p.keys.toInt] 26)) := hW0
  have HB0 : Hid (Below w.heap.size w W0) := by unfold Hid; rw [hW0]; exact below1 _ _
  have HP : Hid (Box W0 w.heap.size 26 #[.string p.name, .slice aI nI capI, .int .i64 p.keys.toInt] ∧ PjE w p [.string p.name, .slice aI nI capI, .int .i64 p.keys.toInt] ∧ litP p) := ⟨by rw [hW0]; exact box_new _ _ _, hp, hlp⟩
  clear h hl hm hp hlp hW0
  cases q1 with
  | false =>
    have HE : Hid (addF l n p = ([], 1)) := by unfold Hid addF; rw [HTB.out, if_pos rfl]
    unfold errT at HCK
    simp only [Bool.false_eq_true, if_false] at HCK
    clear hq1
    go_enter Tryz.func26, Tryz.ntmps26
    go_wp2_with fail
    rw [← HW0.out]
    refine (HCK.out _ HB0.out).mono ?_
    rintro e w1 ⟨rfl, hb1⟩
    have HB1 : Hid (Below W0.heap.size W0 w1) := hb1
    clear hb1
    go_wp2_with fail
    go_ret2
    rw [HE.out]
    exact xans_no (HB0.out.trans (HB1.out.mono HB0.out.size))
  | true =>
    unfold errT at HCK
    simp only [if_true] at HCK
    clear hq1
    rcases HWZ.out with hz | ⟨k, t, hz, ht, _⟩
    · have HE : Hid (addF l n p = ([], 3)) := by unfold Hid addF; rw [HTB.out, if_neg (by decide), hz]; cases l[(-1 : Int).toNat]? <;> rfl
      rw [hz] at HF
      clear hz HWZ
      go_enter Tryz.func26, Tryz.ntmps26
      go_wp2_with fail
      rw [← HW0.out]
      refine (HCK.out _ HB0.out).mono ?_
      rintro e w1 ⟨rfl, hb1⟩
      have HB1 : Hid (Below W0.heap.size W0 w1) := hb1
      clear hb1
      go_wp2_with fail
      refine (HF.out _ (HB0.out.trans (HB1.out.mono HB0.out.size))).mono ?_
      rintro e w2 ⟨rfl, hb2⟩
      have HB2 : Hid (Below W0.heap.size W0 w2) := HB1.out.trans (hb2.mono HB1.out.size)
      clear hb2
      go_wp2_with fail
      go_ret2
      rw [HE.out]
      exact xans_no (HB0.out.trans (HB2.out.mono HB0.out.size))
    · have HE0 : Hid (addF l n p = addAt l k t p) := by unfold Hid addF; rw [HTB.out, if_neg (by decide), hz, Int.toNat_natCast, ht]; simp only; rw [if_neg (by omega)]
      rw [hz] at HF
      have HK : Hid (k < m) := by unfold Hid; rw [← HM.out]; exact (List.getElem?_eq_some_iff.1 ht).1
      have HT : Hid (l[k]? = some t) := ht
      have hkI : (k : Int) < (m : Int) := by have := HK.out; omega
      have hk0 : ¬ (k : Int) < 0 := by omega
      clear hz HWZ ht
      obtain ⟨q2, HQ'⟩ : ∃ q, Hid (pjB t.cols.length p = q) := ⟨_, rfl⟩
      cases q2 with
      | false =>
        have HE : Hid (addF l n p = ([], 1)) := by unfold Hid; rw [HE0.out]; unfold addAt; rw [HQ'.out, if_pos rfl]
        go_enter Tryz.func26, Tryz.ntmps26
        go_wp2_with fail
        rw [← HW0.out]
        refine (HCK.out _ HB0.out).mono ?_
        rintro e w1 ⟨rfl, hb1⟩
        have HB1 : Hid (Below W0.heap.size W0 w1) := hb1
        clear hb1
        go_wp2_with fail
        refine (HF.out _ (HB0.out.trans (HB1.out.mono HB0.out.size))).mono ?_
        rintro e w2 ⟨rfl, hb2⟩
        have HB2 : Hid (Below W0.heap.size W0 w2) := HB1.out.trans (hb2.mono HB1.out.size)
        clear hb2
        obtain ⟨t', c0, c1, c2, b, off, ht', e', hE', m0, m1, m2⟩ := at3T HH.out.1 HK.out
        cases e'
        obtain rfl : t' = t := Option.some.inj (ht'.symm.trans HT.out)
        have hw2 : Below w.heap.size w w2 := HB0.out.trans (HB2.out.mono HB0.out.size)
        have n0 := (hw2.cell (p := ⟨b, off + k * 3, none⟩) (World.block_lt_of_cell? w _ m0)).trans m0
        have n1 := (hw2.cell (p := ⟨b, off + k * 3 + 1, none⟩) (World.block_lt_of_cell? w _ m1)).trans m1
        have n2 := (hw2.cell (p := ⟨b, off + k * 3 + 2, none⟩) (World.block_lt_of_cell? w _ m2)).trans m2
        have hone := one_three (one_tb hE')
        obtain ⟨rfl, aC, nC, capC, aP, nP, capP, rfl, rfl, hnC, hnP, hC, hP⟩ := tb_cells hE'
        have HTT : Hid (TbE w t' [.string t'.name, .slice aC nC capC, .slice aP nP capP] ∧ ColsIs w (.slice aC nC capC) t'.cols ∧ PjsIs w (.slice aP nP capP) t'.projs ∧ t'.projs.length = nP ∧ litT t') := ⟨hE', hC, hP, hnP, HH.out.2.2 t' (List.mem_of_getElem? ht')⟩
        have hnPI : (nP : Int) ≤ 1000 := by have := HTT.out.2.2.2.2.2.2.1; rw [hnP] at this; omega
        obtain ⟨B9, hB9⟩ : ∃ B9, B9 = w2.heap.size := ⟨_, rfl⟩
        obtain ⟨W3, hW3⟩ : ∃ W3, W3 = (w2.alloc (.cells #[.string ⟨#[]⟩, .slice none 0 0, .slice none 0 0] 41)).setRow w2.heap.size #[.string t'.name, .slice aC nC capC, .slice aP nP capP] := ⟨_, rfl⟩
        have b3 : Below w2.heap.size w2 W3 := by rw [hW3]; exact below_setRow (below1 w2 _) (Nat.le_refl _) _
        have B3 : Box W3 B9 41 #[.string t'.name, .slice aC nC capC, .slice aP nP capP] := by rw [hW3, hB9]; exact (box_new w2 _ _).setRow _
        have hb3 := hw2.trans (b3.mono hw2.size)
        have HW : Hid (W3 = (w2.alloc (.cells #[.string ⟨#[]⟩, .slice none 0 0, .slice none 0 0] 41)).setRow w2.heap.size #[.string t'.name, .slice aC nC capC, .slice aP nP capP] ∧ B9 = w2.heap.size) := ⟨hW3, hB9⟩
        have HV : Hid (Tv w W3 B9 t' (.string t'.name) (.slice aC nC capC) (.slice aP nP capP) ∧ Below W0.heap.size W0 W3) := ⟨⟨hb3, B3, stays_tb _ _ _ _ hE' hb3, by rw [hB9]; exact hw2.size⟩, HB2.out.trans (b3.mono HB2.out.size)⟩
        have HZ : Hid (∀ z, Box (w2.alloc (.cells z 41)) w2.heap.size 41 z) := fun z => box_new w2 z _
        clear ht' hE' m0 m1 m2 hw2 hnC hnP hC hP hB9 hW3 b3 B3 hb3
        go_wp2_with (refine wpList_store_row rfl 41 _ _ rfl w2.heap.size _ rfl rfl 41 _ (HZ.out _) size_tb rfl hone ?_; rw [← HW.out.1, ← HW.out.2]; clear n0 n1 n2; have t0 := HV.out.1.box.cell 0 _ rfl; have t1 := HV.out.1.box.cell 1 _ rfl; have t2 := HV.out.1.box.cell 2 _ rfl; have p0 := (HP.out.1.over HV.out.2).cell 0 _ rfl; have p1 := (HP.out.1.over HV.out.2).cell 1 _ rfl; have p2 := (HP.out.1.over HV.out.2).cell 2 _ rfl)
        have cm := mayOf_any HV.out.1.tb (stays_pj _ _ _ _ HP.out.2.1 HV.out.1.bel) (by have := HTT.out.2.2.2.2.2.1; omega) HP.out.2.2
        rw [HQ'.out] at cm
        refine cm.mono ?_
        rintro e w4 ⟨rfl, hb4⟩
        have HV4 : Hid (Tv w w4 B9 t' (.string t'.name) (.slice aC nC capC) (.slice aP nP capP) ∧ Below W0.heap.size W0 w4) := ⟨HV.out.1.over hb4, HV.out.2.trans (hb4.mono HV.out.2.size)⟩
        clear cm hb4 t0 t1 t2 p0 p1 p2
        go_wp2_with fail
        go_ret2
        rw [HE.out]
        exact xans_no HV4.out.1.bel
      | true =>
        obtain ⟨z2, HZ2⟩ : ∃ z, Hid (findP t.projs p.name = z) := ⟨_, rfl⟩
        by_cases hz2 : 0 ≤ z2
        · have HE : Hid (addF l n p = ([], 251)) := by unfold Hid; rw [HE0.out]; unfold addAt; rw [HQ'.out, if_neg (by decide), HZ2.out, if_pos hz2]
          go_enter Tryz.func26, Tryz.ntmps26
          go_wp2_with fail
          rw [← HW0.out]
          refine (HCK.out _ HB0.out).mono ?_
          rintro e w1 ⟨rfl, hb1⟩
          have HB1 : Hid (Below W0.heap.size W0 w1) := hb1
          clear hb1
          go_wp2_with fail
          refine (HF.out _ (HB0.out.trans (HB1.out.mono HB0.out.size))).mono ?_
          rintro e w2 ⟨rfl, hb2⟩
          have HB2 : Hid (Below W0.heap.size W0 w2) := HB1.out.trans (hb2.mono HB1.out.size)
          clear hb2
          obtain ⟨t', c0, c1, c2, b, off, ht', e', hE', m0, m1, m2⟩ := at3T HH.out.1 HK.out
          cases e'
          obtain rfl : t' = t := Option.some.inj (ht'.symm.trans HT.out)
          have hw2 : Below w.heap.size w w2 := HB0.out.trans (HB2.out.mono HB0.out.size)
          have n0 := (hw2.cell (p := ⟨b, off + k * 3, none⟩) (World.block_lt_of_cell? w _ m0)).trans m0
          have n1 := (hw2.cell (p := ⟨b, off + k * 3 + 1, none⟩) (World.block_lt_of_cell? w _ m1)).trans m1
          have n2 := (hw2.cell (p := ⟨b, off + k * 3 + 2, none⟩) (World.block_lt_of_cell? w _ m2)).trans m2
          have hone := one_three (one_tb hE')
          obtain ⟨rfl, aC, nC, capC, aP, nP, capP, rfl, rfl, hnC, hnP, hC, hP⟩ := tb_cells hE'
          have HTT : Hid (TbE w t' [.string t'.name, .slice aC nC capC, .slice aP nP capP] ∧ ColsIs w (.slice aC nC capC) t'.cols ∧ PjsIs w (.slice aP nP capP) t'.projs ∧ t'.projs.length = nP ∧ litT t') := ⟨hE', hC, hP, hnP, HH.out.2.2 t' (List.mem_of_getElem? ht')⟩
          have hnPI : (nP : Int) ≤ 1000 := by have := HTT.out.2.2.2.2.2.2.1; rw [hnP] at this; omega
          obtain ⟨B9, hB9⟩ : ∃ B9, B9 = w2.heap.size := ⟨_, rfl⟩
          obtain ⟨W3, hW3⟩ : ∃ W3, W3 = (w2.alloc (.cells #[.string ⟨#[]⟩, .slice none 0 0, .slice none 0 0] 41)).setRow w2.heap.size #[.string t'.name, .slice aC nC capC, .slice aP nP capP] := ⟨_, rfl⟩
          have b3 : Below w2.heap.size w2 W3 := by rw [hW3]; exact below_setRow (below1 w2 _) (Nat.le_refl _) _
          have B3 : Box W3 B9 41 #[.string t'.name, .slice aC nC capC, .slice aP nP capP] := by rw [hW3, hB9]; exact (box_new w2 _ _).setRow _
          have hb3 := hw2.trans (b3.mono hw2.size)
          have HW : Hid (W3 = (w2.alloc (.cells #[.string ⟨#[]⟩, .slice none 0 0, .slice none 0 0] 41)).setRow w2.heap.size #[.string t'.name, .slice aC nC capC, .slice aP nP capP] ∧ B9 = w2.heap.size) := ⟨hW3, hB9⟩
          have HV : Hid (Tv w W3 B9 t' (.string t'.name) (.slice aC nC capC) (.slice aP nP capP) ∧ Below W0.heap.size W0 W3) := ⟨⟨hb3, B3, stays_tb _ _ _ _ hE' hb3, by rw [hB9]; exact hw2.size⟩, HB2.out.trans (b3.mono HB2.out.size)⟩
          have HZ : Hid (∀ z, Box (w2.alloc (.cells z 41)) w2.heap.size 41 z) := fun z => box_new w2 z _
          clear ht' hE' m0 m1 m2 hw2 hnC hnP hC hP hB9 hW3 b3 B3 hb3
          go_wp2_with (refine wpList_store_row rfl 41 _ _ rfl w2.heap.size _ rfl rfl 41 _ (HZ.out _) size_tb rfl hone ?_; rw [← HW.out.1, ← HW.out.2]; clear n0 n1 n2; have t0 := HV.out.1.box.cell 0 _ rfl; have t1 := HV.out.1.box.cell 1 _ rfl; have t2 := HV.out.1.box.cell 2 _ rfl; have p0 := (HP.out.1.over HV.out.2).cell 0 _ rfl; have p1 := (HP.out.1.over HV.out.2).cell 1 _ rfl; have p2 := (HP.out.1.over HV.out.2).cell 2 _ rfl)
          have cm := mayOf_any HV.out.1.tb (stays_pj _ _ _ _ HP.out.2.1 HV.out.1.bel) (by have := HTT.out.2.2.2.2.2.1; omega) HP.out.2.2
          rw [HQ'.out] at cm
          refine cm.mono ?_
          rintro e w4 ⟨rfl, hb4⟩
          have HV4 : Hid (Tv w w4 B9 t' (.string t'.name) (.slice aC nC capC) (.slice aP nP capP) ∧ Below W0.heap.size W0 w4) := ⟨HV.out.1.over hb4, HV.out.2.trans (hb4.mono HV.out.2.size)⟩
          clear cm hb4 t0 t1 t2 p0 p1 p2
          have t0 := HV4.out.1.box.cell 0 _ rfl
          have t1 := HV4.out.1.box.cell 1 _ rfl
          have t2 := HV4.out.1.box.cell 2 _ rfl
          have p0 := (HP.out.1.over HV4.out.2).cell 0 _ rfl
          go_wp2_with fail
          have cw0 := which_any HV4.out.1.tb (by have := HTT.out.2.2.2.2.2.2.1; omega) p.name
          rw [HZ2.out] at cw0
          refine cw0.mono ?_
          rintro e w5 ⟨rfl, hb5⟩
          have HV5a : Hid (Tv w w5 B9 t' (.string t'.name) (.slice aC nC capC) (.slice aP nP capP) ∧ Below W0.heap.size W0 w5) := ⟨HV4.out.1.over hb5, HV4.out.2.trans (hb5.mono HV4.out.2.size)⟩
          clear cw0 hb5 t0 t1 t2 p0
          go_wp2_with fail
          go_ret2
          rw [HE.out]
          exact xans_no HV5a.out.1.bel
        · by_cases h6 : t.projs.length = 6
          · have HE : Hid (addF l n p = ([], 4)) := by unfold Hid; rw [HE0.out]; unfold addAt; rw [HQ'.out, if_neg (by decide), HZ2.out, if_neg hz2, if_pos h6]
            go_enter Tryz.func26, Tryz.ntmps26
            go_wp2_with fail
            rw [← HW0.out]
            refine (HCK.out _ HB0.out).mono ?_
            rintro e w1 ⟨rfl, hb1⟩
            have HB1 : Hid (Below W0.heap.size W0 w1) := hb1
            clear hb1
            go_wp2_with fail
            refine (HF.out _ (HB0.out.trans (HB1.out.mono HB0.out.size))).mono ?_
            rintro e w2 ⟨rfl, hb2⟩
            have HB2 : Hid (Below W0.heap.size W0 w2) := HB1.out.trans (hb2.mono HB1.out.size)
            clear hb2
            obtain ⟨t', c0, c1, c2, b, off, ht', e', hE', m0, m1, m2⟩ := at3T HH.out.1 HK.out
            cases e'
            obtain rfl : t' = t := Option.some.inj (ht'.symm.trans HT.out)
            have hw2 : Below w.heap.size w w2 := HB0.out.trans (HB2.out.mono HB0.out.size)
            have n0 := (hw2.cell (p := ⟨b, off + k * 3, none⟩) (World.block_lt_of_cell? w _ m0)).trans m0
            have n1 := (hw2.cell (p := ⟨b, off + k * 3 + 1, none⟩) (World.block_lt_of_cell? w _ m1)).trans m1
            have n2 := (hw2.cell (p := ⟨b, off + k * 3 + 2, none⟩) (World.block_lt_of_cell? w _ m2)).trans m2
            have hone := one_three (one_tb hE')
            obtain ⟨rfl, aC, nC, capC, aP, nP, capP, rfl, rfl, hnC, hnP, hC, hP⟩ := tb_cells hE'
            have HTT : Hid (TbE w t' [.string t'.name, .slice aC nC capC, .slice aP nP capP] ∧ ColsIs w (.slice aC nC capC) t'.cols ∧ PjsIs w (.slice aP nP capP) t'.projs ∧ t'.projs.length = nP ∧ litT t') := ⟨hE', hC, hP, hnP, HH.out.2.2 t' (List.mem_of_getElem? ht')⟩
            have hnPI : (nP : Int) ≤ 1000 := by have := HTT.out.2.2.2.2.2.2.1; rw [hnP] at this; omega
            obtain ⟨B9, hB9⟩ : ∃ B9, B9 = w2.heap.size := ⟨_, rfl⟩
            obtain ⟨W3, hW3⟩ : ∃ W3, W3 = (w2.alloc (.cells #[.string ⟨#[]⟩, .slice none 0 0, .slice none 0 0] 41)).setRow w2.heap.size #[.string t'.name, .slice aC nC capC, .slice aP nP capP] := ⟨_, rfl⟩
            have b3 : Below w2.heap.size w2 W3 := by rw [hW3]; exact below_setRow (below1 w2 _) (Nat.le_refl _) _
            have B3 : Box W3 B9 41 #[.string t'.name, .slice aC nC capC, .slice aP nP capP] := by rw [hW3, hB9]; exact (box_new w2 _ _).setRow _
            have hb3 := hw2.trans (b3.mono hw2.size)
            have HW : Hid (W3 = (w2.alloc (.cells #[.string ⟨#[]⟩, .slice none 0 0, .slice none 0 0] 41)).setRow w2.heap.size #[.string t'.name, .slice aC nC capC, .slice aP nP capP] ∧ B9 = w2.heap.size) := ⟨hW3, hB9⟩
            have HV : Hid (Tv w W3 B9 t' (.string t'.name) (.slice aC nC capC) (.slice aP nP capP) ∧ Below W0.heap.size W0 W3) := ⟨⟨hb3, B3, stays_tb _ _ _ _ hE' hb3, by rw [hB9]; exact hw2.size⟩, HB2.out.trans (b3.mono HB2.out.size)⟩
            have HZ : Hid (∀ z, Box (w2.alloc (.cells z 41)) w2.heap.size 41 z) := fun z => box_new w2 z _
            clear ht' hE' m0 m1 m2 hw2 hnC hnP hC hP hB9 hW3 b3 B3 hb3
            go_wp2_with (refine wpList_store_row rfl 41 _ _ rfl w2.heap.size _ rfl rfl 41 _ (HZ.out _) size_tb rfl hone ?_; rw [← HW.out.1, ← HW.out.2]; clear n0 n1 n2; have t0 := HV.out.1.box.cell 0 _ rfl; have t1 := HV.out.1.box.cell 1 _ rfl; have t2 := HV.out.1.box.cell 2 _ rfl; have p0 := (HP.out.1.over HV.out.2).cell 0 _ rfl; have p1 := (HP.out.1.over HV.out.2).cell 1 _ rfl; have p2 := (HP.out.1.over HV.out.2).cell 2 _ rfl)
            have cm := mayOf_any HV.out.1.tb (stays_pj _ _ _ _ HP.out.2.1 HV.out.1.bel) (by have := HTT.out.2.2.2.2.2.1; omega) HP.out.2.2
            rw [HQ'.out] at cm
            refine cm.mono ?_
            rintro e w4 ⟨rfl, hb4⟩
            have HV4 : Hid (Tv w w4 B9 t' (.string t'.name) (.slice aC nC capC) (.slice aP nP capP) ∧ Below W0.heap.size W0 w4) := ⟨HV.out.1.over hb4, HV.out.2.trans (hb4.mono HV.out.2.size)⟩
            clear cm hb4 t0 t1 t2 p0 p1 p2
            have t0 := HV4.out.1.box.cell 0 _ rfl
            have t1 := HV4.out.1.box.cell 1 _ rfl
            have t2 := HV4.out.1.box.cell 2 _ rfl
            have p0 := (HP.out.1.over HV4.out.2).cell 0 _ rfl
            go_wp2_with fail
            have cw0 := which_any HV4.out.1.tb (by have := HTT.out.2.2.2.2.2.2.1; omega) p.name
            rw [HZ2.out] at cw0
            refine cw0.mono ?_
            rintro e w5 ⟨rfl, hb5⟩
            have HV5a : Hid (Tv w w5 B9 t' (.string t'.name) (.slice aC nC capC) (.slice aP nP capP) ∧ Below W0.heap.size W0 w5) := ⟨HV4.out.1.over hb5, HV4.out.2.trans (hb5.mono HV4.out.2.size)⟩
            clear cw0 hb5 t0 t1 t2 p0
            have h6b : ((nP : Int) == 6) = true := by rw [HTT.out.2.2.2.1] at h6; simp; omega
            have t2 := HV5a.out.1.box.cell 2 _ rfl
            clear h6
            go_wp2_with fail
            go_ret2
            rw [HE.out]
            exact xans_no HV5a.out.1.bel
          · have HE : Hid (addF l n p = (l.set k ⟨t.name, t.cols, t.projs ++ [p]⟩, 0)) := by unfold Hid; rw [HE0.out]; unfold addAt; rw [HQ'.out, if_neg (by decide), HZ2.out, if_neg hz2, if_neg h6]
            go_enter Tryz.func26, Tryz.ntmps26
            go_wp2_with fail
            rw [← HW0.out]
            refine (HCK.out _ HB0.out).mono ?_
            rintro e w1 ⟨rfl, hb1⟩
            have HB1 : Hid (Below W0.heap.size W0 w1) := hb1
            clear hb1
            go_wp2_with fail
            refine (HF.out _ (HB0.out.trans (HB1.out.mono HB0.out.size))).mono ?_
            rintro e w2 ⟨rfl, hb2⟩
            have HB2 : Hid (Below W0.heap.size W0 w2) := HB1.out.trans (hb2.mono HB1.out.size)
            clear hb2
            obtain ⟨t', c0, c1, c2, b, off, ht', e', hE', m0, m1, m2⟩ := at3T HH.out.1 HK.out
            cases e'
            obtain rfl : t' = t := Option.some.inj (ht'.symm.trans HT.out)
            have hw2 : Below w.heap.size w w2 := HB0.out.trans (HB2.out.mono HB0.out.size)
            have n0 := (hw2.cell (p := ⟨b, off + k * 3, none⟩) (World.block_lt_of_cell? w _ m0)).trans m0
            have n1 := (hw2.cell (p := ⟨b, off + k * 3 + 1, none⟩) (World.block_lt_of_cell? w _ m1)).trans m1
            have n2 := (hw2.cell (p := ⟨b, off + k * 3 + 2, none⟩) (World.block_lt_of_cell? w _ m2)).trans m2
            have hone := one_three (one_tb hE')
            obtain ⟨rfl, aC, nC, capC, aP, nP, capP, rfl, rfl, hnC, hnP, hC, hP⟩ := tb_cells hE'
            have HTT : Hid (TbE w t' [.string t'.name, .slice aC nC capC, .slice aP nP capP] ∧ ColsIs w (.slice aC nC capC) t'.cols ∧ PjsIs w (.slice aP nP capP) t'.projs ∧ t'.projs.length = nP ∧ litT t') := ⟨hE', hC, hP, hnP, HH.out.2.2 t' (List.mem_of_getElem? ht')⟩
            have hnPI : (nP : Int) ≤ 1000 := by have := HTT.out.2.2.2.2.2.2.1; rw [hnP] at this; omega
            obtain ⟨B9, hB9⟩ : ∃ B9, B9 = w2.heap.size := ⟨_, rfl⟩
            obtain ⟨W3, hW3⟩ : ∃ W3, W3 = (w2.alloc (.cells #[.string ⟨#[]⟩, .slice none 0 0, .slice none 0 0] 41)).setRow w2.heap.size #[.string t'.name, .slice aC nC capC, .slice aP nP capP] := ⟨_, rfl⟩
            have b3 : Below w2.heap.size w2 W3 := by rw [hW3]; exact below_setRow (below1 w2 _) (Nat.le_refl _) _
            have B3 : Box W3 B9 41 #[.string t'.name, .slice aC nC capC, .slice aP nP capP] := by rw [hW3, hB9]; exact (box_new w2 _ _).setRow _
            have hb3 := hw2.trans (b3.mono hw2.size)
            have HW : Hid (W3 = (w2.alloc (.cells #[.string ⟨#[]⟩, .slice none 0 0, .slice none 0 0] 41)).setRow w2.heap.size #[.string t'.name, .slice aC nC capC, .slice aP nP capP] ∧ B9 = w2.heap.size) := ⟨hW3, hB9⟩
            have HV : Hid (Tv w W3 B9 t' (.string t'.name) (.slice aC nC capC) (.slice aP nP capP) ∧ Below W0.heap.size W0 W3) := ⟨⟨hb3, B3, stays_tb _ _ _ _ hE' hb3, by rw [hB9]; exact hw2.size⟩, HB2.out.trans (b3.mono HB2.out.size)⟩
            have HZ : Hid (∀ z, Box (w2.alloc (.cells z 41)) w2.heap.size 41 z) := fun z => box_new w2 z _
            clear ht' hE' m0 m1 m2 hw2 hnC hnP hC hP hB9 hW3 b3 B3 hb3
            go_wp2_with (refine wpList_store_row rfl 41 _ _ rfl w2.heap.size _ rfl rfl 41 _ (HZ.out _) size_tb rfl hone ?_; rw [← HW.out.1, ← HW.out.2]; clear n0 n1 n2; have t0 := HV.out.1.box.cell 0 _ rfl; have t1 := HV.out.1.box.cell 1 _ rfl; have t2 := HV.out.1.box.cell 2 _ rfl; have p0 := (HP.out.1.over HV.out.2).cell 0 _ rfl; have p1 := (HP.out.1.over HV.out.2).cell 1 _ rfl; have p2 := (HP.out.1.over HV.out.2).cell 2 _ rfl)
            have cm := mayOf_any HV.out.1.tb (stays_pj _ _ _ _ HP.out.2.1 HV.out.1.bel) (by have := HTT.out.2.2.2.2.2.1; omega) HP.out.2.2
            rw [HQ'.out] at cm
            refine cm.mono ?_
            rintro e w4 ⟨rfl, hb4⟩
            have HV4 : Hid (Tv w w4 B9 t' (.string t'.name) (.slice aC nC capC) (.slice aP nP capP) ∧ Below W0.heap.size W0 w4) := ⟨HV.out.1.over hb4, HV.out.2.trans (hb4.mono HV.out.2.size)⟩
            clear cm hb4 t0 t1 t2 p0 p1 p2
            have t0 := HV4.out.1.box.cell 0 _ rfl
            have t1 := HV4.out.1.box.cell 1 _ rfl
            have t2 := HV4.out.1.box.cell 2 _ rfl
            have p0 := (HP.out.1.over HV4.out.2).cell 0 _ rfl
            go_wp2_with fail
            have cw0 := which_any HV4.out.1.tb (by have := HTT.out.2.2.2.2.2.2.1; omega) p.name
            rw [HZ2.out] at cw0
            refine cw0.mono ?_
            rintro e w5 ⟨rfl, hb5⟩
            have HV5a : Hid (Tv w w5 B9 t' (.string t'.name) (.slice aC nC capC) (.slice aP nP capP) ∧ Below W0.heap.size W0 w5) := ⟨HV4.out.1.over hb5, HV4.out.2.trans (hb5.mono HV4.out.2.size)⟩
            clear cw0 hb5 t0 t1 t2 p0
            have h6b : ((nP : Int) == 6) = false := by rw [HTT.out.2.2.2.1] at h6; simp; omega
            have t2 := HV5a.out.1.box.cell 2 _ rfl
            have p0 := (HP.out.1.over HV5a.out.2).cell 0 _ rfl
            have p1 := (HP.out.1.over HV5a.out.2).cell 1 _ rfl
            have p2 := (HP.out.1.over HV5a.out.2).cell 2 _ rfl
            clear h6
            go_wp2_with fail
            have cg := grownP_gen (E := fun _ x cs => PjE w x cs) (w := w5) (fun _ _ h => one_pj h) (slIs_const HTT.out.2.2.1 HV5a.out.1.bel) HTT.out.2.2.2.2.2.2.1 HP.out.2.1
            refine Calls.mono cg ?_
            rintro e w6 ⟨⟨v6, R, rfl, hs6, hE6, ho6⟩, hb6⟩
            have hV5 := HV5a.out.1.turn hb6 hs6 hE6 ho6 HTT.out.2.1
            have bx6 := HV5a.out.1.box.over hb6
            have t2 := bx6.cell 2 _ rfl
            have t2f := bx6.frozen 2
            obtain ⟨a6, n6, c6, rfl⟩ : ∃ a n c, v6 = .slice a n c := by rcases hs6 with ⟨rfl, _⟩ | ⟨g, c, rfl, _⟩ <;> exact ⟨_, _, _, rfl⟩
            have y0 := hV5.box.cell 0 _ rfl
            have y1 := hV5.box.cell 1 _ rfl
            have y2 := hV5.box.cell 2 _ rfl
            have HV5 : Hid (Tv w (w6.setCell ⟨B9, 2, none⟩ (.slice a6 n6 c6)) B9 ⟨t'.name, t'.cols, t'.projs ++ [p]⟩ (.string t'.name) (.slice aC nC capC) (.slice a6 n6 c6)) := hV5
            clear cg hs6 hE6 ho6 hb6 hV5 bx6 p0 p1 p2
            go_wp2_with fail
            have cw := with_any (HH.out.1.over stays_tb HV5.out.bel) HH.out.2.1 k (by have := HK.out; have := HM.out; omega) HV5.out.tb
            refine Calls.mono cw ?_
            rintro e w6 ⟨⟨v6, rfl, hT6⟩, hb6⟩
            have cp := copied_any hT6 (litL_set HH.out.2 k (litT_more HTT.out.2.2.2.2 HP.out.2.2 (by have := tb_six (tb_few HTB.out HT.out); omega)))
            have HB6 : Hid (Below w.heap.size w w6) := HV5.out.bel.trans (hb6.mono HV5.out.bel.size)
            obtain ⟨a6, n6, c6, rfl, _⟩ := hT6.slice
            clear cw hb6 hT6
            go_wp2_with fail
            refine Calls.mono cp ?_
            rintro e w7 ⟨⟨v7, rfl, hT7⟩, hb7⟩
            have H7 : Hid (TabsIs w7 v7 (l.set k ⟨t'.name, t'.cols, t'.projs ++ [p]⟩) ∧ Below w.heap.size w w7) := ⟨hT7, HB6.out.trans (hb7.mono HB6.out.size)⟩
            clear cp hT7 hb7
            go_wp2_with fail
            go_ret2
            rw [HE.out]
            exact ⟨⟨_, rfl, H7.out.1⟩, H7.out.2⟩
end Go.Proofs.YtdjobjbkpagnaaaGreat
/-
  The contract of schema's Remove.
-/
namespace Go.Proofs.YtdjobjbkpagnaaaGreat
open Go.RowKit Go.Shelf

set_option maxRecDepth 4000 in
set_option maxHeartbeats 4000000 in
theorem remove_any {w : World} {v : Value} {l : List Tb} (h : TabsIs w v l) (hl : litL l) (n nm : ByteArray) :
    Calls Tryz.prog 27 #[v, .string n, .string nm] w (XAns w (remF l n nm)) := by
  obtain ⟨a, m, cap, rfl, hm, _⟩ := h.slice
  have HCK : Hid (∀ W, Below w.heap.size w W → Calls Tryz.prog 12 #[.slice a m cap] W fun e w' => e = .returned (.int .i64 (errT (tabsB l))) ∧ Below W.heap.size W w') := fun W hW => check_any (h.over stays_tb hW) hl
  have HF : Hid (∀ W, Below w.heap.size w W → Calls Tryz.prog 15 #[.slice a m cap, .string n] W fun e w' => e = .returned (.int .i64 (findT l n)) ∧ Below W.heap.size W w') := fun W hW => find_any (h.over stays_tb hW) (by have := hl.1; omega) n
  have HH : Hid (TabsIs w (.slice a m cap) l ∧ litL l) := ⟨h, hl⟩
  have HM : Hid (l.length = m) := hm
  have hmI : (m : Int) ≤ 1000 := by have := hl.1; omega
  have HWZ : Hid (findT l n = -1 ∨ ∃ (k : Nat) (x : Tb), findT l n = k ∧ l[k]? = some x ∧ eqS x.name n = true) := idx_or (fun t : Tb => eqS t.name n) l
  obtain ⟨q1, hq1⟩ : ∃ q, q = tabsB l := ⟨_, rfl⟩
  have HTB : Hid (tabsB l = q1) := hq1.symm
  rw [← hq1] at HCK
  have HB0 : Hid (Below w.heap.size w w) := Below.refl _ _
  clear h hl hm
  cases q1 with
  | false =>
    have HE : Hid (remF l n nm = ([], 1)) := by unfold Hid remF; rw [HTB.out, if_pos rfl]
    unfold errT at HCK
    simp only [Bool.false_eq_true, if_false] at HCK
    clear hq1
    go_enter Tryz.func27, Tryz.ntmps27
    go_wp2_with fail
    refine (HCK.out _ HB0.out).mono ?_
    rintro e w1 ⟨rfl, hb1⟩
    have HB1 : Hid (Below w.heap.size w w1) := hb1
    clear hb1
    go_wp2_with fail
    go_ret2
    rw [HE.out]
    exact xans_no HB1.out
  | true =>
    unfold errT at HCK
    simp only [if_true] at HCK
    clear hq1
    rcases HWZ.out with hz | ⟨k, t, hz, ht, _⟩
    · have HE : Hid (remF l n nm = ([], 3)) := by unfold Hid remF; rw [HTB.out, if_neg (by decide), hz]; cases l[(-1 : Int).toNat]? <;> rfl
      rw [hz] at HF
      clear hz HWZ
      go_enter Tryz.func27, Tryz.ntmps27
      go_wp2_with fail
      refine (HCK.out _ HB0.out).mono ?_
      rintro e w1 ⟨rfl, hb1⟩
      have HB1 : Hid (Below w.heap.size w w1) := hb1
      clear hb1
      go_wp2_with fail
      refine (HF.out _ (HB0.out.trans (HB1.out.mono HB0.out.size))).mono ?_
      rintro e w2 ⟨rfl, hb2⟩
      have HB2 : Hid (Below w.heap.size w w2) := HB1.out.trans (hb2.mono HB1.out.size)
      clear hb2
      go_wp2_with fail
      go_ret2
      rw [HE.out]
      exact xans_no HB2.out
    · have HE0 : Hid (remF l n nm = remAt l k t nm) := by unfold Hid remF; rw [HTB.out, if_neg (by decide), hz, Int.toNat_natCast, ht]; simp only; rw [if_neg (by omega)]
      rw [hz] at HF
      have HK : Hid (k < m) := by unfold Hid; rw [← HM.out]; exact (List.getElem?_eq_some_iff.1 ht).1
      have HT : Hid (l[k]? = some t) := ht
      have hkI : (k : Int) < (m : Int) := by have := HK.out; omega
      have hk0 : ¬ (k : Int) < 0 := by omega
      clear hz HWZ ht
      have HWY : Hid (findP t.projs nm = -1 ∨ ∃ (j : Nat) (x : Pj), findP t.projs nm = j ∧ t.projs[j]? = some x ∧ eqS x.name nm = true) := idx_or (fun p : Pj => eqS p.name nm) t.projs
      rcases HWY.out with hz | ⟨j, x, hz, hj, _⟩
      · have HE : Hid (remF l n nm = ([], 3)) := by unfold Hid; rw [HE0.out]; unfold remAt; rw [hz, if_pos (by decide)]
        have HZ2 : Hid (findP t.projs nm = -1) := hz
        clear hz HWY
        go_enter Tryz.func27, Tryz.ntmps27
        go_wp2_with fail
        refine (HCK.out _ HB0.out).mono ?_
        rintro e w1 ⟨rfl, hb1⟩
        have HB1 : Hid (Below w.heap.size w w1) := hb1
        clear hb1
        go_wp2_with fail
        refine (HF.out _ (HB0.out.trans (HB1.out.mono HB0.out.size))).mono ?_
        rintro e w2 ⟨rfl, hb2⟩
        have HB2 : Hid (Below w.heap.size w w2) := HB1.out.trans (hb2.mono HB1.out.size)
        clear hb2
        obtain ⟨t', c0, c1, c2, b, off, ht', e', hE', m0, m1, m2⟩ := at3T HH.out.1 HK.out
        cases e'
        obtain rfl : t' = t := Option.some.inj (ht'.symm.trans HT.out)
        have hw2 : Below w.heap.size w w2 := HB0.out.trans (HB2.out.mono HB0.out.size)
        have n0 := (hw2.cell (p := ⟨b, off + k * 3, none⟩) (World.block_lt_of_cell? w _ m0)).trans m0
        have n1 := (hw2.cell (p := ⟨b, off + k * 3 + 1, none⟩) (World.block_lt_of_cell? w _ m1)).trans m1
        have n2 := (hw2.cell (p := ⟨b, off + k * 3 + 2, none⟩) (World.block_lt_of_cell? w _ m2)).trans m2
        have hone := one_three (one_tb hE')
        obtain ⟨rfl, aC, nC, capC, aP, nP, capP, rfl, rfl, hnC, hnP, hC, hP⟩ := tb_cells hE'
        have HTT : Hid (TbE w t' [.string t'.name, .slice aC nC capC, .slice aP nP capP] ∧ ColsIs w (.slice aC nC capC) t'.cols ∧ PjsIs w (.slice aP nP capP) t'.projs ∧ t'.projs.length = nP ∧ litT t') := ⟨hE', hC, hP, hnP, HH.out.2.2 t' (List.mem_of_getElem? ht')⟩
        have hnPI : (nP : Int) ≤ 1000 := by have := HTT.out.2.2.2.2.2.2.1; rw [hnP] at this; omega
        obtain ⟨B9, hB9⟩ : ∃ B9, B9 = w2.heap.size := ⟨_, rfl⟩
        obtain ⟨W3, hW3⟩ : ∃ W3, W3 = (w2.alloc (.cells #[.string ⟨#[]⟩, .slice none 0 0, .slice none 0 0] 41)).setRow w2.heap.size #[.string t'.name, .slice aC nC capC, .slice aP nP capP] := ⟨_, rfl⟩
        have b3 : Below w2.heap.size w2 W3 := by rw [hW3]; exact below_setRow (below1 w2 _) (Nat.le_refl _) _
        have B3 : Box W3 B9 41 #[.string t'.name, .slice aC nC capC, .slice aP nP capP] := by rw [hW3, hB9]; exact (box_new w2 _ _).setRow _
        have hb3 := hw2.trans (b3.mono hw2.size)
        have HW : Hid (W3 = (w2.alloc (.cells #[.string ⟨#[]⟩, .slice none 0 0, .slice none 0 0] 41)).setRow w2.heap.size #[.string t'.name, .slice aC nC capC, .slice aP nP capP] ∧ B9 = w2.heap.size) := ⟨hW3, hB9⟩
        have HV : Hid (Tv w W3 B9 t' (.string t'.name) (.slice aC nC capC) (.slice aP nP capP) ∧ Below w.heap.size w W3) := ⟨⟨hb3, B3, stays_tb _ _ _ _ hE' hb3, by rw [hB9]; exact hw2.size⟩, HB2.out.trans (b3.mono HB2.out.size)⟩
        have HZ : Hid (∀ z, Box (w2.alloc (.cells z 41)) w2.heap.size 41 z) := fun z => box_new w2 z _
        clear ht' hE' m0 m1 m2 hw2 hnC hnP hC hP hB9 hW3 b3 B3 hb3
        go_wp2_with (refine wpList_store_row rfl 41 _ _ rfl w2.heap.size _ rfl rfl 41 _ (HZ.out _) size_tb rfl hone ?_; rw [← HW.out.1, ← HW.out.2]; clear n0 n1 n2; have t0 := HV.out.1.box.cell 0 _ rfl; have t1 := HV.out.1.box.cell 1 _ rfl; have t2 := HV.out.1.box.cell 2 _ rfl)
        have cw0 := which_any HV.out.1.tb (by have := HTT.out.2.2.2.2.2.2.1; omega) nm
        rw [HZ2.out] at cw0
        refine cw0.mono ?_
        rintro e w5 ⟨rfl, hb5⟩
        have HV5a : Hid (Tv w w5 B9 t' (.string t'.name) (.slice aC nC capC) (.slice aP nP capP)) := HV.out.1.over hb5
        clear cw0 hb5 t0 t1 t2
        go_wp2_with fail
        go_ret2
        rw [HE.out]
        exact xans_no HV5a.out.bel
      · have HZ2 : Hid (findP t.projs nm = (j : Int)) := hz
        have HJ : Hid (j < t.projs.length) := (List.getElem?_eq_some_iff.1 hj).1
        have hj0 : ¬ (j : Int) < 0 := by omega
        have HRL : Hid (remL t nm = t.projs.take j ++ t.projs.drop (j + 1)) := by unfold Hid remL; rw [hz, Int.toNat_natCast]
        clear hz HWY hj
        obtain ⟨q2, HRD⟩ : ∃ q, Hid (readB t.cols.length (t.projs.take j ++ t.projs.drop (j + 1)) = q) := ⟨_, rfl⟩
        cases q2 with
        | false =>
          have HE : Hid (remF l n nm = ([], 250)) := by unfold Hid; rw [HE0.out]; unfold remAt; rw [HZ2.out, if_neg hj0, HRL.out, HRD.out, if_pos rfl]
          go_enter Tryz.func27, Tryz.ntmps27
          go_wp2_with fail
          refine (HCK.out _ HB0.out).mono ?_
          rintro e w1 ⟨rfl, hb1⟩
          have HB1 : Hid (Below w.heap.size w w1) := hb1
          clear hb1
          go_wp2_with fail
          refine (HF.out _ (HB0.out.trans (HB1.out.mono HB0.out.size))).mono ?_
          rintro e w2 ⟨rfl, hb2⟩
          have HB2 : Hid (Below w.heap.size w w2) := HB1.out.trans (hb2.mono HB1.out.size)
          clear hb2
          obtain ⟨t', c0, c1, c2, b, off, ht', e', hE', m0, m1, m2⟩ := at3T HH.out.1 HK.out
          cases e'
          obtain rfl : t' = t := Option.some.inj (ht'.symm.trans HT.out)
          have hw2 : Below w.heap.size w w2 := HB0.out.trans (HB2.out.mono HB0.out.size)
          have n0 := (hw2.cell (p := ⟨b, off + k * 3, none⟩) (World.block_lt_of_cell? w _ m0)).trans m0
          have n1 := (hw2.cell (p := ⟨b, off + k * 3 + 1, none⟩) (World.block_lt_of_cell? w _ m1)).trans m1
          have n2 := (hw2.cell (p := ⟨b, off + k * 3 + 2, none⟩) (World.block_lt_of_cell? w _ m2)).trans m2
          have hone := one_three (one_tb hE')
          obtain ⟨rfl, aC, nC, capC, aP, nP, capP, rfl, rfl, hnC, hnP, hC, hP⟩ := tb_cells hE'
          have HTT : Hid (TbE w t' [.string t'.name, .slice aC nC capC, .slice aP nP capP] ∧ ColsIs w (.slice aC nC capC) t'.cols ∧ PjsIs w (.slice aP nP capP) t'.projs ∧ t'.projs.length = nP ∧ litT t') := ⟨hE', hC, hP, hnP, HH.out.2.2 t' (List.mem_of_getElem? ht')⟩
          have hnPI : (nP : Int) ≤ 1000 := by have := HTT.out.2.2.2.2.2.2.1; rw [hnP] at this; omega
          obtain ⟨B9, hB9⟩ : ∃ B9, B9 = w2.heap.size := ⟨_, rfl⟩
          obtain ⟨W3, hW3⟩ : ∃ W3, W3 = (w2.alloc (.cells #[.string ⟨#[]⟩, .slice none 0 0, .slice none 0 0] 41)).setRow w2.heap.size #[.string t'.name, .slice aC nC capC, .slice aP nP capP] := ⟨_, rfl⟩
          have b3 : Below w2.heap.size w2 W3 := by rw [hW3]; exact below_setRow (below1 w2 _) (Nat.le_refl _) _
          have B3 : Box W3 B9 41 #[.string t'.name, .slice aC nC capC, .slice aP nP capP] := by rw [hW3, hB9]; exact (box_new w2 _ _).setRow _
          have hb3 := hw2.trans (b3.mono hw2.size)
          have HW : Hid (W3 = (w2.alloc (.cells #[.string ⟨#[]⟩, .slice none 0 0, .slice none 0 0] 41)).setRow w2.heap.size #[.string t'.name, .slice aC nC capC, .slice aP nP capP] ∧ B9 = w2.heap.size) := ⟨hW3, hB9⟩
          have HV : Hid (Tv w W3 B9 t' (.string t'.name) (.slice aC nC capC) (.slice aP nP capP) ∧ Below w.heap.size w W3) := ⟨⟨hb3, B3, stays_tb _ _ _ _ hE' hb3, by rw [hB9]; exact hw2.size⟩, HB2.out.trans (b3.mono HB2.out.size)⟩
          have HZ : Hid (∀ z, Box (w2.alloc (.cells z 41)) w2.heap.size 41 z) := fun z => box_new w2 z _
          clear ht' hE' m0 m1 m2 hw2 hnC hnP hC hP hB9 hW3 b3 B3 hb3
          go_wp2_with (refine wpList_store_row rfl 41 _ _ rfl w2.heap.size _ rfl rfl 41 _ (HZ.out _) size_tb rfl hone ?_; rw [← HW.out.1, ← HW.out.2]; clear n0 n1 n2; have t0 := HV.out.1.box.cell 0 _ rfl; have t1 := HV.out.1.box.cell 1 _ rfl; have t2 := HV.out.1.box.cell 2 _ rfl)
          have cw0 := which_any HV.out.1.tb (by have := HTT.out.2.2.2.2.2.2.1; omega) nm
          rw [HZ2.out] at cw0
          refine cw0.mono ?_
          rintro e w5 ⟨rfl, hb5⟩
          have HV5a : Hid (Tv w w5 B9 t' (.string t'.name) (.slice aC nC capC) (.slice aP nP capP)) := HV.out.1.over hb5
          clear cw0 hb5 t0 t1 t2
          have t2 := HV5a.out.box.cell 2 _ rfl
          go_wp2_with fail
          have cg := withoutP_gen (E := fun _ x cs => PjE w x cs) (w := w5) (fun _ _ h => one_pj h) (slIs_const HTT.out.2.2.1 HV5a.out.bel) HTT.out.2.2.2.2.2.2.1 j HJ.out
          refine Calls.mono cg ?_
          rintro e w6 ⟨⟨v6, R, rfl, hs6, hE6, ho6⟩, hb6⟩
          have hV5 := HV5a.out.turn hb6 hs6 hE6 ho6 HTT.out.2.1
          have bx6 := HV5a.out.box.over hb6
          have t2 := bx6.cell 2 _ rfl
          have t2f := bx6.frozen 2
          obtain ⟨a6, n6, c6, rfl⟩ : ∃ a n c, v6 = .slice a n c := by rcases hs6 with ⟨rfl, _⟩ | ⟨g, c, rfl, _⟩ <;> exact ⟨_, _, _, rfl⟩
          have y0 := hV5.box.cell 0 _ rfl
          have y1 := hV5.box.cell 1 _ rfl
          have y2 := hV5.box.cell 2 _ rfl
          obtain ⟨W7, hW7⟩ : ∃ W7, W7 = w6.setCell ⟨B9, 2, none⟩ (.slice a6 n6 c6) := ⟨_, rfl⟩
          have HW7 : Hid (W7 = w6.setCell ⟨B9, 2, none⟩ (.slice a6 n6 c6)) := hW7
          rw [← hW7] at hV5
          have HV7 : Hid (Tv w W7 B9 ⟨t'.name, t'.cols, t'.projs.take j ++ t'.projs.drop (j + 1)⟩ (.string t'.name) (.slice aC nC capC) (.slice a6 n6 c6)) := hV5
          clear cg hs6 hE6 ho6 hb6 hV5 bx6 hW7
          go_wp2_with fail
          rw [← HW7.out]
          have ccr := canRead_any HV7.out.tb (litT_less HTT.out.2.2.2.2 j)
          rw [HRD.out] at ccr
          refine ccr.mono ?_
          rintro e w8 ⟨rfl, hb8⟩
          have HV5 : Hid (Tv w w8 B9 ⟨t'.name, t'.cols, t'.projs.take j ++ t'.projs.drop (j + 1)⟩ (.string t'.name) (.slice aC nC capC) (.slice a6 n6 c6)) := HV7.out.over hb8
          have z0 := HV5.out.box.cell 0 _ rfl
          have z1 := HV5.out.box.cell 1 _ rfl
          have z2 := HV5.out.box.cell 2 _ rfl
          clear ccr hb8 y0 y1 y2 t2 t2f
          go_wp2_with fail
          go_ret2
          rw [HE.out]
          exact xans_no HV5.out.bel
        | true =>
          have HE : Hid (remF l n nm = (l.set k ⟨t.name, t.cols, t.projs.take j ++ t.projs.drop (j + 1)⟩, 0)) := by unfold Hid; rw [HE0.out]; unfold remAt; rw [HZ2.out, if_neg hj0, HRL.out, HRD.out, if_neg (by decide)]
          go_enter Tryz.func27, Tryz.ntmps27
          go_wp2_with fail
          refine (HCK.out _ HB0.out).mono ?_
          rintro e w1 ⟨rfl, hb1⟩
          have HB1 : Hid (Below w.heap.size w w1) := hb1
          clear hb1
          go_wp2_with fail
          refine (HF.out _ (HB0.out.trans (HB1.out.mono HB0.out.size))).mono ?_
          rintro e w2 ⟨rfl, hb2⟩
          have HB2 : Hid (Below w.heap.size w w2) := HB1.out.trans (hb2.mono HB1.out.size)
          clear hb2
          obtain ⟨t', c0, c1, c2, b, off, ht', e', hE', m0, m1, m2⟩ := at3T HH.out.1 HK.out
          cases e'
          obtain rfl : t' = t := Option.some.inj (ht'.symm.trans HT.out)
          have hw2 : Below w.heap.size w w2 := HB0.out.trans (HB2.out.mono HB0.out.size)
          have n0 := (hw2.cell (p := ⟨b, off + k * 3, none⟩) (World.block_lt_of_cell? w _ m0)).trans m0
          have n1 := (hw2.cell (p := ⟨b, off + k * 3 + 1, none⟩) (World.block_lt_of_cell? w _ m1)).trans m1
          have n2 := (hw2.cell (p := ⟨b, off + k * 3 + 2, none⟩) (World.block_lt_of_cell? w _ m2)).trans m2
          have hone := one_three (one_tb hE')
          obtain ⟨rfl, aC, nC, capC, aP, nP, capP, rfl, rfl, hnC, hnP, hC, hP⟩ := tb_cells hE'
          have HTT : Hid (TbE w t' [.string t'.name, .slice aC nC capC, .slice aP nP capP] ∧ ColsIs w (.slice aC nC capC) t'.cols ∧ PjsIs w (.slice aP nP capP) t'.projs ∧ t'.projs.length = nP ∧ litT t') := ⟨hE', hC, hP, hnP, HH.out.2.2 t' (List.mem_of_getElem? ht')⟩
          have hnPI : (nP : Int) ≤ 1000 := by have := HTT.out.2.2.2.2.2.2.1; rw [hnP] at this; omega
          obtain ⟨B9, hB9⟩ : ∃ B9, B9 = w2.heap.size := ⟨_, rfl⟩
          obtain ⟨W3, hW3⟩ : ∃ W3, W3 = (w2.alloc (.cells #[.string ⟨#[]⟩, .slice none 0 0, .slice none 0 0] 41)).setRow w2.heap.size #[.string t'.name, .slice aC nC capC, .slice aP nP capP] := ⟨_, rfl⟩
          have b3 : Below w2.heap.size w2 W3 := by rw [hW3]; exact below_setRow (below1 w2 _) (Nat.le_refl _) _
          have B3 : Box W3 B9 41 #[.string t'.name, .slice aC nC capC, .slice aP nP capP] := by rw [hW3, hB9]; exact (box_new w2 _ _).setRow _
          have hb3 := hw2.trans (b3.mono hw2.size)
          have HW : Hid (W3 = (w2.alloc (.cells #[.string ⟨#[]⟩, .slice none 0 0, .slice none 0 0] 41)).setRow w2.heap.size #[.string t'.name, .slice aC nC capC, .slice aP nP capP] ∧ B9 = w2.heap.size) := ⟨hW3, hB9⟩
          have HV : Hid (Tv w W3 B9 t' (.string t'.name) (.slice aC nC capC) (.slice aP nP capP) ∧ Below w.heap.size w W3) := ⟨⟨hb3, B3, stays_tb _ _ _ _ hE' hb3, by rw [hB9]; exact hw2.size⟩, HB2.out.trans (b3.mono HB2.out.size)⟩
          have HZ : Hid (∀ z, Box (w2.alloc (.cells z 41)) w2.heap.size 41 z) := fun z => box_new w2 z _
          clear ht' hE' m0 m1 m2 hw2 hnC hnP hC hP hB9 hW3 b3 B3 hb3
          go_wp2_with (refine wpList_store_row rfl 41 _ _ rfl w2.heap.size _ rfl rfl 41 _ (HZ.out _) size_tb rfl hone ?_; rw [← HW.out.1, ← HW.out.2]; clear n0 n1 n2; have t0 := HV.out.1.box.cell 0 _ rfl; have t1 := HV.out.1.box.cell 1 _ rfl; have t2 := HV.out.1.box.cell 2 _ rfl)
          have cw0 := which_any HV.out.1.tb (by have := HTT.out.2.2.2.2.2.2.1; omega) nm
          rw [HZ2.out] at cw0
          refine cw0.mono ?_
          rintro e w5 ⟨rfl, hb5⟩
          have HV5a : Hid (Tv w w5 B9 t' (.string t'.name) (.slice aC nC capC) (.slice aP nP capP)) := HV.out.1.over hb5
          clear cw0 hb5 t0 t1 t2
          have t2 := HV5a.out.box.cell 2 _ rfl
          go_wp2_with fail
          have cg := withoutP_gen (E := fun _ x cs => PjE w x cs) (w := w5) (fun _ _ h => one_pj h) (slIs_const HTT.out.2.2.1 HV5a.out.bel) HTT.out.2.2.2.2.2.2.1 j HJ.out
          refine Calls.mono cg ?_
          rintro e w6 ⟨⟨v6, R, rfl, hs6, hE6, ho6⟩, hb6⟩
          have hV5 := HV5a.out.turn hb6 hs6 hE6 ho6 HTT.out.2.1
          have bx6 := HV5a.out.box.over hb6
          have t2 := bx6.cell 2 _ rfl
          have t2f := bx6.frozen 2
          obtain ⟨a6, n6, c6, rfl⟩ : ∃ a n c, v6 = .slice a n c := by rcases hs6 with ⟨rfl, _⟩ | ⟨g, c, rfl, _⟩ <;> exact ⟨_, _, _, rfl⟩
          have y0 := hV5.box.cell 0 _ rfl
          have y1 := hV5.box.cell 1 _ rfl
          have y2 := hV5.box.cell 2 _ rfl
          obtain ⟨W7, hW7⟩ : ∃ W7, W7 = w6.setCell ⟨B9, 2, none⟩ (.slice a6 n6 c6) := ⟨_, rfl⟩
          have HW7 : Hid (W7 = w6.setCell ⟨B9, 2, none⟩ (.slice a6 n6 c6)) := hW7
          rw [← hW7] at hV5
          have HV7 : Hid (Tv w W7 B9 ⟨t'.name, t'.cols, t'.projs.take j ++ t'.projs.drop (j + 1)⟩ (.string t'.name) (.slice aC nC capC) (.slice a6 n6 c6)) := hV5
          clear cg hs6 hE6 ho6 hb6 hV5 bx6 hW7
          go_wp2_with fail
          rw [← HW7.out]
          have ccr := canRead_any HV7.out.tb (litT_less HTT.out.2.2.2.2 j)
          rw [HRD.out] at ccr
          refine ccr.mono ?_
          rintro e w8 ⟨rfl, hb8⟩
          have HV5 : Hid (Tv w w8 B9 ⟨t'.name, t'.cols, t'.projs.take j ++ t'.projs.drop (j + 1)⟩ (.string t'.name) (.slice aC nC capC) (.slice a6 n6 c6)) := HV7.out.over hb8
          have z0 := HV5.out.box.cell 0 _ rfl
          have z1 := HV5.out.box.cell 1 _ rfl
          have z2 := HV5.out.box.cell 2 _ rfl
          clear ccr hb8 y0 y1 y2 t2 t2f
          go_wp2_with fail
          have cw := with_any (HH.out.1.over stays_tb HV5.out.bel) HH.out.2.1 k (by have := HK.out; have := HM.out; omega) HV5.out.tb
          refine Calls.mono cw ?_
          rintro e w9 ⟨⟨v9, rfl, hT9⟩, hb9⟩
          have cp := copied_any hT9 (litL_set HH.out.2 k (litT_less HTT.out.2.2.2.2 j))
          have HB9 : Hid (Below w.heap.size w w9) := HV5.out.bel.trans (hb9.mono HV5.out.bel.size)
          obtain ⟨a9, n9, c9, rfl, _⟩ := hT9.slice
          clear cw hb9 hT9
          go_wp2_with fail
          refine Calls.mono cp ?_
          rintro e w10 ⟨⟨v10, rfl, hT10⟩, hb10⟩
          have H10 : Hid (TabsIs w10 v10 (l.set k ⟨t'.name, t'.cols, t'.projs.take j ++ t'.projs.drop (j + 1)⟩) ∧ Below w.heap.size w w10) := ⟨hT10, HB9.out.trans (hb10.mono HB9.out.size)⟩
          clear cp hT10 hb10
          go_wp2_with fail
          go_ret2
          rw [HE.out]
          exact ⟨⟨_, rfl, H10.out.1⟩, H10.out.2⟩
end Go.Proofs.YtdjobjbkpagnaaaGreat
/-
  The contract of package peristyleref02's Put.
-/
namespace Go.Proofs.YtdjobjbkpagnaaaGreat
open Go.RowKit Leb

theorem field_low (x : BitVec 64) : wordW (fieldF x 0 7) = BitVec.ofNat 64 (x.toNat % 128) := by
  apply BitVec.eq_of_getLsbD_eq
  intro i hi
  rw [wordW_bit _ i hi, BitVec.getLsbD_ofNat]
  unfold fieldF bitsOf
  rw [show (128 : Nat) = 2 ^ 7 from rfl, Nat.testBit_mod_two_pow]
  by_cases h : i < 7
  · have h2 : (i : Int) < 7 := by omega
    simp [h, h2, hi, BitVec.getLsbD]
  · have h2 : ¬ (i : Int) < 7 := by omega
    simp [h, h2]
theorem field_high (x : BitVec 64) : wordW (fieldF x 7 64) = x >>> 7 := by
  apply BitVec.eq_of_getLsbD_eq
  intro i hi
  rw [wordW_bit _ i hi, BitVec.getLsbD_ushiftRight]
  unfold fieldF bitsOf
  by_cases h : 7 + i < 64
  · have h2 : (i : Int) < 64 := by omega
    simp [h, h2]
  · rw [BitVec.getLsbD_of_ge x (7 + i) (by omega)]; simp
theorem refLow (x : BitVec 64) (w : World) (c : Nat) (hc : c = x.toNat % 128) :
    Calls Tryz.prog 89 #[.int .i64 x.toInt, .int .i64 0, .int .i64 7] w fun e w' => e = .returned (.int .i64 (c : Int)) ∧ Below w.heap.size w w' := by
  refine (refField_in x 0 (by decide) 7 w).mono ?_
  rintro e w' ⟨rfl, hb⟩
  rw [field_low, Wd.toInt_of_small _ (by omega), hc]
  exact ⟨rfl, hb⟩
theorem refHigh (x : BitVec 64) (w : World) (q : BitVec 64) (hq : q = x >>> 7) :
    Calls Tryz.prog 89 #[.int .i64 x.toInt, .int .i64 7, .int .i64 64] w fun e w' => e = .returned (.int .i64 q.toInt) ∧ Below w.heap.size w w' := by
  refine (refField_in x 7 (by decide) 64 w).mono ?_
  rintro e w' ⟨rfl, hb⟩
  rw [field_high, hq]
  exact ⟨rfl, hb⟩
theorem refZig_eq (x : BitVec 64) (w : World) :
    Calls Tryz.prog 88 #[.int .i64 x.toInt] w fun e w' => e = .returned (.int .i64 (zigW x).toInt) ∧ Below w.heap.size w w' := by
  refine (refZig_any x w).mono ?_
  rintro e w' ⟨rfl, hb⟩
  rw [zig_eq]
  exact ⟨rfl, hb⟩
theorem toInt_zero_iff (x : BitVec 64) : (x.toInt == 0) = decide (x.toNat = 0) := by
  rw [Bool.eq_iff_iff, beq_iff_eq, decide_eq_true_iff, BitVec.toInt_eq_toNat_bmod, Int.bmod_def]
  have := x.isLt
  omega

set_option maxRecDepth 4000 in
set_option maxHeartbeats 1000000 in
theorem refPut_any (x : BitVec 64) (w : World) :
    Calls Tryz.prog 47 #[.int .i64 x.toInt] w fun e w' => e = .returned (.string (str (enc1 x))) ∧ Below w.heap.size w w' := by
  go_enter Tryz.func47, Tryz.ntmps47
  go_wp2_with (go_at_call 88; refine (refZig_eq _ _).mono ?_; rintro e w1 ⟨rfl, hb1⟩)
  go_loopg [3, 4] (leb (zigW x).toNat).length (fun g s3 s4 wx => ∃ (done : List UInt8) (r : BitVec 64), (leb r.toNat).length = g ∧ s3 = .int .i64 r.toInt ∧ enc1 x = done ++ leb r.toNat ∧ OwnsB wx w.heap.size s4 done ∧ Below w.heap.size w wx)
  case atStart => exact ⟨[], zigW x, rfl, rfl, rfl, ownsB_nil _ _, hb1⟩
  case round =>
    obtain ⟨done, r, hrg, rfl, henc, hown, hb2⟩ := hrel
    have HE : Hid (enc1 x = done ++ leb r.toNat) := henc
    have HR : Hid ((leb r.toNat).length = gk) := hrg
    have hdl : done.length ≤ 10 := by
      have e := congrArg List.length henc
      rw [enc1_len, List.length_append] at e
      have := (lenW_bd (zigW x)).2
      omega
    have hsz := hb2.size
    clear henc hrg
    obtain ⟨c, hc⟩ : ∃ c, c = r.toNat % 128 := ⟨_, rfl⟩
    have HC : Hid (c = r.toNat % 128) := hc
    have hc2 : (c : Int) < 128 := by omega
    obtain ⟨q, hq⟩ : ∃ q, q = r >>> 7 := ⟨_, rfl⟩
    have HQ : Hid (q = r >>> 7) := hq
    by_cases hr : r.toNat < 128
    · have hz : (q.toInt == 0) = true := by rw [hq, toInt_zero_iff, shr7, decide_eq_true_iff]; omega
      have r2 : Hid ((c : Int) = ((UInt8.ofNat r.toNat).toNat : Int)) := by show _ = _; rw [byte_small (by omega), hc]; omega
      clear hc hq
      go_wp2_with fail
      refine (refLow _ _ c HC.out).mono ?_
      rintro e w3 ⟨rfl, hb3⟩
      replace hown := hown.below hb3
      replace hb2 := hb2.trans (hb3.mono hsz)
      clear hb3
      replace hsz := hb2.size
      go_wp2_with fail
      refine (refHigh _ _ q HQ.out).mono ?_
      rintro e w4 ⟨rfl, hb3⟩
      replace hown := hown.below hb3
      replace hb2 := hb2.trans (hb3.mono hsz)
      clear hb3
      replace hsz := hb2.size
      go_wp2_with ((at_builtin; refine append_u8 rfl (.tmp 14) (.tmp 17) rfl rfl rfl r2.out hown ?hB ?hl ?_; (case hB => omega); (case hl => omega); intro v3 w3 hown3 hb3; have hcv := convert_own hown3 (by simp)))
      go_ret
      have e1 := HE.out
      rw [leb_small hr] at e1
      refine ⟨?_, hb2.trans hb3⟩
      rw [e1]; rfl
    · have hr' : 128 ≤ r.toNat := by omega
      have hz : (q.toInt == 0) = false := by rw [hq, toInt_zero_iff, shr7, decide_eq_false_iff_not]; omega
      have r2 : Hid ((128 : Int) + (c : Int) = ((UInt8.ofNat (r.toNat % 128 + 128)).toNat : Int)) := by show _ = _; rw [byte_small (by omega), hc]; omega
      clear hc hq
      go_wp2_with fail
      refine (refLow _ _ c HC.out).mono ?_
      rintro e w3 ⟨rfl, hb3⟩
      replace hown := hown.below hb3
      replace hb2 := hb2.trans (hb3.mono hsz)
      clear hb3
      replace hsz := hb2.size
      go_wp2_with fail
      refine (refHigh _ _ q HQ.out).mono ?_
      rintro e w4 ⟨rfl, hb3⟩
      replace hown := hown.below hb3
      replace hb2 := hb2.trans (hb3.mono hsz)
      clear hb3
      replace hsz := hb2.size
      go_wp2_with ((at_builtin; refine append_u8 rfl (.tmp 20) (.tmp 24) rfl rfl rfl r2.out hown ?hB ?hl ?_; (case hB => omega); (case hl => omega); intro v3 w3 hown3 hb3))
      go_roundg ((leb r.toNat).length - 1)
      case measure => have := HR.out; have := leb_pos r.toNat; omega
      case rel =>
        have e1 := HE.out
        rw [leb_big hr'] at e1
        refine ⟨done ++ [UInt8.ofNat (r.toNat % 128 + 128)], q, ?_, rfl, ?_, hown3, hb2.trans hb3⟩
        · rw [leb_big hr', HQ.out, shr7]; simp
        · rw [e1, HQ.out, shr7]; simp
end Go.Proofs.YtdjobjbkpagnaaaGreat
/-
  The contracts of package vint's PutAll and of package peristyleref02's.
-/
namespace Go.Proofs.YtdjobjbkpagnaaaGreat
open Go.RowKit Leb

set_option maxHeartbeats 400000 in
theorem putAll_any (v : Value) (l : List (BitVec 64)) (w : World) (hl : l.length ≤ 1000) (hr : ReadsI w v l) :
    Calls Tryz.prog 125 #[v] w fun e w' => e = .returned (.string (str (encAll l))) ∧ Below w.heap.size w w' := by
  obtain ⟨x, hx⟩ : ∃ x, x = BitVec.ofNat 64 l.length := ⟨_, rfl⟩
  have hxi : ((l.length : Nat) : Int) = x.toInt := by rw [hx, Wd.toInt_of_small _ (by omega)]
  have hl1 := (lenW_bd (zigW x)).2
  have hp := leb_pos (zigW x).toNat
  have he : encAll l = enc1 x ++ encs l := by rw [encAll, hx]
  have hel := encs_len l
  have hfirst : ∀ w0 : World, Calls Tryz.prog 124 #[.slice none 0 0, .slice (some ⟨w0.heap.size, 0, none⟩) 1 1] (w0.alloc (.cells #[.int .i64 x.toInt] 3)) fun e w' => (∃ v', e = .returned v' ∧ OwnsB w' (w0.heap.size + 1) v' (enc1 x)) ∧ Below (w0.heap.size + 1) (w0.alloc (.cells #[.int .i64 x.toInt] 3)) w' := by
    intro w0
    refine (put_some (w0.heap.size + 1) _ [] w0.heap.size 0 1 [x] _ (ownsB_nil _ _) (by simp) (by simp) ?_ (by simp)).mono ?_
    · intro i hi
      obtain rfl : i = 0 := by simpa using hi
      simp
    · rintro e w1 ⟨⟨v1, rfl, hown⟩, hb⟩
      exact ⟨⟨v1, rfl, by simpa [encs] using hown⟩, hb⟩
  have HE : Hid (encAll l = enc1 x ++ encs l) := he
  clear he
  rcases hr with ⟨rfl, a, c, rfl⟩ | ⟨b, off, c, rfl, hne, hbw, hc⟩
  · have h0 : (0 : Int) = x.toInt := by simpa using hxi
    have HX : Hid ((0 : Int) = x.toInt) := h0
    have hfirst0 : ∀ w0 : World, Calls Tryz.prog 124 #[.slice none 0 0, .slice (some ⟨w0.heap.size, 0, none⟩) 1 1] (w0.alloc (.cells #[.int .i64 0] 3)) fun e w' => (∃ v', e = .returned v' ∧ OwnsB w' (w0.heap.size + 1) v' (enc1 x)) ∧ Below (w0.heap.size + 1) (w0.alloc (.cells #[.int .i64 0] 3)) w' := by rw [h0]; exact hfirst
    clear hxi h0 hx hfirst hel hl
    go_enter Tryz.func125, Tryz.ntmps125
    go_wp2_with fail
    refine (hfirst0 _).mono ?_
    rintro e w1 ⟨⟨v1, rfl, hown⟩, hb⟩
    have hcv := convert_own hown (show 1 ≤ (enc1 x).length from hp)
    go_wp2_with (go_at_call 124; refine (put_none _ _ _ _).mono ?_; rintro e w2 ⟨rfl, rfl⟩)
    go_ret
    refine ⟨?_, ((Below.refl _ _).alloc (Nat.le_refl _) _).trans (hb.mono (by omega))⟩
    rw [HE.out]
    simp [encs, str]
  · obtain ⟨m, hm⟩ : ∃ m, m = l.length := ⟨_, rfl⟩
    rw [← hm] at hxi
    have HM : Hid (m = l.length) := hm
    have hsecond : ∀ (v1 : Value) (w1 : World), OwnsB w1 (w.heap.size + 1) v1 (enc1 x) → Below (w.heap.size + 1) (w.alloc (.cells #[.int .i64 x.toInt] 3)) w1 → Calls Tryz.prog 124 #[v1, .slice (some ⟨b, off, none⟩) m c] w1 fun e w' => (∃ v', e = .returned v' ∧ OwnsB w' (w.heap.size + 1) v' (enc1 x ++ encs l)) ∧ Below (w.heap.size + 1) w1 w' := by
      intro v1 w1 hown hb
      rw [hm]
      have hs := hb.size
      refine put_some (w.heap.size + 1) v1 (enc1 x) b off c l w1 hown (by simpa using hs) (by omega) (fun i hi => ?_) (by rw [enc1_len]; omega)
      have h1 := hb.cell (p := ⟨b, off + i, none⟩) (show b < w.heap.size + 1 by omega)
      rw [h1, ((Below.refl w.heap.size w).alloc (Nat.le_refl _) _).cell (p := ⟨b, off + i, none⟩) hbw]
      exact hc i hi
    rw [← hm]
    clear hx hc hel hm
    go_enter Tryz.func125, Tryz.ntmps125
    go_wp2_with fail
    refine (hfirst _).mono ?_
    rintro e w1 ⟨⟨v1, rfl, hown⟩, hb⟩
    go_wp2_with fail
    refine (hsecond _ _ hown hb).mono ?_
    rintro e w2 ⟨⟨v2, rfl, hown2⟩, hb2⟩
    have hcv := convert_own hown2 (by rw [List.length_append]; have : 1 ≤ (enc1 x).length := hp; omega)
    clear hfirst hsecond
    go_wp2
    go_ret
    refine ⟨?_, (((Below.refl _ _).alloc (Nat.le_refl _) _).trans (hb.mono (by omega))).trans (hb2.mono (by omega))⟩
    rw [HE.out]
    rfl
end Go.Proofs.YtdjobjbkpagnaaaGreat
/-
  The contract of package peristyleref02's PutAll.
-/
namespace Go.Proofs.YtdjobjbkpagnaaaGreat
open Go.RowKit Leb

theorem str_append (a b : List UInt8) : str a ++ str b = str (a ++ b) := by
  apply ByteArray.ext
  simp [str, ByteArray.data_append]
theorem refPut_len (n : Nat) (hn : n ≤ 1000) (w : World) :
    Calls Tryz.prog 47 #[.int .i64 (n : Int)] w fun e w' => e = .returned (.string (str (enc1 (BitVec.ofNat 64 n)))) ∧ Below w.heap.size w w' := by
  have := refPut_any (BitVec.ofNat 64 n) w
  rw [Wd.toInt_of_small _ (by omega)] at this
  exact this

set_option maxRecDepth 4000 in
set_option maxHeartbeats 1000000 in
theorem refPutAll_any (v : Value) (l : List (BitVec 64)) (w : World) (hl : l.length ≤ 1000) (hr : ReadsI w v l) :
    Calls Tryz.prog 49 #[v] w fun e w' => e = .returned (.string (str (encAll l))) ∧ Below w.heap.size w w' := by
  rcases hr with ⟨rfl, a, c, rfl⟩ | ⟨b, off, c, rfl, hne, hbw, hc⟩
  · have h0 := refPut_len 0 (by omega)
    go_enter Tryz.func49, Tryz.ntmps49
    go_wp2_with fail
    refine (h0 _).mono ?_
    rintro e w1 ⟨rfl, hb⟩
    clear h0
    go_wp2
    go_loopg [3, 4] 0 (fun g s3 s4 wx => g = 0 ∧ s3 = .string (str (enc1 (BitVec.ofNat 64 0))) ∧ s4 = .int .i64 0 ∧ wx = w1)
    case atStart => exact ⟨rfl, rfl, rfl, rfl⟩
    case round =>
      obtain ⟨hg, rfl, rfl, rfl⟩ := hrel
      clear hg
      go_wp2
      go_ret
      refine ⟨?_, hb⟩
      simp [encAll, encs]
  · obtain ⟨m, hm⟩ : ∃ m, m = l.length := ⟨_, rfl⟩
    have HM : Hid (m = l.length) := hm
    have HL : Hid (encAll l = enc1 (BitVec.ofNat 64 m) ++ encs l) := by show _ = _; rw [encAll, hm]
    rw [← hm] at hl ⊢
    have hmI : (m : Int) ≤ 1000 := by omega
    have h0 := refPut_len m hl
    have hcs : ∀ k, k < m → ∀ wx : World, Below w.heap.size w wx → wx.cell? ⟨b, off + k, none⟩ = some (.int .i64 (l.getD k 0#64).toInt) := fun k hk wx hb => (hb.cell (p := ⟨b, off + k, none⟩) hbw).trans (hc k (by omega))
    have HC : Hid (∀ k, k < m → ∀ wx : World, Below w.heap.size w wx → wx.cell? ⟨b, off + k, none⟩ = some (.int .i64 (l.getD k 0#64).toInt)) := hcs
    clear hcs hc hm
    go_enter Tryz.func49, Tryz.ntmps49
    go_wp2_with fail
    refine (h0 _).mono ?_
    rintro e w1 ⟨rfl, hb⟩
    clear h0
    go_wp2
    go_loopg [3, 4] m (fun g s3 s4 wx => ∃ k : Nat, k + g = m ∧ s3 = .string (str (enc1 (BitVec.ofNat 64 m) ++ encs (l.take k))) ∧ s4 = .int .i64 k ∧ Below w.heap.size w wx)
    case atStart => exact ⟨0, by omega, by simp [encs], rfl, hb⟩
    case round =>
      obtain ⟨k, hkg, rfl, rfl, hb2⟩ := hrel
      clear hb
      by_cases hk : k < m
      · have hkI : (k : Int) < (m : Int) := by omega
        have e1 := HC.out k hk _ hb2
        obtain ⟨x, hx⟩ : ∃ x, x = l.getD k 0#64 := ⟨_, rfl⟩
        rw [← hx] at e1
        have hsn : enc1 (BitVec.ofNat 64 m) ++ encs (l.take (k + 1)) = (enc1 (BitVec.ofNat 64 m) ++ encs (l.take k)) ++ enc1 x := by
          rw [encs_snoc l k (by rw [← HM.out]; exact hk), ← hx, List.append_assoc]
        have HS : Hid (enc1 (BitVec.ofNat 64 m) ++ encs (l.take (k + 1)) = (enc1 (BitVec.ofNat 64 m) ++ encs (l.take k)) ++ enc1 x) := hsn
        have hs1 : (str (enc1 (BitVec.ofNat 64 m) ++ encs (l.take k))).size ≤ 20000 := by
          rw [str_size, List.length_append, enc1_len]
          have h1 := encs_len (l.take k)
          have h2 := (lenW_bd (zigW (BitVec.ofNat 64 m))).2
          rw [List.length_take] at h1
          omega
        have hs2 : (str (enc1 x)).size ≤ 10 := (lenW_bd (zigW x)).2
        obtain ⟨S, hS⟩ : ∃ S, S = str (enc1 (BitVec.ofNat 64 m) ++ encs (l.take k)) := ⟨_, rfl⟩
        obtain ⟨T, hT⟩ : ∃ T, T = str (enc1 x) := ⟨_, rfl⟩
        have cx : ∀ w, Calls Tryz.prog 47 #[.int .i64 x.toInt] w fun e w' => e = .returned (.string T) ∧ Below w.heap.size w w' := fun w => hT ▸ refPut_any x w
        rw [← hS] at hs1 ⊢
        rw [← hT] at hs2
        have HT : Hid (S ++ T = str (enc1 (BitVec.ofNat 64 m) ++ encs (l.take (k + 1)))) := by show _ = _; rw [hS, hT, str_append, hsn]
        clear hsn hx hS hT
        go_wp2_with (go_at_call 47; refine (cx _).mono ?_; rintro e w3 ⟨rfl, hb3⟩)
        go_roundg (m - (k + 1))
        case measure => omega
        case rel => exact ⟨k + 1, by omega, by rw [← HT.out], by go_num, hb2.trans (hb3.mono hb2.size)⟩
      · have hkI : ¬ (k : Int) < (m : Int) := by omega
        have e : l.take k = l := List.take_of_length_le (by rw [← HM.out]; omega)
        have HE : Hid (l.take k = l) := e
        clear e
        go_wp2
        go_ret
        refine ⟨?_, hb2⟩
        rw [HL.out]
        show Ending.returned (.string (str (enc1 (BitVec.ofNat 64 m) ++ encs (l.take k)))) = _
        rw [HE.out]
end Go.Proofs.YtdjobjbkpagnaaaGreat
/-
  Tables as bytes. Pure mathematics.
-/
namespace Go.Proofs.YtdjobjbkpagnaaaGreat
open Leb

def encName (n : ByteArray) : List UInt8 := enc1 (BitVec.ofNat 64 n.size) ++ n.data.toList
def nullW (b : Bool) : BitVec 64 := if b then 1#64 else 0#64
def encCol (c : Col) : List UInt8 := encName c.name ++ enc1 c.kind ++ enc1 (nullW c.null)
def encPj (p : Pj) : List UInt8 := encName p.name ++ encAll p.cols ++ enc1 p.keys
def encL {α : Type} (enc : α → List UInt8) (l : List α) : List UInt8 := enc1 (BitVec.ofNat 64 l.length) ++ l.flatMap enc
def encTb (t : Tb) : List UInt8 := encName t.name ++ encL encCol t.cols ++ encL encPj t.projs
def encTabs (l : List Tb) : List UInt8 := encL encTb l
theorem str_of (s : ByteArray) : str s.data.toList = s := by apply ByteArray.ext; simp [str]
theorem enc1_le (x : BitVec 64) : (enc1 x).length ≤ 10 := by rw [enc1_len]; exact (lenW_bd _).2
theorem encName_le (n : ByteArray) : (encName n).length ≤ 10 + n.size := by
  unfold encName
  have := enc1_le (BitVec.ofNat 64 n.size)
  rw [List.length_append, Array.length_toList]
  exact Nat.add_le_add this (Nat.le_refl _)
theorem flat_take {α : Type} {enc : α → List UInt8} {l : List α} {k : Nat} {x : α} (h : l[k]? = some x) : (l.take (k + 1)).flatMap enc = (l.take k).flatMap enc ++ enc x := by
  rw [take_succ_of h]; simp
theorem flat_le {α : Type} {enc : α → List UInt8} {B : Nat} : ∀ {l : List α}, (∀ x ∈ l, (enc x).length ≤ B) → (l.flatMap enc).length ≤ l.length * B
  | [], _ => by simp
  | x :: r, h => by
    have h1 := h x (by simp)
    have h2 := flat_le (l := r) (fun y hy => h y (by simp [hy]))
    rw [List.flatMap_cons, List.length_append, List.length_cons, Nat.add_mul]
    omega
end Go.Proofs.YtdjobjbkpagnaaaGreat
/-
  What tables bytes begin with, as plain functions: the code's way, and the document's; both are the same where tables may be. Pure mathematics.
-/
namespace Go.Proofs.YtdjobjbkpagnaaaGreat
open Leb

abbrev By := List UInt8
def pNum (s : By) : Option (BitVec 64 × By) := if (tk s).2.2 = 0 then some (zagW (tk s).1, s.drop (tk s).2.1) else none
def pTo (m : Nat) (s : By) : Option (BitVec 64 × By) := (pNum s).bind fun p => if 0 ≤ p.1.toInt ∧ p.1.toInt ≤ (m : Int) then some p else none
def pName (s : By) : Option (ByteArray × By) := (pTo 16 s).bind fun p => if p.1.toInt.toNat ≤ p.2.length then some (str (p.2.take p.1.toInt.toNat), p.2.drop p.1.toInt.toNat) else none
def pRep {α : Type} (p : By → Option (α × By)) : Nat → By → Option (List α × By)
  | 0, s => some ([], s)
  | k + 1, s => (pRep p k s).bind fun q => (p q.2).bind fun r => some (q.1 ++ [r.1], r.2)
def pList {α : Type} (m : Nat) (p : By → Option (α × By)) (s : By) : Option (List α × By) := (pTo m s).bind fun q => pRep p q.1.toInt.toNat q.2
def pNums (s : By) : Option (List (BitVec 64) × By) := if (ta s).2.2 = 0 then some ((ta s).1, s.drop (ta s).2.1) else none
def pColC (s : By) : Option (Col × By) := (pName s).bind fun a => (pNum a.2).bind fun b => (pTo 1 b.2).bind fun c => some (⟨a.1, b.1, decide (c.1.toInt = 1)⟩, c.2)
def pPjC (s : By) : Option (Pj × By) := (pName s).bind fun a => (pNums a.2).bind fun b => (pNum b.2).bind fun c => some (⟨a.1, b.1, c.1⟩, c.2)
def pTbC (s : By) : Option (Tb × By) := (pName s).bind fun a => (pList 8 pColC a.2).bind fun b => (pList 6 pPjC b.2).bind fun c => some (⟨a.1, b.1, c.1⟩, c.2)
def pTabsC (s : By) : Option (List Tb × By) := pList 8 pTbC s
def pColR (s : By) : Option (Col × By) := (pName s).bind fun a => (pTo 2 a.2).bind fun b => (pTo 1 b.2).bind fun c => some (⟨a.1, b.1, decide (c.1.toInt = 1)⟩, c.2)
def pPjR (s : By) : Option (Pj × By) := (pName s).bind fun a => (pList 8 (pTo 8) a.2).bind fun b => (pTo 8 b.2).bind fun c => some (⟨a.1, b.1, c.1⟩, c.2)
def pTbR (s : By) : Option (Tb × By) := (pName s).bind fun a => (pList 8 pColR a.2).bind fun b => (pList 6 pPjR b.2).bind fun c => some (⟨a.1, b.1, c.1⟩, c.2)
def pTabsR (s : By) : Option (List Tb × By) := pList 8 pTbR s
def takeWith (p : By → Option (List Tb × By)) (s : By) : List Tb × Nat × Int :=
  match p s with
  | some (l, r) => if tabsB l then (l, s.length - r.length, 0) else ([], 0, 20)
  | none => ([], 0, 20)

def Sound {α : Type} (p : By → Option (α × By)) (enc : α → By) : Prop := ∀ s x r, p s = some (x, r) → s = enc x ++ r
def Compl {α : Type} (p : By → Option (α × By)) (enc : α → By) (ok : α → Prop) : Prop := ∀ x r, ok x → p (enc x ++ r) = some (x, r)

theorem enc1_zagW (z : BitVec 64) : enc1 (zagW z) = leb z.toNat := by rw [enc1, zig_zag]
theorem sound_num : Sound pNum enc1 := by
  intro s x r h
  unfold pNum at h
  rcases tk_cases s with ⟨z, hz, e⟩ | ⟨_, e⟩
  · rw [e] at h
    simp only [if_true, Option.some.injEq, Prod.mk.injEq] at h
    obtain ⟨rfl, rfl⟩ := h
    rw [enc1_zagW]
    obtain ⟨t, rfl⟩ := hz
    rw [show lenW z = (leb z.toNat).length from rfl, List.drop_left]
  · rw [e] at h
    simp at h
theorem compl_num : Compl pNum enc1 (fun _ => True) := by
  intro x r _
  have h : tk (enc1 x ++ r) = (zigW x, lenW (zigW x), 0) := tk_ok ⟨r, rfl⟩
  unfold pNum
  rw [h]
  simp only [if_true, Option.some.injEq, Prod.mk.injEq]
  refine ⟨zag_zig x, ?_⟩
  rw [← enc1_len, List.drop_left]
theorem sound_to (m : Nat) : Sound (pTo m) enc1 := by
  intro s x r h
  unfold pTo at h
  rw [Option.bind_eq_some_iff] at h
  obtain ⟨p, hp, h⟩ := h
  split at h
  · cases h; exact sound_num s x r hp
  · cases h
theorem to_range {m : Nat} {s : By} {x : BitVec 64} {r : By} (h : pTo m s = some (x, r)) : 0 ≤ x.toInt ∧ x.toInt ≤ (m : Int) := by
  unfold pTo at h
  rw [Option.bind_eq_some_iff] at h
  obtain ⟨p, hp, h⟩ := h
  split at h
  · cases h; assumption
  · cases h
theorem compl_to (m : Nat) : Compl (pTo m) enc1 (fun x => 0 ≤ x.toInt ∧ x.toInt ≤ (m : Int)) := by
  intro x r h
  unfold pTo
  rw [compl_num x r trivial]
  simp only [Option.bind_some, if_pos h]
theorem bv_len {x : BitVec 64} (h : 0 ≤ x.toInt) : BitVec.ofNat 64 x.toInt.toNat = x := by
  apply BitVec.eq_of_toInt_eq
  have := BitVec.toInt_lt (x := x)
  rw [Wd.toInt_of_small _ (by omega)]
  omega
theorem toInt_len {n : Nat} (h : n ≤ 65536) : (BitVec.ofNat 64 n).toInt = (n : Int) := Wd.toInt_of_small _ (by omega)
theorem sound_name : Sound pName encName := by
  intro s x r h
  unfold pName at h
  rw [Option.bind_eq_some_iff] at h
  obtain ⟨p, hp, h⟩ := h
  have h1 := sound_to 16 s p.1 p.2 hp
  have h2 := to_range (x := p.1) (r := p.2) hp
  split at h
  · rename_i hl
    cases h
    unfold encName
    rw [str_size, List.length_take, Nat.min_eq_left hl, bv_len h2.1, str_list, List.append_assoc, List.take_append_drop]
    exact h1
  · cases h
theorem compl_name : Compl pName encName (fun n => n.size ≤ 16) := by
  intro n r h
  have e := toInt_len (n := n.size) (by omega)
  unfold pName encName
  rw [List.append_assoc, compl_to 16 _ _ (by show 0 ≤ BitVec.toInt _ ∧ BitVec.toInt _ ≤ _; rw [e]; omega)]
  simp only [Option.bind_some, e, Int.toNat_natCast]
  have hs : n.data.toList.length = n.size := by simp
  rw [if_pos (by rw [List.length_append, hs]; omega), ← hs, List.take_left, List.drop_left, str_of]
theorem sound_rep {α : Type} {p : By → Option (α × By)} {enc : α → By} (hp : Sound p enc) : ∀ (k : Nat) (s : By) (l : List α) (r : By), pRep p k s = some (l, r) → s = l.flatMap enc ++ r ∧ l.length = k
  | 0, s, l, r, h => by
    simp only [pRep, Option.some.injEq, Prod.mk.injEq] at h
    obtain ⟨rfl, rfl⟩ := h
    simp
  | k + 1, s, l, r, h => by
    rw [pRep, Option.bind_eq_some_iff] at h
    obtain ⟨q, hq, h⟩ := h
    rw [Option.bind_eq_some_iff] at h
    obtain ⟨t, ht, h⟩ := h
    cases h
    obtain ⟨h1, h2⟩ := sound_rep hp k s q.1 q.2 hq
    have h3 := hp q.2 t.1 t.2 ht
    refine ⟨?_, by simp [h2]⟩
    rw [List.flatMap_append, List.append_assoc, h1]
    congr 1
    simp only [List.flatMap_cons, List.flatMap_nil, List.append_nil]
    exact h3
theorem compl_rep {α : Type} {p : By → Option (α × By)} {enc : α → By} {ok : α → Prop} (hp : Compl p enc ok) (l : List α) : ∀ (r : By), (∀ x ∈ l, ok x) → pRep p l.length (l.flatMap enc ++ r) = some (l, r) := by
  refine snoc_ind (P := fun l => ∀ (r : By), (∀ x ∈ l, ok x) → pRep p l.length (l.flatMap enc ++ r) = some (l, r)) ?_ ?_ l
  · intro r _
    simp [pRep]
  · intro l x ih r hl
    rw [List.length_append, List.length_singleton, pRep, List.flatMap_append, List.append_assoc, ih _ (fun y hy => hl y (by simp [hy]))]
    simp only [Option.bind_some, List.flatMap_cons, List.flatMap_nil, List.append_nil]
    rw [hp x r (hl x (by simp))]
    rfl
theorem sound_list {α : Type} {p : By → Option (α × By)} {enc : α → By} (m : Nat) (hp : Sound p enc) : Sound (pList m p) (encL enc) := by
  intro s l r h
  unfold pList at h
  rw [Option.bind_eq_some_iff] at h
  obtain ⟨q, hq, h⟩ := h
  obtain ⟨h1, h2⟩ := sound_rep hp _ _ _ _ h
  have h3 := sound_to m s q.1 q.2 hq
  have h4 := to_range (x := q.1) (r := q.2) hq
  unfold encL
  rw [h2, bv_len h4.1, List.append_assoc, ← h1]
  exact h3
theorem compl_list {α : Type} {p : By → Option (α × By)} {enc : α → By} {ok : α → Prop} (m : Nat) (hm : m ≤ 65536) (hp : Compl p enc ok) : Compl (pList m p) (encL enc) (fun l => l.length ≤ m ∧ ∀ x ∈ l, ok x) := by
  intro l r h
  have e := toInt_len (n := l.length) (by omega)
  unfold pList encL
  rw [List.append_assoc, compl_to m _ _ (by show 0 ≤ BitVec.toInt _ ∧ BitVec.toInt _ ≤ _; rw [e]; omega)]
  simp only [Option.bind_some, e, Int.toNat_natCast]
  exact compl_rep hp l r h.2
theorem tkN_sound : ∀ (c : Nat) (s : By) (l : List (BitVec 64)) (n : Nat), tkN c s = some (l, n) → s = encs l ++ s.drop n ∧ l.length = c
  | 0, s, l, n, h => by
    simp only [tkN, Option.some.injEq, Prod.mk.injEq] at h
    obtain ⟨rfl, rfl⟩ := h
    simp [encs]
  | c + 1, s, l, n, h => by
    rw [tkN] at h
    split at h
    · rename_i h0
      rw [Option.map_eq_some_iff] at h
      obtain ⟨q, hq, h⟩ := h
      cases h
      obtain ⟨h1, h2⟩ := tkN_sound c _ q.1 q.2 hq
      have hn : pNum s = some (zagW (tk s).1, s.drop (tk s).2.1) := by unfold pNum; rw [if_pos h0]
      have h3 := sound_num s _ _ hn
      refine ⟨?_, by simp [h2]⟩
      rw [List.drop_drop] at h1
      rw [show encs (zagW (tk s).1 :: q.1) = enc1 (zagW (tk s).1) ++ encs q.1 by simp [encs], List.append_assoc, ← h1]
      exact h3
    · cases h
theorem sound_nums : Sound pNums encAll := by
  intro s l r h
  unfold pNums at h
  split at h
  · rename_i h0
    cases h
    rcases tk_cases s with ⟨z, hz, e⟩ | ⟨_, e⟩
    · by_cases hn : (zagW z).toInt < 0
      · rw [ta_neg e hn] at h0; simp at h0
      · by_cases hm : 65536 < (zagW z).toInt
        · rw [ta_many e hm] at h0; simp at h0
        · cases hf : tkF (zagW z).toInt.toNat s [] (lenW z) with
          | none => rw [ta_none e (zagW z).toInt.toNat (by omega) (by omega) hf] at h0; simp at h0
          | some p =>
            obtain ⟨d, u⟩ := p
            rw [ta_some e (zagW z).toInt.toNat (by omega) (by omega) hf]
            simp only
            unfold tkF at hf
            rw [Option.map_eq_some_iff] at hf
            obtain ⟨q, hq, hf⟩ := hf
            simp only [List.nil_append, Prod.mk.injEq] at hf
            obtain ⟨rfl, rfl⟩ := hf
            obtain ⟨h1, h2⟩ := tkN_sound _ _ q.1 q.2 hq
            have hnn : pNum s = some (zagW z, s.drop (lenW z)) := by unfold pNum; rw [e]; simp
            have h3 := sound_num s _ _ hnn
            rw [List.drop_drop] at h1
            unfold encAll
            rw [h2, bv_len (by omega), List.append_assoc, ← h1]
            exact h3
    · rw [ta_form e] at h0; simp at h0
  · cases h
theorem compl_nums : Compl pNums encAll (fun l => l.length ≤ 65536) := by
  intro l r h
  unfold pNums
  rw [ta_enc l h r]
  simp only [if_true, List.drop_left]
theorem null_back {b : BitVec 64} (h0 : 0 ≤ b.toInt) (h1 : b.toInt ≤ 1) : nullW (decide (b.toInt = 1)) = b := by
  apply BitVec.eq_of_toInt_eq
  unfold nullW
  by_cases h : b.toInt = 1
  · rw [decide_eq_true h, if_pos rfl, h]; rfl
  · rw [decide_eq_false h, if_neg (by decide)]
    have : b.toInt = 0 := by omega
    rw [this]; rfl
theorem null_one (b : Bool) : decide ((nullW b).toInt = 1) = b := by cases b <;> decide
theorem null_to (b : Bool) : 0 ≤ (nullW b).toInt ∧ (nullW b).toInt ≤ ((1 : Nat) : Int) := by cases b <;> decide
theorem sound_colC : Sound pColC encCol := by
  intro s x r h
  unfold pColC at h
  simp only [Option.bind_eq_some_iff] at h
  obtain ⟨a, ha, b, hb, c, hc, h⟩ := h
  cases h
  have h4 := to_range (x := c.1) (r := c.2) hc
  unfold encCol
  simp only [null_back h4.1 h4.2, List.append_assoc]
  rw [← sound_to 1 _ c.1 c.2 hc, ← sound_num _ b.1 b.2 hb]
  exact sound_name _ a.1 a.2 ha
theorem compl_colC : Compl pColC encCol (fun c => c.name.size ≤ 16) := by
  intro c r h
  unfold pColC encCol
  rw [List.append_assoc, List.append_assoc, compl_name _ _ h]
  simp only [Option.bind_some]
  rw [compl_num _ _ trivial]
  simp only [Option.bind_some]
  rw [compl_to 1 _ _ (null_to c.null)]
  simp only [Option.bind_some, null_one]
theorem sound_pjC : Sound pPjC encPj := by
  intro s x r h
  unfold pPjC at h
  simp only [Option.bind_eq_some_iff] at h
  obtain ⟨a, ha, b, hb, c, hc, h⟩ := h
  cases h
  unfold encPj
  simp only [List.append_assoc]
  rw [← sound_num _ c.1 c.2 hc, ← sound_nums _ b.1 b.2 hb]
  exact sound_name _ a.1 a.2 ha
theorem compl_pjC : Compl pPjC encPj (fun p => p.name.size ≤ 16 ∧ p.cols.length ≤ 65536) := by
  intro p r h
  unfold pPjC encPj
  rw [List.append_assoc, List.append_assoc, compl_name _ _ h.1]
  simp only [Option.bind_some]
  rw [compl_nums _ _ h.2]
  simp only [Option.bind_some]
  rw [compl_num _ _ trivial]
  simp only [Option.bind_some]
theorem sound_tbC : Sound pTbC encTb := by
  intro s x r h
  unfold pTbC at h
  simp only [Option.bind_eq_some_iff] at h
  obtain ⟨a, ha, b, hb, c, hc, h⟩ := h
  cases h
  unfold encTb
  simp only [List.append_assoc]
  rw [← sound_list 6 sound_pjC _ c.1 c.2 hc, ← sound_list 8 sound_colC _ b.1 b.2 hb]
  exact sound_name _ a.1 a.2 ha
theorem compl_tbC : Compl pTbC encTb (fun t => t.name.size ≤ 16 ∧ (t.cols.length ≤ 8 ∧ ∀ c ∈ t.cols, c.name.size ≤ 16) ∧ (t.projs.length ≤ 6 ∧ ∀ p ∈ t.projs, p.name.size ≤ 16 ∧ p.cols.length ≤ 65536)) := by
  intro t r h
  unfold pTbC encTb
  rw [List.append_assoc, List.append_assoc, compl_name _ _ h.1]
  simp only [Option.bind_some]
  rw [compl_list 8 (by decide) compl_colC _ _ h.2.1]
  simp only [Option.bind_some]
  rw [compl_list 6 (by decide) compl_pjC _ _ h.2.2]
  simp only [Option.bind_some]
theorem sound_tabsC : Sound pTabsC encTabs := sound_list 8 sound_tbC
theorem sound_colR : Sound pColR encCol := by
  intro s x r h
  unfold pColR at h
  simp only [Option.bind_eq_some_iff] at h
  obtain ⟨a, ha, b, hb, c, hc, h⟩ := h
  cases h
  have h4 := to_range (x := c.1) (r := c.2) hc
  unfold encCol
  simp only [null_back h4.1 h4.2, List.append_assoc]
  rw [← sound_to 1 _ c.1 c.2 hc, ← sound_to 2 _ b.1 b.2 hb]
  exact sound_name _ a.1 a.2 ha
theorem compl_colR : Compl pColR encCol (fun c => c.name.size ≤ 16 ∧ 0 ≤ c.kind.toInt ∧ c.kind.toInt ≤ 2) := by
  intro c r h
  unfold pColR encCol
  rw [List.append_assoc, List.append_assoc, compl_name _ _ h.1]
  simp only [Option.bind_some]
  rw [compl_to 2 _ _ h.2]
  simp only [Option.bind_some]
  rw [compl_to 1 _ _ (null_to c.null)]
  simp only [Option.bind_some, null_one]
theorem encAll_L (l : List (BitVec 64)) : encAll l = encL enc1 l := rfl
theorem sound_pjR : Sound pPjR encPj := by
  intro s x r h
  unfold pPjR at h
  simp only [Option.bind_eq_some_iff] at h
  obtain ⟨a, ha, b, hb, c, hc, h⟩ := h
  cases h
  unfold encPj
  simp only [List.append_assoc]
  rw [← sound_to 8 _ c.1 c.2 hc, encAll_L, ← sound_list 8 (sound_to 8) _ b.1 b.2 hb]
  exact sound_name _ a.1 a.2 ha
theorem compl_pjR : Compl pPjR encPj (fun p => p.name.size ≤ 16 ∧ (p.cols.length ≤ 8 ∧ ∀ c ∈ p.cols, 0 ≤ c.toInt ∧ c.toInt ≤ ((8 : Nat) : Int)) ∧ (0 ≤ p.keys.toInt ∧ p.keys.toInt ≤ ((8 : Nat) : Int))) := by
  intro p r h
  unfold pPjR encPj
  rw [List.append_assoc, List.append_assoc, compl_name _ _ h.1]
  simp only [Option.bind_some]
  rw [encAll_L, compl_list 8 (by decide) (compl_to 8) _ _ h.2.1]
  simp only [Option.bind_some]
  rw [compl_to 8 _ _ h.2.2]
  simp only [Option.bind_some]
theorem sound_tbR : Sound pTbR encTb := by
  intro s x r h
  unfold pTbR at h
  simp only [Option.bind_eq_some_iff] at h
  obtain ⟨a, ha, b, hb, c, hc, h⟩ := h
  cases h
  unfold encTb
  simp only [List.append_assoc]
  rw [← sound_list 6 sound_pjR _ c.1 c.2 hc, ← sound_list 8 sound_colR _ b.1 b.2 hb]
  exact sound_name _ a.1 a.2 ha
def okR (t : Tb) : Prop := t.name.size ≤ 16 ∧ (t.cols.length ≤ 8 ∧ ∀ c ∈ t.cols, c.name.size ≤ 16 ∧ 0 ≤ c.kind.toInt ∧ c.kind.toInt ≤ 2) ∧ (t.projs.length ≤ 6 ∧ ∀ p ∈ t.projs, p.name.size ≤ 16 ∧ (p.cols.length ≤ 8 ∧ ∀ c ∈ p.cols, 0 ≤ c.toInt ∧ c.toInt ≤ ((8 : Nat) : Int)) ∧ (0 ≤ p.keys.toInt ∧ p.keys.toInt ≤ ((8 : Nat) : Int)))
theorem compl_tbR : Compl pTbR encTb okR := by
  intro t r h
  unfold pTbR encTb
  rw [List.append_assoc, List.append_assoc, compl_name _ _ h.1]
  simp only [Option.bind_some]
  rw [compl_list 8 (by decide) compl_colR _ _ h.2.1]
  simp only [Option.bind_some]
  rw [compl_list 6 (by decide) compl_pjR _ _ h.2.2]
  simp only [Option.bind_some]
theorem sound_tabsR : Sound pTabsR encTabs := sound_list 8 sound_tbR
/-- Tables that may be are within all bounds. -/
theorem ok_of {l : List Tb} (h : tabsB l = true) : l.length ≤ 8 ∧ ∀ t ∈ l, okR t := by
  unfold tabsB at h
  simp only [Bool.and_eq_true, decide_eq_true_eq] at h
  refine ⟨h.1.1, fun t ht => ?_⟩
  have ht := List.all_eq_true.1 h.1.2 t ht
  unfold tbB at ht
  simp only [Bool.and_eq_true, decide_eq_true_eq] at ht
  have hc := ht.1.1.1.1.2
  unfold colsB at hc
  simp only [Bool.and_eq_true, decide_eq_true_eq] at hc
  refine ⟨(name_len ht.1.1.1.1.1).2, ⟨hc.1.1.2, fun c hcm => ?_⟩, ⟨ht.1.1.1.2, fun p hp => ?_⟩⟩
  · have := List.all_eq_true.1 hc.1.2 c hcm
    unfold colOk at this
    simp only [Bool.and_eq_true, Bool.or_eq_true, decide_eq_true_eq] at this
    exact ⟨(name_len this.1).2, by omega, by omega⟩
  · have := List.all_eq_true.1 ht.1.1.2 p hp
    unfold pjB at this
    simp only [Bool.and_eq_true, decide_eq_true_eq] at this
    have h8 := hc.1.1.2
    refine ⟨(name_len this.1.1.1.1.1.1).2, ⟨by have := this.1.1.1.1.2; omega, fun c hcm => ?_⟩, ⟨this.1.1.1.2, by have h1 := this.1.1.2; have h2 := this.1.1.1.1.2; omega⟩⟩
    have hci := List.all_eq_true.1 this.1.2 c hcm
    unfold colIn at hci
    simp only [Bool.and_eq_true, decide_eq_true_eq] at hci
    exact ⟨hci.1, by omega⟩
theorem tabsC_enc {l : List Tb} (h : tabsB l = true) (r : By) : pTabsC (encTabs l ++ r) = some (l, r) := by
  have ho := ok_of h
  exact compl_list 8 (by decide) compl_tbC l r ⟨ho.1, fun t ht => ⟨(ho.2 t ht).1, ⟨(ho.2 t ht).2.1.1, fun c hc => ((ho.2 t ht).2.1.2 c hc).1⟩, ⟨(ho.2 t ht).2.2.1, fun p hp => ⟨((ho.2 t ht).2.2.2 p hp).1, by have := ((ho.2 t ht).2.2.2 p hp).2.1.1; omega⟩⟩⟩⟩
theorem tabsR_enc {l : List Tb} (h : tabsB l = true) (r : By) : pTabsR (encTabs l ++ r) = some (l, r) := compl_list 8 (by decide) compl_tbR l r (ok_of h)
theorem take_put {l : List Tb} (h : tabsB l = true) (r : By) : takeWith pTabsC (encTabs l ++ r) = (l, (encTabs l).length, 0) := by
  unfold takeWith
  rw [tabsC_enc h r]
  simp only [h, if_true, List.length_append, Nat.add_sub_cancel]
theorem take_same (s : By) : takeWith pTabsC s = takeWith pTabsR s := by
  unfold takeWith
  cases hc : pTabsC s with
  | some p =>
    obtain ⟨l, r⟩ := p
    simp only
    have hs := sound_tabsC s l r hc
    cases ht : tabsB l with
    | true =>
      rw [hs, tabsR_enc ht r]
      simp only [ht]
    | false =>
      simp only [Bool.false_eq_true, if_false]
      cases hr : pTabsR s with
      | none => rfl
      | some q =>
        obtain ⟨l2, r2⟩ := q
        simp only
        cases ht2 : tabsB l2 with
        | false => rfl
        | true =>
          have hs2 := sound_tabsR s l2 r2 hr
          have := tabsC_enc ht2 r2
          rw [← hs2, hc] at this
          cases this
          rw [ht2] at ht
          cases ht
  | none =>
    cases hr : pTabsR s with
    | none => rfl
    | some q =>
      obtain ⟨l2, r2⟩ := q
      simp only
      cases ht2 : tabsB l2 with
      | false => rfl
      | true =>
        have hs2 := sound_tabsR s l2 r2 hr
        have := tabsC_enc ht2 r2
        rw [← hs2, hc] at this
        cases this
end Go.Proofs.YtdjobjbkpagnaaaGreat
/-
  The contract of package vint's TakeAll.
-/
namespace Go.Proofs.YtdjobjbkpagnaaaGreat
open Go.RowKit Leb

theorem extract_end (s : ByteArray) (u : Nat) : (s.extract u s.size).data.toList = s.data.toList.drop u := by
  rw [Lib.extract_data, List.take_of_length_le]
  simp
theorem extract_le (s : ByteArray) (u : Nat) : (s.extract u s.size).size ≤ s.size := by
  rw [ByteArray.size_extract]; omega
/-- Take of the bytes from u on. -/
theorem take_from (s : ByteArray) (hs : s.size ≤ 1000000) (u : Nat) (w : World) :
    Calls Tryz.prog 156 #[.string (s.extract u s.size)] w fun e w' => e = .returned (.tuple #[.int .i64 (zagW (tk (s.data.toList.drop u)).1).toInt, .int .i64 (tk (s.data.toList.drop u)).2.1, .int .i64 (tk (s.data.toList.drop u)).2.2]) ∧ w' = w := by
  have h := take_any (s.extract u s.size) (by have := extract_le s u; unfold maxLen; omega) w
  rw [extract_end] at h
  exact h
theorem take_tuple_no {s : List UInt8} (h : tk s = (0#64, 0, 20)) :
    Value.tuple #[.int .i64 (zagW (tk s).1).toInt, .int .i64 (tk s).2.1, .int .i64 (tk s).2.2] = .tuple #[.int .i64 0, .int .i64 0, .int .i64 20] := by
  rw [h, zag_zero]; rfl
theorem take_tuple_ok {s : List UInt8} {z : BitVec 64} (h : tk s = (z, lenW z, 0)) :
    Value.tuple #[.int .i64 (zagW (tk s).1).toInt, .int .i64 (tk s).2.1, .int .i64 (tk s).2.2] = .tuple #[.int .i64 (zagW z).toInt, .int .i64 (lenW z), .int .i64 0] := by
  rw [h]; rfl
/-- What TakeAll's end is. -/
def Took (s : ByteArray) (w : World) (e : Ending) (w' : World) : Prop :=
  (∃ v, e = .returned (.tuple #[v, .int .i64 (ta s.data.toList).2.1, .int .i64 (ta s.data.toList).2.2]) ∧ OwnsI w' w.heap.size v (ta s.data.toList).1) ∧ Below w.heap.size w w'
theorem took_no {s : ByteArray} {w w' : World} {k : Nat} {n : Int} (hn : n = (k : Int)) (h : ta s.data.toList = ([], 0, k)) (hb : Below w.heap.size w w') : Took s w (.returned (.tuple #[.slice none 0 0, .int .i64 0, .int .i64 n])) w' := by
  refine ⟨⟨.slice none 0 0, ?_, ?_⟩, hb⟩
  · rw [h, hn]; rfl
  · rw [h]; exact ownsI_nil _ _
theorem took_yes {s : ByteArray} {w w' : World} {v : Value} {d : List (BitVec 64)} {u : Nat} (h : ta s.data.toList = (d, u, 0)) (hv : OwnsI w' w.heap.size v d) (hb : Below w.heap.size w w') : Took s w (.returned (.tuple #[v, .int .i64 u, .int .i64 0])) w' := by
  refine ⟨⟨v, ?_, ?_⟩, hb⟩
  · rw [h]; rfl
  · rw [h]; exact hv

/-- 'make([]int, 0, n)'. -/
theorem make_i64 {ops : Array Oper} {rest : List Oper} {o : Oper} {a : Act} {Q : Exit → Act → World → Prop} (hgd : o.guard = none) (l c : Operand) (hop : o.op = Op.makeSlice 24 l c)
    {w : World} {C : Int} {n B : Nat} (hl : a.eval l = .int .i64 0) (hc : a.eval c = .int .i64 C) (hC : C = (n : Int)) (hn : n ≤ 1000000) (hB : B ≤ w.heap.size)
    (h : ∀ v' w', OwnsI w' B v' [] → Below B w w' → wpList Tryz.prog ops Q rest (a.put o.dst v') w') : wpList Tryz.prog ops Q (o :: rest) a w := by
  obtain ⟨i0, hi, hz0, hz1, hz2⟩ := info_parts info_i64
  refine wpList_make_own w hgd l c 24 hop B 3 i0 (.int .i64 0) 1 Tryz.underlying24 hi hz0 hz1 _ _ C n hl hc hC ?_ ?_ hB ?_
  · rw [hz2]; omega
  · unfold maxLen; omega
  · intro w' hown hg
    exact h _ w' hown ((Below.refl B w).grown hg hB (fun k hk => by cases hk))

set_option maxRecDepth 4000 in
set_option maxHeartbeats 2000000 in
theorem takeAll_any (s : ByteArray) (hs : s.size ≤ 1000000) (w : World) :
    Calls Tryz.prog 157 #[.string s] w (Took s w) := by
  have hs0 : s.size ≤ maxLen := by unfold maxLen; omega
  rcases tk_cases s.data.toList with ⟨z, hz, e0⟩ | ⟨_, e0⟩
  · have tx : ∀ w, Calls Tryz.prog 156 #[.string s] w fun e w' => e = .returned (.tuple #[.int .i64 (zagW z).toInt, .int .i64 (lenW z), .int .i64 0]) ∧ w' = w := fun w => by
      have := take_any s hs0 w; rw [take_tuple_ok e0] at this; exact this
    have HZ : Hid (tk s.data.toList = (z, lenW z, 0)) := e0
    obtain ⟨x, hx⟩ : ∃ x, x = zagW z := ⟨_, rfl⟩
    have hLs : lenW z ≤ s.size := by have := hz.length_le; simpa [lenW] using this
    have hL1 := (lenW_bd z).1
    clear e0 hz
    by_cases hneg : x.toInt < 0
    · have HT : Hid (ta s.data.toList = ([], 0, 20)) := ta_neg HZ.out (by rw [← hx]; exact hneg)
      rw [← hx] at tx
      obtain ⟨L, hL⟩ : ∃ L, L = lenW z := ⟨_, rfl⟩
      rw [← hL] at tx
      clear hx hL
      go_enter Tryz.func157, Tryz.ntmps157
      go_wp2_with (go_at_call 156; refine (tx _).mono ?_; rintro e w1 ⟨rfl, rfl⟩)
      go_ret3
      exact took_no rfl HT.out (Below.refl _ _)
    · by_cases hbig : 65536 < x.toInt
      · have HT : Hid (ta s.data.toList = ([], 0, 4)) := ta_many HZ.out (by rw [← hx]; exact hbig)
        rw [← hx] at tx
        obtain ⟨L, hL⟩ : ∃ L, L = lenW z := ⟨_, rfl⟩
        rw [← hL] at tx
        clear hx hL
        go_enter Tryz.func157, Tryz.ntmps157
        go_wp2_with (go_at_call 156; refine (tx _).mono ?_; rintro e w1 ⟨rfl, rfl⟩)
        go_ret3
        exact took_no rfl HT.out (Below.refl _ _)
      · obtain ⟨N, hN⟩ : ∃ N : Nat, x.toInt = N := ⟨x.toInt.toNat, by omega⟩
        have hN2 : N ≤ 65536 := by omega
        rw [← hx, hN] at tx
        have HN : Hid ((zagW z).toInt = N) := by show _ = _; rw [← hx, hN]
        obtain ⟨L, hL⟩ : ∃ L, L = lenW z := ⟨_, rfl⟩
        rw [← hL] at tx hLs hL1
        have HL : Hid (L = lenW z) := hL
        clear hx hL hN hbig hneg
        obtain ⟨C, hC1, hC2⟩ : ∃ C : Nat, ((s.size : Int) - (L : Int) < (N : Int) → (s.size : Int) - (L : Int) = C) ∧ (¬ (s.size : Int) - (L : Int) < (N : Int) → (N : Int) = C) := ⟨min N (s.size - L), by omega, by omega⟩
        have hsI : (s.size : Int) ≤ 1000000 := by omega
        by_cases hmin : (s.size : Int) - (L : Int) < (N : Int)
        case' pos => have HC : Hid ((s.size : Int) - (L : Int) = C) := hC1 hmin
        case' neg => have HC : Hid ((N : Int) = C) := hC2 hmin
        all_goals
          have hCn : C ≤ 1000000 := by have := HC.out; omega
          clear hC1 hC2
          go_enter Tryz.func157, Tryz.ntmps157
          go_wp2_with (first
            | (go_at_call 156; refine (tx _).mono ?_; rintro e w1 ⟨rfl, hw1⟩; replace hw1 := hw1.symm; subst hw1)
            | (at_make; refine make_i64 rfl _ _ rfl rfl rfl HC.out hCn (Nat.le_refl _) ?_; intro v2 w2 hown2 hb2))
          go_loopg [6, 8, 36] N (fun g s6 s8 s36 wx => ∃ (k u : Nat) (d : List (BitVec 64)), k + g = N ∧ s36 = .int .i64 k ∧ s6 = .int .i64 u ∧ u ≤ s.size ∧ d.length = k ∧ tkF N s.data.toList [] L = tkF g s.data.toList d u ∧ OwnsI wx w.heap.size s8 d ∧ Below w.heap.size w wx)
          case atStart => exact ⟨0, L, [], by omega, rfl, rfl, hLs, rfl, rfl, hown2, hb2⟩
          case round =>
            obtain ⟨k, u, d, hkg, rfl, rfl, hu, hd, hf, hown, hb⟩ := hrel
            have HF : Hid (tkF N s.data.toList [] L = tkF gk s.data.toList d u) := hf
            have HD : Hid (d.length = k) := hd
            have hdl : d.length + 1 ≤ 1000000 := by omega
            have huI : (u : Int) ≤ (s.size : Int) := by omega
            have hsz := hb.size
            clear hf hd hown2 hb2 tx
            cases gk with
            | zero =>
              have hkI : ¬ (k : Int) < (N : Int) := by omega
              have HT : Hid (ta s.data.toList = (d, u, 0)) := ta_some HZ.out N HN.out hN2 (by rw [← HL.out, HF.out, tkF_zero])
              go_wp2
              go_ret3
              exact took_yes HT.out hown hb
            | succ g =>
              have hkI : (k : Int) < (N : Int) := by omega
              rcases tk_cases (s.data.toList.drop u) with ⟨z1, hz1, e1⟩ | ⟨_, e1⟩
              · have ty : ∀ w, Calls Tryz.prog 156 #[.string (s.extract u s.size)] w fun e w' => e = .returned (.tuple #[.int .i64 (zagW z1).toInt, .int .i64 (lenW z1), .int .i64 0]) ∧ w' = w := fun w => by
                  have := take_from s hs u w; rw [take_tuple_ok e1] at this; exact this
                have HF2 : Hid (tkF N s.data.toList [] L = tkF g s.data.toList (d ++ [zagW z1]) (u + lenW z1)) := by show _ = _; rw [HF.out, tkF_ok e1]
                have hL2 := lenW_bd z1
                have hL3 : u + lenW z1 ≤ s.size := by have := hz1.length_le; rw [List.length_drop] at this; simp [lenW] at this ⊢; omega
                obtain ⟨x1, hx1⟩ : ∃ x1, x1 = zagW z1 := ⟨_, rfl⟩
                obtain ⟨L1, hL1'⟩ : ∃ L1, L1 = lenW z1 := ⟨_, rfl⟩
                rw [← hx1, ← hL1'] at ty HF2
                rw [← hL1'] at hL2 hL3
                clear hz1 e1 hx1 hL1'
                go_wp2_with (first
                  | (go_at_call 156; refine (ty _).mono ?_; rintro e w1 ⟨rfl, hw1⟩; replace hw1 := hw1.symm; subst hw1)
                  | (at_builtin; refine append_i64 rfl (.tmp 49) (.tmp 51) rfl rfl rfl rfl hown hsz hdl ?_; intro v3 w3 hown3 hb3))
                go_roundg g
                case measure => omega
                case rel => exact ⟨k + 1, u + L1, d ++ [x1], by omega, by go_num, by go_num, hL3, by rw [List.length_append, HD.out]; rfl, HF2.out, hown3, hb.trans hb3⟩
              · have ty : ∀ w, Calls Tryz.prog 156 #[.string (s.extract u s.size)] w fun e w' => e = .returned (.tuple #[.int .i64 0, .int .i64 0, .int .i64 20]) ∧ w' = w := fun w => by
                  have := take_from s hs u w; rw [take_tuple_no e1] at this; exact this
                have HT : Hid (ta s.data.toList = ([], 0, 20)) := ta_none HZ.out N HN.out hN2 (by rw [← HL.out, HF.out, tkF_no e1])
                clear e1
                go_wp2_with (go_at_call 156; refine (ty _).mono ?_; rintro e w1 ⟨rfl, hw1⟩; replace hw1 := hw1.symm; subst hw1)
                go_ret3
                exact took_no rfl HT.out hb
  · have tx : ∀ w, Calls Tryz.prog 156 #[.string s] w fun e w' => e = .returned (.tuple #[.int .i64 0, .int .i64 0, .int .i64 20]) ∧ w' = w := fun w => by
      have := take_any s hs0 w; rw [take_tuple_no e0] at this; exact this
    have HT : Hid (ta s.data.toList = ([], 0, 20)) := ta_form e0
    clear e0
    go_enter Tryz.func157, Tryz.ntmps157
    go_wp2_with (go_at_call 156; refine (tx _).mono ?_; rintro e w1 ⟨rfl, rfl⟩)
    go_ret3
    exact took_no rfl HT.out (Below.refl _ _)
end Go.Proofs.YtdjobjbkpagnaaaGreat
/-
  A reader's steps, against what bytes begin with. Pure mathematics, and what a reader in memory is.
-/
namespace Go.Proofs.YtdjobjbkpagnaaaGreat
open Go.RowKit Leb

/-- From s (failed: f) to s2 (failed: f2), by p, with x. -/
def RdStep {α : Type} (p : By → Option (α × By)) (s : By) (f : Bool) (x : α) (s2 : By) (f2 : Bool) : Prop :=
  s2.length ≤ s.length ∧ (f = true → f2 = true) ∧ (f = false → (∀ y r, p s = some (y, r) → x = y ∧ s2 = r ∧ f2 = false) ∧ (p s = none → f2 = true))
section
variable {α β γ δ : Type} {s s1 s2 s3 : By} {f f1 f2 f3 : Bool}
theorem step_ok {p : By → Option (α × By)} {x : α} {r : By} (h : p s = some (x, r)) (hl : r.length ≤ s.length) : RdStep p s false x r false :=
  ⟨hl, fun h => (by cases h), fun _ => ⟨fun y r' e => by rw [h] at e; cases e; exact ⟨rfl, rfl, rfl⟩, fun e => by rw [h] at e; cases e⟩⟩
theorem step_no {p : By → Option (α × By)} (x : α) (h : p s = none) (hl : s2.length ≤ s.length) : RdStep p s false x s2 true :=
  ⟨hl, fun h => (by cases h), fun _ => ⟨fun y r' e => (by rw [h] at e; cases e), fun _ => rfl⟩⟩
theorem step_was (p : By → Option (α × By)) (x : α) (hl : s2.length ≤ s.length) : RdStep p s true x s2 true := ⟨hl, fun _ => rfl, fun h => by cases h⟩
theorem step3 {p1 : By → Option (α × By)} {p2 : By → Option (β × By)} {p3 : By → Option (γ × By)} (mk : α → β → γ → δ) {a : α} {b : β} {c : γ} (h1 : RdStep p1 s f a s1 f1) (h2 : RdStep p2 s1 f1 b s2 f2) (h3 : RdStep p3 s2 f2 c s3 f3) :
    RdStep (fun s => (p1 s).bind fun a => (p2 a.2).bind fun b => (p3 b.2).bind fun c => some (mk a.1 b.1 c.1, c.2)) s f (mk a b c) s3 f3 := by
  refine ⟨Nat.le_trans h3.1 (Nat.le_trans h2.1 h1.1), fun h => h3.2.1 (h2.2.1 (h1.2.1 h)), fun hf => ?_⟩
  simp only []
  cases e1 : p1 s with
  | none =>
    have := h3.2.1 (h2.2.1 ((h1.2.2 hf).2 e1))
    exact ⟨fun y r e => by simp at e, fun _ => this⟩
  | some q1 =>
    obtain ⟨rfl, rfl, hf1⟩ := (h1.2.2 hf).1 q1.1 q1.2 e1
    simp only [Option.bind_some]
    cases e2 : p2 q1.2 with
    | none =>
      have := h3.2.1 ((h2.2.2 hf1).2 e2)
      exact ⟨fun y r e => by simp at e, fun _ => this⟩
    | some q2 =>
      obtain ⟨rfl, rfl, hf2⟩ := (h2.2.2 hf1).1 q2.1 q2.2 e2
      simp only [Option.bind_some]
      cases e3 : p3 q2.2 with
      | none =>
        have := (h3.2.2 hf2).2 e3
        exact ⟨fun y r e => by simp at e, fun _ => this⟩
      | some q3 =>
        obtain ⟨rfl, rfl, hf3⟩ := (h3.2.2 hf2).1 q3.1 q3.2 e3
        simp only [Option.bind_some, Option.some.injEq, Prod.mk.injEq]
        exact ⟨fun y r e => ⟨e.1, e.2, hf3⟩, fun e => by cases e⟩
theorem step_rep0 (p : By → Option (α × By)) (s : By) (f : Bool) : RdStep (pRep p 0) s f [] s f :=
  ⟨Nat.le_refl _, fun h => h, fun hf => ⟨fun y r e => by simp only [pRep, Option.some.injEq, Prod.mk.injEq] at e; exact ⟨e.1, e.2, hf⟩, fun e => by simp [pRep] at e⟩⟩
theorem step_rep {p : By → Option (α × By)} {k : Nat} {l : List α} {x : α} (h1 : RdStep (pRep p k) s f l s1 f1) (h2 : RdStep p s1 f1 x s2 f2) : RdStep (pRep p (k + 1)) s f (l ++ [x]) s2 f2 := by
  refine ⟨Nat.le_trans h2.1 h1.1, fun h => h2.2.1 (h1.2.1 h), fun hf => ?_⟩
  rw [pRep]
  cases e1 : pRep p k s with
  | none =>
    have := h2.2.1 ((h1.2.2 hf).2 e1)
    exact ⟨fun y r e => by simp at e, fun _ => this⟩
  | some q1 =>
    obtain ⟨rfl, rfl, hf1⟩ := (h1.2.2 hf).1 q1.1 q1.2 e1
    simp only [Option.bind_some]
    cases e2 : p q1.2 with
    | none =>
      have := (h2.2.2 hf1).2 e2
      exact ⟨fun y r e => by simp at e, fun _ => this⟩
    | some q2 =>
      obtain ⟨rfl, rfl, hf2⟩ := (h2.2.2 hf1).1 q2.1 q2.2 e2
      simp only [Option.bind_some, Option.some.injEq, Prod.mk.injEq]
      exact ⟨fun y r e => ⟨e.1, e.2, hf2⟩, fun e => by cases e⟩
theorem step_list {p : By → Option (α × By)} {m : Nat} {n : BitVec 64} {l : List α} (h1 : RdStep (pTo m) s f n s1 f1) (h2 : RdStep (pRep p n.toInt.toNat) s1 f1 l s2 f2) : RdStep (pList m p) s f l s2 f2 := by
  refine ⟨Nat.le_trans h2.1 h1.1, fun h => h2.2.1 (h1.2.1 h), fun hf => ?_⟩
  unfold pList
  cases e1 : pTo m s with
  | none =>
    have := h2.2.1 ((h1.2.2 hf).2 e1)
    exact ⟨fun y r e => by simp at e, fun _ => this⟩
  | some q1 =>
    obtain ⟨rfl, rfl, hf1⟩ := (h1.2.2 hf).1 q1.1 q1.2 e1
    simp only [Option.bind_some]
    exact h2.2.2 hf1
end
/-- A reader in memory. -/
def Rd (w : World) (B : Nat) (s : ByteArray) (f : Bool) : Prop := Box w B 78 #[.string s, .bool f]
/-- What a reader's step answers. -/
def RdAns {α : Type} (B : Nat) (rep : World → World → Value → α → Prop) (p : By → Option (α × By)) (s : ByteArray) (f : Bool) (w : World) (e : Ending) (w' : World) : Prop :=
  ∃ (v : Value) (x : α) (s2 : ByteArray) (f2 : Bool), e = .returned v ∧ rep w w' v x ∧ Rd w' B s2 f2 ∧ RdStep p s.data.toList f x s2.data.toList f2 ∧ Kept (fun b => b = B) w w'
def repN (_ _ : World) (v : Value) (x : BitVec 64) : Prop := v = .int .i64 x.toInt
def repS (_ _ : World) (v : Value) (x : ByteArray) : Prop := v = .string x
def repI (w0 w : World) (v : Value) (x : List (BitVec 64)) : Prop := SlX (fun b => b < w0.heap.size) IntE 1 w v x
def rep3 {α : Type} (E : (Nat → Prop) → World → α → List Value → Prop) (w0 w : World) (v : Value) (x : α) : Prop := ∃ c0 c1 c2, v = .agg #[c0, c1, c2] ∧ E (fun b => b < w0.heap.size) w x [c0, c1, c2]
def repL {α : Type} (E : (Nat → Prop) → World → α → List Value → Prop) (w0 w : World) (v : Value) (x : List α) : Prop := SlX (fun b => b < w0.heap.size) (E fun b => b < w0.heap.size) 3 w v x
def ColX (_ : Nat → Prop) : World → Col → List Value → Prop := ColE
theorem size_list (s : ByteArray) : s.data.toList.length = s.size := by simp
theorem ext_drop (s : ByteArray) (u : Nat) : (s.extract u s.size).data.toList = s.data.toList.drop u := extract_end s u
theorem ext_take (s : ByteArray) (u : Nat) : s.extract 0 u = str (s.data.toList.take u) := by
  apply ByteArray.ext
  have h : (s.extract 0 u).data.toList = s.data.toList.take u := by rw [Lib.extract_data]; simp
  simp only [str]
  rw [← h]
end Go.Proofs.YtdjobjbkpagnaaaGreat
/-
  The contracts of schema's reader: cut, number, upTo, numbers and name.
-/
namespace Go.Proofs.YtdjobjbkpagnaaaGreat
open Go.RowKit Leb

theorem rd_one {w : World} {B : Nat} {s : ByteArray} {f : Bool} (h : Rd w B s f) (f2 : Bool) : Rd (w.setCell ⟨B, 1, none⟩ (.bool f2)) B s f2 := Box.set h 1 _
theorem rd_zero {w : World} {B : Nat} {s : ByteArray} {f : Bool} (h : Rd w B s f) (s2 : ByteArray) : Rd (w.setCell ⟨B, 0, none⟩ (.string s2)) B s2 f := Box.set h 0 _
theorem kept_set {w : World} (B k : Nat) (v : Value) : Kept (fun b => b = B) w (w.setCell ⟨B, k, none⟩ v) := (Kept.refl (fun b => b = B) w).setCell (p := ⟨B, k, none⟩) (.inl rfl) _
set_option maxHeartbeats 1000000 in
theorem cut_no {w : World} {B : Nat} {s : ByteArray} {f : Bool} (h : Rd w B s f) (n : Int) (g : Bool) (hf : f = true ∨ g = false) :
    Calls Tryz.prog 129 #[.pointer (some ⟨B, 0, none⟩), .int .i64 n, .bool g] w fun e w' => e = .returned (.string ⟨#[]⟩) ∧ Rd w' B s true ∧ Kept (fun b => b = B) w w' := by
  have c1 := Box.cell h 1 _ rfl
  have f1 := Box.frozen h 1
  have HD : Hid (Rd (w.setCell ⟨B, 1, none⟩ (.bool true)) B s true ∧ Kept (fun b => b = B) w (w.setCell ⟨B, 1, none⟩ (.bool true))) := ⟨rd_one h true, kept_set B 1 _⟩
  clear h
  cases f with
  | true =>
    go_enter Tryz.func129, Tryz.ntmps129
    go_wp2_with fail
    go_ret
    exact ⟨rfl, HD.out.1, HD.out.2⟩
  | false =>
    obtain rfl : g = false := by simpa using hf
    go_enter Tryz.func129, Tryz.ntmps129
    go_wp2_with fail
    go_ret
    exact ⟨rfl, HD.out.1, HD.out.2⟩
set_option maxHeartbeats 1000000 in
theorem cut_yes {w : World} {B : Nat} {s : ByteArray} (h : Rd w B s false) (n : Nat) (hn : n ≤ s.size) (hs : s.size ≤ 1000000) :
    Calls Tryz.prog 129 #[.pointer (some ⟨B, 0, none⟩), .int .i64 (n : Int), .bool true] w fun e w' => e = .returned (.string (s.extract 0 n)) ∧ Rd w' B (s.extract n s.size) false ∧ Kept (fun b => b = B) w w' := by
  have c0 := Box.cell h 0 _ rfl
  have c1 := Box.cell h 1 _ rfl
  have f0 := Box.frozen h 0
  have hb : (0 : Int) ≤ (n : Int) ∧ (n : Int) ≤ (s.size : Int) := by omega
  have hnI : (n : Int) ≤ (s.size : Int) := by omega
  have hsI : (s.size : Int) ≤ 1000000 := by omega
  have HD : Hid (Rd (w.setCell ⟨B, 0, none⟩ (.string (s.extract n s.size))) B (s.extract n s.size) false ∧ Kept (fun b => b = B) w (w.setCell ⟨B, 0, none⟩ (.string (s.extract n s.size)))) := ⟨rd_zero h _, kept_set B 0 _⟩
  clear h
  go_enter Tryz.func129, Tryz.ntmps129
  go_wp2_with fail
  go_ret
  exact ⟨rfl, HD.out.1, HD.out.2⟩
theorem drop_le (s : By) (u : Nat) : (s.drop u).length ≤ s.length := by rw [List.length_drop]; omega
set_option maxHeartbeats 1000000 in
theorem number_any {w : World} {B : Nat} {s : ByteArray} {f : Bool} (h : Rd w B s f) (hs : s.size ≤ 1000000) :
    Calls Tryz.prog 128 #[.pointer (some ⟨B, 0, none⟩)] w (RdAns B repN pNum s f w) := by
  have c0 := Box.cell h 0 _ rfl
  have ct := take_any s (by unfold maxLen; omega) w
  rcases tk_cases s.data.toList with ⟨z, hz, e0⟩ | ⟨hz, e0⟩
  · rw [take_tuple_ok e0] at ct
    have hp : pNum s.data.toList = some (zagW z, s.data.toList.drop (lenW z)) := by unfold pNum; rw [e0]; simp
    have hle : lenW z ≤ s.size := by have := hz.length_le; rw [size_list] at this; exact this
    obtain ⟨x, hx⟩ : ∃ x, x = zagW z := ⟨_, rfl⟩
    obtain ⟨u, hu⟩ : ∃ u, u = lenW z := ⟨_, rfl⟩
    rw [← hx, ← hu] at ct hp
    rw [← hu] at hle
    cases f with
    | true =>
      have cc := cut_no h (u : Int) true (.inl rfl)
      have HP : Hid True := trivial
      clear h hz e0 hp hx hu
      go_enter Tryz.func128, Tryz.ntmps128
      go_wp2_with fail
      refine ct.mono ?_
      rintro e w1 ⟨rfl, hw⟩
      replace hw := hw.symm
      subst hw
      go_wp2_with fail
      refine cc.mono ?_
      rintro e w2 ⟨rfl, hr, hk⟩
      go_wp2_with fail
      go_ret
      exact ⟨_, x, s, true, rfl, rfl, hr, step_was _ _ (Nat.le_refl _), hk⟩
    | false =>
      have cc := cut_yes h u hle hs
      have HP : Hid (pNum s.data.toList = some (x, s.data.toList.drop u)) := hp
      clear h hz e0 hp hx hu hle
      go_enter Tryz.func128, Tryz.ntmps128
      go_wp2_with fail
      refine ct.mono ?_
      rintro e w1 ⟨rfl, hw⟩
      replace hw := hw.symm
      subst hw
      go_wp2_with fail
      refine cc.mono ?_
      rintro e w2 ⟨rfl, hr, hk⟩
      go_wp2_with fail
      go_ret
      exact ⟨_, x, s.extract u s.size, false, rfl, rfl, hr, by rw [ext_drop]; exact step_ok HP.out (drop_le _ _), hk⟩
  · rw [take_tuple_no e0] at ct
    have HP : Hid (pNum s.data.toList = none) := by unfold Hid pNum; rw [e0]; simp
    have cc := cut_no h (0 : Int) false (.inr rfl)
    clear h hz e0
    go_enter Tryz.func128, Tryz.ntmps128
    go_wp2_with fail
    refine ct.mono ?_
    rintro e w1 ⟨rfl, hw⟩
    replace hw := hw.symm
    subst hw
    go_wp2_with fail
    refine cc.mono ?_
    rintro e w2 ⟨rfl, hr, hk⟩
    go_wp2_with fail
    go_ret
    refine ⟨_, 0#64, s, true, rfl, rfl, hr, ?_, hk⟩
    cases f with
    | true => exact step_was _ _ (Nat.le_refl _)
    | false => exact step_no _ HP.out (Nat.le_refl _)
/-- What upTo answers besides. -/
def UpAns (B m : Nat) (s : ByteArray) (f : Bool) (w : World) (e : Ending) (w' : World) : Prop :=
  ∃ (x : BitVec 64) (s2 : ByteArray) (f2 : Bool), e = .returned (.int .i64 x.toInt) ∧ Rd w' B s2 f2 ∧ RdStep (pTo m) s.data.toList f x s2.data.toList f2 ∧ Kept (fun b => b = B) w w' ∧ 0 ≤ x.toInt ∧ x.toInt ≤ (m : Int)
set_option maxHeartbeats 1000000 in
theorem upTo_any {w : World} {B : Nat} {s : ByteArray} {f : Bool} (h : Rd w B s f) (hs : s.size ≤ 1000000) (m : Nat) (hm : m ≤ 1000) :
    Calls Tryz.prog 90 #[.pointer (some ⟨B, 0, none⟩), .int .i64 (m : Int)] w (UpAns B m s f w) := by
  have cn := number_any h hs
  have hmI : (m : Int) ≤ 1000 := by omega
  clear h hs hm
  go_enter Tryz.func90, Tryz.ntmps90
  go_wp2_with fail
  refine Calls.mono cn ?_
  rintro e w1 ⟨v, x, s2, f2, rfl, hv, hr, hst, hk⟩
  have ev : v = .int .i64 x.toInt := hv
  subst ev
  have c1 := Box.cell hr 1 _ rfl
  have f1 := Box.frozen hr 1
  have HD : Hid (Rd (w1.setCell ⟨B, 1, none⟩ (.bool true)) B s2 true ∧ Kept (fun b => b = B) w (w1.setCell ⟨B, 1, none⟩ (.bool true))) := ⟨rd_one hr true, hk.trans (kept_set B 1 _) (fun _ h => .inl h)⟩
  have HR : Hid (Rd w1 B s2 f2 ∧ Kept (fun b => b = B) w w1 ∧ RdStep pNum s.data.toList f x s2.data.toList f2) := ⟨hr, hk, hst⟩
  obtain ⟨z, hz⟩ : ∃ z, z = x.toInt := ⟨_, rfl⟩
  have HZ : Hid (z = x.toInt) := hz
  rw [← hz]
  clear hv hr hk hst hz cn
  have hbad : Hid (∀ (hno : f2 = true ∨ ¬ (0 ≤ x.toInt ∧ x.toInt ≤ (m : Int))), RdStep (pTo m) s.data.toList f 0#64 s2.data.toList true) := by
    intro hno
    have hst := HR.out.2.2
    refine ⟨hst.1, fun _ => rfl, fun hf => ?_⟩
    unfold pTo
    cases e : pNum s.data.toList with
    | none => exact ⟨fun y r e => (by simp at e), fun _ => rfl⟩
    | some q =>
      obtain ⟨rfl, _, hf2⟩ := (hst.2.2 hf).1 q.1 q.2 e
      simp only [Option.bind_some]
      rw [if_neg (by rcases hno with h | h; rw [hf2] at h; cases h; exact h)]
      exact ⟨fun y r e => (by simp at e), fun _ => trivial⟩
  cases f2 with
  | true =>
    go_wp2_with fail
    go_ret
    exact ⟨0#64, s2, true, rfl, HD.out.1, hbad.out (.inl (by first | rfl | trivial)), HD.out.2, by decide, by show (0 : Int) ≤ _; omega⟩
  | false =>
    by_cases h0 : z < 0
    · go_wp2_with fail
      go_ret
      exact ⟨0#64, s2, true, rfl, HD.out.1, hbad.out (.inr (by have := HZ.out; omega)), HD.out.2, by decide, by show (0 : Int) ≤ _; omega⟩
    · by_cases h1 : (m : Int) < z
      · go_wp2_with fail
        go_ret
        exact ⟨0#64, s2, true, rfl, HD.out.1, hbad.out (.inr (by have := HZ.out; omega)), HD.out.2, by decide, by show (0 : Int) ≤ _; omega⟩
      · go_wp2_with fail
        go_ret
        have hz := HZ.out
        refine ⟨x, s2, false, by rw [← hz]; rfl, HR.out.1, ?_, HR.out.2.1, by omega, by omega⟩
        have hst := HR.out.2.2
        refine ⟨hst.1, fun h => (by have := hst.2.1 h; cases this), fun hf => ?_⟩
        unfold pTo
        cases e : pNum s.data.toList with
        | none => have := (hst.2.2 hf).2 e; cases this
        | some q =>
          obtain ⟨rfl, h2, _⟩ := (hst.2.2 hf).1 q.1 q.2 e
          simp only [Option.bind_some]
          rw [if_pos (by omega)]
          exact ⟨fun y r e => (by cases e; exact ⟨rfl, h2, trivial⟩), fun e => (by cases e)⟩
set_option maxHeartbeats 1000000 in
theorem name_rd {w : World} {B : Nat} {s : ByteArray} {f : Bool} (h : Rd w B s f) (hs : s.size ≤ 1000000) :
    Calls Tryz.prog 91 #[.pointer (some ⟨B, 0, none⟩)] w (RdAns B repS pName s f w) := by
  have cu := upTo_any h hs 16 (by decide)
  have HS : Hid (s.size ≤ 1000000) := hs
  clear h hs
  go_enter Tryz.func91, Tryz.ntmps91
  go_wp2_with fail
  refine Calls.mono cu ?_
  rintro e w1 ⟨x, s2, f2, rfl, hr, hst, hk, h0, h16⟩
  have c0 := Box.cell hr 0 _ rfl
  obtain ⟨n, hn⟩ : ∃ n : Nat, x.toInt = (n : Int) := ⟨x.toInt.toNat, by omega⟩
  have hs2 : s2.size ≤ 1000000 := by have := hst.1; rw [size_list, size_list] at this; have := HS.out; omega
  have HR : Hid (RdStep (pTo 16) s.data.toList f x s2.data.toList f2 ∧ Kept (fun b => b = B) w w1 ∧ x.toInt = (n : Int)) := ⟨hst, hk, hn⟩
  have hs2I : (s2.size : Int) ≤ 1000000 := by omega
  have hn16 : (n : Int) ≤ 16 := by omega
  rw [hn]
  have key : Hid (∀ s3 f3 y, s3.length ≤ s2.data.toList.length → (f2 = true → f3 = true) → (f2 = false → (n ≤ s2.data.toList.length → y = str (s2.data.toList.take n) ∧ s3 = s2.data.toList.drop n ∧ f3 = false) ∧ (¬ n ≤ s2.data.toList.length → f3 = true)) → RdStep pName s.data.toList f y s3 f3) := by
    intro s3 f3 y hl hf hh
    obtain ⟨a1, a2, a3⟩ := HR.out.1
    refine ⟨Nat.le_trans hl a1, fun h => hf (a2 h), fun hff => ?_⟩
    unfold pName
    cases e : pTo 16 s.data.toList with
    | none => exact ⟨fun y r e => (by simp at e), fun _ => hf ((a3 hff).2 e)⟩
    | some q =>
      obtain ⟨b1, b2, b3⟩ := (a3 hff).1 q.1 q.2 e
      simp only [Option.bind_some]
      rw [← b1, ← b2, HR.out.2.2, Int.toNat_natCast]
      by_cases hle : n ≤ s2.data.toList.length
      · rw [if_pos hle]
        obtain ⟨d1, d2, d3⟩ := (hh b3).1 hle
        exact ⟨fun y r e => (by cases e; exact ⟨d1, d2, d3⟩), fun e => (by cases e)⟩
      · rw [if_neg hle]
        exact ⟨fun y r e => (by cases e), fun _ => (hh b3).2 hle⟩
  by_cases hle : (n : Int) ≤ (s2.size : Int)
  · have d1 : decide (n ≤ s2.size) = true := by simp; omega
    cases f2 with
    | true =>
      have cc := cut_no hr (n : Int) true (.inl rfl)
      clear hr hst hk hn cu hle h0 h16 hs2
      go_wp2_with fail
      refine cc.mono ?_
      rintro e w2 ⟨rfl, hr2, hk2⟩
      go_wp2_with fail
      go_ret
      exact ⟨_, _, s2, true, rfl, rfl, hr2, key.out _ _ _ (Nat.le_refl _) (fun _ => rfl) (fun h => by cases h), HR.out.2.1.trans hk2 (fun _ h => .inl h)⟩
    | false =>
      have cc := cut_yes hr n (by omega) hs2
      have HLE : Hid (n ≤ s2.size) := by unfold Hid; omega
      clear hr hst hk hn cu hle h0 h16 hs2
      go_wp2_with fail
      refine cc.mono ?_
      rintro e w2 ⟨rfl, hr2, hk2⟩
      go_wp2_with fail
      go_ret
      exact ⟨_, _, _, false, rfl, rfl, hr2, key.out _ _ _ (by rw [ext_drop]; exact drop_le _ _) (fun h => by cases h) (fun _ => ⟨fun _ => ⟨ext_take _ _, ext_drop _ _, rfl⟩, fun h => absurd (by rw [size_list]; exact HLE.out) h⟩), HR.out.2.1.trans hk2 (fun _ h => .inl h)⟩
  · have d1 : decide (n ≤ s2.size) = false := by simp; omega
    have cc := cut_no hr (n : Int) false (.inr rfl)
    have HLE : Hid (¬ n ≤ s2.size) := by unfold Hid; omega
    clear hr hst hk hn cu hle h0 h16 hs2
    go_wp2_with fail
    refine cc.mono ?_
    rintro e w2 ⟨rfl, hr2, hk2⟩
    go_wp2_with fail
    go_ret
    exact ⟨_, _, s2, true, rfl, rfl, hr2, key.out _ _ _ (Nat.le_refl _) (fun _ => rfl) (fun _ => ⟨fun h => absurd (by rw [← size_list]; exact h) HLE.out, fun _ => rfl⟩), HR.out.2.1.trans hk2 (fun _ h => .inl h)⟩
theorem tkN_le : ∀ (c : Nat) (s : By) (l : List (BitVec 64)) (n : Nat), tkN c s = some (l, n) → n ≤ s.length
  | 0, s, l, n, h => by
    simp only [tkN, Option.some.injEq, Prod.mk.injEq] at h
    omega
  | c + 1, s, l, n, h => by
    rw [tkN] at h
    split at h
    · rw [Option.map_eq_some_iff] at h
      obtain ⟨q, hq, h⟩ := h
      cases h
      have h1 := tkN_le c _ q.1 q.2 hq
      have h2 := (tk_used_le s).1
      rw [List.length_drop] at h1
      omega
    · cases h
theorem ta_le (s : By) : (ta s).2.1 ≤ s.length := by
  unfold ta
  split
  · split
    · exact Nat.zero_le _
    · split
      · exact Nat.zero_le _
      · cases hf : tkF (zagW (tk s).1).toInt.toNat s [] (tk s).2.1 with
        | none => exact Nat.zero_le _
        | some p =>
          simp only
          unfold tkF at hf
          rw [Option.map_eq_some_iff] at hf
          obtain ⟨q, hq, hf⟩ := hf
          cases hf
          have h1 := tkN_le _ _ q.1 q.2 hq
          have h2 := (tk_used_le s).1
          rw [List.length_drop] at h1
          simp only
          omega
  · exact Nat.zero_le _
set_option maxHeartbeats 1000000 in
theorem numbers_rd {w : World} {B : Nat} {s : ByteArray} {f : Bool} (h : Rd w B s f) (hs : s.size ≤ 1000000) :
    Calls Tryz.prog 130 #[.pointer (some ⟨B, 0, none⟩)] w (RdAns B repI pNums s f w) := by
  have c0 := Box.cell h 0 _ rfl
  have ct := takeAll_any s hs w
  have hlt := Box.lt h
  obtain ⟨l, u, er, hta⟩ : ∃ l u er, ta s.data.toList = (l, u, er) := ⟨_, _, _, rfl⟩
  have HP : Hid (pNums s.data.toList = if er = 0 then some (l, s.data.toList.drop u) else none) := by unfold Hid pNums; rw [hta]
  have HU : Hid (er = 0 → u ≤ s.size) := by
    intro _
    have := ta_le s.data.toList
    rw [hta, size_list] at this
    exact this
  unfold Took at ct
  rw [hta] at ct
  have HR : Hid (Rd w B s f ∧ s.size ≤ 1000000 ∧ B < w.heap.size) := ⟨h, hs, hlt⟩
  clear h hs hlt hta
  go_enter Tryz.func130, Tryz.ntmps130
  go_wp2_with fail
  refine Calls.mono ct ?_
  rintro e w1 ⟨⟨v, rfl, ho⟩, hb⟩
  have hr1 : Rd w1 B s f := Box.over HR.out.1 hb
  have hX : SlX (fun b => b < w.heap.size) IntE 1 w1 v l := by
    obtain ⟨a, cap, rfl, hc, h2⟩ := ints_of_own ho
    refine ⟨a, cap, rfl, hc, fun hl => ?_⟩
    obtain ⟨b, off, rfl, hbw, h3⟩ := h2 hl
    exact ⟨b, off, rfl, hbw, fun e => by have := (ho.lt b rfl).1; omega, h3⟩
  have HX : Hid (SlX (fun b => b < w.heap.size) IntE 1 w1 v l ∧ Kept (fun b => b = B) w w1) := ⟨hX, kept_of_below _ hb⟩
  obtain ⟨⟨va, vc, rfl⟩, _⟩ := own_shape ho
  by_cases he : er = 0
  · have heb : (((er : Nat) : Int) == 0) = true := by simpa using he
    have HP1 : Hid (pNums s.data.toList = some (l, s.data.toList.drop u)) := by unfold Hid; rw [HP.out, if_pos he]
    cases f with
    | true =>
      have cc := cut_no hr1 (u : Int) true (.inl rfl)
      clear ho hb hr1 hX ct he
      go_wp2_with fail
      refine cc.mono ?_
      rintro e w2 ⟨rfl, hr2, hk2⟩
      go_wp2_with fail
      go_ret
      exact ⟨_, l, s, true, rfl, HX.out.1.kept (hk2.mono fun b hb => by rw [hb]; exact HR.out.2.2) (fun _ _ h => h), hr2, step_was _ _ (Nat.le_refl _), HX.out.2.trans hk2 (fun _ h => .inl h)⟩
    | false =>
      have cc := cut_yes hr1 u (HU.out he) HR.out.2.1
      clear ho hb hr1 hX ct he
      go_wp2_with fail
      refine cc.mono ?_
      rintro e w2 ⟨rfl, hr2, hk2⟩
      go_wp2_with fail
      go_ret
      exact ⟨_, l, _, false, rfl, HX.out.1.kept (hk2.mono fun b hb => by rw [hb]; exact HR.out.2.2) (fun _ _ h => h), hr2, by rw [ext_drop]; exact step_ok HP1.out (drop_le _ _), HX.out.2.trans hk2 (fun _ h => .inl h)⟩
  · have heb : (((er : Nat) : Int) == 0) = false := by simpa using he
    have HP1 : Hid (pNums s.data.toList = none) := by unfold Hid; rw [HP.out, if_neg he]
    have cc := cut_no hr1 (u : Int) false (.inr rfl)
    clear ho hb hr1 hX ct he
    go_wp2_with fail
    refine cc.mono ?_
    rintro e w2 ⟨rfl, hr2, hk2⟩
    go_wp2_with fail
    go_ret
    refine ⟨_, l, s, true, rfl, HX.out.1.kept (hk2.mono fun b hb => by rw [hb]; exact HR.out.2.2) (fun _ _ h => h), hr2, ?_, HX.out.2.trans hk2 (fun _ h => .inl h)⟩
    cases f with
    | true => exact step_was _ _ (Nat.le_refl _)
    | false => exact step_no _ HP1.out (Nat.le_refl _)
end Go.Proofs.YtdjobjbkpagnaaaGreat
/-
  The contracts of schema's takeColumn and takeProjection.
-/
namespace Go.Proofs.YtdjobjbkpagnaaaGreat
open Go.RowKit Leb

theorem col_step {s s1 s2 s3 : By} {f f1 f2 f3 : Bool} {a : ByteArray} {b c : BitVec 64} (h1 : RdStep pName s f a s1 f1) (h2 : RdStep pNum s1 f1 b s2 f2) (h3 : RdStep (pTo 1) s2 f2 c s3 f3) : RdStep pColC s f ⟨a, b, decide (c.toInt = 1)⟩ s3 f3 := step3 (fun (a : ByteArray) (b c : BitVec 64) => (⟨a, b, decide (c.toInt = 1)⟩ : Col)) h1 h2 h3
theorem pj_step {s s1 s2 s3 : By} {f f1 f2 f3 : Bool} {a : ByteArray} {b : List (BitVec 64)} {c : BitVec 64} (h1 : RdStep pName s f a s1 f1) (h2 : RdStep pNums s1 f1 b s2 f2) (h3 : RdStep pNum s2 f2 c s3 f3) : RdStep pPjC s f ⟨a, b, c⟩ s3 f3 := step3 (fun a b c => (⟨a, b, c⟩ : Pj)) h1 h2 h3
theorem tb_step {s s1 s2 s3 : By} {f f1 f2 f3 : Bool} {a : ByteArray} {b : List Col} {c : List Pj} (h1 : RdStep pName s f a s1 f1) (h2 : RdStep (pList 8 pColC) s1 f1 b s2 f2) (h3 : RdStep (pList 6 pPjC) s2 f2 c s3 f3) : RdStep pTbC s f ⟨a, b, c⟩ s3 f3 := step3 (fun a b c => (⟨a, b, c⟩ : Tb)) h1 h2 h3
theorem step_size {α : Type} {p : By → Option (α × By)} {s s2 : ByteArray} {f f2 : Bool} {x : α} (h : RdStep p s.data.toList f x s2.data.toList f2) (hs : s.size ≤ 1000000) : s2.size ≤ 1000000 := by
  have := h.1
  rw [size_list, size_list] at this
  omega
/-- What stays while parts of a struct are read: the reader, and the struct's own block. -/
structure Tk (w W : World) (B : Nat) (t : TypeId) (z : Array Value) (s : ByteArray) (f : Bool) : Prop where
  rd : Rd W B s f
  box : Box W w.heap.size t z
  kp : Kept (fun b => b = B) w W
  lt : B < w.heap.size
  sz : s.size ≤ 1000000
theorem Tk.next {w W W2 : World} {B : Nat} {t : TypeId} {z : Array Value} {s s2 : ByteArray} {f f2 : Bool} (h : Tk w W B t z s f) (hr : Rd W2 B s2 f2) (hk : Kept (fun b => b = B) W W2) (hs : s2.size ≤ 1000000) : Tk w W2 B t z s2 f2 :=
  ⟨hr, h.box.kept hk (by have := h.lt; omega), h.kp.trans hk (fun _ h => .inl h), h.lt, hs⟩
theorem tk_new {w : World} {B : Nat} {s : ByteArray} {f : Bool} (h : Rd w B s f) (hs : s.size ≤ 1000000) (z : Array Value) (t : TypeId) : Tk w (w.alloc (.cells z t)) B t z s f :=
  ⟨Box.alloc h _, box_new w z t, (Kept.refl _ w).alloc _, Box.lt h, hs⟩
theorem Tk.up {w W : World} {B : Nat} {t : TypeId} {z : Array Value} {s : ByteArray} {f : Bool} (h : Tk w W B t z s f) : w.heap.size < W.heap.size := h.box.lt
/-- The struct is written. -/
theorem Tk.fill {w W : World} {B : Nat} {t : TypeId} {z : Array Value} {s : ByteArray} {f : Bool} (h : Tk w W B t z s f) (c : Array Value) : Rd (W.setRow w.heap.size c) B s f ∧ Box (W.setRow w.heap.size c) w.heap.size t c ∧ Kept (fun b => b = B) w (W.setRow w.heap.size c) ∧ Kept (fun b => b = w.heap.size) W (W.setRow w.heap.size c) := by
  have hK : Kept (fun b => b = w.heap.size) W (W.setRow w.heap.size c) := ⟨rfl, rfl, rfl, by simp, fun k _ hk => setRow_other W _ k c (fun e => hk e)⟩
  refine ⟨Box.rowOther h.rd (by have := h.lt; omega) c, h.box.setRow c, h.kp.trans hK (fun k hk => .inr (by rw [hk]; exact Nat.le_refl _)), hK⟩
set_option maxHeartbeats 2000000 in
theorem takeCol_any {w : World} {B : Nat} {s : ByteArray} {f : Bool} (h : Rd w B s f) (hs : s.size ≤ 1000000) :
    Calls Tryz.prog 93 #[.pointer (some ⟨B, 0, none⟩)] w (RdAns B (rep3 ColX) pColC s f w) := by
  have HT : Hid (Tk w (w.alloc (.cells #[.string ⟨#[]⟩, .int .i64 0, .bool false] 53)) B 53 #[.string ⟨#[]⟩, .int .i64 0, .bool false] s f) := tk_new h hs _ _
  clear h hs
  go_enter Tryz.func93, Tryz.ntmps93
  go_wp2_with fail
  refine Calls.mono (name_rd HT.out.rd HT.out.sz) ?_
  rintro e w1 ⟨v1, a, s1, f1, rfl, hv, hr1, st1, k1⟩
  have ev : v1 = .string a := hv
  subst ev
  have H1 : Hid (Tk w w1 B 53 #[.string ⟨#[]⟩, .int .i64 0, .bool false] s1 f1 ∧ RdStep pName s.data.toList f a s1.data.toList f1) := ⟨HT.out.next hr1 k1 (step_size st1 HT.out.sz), st1⟩
  clear hv hr1 st1 k1
  go_wp2_with fail
  refine Calls.mono (number_any H1.out.1.rd H1.out.1.sz) ?_
  rintro e w2 ⟨v2, b, s2, f2, rfl, hv, hr2, st2, k2⟩
  have ev : v2 = .int .i64 b.toInt := hv
  subst ev
  have H2 : Hid (Tk w w2 B 53 #[.string ⟨#[]⟩, .int .i64 0, .bool false] s2 f2 ∧ RdStep pNum s1.data.toList f1 b s2.data.toList f2) := ⟨H1.out.1.next hr2 k2 (step_size st2 H1.out.1.sz), st2⟩
  clear hv hr2 st2 k2
  go_wp2_with fail
  refine Calls.mono (upTo_any H2.out.1.rd H2.out.1.sz 1 (by decide)) ?_
  rintro e w3 ⟨c, s3, f3, rfl, hr3, st3, k3, _, _⟩
  have H3 : Hid (Tk w w3 B 53 #[.string ⟨#[]⟩, .int .i64 0, .bool false] s3 f3 ∧ RdStep (pTo 1) s2.data.toList f2 c s3.data.toList f3) := ⟨H2.out.1.next hr3 k3 (step_size st3 H2.out.1.sz), st3⟩
  clear hr3 st3 k3
  obtain ⟨q, hq⟩ : ∃ q, (c.toInt == 1) = q := ⟨_, rfl⟩
  have HQ : Hid (decide (c.toInt = 1) = q) := by unfold Hid; rw [← hq, Bool.eq_iff_iff]; simp
  obtain ⟨bx, hbx⟩ : ∃ x, x = b.toInt := ⟨_, rfl⟩
  have HBX : Hid (bx = b.toInt) := hbx
  rw [← hbx]
  clear hbx
  have hone : (#[.string a, .int .i64 bx, .bool q] : Array Value).all (fun c => c.oneCell') = true := one_three (by intro u hu; simp only [List.mem_cons, List.not_mem_nil, or_false] at hu; rcases hu with rfl | rfl | rfl <;> rfl)
  go_wp2_with (refine wpList_store_row rfl 53 _ _ rfl w.heap.size _ rfl rfl 53 _ H3.out.1.box size_col rfl hone ?_)
  have hF := H3.out.1.fill #[.string a, .int .i64 bx, .bool q]
  exact bodyPost_ret (res_box Tryz.results93 _ rfl hF.2.1 Tryz.underlying53 rfl size_col) rfl ⟨_, ⟨a, b, decide (c.toInt = 1)⟩, s3, f3, rfl, ⟨_, _, _, rfl, by rw [HQ.out, HBX.out]; rfl⟩, hF.1, col_step H1.out.2 H2.out.2 H3.out.2, hF.2.2.1⟩
set_option maxHeartbeats 2000000 in
theorem takePj_any {w : World} {B : Nat} {s : ByteArray} {f : Bool} (h : Rd w B s f) (hs : s.size ≤ 1000000) :
    Calls Tryz.prog 95 #[.pointer (some ⟨B, 0, none⟩)] w (RdAns B (rep3 PjX) pPjC s f w) := by
  have HT : Hid (Tk w (w.alloc (.cells #[.string ⟨#[]⟩, .slice none 0 0, .int .i64 0] 26)) B 26 #[.string ⟨#[]⟩, .slice none 0 0, .int .i64 0] s f) := tk_new h hs _ _
  clear h hs
  go_enter Tryz.func95, Tryz.ntmps95
  go_wp2_with fail
  refine Calls.mono (name_rd HT.out.rd HT.out.sz) ?_
  rintro e w1 ⟨v1, a, s1, f1, rfl, hv, hr1, st1, k1⟩
  have ev : v1 = .string a := hv
  subst ev
  have H1 : Hid (Tk w w1 B 26 #[.string ⟨#[]⟩, .slice none 0 0, .int .i64 0] s1 f1 ∧ RdStep pName s.data.toList f a s1.data.toList f1) := ⟨HT.out.next hr1 k1 (step_size st1 HT.out.sz), st1⟩
  clear hv hr1 st1 k1
  go_wp2_with fail
  refine Calls.mono (numbers_rd H1.out.1.rd H1.out.1.sz) ?_
  rintro e w2 ⟨v2, b, s2, f2, rfl, hv, hr2, st2, k2⟩
  have H2 : Hid (Tk w w2 B 26 #[.string ⟨#[]⟩, .slice none 0 0, .int .i64 0] s2 f2 ∧ RdStep pNums s1.data.toList f1 b s2.data.toList f2) := ⟨H1.out.1.next hr2 k2 (step_size st2 H1.out.1.sz), st2⟩
  have HV : Hid (SlX (fun x => x < w1.heap.size) IntE 1 w2 v2 b) := hv
  obtain ⟨aI, nI, capI, rfl, _⟩ := (HV.out.is (E' := IntE) fun _ _ h => h).slice
  clear hv hr2 st2 k2
  go_wp2_with fail
  refine Calls.mono (number_any H2.out.1.rd H2.out.1.sz) ?_
  rintro e w3 ⟨v3, c, s3, f3, rfl, hv, hr3, st3, k3⟩
  have ev : v3 = .int .i64 c.toInt := hv
  subst ev
  have H3 : Hid (Tk w w3 B 26 #[.string ⟨#[]⟩, .slice none 0 0, .int .i64 0] s3 f3 ∧ RdStep pNum s2.data.toList f2 c s3.data.toList f3 ∧ SlX (fun x => x < w1.heap.size) IntE 1 w3 (.slice aI nI capI) b) := ⟨H2.out.1.next hr3 k3 (step_size st3 H2.out.1.sz), st3, HV.out.kept (k3.mono fun x hx => by rw [hx]; have := H1.out.1.lt; have := H1.out.1.up; omega) (fun _ _ h => h)⟩
  clear hv hr3 st3 k3
  obtain ⟨cx, hcx⟩ : ∃ x, x = c.toInt := ⟨_, rfl⟩
  have HCX : Hid (cx = c.toInt) := hcx
  rw [← hcx]
  clear hcx
  have hone : (#[.string a, .slice aI nI capI, .int .i64 cx] : Array Value).all (fun c => c.oneCell') = true := one_three (by intro u hu; simp only [List.mem_cons, List.not_mem_nil, or_false] at hu; rcases hu with rfl | rfl | rfl <;> rfl)
  go_wp2_with (refine wpList_store_row rfl 26 _ _ rfl w.heap.size _ rfl rfl 26 _ H3.out.1.box size_pj rfl hone ?_)
  have hF := H3.out.1.fill #[.string a, .slice aI nI capI, .int .i64 cx]
  have hX := (H3.out.2.2.kept (hF.2.2.2.mono fun x hx => by rw [hx]; exact H1.out.1.up) (fun _ _ h => h)).other (H := fun x => x < w.heap.size) (E' := IntE) (fun x _ hx => by have := H1.out.1.up; omega) (fun _ _ h => h)
  exact bodyPost_ret (res_box Tryz.results95 _ rfl hF.2.1 Tryz.underlying26 rfl size_pj) rfl ⟨_, ⟨a, b, c⟩, s3, f3, rfl, ⟨_, _, _, rfl, ⟨_, by rw [HCX.out], hX⟩⟩, hF.1, pj_step H1.out.2 H2.out.2 H3.out.2.1, hF.2.2.1⟩
end Go.Proofs.YtdjobjbkpagnaaaGreat
