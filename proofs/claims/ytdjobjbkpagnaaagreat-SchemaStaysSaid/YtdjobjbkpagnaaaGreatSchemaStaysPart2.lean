/-
  2 texts, one behind the other: XDone, WSchemaStays.
-/
import Derived.Test.YtdjobjbkpagnaaaGreatSchemaStaysPart1
import Derived.Test.YtdjobjbkpagnaaaGreatJoin10
/-
  The contract of law 25's done: what tables become, by the program and by the document, is one and the same.
-/
namespace Go.Proofs.YtdjobjbkpagnaaaGreat
open Go.RowKit Go.Shelf

theorem results_tmp4 {fn : Func} {t u v x : Tmp} (h : fn.results = #[.tmp t, .tmp u, .tmp v, .tmp x]) (tmps : Array Value) (P : Program) (w : World) :
    (results fn tmps).run P w = .ok (.tuple #[tmps.getD t undef, tmps.getD u undef, tmps.getD v undef, tmps.getD x undef]) w := by
  simp [results, h]
/-- Both answers. -/
def DoneAns (w : World) (r : List Tb × Int) (e : Ending) (w' : World) : Prop := (∃ v1 v2, e = .returned (.tuple #[v1, .int .i64 r.2, v2, .int .i64 r.2]) ∧ TabsIs w' v1 r.1 ∧ TabsIs w' v2 r.1) ∧ Below w.heap.size w w'
theorem ch_one {l : List Tb} {c : Chg} {k : Int} (hk : k = c.kind.toInt) (h : k = 1) : chF l c = createF l c.name c.cols := by unfold chF; rw [← hk, if_pos h]
theorem ch_two {l : List Tb} {c : Chg} {k : Int} (hk : k = c.kind.toInt) (h : k = 2) : chF l c = dropF l c.name := by unfold chF; rw [← hk, if_neg (by omega), if_pos h]
theorem ch_three {l : List Tb} {c : Chg} {k : Int} (hk : k = c.kind.toInt) (h : k = 3) : chF l c = addF l c.name c.pj := by unfold chF; rw [← hk, if_neg (by omega), if_neg (by omega), if_pos h]
theorem ch_else {l : List Tb} {c : Chg} {k : Int} (hk : k = c.kind.toInt) (h1 : k ≠ 1) (h2 : k ≠ 2) (h3 : k ≠ 3) : chF l c = remF l c.name c.which := by unfold chF; rw [← hk, if_neg h1, if_neg h2, if_neg h3]
set_option maxRecDepth 4000 in
set_option maxHeartbeats 4000000 in
theorem done_any {w : World} {v : Value} {l : List Tb} (h : TabsIs w v l) (hl : litL l) {c : Chg} {cs : Array Value} (hc : ChE w c cs.toList) (hs : smC c) :
    Calls Tryz.prog 10 #[v, .agg cs] w (DoneAns w (chF l c)) := by
  obtain ⟨aC, nC, capC, aI, nI, capI, rfl, hnC, hnI, hC, hI⟩ := ch_cells hc
  obtain ⟨a, m, cap, rfl, _⟩ := h.slice
  obtain ⟨kd, hkd⟩ : ∃ kd, kd = c.kind.toInt := ⟨_, rfl⟩
  obtain ⟨ky, hky⟩ : ∃ ky, ky = c.pj.keys.toInt := ⟨_, rfl⟩
  rw [← hkd, ← hky]
  have HP : Hid (PjE w c.pj [.string c.pj.name, .slice aI nI capI, .int .i64 ky]) := ⟨_, by rw [hky], hI⟩
  have HH : Hid (TabsIs w (.slice a m cap) l ∧ litL l ∧ ColsIs w (.slice aC nC capC) c.cols ∧ smC c ∧ kd = c.kind.toInt) := ⟨h, hl, hC, hs, hkd⟩
  obtain ⟨n1, hn1⟩ : ∃ n1, n1 = c.name := ⟨_, rfl⟩
  obtain ⟨n2, hn2⟩ : ∃ n2, n2 = c.which := ⟨_, rfl⟩
  obtain ⟨n3, hn3⟩ : ∃ n3, n3 = c.pj.name := ⟨_, rfl⟩
  rw [← hn1, ← hn2, ← hn3]
  rw [← hn3] at HP
  have HNN : Hid (c.name = n1 ∧ c.which = n2) := ⟨hn1.symm, hn2.symm⟩
  obtain ⟨W0, hW0⟩ : ∃ W0, W0 = w.alloc (.cells #[.int .i64 kd, .string n1, .string n2, .slice aC nC capC, .string n3, .slice aI nI capI, .int .i64 ky] 28) := ⟨_, rfl⟩
  have HB0 : Hid (Below w.heap.size w W0 ∧ Box W0 w.heap.size 28 #[.int .i64 kd, .string n1, .string n2, .slice aC nC capC, .string n3, .slice aI nI capI, .int .i64 ky]) := by unfold Hid; rw [hW0]; exact ⟨below1 _ _, box_new _ _ _⟩
  have HW0 : Hid (W0 = w.alloc (.cells #[.int .i64 kd, .string n1, .string n2, .slice aC nC capC, .string n3, .slice aI nI capI, .int .i64 ky] 28)) := hW0
  clear h hl hc hs hnC hnI hC hI hkd hky hn1 hn2 hn3 hW0
  have f0 := HB0.out.2.cell 0 (.int .i64 kd) rfl
  have f1 := HB0.out.2.cell 1 (.string n1) rfl
  have f2 := HB0.out.2.cell 2 (.string n2) rfl
  have f3 := HB0.out.2.cell 3 (.slice aC nC capC) rfl
  have f4 := HB0.out.2.cell 4 (.string n3) rfl
  have f5 := HB0.out.2.cell 5 (.slice aI nI capI) rfl
  have f6 := HB0.out.2.cell 6 (.int .i64 ky) rfl
  by_cases k1 : kd = 1
  · have HE : Hid (chF l c = createF l n1 c.cols) := by unfold Hid; rw [← HNN.out.1]; exact ch_one HH.out.2.2.2.2 k1
    subst k1
    have hn : n1.size ≤ 1000 := by rw [← HNN.out.1]; have := HH.out.2.2.2.1.1; omega
    have c1 := create_any (HH.out.1.over stays_tb HB0.out.1) HH.out.2.1 (HH.out.2.2.1.over stays_col HB0.out.1) HH.out.2.2.2.1.cols.1 HH.out.2.2.2.1.cols.2 n1 hn
    have HC2 : Hid (∀ W, Below w.heap.size w W → Calls Tryz.prog 28 #[.slice a m cap, .string n1, .slice aC nC capC] W (XAns W (createF l n1 c.cols))) := fun W hW => refCreate_any (HH.out.1.over stays_tb hW) HH.out.2.1 (HH.out.2.2.1.over stays_col hW) HH.out.2.2.2.1.cols.1 HH.out.2.2.2.1.cols.2 n1 hn
    clear hn
    go_enter Tryz.func10, Tryz.ntmps10
    go_wp2_with fail
    rw [← HW0.out]
    go_wp2_with fail
    refine Calls.mono c1 ?_
    rintro e w1 ⟨⟨v1, rfl, hT1⟩, hb1⟩
    have H1 : Hid (TabsIs w1 v1 (createF l n1 c.cols).1 ∧ Below W0.heap.size W0 w1 ∧ Below w.heap.size w w1) := ⟨hT1, hb1, HB0.out.1.trans (hb1.mono HB0.out.1.size)⟩
    have g1 := (HB0.out.2.over hb1).cell 1 (.string n1) rfl
    have g3 := (HB0.out.2.over hb1).cell 3 (.slice aC nC capC) rfl
    obtain ⟨a1, m1, p1, rfl, _⟩ := hT1.slice
    clear c1 hT1 hb1 f0 f1 f2 f3 f4 f5 f6
    go_wp2_with fail
    refine Calls.mono (HC2.out _ H1.out.2.2) ?_
    rintro e w2 ⟨⟨v2, rfl, hT2⟩, hb2⟩
    have H2 : Hid (TabsIs w2 v2 (createF l n1 c.cols).1 ∧ TabsIs w2 (.slice a1 m1 p1) (createF l n1 c.cols).1 ∧ Below w.heap.size w w2) := ⟨hT2, H1.out.1.over stays_tb hb2, H1.out.2.2.trans (hb2.mono H1.out.2.2.size)⟩
    obtain ⟨a2, m2, p2, rfl, _⟩ := hT2.slice
    clear hT2 hb2 g1 g3
    go_wp2_with fail
    (try simp only [Exit.inBlock, Exit.then]); refine bodyPost_ret (results_tmp4 rfl _ _ _) rfl ?_
    rw [HE.out]
    exact ⟨⟨_, _, rfl, H2.out.2.1, H2.out.1⟩, H2.out.2.2⟩
  · by_cases k2 : kd = 2
    · have HE : Hid (chF l c = dropF l n1) := by unfold Hid; rw [← HNN.out.1]; exact ch_two HH.out.2.2.2.2 k2
      subst k2
      have c1 := drop_any (HH.out.1.over stays_tb HB0.out.1) HH.out.2.1 n1
      have HC2 : Hid (∀ W, Below w.heap.size w W → Calls Tryz.prog 30 #[.slice a m cap, .string n1] W (XAns W (dropF l n1))) := fun W hW => refDrop_any (HH.out.1.over stays_tb hW) HH.out.2.1 n1
      go_enter Tryz.func10, Tryz.ntmps10
      go_wp2_with fail
      rw [← HW0.out]
      go_wp2_with fail
      refine Calls.mono c1 ?_
      rintro e w1 ⟨⟨v1, rfl, hT1⟩, hb1⟩
      have H1 : Hid (TabsIs w1 v1 (dropF l n1).1 ∧ Below W0.heap.size W0 w1 ∧ Below w.heap.size w w1) := ⟨hT1, hb1, HB0.out.1.trans (hb1.mono HB0.out.1.size)⟩
      have g1 := (HB0.out.2.over hb1).cell 1 (.string n1) rfl
      obtain ⟨a1, m1, p1, rfl, _⟩ := hT1.slice
      clear c1 hT1 hb1 f0 f1 f2 f3 f4 f5 f6
      go_wp2_with fail
      refine Calls.mono (HC2.out _ H1.out.2.2) ?_
      rintro e w2 ⟨⟨v2, rfl, hT2⟩, hb2⟩
      have H2 : Hid (TabsIs w2 v2 (dropF l n1).1 ∧ TabsIs w2 (.slice a1 m1 p1) (dropF l n1).1 ∧ Below w.heap.size w w2) := ⟨hT2, H1.out.1.over stays_tb hb2, H1.out.2.2.trans (hb2.mono H1.out.2.2.size)⟩
      obtain ⟨a2, m2, p2, rfl, _⟩ := hT2.slice
      clear hT2 hb2 g1
      go_wp2_with fail
      (try simp only [Exit.inBlock, Exit.then]); refine bodyPost_ret (results_tmp4 rfl _ _ _) rfl ?_
      rw [HE.out]
      exact ⟨⟨_, _, rfl, H2.out.2.1, H2.out.1⟩, H2.out.2.2⟩
    · by_cases k3 : kd = 3
      · have HE : Hid (chF l c = addF l n1 c.pj) := by unfold Hid; rw [← HNN.out.1]; exact ch_three HH.out.2.2.2.2 k3
        subst k3
        have c1 := add_any (HH.out.1.over stays_tb HB0.out.1) HH.out.2.1 n1 (stays_pj _ _ _ _ HP.out HB0.out.1) HH.out.2.2.2.1.pj
        have HC2 : Hid (∀ W, Below w.heap.size w W → Calls Tryz.prog 31 #[.slice a m cap, .string n1, .agg #[.string n3, .slice aI nI capI, .int .i64 ky]] W (XAns W (addF l n1 c.pj))) := fun W hW => refAdd_any (HH.out.1.over stays_tb hW) HH.out.2.1 n1 (stays_pj _ _ _ _ HP.out hW) HH.out.2.2.2.1.pj
        go_enter Tryz.func10, Tryz.ntmps10
        go_wp2_with fail
        rw [← HW0.out]
        go_wp2_with fail
        refine Calls.mono c1 ?_
        rintro e w1 ⟨⟨v1, rfl, hT1⟩, hb1⟩
        have H1 : Hid (TabsIs w1 v1 (addF l n1 c.pj).1 ∧ Below W0.heap.size W0 w1 ∧ Below w.heap.size w w1) := ⟨hT1, hb1, HB0.out.1.trans (hb1.mono HB0.out.1.size)⟩
        have g1 := (HB0.out.2.over hb1).cell 1 (.string n1) rfl
        have g4 := (HB0.out.2.over hb1).cell 4 (.string n3) rfl
        have g5 := (HB0.out.2.over hb1).cell 5 (.slice aI nI capI) rfl
        have g6 := (HB0.out.2.over hb1).cell 6 (.int .i64 ky) rfl
        obtain ⟨a1, m1, p1, rfl, _⟩ := hT1.slice
        clear c1 hT1 hb1 f0 f1 f2 f3 f4 f5 f6
        go_wp2_with fail
        refine Calls.mono (HC2.out _ H1.out.2.2) ?_
        rintro e w2 ⟨⟨v2, rfl, hT2⟩, hb2⟩
        have H2 : Hid (TabsIs w2 v2 (addF l n1 c.pj).1 ∧ TabsIs w2 (.slice a1 m1 p1) (addF l n1 c.pj).1 ∧ Below w.heap.size w w2) := ⟨hT2, H1.out.1.over stays_tb hb2, H1.out.2.2.trans (hb2.mono H1.out.2.2.size)⟩
        obtain ⟨a2, m2, p2, rfl, _⟩ := hT2.slice
        clear hT2 hb2 g1 g4 g5 g6
        go_wp2_with fail
        (try simp only [Exit.inBlock, Exit.then]); refine bodyPost_ret (results_tmp4 rfl _ _ _) rfl ?_
        rw [HE.out]
        exact ⟨⟨_, _, rfl, H2.out.2.1, H2.out.1⟩, H2.out.2.2⟩
      · have HE : Hid (chF l c = remF l n1 n2) := by unfold Hid; rw [← HNN.out.1, ← HNN.out.2]; exact ch_else HH.out.2.2.2.2 k1 k2 k3
        have c1 := remove_any (HH.out.1.over stays_tb HB0.out.1) HH.out.2.1 n1 n2
        have HC2 : Hid (∀ W, Below w.heap.size w W → Calls Tryz.prog 32 #[.slice a m cap, .string n1, .string n2] W (XAns W (remF l n1 n2))) := fun W hW => refRemove_any (HH.out.1.over stays_tb hW) HH.out.2.1 n1 n2
        have q1 : (kd == 1) = false := by simp [k1]
        have q2 : (kd == 2) = false := by simp [k2]
        have q3 : (kd == 3) = false := by simp [k3]
        clear k1 k2 k3
        go_enter Tryz.func10, Tryz.ntmps10
        go_wp2_with fail
        rw [← HW0.out]
        go_wp2_with fail
        refine Calls.mono c1 ?_
        rintro e w1 ⟨⟨v1, rfl, hT1⟩, hb1⟩
        have H1 : Hid (TabsIs w1 v1 (remF l n1 n2).1 ∧ Below W0.heap.size W0 w1 ∧ Below w.heap.size w w1) := ⟨hT1, hb1, HB0.out.1.trans (hb1.mono HB0.out.1.size)⟩
        have g1 := (HB0.out.2.over hb1).cell 1 (.string n1) rfl
        have g2 := (HB0.out.2.over hb1).cell 2 (.string n2) rfl
        obtain ⟨a1, m1, p1, rfl, _⟩ := hT1.slice
        clear c1 hT1 hb1 f0 f1 f2 f3 f4 f5 f6
        go_wp2_with fail
        refine Calls.mono (HC2.out _ H1.out.2.2) ?_
        rintro e w2 ⟨⟨v2, rfl, hT2⟩, hb2⟩
        have H2 : Hid (TabsIs w2 v2 (remF l n1 n2).1 ∧ TabsIs w2 (.slice a1 m1 p1) (remF l n1 n2).1 ∧ Below w.heap.size w w2) := ⟨hT2, H1.out.1.over stays_tb hb2, H1.out.2.2.trans (hb2.mono H1.out.2.2.size)⟩
        obtain ⟨a2, m2, p2, rfl, _⟩ := hT2.slice
        clear hT2 hb2 g1 g2
        go_wp2_with fail
        (try simp only [Exit.inBlock, Exit.then]); refine bodyPost_ret (results_tmp4 rfl _ _ _) rfl ?_
        rw [HE.out]
        exact ⟨⟨_, _, rfl, H2.out.2.1, H2.out.1⟩, H2.out.2.2⟩
end Go.Proofs.YtdjobjbkpagnaaaGreat
/-
  The walk of law 25's SchemaStays: whatever is created, added and taken away, tables may be, and each of them has a projection with all its columns; what is refused changes nothing.
-/
namespace Go.Proofs.YtdjobjbkpagnaaaGreat
open Go.RowKit Go.Shelf

theorem at7 {w : World} {a : Option Addr} {n cap : Nat} {l : List Chg} (h : ChgsIs w (.slice a n cap) l) {k : Nat} (hk : k < n) :
    ∃ (x : Chg) (kd ky : Int) (n1 n2 n3 : ByteArray) (aC : Option Addr) (nC capC : Nat) (aI : Option Addr) (nI capI : Nat) (b off : Nat), a = some ⟨b, off, none⟩ ∧ ChE w x (#[.int .i64 kd, .string n1, .string n2, .slice aC nC capC, .string n3, .slice aI nI capI, .int .i64 ky] : Array Value).toList ∧
      w.cell? ⟨b, off + k * 7, none⟩ = some (.int .i64 kd) ∧ w.cell? ⟨b, off + k * 7 + 1, none⟩ = some (.string n1) ∧ w.cell? ⟨b, off + k * 7 + 2, none⟩ = some (.string n2) ∧ w.cell? ⟨b, off + k * 7 + 3, none⟩ = some (.slice aC nC capC) ∧ w.cell? ⟨b, off + k * 7 + 4, none⟩ = some (.string n3) ∧ w.cell? ⟨b, off + k * 7 + 5, none⟩ = some (.slice aI nI capI) ∧ w.cell? ⟨b, off + k * 7 + 6, none⟩ = some (.int .i64 ky) := by
  obtain ⟨x, cs, b, off, h1, h2, _, h3, h4, h5⟩ := h.at hk
  obtain ⟨vc, vi, rfl, hC, hI⟩ := h4
  obtain ⟨aC, nC, capC, rfl, _⟩ := hC.slice
  obtain ⟨aI, nI, capI, rfl, _⟩ := hI.slice
  exact ⟨x, _, _, _, _, _, aC, nC, capC, aI, nI, capI, b, off, h2, ⟨_, _, rfl, hC, hI⟩, h5 0 _ rfl, h5 1 _ rfl, h5 2 _ rfl, h5 3 _ rfl, h5 4 _ rfl, h5 5 _ rfl, h5 6 _ rfl⟩
set_option maxRecDepth 4000 in
set_option maxHeartbeats 8000000 in
theorem walkSchemaStays {w : World} (a : Option Addr) (len cap : Nat) (h0 : ∃ l, ChgsIs w (.slice a len cap) l) :
    Calls Tryz.prog 4 #[.slice a len cap] w fun e w' => e = .returned (.bool true) ∧ Below w.heap.size w w' := by
  obtain ⟨l, h0⟩ := h0
  have HA : Hid (∀ W, Calls Tryz.prog 9 #[] W fun e w' => e = .returned (.bool true) ∧ Below W.heap.size W w') := awake_any
  have HH : Hid (ChgsIs w (.slice a len cap) l) := h0
  clear h0
  go_enter Tryz.func4, Tryz.ntmps4
  go_wp2_with fail
  go_loopg [3, 4] 20 (fun gg s3 s4 wx => ∃ i : Nat, i + gg = 20 ∧ s4 = .int .i64 i ∧ ∃ (a3 : Option Addr) (m3 p3 : Nat), s3 = .slice a3 m3 p3 ∧ ∃ T : List Tb, Hid (TabsIs wx (.slice a3 m3 p3) T ∧ tabsB T = true ∧ Below w.heap.size w wx))
  case atStart => exact ⟨0, by omega, rfl, none, 0, 0, rfl, [], slIs_nil _ _ _ _ _, rfl, Below.refl _ _⟩
  case round =>
    obtain ⟨i, hig, rfl, a3, m3, p3, rfl, T, HT⟩ := hrel
    by_cases hi : i < len
    · have hiI : (i : Int) < (len : Int) := by omega
      by_cases h20 : i < 20
      · have h20I : (i : Int) < 20 := by omega
        have hr2 : IntKind.i64.wrap ((i : Int) + 1) = (i : Int) + 1 := by rw [IntKind.wrap_i64]; omega
        obtain ⟨c, kd, ky, n1, n2, n3, aC, nC, capC, aI, nI, capI, b, off, rfl, hc, g0, g1, g2, g3, g4, g5, g6⟩ := at7 (HH.out.over stays_ch HT.out.2.2) hi
        have HC : Hid (ChE wr c (#[.int .i64 kd, .string n1, .string n2, .slice aC nC capC, .string n3, .slice aI nI capI, .int .i64 ky] : Array Value).toList) := hc
        have HG : Hid (∀ W, Below wr.heap.size wr W → W.cell? ⟨b, off + i * 7, none⟩ = some (.int .i64 kd) ∧ W.cell? ⟨b, off + i * 7 + 1, none⟩ = some (.string n1) ∧ W.cell? ⟨b, off + i * 7 + 2, none⟩ = some (.string n2) ∧ W.cell? ⟨b, off + i * 7 + 3, none⟩ = some (.slice aC nC capC) ∧ W.cell? ⟨b, off + i * 7 + 4, none⟩ = some (.string n3) ∧ W.cell? ⟨b, off + i * 7 + 5, none⟩ = some (.slice aI nI capI) ∧ W.cell? ⟨b, off + i * 7 + 6, none⟩ = some (.int .i64 ky)) := fun W hW =>
          ⟨above_cell g0 ⟨W, hW⟩, above_cell g1 ⟨W, hW⟩, above_cell g2 ⟨W, hW⟩, above_cell g3 ⟨W, hW⟩, above_cell g4 ⟨W, hW⟩, above_cell g5 ⟨W, hW⟩, above_cell g6 ⟨W, hW⟩⟩
        have cl := light_any hc
        clear hc
        go_wp2_with fail
        refine Calls.mono cl ?_
        rintro e w2 ⟨⟨q2, rfl, hq2⟩, hb2⟩
        have HB2 : Hid (Below wr.heap.size wr w2) := hb2
        clear cl hb2 g0 g1 g2 g3 g4 g5 g6
        cases q2 with
        | false =>
          clear hq2
          go_wp2_with fail
          refine Calls.mono (HA.out _) ?_
          rintro e w3 ⟨rfl, hb3⟩
          have HB3 : Hid (Below w.heap.size w w3) := (HT.out.2.2.trans (HB2.out.mono HT.out.2.2.size)).trans (hb3.mono (HT.out.2.2.trans (HB2.out.mono HT.out.2.2.size)).size)
          clear hb3
          go_wp2_with fail
          go_ret
          exact ⟨rfl, HB3.out⟩
        | true =>
          have HS : Hid (smC c) := hq2 rfl
          clear hq2
          obtain ⟨g0, g1, g2, g3, g4, g5, g6⟩ := HG.out w2 HB2.out
          have cd := done_any (HT.out.1.over stays_tb HB2.out) (tabs_lit HT.out.2.1) (stays_ch _ _ _ _ HC.out HB2.out) HS.out
          have HF : Hid (Fit T (chF T c)) := fit_ch T c
          obtain ⟨r, hr⟩ : ∃ r, r = chF T c := ⟨_, rfl⟩
          rw [← hr] at cd HF
          clear hr
          obtain ⟨rl, re⟩ := r
          go_wp2_with fail
          refine Calls.mono cd ?_
          rintro e w3 ⟨⟨v1, v2, rfl, hT1, hT2⟩, hb3⟩
          have HB3 : Hid (Below wr.heap.size wr w3) := HB2.out.trans (hb3.mono HB2.out.size)
          obtain ⟨a1, m1, p1, rfl, hm1, _⟩ := hT1.slice
          obtain ⟨a2, m2, p2, rfl, _⟩ := hT2.slice
          dsimp only at hm1
          have HT1 : Hid (TabsIs w3 (.slice a1 m1 p1) rl ∧ rl.length = m1) := ⟨hT1, hm1⟩
          have HM3 : Hid (T.length = m3) := by obtain ⟨_, _, _, e, hn, _⟩ := HT.out.1.slice; cases e; exact hn
          have HBB : Hid (Below w.heap.size w w3) := HT.out.2.2.trans (HB3.out.mono HT.out.2.2.size)
          clear cd hb3 hT1 hT2 hm1 g0 g1 g2 g3 g4 g5 g6
          rcases HF.out with ⟨e1, e2⟩ | ⟨e1, e2, e3, e4⟩
          · dsimp only at e1 e2
            obtain rfl : m1 = 0 := by have := HT1.out.2; rw [e1] at this; simpa using this.symm
            have hre : (re != 0) = true := by simp [e2]
            clear e1 e2 HF
            dsimp only
            go_wp2_with fail
            go_roundg (20 - (i + 1))
            case measure => clear hr2; omega
            case rel => exact ⟨i + 1, by clear hr2; omega, by go_num, _, _, _, rfl, T, HT.out.1.over stays_tb HB3.out, HT.out.2.1, HBB.out⟩
          · dsimp only at e1 e2 e3 e4
            subst e1
            have HR : Hid (tabsB rl = true ∧ litL rl ∧ rl.length ≤ 8) := ⟨e2, tabs_lit e2, tabs_len e2⟩
            have hm1I : (m1 : Int) ≤ 8 := by have := HR.out.2.2; have := HT1.out.2; omega
            have hm3I : (m3 : Int) ≤ 8 := by have := tabs_len HT.out.2.1; have := HM3.out; omega
            have hl1 : ¬ (m3 : Int) + 1 < (m1 : Int) := by have := HT1.out.2; have := HM3.out; omega
            have hl2 : ¬ (m1 : Int) + 1 < (m3 : Int) := by have := HT1.out.2; have := HM3.out; omega
            have cc := check_any HT1.out.1 HR.out.2.1
            rw [e2] at cc
            unfold errT at cc
            simp only [if_true] at cc
            clear e2 e3 e4 HF
            dsimp only
            go_wp2_with fail
            refine cc.mono ?_
            rintro e w4 ⟨rfl, hb4⟩
            have HB4 : Hid (Below w3.heap.size w3 w4) := hb4
            clear cc hb4
            have hw1 : IntKind.i64.wrap ((m3 : Int) + 1) = (m3 : Int) + 1 := by rw [IntKind.wrap_i64]; omega
            have hw2 : IntKind.i64.wrap ((m1 : Int) + 1) = (m1 : Int) + 1 := by rw [IntKind.wrap_i64]; omega
            go_wp2_with fail
            clear hw1 hw2 hl1 hl2
            go_loopg [9] m1 (fun gk s9 wx => ∃ k : Nat, k + gk = m1 ∧ s9 = .int .i64 k ∧ Hid (Below w3.heap.size w3 wx))
            case atStart => exact ⟨0, by omega, rfl, HB4⟩
            case round =>
              obtain ⟨k, hkg, rfl, HK⟩ := hrel
              obtain ⟨Wk, rfl⟩ : ∃ x, x = wr := ⟨_, rfl⟩
              clear HB4
              by_cases hk : k < m1
              · have hkI : (k : Int) < (m1 : Int) := by omega
                obtain ⟨t, c0, c1, c2, bT, offT, hx, rfl, hE, t0, t1, t2⟩ := at3T (HT1.out.1.over stays_tb HK.out) hk
                obtain ⟨rfl, aC2, nC2, capC2, aP, nP, capP, rfl, rfl, hnC, hnP, hC2, hP2⟩ := tb_cells hE
                have HE : Hid (TbE Wk t [.string t.name, .slice aC2 nC2 capC2, .slice aP nP capP] ∧ rl[k]? = some t ∧ t.projs.length = nP ∧ PjsIs Wk (.slice aP nP capP) t.projs ∧ tbB t = true) := ⟨hE, hx, hnP, hP2, tb_few HR.out.1 hx⟩
                have HX : Hid (Wk.cell? ⟨bT, offT + k * 3, none⟩ = some (.string t.name) ∧ Wk.cell? ⟨bT, offT + k * 3 + 1, none⟩ = some (.slice aC2 nC2 capC2) ∧ Wk.cell? ⟨bT, offT + k * 3 + 2, none⟩ = some (.slice aP nP capP)) := ⟨t0, t1, t2⟩
                have hnPI : (nP : Int) ≤ 6 := by have := tb_six HE.out.2.2.2.2; have := HE.out.2.2.1; omega
                obtain ⟨tn, htn⟩ : ∃ tn, tn = t.name := ⟨_, rfl⟩
                rw [← htn] at HE HX
                have HTN : Hid (t.name = tn) := htn.symm
                clear hx hE hnC hnP hC2 hP2 t0 t1 t2 htn
                go_wp2_with fail
                go_loopg [10, 11] nP (fun gj s10 s11 wx => ∃ j : Nat, j + gj = nP ∧ s11 = .int .i64 j ∧ ∃ q, s10 = .bool q ∧ Hid (q = readB t.cols.length (t.projs.take j) ∧ Below Wk.heap.size Wk wx))
                case atStart => exact ⟨0, by omega, rfl, _, rfl, rfl, Below.refl _ _⟩
                case round =>
                  obtain ⟨j, hjg, rfl, q, rfl, HJ⟩ := hrel
                  have t0 := above_cell HX.out.1 ⟨_, HJ.out.2⟩
                  have t1 := above_cell HX.out.2.1 ⟨_, HJ.out.2⟩
                  have t2 := above_cell HX.out.2.2 ⟨_, HJ.out.2⟩
                  dsimp only at t0 t1 t2
                  by_cases hj : j < nP
                  · have hjI : (j : Int) < (nP : Int) := by omega
                    have hr3 : IntKind.i64.wrap ((j : Int) + 1) = (j : Int) + 1 := by rw [IntKind.wrap_i64]; omega
                    cases q with
                    | true =>
                      go_wp2_with fail
                      refine wp_region_above (by kernel_rfl) (by kernel_rfl) ?_
                      intro hne
                      repeat (go_big_quiet_step (fail))
                      refine wpQuiet_nil ?_
                      rintro _ ⟨kq, rfl⟩
                      have HQ : Hid (true = readB t.cols.length (t.projs.take (j + 1)) ∧ Below Wk.heap.size Wk kq.it) := by
                        obtain ⟨x, hx⟩ : ∃ x, t.projs[j]? = some x := ⟨_, List.getElem?_eq_getElem (by have := HE.out.2.2.1; omega)⟩
                        exact ⟨by rw [read_take hx, ← HJ.out.1]; rfl, HJ.out.2.trans (kq.is.mono HJ.out.2.size)⟩
                      clear hne t0 t1 t2
                      go_wp2_with fail
                      go_roundg (nP - (j + 1))
                      case measure => clear hr2 hr3; omega
                      case rel => exact ⟨j + 1, by clear hr2 hr3; omega, by go_num, _, rfl, HQ⟩
                    | false =>
                      obtain ⟨x, p0, p1, p2, bP, offP, hx, rfl, hPE, u0, u1, u2⟩ := at3P (HE.out.2.2.2.1.over stays_pj HJ.out.2) hj
                      obtain ⟨rfl, aI2, nI2, capI2, rfl, rfl⟩ := pj_cells hPE
                      have HPX : Hid (t.projs[j]? = some x) := hx
                      have hbb := tabs_lit HR.out.1
                      have hlt := hbb.2 t (List.mem_of_getElem? HE.out.2.1)
                      have d3 := fun (kk : Above wr) => super_any (stays_tb _ _ _ _ (stays_tb _ _ _ _ HE.out.1 HJ.out.2) kk.is) (stays_pj _ _ _ _ hPE kk.is) (by have := hlt.2.1; omega) (by have := (hlt.2.2.2.2 x (List.mem_of_getElem? hx)).2; omega)
                      obtain ⟨s, hs⟩ : ∃ s, s = superB t.cols.length x.cols := ⟨_, rfl⟩
                      have HSS : Hid (superB t.cols.length x.cols = s) := hs.symm
                      rw [← hs] at d3
                      have k0 := fun (kk : Above wr) => above_cell t0 kk
                      have k1 := fun (kk : Above wr) => above_cell t1 kk
                      have k2 := fun (kk : Above wr) => above_cell t2 kk
                      have k3 := fun (kk : Above wr) => above_cell u0 kk
                      have k4 := fun (kk : Above wr) => above_cell u1 kk
                      have k5 := fun (kk : Above wr) => above_cell u2 kk
                      clear hx hPE hbb hlt hs u0 u1 u2
                      go_wp2_with fail
                      clear t0 t1 t2
                      refine wp_region_above (by kernel_rfl) (by kernel_rfl) ?_
                      intro hne
                      repeat (go_big_quiet_step (fail))
                      go_big_quiet_step (first | (go_at_call 14; exact above_of (d3 _)))
                      repeat (go_big_quiet_step (fail))
                      refine wpQuiet_nil ?_
                      rintro _ ⟨kq, rfl⟩
                      have HQ : Hid (s = readB t.cols.length (t.projs.take (j + 1)) ∧ Below Wk.heap.size Wk kq.it) := by
                        refine ⟨?_, HJ.out.2.trans (kq.is.mono HJ.out.2.size)⟩
                        rw [read_take HPX.out, ← HJ.out.1, HSS.out]; rfl
                      clear d3 k0 k1 k2 k3 k4 k5 hne
                      go_wp2_with fail
                      go_roundg (nP - (j + 1))
                      case measure => clear hr2 hr3; omega
                      case rel => exact ⟨j + 1, by clear hr2 hr3; omega, by go_num, _, rfl, HQ⟩
                  · have hjI : ¬ (j : Int) < (nP : Int) := by omega
                    obtain rfl : j = nP := by omega
                    have hq : q = true := by
                      have h1 := HJ.out.1
                      rw [List.take_of_length_le (by have := HE.out.2.2.1; omega)] at h1
                      rw [h1]
                      exact (tb_parts HE.out.2.2.2.2).2.2.2.2.1
                    subst hq
                    have cf := find_any (HT1.out.1.over stays_tb (HK.out.trans (HJ.out.2.mono HK.out.size))) (by have := HR.out.2.2; omega) tn
                    have hfz : findT rl tn = (k : Int) := by rw [← HTN.out]; exact find_at HR.out.1 HE.out.2.1
                    rw [hfz] at cf
                    have hkk : ((k : Int) != (k : Int)) = false := by simp
                    have hr3 : IntKind.i64.wrap ((k : Int) + 1) = (k : Int) + 1 := by rw [IntKind.wrap_i64]; omega
                    clear hfz
                    go_wp2_with fail
                    refine Calls.mono cf ?_
                    rintro e w6 ⟨rfl, hb6⟩
                    have HB6 : Hid (Below w3.heap.size w3 w6) := (HK.out.trans (HJ.out.2.mono HK.out.size)).trans (hb6.mono (HK.out.trans (HJ.out.2.mono HK.out.size)).size)
                    clear cf hb6 t0 t1 t2
                    go_wp2_with fail
                    go_roundg (m1 - (k + 1))
                    case measure => clear hr2 hr3; omega
                    case rel => exact ⟨k + 1, by clear hr2 hr3; omega, by go_num, HB6⟩
              · have hkI : ¬ (k : Int) < (m1 : Int) := by omega
                go_wp2_with fail
                go_roundg (20 - (i + 1))
                case measure => clear hr2; omega
                case rel => exact ⟨i + 1, by clear hr2; omega, by go_num, _, _, _, rfl, rl, HT1.out.1.over stays_tb HK.out, HR.out.1, HBB.out.trans (HK.out.mono HBB.out.size)⟩
      · have h20I : ¬ (i : Int) < 20 := by omega
        go_wp2_with fail
        refine Calls.mono (HA.out _) ?_
        rintro e w4 ⟨rfl, hb4⟩
        have HB4 : Hid (Below w.heap.size w w4) := HT.out.2.2.trans (hb4.mono HT.out.2.2.size)
        clear hb4
        go_wp2_with fail
        go_ret
        exact ⟨rfl, HB4.out⟩
    · have hiI : ¬ (i : Int) < (len : Int) := by omega
      go_wp2_with fail
      refine Calls.mono (HA.out _) ?_
      rintro e w4 ⟨rfl, hb4⟩
      have HB4 : Hid (Below w.heap.size w w4) := HT.out.2.2.trans (hb4.mono HT.out.2.2.size)
      clear hb4
      go_wp2_with fail
      go_ret
      exact ⟨rfl, HB4.out⟩
end Go.Proofs.YtdjobjbkpagnaaaGreat
