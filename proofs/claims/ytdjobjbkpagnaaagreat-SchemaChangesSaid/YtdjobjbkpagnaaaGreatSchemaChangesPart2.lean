/-
  2 texts, one behind the other: XDone, WSchemaChanges.
-/
import Derived.Test.YtdjobjbkpagnaaaGreatSchemaChangesPart1
import Derived.Test.YtdjobjbkpagnaaaGreatJoin10
/-
  The contract of law 25's done: what tables become, by the program and by the document, is one and the same.
-/
namespace Go.Proofs.YtdjobjbkpagnaaaGreat
open Go.RowKit Go.Shelf

theorem results_tmp4 {fn : Func} {t u v x : Tmp} (h : fn.results = #[.tmp t, .tmp u, .tmp v, .tmp x]) (tmps : Array Value) (P : Program) (w : World) :
    (results fn tmps).run P w = .ok (.tuple #[tmps.getD t undef, tmps.getD u undef, tmps.getD v undef, tmps.getD x undef]) w := by
  simp [results, h]
/-- Both answers. -/
def DoneAns (w : World) (r : List Tb × Int) (e : Ending) (w' : World) : Prop := (∃ v1 v2, e = .returned (.tuple #[v1, .int .i64 r.2, v2, .int .i64 r.2]) ∧ TabsIs w' v1 r.1 ∧ TabsIs w' v2 r.1) ∧ Below w.heap.size w w'
theorem ch_one {l : List Tb} {c : Chg} {k : Int} (hk : k = c.kind.toInt) (h : k = 1) : chF l c = createF l c.name c.cols := by unfold chF; rw [← hk, if_pos h]
theorem ch_two {l : List Tb} {c : Chg} {k : Int} (hk : k = c.kind.toInt) (h : k = 2) : chF l c = dropF l c.name := by unfold chF; rw [← hk, if_neg (by omega), if_pos h]
theorem ch_three {l : List Tb} {c : Chg} {k : Int} (hk : k = c.kind.toInt) (h : k = 3) : chF l c = addF l c.name c.pj := by unfold chF; rw [← hk, if_neg (by omega), if_neg (by omega), if_pos h]
theorem ch_else {l : List Tb} {c : Chg} {k : Int} (hk : k = c.kind.toInt) (h1 : k ≠ 1) (h2 : k ≠ 2) (h3 : k ≠ 3) : chF l c = remF l c.name c.which := by unfold chF; rw [← hk, if_neg h1, if_neg h2, if_neg h3]
set_option maxRecDepth 4000 in
set_option maxHeartbeats 4000000 in
theorem done_any {w : World} {v : Value} {l : List Tb} (h : TabsIs w v l) (hl : litL l) {c : Chg} {cs : Array Value} (hc : ChE w c cs.toList) (hs : smC c) :
    Calls Tryz.prog 10 #[v, .agg cs] w (DoneAns w (chF l c)) := by
  obtain ⟨aC, nC, capC, aI, nI, capI, rfl, hnC, hnI, hC, hI⟩ := ch_cells hc
  obtain ⟨a, m, cap, rfl, _⟩ := h.slice
  obtain ⟨kd, hkd⟩ : ∃ kd, kd = c.kind.toInt := ⟨_, rfl⟩
  obtain ⟨ky, hky⟩ : ∃ ky, ky = c.pj.keys.toInt := ⟨_, rfl⟩
  rw [← hkd, ← hky]
  have HP : Hid (PjE w c.pj [.string c.pj.name, .slice aI nI capI, .int .i64 ky]) := ⟨_, by rw [hky], hI⟩
  have HH : Hid (TabsIs w (.slice a m cap) l ∧ litL l ∧ ColsIs w (.slice aC nC capC) c.cols ∧ smC c ∧ kd = c.kind.toInt) := ⟨h, hl, hC, hs, hkd⟩
  obtain ⟨n1, hn1⟩ : ∃ n1, n1 = c.name := ⟨_, rfl⟩
  obtain ⟨n2, hn2⟩ : ∃ n2, n2 = c.which := ⟨_, rfl⟩
  obtain ⟨n3, hn3⟩ : ∃ n3, n3 = c.pj.name := ⟨_, rfl⟩
  rw [← hn1, ← hn2, ← hn3]
  rw [← hn3] at HP
  have HNN : Hid (c.name = n1 ∧ c.which = n2) := ⟨hn1.symm, hn2.symm⟩
  obtain ⟨W0, hW0⟩ : ∃ W0, W0 = w.alloc (.cells #[.int .i64 kd, .string n1, .string n2, .slice aC nC capC, .string n3, .slice aI nI capI, .int .i64 ky] 28) := ⟨_, rfl⟩
  have HB0 : Hid (Below w.heap.size w W0 ∧ Box W0 w.heap.size 28 #[.int .i64 kd, .string n1, .string n2, .slice aC nC capC, .string n3, .slice aI nI capI, .int .i64 ky]) := by unfold Hid; rw [hW0]; exact ⟨below1 _ _, box_new _ _ _⟩
  have HW0 : Hid (W0 = w.alloc (.cells #[.int .i64 kd, .string n1, .string n2, .slice aC nC capC, .string n3, .slice aI nI capI, .int .i64 ky] 28)) := hW0
  clear h hl hc hs hnC hnI hC hI hkd hky hn1 hn2 hn3 hW0
  have f0 := HB0.out.2.cell 0 (.int .i64 kd) rfl
  have f1 := HB0.out.2.cell 1 (.string n1) rfl
  have f2 := HB0.out.2.cell 2 (.string n2) rfl
  have f3 := HB0.out.2.cell 3 (.slice aC nC capC) rfl
  have f4 := HB0.out.2.cell 4 (.string n3) rfl
  have f5 := HB0.out.2.cell 5 (.slice aI nI capI) rfl
  have f6 := HB0.out.2.cell 6 (.int .i64 ky) rfl
  by_cases k1 : kd = 1
  · have HE : Hid (chF l c = createF l n1 c.cols) := by unfold Hid; rw [← HNN.out.1]; exact ch_one HH.out.2.2.2.2 k1
    subst k1
    have hn : n1.size ≤ 1000 := by rw [← HNN.out.1]; have := HH.out.2.2.2.1.1; omega
    have c1 := create_any (HH.out.1.over stays_tb HB0.out.1) HH.out.2.1 (HH.out.2.2.1.over stays_col HB0.out.1) HH.out.2.2.2.1.cols.1 HH.out.2.2.2.1.cols.2 n1 hn
    have HC2 : Hid (∀ W, Below w.heap.size w W → Calls Tryz.prog 28 #[.slice a m cap, .string n1, .slice aC nC capC] W (XAns W (createF l n1 c.cols))) := fun W hW => refCreate_any (HH.out.1.over stays_tb hW) HH.out.2.1 (HH.out.2.2.1.over stays_col hW) HH.out.2.2.2.1.cols.1 HH.out.2.2.2.1.cols.2 n1 hn
    clear hn
    go_enter Tryz.func10, Tryz.ntmps10
    go_wp2_with fail
    rw [← HW0.out]
    go_wp2_with fail
    refine Calls.mono c1 ?_
    rintro e w1 ⟨⟨v1, rfl, hT1⟩, hb1⟩
    have H1 : Hid (TabsIs w1 v1 (createF l n1 c.cols).1 ∧ Below W0.heap.size W0 w1 ∧ Below w.heap.size w w1) := ⟨hT1, hb1, HB0.out.1.trans (hb1.mono HB0.out.1.size)⟩
    have g1 := (HB0.out.2.over hb1).cell 1 (.string n1) rfl
    have g3 := (HB0.out.2.over hb1).cell 3 (.slice aC nC capC) rfl
    obtain ⟨a1, m1, p1, rfl, _⟩ := hT1.slice
    clear c1 hT1 hb1 f0 f1 f2 f3 f4 f5 f6
    go_wp2_with fail
    refine Calls.mono (HC2.out _ H1.out.2.2) ?_
    rintro e w2 ⟨⟨v2, rfl, hT2⟩, hb2⟩
    have H2 : Hid (TabsIs w2 v2 (createF l n1 c.cols).1 ∧ TabsIs w2 (.slice a1 m1 p1) (createF l n1 c.cols).1 ∧ Below w.heap.size w w2) := ⟨hT2, H1.out.1.over stays_tb hb2, H1.out.2.2.trans (hb2.mono H1.out.2.2.size)⟩
    obtain ⟨a2, m2, p2, rfl, _⟩ := hT2.slice
    clear hT2 hb2 g1 g3
    go_wp2_with fail
    (try simp only [Exit.inBlock, Exit.then]); refine bodyPost_ret (results_tmp4 rfl _ _ _) rfl ?_
    rw [HE.out]
    exact ⟨⟨_, _, rfl, H2.out.2.1, H2.out.1⟩, H2.out.2.2⟩
  · by_cases k2 : kd = 2
    · have HE : Hid (chF l c = dropF l n1) := by unfold Hid; rw [← HNN.out.1]; exact ch_two HH.out.2.2.2.2 k2
      subst k2
      have c1 := drop_any (HH.out.1.over stays_tb HB0.out.1) HH.out.2.1 n1
      have HC2 : Hid (∀ W, Below w.heap.size w W → Calls Tryz.prog 30 #[.slice a m cap, .string n1] W (XAns W (dropF l n1))) := fun W hW => refDrop_any (HH.out.1.over stays_tb hW) HH.out.2.1 n1
      go_enter Tryz.func10, Tryz.ntmps10
      go_wp2_with fail
      rw [← HW0.out]
      go_wp2_with fail
      refine Calls.mono c1 ?_
      rintro e w1 ⟨⟨v1, rfl, hT1⟩, hb1⟩
      have H1 : Hid (TabsIs w1 v1 (dropF l n1).1 ∧ Below W0.heap.size W0 w1 ∧ Below w.heap.size w w1) := ⟨hT1, hb1, HB0.out.1.trans (hb1.mono HB0.out.1.size)⟩
      have g1 := (HB0.out.2.over hb1).cell 1 (.string n1) rfl
      obtain ⟨a1, m1, p1, rfl, _⟩ := hT1.slice
      clear c1 hT1 hb1 f0 f1 f2 f3 f4 f5 f6
      go_wp2_with fail
      refine Calls.mono (HC2.out _ H1.out.2.2) ?_
      rintro e w2 ⟨⟨v2, rfl, hT2⟩, hb2⟩
      have H2 : Hid (TabsIs w2 v2 (dropF l n1).1 ∧ TabsIs w2 (.slice a1 m1 p1) (dropF l n1).1 ∧ Below w.heap.size w w2) := ⟨hT2, H1.out.1.over stays_tb hb2, H1.out.2.2.trans (hb2.mono H1.out.2.2.size)⟩
      obtain ⟨a2, m2, p2, rfl, _⟩ := hT2.slice
      clear hT2 hb2 g1
      go_wp2_with fail
      (try simp only [Exit.inBlock, Exit.then]); refine bodyPost_ret (results_tmp4 rfl _ _ _) rfl ?_
      rw [HE.out]
      exact ⟨⟨_, _, rfl, H2.out.2.1, H2.out.1⟩, H2.out.2.2⟩
    · by_cases k3 : kd = 3
      · have HE : Hid (chF l c = addF l n1 c.pj) := by unfold Hid; rw [← HNN.out.1]; exact ch_three HH.out.2.2.2.2 k3
        subst k3
        have c1 := add_any (HH.out.1.over stays_tb HB0.out.1) HH.out.2.1 n1 (stays_pj _ _ _ _ HP.out HB0.out.1) HH.out.2.2.2.1.pj
        have HC2 : Hid (∀ W, Below w.heap.size w W → Calls Tryz.prog 31 #[.slice a m cap, .string n1, .agg #[.string n3, .slice aI nI capI, .int .i64 ky]] W (XAns W (addF l n1 c.pj))) := fun W hW => refAdd_any (HH.out.1.over stays_tb hW) HH.out.2.1 n1 (stays_pj _ _ _ _ HP.out hW) HH.out.2.2.2.1.pj
        go_enter Tryz.func10, Tryz.ntmps10
        go_wp2_with fail
        rw [← HW0.out]
        go_wp2_with fail
        refine Calls.mono c1 ?_
        rintro e w1 ⟨⟨v1, rfl, hT1⟩, hb1⟩
        have H1 : Hid (TabsIs w1 v1 (addF l n1 c.pj).1 ∧ Below W0.heap.size W0 w1 ∧ Below w.heap.size w w1) := ⟨hT1, hb1, HB0.out.1.trans (hb1.mono HB0.out.1.size)⟩
        have g1 := (HB0.out.2.over hb1).cell 1 (.string n1) rfl
        have g4 := (HB0.out.2.over hb1).cell 4 (.string n3) rfl
        have g5 := (HB0.out.2.over hb1).cell 5 (.slice aI nI capI) rfl
        have g6 := (HB0.out.2.over hb1).cell 6 (.int .i64 ky) rfl
        obtain ⟨a1, m1, p1, rfl, _⟩ := hT1.slice
        clear c1 hT1 hb1 f0 f1 f2 f3 f4 f5 f6
        go_wp2_with fail
        refine Calls.mono (HC2.out _ H1.out.2.2) ?_
        rintro e w2 ⟨⟨v2, rfl, hT2⟩, hb2⟩
        have H2 : Hid (TabsIs w2 v2 (addF l n1 c.pj).1 ∧ TabsIs w2 (.slice a1 m1 p1) (addF l n1 c.pj).1 ∧ Below w.heap.size w w2) := ⟨hT2, H1.out.1.over stays_tb hb2, H1.out.2.2.trans (hb2.mono H1.out.2.2.size)⟩
        obtain ⟨a2, m2, p2, rfl, _⟩ := hT2.slice
        clear hT2 hb2 g1 g4 g5 g6
        go_wp2_with fail
        (try simp only [Exit.inBlock, Exit.then]); refine bodyPost_ret (results_tmp4 rfl _ _ _) rfl ?_
        rw [HE.out]
        exact ⟨⟨_, _, rfl, H2.out.2.1, H2.out.1⟩, H2.out.2.2⟩
      · have HE : Hid (chF l c = remF l n1 n2) := by unfold Hid; rw [← HNN.out.1, ← HNN.out.2]; exact ch_else HH.out.2.2.2.2 k1 k2 k3
        have c1 := remove_any (HH.out.1.over stays_tb HB0.out.1) HH.out.2.1 n1 n2
        have HC2 : Hid (∀ W, Below w.heap.size w W → Calls Tryz.prog 32 #[.slice a m cap, .string n1, .string n2] W (XAns W (remF l n1 n2))) := fun W hW => refRemove_any (HH.out.1.over stays_tb hW) HH.out.2.1 n1 n2
        have q1 : (kd == 1) = false := by simp [k1]
        have q2 : (kd == 2) = false := by simp [k2]
        have q3 : (kd == 3) = false := by simp [k3]
        clear k1 k2 k3
        go_enter Tryz.func10, Tryz.ntmps10
        go_wp2_with fail
        rw [← HW0.out]
        go_wp2_with fail
        refine Calls.mono c1 ?_
        rintro e w1 ⟨⟨v1, rfl, hT1⟩, hb1⟩
        have H1 : Hid (TabsIs w1 v1 (remF l n1 n2).1 ∧ Below W0.heap.size W0 w1 ∧ Below w.heap.size w w1) := ⟨hT1, hb1, HB0.out.1.trans (hb1.mono HB0.out.1.size)⟩
        have g1 := (HB0.out.2.over hb1).cell 1 (.string n1) rfl
        have g2 := (HB0.out.2.over hb1).cell 2 (.string n2) rfl
        obtain ⟨a1, m1, p1, rfl, _⟩ := hT1.slice
        clear c1 hT1 hb1 f0 f1 f2 f3 f4 f5 f6
        go_wp2_with fail
        refine Calls.mono (HC2.out _ H1.out.2.2) ?_
        rintro e w2 ⟨⟨v2, rfl, hT2⟩, hb2⟩
        have H2 : Hid (TabsIs w2 v2 (remF l n1 n2).1 ∧ TabsIs w2 (.slice a1 m1 p1) (remF l n1 n2).1 ∧ Below w.heap.size w w2) := ⟨hT2, H1.out.1.over stays_tb hb2, H1.out.2.2.trans (hb2.mono H1.out.2.2.size)⟩
        obtain ⟨a2, m2, p2, rfl, _⟩ := hT2.slice
        clear hT2 hb2 g1 g2
        go_wp2_with fail
        (try simp only [Exit.inBlock, Exit.then]); refine bodyPost_ret (results_tmp4 rfl _ _ _) rfl ?_
        rw [HE.out]
        exact ⟨⟨_, _, rfl, H2.out.2.1, H2.out.1⟩, H2.out.2.2⟩
end Go.Proofs.YtdjobjbkpagnaaaGreat
/-
  The walk of law 25's SchemaChanges: any tables with one more, one less, one more projection, or one less, or why not.
-/
namespace Go.Proofs.YtdjobjbkpagnaaaGreat
open Go.RowKit Go.Shelf

set_option maxRecDepth 4000 in
set_option maxHeartbeats 4000000 in
theorem walkSchemaChanges {w : World} (a : Option Addr) (len cap : Nat) (h0 : ∃ l, TabsIs w (.slice a len cap) l) (cs : Array Value) (c : Chg) (hc : ChE w c cs.toList) :
    Calls Tryz.prog 3 #[.slice a len cap, .agg cs] w fun e w' => e = .returned (.bool true) ∧ Below w.heap.size w w' := by
  obtain ⟨l, h0⟩ := h0
  have HA : Hid (∀ W, Calls Tryz.prog 9 #[] W fun e w' => e = .returned (.bool true) ∧ Below W.heap.size W w') := awake_any
  obtain ⟨aC, nC, capC, aI, nI, capI, rfl, _⟩ := ch_cells hc
  obtain ⟨kd, hkd⟩ : ∃ kd, kd = c.kind.toInt := ⟨_, rfl⟩
  obtain ⟨ky, hky⟩ : ∃ ky, ky = c.pj.keys.toInt := ⟨_, rfl⟩
  obtain ⟨n1, hn1⟩ : ∃ n1, n1 = c.name := ⟨_, rfl⟩
  obtain ⟨n2, hn2⟩ : ∃ n2, n2 = c.which := ⟨_, rfl⟩
  obtain ⟨n3, hn3⟩ : ∃ n3, n3 = c.pj.name := ⟨_, rfl⟩
  rw [← hkd, ← hky, ← hn1, ← hn2, ← hn3] at hc ⊢
  obtain ⟨W0, hW0⟩ : ∃ W0, W0 = w.alloc (.cells #[.int .i64 kd, .string n1, .string n2, .slice aC nC capC, .string n3, .slice aI nI capI, .int .i64 ky] 28) := ⟨_, rfl⟩
  obtain ⟨Bq, hBq⟩ : ∃ Bq, Bq = w.heap.size := ⟨_, rfl⟩
  have HB0 : Hid (Below w.heap.size w W0 ∧ Box W0 Bq 28 #[.int .i64 kd, .string n1, .string n2, .slice aC nC capC, .string n3, .slice aI nI capI, .int .i64 ky]) := by unfold Hid; rw [hW0, hBq]; exact ⟨below1 _ _, box_new _ _ _⟩
  have HW0 : Hid (W0 = w.alloc (.cells #[.int .i64 kd, .string n1, .string n2, .slice aC nC capC, .string n3, .slice aI nI capI, .int .i64 ky] 28) ∧ Bq = w.heap.size) := ⟨hW0, hBq⟩
  have HH : Hid (TabsIs w (.slice a len cap) l ∧ ChE w c (#[.int .i64 kd, .string n1, .string n2, .slice aC nC capC, .string n3, .slice aI nI capI, .int .i64 ky] : Array Value).toList) := ⟨h0, hc⟩
  clear h0 hc hkd hky hn1 hn2 hn3 hW0 hBq
  have cl := refLight_any (HH.out.1.over stays_tb HB0.out.1)
  go_enter Tryz.func3, Tryz.ntmps3
  go_wp2_with fail
  rw [← HW0.out.1, ← HW0.out.2]
  refine Calls.mono cl ?_
  rintro e w1 ⟨⟨q, rfl, hq⟩, hb1⟩
  have HB1 : Hid (Below w.heap.size w w1 ∧ Box w1 Bq 28 #[.int .i64 kd, .string n1, .string n2, .slice aC nC capC, .string n3, .slice aI nI capI, .int .i64 ky]) := ⟨HB0.out.1.trans (hb1.mono HB0.out.1.size), HB0.out.2.over hb1⟩
  clear cl hb1
  cases q with
  | false =>
    clear hq
    go_wp2_with fail
    refine Calls.mono (HA.out _) ?_
    rintro e w2 ⟨rfl, hb2⟩
    have HB2 : Hid (Below w.heap.size w w2) := HB1.out.1.trans (hb2.mono HB1.out.1.size)
    clear hb2
    go_wp2_with fail
    go_ret
    exact ⟨rfl, HB2.out⟩
  | true =>
    have HS : Hid (litL l) := (hq rfl).lit
    clear hq
    have g0 := HB1.out.2.cell 0 (.int .i64 kd) rfl
    have g1 := HB1.out.2.cell 1 (.string n1) rfl
    have g2 := HB1.out.2.cell 2 (.string n2) rfl
    have g3 := HB1.out.2.cell 3 (.slice aC nC capC) rfl
    have g4 := HB1.out.2.cell 4 (.string n3) rfl
    have g5 := HB1.out.2.cell 5 (.slice aI nI capI) rfl
    have g6 := HB1.out.2.cell 6 (.int .i64 ky) rfl
    have cl := light_any (stays_ch _ _ _ _ HH.out.2 HB1.out.1)
    go_wp2_with fail
    refine Calls.mono cl ?_
    rintro e w2 ⟨⟨q2, rfl, hq2⟩, hb2⟩
    have HB2 : Hid (Below w.heap.size w w2 ∧ Box w2 Bq 28 #[.int .i64 kd, .string n1, .string n2, .slice aC nC capC, .string n3, .slice aI nI capI, .int .i64 ky]) := ⟨HB1.out.1.trans (hb2.mono HB1.out.1.size), HB1.out.2.over hb2⟩
    clear cl hb2 g0 g1 g2 g3 g4 g5 g6
    cases q2 with
    | false =>
      clear hq2
      go_wp2_with fail
      refine Calls.mono (HA.out _) ?_
      rintro e w3 ⟨rfl, hb3⟩
      have HB3 : Hid (Below w.heap.size w w3) := HB2.out.1.trans (hb3.mono HB2.out.1.size)
      clear hb3
      go_wp2_with fail
      go_ret
      exact ⟨rfl, HB3.out⟩
    | true =>
      have HC : Hid (smC c) := hq2 rfl
      clear hq2
      have g0 := HB2.out.2.cell 0 (.int .i64 kd) rfl
      have g1 := HB2.out.2.cell 1 (.string n1) rfl
      have g2 := HB2.out.2.cell 2 (.string n2) rfl
      have g3 := HB2.out.2.cell 3 (.slice aC nC capC) rfl
      have g4 := HB2.out.2.cell 4 (.string n3) rfl
      have g5 := HB2.out.2.cell 5 (.slice aI nI capI) rfl
      have g6 := HB2.out.2.cell 6 (.int .i64 ky) rfl
      have cd := done_any (HH.out.1.over stays_tb HB2.out.1) HS.out (stays_ch _ _ _ _ HH.out.2 HB2.out.1) HC.out
      have HL : Hid (litL (chF l c).1) := (fit_ch l c).lit
      obtain ⟨r, hr⟩ : ∃ r, r = chF l c := ⟨_, rfl⟩
      rw [← hr] at cd HL
      clear hr
      obtain ⟨rl, re⟩ := r
      go_wp2_with fail
      refine Calls.mono cd ?_
      rintro e w3 ⟨⟨v1, v2, rfl, hT1, hT2⟩, hb3⟩
      have HB3 : Hid (Below w.heap.size w w3) := HB2.out.1.trans (hb3.mono HB2.out.1.size)
      have cs := sameTabs_any hT1 hT2 HL.out
      obtain ⟨a1, m1, p1, rfl, _⟩ := hT1.slice
      obtain ⟨a2, m2, p2, rfl, _⟩ := hT2.slice
      clear cd hb3 hT1 hT2 g0 g1 g2 g3 g4 g5 g6
      dsimp only
      have hee : (re == re) = true := by simp
      go_wp2_with fail
      refine Calls.mono cs ?_
      rintro e w4 ⟨rfl, hb4⟩
      have HB4 : Hid (Below w.heap.size w w4) := HB3.out.trans (hb4.mono HB3.out.size)
      clear cs hb4
      have cc := check_any (HH.out.1.over stays_tb HB4.out) HS.out
      have HM : Hid (∀ W, Below w.heap.size w W → Calls Tryz.prog 13 #[.slice a len cap] W fun e w' => e = .returned (.bool (tabsB l)) ∧ Below W.heap.size W w') := fun W hW => refMay_any (HH.out.1.over stays_tb hW) HS.out
      obtain ⟨q1, hq1⟩ : ∃ q, q = tabsB l := ⟨_, rfl⟩
      rw [← hq1] at cc HM
      clear hq1
      go_wp2_with fail
      cases q1 with
      | false =>
        unfold errT at cc
        simp only [Bool.false_eq_true, if_false] at cc
        refine cc.mono ?_
        rintro e w5 ⟨rfl, hb5⟩
        have HB5 : Hid (Below w.heap.size w w5) := HB4.out.trans (hb5.mono HB4.out.size)
        clear cc hb5
        go_wp2_with fail
        refine (HM.out _ HB5.out).mono ?_
        rintro e w6 ⟨rfl, hb6⟩
        have HB6 : Hid (Below w.heap.size w w6) := HB5.out.trans (hb6.mono HB5.out.size)
        clear hb6
        go_wp2_with fail
        refine Calls.mono (HA.out _) ?_
        rintro e w7 ⟨rfl, hb7⟩
        have HB7 : Hid (Below w.heap.size w w7) := HB6.out.trans (hb7.mono HB6.out.size)
        clear hb7
        go_wp2_with fail
        go_ret
        exact ⟨rfl, HB7.out⟩
      | true =>
        unfold errT at cc
        simp only [if_true] at cc
        refine cc.mono ?_
        rintro e w5 ⟨rfl, hb5⟩
        have HB5 : Hid (Below w.heap.size w w5) := HB4.out.trans (hb5.mono HB4.out.size)
        clear cc hb5
        go_wp2_with fail
        refine (HM.out _ HB5.out).mono ?_
        rintro e w6 ⟨rfl, hb6⟩
        have HB6 : Hid (Below w.heap.size w w6) := HB5.out.trans (hb6.mono HB5.out.size)
        clear hb6
        go_wp2_with fail
        refine Calls.mono (HA.out _) ?_
        rintro e w7 ⟨rfl, hb7⟩
        have HB7 : Hid (Below w.heap.size w w7) := HB6.out.trans (hb7.mono HB6.out.size)
        clear hb7
        go_wp2_with fail
        go_ret
        exact ⟨rfl, HB7.out⟩
end Go.Proofs.YtdjobjbkpagnaaaGreat
