/-
  4 texts, one behind the other: XSame, XSame2, XAwakeP, XAwake.
-/
import Derived.Test.YtdjobjbkpagnaaaGreatJoin7
import Derived.Test.YtdjobjbkpagnaaaGreatJoin2
import Derived.Test.YtdjobjbkpagnaaaGreatJoin9
import Derived.Test.YtdjobjbkpagnaaaGreatJoin8
/-
  The contracts of the document's one and Same, where both are the same tables.
-/
namespace Go.Proofs.YtdjobjbkpagnaaaGreat
open Go.RowKit Go.Shelf

theorem exec_store_row {P : Program} {o : Oper} {ev : Operand → Value} {w : World} (ty : TypeId) (x y : Operand) (ho : o.op = .store ty x y) (g : Nat) (cells : Array Value) (hx : ev x = .pointer (some ⟨g, 0, none⟩)) (hy : ev y = .agg cells)
    (t : TypeId) (old : Array Value) (hg : w.heap[g]? = some (.cells old t (0, 0))) (hi : (P.info? ty).map (·.size) = some cells.size) (hold : old.size = cells.size) (h1 : cells.all (·.oneCell') = true) : (execOp ev o).run P w = .ok .skip (w.setRow g cells) := by
  unfold execOp
  simp only [ho, hx, hy, Instr.storeAt, Instr.sureAddr, Sem.run_bind, Sem.run_pure, Result.andThen_ok, run_storeVar_row w g t ty old cells hg hi hold h1]
section
variable {P : Program} {l : List Oper} {z : Oper} {Q : Exit → Act → World → Prop}
/-- Two variables that are made, whichever comes up first. -/
theorem newNewL {S : World → Prop} (i j : Nat) {oi oj : Oper} {fuel : Nat} {listed : Array Bool} {a : Act} {w : World} (wi : World) (vi : Value) (wj : World) (vj : Value) (hi : l[i]? = some oi) (hj : l[j]? = some oj) (hr : Region.ready .any l.toArray listed = [i, j])
    (hwi : Region.wanted oi (yielded l.toArray a.tmps) = true) (hwj : Region.wanted oj (yielded l.toArray a.tmps) = true) (hopi : (execOp a.eval oi).run P w = .ok (.value vi) wi) (hopj : (execOp a.eval oj).run P w = .ok (.value vj) wj) (hSi : S wi) (hSj : S wj)
    (h1 : wpAnyH P .any l.toArray (Then P z Q) S fuel (listed.setIfInBounds i true) (a.put oi.dst vi) wi)
    (h2 : wpAnyH P .any l.toArray (Then P z Q) S fuel (listed.setIfInBounds j true) (a.put oj.dst vj) wj) : wpAnyH P .any l.toArray (Then P z Q) S (fuel + 1) listed a w := by
  refine wpAnyH_all hr (by simp) ?_
  intro k hk
  simp only [List.mem_cons, List.not_mem_nil, or_false] at hk
  have hi' : l.toArray[i]? = some oi := by simpa using hi
  have hj' : l.toArray[j]? = some oj := by simpa using hj
  rcases hk with rfl | rfl
  · unfold wpOp
    simp only [hi', hwi, if_true]
    refine .inl ?_
    unfold Oper.wp
    rw [hopi]
    exact ⟨hSi, h1⟩
  · unfold wpOp
    simp only [hj', hwj, if_true]
    refine .inl ?_
    unfold Oper.wp
    rw [hopj]
    exact ⟨hSj, h2⟩
end
/-- Two tables in variables of their own, the same. -/
structure Sm (w W : World) (t : Tb) (a1 : Option Addr) (p1 : Nat) (a2 : Option Addr) (p2 : Nat) (b1 : Option Addr) (q1 : Nat) (b2 : Option Addr) (q2 : Nat) : Prop where
  bel : Below w.heap.size w W
  ba : Box W w.heap.size 41 #[.string t.name, .slice a1 t.cols.length p1, .slice a2 t.projs.length p2]
  bb : Box W (w.heap.size + 1) 41 #[.string t.name, .slice b1 t.cols.length q1, .slice b2 t.projs.length q2]
theorem Sm.over {w W W' : World} {t : Tb} {a1 : Option Addr} {p1 : Nat} {a2 : Option Addr} {p2 : Nat} {b1 : Option Addr} {q1 : Nat} {b2 : Option Addr} {q2 : Nat} (h : Sm w W t a1 p1 a2 p2 b1 q1 b2 q2) (b : Below W.heap.size W W') : Sm w W' t a1 p1 a2 p2 b1 q1 b2 q2 :=
  ⟨h.bel.trans (b.mono h.bel.size), h.ba.over b, h.bb.over b⟩
set_option maxRecDepth 4000 in
set_option maxHeartbeats 4000000 in
theorem sameOne_any {w : World} {t : Tb} {c0 c1 c2 d0 d1 d2 : Value} (h1 : TbE w t [c0, c1, c2]) (h2 : TbE w t [d0, d1, d2]) (hl : litT t) :
    Calls Tryz.prog 33 #[.agg #[c0, c1, c2], .agg #[d0, d1, d2]] w fun e w' => e = .returned (.bool true) ∧ Below w.heap.size w w' := by
  obtain ⟨rfl, a1, n1, p1, a2, n2, p2, rfl, rfl, hn1, hn2, hC1, hP1⟩ := tb_cells h1
  obtain ⟨rfl, b1, m1, q1, b2, m2, q2, rfl, rfl, hm1, hm2, hC2, hP2⟩ := tb_cells h2
  obtain rfl : m1 = n1 := hm1.symm.trans hn1
  obtain rfl : m2 = n2 := hm2.symm.trans hn2
  have hS : Sm w ((w.alloc (.cells #[.string t.name, .slice a1 m1 p1, .slice a2 m2 p2] 41)).alloc (.cells #[.string t.name, .slice b1 m1 q1, .slice b2 m2 q2] 41)) t a1 p1 a2 p2 b1 q1 b2 q2 := by
    refine ⟨below2 _ _ _, by rw [hn1, hn2]; exact box_old _ _ _ _, ?_⟩
    have := box_new (w.alloc (.cells #[.string t.name, .slice a1 m1 p1, .slice a2 m2 p2] 41)) #[.string t.name, .slice b1 m1 q1, .slice b2 m2 q2] 41
    rw [World.size_alloc] at this
    rw [hn1, hn2]
    exact this
  have HS0 : Hid (Sm w ((w.alloc (.cells #[.string t.name, .slice a1 m1 p1, .slice a2 m2 p2] 41)).alloc (.cells #[.string t.name, .slice b1 m1 q1, .slice b2 m2 q2] 41)) t a1 p1 a2 p2 b1 q1 b2 q2) := hS
  have HN : Hid (t.cols.length = m1 ∧ t.projs.length = m2 ∧ litT t) := ⟨hn1, hn2, hl⟩
  have HC : Hid (ColsIs w (.slice a1 m1 p1) t.cols ∧ ColsIs w (.slice b1 m1 q1) t.cols) := ⟨hC1, hC2⟩
  have HP : Hid (PjsIs w (.slice a2 m2 p2) t.projs ∧ PjsIs w (.slice b2 m2 q2) t.projs) := ⟨hP1, hP2⟩
  have hm1I : (m1 : Int) ≤ 1000 := by have := hl.2.1; omega
  have hm2I : (m2 : Int) ≤ 1000 := by have := hl.2.2.1; omega
  have hnn : (t.name.toList != t.name.toList) = false := by simp
  clear h1 h2 hl hn1 hn2 hm1 hm2 hC1 hC2 hP1 hP2 hS
  go_enter Tryz.func33, Tryz.ntmps33
  go_wp2_with fail
  go_loopg [5] m1 (fun gg s5 wx => ∃ i : Nat, i + gg = m1 ∧ s5 = .int .i64 i ∧ Hid (Sm w wx t a1 p1 a2 p2 b1 q1 b2 q2))
  case atStart => exact ⟨0, by omega, rfl, HS0⟩
  case round =>
    clear HS0
    obtain ⟨i, hig, rfl, HS⟩ := hrel
    have f1 := HS.out.ba.cell 1 _ rfl
    have f2 := HS.out.bb.cell 1 _ rfl
    rw [HN.out.1, HN.out.2.1] at f1 f2
    by_cases hi : i < m1
    · have hiI : (i : Int) < (m1 : Int) := by omega
      have hr2 : IntKind.i64.wrap ((i : Int) + 1) = (i : Int) + 1 := by rw [IntKind.wrap_i64]; omega
      obtain ⟨x, e0, e1, e2, b, off, hx, rfl, hE, g0, g1, g2⟩ := at3C (HC.out.1.over stays_col HS.out.bel) hi
      obtain ⟨y, e3, e4, e5, b', off', hy, rfl, hE', g3, g4, g5⟩ := at3C (HC.out.2.over stays_col HS.out.bel) hi
      obtain rfl : y = x := Option.some.inj (hy.symm.trans hx)
      have e : [e0, e1, e2] = colC y := hE
      have e' : [e3, e4, e5] = colC y := hE'
      simp only [colC, List.cons.injEq, and_true] at e e'
      obtain ⟨rfl, rfl, rfl⟩ := e
      obtain ⟨rfl, rfl, rfl⟩ := e'
      clear hx hy hE hE'
      go_wp2_with fail
      go_quiet (fail)
      go_wp2_with fail
      go_roundg (m1 - (i + 1))
      case measure => clear hr2; omega
      case rel => exact ⟨i + 1, by clear hr2; omega, by go_num, HS.out.over ⟨rfl, rfl, rfl, Nat.le_refl _, fun _ _ => rfl⟩⟩
    · have hiI : ¬ (i : Int) < (m1 : Int) := by omega
      go_wp2_with fail
      go_loopg [6] m2 (fun gg s6 wx => ∃ j : Nat, j + gg = m2 ∧ s6 = .int .i64 j ∧ Hid (Sm w wx t a1 p1 a2 p2 b1 q1 b2 q2))
      case atStart => exact ⟨0, by omega, rfl, HS⟩
      case round =>
        clear HS f1 f2
        obtain ⟨j, hjg, rfl, HS⟩ := hrel
        have f1 := HS.out.ba.cell 2 _ rfl
        have f2 := HS.out.bb.cell 2 _ rfl
        rw [HN.out.1, HN.out.2.1] at f1 f2
        by_cases hj : j < m2
        · have hjI : (j : Int) < (m2 : Int) := by omega
          have hr2 : IntKind.i64.wrap ((j : Int) + 1) = (j : Int) + 1 := by rw [IntKind.wrap_i64]; omega
          obtain ⟨x, e0, e1, e2, b, off, hx, rfl, hE, g0, g1, g2⟩ := at3P (HP.out.1.over stays_pj HS.out.bel) hj
          obtain ⟨y, e3, e4, e5, b', off', hy, rfl, hE', g3, g4, g5⟩ := at3P (HP.out.2.over stays_pj HS.out.bel) hj
          obtain rfl : y = x := Option.some.inj (hy.symm.trans hx)
          obtain ⟨x, rfl⟩ : ∃ x, x = y := ⟨_, rfl⟩
          obtain ⟨v1, ev1, hI1⟩ := hE
          obtain ⟨v2, ev2, hI2⟩ := hE'
          simp only [List.cons.injEq, and_true] at ev1 ev2
          obtain ⟨rfl, rfl, rfl⟩ := ev1
          obtain ⟨rfl, rfl, rfl⟩ := ev2
          obtain ⟨aI, nI, capI, rfl, hnI, _⟩ := hI1.slice
          obtain ⟨aJ, nJ, capJ, rfl, hnJ, _⟩ := hI2.slice
          obtain rfl : nJ = nI := hnJ.symm.trans hnI
          obtain ⟨nI, rfl⟩ : ∃ n, n = nJ := ⟨_, rfl⟩
          have hlx := HN.out.2.2.2.2.2.2 x (List.mem_of_getElem? hx)
          have hnII : (nI : Int) ≤ 1000000 := by have := hlx.2; omega
          have HX : Hid (IntsIs wr (.slice aI nI capI) x.cols ∧ IntsIs wr (.slice aJ nI capJ) x.cols) := ⟨hI1, hI2⟩
          have oneP : (#[.string x.name, .slice aI nI capI, .int .i64 x.keys.toInt] : Array Value).all (fun c => c.oneCell') = true := one_three (by intro u hu; simp only [List.mem_cons, List.not_mem_nil, or_false] at hu; rcases hu with rfl | rfl | rfl <;> rfl)
          have oneQ : (#[.string x.name, .slice aJ nI capJ, .int .i64 x.keys.toInt] : Array Value).all (fun c => c.oneCell') = true := one_three (by intro u hu; simp only [List.mem_cons, List.not_mem_nil, or_false] at hu; rcases hu with rfl | rfl | rfl <;> rfl)
          have hnx : (x.name.toList != x.name.toList) = false := by simp
          have hkx : (x.keys.toInt != x.keys.toInt) = false := by simp
          have hnn2 : ((nI : Int) != (nI : Int)) = false := by simp
          have HG : Hid (Unit → _ ∧ _ ∧ _ ∧ _ ∧ _ ∧ _ ∧ _ ∧ _) := fun _ => ⟨f1, f2, g0, g1, g2, g3, g4, g5⟩
          clear hx hy hI1 hI2 hnI hnJ hlx
          go_wp2_with fail
          refine wp_region_held_then (fun w' : World => w'.cell? ⟨w.heap.size, 2, none⟩ = some (.slice (some ⟨b, off, none⟩) m2 p2) ∧ w'.cell? ⟨w.heap.size + 1, 2, none⟩ = some (.slice (some ⟨b', off', none⟩) m2 q2) ∧ w'.cell? ⟨b, off + j * 3, none⟩ = some (.string x.name) ∧ w'.cell? ⟨b, off + j * 3 + 1, none⟩ = some (.slice aI nI capI) ∧ w'.cell? ⟨b, off + j * 3 + 2, none⟩ = some (.int .i64 x.keys.toInt) ∧ w'.cell? ⟨b', off' + j * 3, none⟩ = some (.string x.name) ∧ w'.cell? ⟨b', off' + j * 3 + 1, none⟩ = some (.slice aJ nI capJ) ∧ w'.cell? ⟨b', off' + j * 3 + 2, none⟩ = some (.int .i64 x.keys.toInt)) _ (by kernel_rfl) rfl (by kernel_rfl) ?_
          have hHeld : (fun w' : World => w'.cell? ⟨w.heap.size, 2, none⟩ = some (.slice (some ⟨b, off, none⟩) m2 p2) ∧ w'.cell? ⟨w.heap.size + 1, 2, none⟩ = some (.slice (some ⟨b', off', none⟩) m2 q2) ∧ w'.cell? ⟨b, off + j * 3, none⟩ = some (.string x.name) ∧ w'.cell? ⟨b, off + j * 3 + 1, none⟩ = some (.slice aI nI capI) ∧ w'.cell? ⟨b, off + j * 3 + 2, none⟩ = some (.int .i64 x.keys.toInt) ∧ w'.cell? ⟨b', off' + j * 3, none⟩ = some (.string x.name) ∧ w'.cell? ⟨b', off' + j * 3 + 1, none⟩ = some (.slice aJ nI capJ) ∧ w'.cell? ⟨b', off' + j * 3 + 2, none⟩ = some (.int .i64 x.keys.toInt)) wr.drew := ⟨f1, f2, g0, g1, g2, g3, g4, g5⟩
          have HUp : Hid (∀ W, Below wr.heap.size wr W → (fun w' : World => w'.cell? ⟨w.heap.size, 2, none⟩ = some (.slice (some ⟨b, off, none⟩) m2 p2) ∧ w'.cell? ⟨w.heap.size + 1, 2, none⟩ = some (.slice (some ⟨b', off', none⟩) m2 q2) ∧ w'.cell? ⟨b, off + j * 3, none⟩ = some (.string x.name) ∧ w'.cell? ⟨b, off + j * 3 + 1, none⟩ = some (.slice aI nI capI) ∧ w'.cell? ⟨b, off + j * 3 + 2, none⟩ = some (.int .i64 x.keys.toInt) ∧ w'.cell? ⟨b', off' + j * 3, none⟩ = some (.string x.name) ∧ w'.cell? ⟨b', off' + j * 3 + 1, none⟩ = some (.slice aJ nI capJ) ∧ w'.cell? ⟨b', off' + j * 3 + 2, none⟩ = some (.int .i64 x.keys.toInt)) W) := fun W hW => ⟨(hW.cell (p := ⟨w.heap.size, 2, none⟩) (World.block_lt_of_cell? wr _ f1)).trans f1, (hW.cell (p := ⟨w.heap.size + 1, 2, none⟩) (World.block_lt_of_cell? wr _ f2)).trans f2, (hW.cell (p := ⟨b, off + j * 3, none⟩) (World.block_lt_of_cell? wr _ g0)).trans g0, (hW.cell (p := ⟨b, off + j * 3 + 1, none⟩) (World.block_lt_of_cell? wr _ g1)).trans g1, (hW.cell (p := ⟨b, off + j * 3 + 2, none⟩) (World.block_lt_of_cell? wr _ g2)).trans g2, (hW.cell (p := ⟨b', off' + j * 3, none⟩) (World.block_lt_of_cell? wr _ g3)).trans g3, (hW.cell (p := ⟨b', off' + j * 3 + 1, none⟩) (World.block_lt_of_cell? wr _ g4)).trans g4, (hW.cell (p := ⟨b', off' + j * 3 + 2, none⟩) (World.block_lt_of_cell? wr _ g5)).trans g5⟩
          dsimp only [List.dropLast, List.length, List.getLast]
          ((refine takeL 0 (v := ?_) rfl (by kernel_rfl) (by kernel_rfl) (by kernel_rfl) (fun _ _ _ h => h) (by rfl) hHeld ?_ ?_; rotate_left; focus (intro w hSw; (try dsimp only at hSw); go_simp <;> with_reducible rfl); (try simp only [Act.put, List.setIfInBounds_toArray, List.set_cons_zero, List.set_cons_succ])); (refine takeL 1 (v := ?_) rfl (by kernel_rfl) (by kernel_rfl) (by kernel_rfl) (fun _ _ _ h => h) (by rfl) hHeld ?_ ?_; rotate_left; focus (intro w hSw; (try dsimp only at hSw); go_simp <;> with_reducible rfl); (try simp only [Act.put, List.setIfInBounds_toArray, List.set_cons_zero, List.set_cons_succ])); (refine takeL 2 (v := ?_) rfl (by kernel_rfl) (by kernel_rfl) (by kernel_rfl) (fun _ _ _ h => h) (by rfl) hHeld ?_ ?_; rotate_left; focus (intro w hSw; (try dsimp only at hSw); go_simp <;> with_reducible rfl); (try simp only [Act.put, List.setIfInBounds_toArray, List.set_cons_zero, List.set_cons_succ])); (refine takeL 3 (v := ?_) rfl (by kernel_rfl) (by kernel_rfl) (by kernel_rfl) (fun _ _ _ h => h) (by rfl) hHeld ?_ ?_; rotate_left; focus (intro w hSw; (try dsimp only at hSw); go_simp <;> with_reducible rfl); (try simp only [Act.put, List.setIfInBounds_toArray, List.set_cons_zero, List.set_cons_succ])); (refine takeL 4 (v := ?_) rfl (by kernel_rfl) (by kernel_rfl) (by kernel_rfl) (fun _ _ _ h => h) (by rfl) hHeld ?_ ?_; rotate_left; focus (intro w hSw; (try dsimp only at hSw); go_simp <;> with_reducible rfl); (try simp only [Act.put, List.setIfInBounds_toArray, List.set_cons_zero, List.set_cons_succ])))
          dsimp only [Act.put]
          simp only [List.setIfInBounds_toArray, List.set_cons_zero, List.set_cons_succ]
          ((refine takeL 5 (v := ?_) rfl (by kernel_rfl) (by kernel_rfl) (by kernel_rfl) (fun _ _ _ h => h) (by rfl) hHeld ?_ ?_; rotate_left; focus (intro w hSw; (try dsimp only at hSw); go_simp <;> with_reducible rfl); (try simp only [Act.put, List.setIfInBounds_toArray, List.set_cons_zero, List.set_cons_succ])); (refine takeL 6 (v := ?_) rfl (by kernel_rfl) (by kernel_rfl) (by kernel_rfl) (fun _ _ _ h => h) (by rfl) hHeld ?_ ?_; rotate_left; focus (intro w hSw; (try dsimp only at hSw); go_simp <;> with_reducible rfl); (try simp only [Act.put, List.setIfInBounds_toArray, List.set_cons_zero, List.set_cons_succ])); (refine takeL 7 (v := ?_) rfl (by kernel_rfl) (by kernel_rfl) (by kernel_rfl) (fun _ _ _ h => h) (by rfl) hHeld ?_ ?_; rotate_left; focus (intro w hSw; (try dsimp only at hSw); go_simp <;> with_reducible rfl); (try simp only [Act.put, List.setIfInBounds_toArray, List.set_cons_zero, List.set_cons_succ])); (refine takeL 8 (v := ?_) rfl (by kernel_rfl) (by kernel_rfl) (by kernel_rfl) (fun _ _ _ h => h) (by rfl) hHeld ?_ ?_; rotate_left; focus (intro w hSw; (try dsimp only at hSw); go_simp <;> with_reducible rfl); (try simp only [Act.put, List.setIfInBounds_toArray, List.set_cons_zero, List.set_cons_succ])); (refine takeL 9 (v := ?_) rfl (by kernel_rfl) (by kernel_rfl) (by kernel_rfl) (fun _ _ _ h => h) (by rfl) hHeld ?_ ?_; rotate_left; focus (intro w hSw; (try dsimp only at hSw); go_simp <;> with_reducible rfl); (try simp only [Act.put, List.setIfInBounds_toArray, List.set_cons_zero, List.set_cons_succ])))
          dsimp only [Act.put]
          simp only [List.setIfInBounds_toArray, List.set_cons_zero, List.set_cons_succ]
          obtain ⟨Wa, hWa⟩ : ∃ Wa, Wa = wr.drew.alloc (.cells #[.string ⟨#[]⟩, .slice none 0 0, .int .i64 0] 26) := ⟨_, rfl⟩
          obtain ⟨Wb, hWb⟩ : ∃ Wb, Wb = Wa.alloc (.cells #[.string ⟨#[]⟩, .slice none 0 0, .int .i64 0] 26) := ⟨_, rfl⟩
          have bWa : Below wr.heap.size wr Wa := by rw [hWa]; exact ((Below.refl _ wr).drew).alloc (Nat.le_refl _) _
          have bWb : Below wr.heap.size wr Wb := by rw [hWb]; exact bWa.alloc bWa.size _
          have hsz : Wa.heap.size = wr.heap.size + 1 := by rw [hWa, World.size_alloc]; rfl
          have Ba : Box Wb wr.heap.size 26 #[.string ⟨#[]⟩, .slice none 0 0, .int .i64 0] := by rw [hWb, hWa]; exact (box_new wr.drew _ _).alloc _
          have Bb : Box Wb (wr.heap.size + 1) 26 #[.string ⟨#[]⟩, .slice none 0 0, .int .i64 0] := by rw [hWb, ← hsz]; exact box_new Wa _ _
          refine newNewL 10 11 Wa (.pointer (some ⟨wr.heap.size, 0, none⟩)) Wa (.pointer (some ⟨wr.heap.size, 0, none⟩)) rfl rfl (by kernel_rfl) (by rfl) (by rfl) (by rw [hWa]; go_simp) (by rw [hWa]; go_simp) (HUp.out _ bWa) (HUp.out _ bWa) ?_ ?_
          case' refine_1 => refine newL 11 Wb (.pointer (some ⟨wr.heap.size + 1, 0, none⟩)) rfl (by kernel_rfl) (by rfl) (by rw [hWb, ← hsz]; go_simp) (HUp.out _ bWb) ?_
          case' refine_2 => refine newL 10 Wb (.pointer (some ⟨wr.heap.size + 1, 0, none⟩)) rfl (by kernel_rfl) (by rfl) (by rw [hWb, ← hsz]; go_simp) (HUp.out _ bWb) ?_
          · obtain ⟨gP, hgP⟩ : ∃ g, g = wr.heap.size + 1 := ⟨_, rfl⟩
            obtain ⟨gQ, hgQ⟩ : ∃ g, g = wr.heap.size := ⟨_, rfl⟩
            have hBP := Bb
            have hBQ := Ba
            have hPQ : gP ≠ gQ ∧ wr.heap.size ≤ gP ∧ wr.heap.size ≤ gQ := by omega
            rw [← hgP] at hBP
            rw [← hgQ] at hBQ
            dsimp only [Act.put]
            simp only [List.setIfInBounds_toArray, List.set_cons_zero, List.set_cons_succ]
            rw [← hgP]
            rw [← hgQ]
            clear hgP hgQ hWa hWb bWa hsz Ba Bb hHeld HG
            obtain ⟨Wc, hWc⟩ : ∃ Wc, Wc = Wb.setRow gP #[.string x.name, .slice aI nI capI, .int .i64 x.keys.toInt] := ⟨_, rfl⟩
            have bWc : Below wr.heap.size wr Wc := by rw [hWc]; exact below_setRow bWb (by omega) _
            have BP0 : Box Wc gP 26 #[.string x.name, .slice aI nI capI, .int .i64 x.keys.toInt] := by rw [hWc]; exact hBP.setRow _
            have BQ0 : Box Wc gQ 26 #[.string ⟨#[]⟩, .slice none 0 0, .int .i64 0] := by rw [hWc]; exact hBQ.rowOther (by omega) _
            try dsimp only [Act.put]
            try simp only [List.setIfInBounds_toArray, List.set_cons_zero, List.set_cons_succ]
            refine stepL 12 Wc rfl (by kernel_rfl) (by rfl) (by rw [hWc]; exact exec_store_row 26 (.tmp 7) (.tmp 76) rfl gP _ rfl rfl 26 _ hBP size_pj rfl oneP) (HUp.out _ bWc) ?_
            refine doneL (by kernel_rfl) ?_
            try dsimp only [Act.put]
            refine wp_store_row 26 (.tmp 8) (.tmp 81) rfl gQ #[.string x.name, .slice aJ nI capJ, .int .i64 x.keys.toInt] rfl rfl 26 _ BQ0 size_pj rfl oneQ ?_
            try dsimp only [Act.put]
            have hB6 : Below wr.heap.size wr (Wc.setRow gQ #[.string x.name, .slice aJ nI capJ, .int .i64 x.keys.toInt]) := below_setRow bWc (by omega) _
            have BP : Box (Wc.setRow gQ #[.string x.name, .slice aJ nI capJ, .int .i64 x.keys.toInt]) gP 26 #[.string x.name, .slice aI nI capI, .int .i64 x.keys.toInt] := Box.rowOther BP0 (by omega) _
            have BQ : Box (Wc.setRow gQ #[.string x.name, .slice aJ nI capJ, .int .i64 x.keys.toInt]) gQ 26 #[.string x.name, .slice aJ nI capJ, .int .i64 x.keys.toInt] := Box.setRow BQ0 _
            have HQ : Hid (Sm w (Wc.setRow gQ #[.string x.name, .slice aJ nI capJ, .int .i64 x.keys.toInt]) t a1 p1 (some ⟨b, off, none⟩) p2 b1 q1 (some ⟨b', off', none⟩) q2 ∧ Box (Wc.setRow gQ #[.string x.name, .slice aJ nI capJ, .int .i64 x.keys.toInt]) gP 26 #[.string x.name, .slice aI nI capI, .int .i64 x.keys.toInt] ∧ Box (Wc.setRow gQ #[.string x.name, .slice aJ nI capJ, .int .i64 x.keys.toInt]) gQ 26 #[.string x.name, .slice aJ nI capJ, .int .i64 x.keys.toInt] ∧ Below wr.heap.size wr (Wc.setRow gQ #[.string x.name, .slice aJ nI capJ, .int .i64 x.keys.toInt])) := ⟨HS.out.over hB6, BP, BQ, hB6⟩
            obtain ⟨W6, hW6⟩ : ∃ W6, W6 = Wc.setRow gQ #[.string x.name, .slice aJ nI capJ, .int .i64 x.keys.toInt] := ⟨_, rfl⟩
            rw [← hW6] at HQ ⊢
            clear hB6
            have z0 := HQ.out.2.1.cell 0 _ rfl
            have z1 := HQ.out.2.1.cell 1 _ rfl
            have z2 := HQ.out.2.1.cell 2 _ rfl
            have y0 := HQ.out.2.2.1.cell 0 _ rfl
            have y1 := HQ.out.2.2.1.cell 1 _ rfl
            have y2 := HQ.out.2.2.1.cell 2 _ rfl
            clear BP BQ hW6 BP0 BQ0 bWc hPQ HS f1 f2 g0 g1 g2 g3 g4 g5 hBP hBQ hWc bWb HUp
            go_wp2_with fail
            go_loopg [9] nI (fun gg s9 wx => ∃ k : Nat, k + gg = nI ∧ s9 = .int .i64 k ∧ Hid (Sm w wx t a1 p1 (some ⟨b, off, none⟩) p2 b1 q1 (some ⟨b', off', none⟩) q2 ∧ Box wx gP 26 #[.string x.name, .slice aI nI capI, .int .i64 x.keys.toInt] ∧ Box wx gQ 26 #[.string x.name, .slice aJ nI capJ, .int .i64 x.keys.toInt] ∧ Below wr.heap.size wr wx))
            case atStart => exact ⟨0, by omega, rfl, HQ⟩
            case round =>
              clear HQ z0 z1 z2 y0 y1 y2
              obtain ⟨k, hkg, rfl, HQ⟩ := hrel
              have z1 := HQ.out.2.1.cell 1 _ rfl
              have y1 := HQ.out.2.2.1.cell 1 _ rfl
              by_cases hk : k < nI
              · have hkI : (k : Int) < (nI : Int) := by omega
                have hr3 : IntKind.i64.wrap ((k : Int) + 1) = (k : Int) + 1 := by rw [IntKind.wrap_i64]; omega
                obtain ⟨u, b3, o3, hu, rfl, i0⟩ := at1I (HX.out.1.over stays_int HQ.out.2.2.2) hk
                obtain ⟨u', b4, o4, hu', rfl, i1⟩ := at1I (HX.out.2.over stays_int HQ.out.2.2.2) hk
                obtain rfl : u' = u := Option.some.inj (hu'.symm.trans hu)
                have huu : (u'.toInt != u'.toInt) = false := by simp
                clear hu hu'
                go_wp2_with fail
                go_quiet (fail)
                go_wp2_with fail
                go_roundg (nI - (k + 1))
                case measure => clear hr2 hr3; omega
                case rel => exact ⟨k + 1, by clear hr2 hr3; omega, by go_num, HQ.out.1.over ⟨rfl, rfl, rfl, Nat.le_refl _, fun _ _ => rfl⟩, HQ.out.2.1, HQ.out.2.2.1, ⟨HQ.out.2.2.2.os, HQ.out.2.2.2.tape, HQ.out.2.2.2.output, HQ.out.2.2.2.size, HQ.out.2.2.2.block⟩⟩
              · have hkI : ¬ (k : Int) < (nI : Int) := by omega
                go_wp2_with fail
                go_roundg (m2 - (j + 1))
                case measure => clear hr2; omega
                case rel => exact ⟨j + 1, by clear hr2; omega, by go_num, HQ.out.1⟩
          · obtain ⟨gP, hgP⟩ : ∃ g, g = wr.heap.size := ⟨_, rfl⟩
            obtain ⟨gQ, hgQ⟩ : ∃ g, g = wr.heap.size + 1 := ⟨_, rfl⟩
            have hBP := Ba
            have hBQ := Bb
            have hPQ : gP ≠ gQ ∧ wr.heap.size ≤ gP ∧ wr.heap.size ≤ gQ := by omega
            rw [← hgP] at hBP
            rw [← hgQ] at hBQ
            dsimp only [Act.put]
            simp only [List.setIfInBounds_toArray, List.set_cons_zero, List.set_cons_succ]
            rw [← hgQ]
            rw [← hgP]
            clear hgP hgQ hWa hWb bWa hsz Ba Bb hHeld HG
            obtain ⟨Wc, hWc⟩ : ∃ Wc, Wc = Wb.setRow gP #[.string x.name, .slice aI nI capI, .int .i64 x.keys.toInt] := ⟨_, rfl⟩
            have bWc : Below wr.heap.size wr Wc := by rw [hWc]; exact below_setRow bWb (by omega) _
            have BP0 : Box Wc gP 26 #[.string x.name, .slice aI nI capI, .int .i64 x.keys.toInt] := by rw [hWc]; exact hBP.setRow _
            have BQ0 : Box Wc gQ 26 #[.string ⟨#[]⟩, .slice none 0 0, .int .i64 0] := by rw [hWc]; exact hBQ.rowOther (by omega) _
            try dsimp only [Act.put]
            try simp only [List.setIfInBounds_toArray, List.set_cons_zero, List.set_cons_succ]
            refine stepL 12 Wc rfl (by kernel_rfl) (by rfl) (by rw [hWc]; exact exec_store_row 26 (.tmp 7) (.tmp 76) rfl gP _ rfl rfl 26 _ hBP size_pj rfl oneP) (HUp.out _ bWc) ?_
            refine doneL (by kernel_rfl) ?_
            try dsimp only [Act.put]
            refine wp_store_row 26 (.tmp 8) (.tmp 81) rfl gQ #[.string x.name, .slice aJ nI capJ, .int .i64 x.keys.toInt] rfl rfl 26 _ BQ0 size_pj rfl oneQ ?_
            try dsimp only [Act.put]
            have hB6 : Below wr.heap.size wr (Wc.setRow gQ #[.string x.name, .slice aJ nI capJ, .int .i64 x.keys.toInt]) := below_setRow bWc (by omega) _
            have BP : Box (Wc.setRow gQ #[.string x.name, .slice aJ nI capJ, .int .i64 x.keys.toInt]) gP 26 #[.string x.name, .slice aI nI capI, .int .i64 x.keys.toInt] := Box.rowOther BP0 (by omega) _
            have BQ : Box (Wc.setRow gQ #[.string x.name, .slice aJ nI capJ, .int .i64 x.keys.toInt]) gQ 26 #[.string x.name, .slice aJ nI capJ, .int .i64 x.keys.toInt] := Box.setRow BQ0 _
            have HQ : Hid (Sm w (Wc.setRow gQ #[.string x.name, .slice aJ nI capJ, .int .i64 x.keys.toInt]) t a1 p1 (some ⟨b, off, none⟩) p2 b1 q1 (some ⟨b', off', none⟩) q2 ∧ Box (Wc.setRow gQ #[.string x.name, .slice aJ nI capJ, .int .i64 x.keys.toInt]) gP 26 #[.string x.name, .slice aI nI capI, .int .i64 x.keys.toInt] ∧ Box (Wc.setRow gQ #[.string x.name, .slice aJ nI capJ, .int .i64 x.keys.toInt]) gQ 26 #[.string x.name, .slice aJ nI capJ, .int .i64 x.keys.toInt] ∧ Below wr.heap.size wr (Wc.setRow gQ #[.string x.name, .slice aJ nI capJ, .int .i64 x.keys.toInt])) := ⟨HS.out.over hB6, BP, BQ, hB6⟩
            obtain ⟨W6, hW6⟩ : ∃ W6, W6 = Wc.setRow gQ #[.string x.name, .slice aJ nI capJ, .int .i64 x.keys.toInt] := ⟨_, rfl⟩
            rw [← hW6] at HQ ⊢
            clear hB6
            have z0 := HQ.out.2.1.cell 0 _ rfl
            have z1 := HQ.out.2.1.cell 1 _ rfl
            have z2 := HQ.out.2.1.cell 2 _ rfl
            have y0 := HQ.out.2.2.1.cell 0 _ rfl
            have y1 := HQ.out.2.2.1.cell 1 _ rfl
            have y2 := HQ.out.2.2.1.cell 2 _ rfl
            clear BP BQ hW6 BP0 BQ0 bWc hPQ HS f1 f2 g0 g1 g2 g3 g4 g5 hBP hBQ hWc bWb HUp
            go_wp2_with fail
            go_loopg [9] nI (fun gg s9 wx => ∃ k : Nat, k + gg = nI ∧ s9 = .int .i64 k ∧ Hid (Sm w wx t a1 p1 (some ⟨b, off, none⟩) p2 b1 q1 (some ⟨b', off', none⟩) q2 ∧ Box wx gP 26 #[.string x.name, .slice aI nI capI, .int .i64 x.keys.toInt] ∧ Box wx gQ 26 #[.string x.name, .slice aJ nI capJ, .int .i64 x.keys.toInt] ∧ Below wr.heap.size wr wx))
            case atStart => exact ⟨0, by omega, rfl, HQ⟩
            case round =>
              clear HQ z0 z1 z2 y0 y1 y2
              obtain ⟨k, hkg, rfl, HQ⟩ := hrel
              have z1 := HQ.out.2.1.cell 1 _ rfl
              have y1 := HQ.out.2.2.1.cell 1 _ rfl
              by_cases hk : k < nI
              · have hkI : (k : Int) < (nI : Int) := by omega
                have hr3 : IntKind.i64.wrap ((k : Int) + 1) = (k : Int) + 1 := by rw [IntKind.wrap_i64]; omega
                obtain ⟨u, b3, o3, hu, rfl, i0⟩ := at1I (HX.out.1.over stays_int HQ.out.2.2.2) hk
                obtain ⟨u', b4, o4, hu', rfl, i1⟩ := at1I (HX.out.2.over stays_int HQ.out.2.2.2) hk
                obtain rfl : u' = u := Option.some.inj (hu'.symm.trans hu)
                have huu : (u'.toInt != u'.toInt) = false := by simp
                clear hu hu'
                go_wp2_with fail
                go_quiet (fail)
                go_wp2_with fail
                go_roundg (nI - (k + 1))
                case measure => clear hr2 hr3; omega
                case rel => exact ⟨k + 1, by clear hr2 hr3; omega, by go_num, HQ.out.1.over ⟨rfl, rfl, rfl, Nat.le_refl _, fun _ _ => rfl⟩, HQ.out.2.1, HQ.out.2.2.1, ⟨HQ.out.2.2.2.os, HQ.out.2.2.2.tape, HQ.out.2.2.2.output, HQ.out.2.2.2.size, HQ.out.2.2.2.block⟩⟩
              · have hkI : ¬ (k : Int) < (nI : Int) := by omega
                go_wp2_with fail
                go_roundg (m2 - (j + 1))
                case measure => clear hr2; omega
                case rel => exact ⟨j + 1, by clear hr2; omega, by go_num, HQ.out.1⟩
        · have hjI : ¬ (j : Int) < (m2 : Int) := by omega
          go_wp2_with fail
          go_ret
          exact ⟨rfl, HS.out.bel⟩
end Go.Proofs.YtdjobjbkpagnaaaGreat
/-
  The contract of the document's Same, where both are the same tables.
-/
namespace Go.Proofs.YtdjobjbkpagnaaaGreat
open Go.RowKit Go.Shelf

set_option maxRecDepth 4000 in
set_option maxHeartbeats 4000000 in
theorem sameTabs_any {w : World} {v1 v2 : Value} {l : List Tb} (h1 : TabsIs w v1 l) (h2 : TabsIs w v2 l) (hl : litL l) :
    Calls Tryz.prog 11 #[v1, v2] w fun e w' => e = .returned (.bool true) ∧ Below w.heap.size w w' := by
  obtain ⟨a1, n, p1, rfl, hn, _⟩ := h1.slice
  obtain ⟨a2, n2, p2, rfl, hn2, _⟩ := h2.slice
  obtain rfl : n2 = n := hn2.symm.trans hn
  have hnI : (n2 : Int) ≤ 1000 := by have := hl.1; omega
  have HH : Hid (TabsIs w (.slice a1 n2 p1) l ∧ TabsIs w (.slice a2 n2 p2) l ∧ ∀ t ∈ l, litT t) := ⟨h1, h2, hl.2⟩
  have hne : ((n2 : Int) != (n2 : Int)) = false := by simp
  clear h1 h2 hl hn hn2
  go_enter Tryz.func11, Tryz.ntmps11
  go_wp2_with fail
  go_loopg [5] n2 (fun gg s5 wx => ∃ i : Nat, i + gg = n2 ∧ s5 = .int .i64 i ∧ Hid (Below w.heap.size w wx))
  case atStart => exact ⟨0, by omega, rfl, Below.refl _ _⟩
  case round =>
    obtain ⟨i, hig, rfl, HB⟩ := hrel
    by_cases hi : i < n2
    · have hiI : (i : Int) < (n2 : Int) := by omega
      have hr2 : IntKind.i64.wrap ((i : Int) + 1) = (i : Int) + 1 := by rw [IntKind.wrap_i64]; omega
      obtain ⟨x, e0, e1, e2, b, off, hx, rfl, hE, g0, g1, g2⟩ := at3T (HH.out.1.over stays_tb HB.out) hi
      obtain ⟨y, e3, e4, e5, b', off', hy, rfl, hE', g3, g4, g5⟩ := at3T (HH.out.2.1.over stays_tb HB.out) hi
      obtain rfl : y = x := Option.some.inj (hy.symm.trans hx)
      have hlt := HH.out.2.2 y (List.mem_of_getElem? hx)
      have co := fun (k : Above wr) => sameOne_any (stays_tb _ _ _ _ hE k.is) (stays_tb _ _ _ _ hE' k.is) hlt
      have k0 := fun (k : Above wr) => above_cell g0 k
      have k1 := fun (k : Above wr) => above_cell g1 k
      have k2 := fun (k : Above wr) => above_cell g2 k
      have k3 := fun (k : Above wr) => above_cell g3 k
      have k4 := fun (k : Above wr) => above_cell g4 k
      have k5 := fun (k : Above wr) => above_cell g5 k
      clear hx hy hE hE' hlt g0 g1 g2 g3 g4 g5
      go_wp2_with fail
      refine wp_region_above (by kernel_rfl) (by kernel_rfl) ?_
      intro hne
      repeat (go_big_quiet_step (fail))
      go_big_quiet_step (first | (go_at_call 33; exact above_of (co _)))
      repeat (go_big_quiet_step (fail))
      refine wpQuiet_nil ?_
      rintro _ ⟨kq, rfl⟩
      have HQ : Hid (Below w.heap.size w kq.it) := HB.out.trans (kq.is.mono HB.out.size)
      clear co k0 k1 k2 k3 k4 k5 hne
      go_wp2_with fail
      go_roundg (n2 - (i + 1))
      case measure => clear hr2; omega
      case rel => exact ⟨i + 1, by clear hr2; omega, by go_num, HQ⟩
    · have hiI : ¬ (i : Int) < (n2 : Int) := by omega
      go_wp2_with fail
      go_ret
      exact ⟨rfl, HB.out⟩
end Go.Proofs.YtdjobjbkpagnaaaGreat
/-
  What awake asks, by numbers. Pure mathematics.
-/
namespace Go.Proofs.YtdjobjbkpagnaaaGreat
open Leb

def eqD (a b : ByteArray) : Bool := decide (a.data.toList = b.data.toList)
theorem eqS_eqD : eqS = eqD := by
  funext a b
  unfold eqS eqD
  rw [ByteArray.toList_eq, ByteArray.toList_eq]
def twoC : List Col := [⟨str [97], 1#64, false⟩, ⟨str [98], 2#64, true⟩]
def tb0 : Tb := ⟨str [116], twoC, [⟨superN, nums 2, 0#64⟩]⟩
def pj1 : Pj := ⟨str [98, 121, 95, 98], [1#64], 1#64⟩
def tb1 : Tb := ⟨str [116], twoC, [⟨superN, nums 2, 0#64⟩, pj1]⟩
theorem aw_cols : colsB twoC = true := by
  unfold colsB sameC
  rw [eqS_eqD]
  decide +kernel
theorem aw_tabs0 : tabsB [tb0] = true := by
  unfold tabsB sameT
  rw [eqS_eqD]
  have : tbB tb0 = true := by
    unfold tbB sameP
    rw [eqS_eqD, show tb0.cols = twoC from rfl, aw_cols]
    decide +kernel
  simp only [List.all_cons, List.all_nil, this]
  decide +kernel
theorem aw_tabs1 : tabsB [tb1] = true := by
  unfold tabsB sameT
  rw [eqS_eqD]
  have : tbB tb1 = true := by
    unfold tbB sameP
    rw [eqS_eqD, show tb1.cols = twoC from rfl, aw_cols]
    decide +kernel
  simp only [List.all_cons, List.all_nil, this]
  decide +kernel
theorem aw_find0 : findT [tb0] (str [116]) = 0 := by
  unfold findT
  rw [eqS_eqD]
  decide +kernel
theorem aw_find1 : findT [tb1] (str [116]) = 0 := by
  unfold findT
  rw [eqS_eqD]
  decide +kernel
theorem aw_col : findC twoC (str [98]) = 1 := by
  unfold findC
  rw [eqS_eqD]
  decide +kernel
theorem aw_pj : findP tb0.projs (str [98, 121, 95, 98]) = -1 := by
  unfold findP
  rw [eqS_eqD]
  decide +kernel
theorem aw_super : findP tb1.projs superN = 0 := by
  unfold findP
  rw [eqS_eqD]
  decide +kernel
theorem aw_pjB : pjB 2 pj1 = true := by decide +kernel
theorem aw_create : createF [] (str [116]) twoC = ([tb0], 0) := by
  unfold createF
  have h1 : (tabsB [] && nameB (str [116]) && colsB twoC) = true := by rw [aw_cols]; decide +kernel
  rw [h1, if_neg (by decide), show findT [] (str [116]) = -1 from rfl, if_neg (by decide), if_neg (by decide)]
  rfl
theorem aw_add : addF [tb0] (str [116]) pj1 = ([tb1], 0) := by
  unfold addF
  rw [aw_tabs0, if_neg (by decide), aw_find0]
  simp only [Int.toNat_zero, List.getElem?_cons_zero]
  rw [if_neg (by decide)]
  unfold addAt
  rw [show tb0.cols.length = 2 from rfl, aw_pjB, if_neg (by decide), show pj1.name = str [98, 121, 95, 98] from rfl, aw_pj, if_neg (by decide), if_neg (by decide)]
  rfl
theorem aw_rem : remF [tb1] (str [116]) superN = ([], 250) := by
  unfold remF
  rw [aw_tabs1, if_neg (by decide), aw_find1]
  simp only [Int.toNat_zero, List.getElem?_cons_zero]
  rw [if_neg (by decide)]
  unfold remAt
  rw [aw_super, if_neg (by decide)]
  have h : readB tb1.cols.length (remL tb1 superN) = false := by
    unfold remL
    rw [aw_super]
    decide +kernel
  rw [h, if_pos rfl]
theorem aw_len : (encTabs [tb1]).length ≤ 1000 := by decide +kernel
end Go.Proofs.YtdjobjbkpagnaaaGreat
/-
  The contracts of law 25's two and awake.
-/
namespace Go.Proofs.YtdjobjbkpagnaaaGreat
open Go.RowKit Go.Shelf Leb

/-- A slice laid as a block of rows. -/
theorem slIs_block {α : Type} {E : World → α → List Value → Prop} {sz : Nat} {w : World} {B : Nat} {t : TypeId} {cs : Array Value} {l : List α} (hb : Box w B t cs) (h : ∀ (i : Nat) (x : α), l[i]? = some x → ∃ r : List Value, r.length = sz ∧ E w x r ∧ ∀ (j : Nat) (u : Value), r[j]? = some u → cs[i * sz + j]? = some u) : SlIs E sz w (.slice (some ⟨B, 0, none⟩) l.length l.length) l := by
  refine ⟨_, _, rfl, Nat.le_refl _, fun _ => ⟨B, 0, rfl, hb.lt, fun i x hi => ?_⟩⟩
  obtain ⟨r, h1, h2, h3⟩ := h i x hi
  exact ⟨r, h1, h2, fun j u hu => by rw [Nat.zero_add]; exact hb.cell _ _ (h3 j u hu)⟩
theorem two_cells (w : World) : ∀ (i : Nat) (x : Col), twoC[i]? = some x → ∃ r : List Value, r.length = 3 ∧ ColE w x r ∧ ∀ (j : Nat) (u : Value), r[j]? = some u → (#[.string { data := #[97] }, .int .i64 1, .bool false, .string { data := #[98] }, .int .i64 2, .bool true] : Array Value)[i * 3 + j]? = some u := by
  intro i x hx
  match i with
  | 0 =>
    obtain rfl : _ = x := Option.some.inj hx
    refine ⟨_, rfl, rfl, fun j u hu => ?_⟩
    match j with
    | 0 => exact hu
    | 1 => exact hu
    | 2 => exact hu
    | j + 3 => simp at hu
  | 1 =>
    obtain rfl : _ = x := Option.some.inj hx
    refine ⟨_, rfl, rfl, fun j u hu => ?_⟩
    match j with
    | 0 => exact hu
    | 1 => exact hu
    | 2 => exact hu
    | j + 3 => simp at hu
  | i + 2 => simp [twoC] at hx
set_option maxRecDepth 4000 in
theorem two_any (w : World) : Calls Tryz.prog 25 #[] w fun e w' => (∃ v, e = .returned v ∧ ColsIs w' v twoC) ∧ Below w.heap.size w w' := by
  go_enter Tryz.func25, Tryz.ntmps25
  go_wp2_with fail
  go_ret
  exact ⟨⟨_, rfl, slIs_block (box_new w _ _) (two_cells _)⟩, below1 _ _⟩
theorem lit_two : ∀ c ∈ twoC, litC c := by
  intro c hc
  simp only [twoC, List.mem_cons, List.not_mem_nil, or_false] at hc
  rcases hc with rfl | rfl <;> (unfold litC; decide)
theorem lit_pj1 : litP pj1 := by unfold litP pj1; decide
theorem lit_super : litP ⟨superN, nums 2, 0#64⟩ := ⟨by show superN.size ≤ 1000; decide, by show (nums 2).length ≤ _; rw [nums_len]; omega⟩
theorem lit_tb0 : litL [tb0] := by
  refine ⟨by simp, fun t ht => ?_⟩
  simp only [List.mem_singleton] at ht
  subst ht
  refine ⟨by show (str [116]).size ≤ _; decide, by show twoC.length ≤ _; decide, by show 1 ≤ _; omega, lit_two, fun p hp => ?_⟩
  simp only [tb0, List.mem_singleton] at hp
  subst hp
  exact lit_super
theorem lit_tb1 : litL [tb1] := by
  refine ⟨by simp, fun t ht => ?_⟩
  simp only [List.mem_singleton] at ht
  subst ht
  refine ⟨by show (str [116]).size ≤ _; decide, by show twoC.length ≤ _; decide, by show 2 ≤ _; omega, lit_two, fun p hp => ?_⟩
  simp only [tb1, List.mem_cons, List.not_mem_nil, or_false] at hp
  rcases hp with rfl | rfl
  · exact lit_super
  · exact lit_pj1
theorem aw_put : putF [tb1] = (encTabs [tb1], 0) := by unfold putF; rw [aw_tabs1]; rfl
theorem aw_take : takeWith pTabsC (str (encTabs [tb1])).data.toList = ([tb1], (encTabs [tb1]).length, 0) := by
  have := take_put aw_tabs1 []
  rw [List.append_nil] at this
  exact this

set_option maxRecDepth 4000 in
set_option maxHeartbeats 4000000 in
theorem awake_any (w : World) : Calls Tryz.prog 9 #[] w fun e w' => e = .returned (.bool true) ∧ Below w.heap.size w w' := by
  go_enter Tryz.func9, Tryz.ntmps9
  go_wp2_with fail
  refine (two_any w).mono ?_
  rintro e w1 ⟨⟨v1, rfl, hv1⟩, hb1⟩
  have HB1 : Hid (Below w.heap.size w w1) := hb1
  have c2 := create_any (slIs_nil TbE 3 w1 none 0) ⟨by simp, by simp⟩ hv1 (by decide) lit_two (str [116]) (by decide)
  rw [aw_create] at c2
  obtain ⟨a1, n1, p1, rfl, _⟩ := hv1.slice
  clear hv1 hb1
  go_wp2_with fail
  refine Calls.mono c2 ?_
  rintro e w2 ⟨⟨v2, rfl, hv2⟩, hb2⟩
  have HB2 : Hid (Below w.heap.size w w2) := HB1.out.trans (hb2.mono HB1.out.size)
  obtain ⟨W3, hW3⟩ : ∃ W3, W3 = w2.alloc (.cells #[.int .i64 1] 3) := ⟨_, rfl⟩
  have hb23 : Below w2.heap.size w2 W3 := by rw [hW3]; exact below1 _ _
  have hB3 : Box W3 w2.heap.size 3 #[.int .i64 1] := by rw [hW3]; exact box_new _ _ _
  have hpj : PjE W3 pj1 [.string { data := #[98, 121, 95, 98] }, .slice (some ⟨w2.heap.size, 0, none⟩) 1 1, .int .i64 1] := ⟨_, rfl, slIs_block (l := [1#64]) hB3 (fun i x hx => by
    match i with
    | 0 =>
      obtain rfl : _ = x := Option.some.inj hx
      refine ⟨_, rfl, rfl, fun j u hu => ?_⟩
      match j with
      | 0 => exact hu
      | j + 1 => simp at hu
    | i + 1 => simp at hx)⟩
  have c3 := add_any (hv2.over stays_tb hb23) lit_tb0 (str [116]) hpj lit_pj1
  rw [aw_add] at c3
  have HW3 : Hid (W3 = w2.alloc (.cells #[.int .i64 1] 3) ∧ Below w.heap.size w W3) := ⟨hW3, HB2.out.trans (hb23.mono HB2.out.size)⟩
  obtain ⟨a2, n2, p2, rfl, _⟩ := hv2.slice
  clear c2 hv2 hb2 hb23 hB3 hpj hW3
  go_wp2_with fail
  rw [← HW3.out.1]
  refine Calls.mono c3 ?_
  rintro e w4 ⟨⟨v4, rfl, hv4⟩, hb4⟩
  have H4 : Hid (TabsIs w4 v4 [tb1] ∧ Below w.heap.size w w4) := ⟨hv4, HW3.out.2.trans (hb4.mono HW3.out.2.size)⟩
  have c4 := remove_any hv4 lit_tb1 (str [116]) superN
  rw [aw_rem] at c4
  obtain ⟨a4, n4, p4, rfl, hn4, _⟩ := hv4.slice
  obtain rfl : 1 = n4 := hn4
  clear c3 hv4 hb4
  go_wp2_with fail
  refine Calls.mono c4 ?_
  rintro e w5 ⟨⟨v5, rfl, hv5⟩, hb5⟩
  have c5 := putTabs_any (H4.out.1.over stays_tb hb5) lit_tb1
  rw [aw_put] at c5
  have HB5 : Hid (Below w4.heap.size w4 w5) := hb5
  clear c4 hv5 hb5
  go_wp2_with fail
  refine Calls.mono c5 ?_
  rintro e w6 ⟨rfl, hb6⟩
  have c6 := takeTabs_any (str (encTabs [tb1])) (by have := aw_len; rw [str_size]; omega) w6
  rw [aw_take] at c6
  have HB6 : Hid (Below w4.heap.size w4 w6) := HB5.out.trans (hb6.mono HB5.out.size)
  clear c5 hb6
  go_wp2_with fail
  refine Calls.mono c6 ?_
  rintro e w7 ⟨⟨v7, rfl, hv7⟩, hb7⟩
  have HB7 : Hid (Below w4.heap.size w4 w7) := HB6.out.trans (hb7.mono HB6.out.size)
  have c7 := sameTabs_any hv7 (H4.out.1.over stays_tb HB7.out) lit_tb1
  have hlen : ((str (encTabs [tb1])).size : Int) = ((encTabs [tb1]).length : Int) := by rw [str_size]
  have hlb : ((encTabs [tb1]).length : Int) ≤ 1000 := by have := aw_len; omega
  obtain ⟨nn, hnn⟩ : ∃ nn, nn = (encTabs [tb1]).length := ⟨_, rfl⟩
  obtain ⟨a7, n7, p7, rfl, _⟩ := hv7.slice
  clear c6 hv7 hb7
  go_wp2_with fail
  refine Calls.mono c7 ?_
  rintro e w8 ⟨rfl, hb8⟩
  have HB8 : Hid (Below w4.heap.size w4 w8) := HB7.out.trans (hb8.mono HB7.out.size)
  have hT8 := H4.out.1.over stays_tb HB8.out
  have c8 := find_any hT8 (by simp) (str [116])
  rw [aw_find1] at c8
  obtain ⟨x, e0, e1, e2, b, off, hx, rfl, hE, g0, g1, g2⟩ := at3T hT8 (k := 0) (by omega)
  obtain rfl : tb1 = x := Option.some.inj hx
  simp only [Nat.zero_mul, Nat.add_zero] at g0 g1 g2
  have HE : Hid (TbE w8 tb1 [e0, e1, e2]) := hE
  obtain ⟨rfl, ac, nc, pc, ap, np, pp, rfl, rfl, hlc, hlp, _, _⟩ := tb_cells hE
  have hnp : (2 : Nat) = np := hlp
  subst hnp
  clear c7 hb8 hT8 hx hE hlc
  go_wp2_with fail
  refine Calls.mono c8 ?_
  rintro e w9 ⟨rfl, hb9⟩
  have c9 := column_any (stays_tb _ _ _ _ HE.out hb9) (by show twoC.length ≤ _; decide) (str [98])
  rw [show tb1.cols = twoC from rfl, aw_col] at c9
  have k0 := above_cell g0 ⟨w9, hb9⟩
  have k1 := above_cell g1 ⟨w9, hb9⟩
  have k2 := above_cell g2 ⟨w9, hb9⟩
  have HB9 : Hid (Below w4.heap.size w4 w9) := HB8.out.trans (hb9.mono HB8.out.size)
  dsimp only at k0 k1 k2
  clear c8 hb9 g0 g1 g2
  go_wp2_with fail
  refine Calls.mono c9 ?_
  rintro e w10 ⟨rfl, hb10⟩
  have HB10 : Hid (Below w4.heap.size w4 w10) := HB9.out.trans (hb10.mono HB9.out.size)
  clear c9 hb10
  go_wp2_with fail
  go_ret
  exact ⟨rfl, H4.out.2.trans (HB10.out.mono H4.out.2.size)⟩
end Go.Proofs.YtdjobjbkpagnaaaGreat
