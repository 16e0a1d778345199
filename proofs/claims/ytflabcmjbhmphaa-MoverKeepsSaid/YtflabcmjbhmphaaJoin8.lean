/-
  3 texts, one behind the other: MVecM, MVec, MRefM.
-/
import Derived.Test.YtflabcmjbhmphaaJoin7
import Derived.Test.YtflabcmjbhmphaaJoin6
import Derived.Test.YtflabcmjbhmphaaJoin2
import Derived.Deep.DeepCutAuto
import Derived.Deep.CutBlock
/-
  What is so while Vectors makes its three lists.
-/
namespace Go.Proofs.Ytflabcmjbhmphaa
open Go.RowKit

theorem infos_mk : (Try.prog.info? 66).map (fun i => (i.zero, i.size, i.bytes)) = some (some (.agg #[.int .i64 0, .int .i64 0]), 2, 16) := by kernel_rfl
theorem size_mk : (Try.prog.info? 66).map (·.size) = some 2 := by kernel_rfl
theorem exec_make {P : Program} {o : Oper} {ev : Operand → Value} {w w' : World} {t : TypeId} {l c : Operand} {v : Value} (ho : o.op = .makeSlice t l c) {k : Int} (hl : ev l = .int .i64 k) (hc : ev c = .int .i64 k) (hr : (Instr.makeSlice t (.int .i64 k) (.int .i64 k)).run P w = .ok v w') : (execOp ev o).run P w = .ok (.value v) w' := by
  simp [execOp, ho, hl, hc, hr, Result.andThen]
theorem run_make_rows {P : Program} (w : World) (T e : TypeId) (z : Value) (sz bytes : Nat) (hT : P.underlying T = some (.slice e)) (hi : (P.info? e).map (fun i => (i.zero, i.size, i.bytes)) = some (some z, sz, bytes)) (hzs : z.cells.size = sz) (hsz : 0 < sz) (hbl : bytes ≤ 200) (n : Nat) (hn : n ≤ 1000000) :
    ∃ w', (Instr.makeSlice T (.int .i64 (n : Int)) (.int .i64 (n : Int))).run P w = .ok (.slice (some ⟨w.heap.size, 0, none⟩) n n) w' ∧ SRows w' (.slice (some ⟨w.heap.size, 0, none⟩) n n) e sz (List.replicate n z.cells.toList) ∧ Below w.heap.size w w' := by
  obtain ⟨i0, hi0, hz0, hz1, hz2⟩ := info_parts hi
  obtain ⟨w', hr, hown, hg⟩ := run_make_full (P := P) (w := w) w.heap.size T e i0 z sz hT hi0 hz0 hz1 .i64 .i64 n (by
    rw [hz2]
    have : bytes * n ≤ 200 * 1000000 := Nat.mul_le_mul hbl hn
    omega) (by unfold maxLen; omega) (Nat.le_refl _)
  exact ⟨w', hr, srows_of_own hown (made_flat z.cells n sz hzs hsz) (fun r hr => by rw [(List.mem_replicate.1 hr).2]; simpa using hzs) hsz (by simp), (Below.refl _ w).grown hg (Nat.le_refl _) (fun k hk => by cases hk)⟩
/-- What is so of the three lists when k lives are through. -/
structure VSt (w wx : World) (g1 g2 n : Nat) (l : List Lf) (k : Nat) (vm : Value) (A : List (List Cl)) (B : List (BitVec 64)) (q : Nat) : Prop where
  rows : OwnX RwX 1 40 (fun x => x = g2 ∨ vm.ownBlock = some x) w wx (.slice (some ⟨g1, 0, none⟩) n n) A
  born : OwnX (fun _ => IntE) 1 3 (fun x => x = g1 ∨ vm.ownBlock = some x) w wx (.slice (some ⟨g2, 0, none⟩) n n) B
  marks : OwnS MkE 2 66 w wx vm (mksP l q)
  ra : A.length = n ∧ ∀ j, j < k → A[j]? = (l.map (·.r))[j]?
  rb : B.length = n ∧ ∀ j, j < k → B[j]? = (l.map (·.b))[j]?
section
variable {w wx wy : World} {g1 g2 n k q : Nat} {l : List Lf} {vm : Value} {A : List (List Cl)} {B : List (BitVec 64)}
theorem VSt.over (h : VSt w wx g1 g2 n l k vm A B q) (b : Below wx.heap.size wx wy) : VSt w wy g1 g2 n l k vm A B q :=
  ⟨h.rows.over xok_rw b, h.born.over xok_i b, h.marks.over b, h.ra, h.rb⟩
theorem VSt.bel (h : VSt w wx g1 g2 n l k vm A B q) : Below w.heap.size w wx := h.rows.bel
/-- Marks that grew. -/
theorem VSt.app (h : VSt w wx g1 g2 n l k vm A B q) {vn : Value} (hm : OwnS MkE 2 66 w wy vn (mksP l (q + 1))) (hk : Kept (fun x => vm.ownBlock = some x) wx wy) (hw : ∀ x, vn.ownBlock = some x → vm.ownBlock = some x ∨ wx.heap.size ≤ x) : VSt w wy g1 g2 n l k vn A B (q + 1) := by
  have hg1 := (h.rows.own (k := g1) rfl).2.2
  have hg2 := (h.born.own (k := g2) rfl).2.2
  have hs := hk.size
  have hn1 : ¬ vm.ownBlock = some g1 := fun e => (h.rows.own (k := g1) rfl).2.1 (.inr e)
  have hn2 : ¬ vm.ownBlock = some g2 := fun e => (h.born.own (k := g2) rfl).2.1 (.inr e)
  have hf : ∀ x, vn.ownBlock = some x → w.heap.size ≤ x := hm.from
  have key : ∀ {α : Type} {EX : (Nat → Prop) → World → α → List Value → Prop} {E : World → α → List Value → Prop} (ho : XOk EX E) {t : TypeId} {v : Value} {L : List α} {g : Nat}, OwnX EX 1 t (fun x => x = g ∨ vm.ownBlock = some x) w wx v L → w.heap.size ≤ g → OwnX EX 1 t (fun x => x = g ∨ vn.ownBlock = some x) w wy v L := by
    intro α EX E ho t v L g hX hg
    obtain ⟨R, r1, r2, r3, r4, r5⟩ := hX
    refine ⟨R, r1.kept hk (fun x hx hf => (r3 x hx).2 (.inr hf)), ⟨r2.1, fun i x r hx hr => ?_⟩, fun x hx => ⟨(r3 x hx).1, fun hh => ?_⟩, fun x hx => ?_, r5.trans (hk.below (fun x hx => h.marks.from x hx) r5.size)⟩
    · have e1 : EX (fun y => (v.ownBlock = some y ∨ y = g ∨ vn.ownBlock = some y) ∨ vm.ownBlock = some y) wx x r := ho.other (r2.2 i x r hx hr) fun b hb hg => by
        rcases hg with (hg | hg | hg) | hg
        · exact .inl hg
        · exact .inr (.inl hg)
        · rcases hw b hg with q | q
          · exact .inr (.inr q)
          · omega
        · exact .inr (.inr hg)
      exact ho.other (ho.kept e1 (hk.mono fun y hy => .inr hy)) fun b _ hg => .inl hg
    · rcases hh with hh | hh
      · exact (r3 x hx).2 (.inl hh)
      · rcases hw x hh with q | q
        · exact (r3 x hx).2 (.inr q)
        · have := r1.lt hx; omega
    · rcases hx with hx | hx
      · rw [hx]; exact hg
      · exact hf x hx
  exact ⟨key xok_rw h.rows (h.born.own (k := g2) rfl).1, key xok_i h.born (h.rows.own (k := g1) rfl).1, hm, h.ra, h.rb⟩
/-- A mark is none. -/
theorem VSt.skip (h : VSt w wx g1 g2 n l k vm A B q) (e : mksP l (q + 1) = mksP l q) : VSt w wx g1 g2 n l k vm A B (q + 1) := ⟨h.rows, h.born, by rw [e]; exact h.marks, h.ra, h.rb⟩
theorem OwnS.kept {α : Type} {E : World → α → List Value → Prop} {sz : Nat} {t : TypeId} {w0 w w' : World} {v : Value} {l : List α} (h : OwnS E sz t w0 w v l) {F : Nat → Prop} (k : Kept F w w') (h1 : ∀ x, v.ownBlock = some x → ¬ F x) (h2 : ∀ x, F x → w0.heap.size ≤ x) : OwnS E sz t w0 w' v l := by
  obtain ⟨R, r1, r2, r3, r4⟩ := h
  exact ⟨R, r1.kept k h1, r2, r3, r4.trans (k.below h2 r4.size)⟩
/-- The row and the birth at k are laid. -/
theorem VSt.put (h : VSt w wx g1 g2 n l k vm A B k) {x : Lf} (hx : l[k]? = some x) (hn : l.length = n) {v3 : Value} (hv : SlX (fun y => y = g1 ∨ y = g2 ∨ vm.ownBlock = some y) CE 3 wx v3 x.r) :
    ((∃ u, wx.cell? ⟨g1, k, none⟩ = some u) ∧ wx.frozen? ⟨g1, k, none⟩ = false) ∧ ((∃ u, (wx.setCell ⟨g1, k, none⟩ v3).cell? ⟨g2, k, none⟩ = some u) ∧ (wx.setCell ⟨g1, k, none⟩ v3).frozen? ⟨g2, k, none⟩ = false) ∧
      VSt w ((wx.setCell ⟨g1, k, none⟩ v3).setCell ⟨g2, k, none⟩ (.int .i64 x.b.toInt)) g1 g2 n l (k + 1) vm (A.set k x.r) (B.set k x.b) k := by
  have hkn : k < n := by rw [← hn]; exact (List.getElem?_eq_some_iff.1 hx).1
  obtain ⟨g, cap, y, r, e, p1, p2, p3, _, hrl, _, hc, _, hset, _⟩ := h.rows.at xok_rw (i := k) (by rw [h.ra.1]; exact hkn)
  rw [h.ra.1] at e
  cases e
  obtain ⟨u, rfl⟩ : ∃ u, r = [u] := by
    match r, hrl with
    | [u], _ => exact ⟨u, rfl⟩
  have c0 := hc 0 u rfl
  rw [Nat.mul_one, Nat.add_zero] at c0
  have hR := hset 0 v3 x.r (by decide) ⟨v3, rfl, hv.other (fun b _ hb => by
    rcases hb with hb | hb
    · have e : some g1 = some b := hb
      cases e; exact .inl rfl
    · exact .inr hb) (fun _ _ h => h)⟩
  rw [Nat.mul_one, Nat.add_zero] at hR
  have hK1 : Kept (fun x => x = g1) wx (wx.setCell ⟨g1, k, none⟩ v3) := (Kept.refl (fun x => x = g1) wx).setCell (p := ⟨g1, k, none⟩) (.inl rfl) _
  have hB1 := h.born.kept xok_i hK1 (fun x hx => .inl hx)
  have hM1 := h.marks.kept hK1 (fun x hx e => p2 (.inr (by rw [← e]; exact hx))) (fun x hx => by rw [hx]; exact p1)
  obtain ⟨g', cap', y', r', e, q1, q2, q3, _, hrl', _, hc', _, hset', _⟩ := hB1.at xok_i (i := k) (by rw [h.rb.1]; exact hkn)
  rw [h.rb.1] at e
  cases e
  obtain ⟨u', rfl⟩ : ∃ u, r' = [u] := by
    match r', hrl' with
    | [u], _ => exact ⟨u, rfl⟩
  have c0' := hc' 0 u' rfl
  rw [Nat.mul_one, Nat.add_zero] at c0'
  have hB := hset' 0 (.int .i64 x.b.toInt) x.b (by decide) rfl
  rw [Nat.mul_one, Nat.add_zero] at hB
  have hK2 : Kept (fun x => x = g2) (wx.setCell ⟨g1, k, none⟩ v3) ((wx.setCell ⟨g1, k, none⟩ v3).setCell ⟨g2, k, none⟩ (.int .i64 x.b.toInt)) := (Kept.refl (fun x => x = g2) _).setCell (p := ⟨g2, k, none⟩) (.inl rfl) _
  have hR2 := hR.kept xok_rw hK2 (fun x hx => .inl hx)
  have hM2 := hM1.kept hK2 (fun x hx e => q2 (.inr (by rw [← e]; exact hx))) (fun x hx => by rw [hx]; exact q1)
  have l1 : (l.map (·.r))[k]? = some x.r := by rw [List.getElem?_map, hx]; rfl
  have l2 : (l.map (·.b))[k]? = some x.b := by rw [List.getElem?_map, hx]; rfl
  refine ⟨⟨⟨_, c0.1⟩, c0.2⟩, ⟨⟨_, c0'.1⟩, c0'.2⟩, ?_⟩
  exact ⟨hR2, hB, hM2, ⟨by rw [List.length_set]; exact h.ra.1, prefix_step h.ra.2 (by rw [h.ra.1]; exact hkn) l1⟩, ⟨by rw [List.length_set]; exact h.rb.1, prefix_step h.rb.2 (by rw [h.rb.1]; exact hkn) l2⟩⟩
end
/-- What Vectors answers. -/
def VecAns (w : World) (l : List Lf) (e : Ending) (w' : World) : Prop := ∃ v1 v2 v3, e = .returned (.tuple #[v1, v2, v3]) ∧ RwsIs w' v1 (l.map (·.r)) ∧ RunsIs w' v2 (ofP (l.map (·.b)) l.length) ∧ MksIs w' v3 (mksP l l.length) ∧ Below w.heap.size w w'
end Go.Proofs.Ytflabcmjbhmphaa
/-
  The contract of mover's Vectors.
-/
namespace Go.Proofs.Ytflabcmjbhmphaa
open Go.RowKit

section
variable {P : Program} {l : List Oper} {z : Oper} {Q : Exit → Act → World → Prop}
/-- Two variables that are made, whichever comes up first. -/
theorem newNewL {S : World → Prop} (i j : Nat) {oi oj : Oper} {fuel : Nat} {listed : Array Bool} {a : Act} {w : World} (wi : World) (vi : Value) (wj : World) (vj : Value) (hi : l[i]? = some oi) (hj : l[j]? = some oj) (hr : Region.ready .any l.toArray listed = [i, j])
    (hwi : Region.wanted oi (yielded l.toArray a.tmps) = true) (hwj : Region.wanted oj (yielded l.toArray a.tmps) = true) (hopi : (execOp a.eval oi).run P w = .ok (.value vi) wi) (hopj : (execOp a.eval oj).run P w = .ok (.value vj) wj) (hSi : S wi) (hSj : S wj)
    (h1 : wpAnyH P .any l.toArray (Then P z Q) S fuel (listed.setIfInBounds i true) (a.put oi.dst vi) wi)
    (h2 : wpAnyH P .any l.toArray (Then P z Q) S fuel (listed.setIfInBounds j true) (a.put oj.dst vj) wj) : wpAnyH P .any l.toArray (Then P z Q) S (fuel + 1) listed a w := by
  refine wpAnyH_all hr (by simp) ?_
  intro k hk
  simp only [List.mem_cons, List.not_mem_nil, or_false] at hk
  have hi' : l.toArray[i]? = some oi := by simpa using hi
  have hj' : l.toArray[j]? = some oj := by simpa using hj
  rcases hk with rfl | rfl
  · unfold wpOp
    simp only [hi', hwi, if_true]
    refine .inl ?_
    unfold Oper.wp
    rw [hopi]
    exact ⟨hSi, h1⟩
  · unfold wpOp
    simp only [hj', hwj, if_true]
    refine .inl ?_
    unfold Oper.wp
    rw [hopj]
    exact ⟨hSj, h2⟩
end

theorem at_mk {w : World} {a : Option Addr} {n cap : Nat} {l : List Mk} (h : MksIs w (.slice a n cap) l) {k : Nat} (hk : k < n) : ∃ (m : Mk) (b off : Nat), l[k]? = some m ∧ a = some ⟨b, off, none⟩ ∧ b < w.heap.size ∧ w.cell? ⟨b, off + k * 2, none⟩ = some (.int .i64 m.a) ∧ w.cell? ⟨b, off + k * 2 + 1, none⟩ = some (.int .i64 m.g) := by
  obtain ⟨m, cs, b, off, h1, h2, h3, _, h5, h6⟩ := h.at hk
  have e : cs = mkC m := h5
  subst e
  exact ⟨m, b, off, h1, h2, h3, by simpa using h6 0 _ rfl, h6 1 _ rfl⟩
theorem vst_new {w W2 : World} {g1 g2 n : Nat} (l : List Lf) (hA : OwnX RwX 1 40 (fun x => x = g2) w W2 (.slice (some ⟨g1, 0, none⟩) n n) (List.replicate n [])) (hB : OwnX (fun _ => IntE) 1 3 (fun x => x = g1) w W2 (.slice (some ⟨g2, 0, none⟩) n n) (List.replicate n 0#64)) : VSt w W2 g1 g2 n l 0 (.slice none 0 0) (List.replicate n []) (List.replicate n 0#64) 0 := by
  have no : ∀ x, ¬ (Value.slice none 0 0).ownBlock = some x := fun x hx => by simp [Value.ownBlock] at hx
  have q1 := (hA.own (k := g1) rfl).1
  have q2 := (hB.own (k := g2) rfl).1
  refine ⟨hA.other xok_rw (fun b _ hb => ?_) (fun x hx => ?_), hB.other xok_i (fun b _ hb => ?_) (fun x hx => ?_), ownS_nil _ _ _ hA.bel, ⟨by simp, fun j hj => by omega⟩, ⟨by simp, fun j hj => by omega⟩⟩
  · rcases hb with hb | hb
    · exact hb
    · exact absurd hb (no b)
  · rcases hx with hx | hx
    · rw [hx]; exact q2
    · exact absurd hx (no x)
  · rcases hb with hb | hb
    · exact hb
    · exact absurd hb (no b)
  · rcases hx with hx | hx
    · rw [hx]; exact q1
    · exact absurd hx (no x)
set_option maxRecDepth 4000 in
set_option maxHeartbeats 8000000 in
theorem vectors_any {w : World} {v : Value} {l : List Lf} (h : LfsIs w v l) (hl : l.length ≤ 1000) (hr : ∀ x ∈ l, x.r.length ≤ 1000) :
    Calls Try.prog 10 #[v] w (VecAns w l) := by
  obtain ⟨a, n, cap, rfl, hn, hcap⟩ := h.slice
  have hn1 : (n : Int) ≤ 1000 := by omega
  have HH : Hid (LfsIs w (.slice a n cap) l ∧ l.length = n ∧ n ≤ 1000 ∧ ∀ x ∈ l, x.r.length ≤ 1000) := ⟨h, hn, by omega, hr⟩
  clear h hn hl hr hcap
  go_enter Try.func10, Try.ntmps10
  go_wp2_with fail
  go_cut [5, 6] (fun s5 s6 wx => ∃ (g1 g2 : Nat) (W1 : World), s5 = .slice (some ⟨g1, 0, none⟩) n n ∧ s6 = .slice (some ⟨g2, 0, none⟩) n n ∧ wx = W1 ∧ Hid (VSt w W1 g1 g2 n l 0 (.slice none 0 0) (List.replicate n []) (List.replicate n 0#64) 0))
  case first =>
    have hm : n ≤ 1000000 := Nat.le_trans HH.out.2.2.1 (by decide)
    have hd : Below w.heap.size w w.drew := (Below.refl _ w).drew
    -- rows first
    obtain ⟨w1, e1, s1, b1⟩ := run_make_rows (P := Try.prog) w.drew 26 40 (.slice none 0 0) 1 24 Try.underlying26 infos_rw rfl (by decide) (by decide) n hm
    obtain ⟨w2, e2, s2, b2⟩ := run_make_rows (P := Try.prog) w1 45 3 (.int .i64 0) 1 8 Try.underlying45 infos_i rfl (by decide) (by decide) n hm
    -- births first
    obtain ⟨w3, e3, s3, b3⟩ := run_make_rows (P := Try.prog) w.drew 45 3 (.int .i64 0) 1 8 Try.underlying45 infos_i rfl (by decide) (by decide) n hm
    obtain ⟨w4, e4, s4, b4⟩ := run_make_rows (P := Try.prog) w3 26 40 (.slice none 0 0) 1 24 Try.underlying26 infos_rw rfl (by decide) (by decide) n hm
    have l1 := s1.lt (k := w.drew.heap.size) rfl
    have l3 := s3.lt (k := w.drew.heap.size) rfl
    have H1 : Hid (VSt w w2 w.drew.heap.size w1.heap.size n l 0 (.slice none 0 0) (List.replicate n []) (List.replicate n 0#64) 0) := by
      have hA : OwnX RwX 1 40 (fun x => x = w1.heap.size) w w1 (.slice (some ⟨w.drew.heap.size, 0, none⟩) n n) (List.replicate n []) := ownX_made s1 hd b1 (fun G => rwX_nil G w1) (fun k hk => by rw [hk]; exact Nat.le_trans hd.size b1.size) (by omega)
      exact vst_new l (hA.over xok_rw b2) (ownX_made s2 (hd.trans (b1.mono hd.size)) b2 (fun G => rfl) (fun k hk => by rw [hk]; exact hd.size) (by omega))
    have H2 : Hid (VSt w w4 w3.heap.size w.drew.heap.size n l 0 (.slice none 0 0) (List.replicate n []) (List.replicate n 0#64) 0) := by
      have hA : OwnX (fun _ => IntE) 1 3 (fun x => x = w3.heap.size) w w3 (.slice (some ⟨w.drew.heap.size, 0, none⟩) n n) (List.replicate n 0#64) := ownX_made s3 hd b3 (fun G => rfl) (fun k hk => by rw [hk]; exact Nat.le_trans hd.size b3.size) (by omega)
      exact vst_new l (ownX_made s4 (hd.trans (b3.mono hd.size)) b4 (fun G => rwX_nil G w4) (fun k hk => by rw [hk]; exact hd.size) (by omega)) (hA.over xok_i b4)
    have E1 : Hid ((Instr.makeSlice 26 (.int .i64 (n : Int)) (.int .i64 (n : Int))).run Try.prog w.drew = .ok (.slice (some ⟨w.drew.heap.size, 0, none⟩) n n) w1) := e1
    have E2 : Hid ((Instr.makeSlice 45 (.int .i64 (n : Int)) (.int .i64 (n : Int))).run Try.prog w1 = .ok (.slice (some ⟨w1.heap.size, 0, none⟩) n n) w2) := e2
    have E3 : Hid ((Instr.makeSlice 45 (.int .i64 (n : Int)) (.int .i64 (n : Int))).run Try.prog w.drew = .ok (.slice (some ⟨w.drew.heap.size, 0, none⟩) n n) w3) := e3
    have E4 : Hid ((Instr.makeSlice 26 (.int .i64 (n : Int)) (.int .i64 (n : Int))).run Try.prog w3 = .ok (.slice (some ⟨w3.heap.size, 0, none⟩) n n) w4) := e4
    clear e1 e2 e3 e4 s1 s2 s3 s4 b1 b2 b3 b4 l1 l3 hd hm
    refine wp_region_held_then (fun _ : World => True) _ (by kernel_rfl) rfl (by kernel_rfl) ?_
    have hHeld : (fun _ : World => True) w.drew := trivial
    dsimp only [List.dropLast, List.length, List.getLast]
    ((refine takeL 0 (v := ?_) rfl (by kernel_rfl) (by kernel_rfl) (by kernel_rfl) (fun _ _ _ h => h) (by rfl) hHeld ?_ ?_; rotate_left; focus (intro w hSw; (try dsimp only at hSw); go_simp <;> with_reducible rfl); (try simp only [Act.put, List.setIfInBounds_toArray, List.set_cons_zero, List.set_cons_succ])); (refine takeL 1 (v := ?_) rfl (by kernel_rfl) (by kernel_rfl) (by kernel_rfl) (fun _ _ _ h => h) (by rfl) hHeld ?_ ?_; rotate_left; focus (intro w hSw; (try dsimp only at hSw); go_simp <;> with_reducible rfl); (try simp only [Act.put, List.setIfInBounds_toArray, List.set_cons_zero, List.set_cons_succ])); (refine takeL 3 (v := ?_) rfl (by kernel_rfl) (by kernel_rfl) (by kernel_rfl) (fun _ _ _ h => h) (by rfl) hHeld ?_ ?_; rotate_left; focus (intro w hSw; (try dsimp only at hSw); go_simp <;> with_reducible rfl); (try simp only [Act.put, List.setIfInBounds_toArray, List.set_cons_zero, List.set_cons_succ])); (refine takeL 4 (v := ?_) rfl (by kernel_rfl) (by kernel_rfl) (by kernel_rfl) (fun _ _ _ h => h) (by rfl) hHeld ?_ ?_; rotate_left; focus (intro w hSw; (try dsimp only at hSw); go_simp <;> with_reducible rfl); (try simp only [Act.put, List.setIfInBounds_toArray, List.set_cons_zero, List.set_cons_succ])))
    dsimp only [Act.put]
    simp only [List.setIfInBounds_toArray, List.set_cons_zero, List.set_cons_succ]
    refine newNewL 2 5 w1 (.slice (some ⟨w.drew.heap.size, 0, none⟩) n n) w3 (.slice (some ⟨w.drew.heap.size, 0, none⟩) n n) rfl rfl (by kernel_rfl) (by rfl) (by rfl) (exec_make rfl rfl rfl E1.out) (exec_make rfl rfl rfl E3.out) trivial trivial ?_ ?_
    · dsimp only [Act.put]
      simp only [List.setIfInBounds_toArray, List.set_cons_zero, List.set_cons_succ]
      ((refine takeL 6 (v := ?_) rfl (by kernel_rfl) (by kernel_rfl) (by kernel_rfl) (fun _ _ _ h => h) (by rfl) hHeld ?_ ?_; rotate_left; focus (intro w hSw; (try dsimp only at hSw); go_simp <;> with_reducible rfl); (try simp only [Act.put, List.setIfInBounds_toArray, List.set_cons_zero, List.set_cons_succ])))
      dsimp only [Act.put]
      simp only [List.setIfInBounds_toArray, List.set_cons_zero, List.set_cons_succ]
      refine newL 5 w2 (.slice (some ⟨w1.heap.size, 0, none⟩) n n) rfl (by kernel_rfl) (by rfl) (exec_make rfl rfl rfl E2.out) trivial ?_
      dsimp only [Act.put]
      simp only [List.setIfInBounds_toArray, List.set_cons_zero, List.set_cons_succ]
      refine doneL (by kernel_rfl) ?_
      try dsimp only [Act.put]
      unfold Oper.wp
      go_simp
      go_wp2_with fail
      go_meet
      exact ⟨_, _, _, rfl, rfl, rfl, H1⟩
    · dsimp only [Act.put]
      simp only [List.setIfInBounds_toArray, List.set_cons_zero, List.set_cons_succ]
      refine newL 2 w4 (.slice (some ⟨w3.heap.size, 0, none⟩) n n) rfl (by kernel_rfl) (by rfl) (exec_make rfl rfl rfl E4.out) trivial ?_
      dsimp only [Act.put]
      simp only [List.setIfInBounds_toArray, List.set_cons_zero, List.set_cons_succ]
      ((refine takeL 6 (v := ?_) rfl (by kernel_rfl) (by kernel_rfl) (by kernel_rfl) (fun _ _ _ h => h) (by rfl) hHeld ?_ ?_; rotate_left; focus (intro w hSw; (try dsimp only at hSw); go_simp <;> with_reducible rfl); (try simp only [Act.put, List.setIfInBounds_toArray, List.set_cons_zero, List.set_cons_succ])))
      dsimp only [Act.put]
      simp only [List.setIfInBounds_toArray, List.set_cons_zero, List.set_cons_succ]
      refine doneL (by kernel_rfl) ?_
      try dsimp only [Act.put]
      unfold Oper.wp
      go_simp
      go_wp2_with fail
      go_meet
      exact ⟨_, _, _, rfl, rfl, rfl, H2⟩
  case rest =>
    obtain ⟨g1, g2, W1, rfl, rfl, hwx, HV⟩ := hcut
    replace hwx := hwx.symm
    subst hwx
    go_wp2_with fail
    go_loopg [7, 18] n (fun gg s7 s18 wx => ∃ (k nm : Nat) (am : Option Addr) (cm : Nat) (A : List (List Cl)) (B : List (BitVec 64)), k + gg = n ∧ s18 = .int .i64 k ∧ s7 = .slice am nm cm ∧ Hid (VSt w wx g1 g2 n l k (.slice am nm cm) A B k))
    case atStart => exact ⟨0, 0, none, 0, _, _, by omega, rfl, rfl, HV⟩
    case round =>
      clear HV
      obtain ⟨k, nm, am, cm, A, B, hkg, rfl, rfl, HV⟩ := hrel
      by_cases hk : k < n
      · have hkI : (k : Int) < (n : Int) := by omega
        have hr2 : IntKind.i64.wrap ((k : Int) + 1) = (k : Int) + 1 := by rw [IntKind.wrap_i64]; omega
        have HB : Hid (Below w.heap.size w wr) := HV.out.bel
        obtain ⟨x, b, off, a2, n2, c2, hx, rfl, _, c0, c1, c3, hv, hn2, _⟩ := at_lf (HH.out.1.over stays_lf HB.out) hk
        obtain ⟨z, hz⟩ : ∃ z, z = x.b.toInt := ⟨_, rfl⟩
        rw [← hz] at c1
        obtain ⟨g, hg⟩ : ∃ g, g = x.g := ⟨_, rfl⟩
        rw [← hg] at c3
        have HX : Hid (l[k]? = some x ∧ z = x.b.toInt ∧ g = x.g ∧ x.r.length ≤ 1000) := ⟨hx, hz, hg, HH.out.2.2.2 x (List.mem_of_getElem? hx)⟩
        have hone : (#[.slice a2 n2 c2, .int .i64 z, .int .i64 g] : Array Value).all (fun c => c.oneCell') = true := one_three (by intro u hu; simp only [List.mem_cons, List.not_mem_nil, or_false] at hu; rcases hu with rfl | rfl | rfl <;> rfl)
        obtain ⟨W1, hW1⟩ : ∃ W1, W1 = (wr.alloc (.cells #[.slice none 0 0, .int .i64 0, .int .i64 0] 61)).setRow wr.heap.size #[.slice a2 n2 c2, .int .i64 z, .int .i64 g] := ⟨_, rfl⟩
        have bW : Below wr.heap.size wr W1 := by rw [hW1]; exact below_setRow (below1 wr _) (Nat.le_refl _) _
        have BW : Box W1 wr.heap.size 61 #[.slice a2 n2 c2, .int .i64 z, .int .i64 g] := by rw [hW1]; exact (box_new wr _ _).setRow _
        have HZ : Hid (∀ z, Box (wr.alloc (.cells z 61)) wr.heap.size 61 z) := fun z => box_new wr z _
        obtain ⟨Bp, hBp⟩ : ∃ Bp, Bp = wr.heap.size := ⟨_, rfl⟩
        have g1lt := (HV.out.rows.own (k := g1) rfl).2.2
        have g2lt := (HV.out.born.own (k := g2) rfl).2.2
        have HW : Hid (W1 = (wr.alloc (.cells #[.slice none 0 0, .int .i64 0, .int .i64 0] 61)).setRow wr.heap.size #[.slice a2 n2 c2, .int .i64 z, .int .i64 g] ∧ Bp = wr.heap.size ∧ Bp ≠ g1 ∧ Bp ≠ g2 ∧ g1 < wr.heap.size ∧ g2 < wr.heap.size) := ⟨hW1, hBp, by omega, by omega, g1lt, g2lt⟩
        rw [← hBp] at BW
        have H1 : Hid (VSt w W1 g1 g2 n l k (.slice am nm cm) A B k ∧ Box W1 Bp 61 #[.slice a2 n2 c2, .int .i64 z, .int .i64 g] ∧ SlIs CE 3 W1 (.slice a2 n2 c2) x.r ∧ Below wr.heap.size wr W1) := ⟨HV.out.over bW, BW, hv.over stays_c bW, bW⟩
        clear hx hz hg hv hn2 hW1 bW BW hBp g1lt g2lt
        go_wp2_with (refine wpList_store_row rfl 61 _ _ rfl wr.heap.size _ rfl rfl 61 _ (HZ.out _) size_lf rfl hone ?_; rw [← HW.out.1, ← HW.out.2.1]; clear c0 c1 c3)
        refine wp_region_held_then (fun W' : World => W'.cell? ⟨Bp, 0, none⟩ = some (.slice a2 n2 c2) ∧ W'.cell? ⟨Bp, 1, none⟩ = some (.int .i64 z)) _ (by kernel_rfl) rfl (by kernel_rfl) ?_
        have hHeld : (fun W' : World => W'.cell? ⟨Bp, 0, none⟩ = some (.slice a2 n2 c2) ∧ W'.cell? ⟨Bp, 1, none⟩ = some (.int .i64 z)) W1.drew := ⟨H1.out.2.1.cell 0 _ rfl, H1.out.2.1.cell 1 _ rfl⟩
        dsimp only [List.dropLast, List.length, List.getLast]
        ((refine takeL 0 (v := ?_) rfl (by kernel_rfl) (by kernel_rfl) (by kernel_rfl) (fun _ _ _ h => h) (by rfl) hHeld ?_ ?_; rotate_left; focus (intro w hSw; (try dsimp only at hSw); go_simp <;> with_reducible rfl); (try simp only [Act.put, List.setIfInBounds_toArray, List.set_cons_zero, List.set_cons_succ])); (refine takeL 1 (v := ?_) rfl (by kernel_rfl) (by kernel_rfl) (by kernel_rfl) (fun _ _ _ h => h) (by rfl) hHeld ?_ ?_; rotate_left; focus (intro w hSw; (try dsimp only at hSw); go_simp <;> with_reducible rfl); (try simp only [Act.put, List.setIfInBounds_toArray, List.set_cons_zero, List.set_cons_succ])); (refine takeL 2 (v := ?_) rfl (by kernel_rfl) (by kernel_rfl) (by kernel_rfl) (fun _ _ _ h => h) (by rfl) hHeld ?_ ?_; rotate_left; focus (intro w hSw; (try dsimp only at hSw); go_simp <;> with_reducible rfl); (try simp only [Act.put, List.setIfInBounds_toArray, List.set_cons_zero, List.set_cons_succ])); (refine takeL 3 (v := ?_) rfl (by kernel_rfl) (by kernel_rfl) (by kernel_rfl) (fun _ _ _ h => h) (by rfl) hHeld ?_ ?_; rotate_left; focus (intro w hSw; (try dsimp only at hSw); go_simp <;> with_reducible rfl); (try simp only [Act.put, List.setIfInBounds_toArray, List.set_cons_zero, List.set_cons_succ])))
        dsimp only [Act.put]
        simp only [List.setIfInBounds_toArray, List.set_cons_zero, List.set_cons_succ]
        ((refine takeL 4 (v := ?_) rfl (by kernel_rfl) (by kernel_rfl) (by kernel_rfl) (fun _ _ _ h => h) (by rfl) hHeld ?_ ?_; rotate_left; focus (intro w hSw; (try dsimp only at hSw); go_simp <;> with_reducible rfl); (try simp only [Act.put, List.setIfInBounds_toArray, List.set_cons_zero, List.set_cons_succ])); (refine takeL 5 (v := ?_) rfl (by kernel_rfl) (by kernel_rfl) (by kernel_rfl) (fun _ _ _ h => h) (by rfl) hHeld ?_ ?_; rotate_left; focus (intro w hSw; (try dsimp only at hSw); go_simp <;> with_reducible rfl); (try simp only [Act.put, List.setIfInBounds_toArray, List.set_cons_zero, List.set_cons_succ])); (refine takeL 7 (v := ?_) rfl (by kernel_rfl) (by kernel_rfl) (by kernel_rfl) (fun _ _ _ h => h) (by rfl) hHeld ?_ ?_; rotate_left; focus (intro w hSw; (try dsimp only at hSw); go_simp <;> with_reducible rfl); (try simp only [Act.put, List.setIfInBounds_toArray, List.set_cons_zero, List.set_cons_succ])); (refine takeL 8 (v := ?_) rfl (by kernel_rfl) (by kernel_rfl) (by kernel_rfl) (fun _ _ _ h => h) (by rfl) hHeld ?_ ?_; rotate_left; focus (intro w hSw; (try dsimp only at hSw); go_simp <;> with_reducible rfl); (try simp only [Act.put, List.setIfInBounds_toArray, List.set_cons_zero, List.set_cons_succ])))
        dsimp only [Act.put]
        simp only [List.setIfInBounds_toArray, List.set_cons_zero, List.set_cons_succ]
        refine callL 6 (f := 33) (vs := #[.slice a2 n2 c2]) rfl (by kernel_rfl) (by rfl) (by go_simp) ?_
        refine Calls.mono (cloneR_any (w := W1.drew) (v := .slice a2 n2 c2) (l := x.r) (H1.out.2.2.1.over stays_c ((Below.refl _ W1).drew)) (by have := HX.out.2.2.2; omega)) ?_
        rintro e w3 ⟨⟨v3, R3, rfl, hs3, hE3, ho3⟩, hb3⟩
        have hb3' : Below W1.heap.size W1 w3 := ((Below.refl _ W1).drew).trans hb3
        have V3 := H1.out.1.over hb3'
        have X3 := H1.out.2.1.over hb3'
        have hsl : SlX (fun y => y = g1 ∨ y = g2 ∨ (Value.slice am nm cm).ownBlock = some y) CE 3 w3 v3 x.r := cloned_x hs3 hE3 ho3 (fun y hy => by
          have q1 := HW.out.2.2.2.2.1
          have q2 := HW.out.2.2.2.2.2
          have q3 : wr.heap.size ≤ W1.drew.heap.size := H1.out.2.2.2.size
          rcases hy with rfl | rfl | hy
          · omega
          · omega
          · have := H1.out.1.marks.lt hy
            exact this)
        obtain ⟨⟨⟨u1, k0⟩, k1⟩, ⟨⟨u2, k2⟩, k3⟩, V4⟩ := V3.put HX.out.1 HH.out.2.1 hsl
        rw [← HX.out.2.1] at V4
        obtain ⟨a4, n4, c4, rfl⟩ : ∃ a n c, v3 = .slice a n c := by rcases hs3 with ⟨rfl, _⟩ | ⟨g, c, rfl, _⟩ <;> exact ⟨_, _, _, rfl⟩
        have X4 := X3.other (a := ⟨g1, k, none⟩) HW.out.2.2.1 (.slice a4 n4 c4)
        have X5 := X4.other (a := ⟨g2, k, none⟩) HW.out.2.2.2.1 (.int .i64 z)
        have hHeld2 : (fun W' : World => W'.cell? ⟨Bp, 0, none⟩ = some (.slice a2 n2 c2) ∧ W'.cell? ⟨Bp, 1, none⟩ = some (.int .i64 z)) w3 := ⟨X3.cell 0 _ rfl, X3.cell 1 _ rfl⟩
        have hHeld3 : (fun W' : World => W'.cell? ⟨Bp, 0, none⟩ = some (.slice a2 n2 c2) ∧ W'.cell? ⟨Bp, 1, none⟩ = some (.int .i64 z)) (w3.setCell ⟨g1, k, none⟩ (.slice a4 n4 c4)) := ⟨X4.cell 0 _ rfl, X4.cell 1 _ rfl⟩
        obtain ⟨W5, hW5⟩ : ∃ W5, W5 = (w3.setCell ⟨g1, k, none⟩ (.slice a4 n4 c4)).setCell ⟨g2, k, none⟩ (.int .i64 z) := ⟨_, rfl⟩
        rw [← hW5] at V4 X5
        have H5 : Hid (VSt w W5 g1 g2 n l (k + 1) (.slice am nm cm) (A.set k x.r) (B.set k x.b) k ∧ Box W5 Bp 61 #[.slice a2 n2 c2, .int .i64 z, .int .i64 g] ∧ W5 = (w3.setCell ⟨g1, k, none⟩ (.slice a4 n4 c4)).setCell ⟨g2, k, none⟩ (.int .i64 z)) := ⟨V4, X5, hW5⟩
        clear hs3 hE3 ho3 hb3 hb3' V3 X3 hsl V4 X4 X5 hW5 hHeld
        refine ⟨_, rfl, hHeld2, ?_⟩
        try dsimp only [Act.put]
        try simp only [List.setIfInBounds_toArray, List.set_cons_zero, List.set_cons_succ]
        ((refine takeL 9 (v := ?_) rfl (by kernel_rfl) (by kernel_rfl) (by kernel_rfl) (fun _ _ _ h => h) (by rfl) hHeld2 ?_ ?_; rotate_left; focus (intro w hSw; (try dsimp only at hSw); go_simp <;> with_reducible rfl); (try simp only [Act.put, List.setIfInBounds_toArray, List.set_cons_zero, List.set_cons_succ])))
        dsimp only [Act.put]
        simp only [List.setIfInBounds_toArray, List.set_cons_zero, List.set_cons_succ]
        refine stepL 10 (w3.setCell ⟨g1, k, none⟩ (.slice a4 n4 c4)) rfl (by kernel_rfl) (by rfl) (by go_simp) hHeld3 ?_
        try dsimp only [Act.put]
        try simp only [List.setIfInBounds_toArray, List.set_cons_zero, List.set_cons_succ]
        ((refine takeL 11 (v := ?_) rfl (by kernel_rfl) (by kernel_rfl) (by kernel_rfl) (fun _ _ _ h => h) (by rfl) hHeld3 ?_ ?_; rotate_left; focus (intro w hSw; (try dsimp only at hSw); go_simp <;> with_reducible rfl); (try simp only [Act.put, List.setIfInBounds_toArray, List.set_cons_zero, List.set_cons_succ])))
        refine doneL (by kernel_rfl) ?_
        try dsimp only [Act.put]
        unfold Oper.wp
        clear hHeld2 hHeld3
        go_simp
        rw [← H5.out.2.2]
        clear k0 k1 k2 k3
        have b0 := H5.out.2.1.cell 0 _ rfl
        have b1 := H5.out.2.1.cell 1 _ rfl
        have b2 := H5.out.2.1.cell 2 _ rfl
        have HG : Hid (Calls Try.prog 32 #[.agg #[.slice a2 n2 c2, .int .i64 z, .int .i64 g]] W5 fun e w' => e = .returned (.bool (!(decide (g = 0)))) ∧ Below W5.heap.size W5 w') := hasGone_any W5 a2 n2 c2 z g
        go_wp2_with fail
        refine HG.out.mono ?_
        rintro e w6 ⟨rfl, hb6⟩
        have V6 := H5.out.1.over hb6
        have X6 := H5.out.2.1.over hb6
        clear b0 b1 b2 HG
        by_cases hg0 : g = 0
        · have HV6 : Hid (VSt w w6 g1 g2 n l (k + 1) (.slice am nm cm) (A.set k x.r) (B.set k x.b) (k + 1)) := V6.skip (mksP_no HX.out.1 (by rw [← HX.out.2.2.1]; exact hg0))
          have hd : decide (g = 0) = true := by simpa using hg0
          rw [hd]
          clear hd hg0 V6 X6 hb6
          go_wp2_with fail
          go_roundg (n - (k + 1))
          case measure => clear hr2; omega
          case rel => exact ⟨k + 1, _, _, _, _, _, by clear hr2; omega, by go_num, rfl, HV6⟩
        · have HV6 : Hid (VSt w w6 g1 g2 n l (k + 1) (.slice am nm cm) (A.set k x.r) (B.set k x.b) k ∧ mksP l (k + 1) = mksP l k ++ [⟨(k : Int), g⟩]) := ⟨V6, by rw [HX.out.2.2.1]; exact mksP_yes HX.out.1 (by rw [← HX.out.2.2.1]; exact hg0)⟩
          have hd : decide (g = 0) = false := by simpa using hg0
          rw [hd]
          have x2 := X6.cell 2 _ rfl
          have HM : Hid (nm = (mksP l k).length) := by unfold Hid; exact ((V6.marks.is stays_mk).len.1).symm
          have HLE : Hid ((mksP l k).length + 1 = nm + 1 ∧ nm + 1 ≤ 1000000) := ⟨by rw [HM.out], by rw [HM.out]; have := mksP_len l k; have := HH.out.2.2.1; clear hr2; omega⟩
          clear hd hg0 V6 X6 hb6
          go_wp2_with (at_builtin; refine append_one rfl (.tmp 36) (.tmp 41) 28 66 (.agg #[.int .i64 0, .int .i64 0]) 2 16 rfl Try.underlying28 infos_mk rfl (by decide) (by decide) rfl rfl rfl (fun _ _ h => one_mk h) HV6.out.1.marks (y := ⟨(k : Int), g⟩) (cs := #[.int .i64 k, .int .i64 g]) (show MkE w ⟨(k : Int), g⟩ [.int .i64 k, .int .i64 g] from rfl) (nm + 1) HLE.out.1 HLE.out.2 ?_; intro va vc w7 HM7 HK7 HW7)
          have HV7 : Hid (VSt w w7 g1 g2 n l (k + 1) (.slice va (nm + 1) vc) (A.set k x.r) (B.set k x.b) (k + 1)) := by
            refine HV6.out.1.app ?_ HK7.out HW7.out
            rw [HV6.out.2]
            exact HM7.out
          go_roundg (n - (k + 1))
          case measure => clear hr2; omega
          case rel => exact ⟨k + 1, _, _, _, _, _, by clear hr2; omega, by go_num, rfl, HV7⟩
      · have hkI : ¬ (k : Int) < (n : Int) := by omega
        obtain rfl : k = n := by omega
        have eA : A = l.map (·.r) := prefix_done HV.out.ra.2 HV.out.ra.1 (by rw [List.length_map]; exact HH.out.2.1)
        have eB : B = l.map (·.b) := prefix_done HV.out.rb.2 HV.out.rb.1 (by rw [List.length_map]; exact HH.out.2.1)
        have ho := runsOf_any (IntsIs.reads (HV.out.born.is xok_i)) (by rw [HV.out.rb.1]; have := HH.out.2.2.1; omega)
        have HE : Hid (A = l.map (·.r) ∧ B = l.map (·.b)) := ⟨eA, eB⟩
        clear eA eB
        go_wp2_with fail
        refine ho.mono ?_
        rintro e w9 ⟨⟨v9, rfl, hr9⟩, hb9⟩
        have H9 : Hid (RunsIs w9 v9 (ofP B B.length) ∧ VSt w w9 g1 g2 k l k (.slice am nm cm) A B k) := ⟨hr9, HV.out.over hb9⟩
        obtain ⟨a9, n9, c9, rfl, _, _⟩ := hr9.slice
        clear ho hr9 hb9
        go_wp2_with fail
        go_ret3
        obtain ⟨h1, h2⟩ := H9.out
        have hlk : l.length = k := HH.out.2.1
        refine ⟨_, _, _, rfl, ?_, ?_, ?_, h2.bel⟩
        · rw [← HE.out.1]; exact h2.rows.is xok_rw
        · rw [hlk, ← HV.out.rb.1, ← HE.out.2]; exact h1
        · rw [hlk]; exact h2.marks.is stays_mk
end Go.Proofs.Ytflabcmjbhmphaa
/-
  The contracts of the document's Merge and Vectors.
-/
namespace Go.Proofs.Ytflabcmjbhmphaa
open Go.RowKit

/-- Two lists of one's own lie apart. -/
def Ap (u v : Value) : Prop := ∀ x, u.ownBlock = some x → v.ownBlock ≠ some x
theorem Ap.symm {u v : Value} (h : Ap u v) : Ap v u := fun x hx e => h x e hx
theorem ap_new {α : Type} {E : World → α → List Value → Prop} {sz : Nat} {t : TypeId} {w0 w : World} {u u' v : Value} {l : List α} (hv : OwnS E sz t w0 w v l) (ha : Ap u v) (hw : ∀ x, u'.ownBlock = some x → u.ownBlock = some x ∨ w.heap.size ≤ x) : Ap u' v := by
  intro x hx e
  rcases hw x hx with q | q
  · exact ha x q e
  · have := hv.lt e; omega
theorem OwnS.stay {α β : Type} {E : World → α → List Value → Prop} {F : World → β → List Value → Prop} {sz sz' : Nat} {t t' : TypeId} {w0 w w' : World} {u v : Value} {l : List α} {m : List β} (hv : OwnS E sz t w0 w v l) (hu : OwnS F sz' t' w0 w u m) (ha : Ap u v) (hk : Kept (fun k => u.ownBlock = some k) w w') : OwnS E sz t w0 w' v l :=
  hv.kept hk (fun x hx hf => ha x hf hx) (fun x hx => hu.from x hx)
theorem ap_nil (v : Value) : Ap (.slice none 0 0) v := fun x hx => by simp [Value.ownBlock] at hx
/-- The cells of the life at k. -/
theorem own_lf {w0 w : World} {a : Option Addr} {n cap : Nat} {l : List Lf} (h : OwnS LfE 3 61 w0 w (.slice a n cap) l) {k : Nat} (hk : k < n) : ∃ (x : Lf) (g : Nat) (a2 : Option Addr) (n2 c2 : Nat), l[k]? = some x ∧ a = some ⟨g, 0, none⟩ ∧ w.cell? ⟨g, k * 3, none⟩ = some (.slice a2 n2 c2) ∧ w.cell? ⟨g, k * 3 + 1, none⟩ = some (.int .i64 x.b.toInt) ∧ w.cell? ⟨g, k * 3 + 2, none⟩ = some (.int .i64 x.g) ∧ LfE w0 x [.slice a2 n2 c2, .int .i64 x.b.toInt, .int .i64 x.g] := by
  have hl := (h.is stays_lf).len.1
  obtain ⟨g, cap', x, r, e, _, _, _, hx, _, hE, hc, _, _, _⟩ := h.x.at (xok_w LfE w0) (i := k) (by omega)
  rw [hl] at e
  cases e
  obtain ⟨v, rfl, hv⟩ := hE
  obtain ⟨a2, n2, c2, rfl, _, _⟩ := hv.slice
  exact ⟨x, g, a2, n2, c2, hx, rfl, by simpa using (hc 0 _ rfl).1, (hc 1 _ rfl).1, (hc 2 _ rfl).1, _, rfl, hv⟩
set_option maxRecDepth 4000 in
set_option maxHeartbeats 4000000 in
theorem refMerge_any {w : World} {va vb : Value} {a b : List Lf} (ha : LfsIs w va a) (hb : LfsIs w vb b) (h1 : a.length ≤ 100) (h2 : b.length ≤ 100) (low : Int) :
    Calls Try.prog 13 #[va, vb, .int .i64 low] w (MergeAns w (mergeA a b low)) := by
  obtain ⟨aa, na, ca, rfl, hna, hca⟩ := ha.slice
  obtain ⟨ab, nb, cb, rfl, hnb, hcb⟩ := hb.slice
  have HO0 : Hid (OwnS LfE 3 61 w w (.slice none 0 0) []) := ownS_nil _ _ _ (Below.refl _ _)
  have HH : Hid (LfsIs w (.slice aa na ca) a ∧ LfsIs w (.slice ab nb cb) b ∧ a.length = na ∧ b.length = nb) := ⟨ha, hb, hna, hnb⟩
  have hna1 : na ≤ 100 := by omega
  have hnb1 : nb ≤ 100 := by omega
  have HS : Hid (([] ++ a : List Lf).length + nb = na + nb) := by unfold Hid; rw [List.nil_append, hna]
  clear ha hb hna hnb hca hcb h1 h2
  go_enter Try.func13, Try.ntmps13
  go_wp2_with (at_builtin; first
    | (refine append_all rfl (.tmp 10) (.tmp 11) 22 61 (.agg #[.slice none 0 0, .int .i64 0, .int .i64 0]) 3 40 rfl Try.underlying22 infos_lf rfl (by decide) (by decide) rfl rfl (fun _ _ h => one_lf h) HO0.out HH.out.1 na (Nat.zero_add na) (by omega) ?_; intro va1 vc1 w1 HO1)
    | (refine append_all rfl (.tmp 13) (.tmp 14) 22 61 (.agg #[.slice none 0 0, .int .i64 0, .int .i64 0]) 3 40 rfl Try.underlying22 infos_lf rfl (by decide) (by decide) rfl rfl (fun _ _ h => one_lf h) HO1.out HH.out.2.1 (na + nb) HS.out (by omega) ?_; intro va2 vc2 w2 HO2))
  obtain ⟨L, hL⟩ : ∃ L, L = a ++ b := ⟨_, rfl⟩
  have HL : Hid (OwnS LfE 3 61 w w2 (.slice va2 (na + nb) vc2) L) := by have := HO2.out; rw [List.nil_append, ← hL] at this; exact this
  have HE : Hid (mergeA a b low = L.filter fun x => !goesB low x) := by unfold Hid; rw [hL]; rfl
  obtain ⟨n, hn⟩ : ∃ n, n = na + nb := ⟨_, rfl⟩
  rw [← hn] at HL
  rw [← hn]
  have hnI : (n : Int) ≤ 200 := by omega
  clear HO0 HO1 HO2 HS hL hn
  go_loopg [8, 9] n (fun gg s8 s9 wx => ∃ (i : Nat) (a8 : Option Addr) (n8 c8 : Nat), i + gg = n ∧ s9 = .int .i64 i ∧ s8 = .slice a8 n8 c8 ∧ Hid (OwnS LfE 3 61 w wx (.slice va2 n vc2) L ∧ OwnS LfE 3 61 w wx (.slice a8 n8 c8) (keptL low L i) ∧ Ap (.slice a8 n8 c8) (.slice va2 n vc2)))
  case atStart => exact ⟨0, none, 0, 0, by omega, rfl, rfl, HL.out, ownS_nil _ _ _ HL.out.bel, ap_nil _⟩
  case round =>
    clear HL
    obtain ⟨i, a8, n8, c8, hig, rfl, rfl, HV⟩ := hrel
    by_cases hi : i < n
    · have hiI : (i : Int) < (n : Int) := by omega
      have hr2 : IntKind.i64.wrap ((i : Int) + 1) = (i : Int) + 1 := by rw [IntKind.wrap_i64]; omega
      obtain ⟨x, g, a2, n2, c2, hx, rfl, c0, c1, c3, hE⟩ := own_lf HV.out.1 hi
      obtain ⟨z, hz⟩ : ∃ z, z = x.b.toInt := ⟨_, rfl⟩
      rw [← hz] at c1 hE
      obtain ⟨gn, hg⟩ : ∃ gn, gn = x.g := ⟨_, rfl⟩
      rw [← hg] at c3 hE
      have HX : Hid (L[i]? = some x ∧ gn = x.g ∧ LfE w x [.slice a2 n2 c2, .int .i64 z, .int .i64 gn]) := ⟨hx, hg, hE⟩
      have HM : Hid ((keptL low L i).length + 1 = n8 + 1 ∧ n8 ≤ i) := ⟨by rw [(HV.out.2.1.is stays_lf).len.1], by rw [← (HV.out.2.1.is stays_lf).len.1]; exact keptL_le _ _ _⟩
      clear hx hz hg hE
      have hm8 : n8 + 1 ≤ 1000000 := by have := HM.out.2; omega
      by_cases h0 : gn = 0
      · have hb0 : (gn == 0) = true := by simpa using h0
        have HK : Hid (keptL low L (i + 1) = keptL low L i ++ [x]) := by unfold Hid; rw [keptL_step HX.out.1, if_neg (by unfold goesB; rw [← HX.out.2.1]; simp [h0])]
        subst h0
        go_wp2_with (at_builtin; refine append_one rfl (.tmp 37) (.tmp 42) 22 61 (.agg #[.slice none 0 0, .int .i64 0, .int .i64 0]) 3 40 rfl Try.underlying22 infos_lf rfl (by decide) (by decide) rfl rfl rfl (fun _ _ h => one_lf h) HV.out.2.1 (y := x) (cs := #[.slice a2 n2 c2, .int .i64 z, .int .i64 0]) HX.out.2.2 (n8 + 1) HM.out.1 hm8 ?_; intro va vc w7 HM7 HK7 HW7)
        go_roundg (n - (i + 1))
        case measure => clear hr2; omega
        case rel => exact ⟨i + 1, _, _, _, by clear hr2; omega, by go_num, rfl, HV.out.1.stay HV.out.2.1 HV.out.2.2 HK7.out, by rw [HK.out]; exact HM7.out, ap_new HV.out.1 HV.out.2.2 HW7.out⟩
      · have hb0 : (gn == 0) = false := by simpa using h0
        by_cases h1 : low < gn
        · have HK : Hid (keptL low L (i + 1) = keptL low L i ++ [x]) := by unfold Hid; rw [keptL_step HX.out.1, if_neg (by unfold goesB; rw [← HX.out.2.1]; simp; intro _; omega)]
          go_wp2_with (at_builtin; refine append_one rfl (.tmp 37) (.tmp 42) 22 61 (.agg #[.slice none 0 0, .int .i64 0, .int .i64 0]) 3 40 rfl Try.underlying22 infos_lf rfl (by decide) (by decide) rfl rfl rfl (fun _ _ h => one_lf h) HV.out.2.1 (y := x) (cs := #[.slice a2 n2 c2, .int .i64 z, .int .i64 gn]) HX.out.2.2 (n8 + 1) HM.out.1 hm8 ?_; intro va vc w7 HM7 HK7 HW7)
          go_roundg (n - (i + 1))
          case measure => clear hr2; omega
          case rel => exact ⟨i + 1, _, _, _, by clear hr2; omega, by go_num, rfl, HV.out.1.stay HV.out.2.1 HV.out.2.2 HK7.out, by rw [HK.out]; exact HM7.out, ap_new HV.out.1 HV.out.2.2 HW7.out⟩
        · have HK : Hid (keptL low L (i + 1) = keptL low L i) := by unfold Hid; rw [keptL_step HX.out.1, if_pos (by unfold goesB; rw [← HX.out.2.1]; simp [h0]; omega), List.append_nil]
          go_wp2_with fail
          go_roundg (n - (i + 1))
          case measure => clear hr2; omega
          case rel => exact ⟨i + 1, _, _, _, by clear hr2; omega, by go_num, rfl, HV.out.1, by rw [HK.out]; exact HV.out.2.1, HV.out.2.2⟩
    · have hiI : ¬ (i : Int) < (n : Int) := by omega
      obtain rfl : i = n := by omega
      have hlen : L.length = i := (HV.out.1.is stays_lf).len.1
      have HF : Hid (keptL low L i = mergeA a b low) := by unfold Hid; rw [HE.out]; exact keptL_all low L i (by omega)
      clear hlen
      go_wp2_with fail
      go_ret
      exact ⟨_, rfl, by rw [← HF.out]; exact HV.out.2.1.is stays_lf, HV.out.1.bel⟩
theorem one_int' {w : World} {c : BitVec 64} {cs : List Value} (h : IntE w c cs) : ∀ u ∈ cs, u.oneCell' = true := by
  have e : cs = [.int .i64 c.toInt] := h
  subst e
  intro u hu
  simp only [List.mem_cons, List.not_mem_nil, or_false] at hu
  rcases hu with rfl; rfl
/-- What is so while the document makes its three lists. -/
structure V3 (w wx : World) (vr vb vm : Value) (lr : List (List Cl)) (lb : List (BitVec 64)) (lm : List Mk) : Prop where
  r : OwnS RwE 1 40 w wx vr lr
  b : OwnS IntE 1 3 w wx vb lb
  m : OwnS MkE 2 66 w wx vm lm
  rb : Ap vr vb
  rm : Ap vr vm
  bm : Ap vb vm
section
variable {w wx wy : World} {vr vb vm u : Value} {lr lr' : List (List Cl)} {lb lb' : List (BitVec 64)} {lm lm' : List Mk}
theorem V3.setR (h : V3 w wx vr vb vm lr lb lm) (hu : OwnS RwE 1 40 w wy u lr') (hk : Kept (fun k => vr.ownBlock = some k) wx wy) (hw : ∀ x, u.ownBlock = some x → vr.ownBlock = some x ∨ wx.heap.size ≤ x) : V3 w wy u vb vm lr' lb lm :=
  ⟨hu, h.b.stay h.r h.rb hk, h.m.stay h.r h.rm hk, ap_new h.b h.rb hw, ap_new h.m h.rm hw, h.bm⟩
theorem V3.setB (h : V3 w wx vr vb vm lr lb lm) (hu : OwnS IntE 1 3 w wy u lb') (hk : Kept (fun k => vb.ownBlock = some k) wx wy) (hw : ∀ x, u.ownBlock = some x → vb.ownBlock = some x ∨ wx.heap.size ≤ x) : V3 w wy vr u vm lr lb' lm :=
  ⟨h.r.stay h.b h.rb.symm hk, hu, h.m.stay h.b h.bm hk, (ap_new h.r h.rb.symm hw).symm, h.rm, ap_new h.m h.bm hw⟩
theorem V3.setM (h : V3 w wx vr vb vm lr lb lm) (hu : OwnS MkE 2 66 w wy u lm') (hk : Kept (fun k => vm.ownBlock = some k) wx wy) (hw : ∀ x, u.ownBlock = some x → vm.ownBlock = some x ∨ wx.heap.size ≤ x) : V3 w wy vr vb u lr lb lm' :=
  ⟨h.r.stay h.m h.rm.symm hk, h.b.stay h.m h.bm.symm hk, hu, h.rb, (ap_new h.r h.rm.symm hw).symm, (ap_new h.b h.bm.symm hw).symm⟩
end
set_option maxRecDepth 4000 in
set_option maxHeartbeats 4000000 in
theorem refVectors_any {w : World} {v : Value} {l : List Lf} (h : LfsIs w v l) (hl : l.length ≤ 1000) :
    Calls Try.prog 11 #[v] w (VecAns w l) := by
  obtain ⟨a, n, cap, rfl, hn, hcap⟩ := h.slice
  have hn1 : (n : Int) ≤ 1000 := by omega
  have HH : Hid (LfsIs w (.slice a n cap) l ∧ l.length = n ∧ n ≤ 1000) := ⟨h, hn, by omega⟩
  clear h hn hl hcap
  go_enter Try.func11, Try.ntmps11
  go_wp2_with fail
  go_loopg [5, 6, 7, 8] n (fun gg s5 s6 s7 s8 wx => ∃ (k : Nat) (ar : Option Addr) (cr : Nat) (ab : Option Addr) (cb : Nat) (am : Option Addr) (nm cm : Nat), k + gg = n ∧ s8 = .int .i64 k ∧ s5 = .slice ar k cr ∧ s6 = .slice ab k cb ∧ s7 = .slice am nm cm ∧ Hid (V3 w wx (.slice ar k cr) (.slice ab k cb) (.slice am nm cm) ((l.map (·.r)).take k) ((l.map (·.b)).take k) (mksP l k)))
  case atStart => exact ⟨0, none, 0, none, 0, none, 0, 0, by omega, rfl, rfl, rfl, rfl, ⟨by rw [List.take_zero]; exact ownS_nil _ _ _ (Below.refl _ _), by rw [List.take_zero]; exact ownS_nil _ _ _ (Below.refl _ _), ownS_nil _ _ _ (Below.refl _ _), ap_nil _, ap_nil _, ap_nil _⟩⟩
  case round =>
    obtain ⟨k, ar, cr, ab, cb, am, nm, cm, hkg, rfl, rfl, rfl, rfl, HV⟩ := hrel
    by_cases hk : k < n
    · have hkI : (k : Int) < (n : Int) := by omega
      have hr2 : IntKind.i64.wrap ((k : Int) + 1) = (k : Int) + 1 := by rw [IntKind.wrap_i64]; omega
      have HB : Hid (Below w.heap.size w wr) := HV.out.r.bel
      obtain ⟨x, b, off, a2, n2, c2, hx, rfl, hbx, c00, c10, c30, hv, hn2, _⟩ := at_lf HH.out.1 hk
      obtain ⟨z, hz⟩ : ∃ z, z = x.b.toInt := ⟨_, rfl⟩
      rw [← hz] at c10
      obtain ⟨g, hg⟩ : ∃ g, g = x.g := ⟨_, rfl⟩
      rw [← hg] at c30
      have HX : Hid (l[k]? = some x ∧ z = x.b.toInt ∧ g = x.g ∧ RwE w x.r [.slice a2 n2 c2]) := ⟨hx, hz, hg, _, rfl, hv⟩
      have HC : Hid (∀ W, Below w.heap.size w W → W.cell? ⟨b, off + k * 3, none⟩ = some (.slice a2 n2 c2) ∧ W.cell? ⟨b, off + k * 3 + 1, none⟩ = some (.int .i64 z) ∧ W.cell? ⟨b, off + k * 3 + 2, none⟩ = some (.int .i64 g)) := fun W hW => ⟨(hW.cell (p := ⟨b, off + k * 3, none⟩) hbx).trans c00, (hW.cell (p := ⟨b, off + k * 3 + 1, none⟩) hbx).trans c10, (hW.cell (p := ⟨b, off + k * 3 + 2, none⟩) hbx).trans c30⟩
      have l1 : (l.map (·.r))[k]? = some x.r := by rw [List.getElem?_map, hx]; rfl
      have l2 : (l.map (·.b))[k]? = some x.b := by rw [List.getElem?_map, hx]; rfl
      have HT : Hid ((l.map (·.r)).take (k + 1) = (l.map (·.r)).take k ++ [x.r] ∧ (l.map (·.b)).take (k + 1) = (l.map (·.b)).take k ++ [x.b] ∧ ((l.map (·.r)).take k).length + 1 = k + 1 ∧ ((l.map (·.b)).take k).length + 1 = k + 1 ∧ (mksP l k).length + 1 = nm + 1 ∧ nm + 1 ≤ 1000000) :=
        ⟨take_succ_of l1, take_succ_of l2, by rw [(HV.out.r.is stays_rw).len.1], by rw [(HV.out.b.is stays_int).len.1], by rw [(HV.out.m.is stays_mk).len.1], by rw [← (HV.out.m.is stays_mk).len.1]; have := mksP_len l k; clear hr2; omega⟩
      have hk6 : k + 1 ≤ 1000000 := by clear hr2; omega
      clear hx hz hg hv hn2 hbx c00 c10 c30 l1 l2
      obtain ⟨q0, _, _⟩ := HC.out _ HB.out
      by_cases h0 : g = 0
      · have hb0 : (g != 0) = false := by simpa using h0
        have hb1 : (g == 0) = true := by simpa using h0
        have HMN : Hid (mksP l (k + 1) = mksP l k) := mksP_no HX.out.1 (by rw [← HX.out.2.2.1]; exact h0)
        clear h0
        go_wp2_with (at_builtin; first
          | (refine append_one rfl (.tmp 15) (.tmp 21) 26 40 (.slice none 0 0) 1 24 rfl Try.underlying26 infos_rw rfl (by decide) (by decide) rfl rfl rfl (fun _ _ h => one_rw h) HV.out.r (y := x.r) (cs := #[.slice a2 n2 c2]) HX.out.2.2.2 (k + 1) HT.out.2.2.1 hk6 ?_; intro va1 vc1 w1 HA1 HK1 HW1; have HV1 : Hid (V3 w w1 (.slice va1 (k + 1) vc1) (.slice ab k cb) (.slice am nm cm) ((l.map (·.r)).take (k + 1)) ((l.map (·.b)).take k) (mksP l k)) := HV.out.setR (by rw [HT.out.1]; exact HA1.out) HK1.out HW1.out; clear q0; obtain ⟨_, q1, _⟩ := HC.out _ HV1.out.r.bel)
          | (refine append_one rfl (.tmp 23) (.tmp 29) 45 3 (.int .i64 0) 1 8 rfl Try.underlying45 infos_i rfl (by decide) (by decide) rfl rfl rfl (fun _ _ h => one_int' h) HV1.out.b (y := x.b) (cs := #[.int .i64 z]) (show IntE w x.b [.int .i64 z] by rw [HX.out.2.1]; rfl) (k + 1) HT.out.2.2.2.1 hk6 ?_; intro va2 vc2 w2 HA2 HK2 HW2; have HV2 : Hid (V3 w w2 (.slice va1 (k + 1) vc1) (.slice va2 (k + 1) vc2) (.slice am nm cm) ((l.map (·.r)).take (k + 1)) ((l.map (·.b)).take (k + 1)) (mksP l k)) := HV1.out.setB (by rw [HT.out.2.1]; exact HA2.out) HK2.out HW2.out; clear q1; obtain ⟨_, _, q2⟩ := HC.out _ HV2.out.r.bel))
        go_roundg (n - (k + 1))
        case measure => clear hr2; omega
        case rel => exact ⟨k + 1, _, _, _, _, _, _, _, by clear hr2; omega, by go_num, rfl, rfl, rfl, by rw [HMN.out]; exact HV2.out⟩
      · have hb0 : (g != 0) = true := by simpa using h0
        have hb1 : (g == 0) = false := by simpa using h0
        have HMY : Hid (mksP l (k + 1) = mksP l k ++ [⟨(k : Int), g⟩]) := by unfold Hid; rw [HX.out.2.2.1]; exact mksP_yes HX.out.1 (by rw [← HX.out.2.2.1]; exact h0)
        clear h0
        go_wp2_with (at_builtin; first
          | (refine append_one rfl (.tmp 15) (.tmp 21) 26 40 (.slice none 0 0) 1 24 rfl Try.underlying26 infos_rw rfl (by decide) (by decide) rfl rfl rfl (fun _ _ h => one_rw h) HV.out.r (y := x.r) (cs := #[.slice a2 n2 c2]) HX.out.2.2.2 (k + 1) HT.out.2.2.1 hk6 ?_; intro va1 vc1 w1 HA1 HK1 HW1; have HV1 : Hid (V3 w w1 (.slice va1 (k + 1) vc1) (.slice ab k cb) (.slice am nm cm) ((l.map (·.r)).take (k + 1)) ((l.map (·.b)).take k) (mksP l k)) := HV.out.setR (by rw [HT.out.1]; exact HA1.out) HK1.out HW1.out; clear q0; obtain ⟨_, q1, _⟩ := HC.out _ HV1.out.r.bel)
          | (refine append_one rfl (.tmp 23) (.tmp 29) 45 3 (.int .i64 0) 1 8 rfl Try.underlying45 infos_i rfl (by decide) (by decide) rfl rfl rfl (fun _ _ h => one_int' h) HV1.out.b (y := x.b) (cs := #[.int .i64 z]) (show IntE w x.b [.int .i64 z] by rw [HX.out.2.1]; rfl) (k + 1) HT.out.2.2.2.1 hk6 ?_; intro va2 vc2 w2 HA2 HK2 HW2; have HV2 : Hid (V3 w w2 (.slice va1 (k + 1) vc1) (.slice va2 (k + 1) vc2) (.slice am nm cm) ((l.map (·.r)).take (k + 1)) ((l.map (·.b)).take (k + 1)) (mksP l k)) := HV1.out.setB (by rw [HT.out.2.1]; exact HA2.out) HK2.out HW2.out; clear q1; obtain ⟨_, _, q2⟩ := HC.out _ HV2.out.r.bel)
          | (refine append_one rfl (.tmp 37) (.tmp 45) 28 66 (.agg #[.int .i64 0, .int .i64 0]) 2 16 rfl Try.underlying28 infos_mk rfl (by decide) (by decide) rfl rfl rfl (fun _ _ h => one_mk h) HV2.out.m (y := ⟨(k : Int), g⟩) (cs := #[.int .i64 k, .int .i64 g]) (show MkE w ⟨(k : Int), g⟩ [.int .i64 k, .int .i64 g] from rfl) (nm + 1) HT.out.2.2.2.2.1 HT.out.2.2.2.2.2 ?_; intro va3 vc3 w3 HA3 HK3 HW3; have HV3 : Hid (V3 w w3 (.slice va1 (k + 1) vc1) (.slice va2 (k + 1) vc2) (.slice va3 (nm + 1) vc3) ((l.map (·.r)).take (k + 1)) ((l.map (·.b)).take (k + 1)) (mksP l (k + 1))) := HV2.out.setM (by rw [HMY.out]; exact HA3.out) HK3.out HW3.out))
        go_roundg (n - (k + 1))
        case measure => clear hr2; omega
        case rel => exact ⟨k + 1, _, _, _, _, _, _, _, by clear hr2; omega, by go_num, rfl, rfl, rfl, HV3⟩
    · have hkI : ¬ (k : Int) < (n : Int) := by omega
      obtain rfl : k = n := by omega
      have hrd := IntsIs.reads (HV.out.b.is stays_int)
      have e1 : (l.map (·.r)).take k = l.map (·.r) := List.take_of_length_le (by rw [List.length_map, HH.out.2.1]; exact Nat.le_refl _)
      have e2 : (l.map (·.b)).take k = l.map (·.b) := List.take_of_length_le (by rw [List.length_map, HH.out.2.1]; exact Nat.le_refl _)
      rw [e2] at hrd
      have ho := refRunsOf_any hrd (by rw [List.length_map, HH.out.2.1]; have := HH.out.2.2; omega)
      have HE : Hid ((l.map (·.r)).take k = l.map (·.r) ∧ (l.map (·.b)).length = l.length) := ⟨e1, List.length_map _⟩
      clear e1 e2 hrd
      go_wp2_with fail
      refine ho.mono ?_
      rintro e w9 ⟨⟨v9, rfl, hr9⟩, hb9⟩
      have H9 : Hid (RunsIs w9 v9 (ofP (l.map (·.b)) (l.map (·.b)).length) ∧ RwsIs w9 (.slice ar k cr) ((l.map (·.r)).take k) ∧ MksIs w9 (.slice am nm cm) (mksP l k) ∧ Below w.heap.size w w9) := ⟨hr9, (HV.out.r.over hb9).is stays_rw, (HV.out.m.over hb9).is stays_mk, (HV.out.r.over hb9).bel⟩
      obtain ⟨a9, n9, c9, rfl, _, _⟩ := hr9.slice
      clear ho hr9 hb9
      go_wp2_with fail
      go_ret3
      obtain ⟨h1, h2, h3, h4⟩ := H9.out
      rw [HE.out.1] at h2
      rw [HE.out.2] at h1
      refine ⟨_, _, _, rfl, h2, h1, ?_, h4⟩
      rw [HH.out.2.1]; exact h3
end Go.Proofs.Ytflabcmjbhmphaa
