/-
  A device in memory in the midst of a call: what is sure and what is seen stand apart. And laws for a whole struct or array that a loop's variable is.
-/
import Derived.Test.YtmgodahdljnbmaaDWrite
import Derived.Deep.WholeRow
namespace Go.Proofs.Ytmgodahdljnbmaa
open Go.RowKit

structure Raw (w : World) (H : Hnd) (n : Nat) (su sn : List (List UInt8)) (wt : List (Nat × List UInt8)) (f : Int) (o : Bool) : Prop where
  dev : w.heap[H.p]? = some (.cells #[.slice (some ⟨H.bs, 0, none⟩) n n, .slice (some ⟨H.bn, 0, none⟩) n n, H.wv, .int .i64 f, .bool o] 56 (0, 0))
  sure : Rows w H.bs 70 (n * 128) 128 (su.map bcells)
  seen : Rows w H.bn 70 (n * 128) 128 (sn.map bcells)
  wait : SRows w H.wv 72 129 (wt.map wcells)
  d1 : H.p ≠ H.bs
  d2 : H.p ≠ H.bn
  d3 : H.bs ≠ H.bn
  d4 : ∀ k, H.wv.ownBlock = some k → k ≠ H.p ∧ k ≠ H.bs ∧ k ≠ H.bn
  l1 : su.length = n
  l2 : sn.length = n
  pos : 1 ≤ n
  top : n ≤ 4096
  ats : ∀ x ∈ wt, x.1 < n ∧ x.2.length = 128
  b1 : ∀ b ∈ su, b.length = 128
  b2 : ∀ b ∈ sn, b.length = 128
  fz : -9223372036854775808 ≤ f ∧ f < 9223372036854775808
  few : wt.length ≤ 1000000
section
variable {w w' : World} {H : Hnd} {s : St} {n : Nat} {su sn : List (List UInt8)} {wt : List (Nat × List UInt8)} {f : Int} {o : Bool}
theorem DevIs.raw (D : DevIs w H s) : Raw w H s.sure.length s.sure (lay s.sure s.wait) s.wait s.fuse s.off :=
  { dev := D.dev, sure := D.sure, seen := D.seen, wait := D.wait, d1 := D.d1, d2 := D.d2, d3 := D.d3, d4 := D.d4, l1 := rfl, l2 := lay_len _ _, pos := D.pos, top := D.top, ats := D.ats, b1 := D.blk
    b2 := lay_mem (p := fun b => b.length = 128) s.wait s.sure D.blk (fun x hx => (D.ats x hx).2), fz := D.fz, few := D.few }
theorem Raw.is (R : Raw w H n su sn wt f o) (h : sn = lay su wt) : DevIs w H ⟨su, wt, f, o⟩ := by
  have h1 := R.l1
  subst h h1
  exact { dev := R.dev, sure := R.sure, seen := R.seen, wait := R.wait, d1 := R.d1, d2 := R.d2, d3 := R.d3, d4 := R.d4, pos := R.pos, top := R.top, ats := R.ats, blk := R.b1, fz := R.fz, few := R.few }
theorem Raw.cell (R : Raw w H n su sn wt f o) (k : Nat) : w.cell? ⟨H.p, k, none⟩ = (#[Value.slice (some ⟨H.bs, 0, none⟩) n n, .slice (some ⟨H.bn, 0, none⟩) n n, H.wv, .int .i64 f, .bool o])[k]? := cell_of_row w H.p k _ _ _ R.dev
theorem Raw.c0 (R : Raw w H n su sn wt f o) : w.cell? ⟨H.p, 0, none⟩ = some (.slice (some ⟨H.bs, 0, none⟩) n n) := R.cell 0
theorem Raw.c1 (R : Raw w H n su sn wt f o) : w.cell? ⟨H.p, 1, none⟩ = some (.slice (some ⟨H.bn, 0, none⟩) n n) := R.cell 1
theorem Raw.c2 (R : Raw w H n su sn wt f o) : w.cell? ⟨H.p, 2, none⟩ = some H.wv := R.cell 2
theorem Raw.c3 (R : Raw w H n su sn wt f o) : w.cell? ⟨H.p, 3, none⟩ = some (.int .i64 f) := R.cell 3
theorem Raw.c4 (R : Raw w H n su sn wt f o) : w.cell? ⟨H.p, 4, none⟩ = some (.bool o) := R.cell 4
theorem Raw.fr (R : Raw w H n su sn wt f o) (k : Nat) : w.frozen? ⟨H.p, k, none⟩ = false := frozen_of_row w H.p k _ _ R.dev
theorem Raw.lt (R : Raw w H n su sn wt f o) {k : Nat} (hk : H.foot k) : k < w.heap.size := by
  rcases hk with rfl | rfl | rfl | hk
  · exact (Array.getElem?_eq_some_iff.1 R.dev).1
  · exact R.sure.lt
  · exact R.seen.lt
  · exact R.wait.lt hk
theorem Raw.kept {F : Nat → Prop} (R : Raw w H n su sn wt f o) (k : Kept F w w') (hF : ∀ x, H.foot x → ¬ F x) : Raw w' H n su sn wt f o :=
  { R with
    dev := by rw [k.block H.p (R.lt (.inl rfl)) (hF _ (.inl rfl))]; exact R.dev
    sure := R.sure.kept k (hF _ (.inr (.inl rfl)))
    seen := R.seen.kept k (hF _ (.inr (.inr (.inl rfl))))
    wait := R.wait.kept k fun g hg => hF _ (.inr (.inr (.inr hg))) }
theorem Raw.alloc (R : Raw w H n su sn wt f o) (b : Obj) : Raw (w.alloc b) H n su sn wt f o := R.kept ((Kept.refl (fun _ => False) w).alloc b) (fun _ _ h => h)
theorem Raw.drew (R : Raw w H n su sn wt f o) : Raw w.drew H n su sn wt f o := R.kept ((Kept.refl (fun _ => False) w).drew) (fun _ _ h => h)
theorem Raw.setSure (R : Raw w H n su sn wt f o) {k : Nat} (hk : k < n) {b : List UInt8} (hb : b.length = 128) : Raw (w.setCells H.bs (k * 128) (bcells b)) H n (su.set k b) sn wt f o :=
  { R with
    dev := by rw [heap_setCells_far _ _ _ _ _ R.d1]; exact R.dev
    sure := by
      have := R.sure.set (i := k) (r := bcells b) (by rw [List.length_map, R.l1]; exact hk) (by rw [bcells_len, hb])
      rwa [List.map_set]
    seen := R.seen.far _ (fun e => R.d3 e.symm)
    wait := R.wait.of_block fun x hx => heap_setCells_far _ _ _ _ _ (R.d4 x hx).2.1
    l1 := by rw [List.length_set]; exact R.l1
    b1 := by
      intro x hx
      rcases List.mem_or_eq_of_mem_set hx with hx | rfl
      · exact R.b1 x hx
      · exact hb }
theorem Raw.setSeen (R : Raw w H n su sn wt f o) {k : Nat} (hk : k < n) {b : List UInt8} (hb : b.length = 128) : Raw (w.setCells H.bn (k * 128) (bcells b)) H n su (sn.set k b) wt f o :=
  { R with
    dev := by rw [heap_setCells_far _ _ _ _ _ R.d2]; exact R.dev
    seen := by
      have := R.seen.set (i := k) (r := bcells b) (by rw [List.length_map, R.l2]; exact hk) (by rw [bcells_len, hb])
      rwa [List.map_set]
    sure := R.sure.far _ R.d3
    wait := R.wait.of_block fun x hx => heap_setCells_far _ _ _ _ _ (R.d4 x hx).2.2
    l2 := by rw [List.length_set]; exact R.l2
    b2 := by
      intro x hx
      rcases List.mem_or_eq_of_mem_set hx with hx | rfl
      · exact R.b2 x hx
      · exact hb }
/-- Another slice of writes. -/
theorem Raw.setWait (R : Raw w H n su sn wt f o) (v : Value) (wt' : List (Nat × List UInt8)) (hv : SRows w v 72 129 (wt'.map wcells)) (hd : ∀ k, v.ownBlock = some k → k ≠ H.p ∧ k ≠ H.bs ∧ k ≠ H.bn) (ha : ∀ x ∈ wt', x.1 < n ∧ x.2.length = 128) (hf : wt'.length ≤ 1000000) :
    Raw (w.setCell ⟨H.p, 2, none⟩ v) { H with wv := v } n su sn wt' f o :=
  { R with
    dev := heap_setCell_same w H.p 2 _ _ v R.dev
    sure := R.sure.of_block (heap_setCell_other w _ _ _ (fun e => R.d1 e.symm))
    seen := R.seen.of_block (heap_setCell_other w _ _ _ (fun e => R.d2 e.symm))
    wait := hv.of_block fun k hk => heap_setCell_other w _ _ _ (hd k hk).1
    d4 := hd, ats := ha, few := hf }
theorem Raw.setNone (R : Raw w H n su sn wt f o) : Raw (w.setCell ⟨H.p, 2, none⟩ (.slice none 0 0)) { H with wv := .slice none 0 0 } n su sn [] f o :=
  R.setWait _ [] (srows_nil _ _ _) (by intro k hk; simp [Value.ownBlock] at hk) (by simp) (by simp)
theorem Raw.setF (R : Raw w H n su sn wt f o) (f' : Int) (hf : -9223372036854775808 ≤ f' ∧ f' < 9223372036854775808) : Raw (w.setCell ⟨H.p, 3, none⟩ (.int .i64 f')) H n su sn wt f' o :=
  { R with
    dev := heap_setCell_same w H.p 3 _ _ _ R.dev
    sure := R.sure.of_block (heap_setCell_other w _ _ _ (fun e => R.d1 e.symm))
    seen := R.seen.of_block (heap_setCell_other w _ _ _ (fun e => R.d2 e.symm))
    wait := R.wait.of_block (fun k hk => heap_setCell_other w _ _ _ (R.d4 k hk).1)
    fz := hf }
theorem Raw.setO (R : Raw w H n su sn wt f o) (b : Bool) : Raw (w.setCell ⟨H.p, 4, none⟩ (.bool b)) H n su sn wt f b :=
  { R with
    dev := heap_setCell_same w H.p 4 _ _ _ R.dev
    sure := R.sure.of_block (heap_setCell_other w _ _ _ (fun e => R.d1 e.symm))
    seen := R.seen.of_block (heap_setCell_other w _ _ _ (fun e => R.d2 e.symm))
    wait := R.wait.of_block (fun k hk => heap_setCell_other w _ _ _ (R.d4 k hk).1) }
/-- The write number k, where it lies. -/
theorem Raw.at_ (R : Raw w H n su sn wt f o) {k : Nat} {x : Nat × List UInt8} (hx : wt[k]? = some x) : ∃ g cap, H.wv = .slice (some ⟨g, 0, none⟩) wt.length cap ∧ w.rangeAt g (k * 129) (wcells x) := by
  rcases R.wait with ⟨_, h0⟩ | ⟨g, cap, hv, _, _, hr⟩
  · simp at h0; subst h0; simp at hx
  · refine ⟨g, cap, by simpa using hv, hr.range ?_⟩
    rw [List.getElem?_map, hx]; rfl
theorem Raw.wv (R : Raw w H n su sn wt f o) : ∃ g cap, H.wv = .slice g wt.length cap := by
  rcases R.wait with ⟨hv, h0⟩ | ⟨g, cap, hv, _⟩
  · simp at h0; subst h0; exact ⟨_, _, hv⟩
  · exact ⟨_, _, by simpa using hv⟩
end

/-! ### A loop's variable that is a whole struct -/
section
variable {P : Program} {ops : Array Oper} {rest : List Oper} {op : Oper} {a : Act} {w : World} {Q : Exit → Act → World → Prop}
theorem alloc_wide {t : TypeId} {z : Array Value} (hz : ∀ w, (zeroValue t).run P w = .ok (.agg z) w) (hgd : op.guard = none) (ho : op.op = .alloc t)
    (h : wpList P ops Q rest (a.put op.dst (.pointer (some ⟨w.heap.size, 0, none⟩))) (w.alloc (.cells z t))) : wpList P ops Q (op :: rest) a w := by
  refine wpList_plain hgd fun K hK => ?_
  unfold Oper.wp execOp
  simp only [ho, Instr.alloc, Sem.run_bind, hz, Result.andThen_ok]
  exact hK _ _ h
theorem store_wide {t : TypeId} {n : Nat} (hi : (P.info? t).map (·.size) = some n) (x y : Operand) (b : Nat) (c c' : Array Value) (W : World) (hW : w = W.alloc (.cells c t)) (hgd : op.guard = none) (ho : op.op = .store t x y) (hx : a.eval x = .pointer (some ⟨b, 0, none⟩)) (hb : b = W.heap.size) (hy : a.eval y = .agg c')
    (hc : c.size = n) (hc' : c'.size = n) (h1 : c'.all (·.oneCell') = true)
    (h : wpList P ops Q rest (a.put op.dst undef) (W.alloc (.cells c' t))) : wpList P ops Q (op :: rest) a w := by
  subst hb hW
  refine wpList_store_row hgd t x y ho W.heap.size c' hx hy t c (heap_alloc_last W _) (by rw [hc']; exact hi) (by omega) h1 ?_
  rw [World.setRow_alloc_new]
  exact h
end
def zw : Array Value := #[Value.int .i64 0] ++ Array.replicate 128 (.int .u8 0)
theorem zw_size : zw.size = 129 := by simp [zw]
theorem info_write2 : (Try.prog.info? 72).map (fun i => (i.zero, i.size)) = some (some (.agg zw), 129) := by kernel_rfl
theorem zero_write (w : World) : (zeroValue 72).run Try.prog w = .ok (.agg zw) w := (zero_of_info info_write2).1 w
def wArr (x : Nat × List UInt8) : Array Value := (wcells x).toArray
theorem wArr_size {x : Nat × List UInt8} (h : x.2.length = 128) : (wArr x).size = 129 := by simp [wArr, wcells, bcells_len, h]
theorem wArr_one (x : Nat × List UInt8) : (wArr x).all (·.oneCell') = true := all_oneCell_toArray (wcells_one x)
theorem wArr_cell {w : World} {B : Nat} {t : TypeId} {x : Nat × List UInt8} (h : w.heap[B]? = some (.cells (wArr x) t (0, 0))) : w.cell? ⟨B, 0, none⟩ = some (.int .i64 x.1) ∧ w.rangeAt B 1 (bcells x.2) := by
  refine ⟨by rw [cell_of_row w B 0 _ t _ h]; rfl, ?_⟩
  intro j v hj
  rw [cell_of_row w B _ _ t _ h]
  simp [wArr, wcells, Nat.add_comm 1 j, hj]
end Go.Proofs.Ytmgodahdljnbmaa
