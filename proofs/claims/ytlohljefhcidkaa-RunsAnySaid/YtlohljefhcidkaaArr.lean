/-
  Whole arrays by value (any number of cells of one cell each): laws for the walk's operations alloc, build, box, load and store on them; and rows of 64 bools. No program is spoken of.
-/
import Derived.Deep.WholeRow
import Derived.WalkKit
import Derived.WalkSmall
import Derived.Deep.QuietTactic
namespace Go.Proofs.Ytlohljefhcidkaa.Arr
open Go.RowKit

structure IsArr (P : Program) (t : TypeId) (n : Nat) (e : TypeId) (z : Array Value) : Prop where
  hu : P.underlying t = some (.array n e)
  hz : ∀ w, (zeroValue t).run P w = .ok (.agg z) w
  hi : (P.info? t).map (·.size) = some n
  hb : P.built t [] = some z
  hs : z.size = n

section
variable {P : Program} {t e : TypeId} {n : Nat} {z : Array Value} {ops : Array Oper} {rest : List Oper} {o : Oper} {a : Act} {w : World} {Q : Exit → Act → World → Prop}

theorem alloc_arr (A : IsArr P t n e z) (hgd : o.guard = none) (ho : o.op = .alloc t)
    (h : wpList P ops Q rest (a.put o.dst (.pointer (some ⟨w.heap.size, 0, none⟩))) (w.alloc (.cells z t))) : wpList P ops Q (o :: rest) a w := by
  refine wpList_plain hgd fun K hK => ?_
  unfold Oper.wp execOp
  simp only [ho, Instr.alloc, Sem.run_bind, A.hz, Result.andThen_ok]
  exact hK _ _ h
theorem box_arr (x : Operand) (c : Array Value) (hgd : o.guard = none) (ho : o.op = .box t x) (hx : a.eval x = .agg c)
    (h : wpList P ops Q rest (a.put o.dst (.pointer (some ⟨w.heap.size, 0, none⟩))) (w.alloc (.cells c t))) : wpList P ops Q (o :: rest) a w := by
  refine wpList_plain hgd fun K hK => ?_
  unfold Oper.wp execOp
  simp only [ho, hx, Instr.box, Sem.run_bind]
  exact hK _ _ h
theorem build_arr (A : IsArr P t n e z) (hgd : o.guard = none) (ho : o.op = .build t #[])
    (h : wpList P ops Q rest (a.put o.dst (.agg z)) w) : wpList P ops Q (o :: rest) a w := by
  refine wpList_build hgd t #[] ho ?_ ?_
  · simp [A.hb]
  · simpa [A.hb] using h
/-- A whole array into a block: the last one. -/
theorem store_new (A : IsArr P t n e z) (x y : Operand) (b : Nat) (c c' : Array Value) (W : World) (hW : w = W.alloc (.cells c t)) (hgd : o.guard = none) (ho : o.op = .store t x y) (hx : a.eval x = .pointer (some ⟨b, 0, none⟩)) (hb : b = W.heap.size) (hy : a.eval y = .agg c')
    (hc : c.size = n) (hc' : c'.size = n) (h1 : c'.all (·.oneCell') = true)
    (h : wpList P ops Q rest (a.put o.dst undef) (W.alloc (.cells c' t))) : wpList P ops Q (o :: rest) a w := by
  subst hb hW
  refine wpList_store_row hgd t x y ho W.heap.size c' hx hy t c (heap_alloc_last W _) (by rw [hc']; exact A.hi) (by omega) h1 ?_
  rw [World.setRow_alloc_new]
  exact h
theorem load_new (A : IsArr P t n e z) (x : Operand) (b : Nat) (c : Array Value) (W : World) (hW : w = W.alloc (.cells c t)) (hgd : o.guard = none) (ho : o.op = .load t x) (hx : a.eval x = .pointer (some ⟨b, 0, none⟩)) (hb : b = W.heap.size)
    (hc : c.size = n)
    (h : wpList P ops Q rest (a.put o.dst (.agg c)) w) : wpList P ops Q (o :: rest) a w := by
  subst hb hW
  exact wpList_load_row hgd t x ho W.heap.size hx t c (0, 0) _ (heap_alloc_last W _) A.hu rfl (by rw [hc]; exact A.hi) h
theorem _root_.Go.World.setRow_alloc2_first (w : World) (c c' : Array Value) (t : TypeId) (B : Obj) : ((w.alloc (.cells c t)).alloc B).setRow w.heap.size c' = (w.alloc (.cells c' t)).alloc B := by
  simp only [World.setRow, World.alloc]
  congr 1
  apply Array.ext_getElem?
  intro i
  rw [Array.getElem?_modify]
  by_cases h : w.heap.size = i
  · subst h
    simp [Array.getElem?_push]
  · have h' : ¬ i = w.heap.size := fun e => h e.symm
    simp [h, h', Array.getElem?_push]
/-- A whole array into the block ahead of the last one. -/
theorem store_first (A : IsArr P t n e z) (x y : Operand) (b : Nat) (c c' : Array Value) (W : World) (B : Obj) (hW : w = (W.alloc (.cells c t)).alloc B) (hgd : o.guard = none) (ho : o.op = .store t x y) (hx : a.eval x = .pointer (some ⟨b, 0, none⟩)) (hb : b = W.heap.size) (hy : a.eval y = .agg c')
    (hc : c.size = n) (hc' : c'.size = n) (h1 : c'.all (·.oneCell') = true)
    (h : wpList P ops Q rest (a.put o.dst undef) ((W.alloc (.cells c' t)).alloc B)) : wpList P ops Q (o :: rest) a w := by
  subst hb hW
  refine wpList_store_row hgd t x y ho W.heap.size c' hx hy t c (heap_alloc2_old W _ _) (by rw [hc']; exact A.hi) (by omega) h1 ?_
  rw [World.setRow_alloc2_first]
  exact h
end

/-- Sixty-four bools as cells. -/
def brow (f : Nat → Bool) : Array Value := Array.ofFn (n := 64) fun i => .bool (f i.val)
theorem brow_size (f : Nat → Bool) : (brow f).size = 64 := by unfold brow; exact Array.size_ofFn
theorem brow_one (f : Nat → Bool) : (brow f).all (·.oneCell') = true := by
  rw [Array.all_eq_true_iff_forall_mem]
  intro v hv
  unfold brow at hv
  obtain ⟨i, hi⟩ := Array.mem_ofFn.1 hv
  rw [← hi]; rfl
theorem brow_at (f : Nat → Bool) (k : Nat) (hk : k < 64) : (brow f)[k]? = some (.bool (f k)) := by
  unfold brow
  rw [Array.getElem?_ofFn]
  simp [hk]
theorem brow_set (f : Nat → Bool) (k : Nat) (v : Bool) : (brow f).setIfInBounds k (.bool v) = brow (fun i => if i = k then v else f i) := by
  apply Array.ext_getElem?
  intro i
  by_cases hi : i < 64
  · rw [brow_at _ i hi, Array.getElem?_setIfInBounds]
    by_cases h : k = i
    · subst h; simp [brow_size, hi]
    · have h' : ¬ i = k := fun e => h e.symm
      simp [h, h', brow_at _ i hi]
  · rw [Array.getElem?_eq_none (by rw [Array.size_setIfInBounds, brow_size]; omega), Array.getElem?_eq_none (by rw [brow_size]; omega)]
theorem brow_congr {f g : Nat → Bool} (h : ∀ i, i < 64 → f i = g i) : brow f = brow g := by
  unfold brow
  congr 1
  funext i
  rw [h i.val i.isLt]

/-- In the world w the block b holds the 64 bools f. -/
def Has (t : TypeId) (w : World) (b : Nat) (f : Nat → Bool) : Prop := w.heap[b]? = some (.cells (brow f) t (0, 0))
section
variable {t : TypeId} {w : World} {b : Nat} {f : Nat → Bool}
theorem Has.cell (h : Has t w b f) (k : Nat) (hk : k < 64) : w.cell? ⟨b, k, none⟩ = some (.bool (f k)) := by
  rw [cell_of_row w b k _ t (0, 0) h]; exact brow_at f k hk
theorem Has.frozen (h : Has t w b f) (k : Nat) : w.frozen? ⟨b, k, none⟩ = false := frozen_of_row w b k _ t h
theorem Has.set (h : Has t w b f) (k : Nat) (v : Bool) : Has t (w.setCell ⟨b, k, none⟩ (.bool v)) b (fun i => if i = k then v else f i) := by
  unfold Has
  rw [← brow_set]
  exact heap_setCell_same w b k _ t (.bool v) h
theorem Has.other (h : Has t w b f) (a : Addr) (v : Value) (hb : b ≠ a.block) : Has t (w.setCell a v) b f := by
  unfold Has; rw [heap_setCell_other w a b v hb]; exact h
theorem Has.drewN (h : Has t w b f) (n : Nat) : Has t (w.drewN n) b f := h
theorem Has.drew (h : Has t w b f) : Has t w.drew b f := h
theorem Has.below {w' : World} {B : Nat} (h : Has t w b f) (hb : Below B w w') (hB : b < B) : Has t w' b f := by
  unfold Has; rw [hb.block b hB]; exact h
theorem Has.lt (h : Has t w b f) : b < w.heap.size := (Array.getElem?_eq_some_iff.1 h).1
theorem Has.congr {g : Nat → Bool} (h : Has t w b f) (e : ∀ i, i < 64 → f i = g i) : Has t w b g := by
  unfold Has; rw [← brow_congr e]; exact h
theorem has_new (W : World) (f : Nat → Bool) : Has t (W.alloc (.cells (brow f) t)) W.heap.size f := heap_alloc_last W _
theorem has_alloc (h : Has t w b f) (o : Obj) : Has t (w.alloc o) b f := by
  unfold Has; rw [Below.heap_alloc w o b h.lt]; exact h
end
section
variable {P : Program} {t e : TypeId} {ops : Array Oper} {rest : List Oper} {o : Oper} {a : Act} {w : World} {Q : Exit → Act → World → Prop} {z : Array Value}
theorem load_has (A : IsArr P t 64 e z) (x : Operand) (b : Nat) (f : Nat → Bool) (hgd : o.guard = none) (ho : o.op = .load t x) (hx : a.eval x = .pointer (some ⟨b, 0, none⟩)) (hh : Has t w b f)
    (h : wpList P ops Q rest (a.put o.dst (.agg (brow f))) w) : wpList P ops Q (o :: rest) a w :=
  wpList_load_row hgd t x ho b hx t (brow f) (0, 0) _ hh A.hu rfl (by rw [brow_size]; exact A.hi) h
end
end Go.Proofs.Ytlohljefhcidkaa.Arr
