/-
  A struct in a block of its own: what it reads as, behind calls and stores; a call's results of which one lies in memory. No program is spoken of.
-/
import Derived.Test.YtnnnkmgkijijdaaDMem
import Derived.Deep.WholeRow
namespace Go.Proofs.Ytnnnkmgkijijdaa
open Go.RowKit

/-- The block b is the struct (or array) c. -/
def Box (w : World) (b : Nat) (t : TypeId) (c : Array Value) : Prop := w.heap[b]? = some (.cells c t (0, 0))
section
variable {w w' : World} {b : Nat} {t : TypeId} {c : Array Value}
theorem Box.lt (h : Box w b t c) : b < w.heap.size := (Array.getElem?_eq_some_iff.1 h).1
theorem Box.of_block (h : Box w b t c) (e : w'.heap[b]? = w.heap[b]?) : Box w' b t c := e.trans h
theorem Box.below {B : Nat} (h : Box w b t c) (k : Below B w w') (hb : b < B) : Box w' b t c := h.of_block (k.block b hb)
theorem Box.over (h : Box w b t c) (k : Below w.heap.size w w') : Box w' b t c := h.below k h.lt
theorem Box.kept {F : Nat → Prop} (h : Box w b t c) (k : Kept F w w') (hF : ¬ F b) : Box w' b t c := h.of_block (k.block b h.lt hF)
theorem Box.alloc (h : Box w b t c) (o : Obj) : Box (w.alloc o) b t c := h.of_block (Below.heap_alloc w o b h.lt)
theorem Box.drew (h : Box w b t c) : Box w.drew b t c := h
theorem Box.drewN (h : Box w b t c) (n : Nat) : Box (w.drewN n) b t c := h
theorem box_new (w : World) (c : Array Value) (t : TypeId) : Box (w.alloc (.cells c t)) w.heap.size t c := heap_alloc_last w _
theorem box_old (w : World) (c : Array Value) (t : TypeId) (o : Obj) : Box ((w.alloc (.cells c t)).alloc o) w.heap.size t c := (box_new w c t).alloc o
theorem Box.set (h : Box w b t c) (k : Nat) (v : Value) : Box (w.setCell ⟨b, k, none⟩ v) b t (c.setIfInBounds k v) := heap_setCell_same w b k c t v h
theorem Box.other (h : Box w b t c) {a : Addr} (hn : b ≠ a.block) (v : Value) : Box (w.setCell a v) b t c := h.of_block (heap_setCell_other w a b v hn)
theorem Box.setRow (h : Box w b t c) (c' : Array Value) : Box (w.setRow b c') b t c' := setRow_heap w b c c' t (0, 0) h
theorem Box.rowOther (h : Box w b t c) {p : Nat} (hn : b ≠ p) (c' : Array Value) : Box (w.setRow p c') b t c := h.of_block (setRow_other w p b c' hn)
theorem Box.cell (h : Box w b t c) (k : Nat) (v : Value) (hv : c[k]? = some v) : w.cell? ⟨b, k, none⟩ = some v := (cell_of_row w b k c t (0, 0) h).trans hv
theorem Box.frozen (h : Box w b t c) (k : Nat) : w.frozen? ⟨b, k, none⟩ = false := frozen_of_row w b k c t h
end
theorem below_setRow {B : Nat} {a w : World} {b : Nat} (h : Below B a w) (hb : B ≤ b) (cs : Array Value) : Below B a (w.setRow b cs) :=
  h.trans ⟨rfl, rfl, rfl, by simp, fun k hk => setRow_other w b k cs (by omega)⟩
theorem below2 (w : World) (A B : Obj) : Below w.heap.size w ((w.alloc A).alloc B) := ((Below.refl _ w).alloc (Nat.le_refl _) _).alloc (by simp) _
theorem below1 (w : World) (A : Obj) : Below w.heap.size w (w.alloc A) := (Below.refl _ w).alloc (Nat.le_refl _) _

theorem two_box {w w1 : World} {c0 c1 : Array Value} {t0 t1 : TypeId} (hb : Below ((w.alloc (.cells c0 t0)).alloc (.cells c1 t1)).heap.size ((w.alloc (.cells c0 t0)).alloc (.cells c1 t1)) w1) :
    Box w1 w.heap.size t0 c0 ∧ Box w1 (w.heap.size + 1) t1 c1 ∧ Below w.heap.size w w1 := by
  have b1 := box_new (w.alloc (.cells c0 t0)) c1 t1
  rw [World.size_alloc] at b1
  exact ⟨(box_old _ _ _ _).over hb, b1.over hb, (below2 _ _ _).trans (hb.mono (by simp; omega))⟩

section
variable {P : Program} {fn : Func} {p q : Tmp} {ty : TypeId} {w : World} {g : Nat} {t : TypeId} {cs : Array Value} {tmps : Array Value}
theorem res_box (h : fn.results = #[.cell p ty]) (d : TypeDesc) (hp : tmps.getD p undef = .pointer (some ⟨g, 0, none⟩)) (hg : Box w g t cs)
    (hu : P.underlying ty = some d) (hd : (match d with | .struct _ | .array _ _ => true | _ => false) = true) (hi : (P.info? ty).map (·.size) = some cs.size) :
    (results fn tmps).run P w = .ok (.agg cs) w := results_cell_row h tmps w g t cs (0, 0) d hp hg hu hd hi
theorem res_box_slot (h : fn.results = #[.cell p ty, .tmp q]) (d : TypeDesc) (hp : tmps.getD p undef = .pointer (some ⟨g, 0, none⟩)) (hg : Box w g t cs)
    (hu : P.underlying ty = some d) (hd : (match d with | .struct _ | .array _ _ => true | _ => false) = true) (hi : (P.info? ty).map (·.size) = some cs.size) (v : Value) (hq : tmps.getD q undef = v) :
    (results fn tmps).run P w = .ok (.tuple #[.agg cs, v]) w := by
  have hp' : tmps[p]?.getD undef = .pointer (some ⟨g, 0, none⟩) := by simpa using hp
  have hq' : tmps[q]?.getD undef = v := by simpa using hq
  have hl := run_loadVar_row (P := P) w g t ty cs (0, 0) d hg hu hd hi
  simp [results, h, hp', hq', asAddr, hl]
end
end Go.Proofs.Ytnnnkmgkijijdaa
