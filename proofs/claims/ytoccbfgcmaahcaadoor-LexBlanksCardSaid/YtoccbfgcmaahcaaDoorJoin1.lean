/-
  24 texts, one behind the other: Words, Arr, RefOf, RefZig, RefField, BitsA, ZigEq, BitsB, Leb, VLen, VTk, VTake, Rowy, VPut, VRefPut, Calm, DMem, Box, SApp, ERow, EApp, KOrd, KCmp, KChk.
-/
import Derived.Laws.Entries
import Derived.RowKit
import Derived.IntWalk
import Derived.Laws.Bits64
import Derived.Deep.WholeRow
import Derived.WalkKit
import Derived.WalkSmall
import Derived.Deep.QuietTactic
import Derived.Test.YtoccbfgcmaahcaaDoorRows
import Derived.WalkSpells
import Derived.WalkLawsBesides
import Derived.Deep.LoopGhost
import Derived.BigQuiet
import Derived.Laws.BytesString
import Derived.Laws.Cells
import Derived.Lib.Strings
import Derived.Deep.Quiet
import Derived.Below
import Derived.Deep.MidRow
import Derived.Deep.DeepAppendWide
import Derived.Deep.RegionHeld3
import Derived.OwnWalk
import Derived.Laws.OwnMore
import Derived.Lib.AppendZerosOnto
import Derived.Laws.IdiomCopy
import Derived.Lib.Overlaps
import Derived.Deep.RegionLaw
/-
  Words of 64 bits as BitVec 64: how the walk's integers (wraps, shifts, bits) read as operations on them. No program is spoken of.
-/
namespace Go.Proofs.YtoccbfgcmaahcaaDoor.Wd
open Go.RowKit

theorem u64_toInt (x : BitVec 64) : IntKind.u64.wrap x.toInt = (x.toNat : Int) := by
  rw [IntKind.wrap_u64, BitVec.toInt_eq_toNat_bmod, Int.bmod_def]
  have := x.isLt
  omega
theorem u64_toNat (x : BitVec 64) : IntKind.u64.wrap (x.toNat : Int) = (x.toNat : Int) := by
  rw [IntKind.wrap_u64]
  have := x.isLt
  omega
theorem i64_toNat (x : BitVec 64) : wrap64 (x.toNat : Int) = x.toInt := by
  rw [BitVec.toInt_eq_toNat_bmod, Int.bmod_def]
  unfold wrap64
  have := x.isLt
  omega
theorem i64_toInt (x : BitVec 64) : wrap64 x.toInt = x.toInt := by
  have h1 := BitVec.toInt_lt (x := x)
  have h2 := BitVec.le_toInt (x := x)
  unfold wrap64
  omega
theorem i64_wf (x : BitVec 64) : (Lit.int .i64 x.toInt).wf = true := by
  rw [← i64_toInt]; exact wrap64_wf _
/-- A number that fits is a word's. -/
theorem word_of (n : Int) (h : (Lit.int .i64 n).wf = true) : ∃ x : BitVec 64, n = x.toInt := by
  refine ⟨BitVec.ofInt 64 n, ?_⟩
  simp [Lit.wf, IntKind.min, IntKind.max, IntKind.signed, IntKind.bits] at h
  rw [BitVec.toInt_ofInt, Int.bmod_def]
  omega
theorem word_of_le (n : Int) (h1 : -9223372036854775808 ≤ n) (h2 : n ≤ 9223372036854775807) : n = (BitVec.ofInt 64 n).toInt := by
  rw [BitVec.toInt_ofInt, Int.bmod_def]
  omega
theorem ofInt_toInt (x : BitVec 64) : BitVec.ofInt 64 x.toInt = x := by simp
theorem ofInt_toNat (x : BitVec 64) : BitVec.ofInt 64 (x.toNat : Int) = x := by simp

theorem i64_ofNat (n : Nat) : IntKind.i64.wrap (n : Int) = (BitVec.ofNat 64 n).toInt := by
  rw [IntWalk.i64_left, BitVec.toInt_eq_toNat_bmod, Int.bmod_def]
  unfold wrap64
  simp only [BitVec.toNat_ofNat]
  omega

theorem u64_and (x y : BitVec 64) : bits .and .u64 (x.toNat : Int) (y.toNat : Int) = ((x &&& y).toNat : Int) := by
  show IntKind.u64.wrap ((BitVec.ofInt 64 (x.toNat : Int) &&& BitVec.ofInt 64 (y.toNat : Int)).toNat : Int) = _
  rw [ofInt_toNat, ofInt_toNat, u64_toNat]
theorem u64_or (x y : BitVec 64) : bits .or .u64 (x.toNat : Int) (y.toNat : Int) = ((x ||| y).toNat : Int) := by
  show IntKind.u64.wrap ((BitVec.ofInt 64 (x.toNat : Int) ||| BitVec.ofInt 64 (y.toNat : Int)).toNat : Int) = _
  rw [ofInt_toNat, ofInt_toNat, u64_toNat]
theorem u64_xor (x y : BitVec 64) : bits .xor .u64 (x.toNat : Int) (y.toNat : Int) = ((x ^^^ y).toNat : Int) := by
  show IntKind.u64.wrap ((BitVec.ofInt 64 (x.toNat : Int) ^^^ BitVec.ofInt 64 (y.toNat : Int)).toNat : Int) = _
  rw [ofInt_toNat, ofInt_toNat, u64_toNat]
theorem u64_andNot (x y : BitVec 64) : bits .andNot .u64 (x.toNat : Int) (y.toNat : Int) = ((x &&& ~~~y).toNat : Int) := by
  show IntKind.u64.wrap ((BitVec.ofInt 64 (x.toNat : Int) &&& ~~~BitVec.ofInt 64 (y.toNat : Int)).toNat : Int) = _
  rw [ofInt_toNat, ofInt_toNat, u64_toNat]
theorem u64_not (x : BitVec 64) : bits .xor .u64 IntKind.u64.max (x.toNat : Int) = ((~~~x).toNat : Int) := by
  have e : IntKind.u64.max = ((BitVec.allOnes 64).toNat : Int) := by decide
  rw [e, u64_xor, BitVec.allOnes_xor]
theorem i64_and (x y : BitVec 64) : bits .and .i64 x.toInt y.toInt = (x &&& y).toInt := by
  show IntKind.i64.wrap ((BitVec.ofInt 64 x.toInt &&& BitVec.ofInt 64 y.toInt).toNat : Int) = _
  rw [ofInt_toInt, ofInt_toInt, IntWalk.i64_left, i64_toNat]
theorem i64_or (x y : BitVec 64) : bits .or .i64 x.toInt y.toInt = (x ||| y).toInt := by
  show IntKind.i64.wrap ((BitVec.ofInt 64 x.toInt ||| BitVec.ofInt 64 y.toInt).toNat : Int) = _
  rw [ofInt_toInt, ofInt_toInt, IntWalk.i64_left, i64_toNat]
theorem i64_xor (x y : BitVec 64) : bits .xor .i64 x.toInt y.toInt = (x ^^^ y).toInt := by
  show IntKind.i64.wrap ((BitVec.ofInt 64 x.toInt ^^^ BitVec.ofInt 64 y.toInt).toNat : Int) = _
  rw [ofInt_toInt, ofInt_toInt, IntWalk.i64_left, i64_toNat]

theorem u64_shl (x : BitVec 64) (n : Nat) : IntKind.u64.wrap ((x.toNat : Int) * 2 ^ n) = ((x <<< n).toNat : Int) := by
  rw [IntKind.wrap_u64, BitVec.toNat_shiftLeft, Nat.shiftLeft_eq]
  have : (x.toNat : Int) * 2 ^ n = ((x.toNat * 2 ^ n : Nat) : Int) := by simp
  rw [this]
  omega
theorem i64_shl (x : BitVec 64) (n : Nat) : wrap64 (x.toInt * 2 ^ n) = (x <<< n).toInt := by
  have h : BitVec.ofInt 64 (x.toInt * 2 ^ n) = x <<< n := by
    apply BitVec.eq_of_toNat_eq
    apply Int.natCast_inj.mp
    rw [← u64_shl, ← u64_toInt x, BitVec.toNat_ofInt, IntKind.wrap_u64, IntKind.wrap_u64]
    rw [Int.toNat_of_nonneg (Int.emod_nonneg _ (by decide)), Int.mul_emod (x.toInt % 18446744073709551616), Int.emod_emod, ← Int.mul_emod]
    rfl
  rw [← h, BitVec.toInt_ofInt, Int.bmod_def]
  unfold wrap64
  omega
theorem u64_shr (x : BitVec 64) (n : Nat) : (x.toNat : Int) / 2 ^ n = ((x >>> n).toNat : Int) := by
  rw [BitVec.toNat_ushiftRight, Nat.shiftRight_eq_div_pow]; simp
theorem i64_shr (x : BitVec 64) (n : Nat) : x.toInt / 2 ^ n = (x.sshiftRight n).toInt := by
  rw [BitVec.toInt_sshiftRight, Int.shiftRight_eq_div_pow]; simp
theorem u64_sub (x y : BitVec 64) : IntKind.u64.wrap ((x.toNat : Int) - (y.toNat : Int)) = ((x - y).toNat : Int) := by
  rw [IntKind.wrap_u64, BitVec.toNat_sub]
  have := x.isLt; have := y.isLt
  omega
theorem u64_add (x y : BitVec 64) : IntKind.u64.wrap ((x.toNat : Int) + (y.toNat : Int)) = ((x + y).toNat : Int) := by
  rw [IntKind.wrap_u64, BitVec.toNat_add]
  omega
theorem u64_neg (x : BitVec 64) : IntKind.u64.wrap (-(x.toNat : Int)) = ((-x).toNat : Int) := by
  rw [IntKind.wrap_u64, BitVec.toNat_neg]
  have := x.isLt
  omega
theorem i64_inj {x y : BitVec 64} : x.toInt = y.toInt ↔ x = y := BitVec.toInt_inj
theorem u64_inj {x y : BitVec 64} : (x.toNat : Int) = (y.toNat : Int) ↔ x = y := by
  rw [Int.natCast_inj]; exact BitVec.toNat_inj
theorem i64_beq (x y : BitVec 64) : (x.toInt == y.toInt) = (x == y) := by
  rw [Bool.eq_iff_iff]; simp [i64_inj]
theorem toInt_of_small (n : Nat) (h : n < 9223372036854775808) : (BitVec.ofNat 64 n).toInt = (n : Int) := by
  rw [BitVec.toInt_eq_toNat_bmod, Int.bmod_def]; simp only [BitVec.toNat_ofNat]; omega
theorem neg_iff (x : BitVec 64) : x.toInt < 0 ↔ x.msb = true := by
  rw [BitVec.msb_eq_toInt]; simp
theorem and_one (x : BitVec 64) : x &&& 1#64 = if x.getLsbD 0 then 1#64 else 0#64 := by
  apply BitVec.eq_of_getLsbD_eq
  intro i hi
  by_cases h0 : i = 0
  · subst h0; rw [BitVec.getLsbD_and]; cases h : x.getLsbD 0 <;> simp
  · cases h : x.getLsbD 0 <;> simp [h0, BitVec.getLsbD_one]
theorem bit_is (x : BitVec 64) : (bits .and .i64 x.toInt 1 == 1) = x.getLsbD 0 := by
  have e : (1 : Int) = (1#64).toInt := by decide
  rw [e, i64_and, i64_beq, and_one]
  cases h : x.getLsbD 0 <;> simp
theorem bit_at (x : BitVec 64) (k : Nat) (hk : k < 64) : (bits .and .i64 (x.toInt / 2 ^ k) 1 == 1) = x.getLsbD k := by
  rw [i64_shr, bit_is, BitVec.getLsbD_sshiftRight]
  simp [hk]
theorem and63_le (y : BitVec 64) : ((y &&& 63#64).toNat : Int) ≤ 63 := by
  rw [BitVec.toNat_and]
  have := Nat.and_le_right (n := y.toNat) (m := (63#64).toNat)
  have e : (63#64).toNat = 63 := rfl
  omega
theorem and63 (y : BitVec 64) : bits .and .i64 y.toInt 63 = ((y &&& 63#64).toNat : Int) := by
  have e : (63 : Int) = (63#64).toInt := by decide
  have := and63_le y
  rw [e, i64_and, BitVec.toInt_eq_toNat_bmod, Int.bmod_def]
  omega
theorem returned_int {k : IntKind} {a b : Int} (h : a = b) : Ending.returned (.int k a) = .returned (.int k b) := by rw [h]

end Go.Proofs.YtoccbfgcmaahcaaDoor.Wd
/-
  Whole arrays by value (any number of cells of one cell each): laws for the walk's operations alloc, build, box, load and store on them; and rows of 64 bools. No program is spoken of.
-/
namespace Go.Proofs.YtoccbfgcmaahcaaDoor.Arr
open Go.RowKit

structure IsArr (P : Program) (t : TypeId) (n : Nat) (e : TypeId) (z : Array Value) : Prop where
  hu : P.underlying t = some (.array n e)
  hz : ∀ w, (zeroValue t).run P w = .ok (.agg z) w
  hi : (P.info? t).map (·.size) = some n
  hb : P.built t [] = some z
  hs : z.size = n

section
variable {P : Program} {t e : TypeId} {n : Nat} {z : Array Value} {ops : Array Oper} {rest : List Oper} {o : Oper} {a : Act} {w : World} {Q : Exit → Act → World → Prop}

theorem alloc_arr (A : IsArr P t n e z) (hgd : o.guard = none) (ho : o.op = .alloc t)
    (h : wpList P ops Q rest (a.put o.dst (.pointer (some ⟨w.heap.size, 0, none⟩))) (w.alloc (.cells z t))) : wpList P ops Q (o :: rest) a w := by
  refine wpList_plain hgd fun K hK => ?_
  unfold Oper.wp execOp
  simp only [ho, Instr.alloc, Sem.run_bind, A.hz, Result.andThen_ok]
  exact hK _ _ h
theorem box_arr (x : Operand) (c : Array Value) (hgd : o.guard = none) (ho : o.op = .box t x) (hx : a.eval x = .agg c)
    (h : wpList P ops Q rest (a.put o.dst (.pointer (some ⟨w.heap.size, 0, none⟩))) (w.alloc (.cells c t))) : wpList P ops Q (o :: rest) a w := by
  refine wpList_plain hgd fun K hK => ?_
  unfold Oper.wp execOp
  simp only [ho, hx, Instr.box, Sem.run_bind]
  exact hK _ _ h
theorem build_arr (A : IsArr P t n e z) (hgd : o.guard = none) (ho : o.op = .build t #[])
    (h : wpList P ops Q rest (a.put o.dst (.agg z)) w) : wpList P ops Q (o :: rest) a w := by
  refine wpList_build hgd t #[] ho ?_ ?_
  · simp [A.hb]
  · simpa [A.hb] using h
/-- A whole array into a block: the last one. -/
theorem store_new (A : IsArr P t n e z) (x y : Operand) (b : Nat) (c c' : Array Value) (W : World) (hW : w = W.alloc (.cells c t)) (hgd : o.guard = none) (ho : o.op = .store t x y) (hx : a.eval x = .pointer (some ⟨b, 0, none⟩)) (hb : b = W.heap.size) (hy : a.eval y = .agg c')
    (hc : c.size = n) (hc' : c'.size = n) (h1 : c'.all (·.oneCell') = true)
    (h : wpList P ops Q rest (a.put o.dst undef) (W.alloc (.cells c' t))) : wpList P ops Q (o :: rest) a w := by
  subst hb hW
  refine wpList_store_row hgd t x y ho W.heap.size c' hx hy t c (heap_alloc_last W _) (by rw [hc']; exact A.hi) (by omega) h1 ?_
  rw [World.setRow_alloc_new]
  exact h
theorem load_new (A : IsArr P t n e z) (x : Operand) (b : Nat) (c : Array Value) (W : World) (hW : w = W.alloc (.cells c t)) (hgd : o.guard = none) (ho : o.op = .load t x) (hx : a.eval x = .pointer (some ⟨b, 0, none⟩)) (hb : b = W.heap.size)
    (hc : c.size = n)
    (h : wpList P ops Q rest (a.put o.dst (.agg c)) w) : wpList P ops Q (o :: rest) a w := by
  subst hb hW
  exact wpList_load_row hgd t x ho W.heap.size hx t c (0, 0) _ (heap_alloc_last W _) A.hu rfl (by rw [hc]; exact A.hi) h
theorem _root_.Go.World.setRow_alloc2_first (w : World) (c c' : Array Value) (t : TypeId) (B : Obj) : ((w.alloc (.cells c t)).alloc B).setRow w.heap.size c' = (w.alloc (.cells c' t)).alloc B := by
  simp only [World.setRow, World.alloc]
  congr 1
  apply Array.ext_getElem?
  intro i
  rw [Array.getElem?_modify]
  by_cases h : w.heap.size = i
  · subst h
    simp [Array.getElem?_push]
  · have h' : ¬ i = w.heap.size := fun e => h e.symm
    simp [h, h', Array.getElem?_push]
/-- A whole array into the block ahead of the last one. -/
theorem store_first (A : IsArr P t n e z) (x y : Operand) (b : Nat) (c c' : Array Value) (W : World) (B : Obj) (hW : w = (W.alloc (.cells c t)).alloc B) (hgd : o.guard = none) (ho : o.op = .store t x y) (hx : a.eval x = .pointer (some ⟨b, 0, none⟩)) (hb : b = W.heap.size) (hy : a.eval y = .agg c')
    (hc : c.size = n) (hc' : c'.size = n) (h1 : c'.all (·.oneCell') = true)
    (h : wpList P ops Q rest (a.put o.dst undef) ((W.alloc (.cells c' t)).alloc B)) : wpList P ops Q (o :: rest) a w := by
  subst hb hW
  refine wpList_store_row hgd t x y ho W.heap.size c' hx hy t c (heap_alloc2_old W _ _) (by rw [hc']; exact A.hi) (by omega) h1 ?_
  rw [World.setRow_alloc2_first]
  exact h
end

/-- Sixty-four bools as cells. -/
def brow (f : Nat → Bool) : Array Value := Array.ofFn (n := 64) fun i => .bool (f i.val)
theorem brow_size (f : Nat → Bool) : (brow f).size = 64 := by unfold brow; exact Array.size_ofFn
theorem brow_one (f : Nat → Bool) : (brow f).all (·.oneCell') = true := by
  rw [Array.all_eq_true_iff_forall_mem]
  intro v hv
  unfold brow at hv
  obtain ⟨i, hi⟩ := Array.mem_ofFn.1 hv
  rw [← hi]; rfl
theorem brow_at (f : Nat → Bool) (k : Nat) (hk : k < 64) : (brow f)[k]? = some (.bool (f k)) := by
  unfold brow
  rw [Array.getElem?_ofFn]
  simp [hk]
theorem brow_set (f : Nat → Bool) (k : Nat) (v : Bool) : (brow f).setIfInBounds k (.bool v) = brow (fun i => if i = k then v else f i) := by
  apply Array.ext_getElem?
  intro i
  by_cases hi : i < 64
  · rw [brow_at _ i hi, Array.getElem?_setIfInBounds]
    by_cases h : k = i
    · subst h; simp [brow_size, hi]
    · have h' : ¬ i = k := fun e => h e.symm
      simp [h, h', brow_at _ i hi]
  · rw [Array.getElem?_eq_none (by rw [Array.size_setIfInBounds, brow_size]; omega), Array.getElem?_eq_none (by rw [brow_size]; omega)]
theorem brow_congr {f g : Nat → Bool} (h : ∀ i, i < 64 → f i = g i) : brow f = brow g := by
  unfold brow
  congr 1
  funext i
  rw [h i.val i.isLt]

/-- In the world w the block b holds the 64 bools f. -/
def Has (t : TypeId) (w : World) (b : Nat) (f : Nat → Bool) : Prop := w.heap[b]? = some (.cells (brow f) t (0, 0))
section
variable {t : TypeId} {w : World} {b : Nat} {f : Nat → Bool}
theorem Has.cell (h : Has t w b f) (k : Nat) (hk : k < 64) : w.cell? ⟨b, k, none⟩ = some (.bool (f k)) := by
  rw [cell_of_row w b k _ t (0, 0) h]; exact brow_at f k hk
theorem Has.frozen (h : Has t w b f) (k : Nat) : w.frozen? ⟨b, k, none⟩ = false := frozen_of_row w b k _ t h
theorem Has.set (h : Has t w b f) (k : Nat) (v : Bool) : Has t (w.setCell ⟨b, k, none⟩ (.bool v)) b (fun i => if i = k then v else f i) := by
  unfold Has
  rw [← brow_set]
  exact heap_setCell_same w b k _ t (.bool v) h
theorem Has.other (h : Has t w b f) (a : Addr) (v : Value) (hb : b ≠ a.block) : Has t (w.setCell a v) b f := by
  unfold Has; rw [heap_setCell_other w a b v hb]; exact h
theorem Has.drewN (h : Has t w b f) (n : Nat) : Has t (w.drewN n) b f := h
theorem Has.drew (h : Has t w b f) : Has t w.drew b f := h
theorem Has.below {w' : World} {B : Nat} (h : Has t w b f) (hb : Below B w w') (hB : b < B) : Has t w' b f := by
  unfold Has; rw [hb.block b hB]; exact h
theorem Has.lt (h : Has t w b f) : b < w.heap.size := (Array.getElem?_eq_some_iff.1 h).1
theorem Has.congr {g : Nat → Bool} (h : Has t w b f) (e : ∀ i, i < 64 → f i = g i) : Has t w b g := by
  unfold Has; rw [← brow_congr e]; exact h
theorem has_new (W : World) (f : Nat → Bool) : Has t (W.alloc (.cells (brow f) t)) W.heap.size f := heap_alloc_last W _
theorem has_alloc (h : Has t w b f) (o : Obj) : Has t (w.alloc o) b f := by
  unfold Has; rw [Below.heap_alloc w o b h.lt]; exact h
end
section
variable {P : Program} {t e : TypeId} {ops : Array Oper} {rest : List Oper} {o : Oper} {a : Act} {w : World} {Q : Exit → Act → World → Prop} {z : Array Value}
theorem load_has (A : IsArr P t 64 e z) (x : Operand) (b : Nat) (f : Nat → Bool) (hgd : o.guard = none) (ho : o.op = .load t x) (hx : a.eval x = .pointer (some ⟨b, 0, none⟩)) (hh : Has t w b f)
    (h : wpList P ops Q rest (a.put o.dst (.agg (brow f))) w) : wpList P ops Q (o :: rest) a w :=
  wpList_load_row hgd t x ho b hx t (brow f) (0, 0) _ hh A.hu rfl (by rw [brow_size]; exact A.hi) h
end
end Go.Proofs.YtoccbfgcmaahcaaDoor.Arr
/-
  The contracts of package peristyleref01's Of and Word.
-/
namespace Go.Proofs.YtoccbfgcmaahcaaDoor
open Go.RowKit Arr

def bitsOf (x : BitVec 64) (i : Nat) : Bool := x.getLsbD i
theorem of_step (x : BitVec 64) (k : Nat) : (brow fun i => decide (i < k) && x.getLsbD i).setIfInBounds k (.bool (x.getLsbD k)) = brow fun i => decide (i < k + 1) && x.getLsbD i := by
  rw [brow_set]
  apply brow_congr
  intro i hi
  by_cases h : i = k
  · subst h; simp
  · by_cases h2 : i < k
    · have : i < k + 1 := by omega
      simp [h, h2, this]
    · have : ¬ i < k + 1 := by omega
      simp [h, h2, this]
def accW (f : Nat → Bool) : Nat → BitVec 64
  | 0 => 0#64
  | k + 1 => if f k then accW f k ||| 1#64 <<< k else accW f k
theorem accW_bit (f : Nat → Bool) (i : Nat) : ∀ k, (accW f k).getLsbD i = (decide (i < k) && decide (i < 64) && f i)
  | 0 => by simp [accW]
  | k + 1 => by
    have ih := accW_bit f i k
    rw [accW]
    by_cases h : f k
    · rw [if_pos h, BitVec.getLsbD_or, ih, BitVec.getLsbD_shiftLeft, BitVec.getLsbD_one]
      by_cases e : i = k
      · subst e; by_cases h64 : i < 64 <;> simp [h, h64]
      · by_cases h1 : i < k
        · have : i < k + 1 := by omega
          simp [h1, this]
        · have : ¬ i < k + 1 := by omega
          have h2 : ¬ (i - k = 0) := by omega
          simp [h1, this, h2]
    · rw [if_neg h, ih]
      by_cases e : i = k
      · subst e; simp [h]
      · by_cases h1 : i < k
        · have : i < k + 1 := by omega
          simp [h1, this]
        · have : ¬ i < k + 1 := by omega
          simp [h1, this]
def wordW (f : Nat → Bool) : BitVec 64 := accW f 64
theorem wordW_bit (f : Nat → Bool) (i : Nat) (hi : i < 64) : (wordW f).getLsbD i = f i := by
  unfold wordW; rw [accW_bit]; simp [hi]
theorem acc_step (f : Nat → Bool) (k : Nat) (hf : f k = true) : bits .or .i64 (accW f k).toInt (wrap64 (2 ^ k)) = (accW f (k + 1)).toInt := by
  have e : (1 : Int) = (1#64).toInt := by decide
  rw [← Int.one_mul (2 ^ k), e, Wd.i64_shl, Wd.i64_or, accW, if_pos hf]
end Go.Proofs.YtoccbfgcmaahcaaDoor
/-
  The contracts of package peristyleref01's Zig and Zag.
-/
namespace Go.Proofs.YtoccbfgcmaahcaaDoor
open Go.RowKit Arr

def zigP (x : BitVec 64) (k i : Nat) : Bool := if i = 0 then bitsOf x 63 else decide (i < k) && (bitsOf x (i - 1) != bitsOf x 63)
theorem zigP_one (x : BitVec 64) (i : Nat) : (if i = 0 then bitsOf x 63 else false) = zigP x 1 i := by
  unfold zigP
  by_cases h : i = 0
  · simp [h]
  · have : ¬ i < 1 := by omega
    simp [h]
theorem zigP_step (x : BitVec 64) (k i : Nat) (hk : 1 ≤ k) : (if i = k then (bitsOf x (k - 1) != bitsOf x 63) else zigP x k i) = zigP x (k + 1) i := by
  unfold zigP
  by_cases h : i = k
  · subst h
    have h0 : ¬ i = 0 := by omega
    simp [h0]
  · by_cases h0 : i = 0
    · have : ¬ 0 = k := by omega
      simp [h0, this]
    · by_cases h1 : i < k
      · have : i < k + 1 := by omega
        simp [h, h0, h1, this]
      · have : ¬ i < k + 1 := by omega
        simp [h, h0, h1, this]

def zagP (x : BitVec 64) (k i : Nat) : Bool := decide (i < k) && (bitsOf x (i + 1) != bitsOf x 0)
theorem zagP_step (x : BitVec 64) (k i : Nat) : (if i = k then (bitsOf x (k + 1) != bitsOf x 0) else zagP x k i) = zagP x (k + 1) i := by
  unfold zagP
  by_cases h : i = k
  · subst h; simp
  · by_cases h1 : i < k
    · have : i < k + 1 := by omega
      simp [h, h1, this]
    · have : ¬ i < k + 1 := by omega
      simp [h, h1, this]
def zagF (x : BitVec 64) (i : Nat) : Bool := if i = 63 then bitsOf x 0 else zagP x 63 i

end Go.Proofs.YtoccbfgcmaahcaaDoor
/-
  The contracts of package peristyleref01's Field and With.
-/
namespace Go.Proofs.YtoccbfgcmaahcaaDoor
open Go.RowKit Arr

/-- The bits that Field takes: from a on, w of them. -/
def fieldF (x : BitVec 64) (a : Nat) (w : Int) (i : Nat) : Bool := decide ((i : Int) < w ∧ a + i < 64) && bitsOf x (a + i)
theorem field_step (x : BitVec 64) (a : Nat) (w : Int) (k i : Nat) (h1 : (k : Int) < w) (h2 : a + k < 64) :
    (if i = k then bitsOf x (a + k) else decide (i < k) && fieldF x a w i) = (decide (i < k + 1) && fieldF x a w i) := by
  by_cases h : i = k
  · subst h; simp [fieldF, h1, h2]
  · by_cases h3 : i < k
    · have : i < k + 1 := by omega
      simp [h, h3, this]
    · have : ¬ i < k + 1 := by omega
      simp [h, h3, this]
theorem field_end (x : BitVec 64) (a : Nat) (w : Int) (k i : Nat) (h : ¬ (k : Int) < w ∨ ¬ a + k < 64) :
    (decide (i < k) && fieldF x a w i) = fieldF x a w i := by
  by_cases h3 : i < k
  · simp [h3]
  · have : ¬ ((i : Int) < w ∧ a + i < 64) := by omega
    simp [fieldF, this]

/-- The bits of x, those from a on, w of them, from y. -/
def withF (x : BitVec 64) (a : Nat) (w : Int) (y : BitVec 64) (i : Nat) : Bool := if a ≤ i ∧ ((i - a : Nat) : Int) < w then bitsOf y (i - a) else bitsOf x i
def withP (x : BitVec 64) (a : Nat) (y : BitVec 64) (k i : Nat) : Bool := if a ≤ i ∧ i < a + k then bitsOf y (i - a) else bitsOf x i
theorem with_step (x : BitVec 64) (a : Nat) (y : BitVec 64) (k i : Nat) :
    (if i = a + k then bitsOf y k else withP x a y k i) = withP x a y (k + 1) i := by
  unfold withP
  by_cases h : i = a + k
  · subst h
    have e : a + k - a = k := by omega
    simp [e]
  · by_cases h3 : a ≤ i ∧ i < a + k
    · have : a ≤ i ∧ i < a + (k + 1) := by omega
      simp only [h, if_false, if_pos h3, if_pos this]
    · have : ¬ (a ≤ i ∧ i < a + (k + 1)) := by omega
      simp only [h, if_false, if_neg h3, if_neg this]
theorem with_end (x : BitVec 64) (a : Nat) (w : Int) (y : BitVec 64) (k i : Nat) (hi : i < 64) (hk : (k : Int) ≤ w ∨ k = 0) (h : ¬ (k : Int) < w ∨ ¬ a + k < 64) :
    withP x a y k i = withF x a w y i := by
  unfold withP withF
  by_cases h3 : a ≤ i ∧ i < a + k
  · have : a ≤ i ∧ ((i - a : Nat) : Int) < w := by omega
    rw [if_pos h3, if_pos this]
  · have : ¬ (a ≤ i ∧ ((i - a : Nat) : Int) < w) := by omega
    rw [if_neg h3, if_neg this]

end Go.Proofs.YtoccbfgcmaahcaaDoor
/-
  The contracts of package bits' Zig and Zag, over words as BitVec 64.
-/
namespace Go.Proofs.YtoccbfgcmaahcaaDoor
open Go.RowKit

def zigW (x : BitVec 64) : BitVec 64 := if x.msb then ~~~(x <<< 1) else x <<< 1
def zagW (x : BitVec 64) : BitVec 64 := if x.getLsbD 0 then ~~~(x >>> 1) else x >>> 1

theorem zig_neg (x : BitVec 64) (h : x.toInt < 0) : wrap64 (bits .xor .u64 IntKind.u64.max (IntKind.u64.wrap (IntKind.u64.wrap x.toInt * 2))) = (zigW x).toInt := by
  rw [Wd.u64_toInt, show ((x.toNat : Int) * 2) = (x.toNat : Int) * 2 ^ 1 by simp, Wd.u64_shl, Wd.u64_not, Wd.i64_toNat]
  rw [zigW, if_pos ((Wd.neg_iff x).1 h)]
theorem zig_pos (x : BitVec 64) (h : 0 ≤ x.toInt) : wrap64 (IntKind.u64.wrap (IntKind.u64.wrap x.toInt * 2)) = (zigW x).toInt := by
  rw [Wd.u64_toInt, show ((x.toNat : Int) * 2) = (x.toNat : Int) * 2 ^ 1 by simp, Wd.u64_shl, Wd.i64_toNat]
  rw [zigW, if_neg (by rw [← Wd.neg_iff]; omega)]

theorem zag_odd (x : BitVec 64) (h : (bits .and .i64 x.toInt 1 == 1) = true) : wrap64 (bits .xor .u64 IntKind.u64.max (IntKind.u64.wrap x.toInt / 2)) = (zagW x).toInt := by
  rw [Wd.u64_toInt, show ((x.toNat : Int) / 2) = (x.toNat : Int) / 2 ^ 1 by simp, Wd.u64_shr, Wd.u64_not, Wd.i64_toNat]
  rw [zagW, if_pos (by rw [← Wd.bit_is]; exact h)]
theorem zag_even (x : BitVec 64) (h : (bits .and .i64 x.toInt 1 == 1) = false) : wrap64 (IntKind.u64.wrap x.toInt / 2) = (zagW x).toInt := by
  rw [Wd.u64_toInt, show ((x.toNat : Int) / 2) = (x.toNat : Int) / 2 ^ 1 by simp, Wd.u64_shr, Wd.i64_toNat]
  rw [zagW, if_neg (by rw [← Wd.bit_is]; simp [h])]

end Go.Proofs.YtoccbfgcmaahcaaDoor
/-
  What the document's Zig and Zag (bit by bit) are, as words; Zag goes back. Pure mathematics over the definitions of BitsA and RefZig.
-/
namespace Go.Proofs.YtoccbfgcmaahcaaDoor
open Arr

theorem zig_eq (x : BitVec 64) : wordW (zigP x 64) = zigW x := by
  apply BitVec.eq_of_getLsbD_eq
  intro i hi
  rw [wordW_bit _ i hi]
  unfold zigP zigW bitsOf
  have hm : x.msb = x.getLsbD 63 := by rw [BitVec.msb_eq_getLsbD_last]
  rw [hm]
  by_cases h : i = 0
  · subst h
    cases h63 : x.getLsbD 63 <;> simp
  · have h1 : ¬ i < 1 := by omega
    rw [if_neg h]
    cases h63 : x.getLsbD 63
    · rw [if_neg (by simp), BitVec.getLsbD_shiftLeft]; simp [hi, h]
    · rw [if_pos rfl, BitVec.getLsbD_not, BitVec.getLsbD_shiftLeft]; simp [hi, h]
theorem zag_eq (x : BitVec 64) : wordW (zagF x) = zagW x := by
  apply BitVec.eq_of_getLsbD_eq
  intro i hi
  rw [wordW_bit _ i hi]
  unfold zagF zagP zagW bitsOf
  by_cases h : i = 63
  · subst h
    rw [if_pos rfl]
    cases h0 : x.getLsbD 0
    · rw [if_neg (by simp), BitVec.getLsbD_ushiftRight]; simp
    · rw [if_pos rfl, BitVec.getLsbD_not, BitVec.getLsbD_ushiftRight]; simp
  · have h1 : i < 63 := by omega
    rw [if_neg h]
    cases h0 : x.getLsbD 0
    · rw [if_neg (by simp), BitVec.getLsbD_ushiftRight]; simp [h1, Nat.add_comm]
    · rw [if_pos rfl, BitVec.getLsbD_not, BitVec.getLsbD_ushiftRight]; simp [h1, hi, Nat.add_comm]
theorem zag_zig (x : BitVec 64) : zagW (zigW x) = x := by
  apply BitVec.eq_of_getLsbD_eq
  intro i hi
  unfold zagW zigW
  have hm : x.msb = x.getLsbD 63 := by rw [BitVec.msb_eq_getLsbD_last]
  rw [hm]
  cases h63 : x.getLsbD 63
  · rw [if_neg (by simp)]
    rw [if_neg (by simp), BitVec.getLsbD_ushiftRight, BitVec.getLsbD_shiftLeft]
    by_cases h : i = 63
    · subst h; simpa using h63
    · have : 1 + i < 64 := by omega
      simp [this]
  · rw [if_pos rfl]
    rw [if_pos (by simp), BitVec.getLsbD_not, BitVec.getLsbD_ushiftRight, BitVec.getLsbD_not, BitVec.getLsbD_shiftLeft]
    by_cases h : i = 63
    · subst h; simp [h63]
    · have : 1 + i < 64 := by omega
      simp [this, hi]
theorem zig_zag (x : BitVec 64) : zigW (zagW x) = x := by
  apply BitVec.eq_of_getLsbD_eq
  intro i hi
  unfold zagW zigW
  cases h0 : x.getLsbD 0
  · rw [if_neg (by simp)]
    rw [if_neg (by simp), BitVec.getLsbD_shiftLeft, BitVec.getLsbD_ushiftRight]
    by_cases h : i = 0
    · subst h; simpa using h0
    · have h1 : ¬ i < 1 := by omega
      have h2 : 1 + (i - 1) = i := by omega
      simp [hi, h, h2]
  · rw [if_pos rfl]
    rw [if_pos (by simp [BitVec.msb_eq_getLsbD_last]), BitVec.getLsbD_not, BitVec.getLsbD_shiftLeft, BitVec.getLsbD_not, BitVec.getLsbD_ushiftRight]
    by_cases h : i = 0
    · subst h; simpa using h0
    · have h1 : ¬ i < 1 := by omega
      have h2 : 1 + (i - 1) = i := by omega
      have h3 : i - 1 < 64 := by omega
      simp [hi, h, h2, h3]
end Go.Proofs.YtoccbfgcmaahcaaDoor
/-
  The contracts of package bits' Width and Ones.
-/
namespace Go.Proofs.YtoccbfgcmaahcaaDoor
open Go.RowKit

/-- n is how many bits x needs. -/
def IsWidth (x : BitVec 64) (n : Nat) : Prop := n ≤ 64 ∧ x >>> n = 0#64 ∧ ∀ j, j < n → x >>> j ≠ 0#64
theorem IsWidth.unique {x : BitVec 64} {n m : Nat} (h : IsWidth x n) (k : IsWidth x m) : n = m := by
  rcases Nat.lt_trichotomy n m with a | a | a
  · exact absurd h.2.1 (k.2.2 n a)
  · exact a
  · exact absurd k.2.1 (h.2.2 m a)
theorem shr_beq (x : BitVec 64) (k : Nat) : ((x.toNat : Int) / 2 ^ k == 0) = (x >>> k == 0#64) := by
  have e : (0 : Int) = ((0#64).toNat : Int) := rfl
  rw [Wd.u64_shr, e, Bool.eq_iff_iff]
  rw [beq_iff_eq, beq_iff_eq, Wd.u64_inj]
end Go.Proofs.YtoccbfgcmaahcaaDoor
/-
  Numbers as groups of seven bits, the lowest first, the highest bit of a byte set in all but the last: pure mathematics over lists of bytes. No program is spoken of.
-/
namespace Go.Proofs.YtoccbfgcmaahcaaDoor.Leb

def lebF : Nat → Nat → List UInt8
  | 0, z => [UInt8.ofNat z]
  | f + 1, z => if z < 128 then [UInt8.ofNat z] else UInt8.ofNat (z % 128 + 128) :: lebF f (z / 128)
/-- A number's bytes. -/
def leb (z : Nat) : List UInt8 := lebF z z
theorem lebF_eq : ∀ (f g z : Nat), z ≤ f → z ≤ g → lebF f z = lebF g z := by
  intro f
  induction f with
  | zero =>
    intro g z h _
    cases g with
    | zero => rfl
    | succ g =>
      have hz : z < 128 := by omega
      simp [lebF, hz]
  | succ f ih =>
    intro g z h1 h2
    cases g with
    | zero =>
      have hz : z < 128 := by omega
      simp [lebF, hz]
    | succ g =>
      by_cases hz : z < 128
      · simp [lebF, hz]
      · simp only [lebF, if_neg hz]
        rw [ih g (z / 128) (by omega) (by omega)]

def val : List UInt8 → Nat
  | [] => 0
  | b :: r => b.toNat % 128 + 128 * val r

/-- Bytes that are a number's. -/
def good : List UInt8 → Prop
  | [] => False
  | b :: r => (b.toNat < 128 ∧ r = []) ∨ (128 ≤ b.toNat ∧ good r ∧ r ≠ [0])

theorem leb_small {z : Nat} (h : z < 128) : leb z = [UInt8.ofNat z] := by
  unfold leb
  cases z with
  | zero => rfl
  | succ f => simp only [lebF, if_pos h]
theorem leb_big {z : Nat} (h : 128 ≤ z) : leb z = UInt8.ofNat (z % 128 + 128) :: leb (z / 128) := by
  have e : ¬ z < 128 := by omega
  unfold leb
  cases z with
  | zero => omega
  | succ f =>
    simp only [lebF, if_neg e]
    rw [lebF_eq f ((f + 1) / 128) ((f + 1) / 128) (by omega) (Nat.le_refl _)]
theorem leb_pos (z : Nat) : 1 ≤ (leb z).length := by
  by_cases h : z < 128
  · rw [leb_small h]; simp
  · rw [leb_big (by omega)]; simp
theorem byte_small {n : Nat} (h : n < 256) : (UInt8.ofNat n).toNat = n := by
  rw [UInt8.toNat_ofNat']; omega
theorem leb_ne {z : Nat} (h : 1 ≤ z) : leb z ≠ [0] := by
  by_cases hz : z < 128
  · rw [leb_small hz]
    intro e
    have e2 : UInt8.ofNat z = 0 := by simpa using e
    have : (UInt8.ofNat z).toNat = 0 := by rw [e2]; rfl
    rw [byte_small (by omega)] at this
    omega
  · rw [leb_big (by omega)]
    intro e
    have := leb_pos (z / 128)
    have e2 : leb (z / 128) = [] := by simpa using (List.cons.inj e).2
    rw [e2] at this
    simp at this
theorem good_leb (z : Nat) : good (leb z) := by
  induction z using Nat.strongRecOn with
  | ind z ih =>
    by_cases h : z < 128
    · rw [leb_small h]; exact .inl ⟨by rw [byte_small (by omega)]; omega, rfl⟩
    · rw [leb_big (by omega)]
      exact .inr ⟨by rw [byte_small (by omega)]; omega, ih _ (by omega), leb_ne (by omega)⟩
theorem val_leb (z : Nat) : val (leb z) = z := by
  induction z using Nat.strongRecOn with
  | ind z ih =>
    by_cases h : z < 128
    · rw [leb_small h]; simp only [val]; rw [byte_small (by omega)]; omega
    · rw [leb_big (by omega)]; simp only [val]; rw [byte_small (by omega), ih _ (by omega)]; omega
theorem leb_inj {z y : Nat} (h : leb z = leb y) : z = y := by rw [← val_leb z, h, val_leb]
theorem val_zero : ∀ {l : List UInt8}, good l → val l = 0 → l = [0] := by
  intro l
  induction l with
  | nil => intro h; exact h.elim
  | cons b r ih =>
    intro h e
    simp only [val] at e
    rcases h with ⟨hb, rfl⟩ | ⟨hb, hr, hne⟩
    · have : b.toNat = 0 := by omega
      have : b = 0 := UInt8.toNat_inj.1 (by simpa using this)
      rw [this]
    · exact absurd (ih hr (by omega)) hne
theorem leb_val : ∀ {l : List UInt8}, good l → leb (val l) = l := by
  intro l
  induction l with
  | nil => intro h; exact h.elim
  | cons b r ih =>
    intro h
    have hb256 := b.toNat_lt
    rcases h with ⟨hb, rfl⟩ | ⟨hb, hr, hne⟩
    · simp only [val]
      have e : b.toNat % 128 + 128 * 0 = b.toNat := by omega
      rw [e, leb_small hb]
      simp
    · have hv : val r ≠ 0 := fun e => hne (val_zero hr e)
      simp only [val]
      rw [leb_big (by omega)]
      have e1 : (b.toNat % 128 + 128 * val r) % 128 + 128 = b.toNat := by omega
      have e2 : (b.toNat % 128 + 128 * val r) / 128 = val r := by omega
      rw [e1, e2, ih hr]
      simp
/-- Two numbers' bytes ahead of the same bytes are the same. -/
theorem good_prefix : ∀ {a b s : List UInt8}, good a → good b → a <+: s → b <+: s → a = b := by
  intro a
  induction a with
  | nil => intro b s h; exact h.elim
  | cons x r ih =>
    intro b s ha hb pa pb
    cases b with
    | nil => exact hb.elim
    | cons y q =>
      cases s with
      | nil => simp at pa
      | cons c t =>
        rw [List.cons_prefix_cons] at pa pb
        obtain ⟨rfl, pa⟩ := pa
        obtain ⟨rfl, pb⟩ := pb
        rcases ha with ⟨h1, rfl⟩ | ⟨h1, hr, _⟩
        · rcases hb with ⟨_, rfl⟩ | ⟨h2, _, _⟩
          · rfl
          · omega
        · rcases hb with ⟨h2, _⟩ | ⟨_, hq, _⟩
          · omega
          · rw [ih hr hq pa pb]
theorem leb_prefix {z y : Nat} {s : List UInt8} (h : leb z <+: s) (k : leb y <+: s) : z = y :=
  leb_inj (good_prefix (good_leb z) (good_leb y) h k)

theorem leb_len_le : ∀ (L : Nat) {z : Nat}, z < 128 ^ (L + 1) → (leb z).length ≤ L + 1 := by
  intro L
  induction L with
  | zero => intro z h; rw [leb_small (by simpa using h)]; simp
  | succ L ih =>
    intro z h
    by_cases hz : z < 128
    · rw [leb_small hz]; simp
    · rw [leb_big (by omega)]
      have : z / 128 < 128 ^ (L + 1) := by
        rw [Nat.div_lt_iff_lt_mul (by decide)]
        rw [Nat.pow_succ] at h; exact h
      have := ih this
      simp; omega
theorem leb_len_ge : ∀ (L : Nat) {z : Nat}, 128 ^ L ≤ z → L + 1 ≤ (leb z).length := by
  intro L
  induction L with
  | zero => intro z _; exact leb_pos z
  | succ L ih =>
    intro z h
    have h1 : 128 ^ L ≤ z / 128 := by
      rw [Nat.le_div_iff_mul_le (by decide)]
      rw [Nat.pow_succ] at h; exact h
    have h2 : 1 ≤ 128 ^ L := Nat.pow_pos (by decide)
    rw [leb_big (by omega)]
    have := ih h1
    simp; omega
theorem leb_len_mono {z y : Nat} (h : z ≤ y) : (leb z).length ≤ (leb y).length := by
  induction y using Nat.strongRecOn generalizing z with
  | ind y ih =>
    by_cases hz : z < 128
    · rw [leb_small hz]; exact leb_pos y
    · rw [leb_big (z := z) (by omega), leb_big (z := y) (by omega)]
      have := ih (y / 128) (by omega) (z := z / 128) (by omega)
      simpa using this

theorem val_append (a b : List UInt8) : val (a ++ b) = val a + 128 ^ a.length * val b := by
  induction a with
  | nil => simp [val]
  | cons x r ih =>
    simp only [List.cons_append, val, List.length_cons, ih, Nat.pow_succ]
    rw [Nat.mul_add, Nat.mul_comm (128 ^ r.length) 128, Nat.mul_assoc]
    omega
theorem val_lt (l : List UInt8) : val l < 128 ^ l.length := by
  induction l with
  | nil => simp [val]
  | cons b r ih => simp only [val, List.length_cons, Nat.pow_succ]; omega
theorem val_take_succ (s : List UInt8) (k : Nat) (h : k < s.length) : val (s.take (k + 1)) = val (s.take k) + 128 ^ k * ((s.getD k 0).toNat % 128) := by
  rw [List.take_succ_eq_append_getElem h, val_append, List.length_take, Nat.min_eq_left (by omega)]
  simp [val, h]

/-- The first byte without the highest bit ends the number. -/
theorem stop_eq : ∀ (k : Nat) {s l : List UInt8}, good l → l <+: s → (∀ i, i < k → 128 ≤ (s.getD i 0).toNat) → (s.getD k 0).toNat < 128 → k < s.length → l = s.take (k + 1) := by
  intro k
  induction k with
  | zero =>
    intro s l hl hp _ hs hk
    cases s with
    | nil => simp at hk
    | cons c t =>
      cases l with
      | nil => exact hl.elim
      | cons b r =>
        rw [List.cons_prefix_cons] at hp
        obtain ⟨rfl, hp⟩ := hp
        rcases hl with ⟨_, rfl⟩ | ⟨h1, _, _⟩
        · simp
        · simp at hs; omega
  | succ k ih =>
    intro s l hl hp hall hs hk
    cases s with
    | nil => simp at hk
    | cons c t =>
      cases l with
      | nil => exact hl.elim
      | cons b r =>
        rw [List.cons_prefix_cons] at hp
        obtain ⟨rfl, hp⟩ := hp
        have h0 := hall 0 (by omega)
        simp only [List.getD_cons_zero] at h0
        rcases hl with ⟨h1, _⟩ | ⟨_, hr, _⟩
        · omega
        · rw [List.take_succ_cons, ← ih hr hp (fun i hi => by simpa using hall (i + 1) (by omega)) (by simpa using hs) (by simpa using hk)]
theorem stop_none : ∀ (k : Nat) {s l : List UInt8}, good l → l <+: s → (∀ i, i < k → 128 ≤ (s.getD i 0).toNat) → k < l.length := by
  intro k
  induction k with
  | zero => intro s l hl _ _; cases l with | nil => exact hl.elim | cons b r => simp
  | succ k ih =>
    intro s l hl hp hall
    cases s with
    | nil =>
      have : l = [] := by simpa using hp
      subst this; exact hl.elim
    | cons c t =>
      cases l with
      | nil => exact hl.elim
      | cons b r =>
        rw [List.cons_prefix_cons] at hp
        obtain ⟨rfl, hp⟩ := hp
        have h0 := hall 0 (by omega)
        simp only [List.getD_cons_zero] at h0
        rcases hl with ⟨h1, _⟩ | ⟨_, hr, _⟩
        · omega
        · have := ih hr hp (fun i hi => by simpa using hall (i + 1) (by omega))
          simpa using this
theorem stop_good : ∀ (k : Nat) {s : List UInt8}, (∀ i, i < k → 128 ≤ (s.getD i 0).toNat) → (s.getD k 0).toNat < 128 → k < s.length → (k = 0 ∨ (s.getD k 0).toNat ≠ 0) → good (s.take (k + 1)) := by
  intro k
  induction k with
  | zero =>
    intro s _ hs hk _
    cases s with
    | nil => simp at hk
    | cons c t => exact .inl ⟨by simpa using hs, by simp⟩
  | succ k ih =>
    intro s hall hs hk hz
    cases s with
    | nil => simp at hk
    | cons c t =>
      have h0 := hall 0 (by omega)
      simp only [List.getD_cons_zero] at h0
      have hz' : (t.getD k 0).toNat ≠ 0 := by
        rcases hz with h | h
        · omega
        · simpa using h
      rw [List.take_succ_cons]
      refine .inr ⟨h0, ih (fun i hi => by simpa using hall (i + 1) (by omega)) (by simpa using hs) (by simpa using hk) (.inr hz'), fun e => ?_⟩
      have hkt : k < t.length := by simpa using hk
      cases k with
      | zero =>
        cases t with
        | nil => simp at hkt
        | cons d u =>
          simp at e
          subst e
          exact hz' rfl
      | succ k =>
        have := congrArg List.length e
        simp at this
        omega
/-- A needless last group. -/
theorem needless {k : Nat} {s : List UInt8} (h : good (s.take (k + 1))) (hall : ∀ i, i < k → 128 ≤ (s.getD i 0).toNat) (hk : k < s.length) (h0 : 0 < k) : (s.getD k 0).toNat ≠ 0 := by
  induction k generalizing s with
  | zero => omega
  | succ k ih =>
    cases s with
    | nil => simp at hk
    | cons c t =>
      have h1 := hall 0 (by omega)
      simp only [List.getD_cons_zero] at h1
      have hkt : k < t.length := by simpa using hk
      rw [List.take_succ_cons] at h
      rcases h with ⟨h2, _⟩ | ⟨_, hr, hne⟩
      · omega
      · cases k with
        | zero =>
          cases t with
          | nil => simp at hkt
          | cons d u =>
            intro e
            apply hne
            have : d = 0 := UInt8.toNat_inj.1 (by simpa using e)
            simp [this]
        | succ k =>
          have := ih hr (fun i hi => by simpa using hall (i + 1) (by omega)) hkt (by omega)
          simpa using this
end Go.Proofs.YtoccbfgcmaahcaaDoor.Leb
/-
  The contract of package vint's Len: as many as the number's bytes.
-/
namespace Go.Proofs.YtoccbfgcmaahcaaDoor
open Go.RowKit Leb

theorem pow128 (L : Nat) : 128 ^ L = 2 ^ (7 * L) := by rw [Nat.pow_mul]
theorem shr_zero_iff (x : BitVec 64) (n : Nat) : x >>> n = 0#64 ↔ x.toNat < 2 ^ n := by
  rw [← BitVec.toNat_inj, BitVec.toNat_ushiftRight, Nat.shiftRight_eq_div_pow]
  have h := Nat.div_eq_zero_iff (a := x.toNat) (b := 2 ^ n)
  have hp : 2 ^ n ≠ 0 := by have := Nat.two_pow_pos n; omega
  simp only [BitVec.toNat_ofNat, Nat.zero_mod]
  rw [h]
  simp
theorem len_of_width {x : BitVec 64} {n : Nat} (h : IsWidth x n) (L : Nat) (hL : L = 1 ∧ (n + 6) / 7 ≤ 1 ∨ 1 ≤ L ∧ L = (n + 6) / 7) : (leb x.toNat).length = L := by
  have h1 : x.toNat < 2 ^ n := (shr_zero_iff x n).1 h.2.1
  obtain ⟨K, rfl⟩ : ∃ K, L = K + 1 := ⟨L - 1, by omega⟩
  have up : (leb x.toNat).length ≤ K + 1 := by
    apply leb_len_le
    rw [pow128]
    exact Nat.lt_of_lt_of_le h1 (Nat.pow_le_pow_right (by decide) (by omega))
  have dn : K + 1 ≤ (leb x.toNat).length := by
    by_cases hK : K = 0
    · subst hK; exact leb_pos _
    · apply leb_len_ge
      rw [pow128]
      have h2 := h.2.2 (n - 1) (by omega)
      rw [Ne, shr_zero_iff] at h2
      exact Nat.le_trans (Nat.pow_le_pow_right (by decide) (by omega)) (Nat.le_of_not_lt h2)
  omega
theorem leb_len_ten (x : BitVec 64) : (leb x.toNat).length ≤ 10 := by
  apply leb_len_le 9
  have := x.isLt
  omega
def lenW (z : BitVec 64) : Nat := (leb z.toNat).length
theorem lenW_bd (z : BitVec 64) : 1 ≤ lenW z ∧ lenW z ≤ 10 := ⟨leb_pos _, leb_len_ten z⟩
theorem isWidth_some (x : BitVec 64) : ∃ n, IsWidth x n := by
  have key : ∀ m, x >>> m = 0#64 → m ≤ 64 → ∃ n, IsWidth x n := by
    intro m
    induction m with
    | zero => intro h _; exact ⟨0, by omega, h, fun j hj => by omega⟩
    | succ m ih =>
      intro h hm
      by_cases hx : x >>> m = 0#64
      · exact ih hx (by omega)
      · refine ⟨m + 1, hm, h, fun j hj e => hx ?_⟩
        rw [shr_zero_iff] at e ⊢
        exact Nat.lt_of_lt_of_le e (Nat.pow_le_pow_right (by decide) (by omega))
  exact key 64 (BitVec.ushiftRight_eq_zero (by omega)) (by omega)

end Go.Proofs.YtoccbfgcmaahcaaDoor
/-
  What bytes begin with, as a plain function: the number's word, how many bytes it has, and whether there is one (0, or 20). Pure mathematics.
-/
namespace Go.Proofs.YtoccbfgcmaahcaaDoor
open Leb

/-- The bytes up to and with k are a number's. -/
def isAt (s : List UInt8) (k : Nat) : Bool := decide (k < s.length) && (leb (val (s.take (k + 1))) == s.take (k + 1)) && decide (val (s.take (k + 1)) < 18446744073709551616)
def tk (s : List UInt8) : BitVec 64 × Nat × Nat :=
  match (List.range 10).find? (isAt s) with
  | some k => (BitVec.ofNat 64 (val (s.take (k + 1))), k + 1, 0)
  | none => (0#64, 0, 20)
theorem isAt_iff (s : List UInt8) (k : Nat) : isAt s k = true ↔ k < s.length ∧ leb (val (s.take (k + 1))) = s.take (k + 1) ∧ val (s.take (k + 1)) < 18446744073709551616 := by
  simp [isAt, and_assoc]
theorem isAt_pre {s : List UInt8} {k : Nat} (h : isAt s k = true) : leb (BitVec.ofNat 64 (val (s.take (k + 1)))).toNat = s.take (k + 1) := by
  obtain ⟨_, h2, h3⟩ := (isAt_iff s k).1 h
  rw [BitVec.toNat_ofNat, Nat.mod_eq_of_lt (by omega), h2]
theorem tk_ok {z : BitVec 64} {s : List UInt8} (h : leb z.toNat <+: s) : tk s = (z, lenW z, 0) := by
  have hb := lenW_bd z
  have hlen : lenW z ≤ s.length := h.length_le
  have ht : s.take (lenW z - 1 + 1) = leb z.toNat := by
    rw [show lenW z - 1 + 1 = lenW z by omega]
    exact (List.prefix_iff_eq_take.1 h).symm
  have hat : isAt s (lenW z - 1) = true := by
    rw [isAt_iff, ht, val_leb]
    have := z.isLt
    exact ⟨by omega, rfl, by omega⟩
  unfold tk
  cases hf : (List.range 10).find? (isAt s) with
  | none =>
    have := List.find?_eq_none.1 hf (lenW z - 1) (by simp; omega)
    exact absurd hat this
  | some k =>
    have h1 := List.find?_some hf
    have h2 := isAt_pre h1
    have h3 : (BitVec.ofNat 64 (val (s.take (k + 1)))) = z := BitVec.eq_of_toNat_eq (leb_prefix (by rw [h2]; exact List.take_prefix _ _) h)
    have h4 := congrArg List.length h2
    have h5 := ((isAt_iff s k).1 h1).1
    rw [h3, List.length_take, Nat.min_eq_left (by omega)] at h4
    simp only
    rw [h3, ← h4, lenW]
theorem tk_no {s : List UInt8} (h : ∀ z : BitVec 64, ¬ leb z.toNat <+: s) : tk s = (0#64, 0, 20) := by
  unfold tk
  cases hf : (List.range 10).find? (isAt s) with
  | none => rfl
  | some k =>
    have h1 := List.find?_some hf
    exact absurd (by rw [isAt_pre h1]; exact List.take_prefix _ _) (h (BitVec.ofNat 64 (val (s.take (k + 1)))))
theorem tk_cases (s : List UInt8) : (∃ z : BitVec 64, leb z.toNat <+: s ∧ tk s = (z, lenW z, 0)) ∨ ((∀ z : BitVec 64, ¬ leb z.toNat <+: s) ∧ tk s = (0#64, 0, 20)) := by
  by_cases h : ∃ z : BitVec 64, leb z.toNat <+: s
  · obtain ⟨z, hz⟩ := h; exact .inl ⟨z, hz, tk_ok hz⟩
  · exact .inr ⟨fun z hz => h ⟨z, hz⟩, tk_no fun z hz => h ⟨z, hz⟩⟩
theorem tk_used_le (s : List UInt8) : (tk s).2.1 ≤ s.length ∧ (tk s).2.1 ≤ 10 := by
  rcases tk_cases s with ⟨z, hz, e⟩ | ⟨_, e⟩
  · rw [e]; exact ⟨hz.length_le, (lenW_bd z).2⟩
  · rw [e]; exact ⟨Nat.zero_le _, Nat.zero_le _⟩
theorem zag_zero : zagW 0#64 = 0#64 := by decide

/-- The word of the first k groups. -/
def gotW (s : List UInt8) (k : Nat) : BitVec 64 := BitVec.ofNat 64 (val (s.take k))
theorem got_nat (s : List UInt8) (k : Nat) : (gotW s k).toNat = val (s.take k) % 2 ^ 64 := by rw [gotW, BitVec.toNat_ofNat]
theorem val_take_lt (s : List UInt8) (k : Nat) : val (s.take k) < 2 ^ (7 * k) := by
  rw [← pow128]
  exact Nat.lt_of_lt_of_le (val_lt _) (Nat.pow_le_pow_right (by decide) (by rw [List.length_take]; omega))
theorem got_lt (s : List UInt8) (k : Nat) (hk : k ≤ 9) : (gotW s k).toNat = val (s.take k) ∧ (gotW s k).toNat < 2 ^ (7 * k) := by
  have h1 := val_take_lt s k
  have h2 : 2 ^ (7 * k) ≤ 2 ^ 63 := Nat.pow_le_pow_right (by decide) (by omega)
  have e : (gotW s k).toNat = val (s.take k) := by rw [got_nat, Nat.mod_eq_of_lt (by omega)]
  exact ⟨e, by rw [e]; exact h1⟩
/-- Setting bits above those of x is adding. -/
theorem or_shl (x : BitVec 64) (g m : Nat) (hx : x.toNat < 2 ^ m) : x ||| (BitVec.ofNat 64 g <<< m) = BitVec.ofNat 64 (x.toNat + 2 ^ m * g) := by
  have hx' : ∀ i, m ≤ i → x.getLsbD i = false := fun i hi => by
    rw [BitVec.getLsbD, Nat.testBit_lt_two_pow (Nat.lt_of_lt_of_le hx (Nat.pow_le_pow_right (by decide) hi))]
  apply BitVec.eq_of_getLsbD_eq
  intro i hi
  rw [BitVec.getLsbD_or, BitVec.getLsbD_shiftLeft, BitVec.getLsbD_ofNat, BitVec.getLsbD_ofNat, Nat.add_comm x.toNat, Nat.testBit_two_pow_mul_add _ hx]
  by_cases h : i < m
  · simp [h, hi, BitVec.getLsbD]
  · have h1 : i - m < 64 := by omega
    rw [hx' i (by omega)]
    simp [h, hi, h1]
theorem got_succ (s : List UInt8) (k : Nat) (hk : k ≤ 9) (hs : k < s.length) : gotW s k ||| (BitVec.ofNat 64 ((s.getD k 0).toNat % 128) <<< (7 * k)) = gotW s (k + 1) := by
  have h := got_lt s k hk
  rw [or_shl _ _ _ h.2, h.1, gotW, val_take_succ s k hs, pow128]
theorem with_shl (x y : BitVec 64) (a : Nat) (hx : x.toNat < 2 ^ a) (hy : y.toNat < 128) : wordW (withF x a 7 y) = x ||| (y <<< a) := by
  have hx' : ∀ i, a ≤ i → x.getLsbD i = false := fun i hi => by
    rw [BitVec.getLsbD, Nat.testBit_lt_two_pow (Nat.lt_of_lt_of_le hx (Nat.pow_le_pow_right (by decide) hi))]
  have hy' : ∀ i, 7 ≤ i → y.getLsbD i = false := fun i hi => by
    rw [BitVec.getLsbD, Nat.testBit_lt_two_pow (Nat.lt_of_lt_of_le hy (Nat.pow_le_pow_right (n := 2) (i := 7) (by decide) hi))]
  apply BitVec.eq_of_getLsbD_eq
  intro i hi
  rw [wordW_bit _ i hi, BitVec.getLsbD_or, BitVec.getLsbD_shiftLeft]
  unfold withF bitsOf
  by_cases h : a ≤ i
  · by_cases h2 : i - a < 7
    · rw [if_pos ⟨h, by omega⟩, hx' i h]
      have : ¬ i < a := by omega
      simp [this, hi]
    · rw [if_neg (by omega), hy' _ (by omega)]; simp
  · rw [if_neg (by omega)]
    have : i < a := by omega
    simp [this]
/-- What was met: the last group at k. -/
theorem tk_stop {s : List UInt8} {k : Nat} (hall : ∀ i, i < k → 128 ≤ (s.getD i 0).toNat) (hs : (s.getD k 0).toNat < 128) (hk : k < s.length) (hz : k = 0 ∨ (s.getD k 0).toNat ≠ 0) (hw : val (s.take (k + 1)) < 2 ^ 64) :
    tk s = (gotW s (k + 1), k + 1, 0) := by
  have hg := stop_good k hall hs hk hz
  have e : (gotW s (k + 1)).toNat = val (s.take (k + 1)) := by rw [got_nat, Nat.mod_eq_of_lt hw]
  have hl : leb (gotW s (k + 1)).toNat = s.take (k + 1) := by rw [e, leb_val hg]
  have := tk_ok (z := gotW s (k + 1)) (s := s) (by rw [hl]; exact List.take_prefix _ _)
  rw [this, lenW, hl, List.length_take, Nat.min_eq_left (by omega)]
theorem tk_stop_no {s : List UInt8} {k : Nat} (hall : ∀ i, i < k → 128 ≤ (s.getD i 0).toNat) (hs : (s.getD k 0).toNat < 128) (hk : k < s.length) (hz : (0 < k ∧ (s.getD k 0).toNat = 0) ∨ 2 ^ 64 ≤ val (s.take (k + 1))) :
    tk s = (0#64, 0, 20) := by
  apply tk_no
  intro z hp
  have e := stop_eq k (good_leb z.toNat) hp hall hs hk
  rcases hz with ⟨h0, h1⟩ | h1
  · exact needless (e ▸ good_leb z.toNat) hall hk h0 h1
  · rw [← e, val_leb] at h1
    have := z.isLt
    omega
theorem tk_long {s : List UInt8} {k : Nat} (hall : ∀ i, i < k → 128 ≤ (s.getD i 0).toNat) (hk : s.length ≤ k ∨ 10 ≤ k) : tk s = (0#64, 0, 20) := by
  apply tk_no
  intro z hp
  have h1 := stop_none k (good_leb z.toNat) hp hall
  have h2 := hp.length_le
  have h3 := leb_len_ten z
  omega
/-- The word that the groups make has these bytes, or they are no number's. -/
theorem tk_again {s : List UInt8} {k : Nat} (hall : ∀ i, i < k → 128 ≤ (s.getD i 0).toNat) (hs : (s.getD k 0).toNat < 128) (hk : k < s.length) :
    (leb (gotW s (k + 1)).toNat = s.take (k + 1) ∧ tk s = (gotW s (k + 1), k + 1, 0)) ∨ (leb (gotW s (k + 1)).toNat ≠ s.take (k + 1) ∧ tk s = (0#64, 0, 20)) := by
  by_cases h : leb (gotW s (k + 1)).toNat = s.take (k + 1)
  · refine .inl ⟨h, ?_⟩
    have := tk_ok (z := gotW s (k + 1)) (s := s) (by rw [h]; exact List.take_prefix _ _)
    rw [this, lenW, h, List.length_take, Nat.min_eq_left (by omega)]
  · refine .inr ⟨h, tk_no fun z hp => h ?_⟩
    have e := stop_eq k (good_leb z.toNat) hp hall hs hk
    have ez : (gotW s (k + 1)).toNat = z.toNat := by
      rw [got_nat, ← e, val_leb, Nat.mod_eq_of_lt z.isLt]
    rw [ez, e]
end Go.Proofs.YtoccbfgcmaahcaaDoor
/-
  The contract of package vint's Take.
-/
namespace Go.Proofs.YtoccbfgcmaahcaaDoor
open Go.RowKit Leb

theorem u8_andNot_all : ∀ n : Fin 256, bits .andNot .u8 ((n.val : Nat) : Int) 128 = ((n.val % 128 : Nat) : Int) := by decide +kernel
theorem u8_and_all : ∀ n : Fin 256, (bits .and .u8 ((n.val : Nat) : Int) 128 != 0) = decide (128 ≤ n.val) := by decide +kernel
theorem u8_and127_all : ∀ n : Fin 256, bits .and .u8 ((n.val : Nat) : Int) 127 = ((n.val % 128 : Nat) : Int) := by decide +kernel
theorem u8_or_all : ∀ n : Fin 256, bits .or .u8 ((n.val : Nat) : Int) 128 = ((n.val % 128 + 128 : Nat) : Int) := by decide +kernel
theorem u8_andNot (c : UInt8) : bits .andNot .u8 (c.toNat : Int) 128 = ((c.toNat % 128 : Nat) : Int) := u8_andNot_all ⟨c.toNat, c.toNat_lt⟩
theorem u8_and (c : UInt8) : (bits .and .u8 (c.toNat : Int) 128 != 0) = decide (128 ≤ c.toNat) := u8_and_all ⟨c.toNat, c.toNat_lt⟩
theorem u8_and127 (c : UInt8) : bits .and .u8 (c.toNat : Int) 127 = ((c.toNat % 128 : Nat) : Int) := u8_and127_all ⟨c.toNat, c.toNat_lt⟩
theorem getD_data (s : ByteArray) (k : Nat) (h : k < s.size) : s.data.toList.getD k 0 = s[k] := by
  have h2 : k < s.data.size := h
  have e : s[k] = s.data[k] := rfl
  rw [e, List.getD_eq_getElem?_getD, Array.getElem?_toList, Array.getElem?_eq_getElem h2]
  rfl
/-- A group that is shifted too far does not come back. -/
theorem shl_back (g m : Nat) (hg : g < 2 ^ 64) : ((BitVec.ofNat 64 g <<< m).toNat : Int) / 2 ^ m = g ↔ 2 ^ m * g < 2 ^ 64 := by
  have hp := Nat.two_pow_pos m
  have e : ((BitVec.ofNat 64 g <<< m).toNat) = (g * 2 ^ m) % 2 ^ 64 := by
    rw [BitVec.toNat_shiftLeft, BitVec.toNat_ofNat, Nat.mod_eq_of_lt hg, Nat.shiftLeft_eq]
  have e2 : (((BitVec.ofNat 64 g <<< m).toNat : Int) / 2 ^ m = g) ↔ ((g * 2 ^ m) % 2 ^ 64) / 2 ^ m = g := by
    rw [e]
    have : (((g * 2 ^ m) % 2 ^ 64 : Nat) : Int) / 2 ^ m = (((g * 2 ^ m) % 2 ^ 64 / 2 ^ m : Nat) : Int) := by simp
    rw [this]; omega
  rw [e2]
  constructor
  · intro h
    have h1 : 2 ^ m * ((g * 2 ^ m) % 2 ^ 64 / 2 ^ m) ≤ (g * 2 ^ m) % 2 ^ 64 := Nat.mul_div_le _ _
    rw [h] at h1
    omega
  · intro h
    rw [Nat.mod_eq_of_lt (by rw [Nat.mul_comm]; exact h), Nat.mul_div_cancel _ hp]
theorem u64_shl_g (g m : Nat) (hg : g < 2 ^ 64) : IntKind.u64.wrap ((g : Int) * 2 ^ m) = ((BitVec.ofNat 64 g <<< m).toNat : Int) := by
  have e : (g : Int) = ((BitVec.ofNat 64 g).toNat : Int) := by rw [BitVec.toNat_ofNat, Nat.mod_eq_of_lt (by omega)]
  rw [← Wd.u64_shl, ← e]
theorem got_succ7 (s : List UInt8) (k : Nat) (hk : k ≤ 9) (hs : k < s.length) : gotW s k ||| (BitVec.ofNat 64 ((s.getD k 0).toNat % 128) <<< (k * 7)) = gotW s (k + 1) := by
  rw [Nat.mul_comm k 7]; exact got_succ s k hk hs

/-- What a round of Take knows of its byte. -/
structure At (s : ByteArray) (k : Nat) (h : k < s.size) (g : Nat) (sh : BitVec 64) : Prop where
  group : bits .andNot .u8 (s[k].toNat : Int) 128 = (g : Int)
  lt : (g : Int) < 128
  shifted : IntKind.u64.wrap ((g : Int) * 2 ^ (k * 7)) = (sh.toNat : Int)
  word : bits .or .u64 ((gotW s.data.toList k).toNat : Int) (sh.toNat : Int) = ((gotW s.data.toList (k + 1)).toNat : Int)
  byte : (s.data.toList.getD k 0).toNat = s[k].toNat
  isg : g = s[k].toNat % 128
  back : ((sh.toNat : Int) / 2 ^ (k * 7) = g ↔ 2 ^ (7 * k) * g < 2 ^ 64)
theorem at_some (s : ByteArray) (k : Nat) (h : k < s.size) (hk : k ≤ 9) : ∃ g sh, At s k h g sh := by
  refine ⟨s[k].toNat % 128, BitVec.ofNat 64 (s[k].toNat % 128) <<< (k * 7), u8_andNot _, by omega, u64_shl_g _ _ (by omega), ?_, ?_, rfl, ?_⟩
  · rw [Wd.u64_or, ← got_succ7 s.data.toList k hk (by simpa using h), getD_data s k h]
  · rw [getD_data s k h]
  · rw [shl_back _ _ (by omega), Nat.mul_comm k 7]
theorem At.small {s : ByteArray} {k : Nat} {h : k < s.size} {g : Nat} {sh : BitVec 64} (a : At s k h g sh) (hc : s[k].toNat < 128) : (s.data.toList.getD k 0).toNat = g := by
  rw [a.byte, a.isg]; omega
theorem At.wide {s : ByteArray} {k : Nat} {h : k < s.size} {g : Nat} {sh : BitVec 64} (a : At s k h g sh) (hk : k ≤ 9) (hc : s[k].toNat < 128) : (val (s.data.toList.take (k + 1)) < 2 ^ 64) ↔ 2 ^ (7 * k) * g < 2 ^ 64 := by
  have e := val_take_succ s.data.toList k (by simpa using h)
  rw [a.small hc, pow128] at e
  have hg := a.lt
  have e2 : g % 128 = g := by omega
  rw [e2] at e
  have hl := val_take_lt s.data.toList k
  have hp : 2 ^ (7 * k) * 2 ^ (64 - 7 * k) = 2 ^ 64 := by rw [← Nat.pow_add]; congr 1; omega
  rw [e]
  constructor
  · intro h1; omega
  · intro h1
    have : g < 2 ^ (64 - 7 * k) := by
      rw [← hp] at h1
      exact Nat.lt_of_mul_lt_mul_left h1
    have h2 : 2 ^ (7 * k) * (g + 1) ≤ 2 ^ 64 := by
      rw [← hp]; exact Nat.mul_le_mul_left _ this
    rw [Nat.mul_add, Nat.mul_one] at h2
    omega
theorem At.stop {s : ByteArray} {k : Nat} {h : k < s.size} {g : Nat} {sh : BitVec 64} (a : At s k h g sh) (hk : k ≤ 9) (hc : s[k].toNat < 128) (hall : ∀ i, i < k → 128 ≤ (s.data.toList.getD i 0).toNat)
    (hz : k = 0 ∨ g ≠ 0) (hw : (sh.toNat : Int) / 2 ^ (k * 7) = g) : tk s.data.toList = (gotW s.data.toList (k + 1), k + 1, 0) := by
  refine tk_stop hall ?_ (by simpa using h) ?_ ((a.wide hk hc).2 (a.back.1 hw))
  · rw [a.byte]; exact hc
  · rw [a.small hc]; exact hz
theorem At.no {s : ByteArray} {k : Nat} {h : k < s.size} {g : Nat} {sh : BitVec 64} (a : At s k h g sh) (hk : k ≤ 9) (hc : s[k].toNat < 128) (hall : ∀ i, i < k → 128 ≤ (s.data.toList.getD i 0).toNat)
    (hz : (0 < k ∧ g = 0) ∨ ¬ (sh.toNat : Int) / 2 ^ (k * 7) = g) : tk s.data.toList = (0#64, 0, 20) := by
  refine tk_stop_no hall ?_ (by simpa using h) ?_
  · rw [a.byte]; exact hc
  · rw [a.small hc]
    rcases hz with hz | hz
    · exact .inl hz
    · refine .inr (Nat.le_of_not_lt fun e => hz (a.back.2 ((a.wide hk hc).1 e)))
theorem At.next {s : ByteArray} {k : Nat} {h : k < s.size} {g : Nat} {sh : BitVec 64} (a : At s k h g sh) (hc : 128 ≤ s[k].toNat) (hall : ∀ i, i < k → 128 ≤ (s.data.toList.getD i 0).toNat) : ∀ i, i < k + 1 → 128 ≤ (s.data.toList.getD i 0).toNat := by
  intro i hi
  by_cases e : i = k
  · rw [e, a.byte]; exact hc
  · exact hall i (by omega)
theorem take_no {s : List UInt8} (h : tk s = (0#64, 0, 20)) :
    Ending.returned (.tuple #[.int .i64 0, .int .i64 0, .int .i64 20]) = .returned (.tuple #[.int .i64 (zagW (tk s).1).toInt, .int .i64 (tk s).2.1, .int .i64 (tk s).2.2]) := by
  rw [h, zag_zero]; rfl
theorem take_yes {s : List UInt8} {z : BitVec 64} {k : Nat} (h : tk s = (z, k + 1, 0)) :
    Ending.returned (.tuple #[.int .i64 (zagW z).toInt, .int .i64 ((k : Int) + 1), .int .i64 0]) = .returned (.tuple #[.int .i64 (zagW (tk s).1).toInt, .int .i64 (tk s).2.1, .int .i64 (tk s).2.2]) := by
  rw [h]; rfl

end Go.Proofs.YtoccbfgcmaahcaaDoor
/-
  Slices of bytes and of ints that a call makes by append: what they own, as lists of bytes and of words; the laws for append of one element and for the string of bytes.
-/
namespace Go.Proofs.YtoccbfgcmaahcaaDoor
open Go.RowKit

def bv (l : List UInt8) : List Value := l.map fun b => .int .u8 (b.toNat : Int)
def iv (l : List (BitVec 64)) : List Value := l.map fun x => .int .i64 x.toInt
def OwnsB (w : World) (B : Nat) (v : Value) (l : List UInt8) : Prop := w.ownsRow B 5 1 v l.length (bv l)
def OwnsI (w : World) (B : Nat) (v : Value) (l : List (BitVec 64)) : Prop := w.ownsRow B 3 1 v l.length (iv l)

theorem ownsRow_below {w w' : World} {B : Nat} {e : TypeId} {size : Nat} {v : Value} {n : Nat} {xs : List Value} (h : w.ownsRow B e size v n xs) (hb : Below w.heap.size w w') : w'.ownsRow B e size v n xs := by
  refine ⟨h.1, ?_⟩
  rcases h.2 with hn | ⟨g, cap, cur, rfl, hbg, hg, rest⟩
  · exact .inl hn
  · refine .inr ⟨g, cap, cur, rfl, hbg, ?_, rest⟩
    rw [hb.block g (Array.getElem?_eq_some_iff.1 hg).1]
    exact hg
theorem ownsRow_base {w : World} {B B' : Nat} {e : TypeId} {size : Nat} {v : Value} {n : Nat} {xs : List Value} (h : w.ownsRow B e size v n xs) (hb : B' ≤ B) : w.ownsRow B' e size v n xs := by
  refine ⟨h.1, ?_⟩
  rcases h.2 with hn | ⟨g, cap, cur, rfl, hbg, rest⟩
  · exact .inl hn
  · exact .inr ⟨g, cap, cur, rfl, Nat.le_trans hb hbg, rest⟩
theorem OwnsB.below {w w' : World} {B : Nat} {v : Value} {l : List UInt8} (h : OwnsB w B v l) (hb : Below w.heap.size w w') : OwnsB w' B v l := ownsRow_below h hb
theorem OwnsI.below {w w' : World} {B : Nat} {v : Value} {l : List (BitVec 64)} (h : OwnsI w B v l) (hb : Below w.heap.size w w') : OwnsI w' B v l := ownsRow_below h hb
theorem OwnsB.base {w : World} {B B' : Nat} {v : Value} {l : List UInt8} (h : OwnsB w B v l) (hb : B' ≤ B) : OwnsB w B' v l := ownsRow_base h hb
theorem OwnsI.base {w : World} {B B' : Nat} {v : Value} {l : List (BitVec 64)} (h : OwnsI w B v l) (hb : B' ≤ B) : OwnsI w B' v l := ownsRow_base h hb
theorem ownsB_nil (w : World) (B : Nat) : OwnsB w B (.slice none 0 0) [] := World.ownsRow_nil w B _ _
theorem ownsI_nil (w : World) (B : Nat) : OwnsI w B (.slice none 0 0) [] := World.ownsRow_nil w B _ _

theorem info_u8 : (Tryd.prog.info? 5).map (fun i => (i.zero, i.size, i.bytes)) = some (some (.int .u8 0), 1, 1) := by kernel_rfl
theorem info_i64 : (Tryd.prog.info? 3).map (fun i => (i.zero, i.size, i.bytes)) = some (some (.int .i64 0), 1, 8) := by kernel_rfl

/-- 's = append(s, c)', s the call's own, of bytes. -/
theorem append_u8 {ops : Array Oper} {rest : List Oper} {o : Oper} {a : Act} {Q : Exit → Act → World → Prop} (hgd : o.guard = none) (s x : Operand)
    (ho : o.op = .call { callee := .builtin .append, args := #[s, x], argTypes := #[51, 51] })
    {w : World} {B : Nat} {v : Value} {l : List UInt8} {n : Int} {c : UInt8} (hs : a.eval s = v) (hx : a.eval x = .slice (some ⟨w.heap.size, 0, none⟩) 1 1)
    (hn : n = (c.toNat : Int)) (hown : OwnsB w B v l) (hB : B ≤ w.heap.size) (hl : l.length + 1 ≤ 1000000)
    (h : ∀ v' w', OwnsB w' B v' (l ++ [c]) → Below B w w' → wpList Tryd.prog ops Q rest (a.put o.dst v') w') :
    wpList Tryd.prog ops Q (o :: rest) a (w.alloc (.cells #[.int .u8 n] 5)) := by
  obtain ⟨i0, hi, hz0, hz1, hz2⟩ := info_parts info_u8
  refine wpList_append_own _ hgd s x 51 ho B 5 i0 (.int .u8 0) 1 1 Tryd.underlying51 hi hz0 hz1 hz2 rfl (by decide) v l.length (bv l) hs (World.ownsRow.alloc hown _) ⟨w.heap.size, 0, none⟩ 1 1 [.int .u8 n] hx rfl (cell_one_new _ _ _) ?_ ?_ ?_ ?_ ?_
  · intro u hu; simp at hu; subst hu; rfl
  · simp only [maxLen]; omega
  · omega
  · simp; omega
  · intro v' w' hown' hgrow _
    refine h v' w' ?_ ?_
    · subst hn
      simpa [OwnsB, bv] using hown'
    · refine ((Below.refl B w).alloc hB _).grown hgrow (by simp; omega) fun k hk => (hown.lt k hk).1
theorem foldl_push : ∀ (l : List UInt8) (s : ByteArray), (l.map fun b => (b.toNat : Int)).foldl (fun r n => r.push (UInt8.ofNat n.toNat)) s = ⟨s.data ++ l.toArray⟩ := by
  intro l
  induction l with
  | nil => intro s; simp
  | cons b r ih =>
    intro s
    simp only [List.map_cons, List.foldl_cons]
    rw [ih]
    apply ByteArray.ext
    simp [ByteArray.push]
/-- 'string(s)', s the call's own, of bytes. -/
theorem convert_own {w : World} {B : Nat} {v : Value} {l : List UInt8} (hown : OwnsB w B v l) (hl : 1 ≤ l.length) :
    (convert 51 9 v).run Tryd.prog w = .ok (.string ⟨l.toArray⟩) w := by
  have hc := @World.ownsRow.cells _ _ _ _ _ _ _ hown
  rcases hown.2 with ⟨_, h0⟩ | ⟨g, cap, cur, rfl, _, _, _⟩
  · omega
  · have hc := hc rfl
    rw [run_convert_bytes_string w _ _ 5 _ _ _ Tryd.underlying51 Tryd.underlying5 Tryd.underlying9]
    have e : ((l.map fun b => (b.toNat : Int)).map (Value.int .u8)) = bv l := by simp [bv]
    have hload : (loadCells ⟨g, 0, none⟩ l.length).run Tryd.prog w = .ok ((l.map fun b => (b.toNat : Int)).map (Value.int .u8)).toArray w := by
      rw [e]
      have := run_loadCells_list (P := Tryd.prog) w ⟨g, 0, none⟩ (bv l) hc
      simpa [bv] using this
    rw [run_bytesToString w _ _ cap _ hload, foldl_push]
    simp
theorem OwnsI.cell {w : World} {B : Nat} {v : Value} {l : List (BitVec 64)} (h : OwnsI w B v l) : (∃ g cap, v = .slice (some ⟨g, 0, none⟩) l.length cap ∧ B ≤ g ∧ g < w.heap.size ∧ l.length ≤ cap ∧ ∀ i, i < l.length → w.cell? ⟨g, i, none⟩ = some (.int .i64 (l.getD i 0#64).toInt)) ∨ (v = .slice none 0 0 ∧ l = []) := by
  have hc := @World.ownsRow.cells _ _ _ _ _ _ _ h
  have hlt := h.lt
  rcases h.2 with ⟨rfl, h0⟩ | ⟨g, cap, cur, rfl, hb, hg, hcap, _⟩
  · exact .inr ⟨rfl, List.eq_nil_of_length_eq_zero h0⟩
  · refine .inl ⟨g, cap, rfl, hb, (hlt g rfl).2, hcap, fun i hi => ?_⟩
    have hx := hc rfl i (.int .i64 (l.getD i 0#64).toInt) (by simp [iv, hi])
    have hadd : (⟨g, 0, none⟩ : Addr).add i = ⟨g, i, none⟩ := by unfold Addr.add; split <;> simp_all
    rw [hadd] at hx
    exact hx
end Go.Proofs.YtoccbfgcmaahcaaDoor
/-
  The contracts of package vint's put and Put.
-/
namespace Go.Proofs.YtoccbfgcmaahcaaDoor
open Go.RowKit Leb

/-- The bytes of a number, and of numbers one behind the other. -/
def enc1 (x : BitVec 64) : List UInt8 := leb (zigW x).toNat
def encs (zs : List (BitVec 64)) : List UInt8 := zs.flatMap enc1
theorem enc1_len (x : BitVec 64) : (enc1 x).length = lenW (zigW x) := rfl
theorem encs_len (zs : List (BitVec 64)) : (encs zs).length ≤ 10 * zs.length := by
  induction zs with
  | nil => simp [encs]
  | cons z r ih =>
    have h1 := (lenW_bd (zigW z)).2
    have h2 : (encs (z :: r)).length = (enc1 z).length + (encs r).length := by simp [encs]
    rw [h2, enc1_len, List.length_cons]; omega
theorem encs_snoc (zs : List (BitVec 64)) (k : Nat) (h : k < zs.length) : encs (zs.take (k + 1)) = encs (zs.take k) ++ enc1 (zs.getD k 0#64) := by
  rw [List.take_succ_eq_append_getElem h]
  simp only [encs, List.flatMap_append, List.flatMap_cons, List.flatMap_nil, List.append_nil]
  simp [h]
theorem leb_two {r : Nat} (h : 2 ≤ (leb r).length) : 128 ≤ r := by
  apply Nat.le_of_not_lt
  intro e
  rw [leb_small e] at h
  simp at h
theorem leb_one {r : Nat} (h : (leb r).length ≤ 1) : r < 128 := by
  apply Nat.lt_of_not_le
  intro e
  rw [leb_big e] at h
  have := leb_pos (r / 128)
  simp at h
  rw [h] at this
  simp at this
theorem put_or (r : BitVec 64) : bits .or .u8 ((r.toNat : Int) % 256) 128 = ((UInt8.ofNat (r.toNat % 128 + 128)).toNat : Int) := by
  have e : (r.toNat : Int) % 256 = ((r.toNat % 256 : Nat) : Int) := by omega
  rw [e, byte_small (by omega)]
  have := u8_or_all ⟨r.toNat % 256, by omega⟩
  simp only at this
  rw [this]
  omega
theorem put_shr (r : BitVec 64) : (r.toNat : Int) / 128 = ((r >>> 7).toNat : Int) := by
  have := Wd.u64_shr r 7
  simpa using this
theorem shr7 (r : BitVec 64) : (r >>> 7).toNat = r.toNat / 128 := by
  rw [BitVec.toNat_ushiftRight, Nat.shiftRight_eq_div_pow]
theorem put_last (r : BitVec 64) (h : r.toNat < 128) : (r.toNat : Int) = ((UInt8.ofNat r.toNat).toNat : Int) := by
  rw [byte_small (by omega)]
/-- The text of a list of bytes. -/
def str (l : List UInt8) : ByteArray := ⟨l.toArray⟩
theorem str_size (l : List UInt8) : (str l).size = l.length := rfl
theorem str_list (l : List UInt8) : (str l).data.toList = l := by simp [str]
theorem toList_str (l : List UInt8) : (str l).toList = l := by
  rw [ByteArray.toList_eq]; exact str_list l

end Go.Proofs.YtoccbfgcmaahcaaDoor
/-
  The contract of package peristyleref02's Put.
-/
namespace Go.Proofs.YtoccbfgcmaahcaaDoor
open Go.RowKit Leb

theorem field_low (x : BitVec 64) : wordW (fieldF x 0 7) = BitVec.ofNat 64 (x.toNat % 128) := by
  apply BitVec.eq_of_getLsbD_eq
  intro i hi
  rw [wordW_bit _ i hi, BitVec.getLsbD_ofNat]
  unfold fieldF bitsOf
  rw [show (128 : Nat) = 2 ^ 7 from rfl, Nat.testBit_mod_two_pow]
  by_cases h : i < 7
  · have h2 : (i : Int) < 7 := by omega
    simp [h, h2, hi, BitVec.getLsbD]
  · have h2 : ¬ (i : Int) < 7 := by omega
    simp [h, h2]
theorem field_high (x : BitVec 64) : wordW (fieldF x 7 64) = x >>> 7 := by
  apply BitVec.eq_of_getLsbD_eq
  intro i hi
  rw [wordW_bit _ i hi, BitVec.getLsbD_ushiftRight]
  unfold fieldF bitsOf
  by_cases h : 7 + i < 64
  · have h2 : (i : Int) < 64 := by omega
    simp [h, h2]
  · rw [BitVec.getLsbD_of_ge x (7 + i) (by omega)]; simp
theorem toInt_zero_iff (x : BitVec 64) : (x.toInt == 0) = decide (x.toNat = 0) := by
  rw [Bool.eq_iff_iff, beq_iff_eq, decide_eq_true_iff, BitVec.toInt_eq_toNat_bmod, Int.bmod_def]
  have := x.isLt
  omega

end Go.Proofs.YtoccbfgcmaahcaaDoor
/-
  Regions that draw their order and hold calls that make memory and turn nothing old: the walk in the order of the text serves, over all worlds above the first one. No program is spoken of.
-/
namespace Go.Proofs.YtoccbfgcmaahcaaDoor
open Go.RowKit

/-- A world above w: below w's heap all is as it was. -/
structure Above (w : World) where
  it : World
  is : Below w.heap.size w it
theorem above_some (w : World) : Nonempty (Above w) := ⟨⟨w, Below.refl _ _⟩⟩
/-- A callee that makes memory and turns nothing old. -/
theorem above_of {P : Program} {f : FuncId} {args : Array Value} {w : World} {k : Above w} {v : Value}
    (h : Calls P f args k.it fun e w' => e = .returned v ∧ Below k.it.heap.size k.it w') : Calls P f args k.it fun e w'' => e = .returned v ∧ ∃ k' : Above w, w'' = k'.it :=
  h.mono fun _ w'' ⟨he, hb⟩ => ⟨he, ⟨w'', k.is.trans (hb.mono k.is.size)⟩, rfl⟩
/-- A callee that only computes. -/
theorem above_same {P : Program} {f : FuncId} {args : Array Value} {w : World} {k : Above w} {v : Value}
    (h : Calls P f args k.it fun e w' => e = .returned v ∧ w' = k.it) : Calls P f args k.it fun e w'' => e = .returned v ∧ ∃ k' : Above w, w'' = k'.it :=
  h.mono fun _ _ ⟨he, hb⟩ => ⟨he, k, hb⟩
/-- A callee that only reads, and draws. -/
theorem above_drew {P : Program} {f : FuncId} {args : Array Value} {w : World} {k : Above w} {v : Value}
    (h : Calls P f args k.it fun e w' => e = .returned v ∧ ∃ n, w' = k.it.drewN n) : Calls P f args k.it fun e w'' => e = .returned v ∧ ∃ k' : Above w, w'' = k'.it :=
  h.mono fun _ w'' ⟨he, n, hb⟩ => ⟨he, ⟨w'', by
    rw [hb]
    exact ⟨k.is.os, k.is.tape, k.is.output, k.is.size, k.is.block⟩⟩, rfl⟩
theorem wp_region_above {P : Program} {id : Nat} {Q : Exit → Act → World → Prop} {a : Act} {w : World} {l : List Oper} (hm : P.follows .mixedOrders = true) (hB : Region.lexB .any l.toArray = true)
    (h : Nonempty (Above w) → wpQuiet P l.toArray (fun w' => ∃ k : Above w, w' = k.it) (fun a' => ∀ w', (∃ k : Above w, w' = k.it) → Q .normal a' w') l a) : (Code.region id l.toArray true).wp P Q a w :=
  wp_region_quiet (C := fun w' => ∃ k : Above w, w' = k.it) hm hB ⟨⟨w.drew, (Below.refl _ _).drew⟩, rfl⟩ (by simpa using h (above_some w))
end Go.Proofs.YtoccbfgcmaahcaaDoor
/-
  Blocks of memory that a call may turn, and all others as they were; rows of many cells each in one block: load, store, copy of a text into one. No program is spoken of.
-/
namespace Go.Proofs.YtoccbfgcmaahcaaDoor
open Go.RowKit

/-- Of the old blocks those outside F are as they were. -/
structure Kept (F : Nat → Prop) (w w' : World) : Prop where
  os : w'.os = w.os
  tape : w'.tape = w.tape
  output : w'.output = w.output
  size : w.heap.size ≤ w'.heap.size
  block : ∀ k, k < w.heap.size → ¬ F k → w'.heap[k]? = w.heap[k]?
section
variable {F G : Nat → Prop} {a b c w w' : World}
theorem Kept.refl (F : Nat → Prop) (w : World) : Kept F w w := ⟨rfl, rfl, rfl, Nat.le_refl _, fun _ _ _ => rfl⟩
theorem Kept.trans (h : Kept F a b) (k : Kept G b c) (i : ∀ k, G k → F k ∨ a.heap.size ≤ k) : Kept F a c :=
  ⟨k.os.trans h.os, k.tape.trans h.tape, k.output.trans h.output, Nat.le_trans h.size k.size, fun x hx hF => by
    rw [k.block x (Nat.lt_of_lt_of_le hx h.size) (fun hG => by rcases i x hG with h1 | h1; exact hF h1; omega), h.block x hx hF]⟩
theorem Kept.mono (h : Kept F w w') (i : ∀ k, F k → G k) : Kept G w w' := ⟨h.os, h.tape, h.output, h.size, fun x hx hG => h.block x hx (fun hF => hG (i x hF))⟩
theorem Kept.drew (h : Kept F a w) : Kept F a w.drew := ⟨h.os, h.tape, h.output, h.size, h.block⟩
theorem Kept.drewN (h : Kept F a w) (n : Nat) : Kept F a (w.drewN n) := ⟨h.os, h.tape, h.output, h.size, h.block⟩
theorem Kept.alloc (h : Kept F a w) (o : Obj) : Kept F a (w.alloc o) :=
  ⟨h.os, h.tape, h.output, by have := h.size; simp; omega, fun x hx hF => by rw [Below.heap_alloc w o x (Nat.lt_of_lt_of_le hx h.size), h.block x hx hF]⟩
theorem Kept.setCell (h : Kept F a w) {p : Addr} (hp : F p.block ∨ a.heap.size ≤ p.block) (u : Value) : Kept F a (w.setCell p u) :=
  ⟨h.os, h.tape, h.output, by have := h.size; simp; omega, fun x hx hF => by
    rw [Below.heap_setCell w p u x (fun e => by subst e; rcases hp with h1 | h1; exact hF h1; omega), h.block x hx hF]⟩
theorem Kept.setCells {p : Nat} (hp : F p ∨ a.heap.size ≤ p) : ∀ (vs : List Value) (o : Nat) (w : World), Kept F a w → Kept F a (w.setCells p o vs)
  | [], _, _, h => h
  | v :: r, o, w, h => by
    rw [World.setCells]
    exact Kept.setCells hp r (o + 1) _ (h.setCell (p := ⟨p, o, none⟩) hp v)
theorem Kept.grown (h : Kept F a w) {row : Option Nat} (hg : w.grownBy w' row) (hr : ∀ k, row = some k → F k ∨ a.heap.size ≤ k) : Kept F a w' :=
  ⟨hg.os.trans h.os, hg.tape.trans h.tape, hg.output.trans h.output, Nat.le_trans h.size hg.size, fun x hx hF => by
    rw [hg.block x (Nat.lt_of_lt_of_le hx h.size) (fun e => by rcases hr x e.symm with h1 | h1; exact hF h1; omega), h.block x hx hF]⟩
theorem Kept.below {B : Nat} (h : Kept F w w') (hF : ∀ k, F k → B ≤ k) (hB : B ≤ w.heap.size) : Below B w w' :=
  ⟨h.os, h.tape, h.output, h.size, fun k hk => h.block k (by omega) (fun hf => by have := hF k hf; omega)⟩
theorem kept_of_below (F : Nat → Prop) (h : Below w.heap.size w w') : Kept F w w' := ⟨h.os, h.tape, h.output, h.size, fun k hk _ => h.block k hk⟩
end

theorem heap_setCells_far (b : Nat) : ∀ (vs : List Value) (o : Nat) (w : World) (k : Nat), k ≠ b → (w.setCells b o vs).heap[k]? = w.heap[k]?
  | [], _, _, _, _ => rfl
  | v :: r, o, w, k, h => by
    rw [World.setCells, heap_setCells_far b r (o + 1) _ k h, Below.heap_setCell w ⟨b, o, none⟩ v k h]
theorem heap_setCells (b : Nat) (t : TypeId) : ∀ (vs : List Value) (o : Nat) (w : World) (cur : Array Value), w.heap[b]? = some (.cells cur t (0, 0)) → o + vs.length ≤ cur.size →
    ∃ cur', (w.setCells b o vs).heap[b]? = some (.cells cur' t (0, 0)) ∧ cur'.size = cur.size ∧ (∀ k, k < o ∨ o + vs.length ≤ k → cur'[k]? = cur[k]?) ∧ ∀ j v, vs[j]? = some v → cur'[o + j]? = some v
  | [], _, _, cur, h, _ => ⟨cur, h, rfl, fun _ _ => rfl, fun _ _ hv => by simp at hv⟩
  | v :: r, o, w, cur, h, hl => by
    simp only [List.length_cons] at hl
    obtain ⟨cur', h1, h2, h3, h4⟩ := heap_setCells b t r (o + 1) (w.setCell ⟨b, o, none⟩ v) (cur.setIfInBounds o v) (heap_setCell_same w b o cur t v h) (by simp; omega)
    refine ⟨cur', h1, by simpa using h2, ?_, ?_⟩
    · intro k hk
      simp only [List.length_cons] at hk
      rw [h3 k (by omega), Array.getElem?_setIfInBounds, if_neg (by omega)]
    · intro j u hu
      cases j with
      | zero =>
        simp at hu
        subst hu
        rw [h3 (o + 0) (by omega), Array.getElem?_setIfInBounds]
        simp
        omega
      | succ j =>
        have := h4 j u (by simpa using hu)
        rwa [show o + (j + 1) = o + 1 + j by omega]

/-- The block b has tot cells of type t, which may be written: from its head on the rows R of sz cells each. -/
def Rows (w : World) (b : Nat) (t : TypeId) (tot sz : Nat) (R : List (List Value)) : Prop :=
  ∃ cur : Array Value, w.heap[b]? = some (.cells cur t (0, 0)) ∧ cur.size = tot ∧ R.length * sz ≤ tot ∧ (∀ r ∈ R, r.length = sz) ∧ ∀ i r, R[i]? = some r → ∀ j v, r[j]? = some v → cur[i * sz + j]? = some v
section
variable {w w' : World} {b : Nat} {t : TypeId} {tot sz : Nat} {R : List (List Value)}
theorem Rows.lt (h : Rows w b t tot sz R) : b < w.heap.size := by
  obtain ⟨cur, h1, _⟩ := h
  exact (Array.getElem?_eq_some_iff.1 h1).1
theorem Rows.of_block (h : Rows w b t tot sz R) (e : w'.heap[b]? = w.heap[b]?) : Rows w' b t tot sz R := by
  obtain ⟨cur, h1, h2⟩ := h
  exact ⟨cur, by rw [e]; exact h1, h2⟩
theorem Rows.kept {F : Nat → Prop} (h : Rows w b t tot sz R) (k : Kept F w w') (hb : ¬ F b) : Rows w' b t tot sz R := h.of_block (k.block b h.lt hb)
theorem Rows.drew (h : Rows w b t tot sz R) : Rows w.drew b t tot sz R := h
theorem Rows.range (h : Rows w b t tot sz R) {i : Nat} {r : List Value} (hr : R[i]? = some r) : w.rangeAt b (i * sz) r := by
  obtain ⟨cur, h1, _, _, _, h5⟩ := h
  intro j v hv
  rw [cell_of_row w b _ cur t _ h1]
  exact h5 i r hr j v hv
theorem Rows.fit (h : Rows w b t tot sz R) {i : Nat} (hi : i < R.length) : i * sz + sz ≤ tot := by
  obtain ⟨_, _, _, h3, _⟩ := h
  have : (i + 1) * sz ≤ R.length * sz := Nat.mul_le_mul_right _ hi
  rw [Nat.add_mul] at this
  omega
theorem Rows.there_at (h : Rows w b t tot sz R) {o n : Nat} (ho : o + n ≤ tot) : w.there b o n := by
  obtain ⟨cur, h1, h2, _⟩ := h
  intro j hj
  refine ⟨?_, frozen_of_row w b _ cur t h1⟩
  rw [cell_of_row w b _ cur t _ h1, Array.getElem?_eq_getElem (by omega)]
  rfl
theorem Rows.there (h : Rows w b t tot sz R) {i : Nat} (hi : i < R.length) : w.there b (i * sz) sz := h.there_at (h.fit hi)
theorem Rows.set (h : Rows w b t tot sz R) {i : Nat} (hi : i < R.length) {r : List Value} (hl : r.length = sz) : Rows (w.setCells b (i * sz) r) b t tot sz (R.set i r) := by
  have hf := h.fit hi
  obtain ⟨cur, h1, h2, h3, h4, h5⟩ := h
  obtain ⟨cur', g1, g2, g3, g4⟩ := heap_setCells b t r (i * sz) w cur h1 (by omega)
  refine ⟨cur', g1, by omega, by simpa using h3, ?_, ?_⟩
  · intro x hx
    rcases List.mem_or_eq_of_mem_set hx with hx | rfl
    · exact h4 x hx
    · exact hl
  · intro k x hx j v hv
    rw [List.getElem?_set] at hx
    by_cases e : i = k
    · subst e
      simp [hi] at hx
      subst hx
      exact g4 j v hv
    · rw [if_neg e] at hx
      have hj : j < sz := by
        have := h4 x (List.mem_of_getElem? hx)
        have := (List.getElem?_eq_some_iff.1 hv).1
        omega
      rw [g3 (k * sz + j) ?_]
      · exact h5 k x hx j v hv
      · rw [hl]
        rcases Nat.lt_or_ge k i with h' | h'
        · left
          have : (k + 1) * sz ≤ i * sz := Nat.mul_le_mul_right _ h'
          rw [Nat.add_mul] at this
          omega
        · right
          have : (i + 1) * sz ≤ k * sz := Nat.mul_le_mul_right _ (by omega)
          rw [Nat.add_mul] at this
          omega
theorem Rows.take (h : Rows w b t tot sz R) (k : Nat) : Rows w b t tot sz (R.take k) := by
  obtain ⟨cur, h1, h2, h3, h4, h5⟩ := h
  refine ⟨cur, h1, h2, ?_, fun r hr => h4 r (List.mem_of_mem_take hr), ?_⟩
  · refine Nat.le_trans (Nat.mul_le_mul_right _ ?_) h3
    rw [List.length_take]
    omega
  · intro i r hr
    rw [List.getElem?_take] at hr
    split at hr
    · exact h5 i r hr
    · cases hr
/-- What is written behind the rows turns none of them. -/
theorem Rows.behind (h : Rows w b t tot sz R) {o : Nat} (vs : List Value) (ho : R.length * sz ≤ o) (hf : o + vs.length ≤ tot) : Rows (w.setCells b o vs) b t tot sz R := by
  obtain ⟨cur, h1, h2, h3, h4, h5⟩ := h
  obtain ⟨cur', g1, g2, g3, g4⟩ := heap_setCells b t vs o w cur h1 (by omega)
  refine ⟨cur', g1, by omega, h3, h4, ?_⟩
  intro i r hr j v hv
  have hi : i < R.length := (List.getElem?_eq_some_iff.1 hr).1
  have hj : j < sz := by
    have := h4 r (List.mem_of_getElem? hr)
    have := (List.getElem?_eq_some_iff.1 hv).1
    omega
  have : (i + 1) * sz ≤ R.length * sz := Nat.mul_le_mul_right _ hi
  rw [Nat.add_mul] at this
  rw [g3 _ (by omega)]
  exact h5 i r hr j v hv
theorem Rows.far (h : Rows w b t tot sz R) {p o : Nat} (vs : List Value) (hp : b ≠ p) : Rows (w.setCells p o vs) b t tot sz R := h.of_block (heap_setCells_far p vs o w b hp)
end

theorem flatten_at {sz : Nat} (hsz : 0 < sz) : ∀ (R : List (List Value)), (∀ r ∈ R, r.length = sz) → ∀ k, R.flatten[k]? = (R[k / sz]?).bind (·[k % sz]?)
  | [], _, k => by simp
  | r :: R, h, k => by
    have hr := h r (by simp)
    rw [List.flatten_cons, List.getElem?_append]
    by_cases hk : k < sz
    · rw [if_pos (by omega), Nat.div_eq_of_lt hk, Nat.mod_eq_of_lt hk]
      simp
    · rw [if_neg (by omega), hr, flatten_at hsz R (fun x hx => h x (by simp [hx])) (k - sz)]
      have e1 : k / sz = (k - sz) / sz + 1 := by rw [Nat.div_eq_sub_div hsz (by omega)]
      have e2 : k % sz = (k - sz) % sz := by rw [Nat.mod_eq_sub_mod (by omega)]
      rw [e1, e2]
      simp
theorem length_flat {sz : Nat} : ∀ (R : List (List Value)), (∀ r ∈ R, r.length = sz) → R.flatten.length = R.length * sz
  | [], _ => by simp
  | r :: R, h => by
    rw [List.flatten_cons, List.length_append, length_flat R (fun x hx => h x (by simp [hx])), h r (by simp), List.length_cons, Nat.add_mul]
    omega

/-- A slice of rows that the call's own writes lie in: none, or the head of a block. -/
def SRows (w : World) (v : Value) (t : TypeId) (sz : Nat) (R : List (List Value)) : Prop :=
  (v = .slice none 0 0 ∧ R = []) ∨ ∃ g cap, v = .slice (some ⟨g, 0, none⟩) R.length cap ∧ R.length ≤ cap ∧ cap ≤ maxLen ∧ Rows w g t (cap * sz) sz R
section
variable {w w' : World} {v : Value} {t : TypeId} {sz : Nat} {R : List (List Value)}
theorem srows_nil (w : World) (t : TypeId) (sz : Nat) : SRows w (.slice none 0 0) t sz [] := .inl ⟨rfl, rfl⟩
theorem SRows.of_block (h : SRows w v t sz R) (e : ∀ k, v.ownBlock = some k → w'.heap[k]? = w.heap[k]?) : SRows w' v t sz R := by
  rcases h with h | ⟨g, cap, rfl, h1, h2, h3⟩
  · exact .inl h
  · exact .inr ⟨g, cap, rfl, h1, h2, h3.of_block (e g rfl)⟩
theorem SRows.lt (h : SRows w v t sz R) {k : Nat} (hk : v.ownBlock = some k) : k < w.heap.size := by
  rcases h with ⟨rfl, _⟩ | ⟨g, cap, rfl, h1, h2, h3⟩
  · simp [Value.ownBlock] at hk
  · simp [Value.ownBlock] at hk
    subst hk
    exact h3.lt
theorem SRows.kept {F : Nat → Prop} (h : SRows w v t sz R) (k : Kept F w w') (hb : ∀ g, v.ownBlock = some g → ¬ F g) : SRows w' v t sz R :=
  h.of_block fun g hg => k.block g (h.lt hg) (hb g hg)
theorem SRows.rowlen (h : SRows w v t sz R) : ∀ r ∈ R, r.length = sz := by
  rcases h with ⟨_, rfl⟩ | ⟨g, cap, _, _, _, cur, _, _, _, h4, _⟩
  · simp
  · exact h4
theorem SRows.own (h : SRows w v t sz R) (hsz : 0 < sz) : w.ownsRow 0 t sz v R.length R.flatten := by
  refine ⟨length_flat R h.rowlen, ?_⟩
  rcases h with ⟨rfl, rfl⟩ | ⟨g, cap, rfl, h1, h2, cur, c1, c2, c3, c4, c5⟩
  · exact .inl ⟨rfl, rfl⟩
  · refine .inr ⟨g, cap, cur, rfl, Nat.zero_le _, c1, h1, h2, c2, ?_⟩
    apply List.ext_getElem?
    intro k
    rw [List.getElem?_take, flatten_at hsz R c4 k]
    split
    · rename_i hk
      have hd : k / sz < R.length := (Nat.div_lt_iff_lt_mul hsz).2 hk
      have hm : k % sz < sz := Nat.mod_lt _ hsz
      have hr := List.getElem?_eq_getElem hd
      rw [hr]
      have hl : (R[k / sz]).length = sz := c4 _ (List.getElem_mem hd)
      have := c5 (k / sz) _ hr (k % sz) (R[k / sz])[k % sz] (by rw [List.getElem?_eq_getElem])
      rw [Nat.div_add_mod' k sz] at this
      simp only [Option.bind_some]
      rw [Array.getElem?_toList, this]
      exact (List.getElem?_eq_getElem (by omega)).symm
    · rename_i hk
      have hd : ¬ k / sz < R.length := fun h => hk ((Nat.div_lt_iff_lt_mul hsz).1 h)
      rw [List.getElem?_eq_none (by omega)]
      rfl
theorem srows_of_own {B n : Nat} {xs : List Value} (h : w.ownsRow B t sz v n xs) (hx : xs = R.flatten) (hR : ∀ r ∈ R, r.length = sz) (hsz : 0 < sz) (hn : R.length = n) : SRows w v t sz R := by
  subst hx hn
  rcases h.2 with ⟨rfl, h0⟩ | ⟨g, cap, cur, rfl, _, c1, h1, h2, c2, c3⟩
  · exact .inl ⟨rfl, List.eq_nil_of_length_eq_zero h0⟩
  · refine .inr ⟨g, cap, rfl, h1, h2, cur, c1, c2, Nat.mul_le_mul_right _ h1, hR, ?_⟩
    intro i r hr j u hu
    have hi : i < R.length := (List.getElem?_eq_some_iff.1 hr).1
    have hj : j < sz := by
      have := hR r (List.mem_of_getElem? hr)
      have := (List.getElem?_eq_some_iff.1 hu).1
      omega
    have hk : i * sz + j < R.length * sz := by
      have : (i + 1) * sz ≤ R.length * sz := Nat.mul_le_mul_right _ hi
      rw [Nat.add_mul] at this
      omega
    have e := congrArg (·[i * sz + j]?) c3
    simp only [List.getElem?_take] at e
    rw [if_pos hk, Array.getElem?_toList, flatten_at hsz R hR] at e
    have d1 : (i * sz + j) / sz = i := by rw [Nat.mul_comm, Nat.mul_add_div hsz, Nat.div_eq_of_lt hj]; rfl
    have d2 : (i * sz + j) % sz = j := by rw [Nat.mul_comm, Nat.mul_add_mod, Nat.mod_eq_of_lt hj]
    rw [d1, d2, hr] at e
    rw [e]
    exact hu
end

/-- The bytes of a text as cells. -/
def cellsS (s : ByteArray) : List Value := s.data.toList.map fun b => .int .u8 b.toNat
theorem cellsS_len (s : ByteArray) : (cellsS s).length = s.size := by simp [cellsS]
theorem run_copy_str {P : Program} (w : World) (dT sT ty elem : TypeId) (b o n cap : Nat) (s : ByteArray) (hs : s.size = n)
    (hu : P.underlying dT = some (.slice elem)) (hsz : (P.info? elem).map (·.size) = some 1) (ht : w.there b o n) :
    (Builtin.copy_ #[dT, sT] ty #[.slice (some ⟨b, o, none⟩) n cap, .string s]).run P w = .ok (goInt n) (w.setCells b o (cellsS s)) := by
  have hl := cellsS_len s
  have hst := run_storeCells_cells (P := P) b o (cellsS s) 0 w (fun j hj => by simpa using (ht j (by omega)).1) (fun j hj => by simpa using (ht j (by omega)).2) (fun v hv => by
    simp only [cellsS, List.mem_map] at hv
    obtain ⟨x, _, rfl⟩ := hv
    rfl)
  simp only [Nat.add_zero] at hst
  cases hq : P.info? elem with
  | none => simp [hq] at hsz
  | some i =>
    subst hs
    simp [Builtin.copy_, run_underlying hu, Builtin.lenOf, Builtin.firstCells, sizeOf, typeInfo, hq]
    rw [show (List.map (fun b : UInt8 => Value.int IntKind.u8 (b.toNat : Int)) s.data.toList) = cellsS s from rfl, List.take_of_length_le (by omega), hst]
    rfl
theorem wpList_copy_str {P : Program} {ops : Array Oper} {rest : List Oper} {op : Oper} {a : Act} {w : World} {Q : Exit → Act → World → Prop} (hgd : op.guard = none) (d x : Operand) (dT sT elem : TypeId)
    (ho : op.op = .call { callee := .builtin .copy, args := #[d, x], argTypes := #[dT, sT] }) (b o n cap : Nat) (s : ByteArray) (hd : a.eval d = .slice (some ⟨b, o, none⟩) n cap) (hx : a.eval x = .string s) (hs : s.size = n)
    (hu : P.underlying dT = some (.slice elem)) (hsz : (P.info? elem).map (·.size) = some 1) (ht : w.there b o n)
    (h : wpList P ops Q rest (a.put op.dst (goInt n)) (w.setCells b o (cellsS s))) : wpList P ops Q (op :: rest) a w := by
  refine wpList_plain hgd fun K hK => ?_
  have hr := run_copy_str (P := P) w dT sT op.type elem b o n cap s hs hu hsz ht
  unfold Oper.wp execOp
  simp only [ho, resolve, invoke, builtin, Sem.run_bind, Sem.run_pure, Result.andThen_ok, List.map_toArray, List.map_cons, List.map_nil, hd, hx, hr]
  exact hK _ _ h
theorem step_copy_str {P : Program} {ops : Array Oper} {op : Oper} {a : Act} {w : World} {K : Act → World → Prop} {Q : Exit → Act → World → Prop} {E : Prop} (hgd : op.guard = none) (d x : Operand) (dT sT elem : TypeId)
    (ho : op.op = .call { callee := .builtin .copy, args := #[d, x], argTypes := #[dT, sT] }) (b o n cap : Nat) (s : ByteArray) (hd : a.eval d = .slice (some ⟨b, o, none⟩) n cap) (hx : a.eval x = .string s) (hs : s.size = n)
    (hu : P.underlying dT = some (.slice elem)) (hsz : (P.info? elem).map (·.size) = some 1) (ht : w.there b o n)
    (h : K (a.put op.dst (goInt n)) (w.setCells b o (cellsS s))) : if Region.wanted op (yielded ops a.tmps) = true then Oper.wp P op a w K Q else E := by
  have hw : Region.wanted op (yielded ops a.tmps) = true := by simp [Region.wanted, hgd]
  rw [if_pos hw]
  have hr := run_copy_str (P := P) w dT sT op.type elem b o n cap s hs hu hsz ht
  unfold Oper.wp execOp
  simp only [ho, resolve, invoke, builtin, Sem.run_bind, Sem.run_pure, Result.andThen_ok, List.map_toArray, List.map_cons, List.map_nil, hd, hx, hr]
  exact h
end Go.Proofs.YtoccbfgcmaahcaaDoor
/-
  A struct in a block of its own: what it reads as, behind calls and stores; a call's results of which one lies in memory. No program is spoken of.
-/
namespace Go.Proofs.YtoccbfgcmaahcaaDoor
open Go.RowKit

/-- The block b is the struct (or array) c. -/
def Box (w : World) (b : Nat) (t : TypeId) (c : Array Value) : Prop := w.heap[b]? = some (.cells c t (0, 0))
section
variable {w w' : World} {b : Nat} {t : TypeId} {c : Array Value}
theorem Box.lt (h : Box w b t c) : b < w.heap.size := (Array.getElem?_eq_some_iff.1 h).1
theorem Box.of_block (h : Box w b t c) (e : w'.heap[b]? = w.heap[b]?) : Box w' b t c := e.trans h
theorem Box.below {B : Nat} (h : Box w b t c) (k : Below B w w') (hb : b < B) : Box w' b t c := h.of_block (k.block b hb)
theorem Box.over (h : Box w b t c) (k : Below w.heap.size w w') : Box w' b t c := h.below k h.lt
theorem Box.kept {F : Nat → Prop} (h : Box w b t c) (k : Kept F w w') (hF : ¬ F b) : Box w' b t c := h.of_block (k.block b h.lt hF)
theorem Box.alloc (h : Box w b t c) (o : Obj) : Box (w.alloc o) b t c := h.of_block (Below.heap_alloc w o b h.lt)
theorem Box.drew (h : Box w b t c) : Box w.drew b t c := h
theorem Box.drewN (h : Box w b t c) (n : Nat) : Box (w.drewN n) b t c := h
theorem box_new (w : World) (c : Array Value) (t : TypeId) : Box (w.alloc (.cells c t)) w.heap.size t c := heap_alloc_last w _
theorem box_old (w : World) (c : Array Value) (t : TypeId) (o : Obj) : Box ((w.alloc (.cells c t)).alloc o) w.heap.size t c := (box_new w c t).alloc o
theorem Box.set (h : Box w b t c) (k : Nat) (v : Value) : Box (w.setCell ⟨b, k, none⟩ v) b t (c.setIfInBounds k v) := heap_setCell_same w b k c t v h
theorem Box.other (h : Box w b t c) {a : Addr} (hn : b ≠ a.block) (v : Value) : Box (w.setCell a v) b t c := h.of_block (heap_setCell_other w a b v hn)
theorem Box.setRow (h : Box w b t c) (c' : Array Value) : Box (w.setRow b c') b t c' := setRow_heap w b c c' t (0, 0) h
theorem Box.rowOther (h : Box w b t c) {p : Nat} (hn : b ≠ p) (c' : Array Value) : Box (w.setRow p c') b t c := h.of_block (setRow_other w p b c' hn)
theorem Box.cell (h : Box w b t c) (k : Nat) (v : Value) (hv : c[k]? = some v) : w.cell? ⟨b, k, none⟩ = some v := (cell_of_row w b k c t (0, 0) h).trans hv
theorem Box.frozen (h : Box w b t c) (k : Nat) : w.frozen? ⟨b, k, none⟩ = false := frozen_of_row w b k c t h
end
theorem below_setRow {B : Nat} {a w : World} {b : Nat} (h : Below B a w) (hb : B ≤ b) (cs : Array Value) : Below B a (w.setRow b cs) :=
  h.trans ⟨rfl, rfl, rfl, by simp, fun k hk => setRow_other w b k cs (by omega)⟩
theorem below2 (w : World) (A B : Obj) : Below w.heap.size w ((w.alloc A).alloc B) := ((Below.refl _ w).alloc (Nat.le_refl _) _).alloc (by simp) _
theorem below1 (w : World) (A : Obj) : Below w.heap.size w (w.alloc A) := (Below.refl _ w).alloc (Nat.le_refl _) _

theorem two_box {w w1 : World} {c0 c1 : Array Value} {t0 t1 : TypeId} (hb : Below ((w.alloc (.cells c0 t0)).alloc (.cells c1 t1)).heap.size ((w.alloc (.cells c0 t0)).alloc (.cells c1 t1)) w1) :
    Box w1 w.heap.size t0 c0 ∧ Box w1 (w.heap.size + 1) t1 c1 ∧ Below w.heap.size w w1 := by
  have b1 := box_new (w.alloc (.cells c0 t0)) c1 t1
  rw [World.size_alloc] at b1
  exact ⟨(box_old _ _ _ _).over hb, b1.over hb, (below2 _ _ _).trans (hb.mono (by simp; omega))⟩

section
variable {P : Program} {fn : Func} {p q : Tmp} {ty : TypeId} {w : World} {g : Nat} {t : TypeId} {cs : Array Value} {tmps : Array Value}
theorem res_box (h : fn.results = #[.cell p ty]) (d : TypeDesc) (hp : tmps.getD p undef = .pointer (some ⟨g, 0, none⟩)) (hg : Box w g t cs)
    (hu : P.underlying ty = some d) (hd : (match d with | .struct _ | .array _ _ => true | _ => false) = true) (hi : (P.info? ty).map (·.size) = some cs.size) :
    (results fn tmps).run P w = .ok (.agg cs) w := results_cell_row h tmps w g t cs (0, 0) d hp hg hu hd hi
theorem res_box_slot (h : fn.results = #[.cell p ty, .tmp q]) (d : TypeDesc) (hp : tmps.getD p undef = .pointer (some ⟨g, 0, none⟩)) (hg : Box w g t cs)
    (hu : P.underlying ty = some d) (hd : (match d with | .struct _ | .array _ _ => true | _ => false) = true) (hi : (P.info? ty).map (·.size) = some cs.size) (v : Value) (hq : tmps.getD q undef = v) :
    (results fn tmps).run P w = .ok (.tuple #[.agg cs, v]) w := by
  have hp' : tmps[p]?.getD undef = .pointer (some ⟨g, 0, none⟩) := by simpa using hp
  have hq' : tmps[q]?.getD undef = v := by simpa using hq
  have hl := run_loadVar_row (P := P) w g t ty cs (0, 0) d hg hu hd hi
  simp [results, h, hp', hq', asAddr, hl]
end
end Go.Proofs.YtoccbfgcmaahcaaDoor
/-
  Slices of rows (elements of any number of cells): append of one to another, a store into one, what they read as. No program is spoken of.
-/
namespace Go.Proofs.YtoccbfgcmaahcaaDoor
open Go.RowKit

theorem srows_own_base {w : World} {v : Value} {t : TypeId} {sz : Nat} {R : List (List Value)} (h : SRows w v t sz R) (hsz : 0 < sz) {B : Nat} (hB : ∀ k, v.ownBlock = some k → B ≤ k) : w.ownsRow B t sz v R.length R.flatten := by
  obtain ⟨h1, h2⟩ := h.own hsz
  refine ⟨h1, ?_⟩
  rcases h2 with h2 | ⟨g, cap, cur, rfl, _, h3⟩
  · exact .inl h2
  · exact .inr ⟨g, cap, cur, rfl, hB g rfl, h3⟩
theorem own_shape {w : World} {B : Nat} {e : TypeId} {size : Nat} {v : Value} {n : Nat} {xs : List Value} (h : w.ownsRow B e size v n xs) : (∃ va vc, v = .slice va n vc) ∧ ∀ k, v.ownBlock = some k → B ≤ k := by
  refine ⟨?_, fun k hk => (h.lt k hk).1⟩
  rcases h.2 with ⟨rfl, rfl⟩ | ⟨g, cap, cur, rfl, _⟩
  · exact ⟨_, _, rfl⟩
  · exact ⟨_, _, rfl⟩
theorem srows_new (w : World) (r : List Value) (t : TypeId) {sz : Nat} (hr : r.length = sz) : SRows (w.alloc (.cells r.toArray t)) (.slice (some ⟨w.heap.size, 0, none⟩) 1 1) t sz [r] := by
  refine .inr ⟨w.heap.size, 1, rfl, Nat.le_refl _, by unfold maxLen; omega, r.toArray, heap_alloc_last w _, by simp [hr], by simp, by simp [hr], ?_⟩
  intro i x hx j v hv
  cases i with
  | zero => simp at hx; subst hx; simpa using hv
  | succ i => simp at hx

theorem noOwn (B : Nat) : ∀ k, (Value.slice none 0 0).ownBlock = some k → B ≤ k := by intro k hk; simp [Value.ownBlock] at hk

section
variable {P : Program} {ops : Array Oper} {rest : List Oper} {o : Oper} {a : Act} {w : World} {Q : Exit → Act → World → Prop}
/-- 'append(v, u...)', v the call's own. -/
theorem append_rows (hgd : o.guard = none) (s x : Operand) (T e : TypeId) (i : TypeInfo) (z : Value) (sz bytes : Nat) (ho : o.op = .call { callee := .builtin .append, args := #[s, x], argTypes := #[T, T] })
    (hT : P.underlying T = some (.slice e)) (hi : P.info? e = some i) (hz : i.zero = some z) (hsize : i.size = sz) (hby : i.bytes = bytes) (hzs : z.cells.size = sz) (hsz : 0 < sz) (hbl : bytes ≤ 200)
    {B : Nat} {v u : Value} {R1 R2 : List (List Value)} (hs : a.eval s = v) (hx : a.eval x = u) (hv : SRows w v e sz R1) (hu : SRows w u e sz R2) (hvB : ∀ k, v.ownBlock = some k → B ≤ k) (hB : B ≤ w.heap.size)
    (h1 : ∀ r ∈ R2, ∀ c ∈ r, c.oneCell' = true) (m : Nat) (hm : R1.length + R2.length = m) (R : List (List Value)) (hR : R1 ++ R2 = R) (hl : m ≤ 1000000)
    (h : ∀ va vc w', SRows w' (.slice va m vc) e sz R → (∀ k, (Value.slice va m vc).ownBlock = some k → B ≤ k) → Below B w w' → wpList P ops Q rest (a.put o.dst (.slice va m vc)) w') :
    wpList P ops Q (o :: rest) a w := by
  subst hm hR
  have hown := srows_own_base hv hsz hvB
  have hlens : ∀ r ∈ R1 ++ R2, r.length = sz := fun r hr => by
    rcases List.mem_append.1 hr with hr | hr
    · exact hv.rowlen r hr
    · exact hu.rowlen r hr
  rcases hu with ⟨rfl, rfl⟩ | ⟨g, cap, rfl, hc1, hc2, hrows⟩
  · have hrun := run_append_owned_none (P := P) w B T (o.type) e i sz hT hi v R1.length _ hown
    obtain ⟨⟨va, vc, rfl⟩, hvb⟩ := own_shape hown
    simp only [List.append_nil, List.length_nil, Nat.add_zero] at h
    refine wpList_plain hgd fun K hK => ?_
    unfold Oper.wp execOp
    simp only [ho, resolve, invoke, builtin, Sem.run_bind, Sem.run_pure, Result.andThen_ok, List.map_toArray, List.map_cons, List.map_nil, hs, hx, hrun]
    exact hK _ _ (h va vc w hv hvB (Below.refl _ _))
  · have hus : SRows w (.slice (some ⟨g, 0, none⟩) R2.length cap) e sz R2 := .inr ⟨g, cap, rfl, hc1, hc2, hrows⟩
    have hnews : ∀ j u, R2.flatten[j]? = some u → w.cell? ((⟨g, 0, none⟩ : Addr).add j) = some u := (hus.own hsz).cells rfl
    refine wpList_append_own w hgd s x T ho B e i z sz bytes hT hi hz hsize hby hzs hsz v R1.length R1.flatten hs hown ⟨g, 0, none⟩ R2.length cap R2.flatten hx (length_flat R2 hus.rowlen) hnews ?_ ?_ ?_ hB ?_
    · intro u hu
      obtain ⟨r, hr, hur⟩ := List.mem_flatten.1 hu
      exact h1 r hr u hur
    · unfold maxLen; omega
    · have : (R1.length + R2.length) * bytes ≤ 1000000 * 200 := Nat.mul_le_mul hl hbl
      omega
    · intro v' w' hown' hgrow _
      obtain ⟨⟨va, vc, rfl⟩, hvb⟩ := own_shape hown'
      refine h va vc w' (srows_of_own hown' (by rw [List.flatten_append]) hlens hsz (by simp)) hvb ?_
      exact (Below.refl B w).grown hgrow hB fun k hk => hvB k hk
end
end Go.Proofs.YtoccbfgcmaahcaaDoor
/-
  Rows in one block, all of them: what a copy of some over others leaves, what a slice of them reads; copy, append, append of zeros as laws. No program is spoken of.
-/
namespace Go.Proofs.YtoccbfgcmaahcaaDoor
open Go.RowKit

/-- V laid over L from place p on. -/
def spl {α : Type} (L : List α) (p : Nat) (V : List α) : List α := L.take p ++ (V ++ L.drop (p + V.length))
section
variable {α : Type} {L V X : List α} {p i : Nat}
theorem spl_len (h : p + V.length ≤ L.length) : (spl L p V).length = L.length := by simp [spl]; omega
theorem spl_at (h : p + V.length ≤ L.length) (k : Nat) : (spl L p V)[k]? = if k < p then L[k]? else if k < p + V.length then V[k - p]? else L[k]? := by
  unfold spl
  by_cases h1 : k < p
  · rw [if_pos h1, List.getElem?_append_left (by rw [List.length_take]; omega), List.getElem?_take, if_pos h1]
  · rw [if_neg h1, List.getElem?_append_right (by rw [List.length_take]; omega), List.length_take, Nat.min_eq_left (by omega)]
    by_cases h2 : k < p + V.length
    · rw [if_pos h2, List.getElem?_append_left (by omega)]
    · rw [if_neg h2, List.getElem?_append_right (by omega), List.getElem?_drop]
      congr 1
      omega
/-- Both copies, the first one first. -/
theorem spl_two (h : i + V.length + X.length ≤ L.length) : (spl (spl L i V) (i + V.length) X).take (i + V.length + X.length) = L.take i ++ (V ++ X) := by
  have h1 : i + V.length ≤ L.length := by omega
  have h2 : i + V.length + X.length ≤ (spl L i V).length := by rw [spl_len h1]; exact h
  apply List.ext_getElem?
  intro k
  rw [List.getElem?_take, spl_at h2, spl_at h1]
  by_cases k1 : k < i
  · rw [if_pos (by omega), if_pos (by omega), if_pos k1, List.getElem?_append_left (by rw [List.length_take]; omega), List.getElem?_take, if_pos k1]
  · rw [List.getElem?_append_right (by rw [List.length_take]; omega), List.length_take, Nat.min_eq_left (by omega)]
    by_cases k2 : k < i + V.length
    · rw [if_pos (by omega), if_pos (by omega), if_neg k1, if_pos k2, List.getElem?_append_left (by omega)]
    · rw [List.getElem?_append_right (by omega)]
      by_cases k3 : k < i + V.length + X.length
      · rw [if_pos k3, if_neg k2, if_pos k3]
        congr 1
        omega
      · rw [if_neg k3, List.getElem?_eq_none (by omega)]
theorem spl_swap (h : i + V.length + X.length ≤ L.length) : spl (spl L (i + V.length) X) i V = spl (spl L i V) (i + V.length) X := by
  have h1 : i + V.length ≤ L.length := by omega
  have h2 : i + V.length + X.length ≤ (spl L i V).length := by rw [spl_len h1]; exact h
  have h3 : i + V.length ≤ (spl L (i + V.length) X).length := by rw [spl_len h]; omega
  apply List.ext_getElem?
  intro k
  rw [spl_at h2, spl_at h3, spl_at h1, spl_at h]
  by_cases k1 : k < i
  · rw [if_pos k1, if_pos (by omega), if_pos (by omega), if_pos k1]
  · by_cases k2 : k < i + V.length
    · rw [if_neg k1, if_pos k2, if_pos k2, if_neg k1, if_pos k2]
    · by_cases k3 : k < i + V.length + X.length
      · simp only [if_neg k1, if_neg k2, if_pos k3]
      · simp only [if_neg k1, if_neg k2, if_neg k3]
end

section
variable {w w' : World} {b : Nat} {t : TypeId} {tot sz : Nat} {R F V X : List (List Value)}
theorem Rows.lens (h : Rows w b t tot sz R) : ∀ r ∈ R, r.length = sz := h.choose_spec.2.2.2.1
theorem Rows.bound (h : Rows w b t tot sz R) : R.length * sz ≤ tot := h.choose_spec.2.2.1
theorem Rows.spl (h : Rows w b t tot sz R) {p : Nat} (hsz : 0 < sz) (hp : p + V.length ≤ R.length) (hV : ∀ r ∈ V, r.length = sz) : Rows (w.setCells b (p * sz) V.flatten) b t tot sz (spl R p V) := by
  obtain ⟨cur, h1, h2, h3, h4, h5⟩ := h
  have hfl := length_flat V hV
  have hle : (p + V.length) * sz ≤ R.length * sz := Nat.mul_le_mul_right _ hp
  rw [Nat.add_mul] at hle
  obtain ⟨cur', g1, g2, g3, g4⟩ := heap_setCells b t V.flatten (p * sz) w cur h1 (by rw [hfl]; omega)
  have hlen : ∀ r ∈ Go.Proofs.YtoccbfgcmaahcaaDoor.spl R p V, r.length = sz := by
    intro r hr
    unfold Go.Proofs.YtoccbfgcmaahcaaDoor.spl at hr
    rcases List.mem_append.1 hr with hr | hr
    · exact h4 r (List.mem_of_mem_take hr)
    · rcases List.mem_append.1 hr with hr | hr
      · exact hV r hr
      · exact h4 r (List.mem_of_mem_drop hr)
  refine ⟨cur', g1, by omega, by rw [spl_len hp]; exact h3, hlen, ?_⟩
  intro i r hr j v hv
  have hj : j < sz := by
    have := hlen r (List.mem_of_getElem? hr)
    have := (List.getElem?_eq_some_iff.1 hv).1
    omega
  rw [spl_at hp] at hr
  have out : ∀ (_ : R[i]? = some r), (i < p ∨ p + V.length ≤ i) → cur'[i * sz + j]? = some v := by
    intro hr hi
    rw [g3 _ ?_]
    · exact h5 i r hr j v hv
    · rw [hfl]
      rcases hi with hi | hi
      · left
        have : (i + 1) * sz ≤ p * sz := Nat.mul_le_mul_right _ hi
        rw [Nat.add_mul] at this
        omega
      · right
        have : (p + V.length) * sz ≤ i * sz := Nat.mul_le_mul_right _ hi
        rw [Nat.add_mul] at this
        omega
  split at hr
  · exact out hr (.inl (by assumption))
  · rename_i hi1
    split at hr
    · rename_i hi2
      have e : i * sz + j = p * sz + ((i - p) * sz + j) := by
        rw [← Nat.add_assoc, ← Nat.add_mul]
        congr 2
        omega
      rw [e]
      refine g4 _ v ?_
      rw [flatten_at hsz V hV]
      have d1 : ((i - p) * sz + j) / sz = i - p := by rw [Nat.mul_comm, Nat.mul_add_div hsz, Nat.div_eq_of_lt hj]; rfl
      have d2 : ((i - p) * sz + j) % sz = j := by rw [Nat.mul_comm, Nat.mul_add_mod, Nat.mod_eq_of_lt hj]
      rw [d1, d2, hr]
      exact hv
    · exact out hr (.inr (by omega))
/-- All rows of the block. -/
theorem Rows.full {cap : Nat} (h : Rows w b t (cap * sz) sz R) (hc : R.length ≤ cap) : ∃ F : List (List Value), F.length = cap ∧ Rows w b t (cap * sz) sz F ∧ F.take R.length = R := by
  obtain ⟨cur, h1, h2, h3, h4, h5⟩ := h
  have fit : ∀ i, i < cap → i * sz + sz ≤ cur.size := fun i hi => by
    have : (i + 1) * sz ≤ cap * sz := Nat.mul_le_mul_right _ hi
    rw [Nat.add_mul] at this
    omega
  have hrow : ∀ i, i < cap → ((List.range cap).map fun i => (cur.toList.drop (i * sz)).take sz)[i]? = some ((cur.toList.drop (i * sz)).take sz) := fun i hi => by
    rw [List.getElem?_map, List.getElem?_range hi]
    rfl
  refine ⟨(List.range cap).map fun i => (cur.toList.drop (i * sz)).take sz, by simp, ⟨cur, h1, h2, by simp, ?_, ?_⟩, ?_⟩
  · intro r hr
    simp only [List.mem_map, List.mem_range] at hr
    obtain ⟨i, hi, rfl⟩ := hr
    have := fit i hi
    rw [List.length_take, List.length_drop, Array.length_toList]
    omega
  · intro i r hr j v hv
    have hi : i < cap := by
      have := (List.getElem?_eq_some_iff.1 hr).1
      simpa using this
    rw [hrow i hi] at hr
    simp only [Option.some.injEq] at hr
    subst hr
    rw [List.getElem?_take] at hv
    split at hv
    · rw [List.getElem?_drop, Array.getElem?_toList] at hv
      exact hv
    · cases hv
  · apply List.ext_getElem?
    intro i
    rw [List.getElem?_take]
    split
    · rename_i hi
      rw [hrow i (by omega), List.getElem?_eq_getElem hi]
      congr 1
      have hl := h4 _ (List.getElem_mem hi)
      apply List.ext_getElem?
      intro j
      rw [List.getElem?_take]
      split
      · rename_i hj
        rw [List.getElem?_drop, Array.getElem?_toList, List.getElem?_eq_getElem (by omega)]
        exact h5 i _ (List.getElem?_eq_getElem hi) j _ (List.getElem?_eq_getElem (by omega))
      · rw [List.getElem?_eq_none (by omega)]
    · rw [List.getElem?_eq_none (by omega)]
/-- What a part of the rows reads as. -/
theorem Rows.read (h : Rows w b t tot sz F) (hsz : 0 < sz) {p : Nat} (hX : ∀ k r, X[k]? = some r → F[p + k]? = some r) (hl : ∀ r ∈ X, r.length = sz) :
    ∀ j v, X.flatten[j]? = some v → w.cell? ((⟨b, p * sz, Option.none⟩ : Addr).add j) = some v := by
  intro j v hv
  rw [flatten_at hsz X hl] at hv
  cases hx : X[j / sz]? with
  | none => rw [hx] at hv; simp at hv
  | some r =>
    rw [hx] at hv
    simp only [Option.bind_some] at hv
    have := h.range (hX _ r hx) (j % sz) v hv
    have e : (⟨b, p * sz, Option.none⟩ : Addr).add j = ⟨b, (p + j / sz) * sz + j % sz, Option.none⟩ := by
      rw [Addr.add_lit, Nat.add_mul, Nat.add_assoc, Nat.div_add_mod']
    rw [e]
    exact this
end
section
variable {P : Program} {ops : Array Oper} {rest : List Oper} {o : Oper} {a : Act} {w : World} {Q : Exit → Act → World → Prop} {K : Act → World → Prop} {E : Prop}
theorem run_copy_rows (w : World) (dT sT ty elem : TypeId) (sz : Nat) (hu : P.underlying dT = some (.slice elem)) (hs : (P.info? elem).map (·.size) = some sz)
    (dp sp : Option Addr) (dLen dCap sLen sCap : Nat) {b p tot : Nat} {t : TypeId} {F X : List (List Value)} (hF : Rows w b t tot sz F) (hX : X.length = Nat.min sLen dLen) (hd : p + X.length ≤ F.length) (hl : ∀ r ∈ X, r.length = sz) (h1 : ∀ r ∈ X, ∀ c ∈ r, c.oneCell' = true)
    (hpos : 0 < X.length → dp = some ⟨b, p * sz, none⟩ ∧ ∃ ad, sp = some ad ∧ ∀ j v, X.flatten[j]? = some v → w.cell? (ad.add j) = some v) :
    (Builtin.copy_ #[dT, sT] ty #[.slice dp dLen dCap, .slice sp sLen sCap]).run P w = .ok (goInt X.length) (w.setCells b (p * sz) X.flatten) := by
  have hfl := length_flat X hl
  cases hq : P.info? elem with
  | none => simp [hq] at hs
  | some i =>
    have hi : i.size = sz := by simpa [hq] using hs
    by_cases h0 : X.length = 0
    · obtain rfl : X = [] := List.eq_nil_of_length_eq_zero h0
      have hn : Nat.min sLen dLen = 0 := by simpa using hX.symm
      have hl0 : ∀ (x : Addr), (loadCells x 0).run P w = .ok #[] w := fun x => by simpa using run_loadCells_list (P := P) w x [] (by simp)
      cases dp <;> cases sp <;> simp [Builtin.copy_, run_underlying hu, Builtin.lenOf, Builtin.firstCells, sizeOf, typeInfo, hq, hn, storeCells, hl0, World.setCells]
    · obtain ⟨rfl, ad, rfl, hsrc⟩ := hpos (by omega)
      have hbd := hF.bound
      have hle : (p + X.length) * sz ≤ F.length * sz := Nat.mul_le_mul_right _ hd
      rw [Nat.add_mul] at hle
      have hth : w.there b (p * sz) (X.length * sz) := hF.there_at (by omega)
      have hld := run_loadCells_list (P := P) w ad X.flatten hsrc
      rw [hfl] at hld
      have hst := run_storeCells_cells (P := P) b (p * sz) X.flatten 0 w (fun j hj => by simpa using (hth j (by omega)).1) (fun j hj => by simpa using (hth j (by omega)).2) (fun v hv => by
        obtain ⟨r, hr, hvr⟩ := List.mem_flatten.1 hv
        exact h1 r hr v hvr)
      simp only [Nat.add_zero] at hst
      simp [Builtin.copy_, run_underlying hu, Builtin.lenOf, Builtin.firstCells, sizeOf, typeInfo, hq, hi, ← hX, hld, hst]
theorem copy_rows (hgd : o.guard = none) (d s : Operand) (dT sT elem : TypeId) (sz : Nat) (ho : o.op = .call { callee := .builtin .copy, args := #[d, s], argTypes := #[dT, sT] })
    (hu : P.underlying dT = some (.slice elem)) (hs : (P.info? elem).map (·.size) = some sz) (hsz : 0 < sz) {b p tot : Nat} {t : TypeId} {F : List (List Value)} (X : List (List Value)) (hF : Hid (Rows w b t tot sz F)) (hd : p + X.length ≤ F.length)
    (dp sp : Option Addr) (dLen dCap sLen sCap : Nat) (hdv : a.eval d = .slice dp dLen dCap) (hsv : a.eval s = .slice sp sLen sCap) (hX : X.length = Nat.min sLen dLen) (hl : ∀ r ∈ X, r.length = sz) (h1 : ∀ r ∈ X, ∀ c ∈ r, c.oneCell' = true)
    (hpos : 0 < X.length → dp = some ⟨b, p * sz, none⟩ ∧ ∃ ad, sp = some ad ∧ ∀ j v, X.flatten[j]? = some v → w.cell? (ad.add j) = some v)
    (h : ∀ w', Hid (Rows w' b t tot sz (spl F p X)) → Hid (Kept (fun x => x = b) w w') → wpList P ops Q rest (a.put o.dst (goInt X.length)) w') : wpList P ops Q (o :: rest) a w := by
  refine wpList_plain hgd fun K hK => ?_
  have hr := run_copy_rows (P := P) w dT sT o.type elem sz hu hs dp sp dLen dCap sLen sCap hF.out hX hd hl h1 hpos
  unfold Oper.wp execOp
  simp only [ho, resolve, invoke, builtin, Sem.run_bind, Sem.run_pure, Result.andThen_ok, List.map_toArray, List.map_cons, List.map_nil, hdv, hsv, hr]
  exact hK _ _ (h _ (show Rows _ _ _ _ _ _ from hF.out.spl hsz hd hl) (show Kept _ _ _ from Kept.setCells (F := fun x => x = b) (.inl rfl) _ _ _ (Kept.refl _ _)))
theorem step_copy_rows (hgd : o.guard = none) (d s : Operand) (dT sT elem : TypeId) (sz : Nat) (ho : o.op = .call { callee := .builtin .copy, args := #[d, s], argTypes := #[dT, sT] })
    (hu : P.underlying dT = some (.slice elem)) (hs : (P.info? elem).map (·.size) = some sz) (hsz : 0 < sz) {b p tot : Nat} {t : TypeId} {F : List (List Value)} (X : List (List Value)) (hF : Hid (Rows w b t tot sz F)) (hd : p + X.length ≤ F.length)
    (dp sp : Option Addr) (dLen dCap sLen sCap : Nat) (hdv : a.eval d = .slice dp dLen dCap) (hsv : a.eval s = .slice sp sLen sCap) (hX : X.length = Nat.min sLen dLen) (hl : ∀ r ∈ X, r.length = sz) (h1 : ∀ r ∈ X, ∀ c ∈ r, c.oneCell' = true)
    (hpos : 0 < X.length → dp = some ⟨b, p * sz, none⟩ ∧ ∃ ad, sp = some ad ∧ ∀ j v, X.flatten[j]? = some v → w.cell? (ad.add j) = some v)
    (h : ∀ w', Hid (Rows w' b t tot sz (spl F p X)) → Hid (Kept (fun x => x = b) w w') → K (a.put o.dst (goInt X.length)) w') : if Region.wanted o (yielded ops a.tmps) = true then Oper.wp P o a w K Q else E := by
  have hw : Region.wanted o (yielded ops a.tmps) = true := by simp [Region.wanted, hgd]
  rw [if_pos hw]
  have hr := run_copy_rows (P := P) w dT sT o.type elem sz hu hs dp sp dLen dCap sLen sCap hF.out hX hd hl h1 hpos
  unfold Oper.wp execOp
  simp only [ho, resolve, invoke, builtin, Sem.run_bind, Sem.run_pure, Result.andThen_ok, List.map_toArray, List.map_cons, List.map_nil, hdv, hsv, hr]
  exact h _ (show Rows _ _ _ _ _ _ from hF.out.spl hsz hd hl) (show Kept _ _ _ from Kept.setCells (F := fun x => x = b) (.inl rfl) _ _ _ (Kept.refl _ _))

/-- 'append(s, u...)', s in a block: it stays there, or lies in a new one. -/
theorem append_rowsK (hgd : o.guard = none) (s x : Operand) (T e : TypeId) (i : TypeInfo) (z : Value) (sz bytes : Nat) (ho : o.op = .call { callee := .builtin .append, args := #[s, x], argTypes := #[T, T] })
    (hT : P.underlying T = some (.slice e)) (hi : P.info? e = some i) (hz : i.zero = some z) (hsize : i.size = sz) (hby : i.bytes = bytes) (hzs : z.cells.size = sz) (hsz : 0 < sz) (hbl : bytes ≤ 200)
    {g n cap : Nat} {u : Value} {R1 R2 : List (List Value)} (hs : a.eval s = .slice (some ⟨g, 0, none⟩) n cap) (hx : a.eval x = u) (hv : SRows w (.slice (some ⟨g, 0, none⟩) n cap) e sz R1) (hu : SRows w u e sz R2) (hn : R1.length = n)
    (h1 : ∀ r ∈ R2, ∀ c ∈ r, c.oneCell' = true) (m : Nat) (hm : n + R2.length = m) (R : List (List Value)) (hR : R1 ++ R2 = R) (hl : m ≤ 1000000)
    (h : ∀ g' cap' w', Hid (SRows w' (.slice (some ⟨g', 0, none⟩) m cap') e sz R) → Hid (g' = g ∧ cap' = cap ∨ w.heap.size ≤ g' ∧ cap < m) → Hid (Kept (fun x => x = g) w w') → wpList P ops Q rest (a.put o.dst (.slice (some ⟨g', 0, none⟩) m cap')) w') :
    wpList P ops Q (o :: rest) a w := by
  subst hm hR hn
  have hown := srows_own_base hv hsz (B := 0) (fun _ _ => Nat.zero_le _)
  have hlens : ∀ r ∈ R1 ++ R2, r.length = sz := fun r hr => by
    rcases List.mem_append.1 hr with hr | hr
    · exact hv.rowlen r hr
    · exact hu.rowlen r hr
  rcases hu with ⟨rfl, rfl⟩ | ⟨g2, cap2, rfl, hc1, hc2, hrows⟩
  · have hrun := run_append_owned_none (P := P) w 0 T (o.type) e i sz hT hi _ R1.length _ hown
    simp only [List.append_nil, List.length_nil, Nat.add_zero] at h
    refine wpList_plain hgd fun K hK => ?_
    unfold Oper.wp execOp
    simp only [ho, resolve, invoke, builtin, Sem.run_bind, Sem.run_pure, Result.andThen_ok, List.map_toArray, List.map_cons, List.map_nil, hs, hx, hrun]
    exact hK _ _ (h g cap w (show SRows _ _ _ _ _ from hv) (show _ ∨ _ from .inl ⟨rfl, rfl⟩) (show Kept _ _ _ from Kept.refl _ _))
  · have hus : SRows w (.slice (some ⟨g2, 0, none⟩) R2.length cap2) e sz R2 := .inr ⟨g2, cap2, rfl, hc1, hc2, hrows⟩
    have hnews : ∀ j u, R2.flatten[j]? = some u → w.cell? ((⟨g2, 0, none⟩ : Addr).add j) = some u := (hus.own hsz).cells rfl
    have hone : ∀ u ∈ R2.flatten, u.oneCell' = true := by
      intro u hu
      obtain ⟨r, hr, hur⟩ := List.mem_flatten.1 hu
      exact h1 r hr u hur
    have h63 : R1.length + R2.length ≤ maxLen := by unfold maxLen; omega
    have hbytes : (R1.length + R2.length) * bytes ≤ 140737488355328 := by
      have : (R1.length + R2.length) * bytes ≤ 1000000 * 200 := Nat.mul_le_mul hl hbl
      omega
    obtain ⟨v', w', hr, hown', hgrow, _⟩ := run_append_own (P := P) w 0 T o.type e i z sz bytes hT hi hz hsize hby hzs hsz _ R1.length R1.flatten hown ⟨g2, 0, none⟩ R2.length cap2 R2.flatten (length_flat R2 hus.rowlen) hnews hone h63 hbytes (Nat.zero_le _)
    obtain ⟨cap', cur, hv2, hc, hcl, hg, hcur⟩ : ∃ cap' cur, (Value.slice (some ⟨g, 0, none⟩) R1.length cap : Value) = .slice (some ⟨g, 0, none⟩) R1.length cap' ∧ R1.length ≤ cap' ∧ cap' ≤ maxLen ∧ w.heap[g]? = some (.cells cur e (0, 0)) ∧ cur.size = cap' * sz := by
      rcases hv with ⟨hq, _⟩ | ⟨g', cap', hq, q1, q2, cur, q3, q4, _⟩
      · simp at hq
      · simp only [Value.slice.injEq, Option.some.injEq, Addr.mk.injEq, and_true] at hq
        obtain ⟨rfl, _, rfl⟩ := hq
        exact ⟨cap, cur, rfl, q1, q2, q3, q4⟩
    simp only [Value.slice.injEq, true_and] at hv2
    subst hv2
    have hwhere : ∃ g' cap', v' = .slice (some ⟨g', 0, none⟩) (R1.length + R2.length) cap' ∧ (g' = g ∧ cap' = cap ∨ w.heap.size ≤ g' ∧ cap < R1.length + R2.length) := by
      subst hsize
      subst hby
      by_cases hroom : R1.length + R2.length ≤ cap
      · have hfit : R1.length * i.size + R2.flatten.length ≤ cur.size := by
          rw [length_flat R2 hus.rowlen, hcur, ← Nat.add_mul]
          exact Nat.mul_le_mul_right _ hroom
        have hr2 := run_append_room (P := P) w T o.type e i hT hi g R1.length cap cur hg ⟨g2, 0, none⟩ R2.length cap2 R2.flatten (length_flat R2 hus.rowlen) hnews hone hroom hfit
        rw [hr2] at hr
        simp only [Result.ok.injEq] at hr
        exact ⟨g, cap, hr.1.symm, .inl ⟨rfl, rfl⟩⟩
      · have hr2 := run_append_grow (P := P) w T o.type e i z hT hi hz ⟨g, 0, none⟩ R1.length cap R1.flatten hown.1 (hown.cells (g := g) rfl) ⟨g2, 0, none⟩ R2.length cap2 R2.flatten (length_flat R2 hus.rowlen) hnews (by omega) (by unfold maxLen at h63; omega) (growslice_fits (by omega) hbytes)
        rw [hr2] at hr
        simp only [Result.ok.injEq] at hr
        exact ⟨w.heap.size, _, hr.1.symm, .inr ⟨Nat.le_refl _, by omega⟩⟩
    obtain ⟨g', cap', rfl, hgg⟩ := hwhere
    refine wpList_plain hgd fun K hK => ?_
    unfold Oper.wp execOp
    simp only [ho, resolve, invoke, builtin, Sem.run_bind, Sem.run_pure, Result.andThen_ok, List.map_toArray, List.map_cons, List.map_nil, hs, hx, hr]
    refine hK _ _ (h g' cap' w' (show SRows _ _ _ _ _ from srows_of_own hown' (by rw [List.flatten_append]) hlens hsz (by simp)) (show _ ∨ _ from hgg) (show Kept _ _ _ from (Kept.refl _ w).grown hgrow ?_))
    intro k hk
    simp [Value.ownBlock] at hk
    exact .inl hk.symm
/-- 'append(s, make(S, k)...)' without room: a new block of the old rows and others. -/
theorem append_zerosK (hgd : o.guard = none) (s x : Operand) (T Tn e : TypeId) (i : TypeInfo) (z : Value) (sz bytes : Nat) (ho : o.op = .call { callee := .builtin .append, args := #[s, x], argTypes := #[T, Tn] })
    (hT : P.underlying T = some (.slice e)) (hTn : P.underlying Tn = some (.int .i64)) (hi : P.info? e = some i) (hz : i.zero = some z) (hsize : i.size = sz) (hby : i.bytes = bytes) (hzs : z.cells.size = sz) (hsz : 0 < sz) (hbl : bytes ≤ 200)
    {g n cap : Nat} {R1 : List (List Value)} (hs : a.eval s = .slice (some ⟨g, 0, none⟩) n cap) (k : Nat) (hx : a.eval x = .int .i64 k) (hv : SRows w (.slice (some ⟨g, 0, none⟩) n cap) e sz R1) (hn : R1.length = n) (hk : 0 < k) (hno : cap < n + k)
    (m : Nat) (hm : n + k = m) (hl : m ≤ 1000000)
    (h : ∀ cap' w' F, Hid (Rows w' w.heap.size e (cap' * sz) sz F) → Hid (F.length = cap' ∧ F.take n = R1 ∧ m ≤ cap' ∧ cap' ≤ maxLen) → Hid (Kept (fun _ => False) w w') → wpList P ops Q rest (a.put o.dst (.slice (some ⟨w.heap.size, 0, none⟩) m cap')) w') :
    wpList P ops Q (o :: rest) a w := by
  subst hm hn hsize hby
  have hown := srows_own_base hv hsz (B := 0) (fun _ _ => Nat.zero_le _)
  have holds : ∀ j u, R1.flatten[j]? = some u → w.drew.cell? ((⟨g, 0, none⟩ : Addr).add j) = some u := hown.cells (g := g) rfl
  have hold := run_firstCells_some (P := P) w.drew i.size R1.length ⟨g, 0, none⟩ R1.length cap R1.flatten hown.1 holds
  have hkb : k * i.bytes ≤ 1000000 * 200 := Nat.mul_le_mul (by omega) hbl
  have hsb : (R1.length + k) * i.bytes ≤ 1000000 * 200 := Nat.mul_le_mul hl hbl
  have hr := Lib.run_append_grow_zeros (P := P) w T Tn o.type e i z .i64 .i64 hT hTn hi hz (some ⟨g, 0, none⟩) R1.length cap R1.flatten hold k hk hsz hno (by omega) (by omega) (growslice_fits (by omega) (by omega))
  have hge := grownCap_ge w (R1.length + k) cap e
  have hcm := grownCap_le_maxLen w (R1.length + k) cap e (by unfold maxLen; omega)
  obtain ⟨G, hG⟩ : ∃ G, G = grownCap w (R1.length + k) cap e := ⟨_, rfl⟩
  rw [← hG] at hr hge hcm
  have hrows : Rows (w.drew.alloc (.cells (R1.flatten.toArray ++ Builtin.zeroCells z.cells k ++ Builtin.zeroCells z.cells (G - (R1.length + k))) e)) w.heap.size e (G * i.size) i.size R1 := by
    refine ⟨_, heap_alloc_last w.drew _, ?_, Nat.mul_le_mul_right _ (by omega), hv.rowlen, ?_⟩
    · simp only [Array.size_append, List.size_toArray, size_zeroCells, hzs, length_flat R1 hv.rowlen, ← Nat.add_mul]
      congr 1
      omega
    · intro q r hq j v hj
      have hlen : j < i.size := by
        have := hv.rowlen r (List.mem_of_getElem? hq)
        have := (List.getElem?_eq_some_iff.1 hj).1
        omega
      have hq' : q < R1.length := (List.getElem?_eq_some_iff.1 hq).1
      have hb : q * i.size + j < R1.flatten.length := by
        rw [length_flat R1 hv.rowlen]
        have : (q + 1) * i.size ≤ R1.length * i.size := Nat.mul_le_mul_right _ hq'
        rw [Nat.add_mul] at this
        omega
      rw [Array.getElem?_append_left (by simp only [Array.size_append, List.size_toArray]; omega), Array.getElem?_append_left (by simpa using hb), List.getElem?_toArray, flatten_at hsz R1 hv.rowlen]
      have d1 : (q * i.size + j) / i.size = q := by rw [Nat.mul_comm, Nat.mul_add_div hsz, Nat.div_eq_of_lt hlen]; rfl
      have d2 : (q * i.size + j) % i.size = j := by rw [Nat.mul_comm, Nat.mul_add_mod, Nat.mod_eq_of_lt hlen]
      rw [d1, d2, hq]
      exact hj
  obtain ⟨F, hF1, hF2, hF3⟩ := hrows.full (by omega)
  refine wpList_plain hgd fun K hK => ?_
  unfold Oper.wp execOp
  simp only [ho, resolve, invoke, builtin, Sem.run_bind, Sem.run_pure, Result.andThen_ok, List.map_toArray, List.map_cons, List.map_nil, hs, hx, hr]
  exact hK _ _ (h G _ F (show Rows _ _ _ _ _ _ from hF2) (show _ ∧ _ from ⟨hF1, hF3, hge, hcm⟩) (show Kept _ _ _ from (Kept.refl _ w).drew.alloc _))
/-- 'clear(s)', s in a block: what stands ahead of it stays. -/
theorem clear_rows (hgd : o.guard = none) (x : Operand) (T e : TypeId) (z : Array Value) (sz : Nat) (ho : o.op = .call { callee := .builtin .clear, args := #[x], argTypes := #[T] })
    (hT : P.underlying T = some (.slice e)) (hv : ∀ w, (zeroValue e).run P w = .ok (.agg z) w) (hz : z.size = sz) (hsz : 0 < sz) (h1 : z.all (·.oneCell') = true)
    {b q tot : Nat} {t : TypeId} {F : List (List Value)} (hF : Hid (Rows w b t tot sz F)) (p : Option Addr) (n c : Nat) (hx : a.eval x = .slice p n c) (hp : 0 < n → p = some ⟨b, q * sz, none⟩) (hd : q + n ≤ F.length)
    (h : ∀ w', Hid (Rows w' b t tot sz (F.take q)) → Hid (Kept (fun x => x = b) w w') → wpList P ops Q rest (a.put o.dst (.tuple #[])) w') : wpList P ops Q (o :: rest) a w := by
  refine wpList_plain hgd fun K hK => ?_
  cases n with
  | zero =>
    have hr : (Builtin.clear_ #[T] o.type #[.slice p 0 c]).run P w = .ok (.tuple #[]) w := by
      cases p <;> simp [Builtin.clear_, run_underlying hT]
    unfold Oper.wp execOp
    simp only [ho, resolve, invoke, builtin, Sem.run_bind, Sem.run_pure, Result.andThen_ok, List.map_toArray, List.map_cons, List.map_nil, hx, hr]
    exact hK _ _ (h w (show Rows _ _ _ _ _ _ from hF.out.take q) (show Kept _ _ _ from Kept.refl _ _))
  | succ n =>
    obtain rfl := hp (by omega)
    have hbd := hF.out.bound
    have hle : (q + (n + 1)) * sz ≤ F.length * sz := Nat.mul_le_mul_right _ hd
    rw [Nat.add_mul] at hle
    have hth : w.there b (q * sz) ((n + 1) * sz) := hF.out.there_at (by omega)
    have hlen : (Builtin.zeroCells z (n + 1)).toList.length = (n + 1) * sz := by simp [Builtin.zeroCells, hz]
    have hst := run_storeCells_cells (P := P) b (q * sz) (Builtin.zeroCells z (n + 1)).toList 0 w (fun j hj => by simpa using (hth j (by omega)).1) (fun j hj => by simpa using (hth j (by omega)).2) (fun v hv' => by
      simp [Builtin.zeroCells] at hv'
      obtain ⟨i, _, rfl⟩ := hv'
      have hlt : i % z.size < z.size := Nat.mod_lt _ (by omega)
      rw [getElem!_pos z _ hlt]
      rw [Array.all_eq_true] at h1
      exact h1 _ hlt)
    simp only [Nat.add_zero] at hst
    have hcl : (Value.agg z).cells = z := rfl
    have hr : (Builtin.clear_ #[T] o.type #[.slice (some ⟨b, q * sz, none⟩) (n + 1) c]).run P w = .ok (.tuple #[]) (w.setCells b (q * sz) (Builtin.zeroCells z (n + 1)).toList) := by
      simp [Builtin.clear_, run_underlying hT, hv, hcl, hst]
    unfold Oper.wp execOp
    simp only [ho, resolve, invoke, builtin, Sem.run_bind, Sem.run_pure, Result.andThen_ok, List.map_toArray, List.map_cons, List.map_nil, hx, hr]
    have hlt : (F.take q).length = q := by rw [List.length_take]; omega
    exact hK _ _ (h _ (show Rows _ _ _ _ _ _ from (hF.out.take q).behind _ (by rw [hlt]; exact Nat.le_refl _) (by rw [hlen]; omega)) (show Kept _ _ _ from Kept.setCells (F := fun x => x = b) (.inl rfl) _ _ _ (Kept.refl _ _)))
end
end Go.Proofs.YtoccbfgcmaahcaaDoor
/-
  'append(v, u...)' of rows, v the call's own or nil, u any part of a row: where the result lies, what it turns. No program is spoken of.
-/
namespace Go.Proofs.YtoccbfgcmaahcaaDoor
open Go.RowKit

section
variable {P : Program} {ops : Array Oper} {rest : List Oper} {o : Oper} {a : Act} {w : World} {Q : Exit → Act → World → Prop}
theorem append_any (hgd : o.guard = none) (s x : Operand) (T e : TypeId) (i : TypeInfo) (z : Value) (sz bytes : Nat) (ho : o.op = .call { callee := .builtin .append, args := #[s, x], argTypes := #[T, T] })
    (hT : P.underlying T = some (.slice e)) (hi : P.info? e = some i) (hz : i.zero = some z) (hsize : i.size = sz) (hby : i.bytes = bytes) (hzs : z.cells.size = sz) (hsz : 0 < sz) (hbl : bytes ≤ 200)
    {v : Value} {ad : Addr} {m2 c2 : Nat} {R1 R2 : List (List Value)} (hs : a.eval s = v) (hx : a.eval x = .slice (some ad) m2 c2) (hv : SRows w v e sz R1) (hl2 : R2.length = m2) (hr2 : ∀ r ∈ R2, r.length = sz)
    (hnews : ∀ (j : Nat) u, R2.flatten[j]? = some u → w.cell? (ad.add j) = some u) (h1 : ∀ r ∈ R2, ∀ c ∈ r, c.oneCell' = true) (m : Nat) (hm : R1.length + m2 = m) (R : List (List Value)) (hR : R1 ++ R2 = R) (hl : m ≤ 1000000)
    (h : ∀ va vc w', Hid (SRows w' (.slice va m vc) e sz R) → Hid (∀ k, (Value.slice va m vc).ownBlock = some k → v.ownBlock = some k ∨ w.heap.size ≤ k) → Hid (Kept (fun x => v.ownBlock = some x) w w') → wpList P ops Q rest (a.put o.dst (.slice va m vc)) w') :
    wpList P ops Q (o :: rest) a w := by
  subst hm hR hl2
  have hlens : ∀ r ∈ R1 ++ R2, r.length = sz := fun r hr => by
    rcases List.mem_append.1 hr with hr | hr
    · exact hv.rowlen r hr
    · exact hr2 r hr
  have hone : ∀ u ∈ R2.flatten, u.oneCell' = true := by
    intro u hu
    obtain ⟨r, hr, hur⟩ := List.mem_flatten.1 hu
    exact h1 r hr u hur
  have h63 : R1.length + R2.length ≤ maxLen := by unfold maxLen; omega
  have hbytes : (R1.length + R2.length) * bytes ≤ 140737488355328 := by
    have : (R1.length + R2.length) * bytes ≤ 1000000 * 200 := Nat.mul_le_mul hl hbl
    omega
  have hown := srows_own_base hv hsz (B := 0) (fun _ _ => Nat.zero_le _)
  obtain ⟨v', w', hr, hown', hgrow, _⟩ := run_append_own (P := P) w 0 T o.type e i z sz bytes hT hi hz hsize hby hzs hsz _ R1.length R1.flatten hown ad R2.length c2 R2.flatten (length_flat R2 hr2) hnews hone h63 hbytes (Nat.zero_le _)
  obtain ⟨⟨va, vc, rfl⟩, _⟩ := own_shape hown'
  have hwhere : ∀ k, (Value.slice va (R1.length + R2.length) vc).ownBlock = some k → v.ownBlock = some k ∨ w.heap.size ≤ k := by
    rcases hv with ⟨rfl, rfl⟩ | ⟨g, cap, rfl, hc1, hc2, cur, hg, hcur, _⟩
    · have hown2 := srows_own_base (w := w) (v := .slice none 0 0) (t := e) (sz := sz) (R := []) (.inl ⟨rfl, rfl⟩) hsz (B := w.heap.size) (noOwn _)
      obtain ⟨v2, w2, hr2', hown2', _, _⟩ := run_append_own (P := P) w w.heap.size T o.type e i z sz bytes hT hi hz hsize hby hzs hsz _ 0 [] hown2 ad R2.length c2 R2.flatten (length_flat R2 hr2) hnews hone (by simpa using h63) (by simpa using hbytes) (Nat.le_refl _)
      rw [hr2'] at hr
      simp only [Result.ok.injEq] at hr
      rw [hr.1] at hown2'
      intro k hk
      exact .inr ((own_shape hown2').2 k hk)
    · subst hsize
      subst hby
      by_cases hroom : R1.length + R2.length ≤ cap
      · have hfit : R1.length * i.size + R2.flatten.length ≤ cur.size := by
          rw [length_flat R2 hr2, hcur, ← Nat.add_mul]
          exact Nat.mul_le_mul_right _ hroom
        have hr3 := run_append_room (P := P) w T o.type e i hT hi g R1.length cap cur hg ad R2.length c2 R2.flatten (length_flat R2 hr2) hnews hone hroom hfit
        rw [hr3] at hr
        simp only [Result.ok.injEq, Value.slice.injEq] at hr
        obtain ⟨⟨rfl, _, rfl⟩, _⟩ := hr
        intro k hk
        exact .inl hk
      · have hr3 := run_append_grow (P := P) w T o.type e i z hT hi hz ⟨g, 0, none⟩ R1.length cap R1.flatten hown.1 (hown.cells (g := g) rfl) ad R2.length c2 R2.flatten (length_flat R2 hr2) hnews (by omega) (by unfold maxLen at h63; omega) (growslice_fits (by omega) hbytes)
        rw [hr3] at hr
        simp only [Result.ok.injEq, Value.slice.injEq] at hr
        obtain ⟨⟨rfl, _, rfl⟩, _⟩ := hr
        intro k hk
        simp [Value.ownBlock] at hk
        exact .inr (by omega)
  refine wpList_plain hgd fun K hK => ?_
  unfold Oper.wp execOp
  simp only [ho, resolve, invoke, builtin, Sem.run_bind, Sem.run_pure, Result.andThen_ok, List.map_toArray, List.map_cons, List.map_nil, hs, hx, hr]
  refine hK _ _ (h va vc w' (show SRows _ _ _ _ _ from srows_of_own hown' (by rw [List.flatten_append]) hlens hsz (by simp)) (show ∀ _, _ from hwhere) (show Kept _ _ _ from (Kept.refl _ w).grown hgrow (fun k hk => .inl hk)))
end
end Go.Proofs.YtoccbfgcmaahcaaDoor
/-
  Cells as the document has them: which may be, and which of two stands first. No program is spoken of.
-/
namespace Go.Proofs.YtoccbfgcmaahcaaDoor
open Go.RowKit

structure Cl where
  k : Int
  n : Int
  s : ByteArray
/-- A cell as a value. -/
abbrev cv (c : Cl) : Value := .agg #[.int .i64 c.k, .int .i64 c.n, .string c.s]
def cl0 : Cl := ⟨0, 0, ⟨#[]⟩⟩

theorem toList_inj {a b : ByteArray} (h : a.toList = b.toList) : a = b := by
  rw [Lib.toList_data, Lib.toList_data] at h
  exact ByteArray.ext (Array.toList_inj.1 h)
theorem cl_ext {a b : Cl} (hk : a.k = b.k) (hn : a.n = b.n) (hs : a.s.toList = b.s.toList) : a = b := by
  cases a; cases b
  simp only at hk hn hs
  rw [hk, hn, toList_inj hs]
theorem toList_len (s : ByteArray) : s.toList.length = s.size := by
  rw [Lib.toList_data, ← Lib.size_eq]

/-- May a cell be? -/
def mayC (c : Cl) : Bool := (c.k == 0 && (c.n == 0 && c.s.size == 0)) || (c.k == 1 && c.s.size == 0) || (c.k == 2 && (c.n == 0 && decide (c.s.size ≤ 32)))

def cmpI (a b : Int) : Int := if a < b then -1 else if b < a then 1 else 0
def cmpS (a b : ByteArray) : Int := if Op.bytesLess a.toList b.toList = true then -1 else if a.toList = b.toList then 0 else 1
/-- Which of two cells stands first. -/
def cmpC (a b : Cl) : Int := if a.k = b.k then if a.n = b.n then cmpS a.s b.s else cmpI a.n b.n else cmpI a.k b.k

theorem bless_irrefl : ∀ l : List UInt8, Op.bytesLess l l = false
  | [] => rfl
  | a :: x => by
    have ih := bless_irrefl x
    have : ¬ a < a := fun h => by have := UInt8.lt_iff_toNat_lt.1 h; omega
    simp [Op.bytesLess, ih, this]
theorem bless_asymm : ∀ a b : List UInt8, Op.bytesLess a b = true → Op.bytesLess b a = false
  | _, [], h => by simp [Op.bytesLess] at h
  | [], _ :: _, _ => by simp [Op.bytesLess]
  | a :: x, b :: y, h => by
    have ih := bless_asymm x y
    simp only [Op.bytesLess, Bool.or_eq_true, decide_eq_true_eq, Bool.and_eq_true, beq_iff_eq] at h
    simp only [Op.bytesLess, Bool.or_eq_false_iff, decide_eq_false_iff_not, Bool.and_eq_false_iff, beq_eq_false_iff_ne]
    rcases h with h | ⟨rfl, h⟩
    · have h' := UInt8.lt_iff_toNat_lt.1 h
      refine ⟨fun e => ?_, .inl fun e => ?_⟩
      · have := UInt8.lt_iff_toNat_lt.1 e; omega
      · subst e; omega
    · refine ⟨fun e => ?_, .inr (ih h)⟩
      have := UInt8.lt_iff_toNat_lt.1 e; omega
theorem bless_total : ∀ a b : List UInt8, a ≠ b → Op.bytesLess a b = false → Op.bytesLess b a = true
  | [], [], h, _ => absurd rfl h
  | _ :: _, [], _, _ => by simp [Op.bytesLess]
  | [], _ :: _, _, h => by simp [Op.bytesLess] at h
  | a :: x, b :: y, hne, h => by
    have ih := bless_total x y
    simp only [Op.bytesLess, Bool.or_eq_false_iff, decide_eq_false_iff_not, Bool.and_eq_false_iff, beq_eq_false_iff_ne] at h
    simp only [Op.bytesLess, Bool.or_eq_true, decide_eq_true_eq, Bool.and_eq_true, beq_iff_eq]
    by_cases e : a = b
    · subst e
      refine .inr ⟨rfl, ih (fun e => hne (by rw [e])) ?_⟩
      rcases h.2 with h2 | h2
      · exact absurd rfl h2
      · exact h2
    · refine .inl (UInt8.lt_iff_toNat_lt.2 ?_)
      have h1 : ¬ a.toNat < b.toNat := fun h' => h.1 (UInt8.lt_iff_toNat_lt.2 h')
      have h2 : a.toNat ≠ b.toNat := fun h' => e (UInt8.toNat_inj.1 h')
      omega
theorem bless_trans : ∀ a b c : List UInt8, Op.bytesLess a b = true → Op.bytesLess b c = true → Op.bytesLess a c = true
  | _, _, [], _, h => by simp [Op.bytesLess] at h
  | [], _, _ :: _, _, _ => by simp [Op.bytesLess]
  | _ :: _, [], _ :: _, h, _ => by simp [Op.bytesLess] at h
  | a :: x, b :: y, c :: z, h1, h2 => by
    have ih := bless_trans x y z
    simp only [Op.bytesLess, Bool.or_eq_true, decide_eq_true_eq, Bool.and_eq_true, beq_iff_eq] at *
    rcases h1 with h1 | ⟨rfl, h1⟩
    · have h1' := UInt8.lt_iff_toNat_lt.1 h1
      rcases h2 with h2 | ⟨rfl, h2⟩
      · have h2' := UInt8.lt_iff_toNat_lt.1 h2
        exact .inl (UInt8.lt_iff_toNat_lt.2 (by omega))
      · exact .inl h1
    · rcases h2 with h2 | ⟨rfl, h2⟩
      · exact .inl h2
      · exact .inr ⟨rfl, ih h1 h2⟩

theorem cmpI_flip (a b : Int) : cmpI b a = - cmpI a b := by unfold cmpI; (repeat' split) <;> omega
theorem cmpS_flip (a b : ByteArray) : cmpS b a = - cmpS a b := by
  unfold cmpS
  by_cases e : a.toList = b.toList
  · rw [e, bless_irrefl]; simp
  · cases h : Op.bytesLess a.toList b.toList with
    | true => rw [bless_asymm _ _ h]; simp [Ne.symm e]
    | false => rw [bless_total _ _ e h]; simp [e]
theorem cmpS_zero (a b : ByteArray) : cmpS a b = 0 ↔ a.toList = b.toList := by
  unfold cmpS
  by_cases e : a.toList = b.toList
  · rw [e, bless_irrefl]; simp
  · simp only [e, if_false, iff_false]
    split <;> omega
theorem cmpS_bd (a b : ByteArray) : -1 ≤ cmpS a b ∧ cmpS a b ≤ 1 := by unfold cmpS; (repeat' split) <;> omega
theorem cmpS_trans (a b c : ByteArray) (h1 : cmpS a b ≤ 0) (h2 : cmpS b c ≤ 0) : cmpS a c ≤ 0 := by
  have e1 : a.toList = b.toList ∨ Op.bytesLess a.toList b.toList = true := by
    unfold cmpS at h1
    split at h1
    · exact .inr ‹_›
    · split at h1
      · exact .inl ‹_›
      · omega
  have e2 : b.toList = c.toList ∨ Op.bytesLess b.toList c.toList = true := by
    unfold cmpS at h2
    split at h2
    · exact .inr ‹_›
    · split at h2
      · exact .inl ‹_›
      · omega
  have e3 : a.toList = c.toList ∨ Op.bytesLess a.toList c.toList = true := by
    rcases e1 with e1 | e1
    · rw [e1]; exact e2
    · rcases e2 with e2 | e2
      · rw [← e2]; exact .inr e1
      · exact .inr (bless_trans _ _ _ e1 e2)
  unfold cmpS
  rcases e3 with e3 | e3
  · rw [e3]; (repeat' split) <;> simp_all
  · simp [e3]
theorem cmpC_flip (a b : Cl) : cmpC b a = - cmpC a b := by
  unfold cmpC
  have h1 := cmpI_flip a.k b.k
  have h2 := cmpI_flip a.n b.n
  have h3 := cmpS_flip a.s b.s
  (repeat' split) <;> omega
theorem cmpI_zero (a b : Int) : cmpI a b = 0 ↔ a = b := by unfold cmpI; (repeat' split) <;> omega
theorem cmpI_bd (a b : Int) : -1 ≤ cmpI a b ∧ cmpI a b ≤ 1 := by unfold cmpI; (repeat' split) <;> omega
theorem cmpC_bd (a b : Cl) : -1 ≤ cmpC a b ∧ cmpC a b ≤ 1 := by
  unfold cmpC
  have h1 := cmpI_bd a.k b.k
  have h2 := cmpI_bd a.n b.n
  have h3 := cmpS_bd a.s b.s
  (repeat' split) <;> omega
theorem cmpC_zero (a b : Cl) : cmpC a b = 0 ↔ a = b := by
  constructor
  · intro h
    unfold cmpC at h
    have h1 := cmpI_zero a.k b.k
    have h2 := cmpI_zero a.n b.n
    have h3 := cmpS_zero a.s b.s
    split at h
    · split at h
      · exact cl_ext ‹_› ‹_› (h3.1 h)
      · exact absurd (h2.1 h) ‹_›
    · exact absurd (h1.1 h) ‹_›
  · rintro rfl
    have := (cmpS_zero a.s a.s).2 rfl
    simp [cmpC, this]
theorem cmpC_trans (a b c : Cl) (h1 : cmpC a b ≤ 0) (h2 : cmpC b c ≤ 0) : cmpC a c ≤ 0 := by
  have h3 := cmpS_trans a.s b.s c.s
  unfold cmpC cmpI at *
  (repeat' split at h1) <;> (repeat' split at h2) <;> (repeat' split) <;> omega
end Go.Proofs.YtoccbfgcmaahcaaDoor
/-
  The contracts of cmp.Compare at ints and texts, of package cell's Compare, meant and Check, and of the document's Compare and May.
-/
namespace Go.Proofs.YtoccbfgcmaahcaaDoor
open Go.RowKit

theorem retI {a b : Int} (h : b = a) : Ending.returned (.int .i64 a) = .returned (.int .i64 b) := by rw [h]
theorem retB {a b : Bool} (h : b = a) : Ending.returned (.bool a) = .returned (.bool b) := by rw [h]

theorem belowTwo (w : World) (A B : Obj) : Below w.heap.size w ((w.alloc A).alloc B) := ((Below.refl _ w).alloc (Nat.le_refl _) _).alloc (by simp) _

end Go.Proofs.YtoccbfgcmaahcaaDoor
/-
  The contracts of package cell's number, text, meant and Check, and of the document's Compare and May.
-/
namespace Go.Proofs.YtoccbfgcmaahcaaDoor
open Go.RowKit

def numC (n : Int) : Cl := ⟨1, n, ⟨#[]⟩⟩
def txtC (s : ByteArray) : Cl := ⟨2, 0, s⟩
def meantC (c : Cl) : Cl := if c.k = 1 then numC c.n else if c.k = 2 then txtC c.s else cl0
/-- A cell's cells in memory. -/
abbrev ca (c : Cl) : Array Value := #[.int .i64 c.k, .int .i64 c.n, .string c.s]
theorem size_cell : (Tryd.prog.info? 42).map (·.size) = some 3 := by kernel_rfl
theorem ca_one (c : Cl) : (ca c).all (·.oneCell') = true := by simp [ca, Value.oneCell']

set_option maxHeartbeats 1000000 in
theorem number_any (n : Int) (w : World) :
    Calls Tryd.prog 46 #[.int .i64 n] w fun e w' => e = .returned (cv (numC n)) ∧ Below w.heap.size w w' := by
  go_enter Tryd.func46, Tryd.ntmps46
  go_wp2
  exact bodyPost_ret (v := cv (numC n)) (by simp [results, Tryd.results46, go_sem, numC]) rfl ⟨rfl, below1 _ _⟩
set_option maxHeartbeats 1000000 in
theorem text_any (s : ByteArray) (w : World) :
    Calls Tryd.prog 47 #[.string s] w fun e w' => e = .returned (cv (txtC s)) ∧ Below w.heap.size w w' := by
  go_enter Tryd.func47, Tryd.ntmps47
  go_wp2
  exact bodyPost_ret (v := cv (txtC s)) (by simp [results, Tryd.results47, go_sem, txtC]) rfl ⟨rfl, below1 _ _⟩

set_option maxHeartbeats 1000000 in
theorem meant_any (c : Cl) (w : World) :
    Calls Tryd.prog 49 #[cv c] w fun e w' => e = .returned (cv (meantC c)) ∧ Below w.heap.size w w' := by
  by_cases h1 : c.k = 1
  · have HE : Hid (meantC c = numC c.n) := by unfold Hid meantC; rw [if_pos h1]
    go_enter Tryd.func49, Tryd.ntmps49
    go_wp2_with (first
      | (go_at_call 46; refine (number_any _ _).mono ?_; rintro e w1 ⟨rfl, hb1⟩; obtain ⟨-, bx1, hB⟩ := two_box hb1; clear hb1; have F1 := bx1.setRow (ca (numC c.n)); have hone := ca_one (numC c.n))
      | (refine wpList_store_row rfl 42 _ _ rfl (w.heap.size + 1) (ca (numC c.n)) rfl rfl 42 _ bx1 size_cell rfl hone ?_))
    rw [HE.out]
    exact bodyPost_ret (res_box Tryd.results49 _ rfl F1 Tryd.underlying42 rfl size_cell) rfl ⟨rfl, below_setRow hB (by omega) _⟩
  · by_cases h2 : c.k = 2
    · have HE : Hid (meantC c = txtC c.s) := by unfold Hid meantC; rw [if_neg h1, if_pos h2]
      go_enter Tryd.func49, Tryd.ntmps49
      go_wp2_with (first
        | (go_at_call 47; refine (text_any _ _).mono ?_; rintro e w1 ⟨rfl, hb1⟩; obtain ⟨-, bx1, hB⟩ := two_box hb1; clear hb1; have F1 := bx1.setRow (ca (txtC c.s)); have hone := ca_one (txtC c.s))
        | (refine wpList_store_row rfl 42 _ _ rfl (w.heap.size + 1) (ca (txtC c.s)) rfl rfl 42 _ bx1 size_cell rfl hone ?_))
      rw [HE.out]
      exact bodyPost_ret (res_box Tryd.results49 _ rfl F1 Tryd.underlying42 rfl size_cell) rfl ⟨rfl, below_setRow hB (by omega) _⟩
    · have HE : Hid (meantC c = cl0) := by unfold Hid meantC; rw [if_neg h1, if_neg h2]
      have h1' : (c.k == 1) = false := by simpa using h1
      have h2' : (c.k == 2) = false := by simpa using h2
      clear h1 h2
      go_enter Tryd.func49, Tryd.ntmps49
      go_wp2_with fail
      rw [HE.out]
      exact bodyPost_ret (v := cv cl0) (by simp [results, Tryd.results49, go_sem, cl0]) rfl ⟨rfl, below2 _ _ _⟩
theorem emp_size (s : ByteArray) : s.toList.isEmpty = (s.size == 0) := by
  rw [Bool.eq_iff_iff, List.isEmpty_iff, beq_iff_eq, ← toList_len]
  exact List.length_eq_zero_iff.symm
set_option maxHeartbeats 1000000 in
theorem may_any (c : Cl) (w : World) :
    Calls Tryd.prog 44 #[cv c] w fun e w' => e = .returned (.bool (mayC c)) ∧ Below w.heap.size w w' := by
  by_cases h0 : c.k = 0
  · by_cases hn : c.n = 0
    · have HE : Hid (mayC c = c.s.toList.isEmpty) := by unfold Hid mayC; rw [h0, hn, emp_size]; simp
      go_enter Tryd.func44, Tryd.ntmps44
      go_wp2
      go_ret
      exact ⟨retB HE.out, below1 _ _⟩
    · have HE : Hid (mayC c = false) := by unfold Hid mayC; rw [h0]; simp [hn]
      go_enter Tryd.func44, Tryd.ntmps44
      go_wp2
      go_ret
      exact ⟨retB HE.out, below1 _ _⟩
  · have h0' : (c.k == 0) = false := by simpa using h0
    by_cases h1 : c.k = 1
    · have HE : Hid (mayC c = c.s.toList.isEmpty) := by unfold Hid mayC; rw [h1, emp_size]; simp
      clear h0 h0'
      go_enter Tryd.func44, Tryd.ntmps44
      go_wp2
      go_ret
      exact ⟨retB HE.out, below1 _ _⟩
    · have h1' : (c.k == 1) = false := by simpa using h1
      by_cases h2 : c.k = 2
      · clear h0 h1 h0' h1'
        by_cases hn : c.n = 0
        · have HE : Hid (mayC c = decide ((c.s.size : Int) ≤ 32)) := by
            unfold Hid mayC; rw [h2, hn, Bool.eq_iff_iff]; simp; omega
          go_enter Tryd.func44, Tryd.ntmps44
          go_wp2
          go_ret
          exact ⟨retB HE.out, below1 _ _⟩
        · have HE : Hid (mayC c = false) := by unfold Hid mayC; rw [h2]; simp [hn]
          go_enter Tryd.func44, Tryd.ntmps44
          go_wp2
          go_ret
          exact ⟨retB HE.out, below1 _ _⟩
      · have HE : Hid (mayC c = false) := by unfold Hid mayC; simp [h0, h1, h2]
        have h2' : (c.k == 2) = false := by simpa using h2
        clear h0 h1 h2
        go_enter Tryd.func44, Tryd.ntmps44
        go_wp2
        go_ret
        exact ⟨retB HE.out, below1 _ _⟩
/-- A cell in a new block, in every world above. -/
theorem above_ca {w : World} {t : TypeId} {x y : Int} {s : ByteArray} : (∀ k : Above (w.alloc (.cells #[.int .i64 x, .int .i64 y, .string s] t)), k.it.cell? ⟨w.heap.size, 0, none⟩ = some (.int .i64 x)) ∧ (∀ k : Above (w.alloc (.cells #[.int .i64 x, .int .i64 y, .string s] t)), k.it.cell? ⟨w.heap.size, 1, none⟩ = some (.int .i64 y)) ∧ ∀ k : Above (w.alloc (.cells #[.int .i64 x, .int .i64 y, .string s] t)), k.it.cell? ⟨w.heap.size, 2, none⟩ = some (.string s) :=
  ⟨fun k => ((box_new _ _ _).over k.is).cell 0 _ rfl, fun k => ((box_new _ _ _).over k.is).cell 1 _ rfl, fun k => ((box_new _ _ _).over k.is).cell 2 _ rfl⟩
/-- What Check answers. -/
def errC (c : Cl) : Int := if mayC c = true then 0 else 1
set_option maxHeartbeats 1000000 in
theorem check_any (c : Cl) (w : World) :
    Calls Tryd.prog 40 #[cv c] w fun e w' => e = .returned (.int .i64 (errC c)) ∧ Below w.heap.size w w' := by
  obtain ⟨k, n, s⟩ := c
  have hs := emp_size s
  simp only [cv]
  by_cases h1 : k = 1
  · subst h1
    have hmt : ∀ w, Calls Tryd.prog 49 #[.agg #[.int .i64 1, .int .i64 n, .string s]] w fun e w' => e = .returned (.agg #[.int .i64 1, .int .i64 n, .string ⟨#[]⟩]) ∧ Below w.heap.size w w' := fun w => meant_any ⟨1, n, s⟩ w
    cases he : s.toList.isEmpty with
    | true =>
      have HE : Hid (errC ⟨1, n, s⟩ = 0) := by unfold Hid errC mayC; rw [he] at hs; simp [← hs]
      have hsz : ¬ (32 : Int) < (s.size : Int) := by rw [he] at hs; have := beq_iff_eq.1 hs.symm; omega
      clear hs
      go_enter Tryd.func40, Tryd.ntmps40
      go_wp2_with fail
      refine wp_region_above (by kernel_rfl) (by kernel_rfl) ?_
      intro hne
      obtain ⟨q0, q1, q2⟩ := above_ca (w := w) (t := 42) (x := 1) (y := n) (s := s)
      repeat (go_big_quiet_step ((go_at_call 49; exact above_of (hmt _))))
      refine wpQuiet_nil ?_
      rintro _ ⟨kq, rfl⟩
      have hbq := kq.is
      go_wp2_with fail
      go_ret
      exact ⟨retI HE.out, (below1 _ _).trans (hbq.mono (by simp))⟩
    | false =>
      have HE : Hid (errC ⟨1, n, s⟩ = 1) := by unfold Hid errC mayC; rw [he] at hs; simp [← hs]
      clear hs
      go_enter Tryd.func40, Tryd.ntmps40
      go_wp2_with fail
      refine wp_region_above (by kernel_rfl) (by kernel_rfl) ?_
      intro hne
      obtain ⟨q0, q1, q2⟩ := above_ca (w := w) (t := 42) (x := 1) (y := n) (s := s)
      repeat (go_big_quiet_step ((go_at_call 49; exact above_of (hmt _))))
      refine wpQuiet_nil ?_
      rintro _ ⟨kq, rfl⟩
      have hbq := kq.is
      go_wp2_with fail
      go_ret
      exact ⟨retI HE.out, (below1 _ _).trans (hbq.mono (by simp))⟩
  · by_cases h2 : k = 2
    · subst h2
      clear h1 hs
      have hmt : ∀ w, Calls Tryd.prog 49 #[.agg #[.int .i64 2, .int .i64 n, .string s]] w fun e w' => e = .returned (.agg #[.int .i64 2, .int .i64 0, .string s]) ∧ Below w.heap.size w w' := fun w => meant_any ⟨2, n, s⟩ w
      by_cases hn : n = 0
      · subst hn
        by_cases hl : s.size ≤ 32
        · have HE : Hid (errC ⟨2, 0, s⟩ = 0) := by unfold Hid errC mayC; simp [hl]
          have hsz : ¬ (32 : Int) < (s.size : Int) := by omega
          clear hl
          go_enter Tryd.func40, Tryd.ntmps40
          go_wp2_with fail
          refine wp_region_above (by kernel_rfl) (by kernel_rfl) ?_
          intro hne
          obtain ⟨q0, q1, q2⟩ := above_ca (w := w) (t := 42) (x := 2) (y := 0) (s := s)
          repeat (go_big_quiet_step ((go_at_call 49; exact above_of (hmt _))))
          refine wpQuiet_nil ?_
          rintro _ ⟨kq, rfl⟩
          have hbq := kq.is
          go_wp2_with fail
          go_ret
          exact ⟨retI HE.out, (below1 _ _).trans (hbq.mono (by simp))⟩
        · have HE : Hid (errC ⟨2, 0, s⟩ = 1) := by unfold Hid errC mayC; simp [hl]
          have hsz : (32 : Int) < (s.size : Int) := by omega
          clear hl
          go_enter Tryd.func40, Tryd.ntmps40
          go_wp2_with fail
          refine wp_region_above (by kernel_rfl) (by kernel_rfl) ?_
          intro hne
          obtain ⟨q0, q1, q2⟩ := above_ca (w := w) (t := 42) (x := 2) (y := 0) (s := s)
          repeat (go_big_quiet_step ((go_at_call 49; exact above_of (hmt _))))
          refine wpQuiet_nil ?_
          rintro _ ⟨kq, rfl⟩
          have hbq := kq.is
          go_wp2_with fail
          go_ret
          exact ⟨retI HE.out, (below1 _ _).trans (hbq.mono (by simp))⟩
      · have HE : Hid (errC ⟨2, n, s⟩ = 1) := by unfold Hid errC mayC; simp [hn]
        have hn' : (n == 0) = false := by simpa using hn
        clear hn
        go_enter Tryd.func40, Tryd.ntmps40
        go_wp2_with fail
        refine wp_region_above (by kernel_rfl) (by kernel_rfl) ?_
        intro hne
        obtain ⟨q0, q1, q2⟩ := above_ca (w := w) (t := 42) (x := 2) (y := n) (s := s)
        repeat (go_big_quiet_step ((go_at_call 49; exact above_of (hmt _))))
        refine wpQuiet_nil ?_
        rintro _ ⟨kq, rfl⟩
        have hbq := kq.is
        go_wp2_with fail
        go_ret
        exact ⟨retI HE.out, (below1 _ _).trans (hbq.mono (by simp))⟩
    · have hmt : ∀ w, Calls Tryd.prog 49 #[.agg #[.int .i64 k, .int .i64 n, .string s]] w fun e w' => e = .returned (.agg #[.int .i64 0, .int .i64 0, .string ⟨#[]⟩]) ∧ Below w.heap.size w w' := fun w => by
        have hm : meantC ⟨k, n, s⟩ = cl0 := by unfold meantC; rw [if_neg h1, if_neg h2]
        have := meant_any ⟨k, n, s⟩ w
        rw [hm] at this; exact this
      by_cases h0 : k = 0
      · subst h0
        clear h1 h2
        by_cases hn : n = 0
        · subst hn
          cases he : s.toList.isEmpty with
          | true =>
            have HE : Hid (errC ⟨0, 0, s⟩ = 0) := by unfold Hid errC mayC; rw [he] at hs; simp [← hs]
            have hsz : ¬ (32 : Int) < (s.size : Int) := by rw [he] at hs; have := beq_iff_eq.1 hs.symm; omega
            clear hs
            go_enter Tryd.func40, Tryd.ntmps40
            go_wp2_with fail
            refine wp_region_above (by kernel_rfl) (by kernel_rfl) ?_
            intro hne
            obtain ⟨q0, q1, q2⟩ := above_ca (w := w) (t := 42) (x := 0) (y := 0) (s := s)
            repeat (go_big_quiet_step ((go_at_call 49; exact above_of (hmt _))))
            refine wpQuiet_nil ?_
            rintro _ ⟨kq, rfl⟩
            have hbq := kq.is
            go_wp2_with fail
            go_ret
            exact ⟨retI HE.out, (below1 _ _).trans (hbq.mono (by simp))⟩
          | false =>
            have HE : Hid (errC ⟨0, 0, s⟩ = 1) := by unfold Hid errC mayC; rw [he] at hs; simp [← hs]
            clear hs
            go_enter Tryd.func40, Tryd.ntmps40
            go_wp2_with fail
            refine wp_region_above (by kernel_rfl) (by kernel_rfl) ?_
            intro hne
            obtain ⟨q0, q1, q2⟩ := above_ca (w := w) (t := 42) (x := 0) (y := 0) (s := s)
            repeat (go_big_quiet_step ((go_at_call 49; exact above_of (hmt _))))
            refine wpQuiet_nil ?_
            rintro _ ⟨kq, rfl⟩
            have hbq := kq.is
            go_wp2_with fail
            go_ret
            exact ⟨retI HE.out, (below1 _ _).trans (hbq.mono (by simp))⟩
        · have HE : Hid (errC ⟨0, n, s⟩ = 1) := by unfold Hid errC mayC; simp [hn]
          have hn' : (n == 0) = false := by simpa using hn
          clear hn hs
          go_enter Tryd.func40, Tryd.ntmps40
          go_wp2_with fail
          refine wp_region_above (by kernel_rfl) (by kernel_rfl) ?_
          intro hne
          obtain ⟨q0, q1, q2⟩ := above_ca (w := w) (t := 42) (x := 0) (y := n) (s := s)
          repeat (go_big_quiet_step ((go_at_call 49; exact above_of (hmt _))))
          refine wpQuiet_nil ?_
          rintro _ ⟨kq, rfl⟩
          have hbq := kq.is
          go_wp2_with fail
          go_ret
          exact ⟨retI HE.out, (below1 _ _).trans (hbq.mono (by simp))⟩
      · have HE : Hid (errC ⟨k, n, s⟩ = 1) := by unfold Hid errC mayC; simp [h0, h1, h2]
        have h0' : (k == 0) = false := by simpa using h0
        clear h0 h1 h2 hs
        go_enter Tryd.func40, Tryd.ntmps40
        go_wp2_with fail
        refine wp_region_above (by kernel_rfl) (by kernel_rfl) ?_
        intro hne
        obtain ⟨q0, q1, q2⟩ := above_ca (w := w) (t := 42) (x := k) (y := n) (s := s)
        repeat (go_big_quiet_step ((go_at_call 49; exact above_of (hmt _))))
        refine wpQuiet_nil ?_
        rintro _ ⟨kq, rfl⟩
        have hbq := kq.is
        go_wp2_with fail
        go_ret
        exact ⟨retI HE.out, (below1 _ _).trans (hbq.mono (by simp))⟩
end Go.Proofs.YtoccbfgcmaahcaaDoor
