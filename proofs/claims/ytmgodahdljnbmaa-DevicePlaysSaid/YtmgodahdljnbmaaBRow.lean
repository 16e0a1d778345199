/-
  Bytes in a block of the call's own, to be turned in place: what a cell is, what a store makes of them, the string of them.
-/
import Derived.Test.YtmgodahdljnbmaaRows
import Derived.Test.YtmgodahdljnbmaaWords
import Derived.WalkKit
import Derived.WalkSpells
import Derived.WalkLawsBesides
import Derived.Laws.BytesString
import Derived.Laws.Cells
import Derived.Laws.IdiomStrings
import Derived.Below
import Derived.OwnWalk
import Derived.Deep.WholeRow
namespace Go.Proofs.Ytmgodahdljnbmaa
open Go.RowKit

/-- The text of a list of bytes. -/
def strB (l : List UInt8) : ByteArray := ⟨l.toArray⟩
theorem strB_size (l : List UInt8) : (strB l).size = l.length := rfl
theorem strB_list (l : List UInt8) : (strB l).data.toList = l := by simp [strB]
theorem strB_toList (l : List UInt8) : (strB l).toList = l := by
  rw [ByteArray.toList_eq]; exact strB_list l
theorem strB_of (s : ByteArray) : strB s.data.toList = s := by
  apply ByteArray.ext; simp [strB]

/-- In the world w the block b begins with the bytes l, and they may be turned. -/
def RowB (w : World) (b : Nat) (l : List UInt8) : Prop :=
  ∃ (c : Array Value) (t : TypeId) (fr : Nat × Nat), w.heap[b]? = some (.cells c t fr) ∧ (∀ i, i < l.length → c[i]? = some (.int .u8 ((l.getD i 0).toNat : Int))) ∧ (fr.2 ≤ fr.1 ∨ l.length ≤ fr.1)
theorem RowB.cell {w : World} {b : Nat} {l : List UInt8} (h : RowB w b l) (k : Nat) (hk : k < l.length) : w.cell? ⟨b, k, none⟩ = some (.int .u8 ((l.getD k 0).toNat : Int)) := by
  obtain ⟨c, t, fr, hb, hc, _⟩ := h
  rw [cell_of_row w b k c t fr hb]; exact hc k hk
theorem RowB.frozen {w : World} {b : Nat} {l : List UInt8} (h : RowB w b l) (k : Nat) (hk : k < l.length) : w.frozen? ⟨b, k, none⟩ = false := by
  obtain ⟨c, t, fr, hb, _, hf⟩ := h
  simp only [World.frozen?, hb]
  rcases hf with hf | hf
  · simp; omega
  · simp; omega
theorem RowB.set {w : World} {b : Nat} {l : List UInt8} (h : RowB w b l) (k : Nat) (hk : k < l.length) (x : UInt8) : RowB (w.setCell ⟨b, k, none⟩ (.int .u8 (x.toNat : Int))) b (l.set k x) := by
  obtain ⟨c, t, fr, hb, hc, hf⟩ := h
  have hck : k < c.size := (Array.getElem?_eq_some_iff.1 (hc k hk)).1
  refine ⟨c.setIfInBounds k (.int .u8 (x.toNat : Int)), t, fr, ?_, ?_, by simpa using hf⟩
  · simp [World.setCell, Array.getElem?_modify, hb]
  · intro i hi
    rw [List.length_set] at hi
    rw [Array.getElem?_setIfInBounds]
    by_cases e : k = i
    · subst e
      simp [hck, hk]
    · rw [if_neg e, hc i hi]
      simp [List.getD_eq_getElem?_getD, e]
theorem RowB.below {w w' : World} {b B : Nat} {l : List UInt8} (h : RowB w b l) (hb : Below B w w') (hB : b < B) : RowB w' b l := by
  obtain ⟨c, t, fr, h1, h2⟩ := h
  exact ⟨c, t, fr, by rw [hb.block b hB]; exact h1, h2⟩
theorem RowB.lt {w : World} {b : Nat} {l : List UInt8} (h : RowB w b l) : b < w.heap.size := by
  obtain ⟨c, t, fr, h1, _⟩ := h
  exact (Array.getElem?_eq_some_iff.1 h1).1
theorem RowB.drew {w : World} {b : Nat} {l : List UInt8} (h : RowB w b l) : RowB w.drew b l := h
theorem rowB_new (w : World) (c : Array Value) (t : TypeId) (l : List UInt8) (h : ∀ i, i < l.length → c[i]? = some (.int .u8 ((l.getD i 0).toNat : Int))) : RowB (w.alloc (.cells c t)) w.heap.size l :=
  ⟨c, t, (0, 0), heap_alloc_last w _, h, .inl (Nat.le_refl _)⟩
/-- 'string(b)' of such bytes. -/
theorem RowB.text {w : World} {b : Nat} {l : List UInt8} (h : RowB w b l) (cap : Nat) :
    (convert 60 9 (.slice (some ⟨b, 0, none⟩) l.length cap)).run Try.prog w = .ok (.string (strB l)) w := by
  refine run_convert_bytes_back w _ _ 5 _ cap l Try.underlying60 Try.underlying5 Try.underlying9 ?_
  intro j hj
  have hadd : (⟨b, 0, none⟩ : Addr).add j = ⟨b, j, none⟩ := by unfold Addr.add; split <;> simp_all
  rw [hadd, h.cell j hj]
  simp [hj]
/-- '[]byte(s)'. -/
theorem bytes_of (s : ByteArray) (w : World) :
    ∃ cap w', (convert 9 60 (.string s)).run Try.prog w = .ok (.slice (some ⟨w.heap.size, 0, none⟩) s.size cap) w' ∧ RowB w' w.heap.size s.data.toList ∧ Below w.heap.size w w' := by
  refine ⟨_, _, run_bytes_of_string w _ _ 5 s Try.underlying9 Try.underlying60 Try.underlying5, ?_, ?_⟩
  · refine ⟨_, _, _, heap_alloc_last w.drew _, ?_, .inr ?_⟩
    · intro i hi
      have hi2 : i < s.data.size := by simpa using hi
      unfold bytesRow
      rw [Array.getElem?_append_left (by simpa using hi2), Array.getElem?_map, Array.getElem?_eq_getElem hi2, List.getD_eq_getElem?_getD, Array.getElem?_toList, Array.getElem?_eq_getElem hi2]
      rfl
    · simp [bytesRow]
  · exact ((Below.refl _ _).drew).alloc (Nat.le_refl _) _
theorem infoB_u8 : (Try.prog.info? 5).map (fun i => (i.zero, i.size, i.bytes)) = some (some (.int .u8 0), 1, 1) := by kernel_rfl
/-- 'make([]byte, n)'. -/
theorem make_u8 {ops : Array Oper} {rest : List Oper} {o : Oper} {a : Act} {Q : Exit → Act → World → Prop} (hgd : o.guard = none) (l c : Operand) (hop : o.op = Op.makeSlice 60 l c)
    {w : World} {C : Int} {n : Nat} (hl : a.eval l = .int .i64 C) (hc : a.eval c = .int .i64 C) (hC : C = (n : Int)) (hn : n ≤ 1000000)
    (h : ∀ w', RowB w' w.heap.size (List.replicate n 0) → Below w.heap.size w w' → wpList Try.prog ops Q rest (a.put o.dst (.slice (some ⟨w.heap.size, 0, none⟩) n n)) w') : wpList Try.prog ops Q (o :: rest) a w := by
  obtain ⟨i0, hi, hz0, hz1, hz2⟩ := info_parts infoB_u8
  refine wpList_plain hgd fun K hK' => ?_
  have hr := run_make (P := Try.prog) w 60 5 i0 (.int .u8 0) Try.underlying60 hi hz0 .i64 .i64 n n (by omega) (Int.le_refl _) (by rw [hz2]; omega) (by omega)
  subst hC
  unfold Oper.wp
  simp [execOp, hop, hl, hc, hr, Result.andThen]
  refine hK' _ _ (h _ ?_ ?_)
  · refine rowB_new _ _ _ _ ?_
    intro i hi
    rw [List.length_replicate] at hi
    rw [hz1, Nat.mul_one]
    have e : (Value.int IntKind.u8 0).cells = #[.int .u8 0] := rfl
    rw [e]
    simp [madeCells, hi, Nat.mod_one]
  · exact (Below.refl _ _).alloc (Nat.le_refl _) _
end Go.Proofs.Ytmgodahdljnbmaa
