/-
  Slices of bytes and of ints that a call makes by append: what they own, as lists of bytes and of words; the laws for append of one element and for the string of bytes.
-/
import Derived.Test.YtlohljefhcidkaaRows
import Derived.Test.YtlohljefhcidkaaWords
import Derived.WalkKit
import Derived.WalkSpells
import Derived.WalkLawsBesides
import Derived.Laws.BytesString
import Derived.Laws.Cells
namespace Go.Proofs.Ytlohljefhcidkaa
open Go.RowKit

def bv (l : List UInt8) : List Value := l.map fun b => .int .u8 (b.toNat : Int)
def iv (l : List (BitVec 64)) : List Value := l.map fun x => .int .i64 x.toInt
def OwnsB (w : World) (B : Nat) (v : Value) (l : List UInt8) : Prop := w.ownsRow B 5 1 v l.length (bv l)
def OwnsI (w : World) (B : Nat) (v : Value) (l : List (BitVec 64)) : Prop := w.ownsRow B 3 1 v l.length (iv l)

theorem ownsRow_below {w w' : World} {B : Nat} {e : TypeId} {size : Nat} {v : Value} {n : Nat} {xs : List Value} (h : w.ownsRow B e size v n xs) (hb : Below w.heap.size w w') : w'.ownsRow B e size v n xs := by
  refine ⟨h.1, ?_⟩
  rcases h.2 with hn | ⟨g, cap, cur, rfl, hbg, hg, rest⟩
  · exact .inl hn
  · refine .inr ⟨g, cap, cur, rfl, hbg, ?_, rest⟩
    rw [hb.block g (Array.getElem?_eq_some_iff.1 hg).1]
    exact hg
theorem ownsRow_base {w : World} {B B' : Nat} {e : TypeId} {size : Nat} {v : Value} {n : Nat} {xs : List Value} (h : w.ownsRow B e size v n xs) (hb : B' ≤ B) : w.ownsRow B' e size v n xs := by
  refine ⟨h.1, ?_⟩
  rcases h.2 with hn | ⟨g, cap, cur, rfl, hbg, rest⟩
  · exact .inl hn
  · exact .inr ⟨g, cap, cur, rfl, Nat.le_trans hb hbg, rest⟩
theorem OwnsB.below {w w' : World} {B : Nat} {v : Value} {l : List UInt8} (h : OwnsB w B v l) (hb : Below w.heap.size w w') : OwnsB w' B v l := ownsRow_below h hb
theorem OwnsI.below {w w' : World} {B : Nat} {v : Value} {l : List (BitVec 64)} (h : OwnsI w B v l) (hb : Below w.heap.size w w') : OwnsI w' B v l := ownsRow_below h hb
theorem OwnsB.base {w : World} {B B' : Nat} {v : Value} {l : List UInt8} (h : OwnsB w B v l) (hb : B' ≤ B) : OwnsB w B' v l := ownsRow_base h hb
theorem OwnsI.base {w : World} {B B' : Nat} {v : Value} {l : List (BitVec 64)} (h : OwnsI w B v l) (hb : B' ≤ B) : OwnsI w B' v l := ownsRow_base h hb
theorem ownsB_nil (w : World) (B : Nat) : OwnsB w B (.slice none 0 0) [] := World.ownsRow_nil w B _ _
theorem ownsI_nil (w : World) (B : Nat) : OwnsI w B (.slice none 0 0) [] := World.ownsRow_nil w B _ _

theorem info_u8 : (Try.prog.info? 5).map (fun i => (i.zero, i.size, i.bytes)) = some (some (.int .u8 0), 1, 1) := by kernel_rfl
theorem info_i64 : (Try.prog.info? 3).map (fun i => (i.zero, i.size, i.bytes)) = some (some (.int .i64 0), 1, 8) := by kernel_rfl

/-- 's = append(s, c)', s the call's own, of bytes. -/
theorem append_u8 {ops : Array Oper} {rest : List Oper} {o : Oper} {a : Act} {Q : Exit → Act → World → Prop} (hgd : o.guard = none) (s x : Operand)
    (ho : o.op = .call { callee := .builtin .append, args := #[s, x], argTypes := #[47, 47] })
    {w : World} {B : Nat} {v : Value} {l : List UInt8} {n : Int} {c : UInt8} (hs : a.eval s = v) (hx : a.eval x = .slice (some ⟨w.heap.size, 0, none⟩) 1 1)
    (hn : n = (c.toNat : Int)) (hown : OwnsB w B v l) (hB : B ≤ w.heap.size) (hl : l.length + 1 ≤ 1000000)
    (h : ∀ v' w', OwnsB w' B v' (l ++ [c]) → Below B w w' → wpList Try.prog ops Q rest (a.put o.dst v') w') :
    wpList Try.prog ops Q (o :: rest) a (w.alloc (.cells #[.int .u8 n] 5)) := by
  obtain ⟨i0, hi, hz0, hz1, hz2⟩ := info_parts info_u8
  refine wpList_append_own _ hgd s x 47 ho B 5 i0 (.int .u8 0) 1 1 Try.underlying47 hi hz0 hz1 hz2 rfl (by decide) v l.length (bv l) hs (World.ownsRow.alloc hown _) ⟨w.heap.size, 0, none⟩ 1 1 [.int .u8 n] hx rfl (cell_one_new _ _ _) ?_ ?_ ?_ ?_ ?_
  · intro u hu; simp at hu; subst hu; rfl
  · simp only [maxLen]; omega
  · omega
  · simp; omega
  · intro v' w' hown' hgrow _
    refine h v' w' ?_ ?_
    · subst hn
      simpa [OwnsB, bv] using hown'
    · refine ((Below.refl B w).alloc hB _).grown hgrow (by simp; omega) fun k hk => (hown.lt k hk).1
/-- 's = append(s, n)', s the call's own, of ints. -/
theorem append_i64 {ops : Array Oper} {rest : List Oper} {o : Oper} {a : Act} {Q : Exit → Act → World → Prop} (hgd : o.guard = none) (s x : Operand)
    (ho : o.op = .call { callee := .builtin .append, args := #[s, x], argTypes := #[22, 22] })
    {w : World} {B : Nat} {v : Value} {l : List (BitVec 64)} {n : Int} {c : BitVec 64} (hs : a.eval s = v) (hx : a.eval x = .slice (some ⟨w.heap.size, 0, none⟩) 1 1)
    (hn : n = c.toInt) (hown : OwnsI w B v l) (hB : B ≤ w.heap.size) (hl : l.length + 1 ≤ 1000000)
    (h : ∀ v' w', OwnsI w' B v' (l ++ [c]) → Below B w w' → wpList Try.prog ops Q rest (a.put o.dst v') w') :
    wpList Try.prog ops Q (o :: rest) a (w.alloc (.cells #[.int .i64 n] 3)) := by
  obtain ⟨i0, hi, hz0, hz1, hz2⟩ := info_parts info_i64
  refine wpList_append_own _ hgd s x 22 ho B 3 i0 (.int .i64 0) 1 8 Try.underlying22 hi hz0 hz1 hz2 rfl (by decide) v l.length (iv l) hs (World.ownsRow.alloc hown _) ⟨w.heap.size, 0, none⟩ 1 1 [.int .i64 n] hx rfl (cell_one_new _ _ _) ?_ ?_ ?_ ?_ ?_
  · intro u hu; simp at hu; subst hu; rfl
  · simp only [maxLen]; omega
  · omega
  · simp; omega
  · intro v' w' hown' hgrow _
    refine h v' w' ?_ ?_
    · subst hn
      simpa [OwnsI, iv] using hown'
    · refine ((Below.refl B w).alloc hB _).grown hgrow (by simp; omega) fun k hk => (hown.lt k hk).1

theorem foldl_push : ∀ (l : List UInt8) (s : ByteArray), (l.map fun b => (b.toNat : Int)).foldl (fun r n => r.push (UInt8.ofNat n.toNat)) s = ⟨s.data ++ l.toArray⟩ := by
  intro l
  induction l with
  | nil => intro s; simp
  | cons b r ih =>
    intro s
    simp only [List.map_cons, List.foldl_cons]
    rw [ih]
    apply ByteArray.ext
    simp [ByteArray.push]
/-- 'string(s)', s the call's own, of bytes. -/
theorem convert_own {w : World} {B : Nat} {v : Value} {l : List UInt8} (hown : OwnsB w B v l) (hl : 1 ≤ l.length) :
    (convert 47 9 v).run Try.prog w = .ok (.string ⟨l.toArray⟩) w := by
  have hc := @World.ownsRow.cells _ _ _ _ _ _ _ hown
  rcases hown.2 with ⟨_, h0⟩ | ⟨g, cap, cur, rfl, _, _, _⟩
  · omega
  · have hc := hc rfl
    rw [run_convert_bytes_string w _ _ 5 _ _ _ Try.underlying47 Try.underlying5 Try.underlying9]
    have e : ((l.map fun b => (b.toNat : Int)).map (Value.int .u8)) = bv l := by simp [bv]
    have hload : (loadCells ⟨g, 0, none⟩ l.length).run Try.prog w = .ok ((l.map fun b => (b.toNat : Int)).map (Value.int .u8)).toArray w := by
      rw [e]
      have := run_loadCells_list (P := Try.prog) w ⟨g, 0, none⟩ (bv l) hc
      simpa [bv] using this
    rw [run_bytesToString w _ _ cap _ hload, foldl_push]
    simp
theorem OwnsI.cell {w : World} {B : Nat} {v : Value} {l : List (BitVec 64)} (h : OwnsI w B v l) : (∃ g cap, v = .slice (some ⟨g, 0, none⟩) l.length cap ∧ B ≤ g ∧ g < w.heap.size ∧ l.length ≤ cap ∧ ∀ i, i < l.length → w.cell? ⟨g, i, none⟩ = some (.int .i64 (l.getD i 0#64).toInt)) ∨ (v = .slice none 0 0 ∧ l = []) := by
  have hc := @World.ownsRow.cells _ _ _ _ _ _ _ h
  have hlt := h.lt
  rcases h.2 with ⟨rfl, h0⟩ | ⟨g, cap, cur, rfl, hb, hg, hcap, _⟩
  · exact .inr ⟨rfl, List.eq_nil_of_length_eq_zero h0⟩
  · refine .inl ⟨g, cap, rfl, hb, (hlt g rfl).2, hcap, fun i hi => ?_⟩
    have hx := hc rfl i (.int .i64 (l.getD i 0#64).toInt) (by simp [iv, hi])
    have hadd : (⟨g, 0, none⟩ : Addr).add i = ⟨g, i, none⟩ := by unfold Addr.add; split <;> simp_all
    rw [hadd] at hx
    exact hx
end Go.Proofs.Ytlohljefhcidkaa
