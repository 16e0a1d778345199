/-
  Bytes that a call makes by append: of one byte, and of a text; which block alone is turned. A row of bytes that is made at once.
-/
import Derived.Test.YtlohljefhcidkaaRowy
import Derived.Test.YtlohljefhcidkaaBox
import Derived.Lib.AppendStr
import Derived.Lib.Strings
namespace Go.Proofs.Ytlohljefhcidkaa
open Go.RowKit

/-- A struct's block is not the one in which bytes are made. -/
theorem own_ne_box {w : World} {B : Nat} {e t : TypeId} {size : Nat} {v : Value} {n : Nat} {xs : List Value} {g : Nat} {c : Array Value} (h : w.ownsRow B e size v n xs) (hb : Box w g t c) (hne : e ≠ t) : ¬ v.ownBlock = some g := by
  intro hv
  rcases h.2 with ⟨rfl, _⟩ | ⟨g', cap, cur, rfl, _, hg, _⟩
  · simp [Value.ownBlock] at hv
  · simp only [Value.ownBlock, Option.some.injEq] at hv
    subst hv
    unfold Box at hb
    rw [hb] at hg
    simp only [Option.some.injEq, Obj.cells.injEq] at hg
    exact hne hg.2.1.symm
theorem own_lt {w : World} {B : Nat} {e : TypeId} {size : Nat} {v : Value} {n : Nat} {xs : List Value} (h : w.ownsRow B e size v n xs) {k : Nat} (hk : v.ownBlock = some k) : B ≤ k ∧ k < w.heap.size := h.lt k hk
/-- What was turned was the call's own. -/
theorem kept_own_below {w w' : World} {B : Nat} {v : Value} {l : List UInt8} (h : OwnsB w B v l) (hk : Kept (fun k => v.ownBlock = some k) w w') (hB : B ≤ w.heap.size) : Below B w w' :=
  hk.below (fun _ hk => (own_lt h hk).1) hB

/-- 's = append(s, c)', s the call's own, of bytes. -/
theorem append_u8k {ops : Array Oper} {rest : List Oper} {o : Oper} {a : Act} {Q : Exit → Act → World → Prop} (hgd : o.guard = none) (s x : Operand)
    (ho : o.op = .call { callee := .builtin .append, args := #[s, x], argTypes := #[47, 47] })
    {w : World} {B p : Nat} {v : Value} {l : List UInt8} {n : Int} {c : UInt8} (hs : a.eval s = v) (hx : a.eval x = .slice (some ⟨p, 0, none⟩) 1 1) (hp : p = w.heap.size)
    (hn : n = (c.toNat : Int)) (hown : OwnsB w B v l) (hB : B ≤ w.heap.size) (hl : l.length + 1 ≤ 1000000)
    (h : ∀ v' w', OwnsB w' B v' (l ++ [c]) → Kept (fun k => v.ownBlock = some k) w w' → wpList Try.prog ops Q rest (a.put o.dst v') w') :
    wpList Try.prog ops Q (o :: rest) a (w.alloc (.cells #[.int .u8 n] 5)) := by
  subst hp
  obtain ⟨i0, hi, hz0, hz1, hz2⟩ := info_parts info_u8
  refine wpList_append_own _ hgd s x 47 ho B 5 i0 (.int .u8 0) 1 1 Try.underlying47 hi hz0 hz1 hz2 rfl (by decide) v l.length (bv l) hs (World.ownsRow.alloc hown _) ⟨w.heap.size, 0, none⟩ 1 1 [.int .u8 n] hx rfl (cell_one_new _ _ _) ?_ ?_ ?_ ?_ ?_
  · intro u hu; simp at hu; subst hu; rfl
  · simp only [maxLen]; omega
  · omega
  · simp; omega
  · intro v' w' hown' hgrow _
    refine h v' w' ?_ ?_
    · subst hn
      simpa [OwnsB, bv] using hown'
    · exact ((Kept.refl _ w).alloc _).grown hgrow fun k hk => .inl hk
/-- 's = append(s, t...)', s the call's own, of bytes, t a text. -/
theorem append_strk {ops : Array Oper} {rest : List Oper} {o : Oper} {a : Act} {Q : Exit → Act → World → Prop} (hgd : o.guard = none) (s x : Operand)
    (ho : o.op = .call { callee := .builtin .append, args := #[s, x], argTypes := #[47, 9] })
    {w : World} {B : Nat} {v : Value} {l : List UInt8} (t : ByteArray) (hs : a.eval s = v) (hx : a.eval x = .string t)
    (hown : OwnsB w B v l) (hB : B ≤ w.heap.size) (hl : l.length + t.size ≤ 1000000)
    (h : ∀ v' w', OwnsB w' B v' (l ++ t.data.toList) → Kept (fun k => v.ownBlock = some k) w w' → wpList Try.prog ops Q rest (a.put o.dst v') w') :
    wpList Try.prog ops Q (o :: rest) a w := by
  obtain ⟨i0, hi, hz0, hz1, hz2⟩ := info_parts info_u8
  refine Lib.wpList_append_own_string (w := w) hgd s x 47 9 ho B 5 i0 Try.underlying47 Try.underlying9 hi hz0 hz1 hz2 v l.length (bv l) hs hown t hx ?_ ?_ hB ?_
  · simp only [maxLen]; omega
  · omega
  · intro v' w' hown' hgrow _
    refine h v' w' ?_ ?_
    · have hlen : t.size = t.data.toList.length := Lib.size_eq t
      rw [hlen] at hown'
      simpa [OwnsB, bv, Lib.strCells] using hown'
    · exact (Kept.refl _ w).grown hgrow fun k hk => .inl hk
/-- '[]byte{c}'. -/
theorem ownsB_new (w : World) {n : Int} {c : UInt8} (hn : n = (c.toNat : Int)) : OwnsB (w.alloc (.cells #[.int .u8 n] 5)) w.heap.size (.slice (some ⟨w.heap.size, 0, none⟩) 1 1) [c] := by
  subst hn
  exact ⟨by simp [bv], .inr ⟨w.heap.size, 1, #[.int .u8 (c.toNat : Int)], rfl, Nat.le_refl _, heap_alloc_last w _, by simp, by unfold maxLen; simp, by simp, by simp [bv]⟩⟩
end Go.Proofs.Ytlohljefhcidkaa
