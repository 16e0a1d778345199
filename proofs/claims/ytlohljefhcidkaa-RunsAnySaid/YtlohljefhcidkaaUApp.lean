/-
  'string(s)' of one's own bytes, 'make([]int, 0, n)', and what stays while bytes are put behind one another beside a run's box.
-/
import Derived.Test.YtlohljefhcidkaaUMay
import Derived.Test.YtlohljefhcidkaaKApp
namespace Go.Proofs.Ytlohljefhcidkaa
open Go.RowKit

/-- 'string(s)', s the call's own, of bytes. -/
theorem convert_all {w : World} {B : Nat} {v : Value} {l : List UInt8} (hown : OwnsB w B v l) :
    (convert 47 9 v).run Try.prog w = .ok (.string (str l)) w := by
  rcases Nat.eq_zero_or_pos l.length with h0 | hp
  · have hl : l = [] := List.eq_nil_of_length_eq_zero h0
    subst hl
    rcases hown.2 with ⟨rfl, _⟩ | ⟨g, cap, cur, rfl, _, _, _⟩
    · exact run_convert_bytes_nil w 47 5 Try.underlying47 Try.underlying5 _ _ 9 Try.underlying9
    · rw [run_convert_bytes_string w _ _ 5 _ _ _ Try.underlying47 Try.underlying5 Try.underlying9]
      have hload : (loadCells ⟨g, 0, none⟩ 0).run Try.prog w = .ok (([] : List Int).map (Value.int .u8)).toArray w := by
        have := run_loadCells_list (P := Try.prog) w ⟨g, 0, none⟩ [] (by intro j u h; simp at h)
        simpa using this
      have := run_bytesToString (P := Try.prog) w ⟨g, 0, none⟩ 0 cap [] hload
      exact this
  · exact convert_own hown hp
/-- 'make([]int, 0, n)'. -/
theorem make_i64 {ops : Array Oper} {rest : List Oper} {o : Oper} {a : Act} {Q : Exit → Act → World → Prop} (hgd : o.guard = none) (l c : Operand) (hop : o.op = Op.makeSlice 22 l c)
    {w : World} {C : Int} {n B : Nat} (hl : a.eval l = .int .i64 0) (hc : a.eval c = .int .i64 C) (hC : C = (n : Int)) (hn : n ≤ 1000000) (hB : B ≤ w.heap.size)
    (h : ∀ v' w', OwnsI w' B v' [] → Below B w w' → wpList Try.prog ops Q rest (a.put o.dst v') w') : wpList Try.prog ops Q (o :: rest) a w := by
  obtain ⟨i0, hi, hz0, hz1, hz2⟩ := info_parts info_i64
  refine wpList_make_own w hgd l c 22 hop B 3 i0 (.int .i64 0) 1 Try.underlying22 hi hz0 hz1 _ _ C n hl hc hC ?_ ?_ hB ?_
  · rw [hz2]; omega
  · unfold maxLen; omega
  · intro w' hown hg
    exact h _ w' hown ((Below.refl B w).grown hg hB (fun k hk => by cases hk))
/-- What stays: the bytes that are there, a run's box, what was there at first. -/
structure PutSt (w W : World) (g : Nat) (z f c : Int) (v : Value) (l : List UInt8) : Prop where
  own : OwnsB W w.heap.size v l
  box : Box W g 35 #[.int .i64 z, .int .i64 f, .int .i64 c]
  below : Below w.heap.size w W
section
variable {w W W' : World} {g : Nat} {z f c : Int} {v v' : Value} {l l' : List UInt8}
theorem PutSt.over (h : PutSt w W g z f c v l) (k : Below W.heap.size W W') : PutSt w W' g z f c v l := ⟨h.own.below k, h.box.over k, h.below.trans (k.mono h.below.size)⟩
theorem PutSt.app (h : PutSt w W g z f c v l) (k : Kept (fun k => v.ownBlock = some k) W W') (o : OwnsB W' w.heap.size v' l') : PutSt w W' g z f c v' l' :=
  ⟨o, h.box.kept k (own_ne_box h.own h.box (by decide)), h.below.trans (kept_own_below h.own k h.below.size)⟩
end
/-- 's = append(s, n)', s the call's own, of ints: which block alone is turned. -/
theorem append_i64k {ops : Array Oper} {rest : List Oper} {o : Oper} {a : Act} {Q : Exit → Act → World → Prop} (hgd : o.guard = none) (s x : Operand)
    (ho : o.op = .call { callee := .builtin .append, args := #[s, x], argTypes := #[22, 22] })
    {w : World} {B : Nat} {v : Value} {l : List (BitVec 64)} {n : Int} {c : BitVec 64} (hs : a.eval s = v) (hx : a.eval x = .slice (some ⟨w.heap.size, 0, none⟩) 1 1)
    (hn : n = c.toInt) (hown : OwnsI w B v l) (hB : B ≤ w.heap.size) (hl : l.length + 1 ≤ 1000000)
    (h : ∀ v' w', OwnsI w' B v' (l ++ [c]) → Kept (fun k => v.ownBlock = some k) w w' → wpList Try.prog ops Q rest (a.put o.dst v') w') :
    wpList Try.prog ops Q (o :: rest) a (w.alloc (.cells #[.int .i64 n] 3)) := by
  obtain ⟨i0, hi, hz0, hz1, hz2⟩ := info_parts info_i64
  refine wpList_append_own _ hgd s x 22 ho B 3 i0 (.int .i64 0) 1 8 Try.underlying22 hi hz0 hz1 hz2 rfl (by decide) v l.length (iv l) hs (World.ownsRow.alloc hown _) ⟨w.heap.size, 0, none⟩ 1 1 [.int .i64 n] hx rfl (cell_one_new _ _ _) ?_ ?_ ?_ ?_ ?_
  · intro u hu; simp at hu; subst hu; rfl
  · simp only [maxLen]; omega
  · omega
  · simp; omega
  · intro v' w' hown' hgrow _
    refine h v' w' ?_ ?_
    · subst hn
      simpa [OwnsI, iv] using hown'
    · exact ((Kept.refl _ w).alloc _).grown hgrow fun k hk => .inl hk
theorem kept_ownI_below {w w' : World} {B : Nat} {v : Value} {l : List (BitVec 64)} (h : OwnsI w B v l) (hk : Kept (fun k => v.ownBlock = some k) w w') (hB : B ≤ w.heap.size) : Below B w w' :=
  hk.below (fun _ hk => (own_lt h hk).1) hB
/-- What stays: the numbers that are there, a run's box, what was there at first. -/
structure FlatSt (w W : World) (g : Nat) (z f c : Int) (v : Value) (l : List (BitVec 64)) : Prop where
  own : OwnsI W w.heap.size v l
  box : Box W g 35 #[.int .i64 z, .int .i64 f, .int .i64 c]
  below : Below w.heap.size w W
theorem FlatSt.app {w W W' : World} {g : Nat} {z f c : Int} {v v' : Value} {l l' : List (BitVec 64)} (h : FlatSt w W g z f c v l) (k : Kept (fun k => v.ownBlock = some k) W W') (o : OwnsI W' w.heap.size v' l') : FlatSt w W' g z f c v' l' :=
  ⟨o, h.box.kept k (own_ne_box h.own h.box (by decide)), h.below.trans (kept_ownI_below h.own k h.below.size)⟩
end Go.Proofs.Ytlohljefhcidkaa
