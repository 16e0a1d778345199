/-
  Spans in memory: how a slice of them reads, what append made, the last one's Hi that is turned; slices of ints as lists of numbers.
-/
import Derived.Test.YteijhnfciiblmaaSPure
import Derived.Test.YteijhnfciiblmaaSApp
import Derived.Test.YteijhnfciiblmaaBox
import Derived.Test.YteijhnfciiblmaaCalm
import Derived.Deep.MidRow
import Derived.Deep.LoopGhost
namespace Go.Proofs.Yteijhnfciiblmaa
open Go.RowKit

theorem ret_int {k : IntKind} {a b : Int} (h : a = b) : Ending.returned (.int k a) = .returned (.int k b) := by rw [h]
abbrev sc (s : Sn) : List Value := [.int .i64 s.lo, .int .i64 s.hi]
/-- The span s lies at b, from o on. -/
structure SpanAt (w : World) (b o : Nat) (s : Sn) : Prop where
  c0 : w.cell? ⟨b, o, none⟩ = some (.int .i64 s.lo)
  c1 : w.cell? ⟨b, o + 1, none⟩ = some (.int .i64 s.hi)
theorem SpanAt.lt {w : World} {b o : Nat} {s : Sn} (h : SpanAt w b o s) : b < w.heap.size := World.block_lt_of_cell? w ⟨b, o, none⟩ h.c0
theorem SpanAt.below {w w' : World} {b o : Nat} {s : Sn} (h : SpanAt w b o s) (k : Below w.heap.size w w') : SpanAt w' b o s :=
  ⟨(k.cell (p := ⟨b, o, none⟩) h.lt).trans h.c0, (k.cell (p := ⟨b, o + 1, none⟩) h.lt).trans h.c1⟩
/-- A slice of spans reads as rs. -/
def SpansIs (w : World) (v : Value) (rs : List Sn) : Prop :=
  ∃ a cap, v = .slice a rs.length cap ∧ rs.length ≤ cap ∧ (rs ≠ [] → ∃ b off, a = some ⟨b, off, none⟩ ∧ ∀ (i : Nat) (s : Sn), rs[i]? = some s → SpanAt w b (off + i * 2) s)
section
variable {w w' : World} {v : Value} {rs : List Sn} {a : Option Addr} {n cap : Nat}
theorem SpansIs.below (h : SpansIs w v rs) (k : Below w.heap.size w w') : SpansIs w' v rs := by
  obtain ⟨a, cap, rfl, hcap, h⟩ := h
  refine ⟨a, cap, rfl, hcap, fun hr => ?_⟩
  obtain ⟨b, off, rfl, hc⟩ := h hr
  exact ⟨b, off, rfl, fun i r hi => (hc i r hi).below k⟩
theorem spans_nil (w : World) : SpansIs w (.slice none 0 0) [] := ⟨none, 0, rfl, Nat.le_refl _, fun h => absurd rfl h⟩
theorem SpansIs.some (h : SpansIs w (.slice a n cap) rs) (hr : rs ≠ []) : ∃ b off, a = Option.some ⟨b, off, none⟩ ∧ ∀ (i : Nat) (s : Sn), rs[i]? = Option.some s → SpanAt w b (off + i * 2) s := by
  obtain ⟨a, cap, e, hcap, h⟩ := h
  cases e
  exact h hr
theorem SpansIs.len (h : SpansIs w (.slice a n cap) rs) : rs.length = n ∧ n ≤ cap := by
  obtain ⟨a, cap, e, hcap, h⟩ := h
  cases e
  exact ⟨rfl, hcap⟩
theorem SpansIs.slice (h : SpansIs w v rs) : ∃ a n cap, v = .slice a n cap ∧ rs.length = n ∧ n ≤ cap := by
  obtain ⟨a, cap, rfl, hcap, _⟩ := h
  exact ⟨a, _, cap, rfl, rfl, hcap⟩
/-- Where spans lie, as one block and place for all that follows. -/
theorem SpansIs.at (h : SpansIs w (.slice a n cap) rs) {k : Nat} (hk : k < n) : ∃ s b off, rs[k]? = Option.some s ∧ a = Option.some ⟨b, off, none⟩ ∧ SpanAt w b (off + k * 2) s := by
  obtain ⟨hl, _⟩ := h.len
  have hs : rs[k]? = Option.some rs[k] := List.getElem?_eq_getElem (by omega)
  obtain ⟨b, off, rfl, hall⟩ := h.some (by rintro rfl; simp at hl; omega)
  exact ⟨_, b, off, hs, rfl, hall k _ hs⟩
theorem spans_of_srows (h : SRows w v 43 2 (rs.map sc)) : SpansIs w v rs := by
  rcases h with ⟨rfl, h0⟩ | ⟨g, cap, rfl, hc1, hc2, hrows⟩
  · have : rs = [] := by simpa using h0
    subst this
    exact spans_nil w
  · rw [List.length_map] at hc1
    refine ⟨Option.some ⟨g, 0, none⟩, cap, by rw [List.length_map], hc1, fun _ => ⟨g, 0, rfl, fun i r hi => ?_⟩⟩
    have hr := hrows.range (i := i) (r := sc r) (by rw [List.getElem?_map, hi]; rfl)
    have h0 := hr 0 _ rfl
    have h1 := hr 1 _ rfl
    rw [Nat.zero_add]
    exact ⟨h0, h1⟩
end
theorem info_span : (Try.prog.info? 43).map (fun i => (i.zero, i.size, i.bytes)) = some (some (.agg #[.int .i64 0, .int .i64 0]), 2, 16) := by kernel_rfl
theorem info_int : (Try.prog.info? 3).map (fun i => (i.zero, i.size, i.bytes)) = some (some (.int .i64 0), 1, 8) := by kernel_rfl
theorem srows_slice {w : World} {v : Value} {t : TypeId} {sz : Nat} {R : List (List Value)} (h : SRows w v t sz R) : ∃ a c, v = .slice a R.length c := by
  rcases h with ⟨rfl, rfl⟩ | ⟨g, cap, rfl, _⟩
  · exact ⟨none, 0, rfl⟩
  · exact ⟨_, _, rfl⟩
theorem belowOne {w1 : World} (B : Nat) (h : B ≤ w1.heap.size) (A : Obj) : Below B w1 (w1.alloc A) := (Below.refl _ _).alloc h _
theorem above_cell {w : World} {a : Addr} {v : Value} (h : w.cell? a = some v) (k : Above w) : k.it.cell? a = some v := (k.is.cell (p := a) (World.block_lt_of_cell? w a h)).trans h
theorem below_drewN {B : Nat} {w w' : World} (h : Below B w w') (n : Nat) : Below B w (w'.drewN n) := ⟨h.os, h.tape, h.output, h.size, h.block⟩
theorem below_drew {B : Nat} {w w' : World} (h : Below B w w') : Below B w w'.drew := ⟨h.os, h.tape, h.output, h.size, h.block⟩
theorem sc_one (r : Sn) : ∀ x ∈ [sc r], ∀ c ∈ x, c.oneCell' = true := by
  intro x hx c hc
  simp only [List.mem_singleton] at hx
  subst hx
  simp only [sc, List.mem_cons, List.not_mem_nil, or_false] at hc
  rcases hc with rfl | rfl <;> rfl
theorem list_snoc {α : Type} {l : List α} {n : Nat} (h : l.length = n + 1) : ∃ p x, l = p ++ [x] ∧ p.length = n := by
  rcases List.eq_nil_or_concat l with rfl | ⟨p, x, e⟩
  · simp at h
  · rw [List.concat_eq_append] at e
    subst e
    exact ⟨p, x, rfl, by simpa using h⟩
/-- One cell of a row is turned. -/
theorem rows_setOne {w : World} {b : Nat} {t : TypeId} {tot sz : Nat} {R : List (List Value)} (h : Rows w b t tot sz R) {i j : Nat} {r : List Value} (hr : R[i]? = some r) (hj : j < sz) (v : Value) :
    Rows (w.setCell ⟨b, i * sz + j, none⟩ v) b t tot sz (R.set i (r.set j v)) := by
  have hi : i < R.length := (List.getElem?_eq_some_iff.1 hr).1
  have hf := h.fit hi
  obtain ⟨cur, h1, h2, h3, h4, h5⟩ := h
  have hl := h4 r (List.mem_of_getElem? hr)
  refine ⟨cur.setIfInBounds (i * sz + j) v, heap_setCell_same w b _ cur t v h1, by simpa using h2, by simpa using h3, ?_, ?_⟩
  · intro x hx
    rcases List.mem_or_eq_of_mem_set hx with hx | rfl
    · exact h4 x hx
    · simpa using hl
  · intro k x hx m u hu
    rw [List.getElem?_set] at hx
    rw [Array.getElem?_setIfInBounds]
    by_cases e : i = k
    · subst e
      simp [hi] at hx
      subst hx
      rw [List.getElem?_set] at hu
      by_cases e2 : j = m
      · subst e2
        have hjr : j < r.length := by omega
        simp [hjr] at hu
        subst hu
        simp
        omega
      · rw [if_neg e2] at hu
        rw [if_neg (by omega)]
        exact h5 i r hr m u hu
    · rw [if_neg e] at hx
      have hm : m < sz := by
        have := h4 x (List.mem_of_getElem? hx)
        have := (List.getElem?_eq_some_iff.1 hu).1
        omega
      have : i * sz + j ≠ k * sz + m := by
        intro e3
        rcases Nat.lt_or_ge k i with h' | h'
        · have : (k + 1) * sz ≤ i * sz := Nat.mul_le_mul_right _ h'
          rw [Nat.add_mul] at this
          omega
        · have : (i + 1) * sz ≤ k * sz := Nat.mul_le_mul_right _ (by omega)
          rw [Nat.add_mul] at this
          omega
      rw [if_neg this]
      exact h5 k x hx m u hu
/-- The last span's Hi, and what a store there makes. -/
theorem hi_at {w : World} {va : Option Addr} {q n vc : Nat} {p : List Sn} {r : Sn} (h : SRows w (.slice va n vc) 43 2 ((p ++ [r]).map sc)) (hn : n = q + 1) (hp : p.length = q) :
    ∃ g, va = some ⟨g, 0, none⟩ ∧ g < w.heap.size ∧ w.cell? ⟨g, q * 2 + 1, none⟩ = some (.int .i64 r.hi) ∧ w.frozen? ⟨g, q * 2 + 1, none⟩ = false ∧
      ∀ u : Int, SRows (w.setCell ⟨g, q * 2 + 1, none⟩ (.int .i64 u)) (.slice (some ⟨g, 0, none⟩) n vc) 43 2 ((p ++ [(⟨r.lo, u⟩ : Sn)]).map sc) := by
  rcases h with ⟨h1, h0⟩ | ⟨g, cap, h1, hc1, hc2, hrows⟩
  · simp at h0
  · cases h1
    have hat : ((p ++ [r]).map sc)[q]? = some (sc r) := by rw [← hp]; simp
    have hr := hrows.range hat
    have hone := fun u : Int => rows_setOne hrows hat (j := 1) (by omega) (.int .i64 u)
    refine ⟨g, rfl, hrows.lt, hr 1 _ rfl, ?_, fun u => ?_⟩
    · obtain ⟨cur, c1, _⟩ := hrows
      exact frozen_of_row w g _ cur _ c1
    · have e : ((p ++ [r]).map sc).set q ((sc r).set 1 (.int .i64 u)) = (p ++ [(⟨r.lo, u⟩ : Sn)]).map sc := by
        rw [← hp]; simp
      have h2 := hone u
      rw [e] at h2
      refine .inr ⟨g, vc, by simp, by simpa using hc1, hc2, h2⟩

/-- Slices of ints, as lists of numbers: what a call made owns. -/
def zv (l : List Int) : List Value := l.map fun x => .int .i64 x
def OwnsZ (w : World) (B : Nat) (v : Value) (l : List Int) : Prop := w.ownsRow B 3 1 v l.length (zv l)
/-- The slice v reads as the numbers l. -/
def ReadsZ (w : World) (v : Value) (l : List Int) : Prop :=
  ∃ a cap, v = .slice a l.length cap ∧ l.length ≤ cap ∧ (l ≠ [] → ∃ b off, a = some ⟨b, off, none⟩ ∧ b < w.heap.size ∧ ∀ (i : Nat) (x : Int), l[i]? = some x → w.cell? ⟨b, off + i, none⟩ = some (.int .i64 x))
theorem ownsRow_below {w w' : World} {B : Nat} {e : TypeId} {size : Nat} {v : Value} {n : Nat} {xs : List Value} (h : w.ownsRow B e size v n xs) (hb : Below w.heap.size w w') : w'.ownsRow B e size v n xs := by
  refine ⟨h.1, ?_⟩
  rcases h.2 with hn | ⟨g, cap, cur, rfl, hbg, hg, rest⟩
  · exact .inl hn
  · refine .inr ⟨g, cap, cur, rfl, hbg, ?_, rest⟩
    rw [hb.block g (Array.getElem?_eq_some_iff.1 hg).1]
    exact hg
section
variable {w w' : World} {B : Nat} {v : Value} {l : List Int} {a : Option Addr} {n cap : Nat}
theorem OwnsZ.below (h : OwnsZ w B v l) (hb : Below w.heap.size w w') : OwnsZ w' B v l := ownsRow_below h hb
theorem ownsZ_nil (w : World) (B : Nat) : OwnsZ w B (.slice none 0 0) [] := World.ownsRow_nil w B _ _
theorem ReadsZ.below (h : ReadsZ w v l) (hb : Below w.heap.size w w') : ReadsZ w' v l := by
  obtain ⟨a, cap, rfl, hcap, h⟩ := h
  refine ⟨a, cap, rfl, hcap, fun hr => ?_⟩
  obtain ⟨b, off, rfl, hbw, hc⟩ := h hr
  exact ⟨b, off, rfl, Nat.lt_of_lt_of_le hbw hb.size, fun i x hi => (hb.cell (p := ⟨b, off + i, none⟩) hbw).trans (hc i x hi)⟩
theorem readsZ_nil (w : World) : ReadsZ w (.slice none 0 0) [] := ⟨none, 0, rfl, Nat.le_refl _, fun h => absurd rfl h⟩
theorem ReadsZ.slice (h : ReadsZ w v l) : ∃ a n cap, v = .slice a n cap ∧ l.length = n ∧ n ≤ cap := by
  obtain ⟨a, cap, rfl, hcap, _⟩ := h
  exact ⟨a, _, cap, rfl, rfl, hcap⟩
theorem ReadsZ.some (h : ReadsZ w (.slice a n cap) l) (hr : l ≠ []) : ∃ b off, a = Option.some ⟨b, off, none⟩ ∧ b < w.heap.size ∧ ∀ (i : Nat) (x : Int), l[i]? = Option.some x → w.cell? ⟨b, off + i, none⟩ = Option.some (.int .i64 x) := by
  obtain ⟨a, cap, e, hcap, h⟩ := h
  cases e
  exact h hr
theorem ReadsZ.len (h : ReadsZ w (.slice a n cap) l) : l.length = n ∧ n ≤ cap := by
  obtain ⟨a, cap, e, hcap, h⟩ := h
  cases e
  exact ⟨rfl, hcap⟩
theorem ReadsZ.at (h : ReadsZ w (.slice a n cap) l) {k : Nat} (hk : k < n) : ∃ x b off, l[k]? = Option.some x ∧ a = Option.some ⟨b, off, none⟩ ∧ w.cell? ⟨b, off + k, none⟩ = Option.some (.int .i64 x) := by
  obtain ⟨hl, _⟩ := h.len
  have hs : l[k]? = Option.some l[k] := List.getElem?_eq_getElem (by omega)
  obtain ⟨b, off, rfl, _, hall⟩ := h.some (by rintro rfl; simp at hl; omega)
  exact ⟨_, b, off, hs, rfl, hall k _ hs⟩
theorem add0 (g i : Nat) : (⟨g, 0, none⟩ : Addr).add i = ⟨g, i, none⟩ := by unfold Addr.add; split <;> simp_all
theorem OwnsZ.reads (h : OwnsZ w B v l) : ReadsZ w v l := by
  have hc := @World.ownsRow.cells _ _ _ _ _ _ _ h
  have hlt := h.lt
  rcases h.2 with ⟨rfl, h0⟩ | ⟨g, cap, cur, rfl, hb, hg, hcap, _⟩
  · rw [List.eq_nil_of_length_eq_zero h0]; exact readsZ_nil w
  · refine ⟨Option.some ⟨g, 0, none⟩, cap, rfl, hcap, fun _ => ⟨g, 0, rfl, (hlt g rfl).2, fun i x hi => ?_⟩⟩
    have hx := hc rfl i (.int .i64 x) (by simp [zv, hi])
    rw [add0] at hx
    rw [Nat.zero_add]
    exact hx
end
/-- 's = append(s, n)', s the call's own, of ints; which block alone is turned. -/
theorem append_z {ops : Array Oper} {rest : List Oper} {o : Oper} {a : Act} {Q : Exit → Act → World → Prop} (hgd : o.guard = none) (s x : Operand)
    (ho : o.op = .call { callee := .builtin .append, args := #[s, x], argTypes := #[30, 30] })
    {w : World} {B : Nat} {v : Value} {l : List Int} {n : Int} (hs : a.eval s = v) (hx : a.eval x = .slice (some ⟨w.heap.size, 0, none⟩) 1 1)
    (hown : OwnsZ w B v l) (hB : B ≤ w.heap.size) (hl : l.length + 1 ≤ 1000000)
    (h : ∀ v' w', OwnsZ w' B v' (l ++ [n]) → Kept (fun k => v.ownBlock = some k) w w' → wpList Try.prog ops Q rest (a.put o.dst v') w') :
    wpList Try.prog ops Q (o :: rest) a (w.alloc (.cells #[.int .i64 n] 3)) := by
  obtain ⟨i0, hi, hz0, hz1, hz2⟩ := info_parts info_int
  refine wpList_append_own _ hgd s x 30 ho B 3 i0 (.int .i64 0) 1 8 Try.underlying30 hi hz0 hz1 hz2 rfl (by decide) v l.length (zv l) hs (World.ownsRow.alloc hown _) ⟨w.heap.size, 0, none⟩ 1 1 [.int .i64 n] hx rfl (cell_one_new _ _ _) ?_ ?_ ?_ ?_ ?_
  · intro u hu; simp at hu; subst hu; rfl
  · simp only [maxLen]; omega
  · omega
  · simp; omega
  · intro v' w' hown' hgrow _
    refine h v' w' ?_ ?_
    · simpa [OwnsZ, zv] using hown'
    · exact ((Kept.refl _ w).alloc _).grown hgrow fun k hk => .inl hk
theorem own_lt {w : World} {B : Nat} {e : TypeId} {size : Nat} {v : Value} {n : Nat} {xs : List Value} (h : w.ownsRow B e size v n xs) {k : Nat} (hk : v.ownBlock = some k) : B ≤ k ∧ k < w.heap.size := h.lt k hk
theorem kept_ownZ_below {w w' : World} {B : Nat} {v : Value} {l : List Int} (h : OwnsZ w B v l) (hk : Kept (fun k => v.ownBlock = some k) w w') (hB : B ≤ w.heap.size) : Below B w w' :=
  hk.below (fun _ hk => (own_lt h hk).1) hB
/-- 'make([]int, 0, n)'. -/
theorem make_z {ops : Array Oper} {rest : List Oper} {o : Oper} {a : Act} {Q : Exit → Act → World → Prop} (hgd : o.guard = none) (l c : Operand) (hop : o.op = Op.makeSlice 30 l c)
    {w : World} {C : Int} {n B : Nat} (hl : a.eval l = .int .i64 0) (hc : a.eval c = .int .i64 C) (hC : C = (n : Int)) (hn : n ≤ 1000000) (hB : B ≤ w.heap.size)
    (h : ∀ v' w', OwnsZ w' B v' [] → Below B w w' → wpList Try.prog ops Q rest (a.put o.dst v') w') : wpList Try.prog ops Q (o :: rest) a w := by
  obtain ⟨i0, hi, hz0, hz1, hz2⟩ := info_parts info_int
  refine wpList_make_own w hgd l c 30 hop B 3 i0 (.int .i64 0) 1 Try.underlying30 hi hz0 hz1 _ _ C n hl hc hC ?_ ?_ hB ?_
  · rw [hz2]; omega
  · unfold maxLen; omega
  · intro w' hown hg
    exact h _ w' hown ((Below.refl B w).grown hg hB (fun k hk => by cases hk))
end Go.Proofs.Yteijhnfciiblmaa
