/-
  Cells, tests, rows of cells and numbers that came in as arguments: what their cells are.
-/
import Derived.Test.YtnnnkmgkijijdaaTPure
import Derived.Test.YtnnnkmgkijijdaaTRow
import Derived.Test.YtnnnkmgkijijdaaTBin
import Derived.Lib.SmallJoins
import Derived.Deep.Slices
import Derived.ChangeArms
namespace Go.Proofs.Ytnnnkmgkijijdaa
open Go.RowKit

/-- A list of what there is at each place. -/
theorem list_of {α : Type} {Q : Nat → α → Prop} : ∀ n : Nat, (∀ i, i < n → ∃ c, Q i c) → ∃ r : List α, r.length = n ∧ ∀ i c, r[i]? = some c → Q i c
  | 0, _ => ⟨[], rfl, fun i c h => by simp at h⟩
  | n + 1, h => by
    obtain ⟨r, hl, hr⟩ := list_of n fun i hi => h i (by omega)
    obtain ⟨c, hc⟩ := h n (by omega)
    refine ⟨r ++ [c], by simp [hl], fun i x hx => ?_⟩
    by_cases hi : i < n
    · rw [List.getElem?_append_left (by omega)] at hx
      exact hr i x hx
    · have hlt := (List.getElem?_eq_some_iff.1 hx).1
      rw [List.length_append, List.length_singleton] at hlt
      obtain rfl : i = n := by omega
      rw [List.getElem?_append_right (by omega), hl, Nat.sub_self] at hx
      simp at hx
      subst hx
      exact hc
set_option maxRecDepth 100000 in
/-- Structs of three cells that came in as a slice: where they lie, and how each reads. -/
theorem three_of {H : Type} {enc : TypeId × Value → H} {W : World} {base : Nat} {hd : Bool} {fuel : Nat} {a : Option Addr} {len cap : Nat} {x : DataW H × List MemPlace} {T e t0 t1 t2 : TypeId} {f0 f1 f2 : Field}
    (hT : Try.prog.underlying T = some (.slice e)) (he : Try.prog.underlying e = some (.struct #[f0, f1, f2])) (hc : Try.prog.cellsOf e = 3) (g0 : f0.type = t0 ∧ f0.offset = 0) (g1 : f1.type = t1 ∧ f1.offset = 1) (g2 : f2.type = t2 ∧ f2.offset = 2)
    (d0 : Try.prog.cellsOf t0 = 1) (d1 : Try.prog.cellsOf t1 = 1) (d2 : Try.prog.cellsOf t2 = 1)
    (h : DataW.trod enc Try.prog W base (fun _ => true) hd fuel T [.slice a len cap] = some x) :
    len ≤ maxLen ∧ (0 < len → ∃ b off, a = some ⟨b, off, none⟩ ∧ b < W.heap.size ∧ ∀ i, i < len → ∃ v0 v1 v2 k y0 y1 y2, W.cell? ⟨b, off + i * 3, none⟩ = some v0 ∧ W.cell? ⟨b, off + i * 3 + 1, none⟩ = some v1 ∧ W.cell? ⟨b, off + i * 3 + 2, none⟩ = some v2 ∧
      DataW.trod enc Try.prog W base (fun _ => true) hd k t0 [v0] = some y0 ∧ DataW.trod enc Try.prog W base (fun _ => true) hd k t1 [v1] = some y1 ∧ DataW.trod enc Try.prog W base (fun _ => true) hd k t2 [v2] = some y2) := by
  rcases Go.Deep.open_slice hT h with ⟨h0, _⟩ | ⟨ad, ln, cp, m, n, D, Pl, hv, _, hl, hm, hmm, _, hx⟩
  · simp at h0
    obtain ⟨rfl, rfl, rfl⟩ := h0
    exact ⟨Nat.zero_le _, fun h => by omega⟩
  · simp at hv
    obtain ⟨rfl, rfl, rfl⟩ := hv
    refine ⟨Nat.le_trans hl hm, fun hpos => ?_⟩
    obtain ⟨b, off, spot⟩ := ad
    have hspot : spot = none := by
      obtain ⟨cs0, h10, _⟩ := hx 0 (by rw [hmm]; split <;> omega)
      rw [hc] at h10
      obtain ⟨_, hlen0, hcell0⟩ := World.cells?_some h10
      have q := hcell0 0 (by omega)
      rw [List.getElem?_eq_getElem (by omega)] at q
      have := World.cell?_spot q
      simpa [Addr.add] using this
    subst hspot
    have hadd : ∀ t : Nat, (⟨b, off, none⟩ : Addr).add t = ⟨b, off + t, none⟩ := fun t => by unfold Addr.add; split <;> simp_all
    have key : ∀ i, i < len → ∃ v0 v1 v2 k y0 y1 y2, W.cell? ⟨b, off + i * 3, none⟩ = some v0 ∧ W.cell? ⟨b, off + i * 3 + 1, none⟩ = some v1 ∧ W.cell? ⟨b, off + i * 3 + 2, none⟩ = some v2 ∧
      DataW.trod enc Try.prog W base (fun _ => true) hd k t0 [v0] = some y0 ∧ DataW.trod enc Try.prog W base (fun _ => true) hd k t1 [v1] = some y1 ∧ DataW.trod enc Try.prog W base (fun _ => true) hd k t2 [v2] = some y2 := by
      intro i hi
      have him : i < m := by rw [hmm]; split <;> omega
      obtain ⟨cs', h1, h2⟩ := hx i him
      rw [hc] at h1
      obtain ⟨_, hlen, hcell⟩ := World.cells?_some h1
      obtain ⟨xs, k, hk, hxy, _, hxl, hf⟩ := DataW.trod_struct he h2
      match cs', hlen with
      | [v0, v1, v2], _ =>
        have p0 := hf 0 f0 rfl
        have p1 := hf 1 f1 rfl
        have p2 := hf 2 f2 rfl
        rw [g0.1, g0.2, d0] at p0
        rw [g1.1, g1.2, d1] at p1
        rw [g2.1, g2.2, d2] at p2
        have hx3 : xs.length = 3 := hxl
        match xs, hx3 with
        | [y0, y1, y2], _ =>
          have q0 := hcell 0 (by omega)
          have q1 := hcell 1 (by omega)
          have q2 := hcell 2 (by omega)
          simp only [List.getElem?_cons_zero, List.getElem?_cons_succ, Go.Deep.add_add] at q0 q1 q2
          rw [hadd] at q0 q1 q2
          exact ⟨v0, v1, v2, k, y0, y1, y2, by simpa using q0, by simpa [Nat.add_assoc] using q1, by simpa [Nat.add_assoc] using q2, p0, p1, p2⟩
    obtain ⟨v0, _, _, _, _, _, _, hb0, _⟩ := key 0 hpos
    exact ⟨b, off, rfl, World.block_lt_of_cell? W _ hb0, key⟩
set_option maxRecDepth 100000 in
/-- The cells of a cell, as they are read. -/
theorem cell_read {H : Type} {enc : TypeId × Value → H} {W : World} {base : Nat} {sp : Nat → Bool} {hd : Bool} {fuel : Nat} {v0 v1 v2 : Value} {x : DataW H × List MemPlace}
    (h : DataW.trod enc Try.prog W base sp hd fuel 23 [v0, v1, v2] = some x) : ∃ c : Cl, v0 = .int .i64 c.k ∧ v1 = .int .i64 c.n ∧ v2 = .string c.s := by
  obtain ⟨xs, n, _, _, _, hxl, hf⟩ := DataW.trod_struct Try.underlying23 h
  have hx3 : xs.length = 3 := hxl
  have p0 := hf 0 _ rfl
  have p1 := hf 1 _ rfl
  have p2 := hf 2 _ rfl
  have d0 : Try.prog.cellsOf 3 = 1 := by kernel_rfl
  have d1 : Try.prog.cellsOf 9 = 1 := by kernel_rfl
  match xs, hx3 with
  | [y0, y1, y2], _ =>
    obtain ⟨k, e0, _, _⟩ := DataW.trod_int Try.underlying3 p0
    obtain ⟨m, e1, _, _⟩ := DataW.trod_int Try.underlying3 p1
    obtain ⟨s, e2, _, _⟩ := DataW.trod_string Try.underlying9 p2
    simp [d0, d1] at e0 e1 e2
    exact ⟨⟨k, m, s⟩, e0, e1, e2⟩
set_option maxRecDepth 100000 in
/-- A cell that came in. -/
theorem cell_of {H : Type} {enc : TypeId × Value → H} {W : World} {base b0 : Nat} {sp : Nat → Bool} {hd : Bool} {r : Reach} {v : Value} {d : DataW H} {p : List MemPlace}
    (hv : Value.okWide Try.prog W r b0 23 v) (h : DataW.Trod enc Try.prog W base sp hd 23 v d p) : ∃ c : Cl, v = cv c := by
  obtain ⟨cs, rfl, hsz⟩ := Go.WideShapes.okWide_struct Try.underlying23 hv
  have hC : Try.prog.cellsOf 23 = 3 := by kernel_rfl
  obtain ⟨v0, v1, v2, rfl⟩ := Go.Joins.array3 (hsz.trans hC)
  obtain ⟨fuel, hf⟩ := h
  obtain ⟨c, rfl, rfl, rfl⟩ := cell_read (x := (d, p)) (by simpa [Value.cells] using hf)
  exact ⟨c, rfl⟩
set_option maxRecDepth 100000 in
/-- A test that came in. -/
theorem test_of {H : Type} {enc : TypeId × Value → H} {W : World} {base b0 : Nat} {sp : Nat → Bool} {hd : Bool} {r : Reach} {v : Value} {d : DataW H} {p : List MemPlace}
    (hv : Value.okWide Try.prog W r b0 25 v) (h : DataW.Trod enc Try.prog W base sp hd 25 v d p) : ∃ t : Ts, v = tv t := by
  obtain ⟨cs, rfl, hsz⟩ := Go.WideShapes.okWide_struct Try.underlying25 hv
  have hC : Try.prog.cellsOf 25 = 4 := by kernel_rfl
  obtain ⟨v0, v1, v2, v3, rfl⟩ := Go.Joins.array4 (hsz.trans hC)
  obtain ⟨fuel, hf⟩ := h
  obtain ⟨xs, n, _, _, _, hxl, hff⟩ := DataW.trod_struct Try.underlying25 hf
  have hx2 : xs.length = 2 := hxl
  have p0 := hff 0 _ rfl
  have p1 := hff 1 _ rfl
  have d0 : Try.prog.cellsOf 3 = 1 := by kernel_rfl
  have d1 : Try.prog.cellsOf 23 = 3 := by kernel_rfl
  match xs, hx2 with
  | [y0, y1], _ =>
    obtain ⟨k, e0, _, _⟩ := DataW.trod_int Try.underlying3 p0
    simp [Value.cells, d0] at e0
    subst e0
    obtain ⟨c, rfl, rfl, rfl⟩ := cell_read (x := y1) (by simpa [Value.cells, d1] using p1)
    exact ⟨⟨k, c⟩, rfl⟩
/-- Cells that came in. -/
def RowsAre (w : World) (a : Option Addr) (len cap : Nat) : Prop := (a = none → len = 0 ∧ cap = 0) ∧ ∃ r : List Cl, RowIs w (.slice a len cap) r
set_option maxRecDepth 100000 in
theorem rowsAre_of {H : Type} {enc : TypeId × Value → H} {W : World} {base : Nat} {hd : Bool} {fuel : Nat} {a : Option Addr} {len cap : Nat} {x : DataW H × List MemPlace}
    (h : DataW.trod enc Try.prog W base (fun _ => true) hd fuel 31 [.slice a len cap] = some x) : RowsAre W a len cap := by
  refine ⟨?_, ?_⟩
  · rcases Go.Deep.open_slice Try.underlying31 h with ⟨h0, _⟩ | ⟨ad, ln, cp, m, n, D, Pl, hv, _⟩
    · simp at h0
      exact fun _ => h0.2
    · simp at hv
      exact fun e => by rw [e] at hv; simp at hv
  obtain ⟨hm, hk⟩ := three_of Try.underlying31 Try.underlying23 (by kernel_rfl) ⟨rfl, rfl⟩ ⟨rfl, rfl⟩ ⟨rfl, rfl⟩ (by kernel_rfl) (by kernel_rfl) (by kernel_rfl) h
  rcases Nat.eq_zero_or_pos len with rfl | hpos
  · exact ⟨[], a, cap, rfl, fun h => absurd rfl h⟩
  · obtain ⟨b, off, rfl, hb, hall⟩ := hk hpos
    obtain ⟨r, hl, hr⟩ := list_of (Q := fun i (c : Cl) => CellAt W b (off + i * 3) c) len fun i hi => by
      obtain ⟨v0, v1, v2, k, y0, y1, y2, q0, q1, q2, p0, p1, p2⟩ := hall i hi
      obtain ⟨kk, e0, _, w0⟩ := DataW.trod_int Try.underlying3 p0
      obtain ⟨m, e1, _, w1⟩ := DataW.trod_int Try.underlying3 p1
      obtain ⟨s, e2, _, w2⟩ := DataW.trod_string Try.underlying9 p2
      simp only [List.cons.injEq, and_true] at e0 e1 e2
      subst e0 e1 e2
      exact ⟨⟨kk, m, s⟩, q0, q1, q2⟩
    exact ⟨r, _, cap, by rw [hl], fun _ => ⟨b, off, rfl, hb, fun i c hi => hr i c hi⟩⟩

/-- What a law's walk is told of a slice of integers that came in: it is nil, or its cells (elements, then spare room) hold the numbers zs, each of its kind. -/
def IsRow (k : IntKind) (w : World) (a : Option Addr) (len cap : Nat) (zs : List Int) : Prop :=
  (a = none ∧ len = 0 ∧ cap = 0 ∧ zs = []) ∨
  ∃ x, a = some x ∧ len ≤ cap ∧ cap ≤ maxLen ∧ zs.length = cap ∧ (∀ i, i < zs.length → w.cell? (x.add i) = some (.int k (zs.getD i 0))) ∧ ∀ n ∈ zs, (Lit.int k n).wf = true
theorem nums_of {w : World} {a : Option Addr} {len cap : Nat} {zs : List Int} (h : IsRow .i64 w a len cap zs) : ∃ l : List Int, l.length = len ∧ NumsIs w (.slice a len cap) l := by
  rcases h with ⟨rfl, rfl, rfl, rfl⟩ | ⟨x, rfl, hlc, hm, hzl, hc, hwf⟩
  · exact ⟨[], rfl, none, 0, rfl, fun h => absurd rfl h⟩
  · have hll : (zs.take len).length = len := by rw [List.length_take]; omega
    refine ⟨zs.take len, hll, some x, cap, by rw [hll], fun hne => ?_⟩
    have hpos : 0 < len := by
      rcases Nat.eq_zero_or_pos len with h0 | h0
      · subst h0; simp at hne
      · exact h0
    obtain ⟨b, off, spot⟩ := x
    have hc0 := hc 0 (by omega)
    have hspot : spot = none := by simpa [Addr.add] using World.cell?_spot hc0
    subst hspot
    have hbw : b < w.heap.size := by
      have := World.block_lt_of_cell? w _ hc0
      simpa [Addr.add] using this
    refine ⟨b, off, rfl, hbw, fun i y hi => ?_⟩
    have hil := (List.getElem?_eq_some_iff.1 hi).1
    have hz := hc i (by omega)
    have hadd : (⟨b, off, none⟩ : Addr).add i = ⟨b, off + i, none⟩ := by unfold Addr.add; split <;> simp_all
    rw [hadd] at hz
    rw [hz]
    rw [List.getElem?_take_of_lt (by omega)] at hi
    rw [List.getD_eq_getElem?_getD, hi]
    rfl
end Go.Proofs.Ytnnnkmgkijijdaa
