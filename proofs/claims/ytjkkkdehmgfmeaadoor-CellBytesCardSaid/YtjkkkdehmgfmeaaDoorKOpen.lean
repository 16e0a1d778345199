/-
  Cells, rows of cells, columns and orders that came in as arguments: what their cells are.
-/
import Derived.Test.YtjkkkdehmgfmeaaDoorKFits
import Derived.Test.YtjkkkdehmgfmeaaDoorKRows
import Derived.Test.YtjkkkdehmgfmeaaDoorKPut
import Derived.Lib.SmallJoins
import Derived.Deep.Slices
import Derived.ChangeArms
namespace Go.Proofs.YtjkkkdehmgfmeaaDoor
open Go.RowKit

theorem int_range (n : Int) (h : (Lit.int .i64 n).wf = true) : -9223372036854775808 ≤ n ∧ n ≤ 9223372036854775807 := by
  obtain ⟨x, rfl⟩ := Wd.word_of n h
  have h1 := BitVec.toInt_lt (x := x)
  have h2 := BitVec.le_toInt (x := x)
  omega
set_option maxRecDepth 100000 in
/-- A cell that came in. -/
theorem cell_of {H : Type} {enc : TypeId × Value → H} {W : World} {base b0 : Nat} {sp : Nat → Bool} {hd : Bool} {r : Reach} {v : Value} {d : DataW H} {p : List MemPlace}
    (hv : Value.okWide Tryd.prog W r b0 23 v) (h : DataW.Trod enc Tryd.prog W base sp hd 23 v d p) : ∃ c : Cl, v = cv c ∧ okC c := by
  obtain ⟨v0, v1, v2, y0, y1, y2, n, rfl, _, _, h0, h1, h2⟩ := Go.Joins.open_agg3 Tryd.underlying23 (by kernel_rfl) (by kernel_rfl) hv h
  obtain ⟨k, e0, _, w0⟩ := DataW.trod_int Tryd.underlying3 h0
  obtain ⟨m, e1, _, w1⟩ := DataW.trod_int Tryd.underlying3 h1
  obtain ⟨s, e2, _, w2⟩ := DataW.trod_string Tryd.underlying9 h2
  simp only [List.cons.injEq, and_true] at e0 e1 e2
  subst e0 e1 e2
  exact ⟨⟨k, m, s⟩, rfl, int_range m w1⟩
/-- A list of what there is at each place. -/
theorem list_of {α : Type} {Q : Nat → α → Prop} : ∀ n : Nat, (∀ i, i < n → ∃ c, Q i c) → ∃ r : List α, r.length = n ∧ ∀ i c, r[i]? = some c → Q i c
  | 0, _ => ⟨[], rfl, fun i c h => by simp at h⟩
  | n + 1, h => by
    obtain ⟨r, hl, hr⟩ := list_of n fun i hi => h i (by omega)
    obtain ⟨c, hc⟩ := h n (by omega)
    refine ⟨r ++ [c], by simp [hl], fun i x hx => ?_⟩
    by_cases hi : i < n
    · rw [List.getElem?_append_left (by omega)] at hx
      exact hr i x hx
    · have hlt := (List.getElem?_eq_some_iff.1 hx).1
      rw [List.length_append, List.length_singleton] at hlt
      obtain rfl : i = n := by omega
      rw [List.getElem?_append_right (by omega), hl, Nat.sub_self] at hx
      simp at hx
      subst hx
      exact hc
set_option maxRecDepth 100000 in
/-- Structs of three cells that came in as a slice: where they lie, and how each reads. -/
theorem three_of {H : Type} {enc : TypeId × Value → H} {W : World} {base : Nat} {hd : Bool} {fuel : Nat} {a : Option Addr} {len cap : Nat} {x : DataW H × List MemPlace} {T e t0 t1 t2 : TypeId} {f0 f1 f2 : Field}
    (hT : Tryd.prog.underlying T = some (.slice e)) (he : Tryd.prog.underlying e = some (.struct #[f0, f1, f2])) (hc : Tryd.prog.cellsOf e = 3) (g0 : f0.type = t0 ∧ f0.offset = 0) (g1 : f1.type = t1 ∧ f1.offset = 1) (g2 : f2.type = t2 ∧ f2.offset = 2)
    (d0 : Tryd.prog.cellsOf t0 = 1) (d1 : Tryd.prog.cellsOf t1 = 1) (d2 : Tryd.prog.cellsOf t2 = 1)
    (h : DataW.trod enc Tryd.prog W base (fun _ => true) hd fuel T [.slice a len cap] = some x) :
    len ≤ maxLen ∧ (0 < len → ∃ b off, a = some ⟨b, off, none⟩ ∧ b < W.heap.size ∧ ∀ i, i < len → ∃ v0 v1 v2 k y0 y1 y2, W.cell? ⟨b, off + i * 3, none⟩ = some v0 ∧ W.cell? ⟨b, off + i * 3 + 1, none⟩ = some v1 ∧ W.cell? ⟨b, off + i * 3 + 2, none⟩ = some v2 ∧
      DataW.trod enc Tryd.prog W base (fun _ => true) hd k t0 [v0] = some y0 ∧ DataW.trod enc Tryd.prog W base (fun _ => true) hd k t1 [v1] = some y1 ∧ DataW.trod enc Tryd.prog W base (fun _ => true) hd k t2 [v2] = some y2) := by
  rcases Go.Deep.open_slice hT h with ⟨h0, _⟩ | ⟨ad, ln, cp, m, n, D, Pl, hv, _, hl, hm, hmm, _, hx⟩
  · simp at h0
    obtain ⟨rfl, rfl, rfl⟩ := h0
    exact ⟨Nat.zero_le _, fun h => by omega⟩
  · simp at hv
    obtain ⟨rfl, rfl, rfl⟩ := hv
    refine ⟨Nat.le_trans hl hm, fun hpos => ?_⟩
    obtain ⟨b, off, spot⟩ := ad
    have hspot : spot = none := by
      obtain ⟨cs0, h10, _⟩ := hx 0 (by rw [hmm]; split <;> omega)
      rw [hc] at h10
      obtain ⟨_, hlen0, hcell0⟩ := World.cells?_some h10
      have q := hcell0 0 (by omega)
      rw [List.getElem?_eq_getElem (by omega)] at q
      have := World.cell?_spot q
      simpa [Addr.add] using this
    subst hspot
    have hadd : ∀ t : Nat, (⟨b, off, none⟩ : Addr).add t = ⟨b, off + t, none⟩ := fun t => by unfold Addr.add; split <;> simp_all
    have key : ∀ i, i < len → ∃ v0 v1 v2 k y0 y1 y2, W.cell? ⟨b, off + i * 3, none⟩ = some v0 ∧ W.cell? ⟨b, off + i * 3 + 1, none⟩ = some v1 ∧ W.cell? ⟨b, off + i * 3 + 2, none⟩ = some v2 ∧
      DataW.trod enc Tryd.prog W base (fun _ => true) hd k t0 [v0] = some y0 ∧ DataW.trod enc Tryd.prog W base (fun _ => true) hd k t1 [v1] = some y1 ∧ DataW.trod enc Tryd.prog W base (fun _ => true) hd k t2 [v2] = some y2 := by
      intro i hi
      have him : i < m := by rw [hmm]; split <;> omega
      obtain ⟨cs', h1, h2⟩ := hx i him
      rw [hc] at h1
      obtain ⟨_, hlen, hcell⟩ := World.cells?_some h1
      obtain ⟨xs, k, hk, hxy, _, hxl, hf⟩ := DataW.trod_struct he h2
      match cs', hlen with
      | [v0, v1, v2], _ =>
        have p0 := hf 0 f0 rfl
        have p1 := hf 1 f1 rfl
        have p2 := hf 2 f2 rfl
        rw [g0.1, g0.2, d0] at p0
        rw [g1.1, g1.2, d1] at p1
        rw [g2.1, g2.2, d2] at p2
        have hx3 : xs.length = 3 := hxl
        match xs, hx3 with
        | [y0, y1, y2], _ =>
          have q0 := hcell 0 (by omega)
          have q1 := hcell 1 (by omega)
          have q2 := hcell 2 (by omega)
          simp only [List.getElem?_cons_zero, List.getElem?_cons_succ, Go.Deep.add_add] at q0 q1 q2
          rw [hadd] at q0 q1 q2
          exact ⟨v0, v1, v2, k, y0, y1, y2, by simpa using q0, by simpa [Nat.add_assoc] using q1, by simpa [Nat.add_assoc] using q2, p0, p1, p2⟩
    obtain ⟨v0, _, _, _, _, _, _, hb0, _⟩ := key 0 hpos
    exact ⟨b, off, rfl, World.block_lt_of_cell? W _ hb0, key⟩
set_option maxRecDepth 100000 in
/-- Structs of two cells that came in as a slice: where they lie, and how each reads. -/
theorem two_of {H : Type} {enc : TypeId × Value → H} {W : World} {base : Nat} {hd : Bool} {fuel : Nat} {a : Option Addr} {len cap : Nat} {x : DataW H × List MemPlace} {T e t0 t1 : TypeId} {f0 f1 : Field}
    (hT : Tryd.prog.underlying T = some (.slice e)) (he : Tryd.prog.underlying e = some (.struct #[f0, f1])) (hc : Tryd.prog.cellsOf e = 2) (g0 : f0.type = t0 ∧ f0.offset = 0) (g1 : f1.type = t1 ∧ f1.offset = 1)
    (d0 : Tryd.prog.cellsOf t0 = 1) (d1 : Tryd.prog.cellsOf t1 = 1)
    (h : DataW.trod enc Tryd.prog W base (fun _ => true) hd fuel T [.slice a len cap] = some x) :
    len ≤ maxLen ∧ (0 < len → ∃ b off, a = some ⟨b, off, none⟩ ∧ b < W.heap.size ∧ ∀ i, i < len → ∃ v0 v1 k y0 y1, W.cell? ⟨b, off + i * 2, none⟩ = some v0 ∧ W.cell? ⟨b, off + i * 2 + 1, none⟩ = some v1 ∧
      DataW.trod enc Tryd.prog W base (fun _ => true) hd k t0 [v0] = some y0 ∧ DataW.trod enc Tryd.prog W base (fun _ => true) hd k t1 [v1] = some y1) := by
  rcases Go.Deep.open_slice hT h with ⟨h0, _⟩ | ⟨ad, ln, cp, m, n, D, Pl, hv, _, hl, hm, hmm, _, hx⟩
  · simp at h0
    obtain ⟨rfl, rfl, rfl⟩ := h0
    exact ⟨Nat.zero_le _, fun h => by omega⟩
  · simp at hv
    obtain ⟨rfl, rfl, rfl⟩ := hv
    refine ⟨Nat.le_trans hl hm, fun hpos => ?_⟩
    obtain ⟨b, off, spot⟩ := ad
    have hspot : spot = none := by
      obtain ⟨cs0, h10, _⟩ := hx 0 (by rw [hmm]; split <;> omega)
      rw [hc] at h10
      obtain ⟨_, hlen0, hcell0⟩ := World.cells?_some h10
      have q := hcell0 0 (by omega)
      rw [List.getElem?_eq_getElem (by omega)] at q
      have := World.cell?_spot q
      simpa [Addr.add] using this
    subst hspot
    have hadd : ∀ t : Nat, (⟨b, off, none⟩ : Addr).add t = ⟨b, off + t, none⟩ := fun t => by unfold Addr.add; split <;> simp_all
    have key : ∀ i, i < len → ∃ v0 v1 k y0 y1, W.cell? ⟨b, off + i * 2, none⟩ = some v0 ∧ W.cell? ⟨b, off + i * 2 + 1, none⟩ = some v1 ∧
      DataW.trod enc Tryd.prog W base (fun _ => true) hd k t0 [v0] = some y0 ∧ DataW.trod enc Tryd.prog W base (fun _ => true) hd k t1 [v1] = some y1 := by
      intro i hi
      have him : i < m := by rw [hmm]; split <;> omega
      obtain ⟨cs', h1, h2⟩ := hx i him
      rw [hc] at h1
      obtain ⟨_, hlen, hcell⟩ := World.cells?_some h1
      obtain ⟨xs, k, hk, hxy, _, hxl, hf⟩ := DataW.trod_struct he h2
      match cs', hlen with
      | [v0, v1], _ =>
        have p0 := hf 0 f0 rfl
        have p1 := hf 1 f1 rfl
        rw [g0.1, g0.2, d0] at p0
        rw [g1.1, g1.2, d1] at p1
        have hx3 : xs.length = 2 := hxl
        match xs, hx3 with
        | [y0, y1], _ =>
          have q0 := hcell 0 (by omega)
          have q1 := hcell 1 (by omega)
          simp only [List.getElem?_cons_zero, List.getElem?_cons_succ, Go.Deep.add_add] at q0 q1
          rw [hadd] at q0 q1
          exact ⟨v0, v1, k, y0, y1, by simpa using q0, by simpa [Nat.add_assoc] using q1, p0, p1⟩
    obtain ⟨v0, _, _, _, _, hb0, _⟩ := key 0 hpos
    exact ⟨b, off, rfl, World.block_lt_of_cell? W _ hb0, key⟩
set_option maxRecDepth 100000 in
/-- A row that came in. -/
theorem row_of {H : Type} {enc : TypeId × Value → H} {W : World} {base : Nat} {hd : Bool} {fuel : Nat} {a : Option Addr} {len cap : Nat} {x : DataW H × List MemPlace}
    (h : DataW.trod enc Tryd.prog W base (fun _ => true) hd fuel 32 [.slice a len cap] = some x) : ∃ r : List Cl, RowIs W (.slice a len cap) r ∧ (∀ (i : Nat) (c : Cl), r[i]? = some c → okC c) ∧ r.length ≤ maxLen := by
  obtain ⟨hm, hk⟩ := three_of Tryd.underlying32 Tryd.underlying23 (by kernel_rfl) ⟨rfl, rfl⟩ ⟨rfl, rfl⟩ ⟨rfl, rfl⟩ (by kernel_rfl) (by kernel_rfl) (by kernel_rfl) h
  rcases Nat.eq_zero_or_pos len with rfl | hpos
  · exact ⟨[], ⟨a, cap, rfl, fun h => absurd rfl h⟩, fun i c h => by simp at h, hm⟩
  · obtain ⟨b, off, rfl, hb, hall⟩ := hk hpos
    obtain ⟨r, hl, hr⟩ := list_of (Q := fun i (c : Cl) => CellAt W b (off + i * 3) c ∧ okC c) len fun i hi => by
      obtain ⟨v0, v1, v2, k, y0, y1, y2, q0, q1, q2, p0, p1, p2⟩ := hall i hi
      obtain ⟨kk, e0, _, w0⟩ := DataW.trod_int Tryd.underlying3 p0
      obtain ⟨m, e1, _, w1⟩ := DataW.trod_int Tryd.underlying3 p1
      obtain ⟨s, e2, _, w2⟩ := DataW.trod_string Tryd.underlying9 p2
      simp only [List.cons.injEq, and_true] at e0 e1 e2
      subst e0 e1 e2
      exact ⟨⟨kk, m, s⟩, ⟨q0, q1, q2⟩, int_range m w1⟩
    exact ⟨r, ⟨_, cap, by rw [hl], fun _ => ⟨b, off, rfl, hb, fun i c hi => (hr i c hi).1⟩⟩, fun i c hi => (hr i c hi).2, by rw [hl]; exact hm⟩
set_option maxRecDepth 100000 in
/-- Columns that came in. -/
theorem cols_of {H : Type} {enc : TypeId × Value → H} {W : World} {base : Nat} {hd : Bool} {fuel : Nat} {a : Option Addr} {len cap : Nat} {x : DataW H × List MemPlace}
    (h : DataW.trod enc Tryd.prog W base (fun _ => true) hd fuel 43 [.slice a len cap] = some x) : ∃ qs : List Col, ColsIs W (.slice a len cap) qs ∧ qs.length ≤ maxLen := by
  obtain ⟨hm, hk⟩ := three_of Tryd.underlying43 Tryd.underlying62 (by kernel_rfl) ⟨rfl, rfl⟩ ⟨rfl, rfl⟩ ⟨rfl, rfl⟩ (by kernel_rfl) (by kernel_rfl) (by kernel_rfl) h
  rcases Nat.eq_zero_or_pos len with rfl | hpos
  · exact ⟨[], ⟨a, cap, rfl, fun h => absurd rfl h⟩, hm⟩
  · obtain ⟨b, off, rfl, hb, hall⟩ := hk hpos
    obtain ⟨r, hl, hr⟩ := list_of (Q := fun i (q : Col) => W.cell? ⟨b, off + i * 3, none⟩ = some (.string q.nm) ∧ W.cell? ⟨b, off + i * 3 + 1, none⟩ = some (.int .i64 q.kind) ∧ W.cell? ⟨b, off + i * 3 + 2, none⟩ = some (.bool q.nul)) len fun i hi => by
      obtain ⟨v0, v1, v2, k, y0, y1, y2, q0, q1, q2, p0, p1, p2⟩ := hall i hi
      obtain ⟨s, e0, _, w0⟩ := DataW.trod_string Tryd.underlying9 p0
      obtain ⟨m, e1, _, w1⟩ := DataW.trod_int Tryd.underlying3 p1
      obtain ⟨z, e2, _⟩ := DataW.trod_bool Tryd.underlying4 p2
      simp only [List.cons.injEq, and_true] at e0 e1 e2
      subst e0 e1 e2
      exact ⟨⟨s, m, z⟩, q0, q1, q2⟩
    exact ⟨r, ⟨_, cap, by rw [hl], fun _ => ⟨b, off, rfl, hb, fun i q hi => hr i q hi⟩⟩, by rw [hl]; exact hm⟩
set_option maxRecDepth 100000 in
/-- An order that came in. -/
theorem sorts_of {H : Type} {enc : TypeId × Value → H} {W : World} {base : Nat} {hd : Bool} {fuel : Nat} {a : Option Addr} {len cap : Nat} {x : DataW H × List MemPlace}
    (h : DataW.trod enc Tryd.prog W base (fun _ => true) hd fuel 33 [.slice a len cap] = some x) : ∃ ks : List (Int × Bool), SortsIs W (.slice a len cap) ks ∧ ks.length ≤ maxLen := by
  obtain ⟨hm, hk⟩ := two_of Tryd.underlying33 Tryd.underlying54 (by kernel_rfl) ⟨rfl, rfl⟩ ⟨rfl, rfl⟩ (by kernel_rfl) (by kernel_rfl) h
  rcases Nat.eq_zero_or_pos len with rfl | hpos
  · exact ⟨[], ⟨a, cap, rfl, fun h => absurd rfl h⟩, hm⟩
  · obtain ⟨b, off, rfl, hb, hall⟩ := hk hpos
    obtain ⟨r, hl, hr⟩ := list_of (Q := fun i (q : Int × Bool) => W.cell? ⟨b, off + i * 2, none⟩ = some (.int .i64 q.1) ∧ W.cell? ⟨b, off + i * 2 + 1, none⟩ = some (.bool q.2) ∧ q.1 < 9223372036854775808) len fun i hi => by
      obtain ⟨v0, v1, k, y0, y1, q0, q1, p0, p1⟩ := hall i hi
      obtain ⟨m, e0, _, w0⟩ := DataW.trod_int Tryd.underlying3 p0
      obtain ⟨z, e1, _⟩ := DataW.trod_bool Tryd.underlying4 p1
      simp only [List.cons.injEq, and_true] at e0 e1
      subst e0 e1
      have := int_range m w0
      exact ⟨(m, z), q0, q1, by omega⟩
    exact ⟨r, ⟨_, cap, by rw [hl], fun _ => ⟨b, off, rfl, hb, fun i q hi => hr i q hi⟩⟩, by rw [hl]; exact hm⟩
end Go.Proofs.YtjkkkdehmgfmeaaDoor
