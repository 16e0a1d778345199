/-
  Extents, and calls, that came in as slices: what their cells are.
-/
import Derived.Test.YtjnobdgigeejnaaELaw
namespace Go.Proofs.Ytjnobdgigeejnaa
open Go.RowKit

/-- Extents that came in. -/
def ExtsAre (w : World) (a : Option Addr) (len : Nat) : Prop :=
  len ≤ maxLen ∧ ∀ i, i < len → ∃ b off x y, a = some ⟨b, off, none⟩ ∧ b < w.heap.size ∧ w.cell? ⟨b, off + i * 2, none⟩ = some (.int .i64 x) ∧ w.cell? ⟨b, off + i * 2 + 1, none⟩ = some (.int .i64 y) ∧ (-9223372036854775808 ≤ x ∧ x < 9223372036854775808)
theorem exts_of {H : Type} {enc : TypeId × Value → H} {W : World} {base : Nat} {hd : Bool} {fuel : Nat} {a : Option Addr} {len cap : Nat} {x : DataW H × List MemPlace}
    (h : DataW.trod enc Try.prog W base (fun _ => true) hd fuel 45 [.slice a len cap] = some x) : ExtsAre W a len := by
  rcases Go.Deep.open_slice Try.underlying45 h with ⟨h0, _⟩ | ⟨ad, ln, cp, m, n, D, Pl, hv, _, hl, hm, hmm, _, hx⟩
  · simp at h0
    obtain ⟨rfl, rfl, rfl⟩ := h0
    exact ⟨Nat.zero_le _, fun i hi => by omega⟩
  · simp at hv
    obtain ⟨rfl, rfl, rfl⟩ := hv
    refine ⟨Nat.le_trans hl hm, fun i hi => ?_⟩
    have him : i < m := by rw [hmm]; split <;> omega
    obtain ⟨cs', h1, h2⟩ := hx i him
    have ce : Try.prog.cellsOf 32 = 2 := by kernel_rfl
    rw [ce] at h1
    obtain ⟨_, hlen, hcell⟩ := World.cells?_some h1
    obtain ⟨xs, k, hk, hxy, _, hxl, hf⟩ := DataW.trod_struct Try.underlying32 h2
    match cs', hlen with
    | [v0, v1], _ =>
      have d3 : Try.prog.cellsOf 3 = 1 := by kernel_rfl
      have g0 : DataW.trod enc Try.prog W base (fun _ => true) hd k 3 (([v0, v1].drop 0).take (Try.prog.cellsOf 3)) = xs[0]? := hf 0 _ rfl
      rw [d3] at g0
      replace g0 : DataW.trod enc Try.prog W base (fun _ => true) hd k 3 [v0] = xs[0]? := g0
      have g1 : DataW.trod enc Try.prog W base (fun _ => true) hd k 3 (([v0, v1].drop 1).take (Try.prog.cellsOf 3)) = xs[1]? := hf 1 _ rfl
      rw [d3] at g1
      replace g1 : DataW.trod enc Try.prog W base (fun _ => true) hd k 3 [v1] = xs[1]? := g1
      have hx5 : xs.length = 2 := hxl
      match xs, hx5 with
      | [y0, y1], _ =>
        obtain ⟨p0, e0, _, w0⟩ := DataW.trod_int Try.underlying3 g0
        obtain ⟨p1, e1, _, w1⟩ := DataW.trod_int Try.underlying3 g1
        simp only [List.cons.injEq, and_true] at e0 e1
        subst e0 e1
        have q0 := hcell 0 (by omega)
        have q1 := hcell 1 (by omega)
        simp only [List.getElem?_cons_zero, List.getElem?_cons_succ, Go.Deep.add_add] at q0 q1
        obtain ⟨b, off, spot⟩ := ad
        have hspot : spot = none := by
          obtain ⟨cs0, h10, _⟩ := hx 0 (by omega)
          rw [ce] at h10
          obtain ⟨_, hlen0, hcell0⟩ := World.cells?_some h10
          have q := hcell0 0 (by omega)
          rw [List.getElem?_eq_getElem (by omega)] at q
          have := World.cell?_spot q
          simpa [Addr.add] using this
        subst hspot
        have hadd : ∀ t : Nat, (⟨b, off, none⟩ : Addr).add t = ⟨b, off + t, none⟩ := fun t => by unfold Addr.add; split <;> simp_all
        rw [hadd] at q0 q1
        have hbw : b < W.heap.size := World.block_lt_of_cell? W _ q0
        exact ⟨b, off, p0, p1, rfl, hbw, by simpa using q0, by simpa [Nat.add_assoc] using q1, wf_range p0 w0⟩

/-- What a walk is told of a slice of integers that came in. -/
def IsRow (k : IntKind) (w : World) (a : Option Addr) (len cap : Nat) (zs : List Int) : Prop :=
  (a = none ∧ len = 0 ∧ cap = 0 ∧ zs = []) ∨
  ∃ x, a = some x ∧ len ≤ cap ∧ cap ≤ maxLen ∧ zs.length = cap ∧ (∀ i, i < zs.length → w.cell? (x.add i) = some (.int k (zs.getD i 0))) ∧ ∀ n ∈ zs, (Lit.int k n).wf = true
theorem row_len {k : IntKind} {w : World} {a : Option Addr} {len cap : Nat} {zs : List Int} (h : IsRow k w a len cap zs) : len ≤ maxLen := by
  rcases h with ⟨_, rfl, _⟩ | ⟨x, _, h1, h2, _⟩
  · exact Nat.zero_le _
  · omega
theorem row_at {w : World} {a : Option Addr} {len cap : Nat} {zs : List Int} (h : IsRow .i64 w a len cap zs) (i : Nat) (hi : i < len) : ∃ b off z, a = some ⟨b, off, none⟩ ∧ b < w.heap.size ∧ w.cell? ⟨b, off + i, none⟩ = some (.int .i64 z) ∧ (Lit.int .i64 z).wf = true := by
  rcases h with ⟨_, rfl, _⟩ | ⟨x, rfl, h1, h2, h3, h4, h5⟩
  · omega
  · have hc := h4 i (by omega)
    obtain ⟨b, off, spot⟩ := x
    have hspot : spot = none := by simpa [Addr.add] using World.cell?_spot (h4 0 (by omega))
    subst hspot
    have hadd : (⟨b, off, none⟩ : Addr).add i = ⟨b, off + i, none⟩ := by unfold Addr.add; split <;> simp_all
    rw [hadd] at hc
    exact ⟨b, off, zs.getD i 0, rfl, World.block_lt_of_cell? w _ hc, hc, h5 _ (by simp [show i < zs.length by omega])⟩
theorem wf_of {a : Int} (h : -9223372036854775808 ≤ a ∧ a < 9223372036854775808) : (Lit.int .i64 a).wf = true := by
  rw [Wd.word_of_le a h.1 (by omega)]
  exact Wd.i64_wf _
/-- Calls that came in: a kind and an extent each. -/
def ActsAre (w : World) (a : Option Addr) (len : Nat) : Prop :=
  len ≤ maxLen ∧ ∀ i, i < len → ∃ b off k x y, a = some ⟨b, off, none⟩ ∧ b < w.heap.size ∧ w.cell? ⟨b, off + i * 3, none⟩ = some (.int .i64 k) ∧ w.cell? ⟨b, off + i * 3 + 1, none⟩ = some (.int .i64 x) ∧ w.cell? ⟨b, off + i * 3 + 2, none⟩ = some (.int .i64 y) ∧ (-9223372036854775808 ≤ x ∧ x < 9223372036854775808) ∧ (-9223372036854775808 ≤ y ∧ y < 9223372036854775808)
theorem acts_of {H : Type} {enc : TypeId × Value → H} {W : World} {base : Nat} {hd : Bool} {fuel : Nat} {a : Option Addr} {len cap : Nat} {x : DataW H × List MemPlace}
    (h : DataW.trod enc Try.prog W base (fun _ => true) hd fuel 22 [.slice a len cap] = some x) : ActsAre W a len := by
  rcases Go.Deep.open_slice Try.underlying22 h with ⟨h0, _⟩ | ⟨ad, ln, cp, m, n, D, Pl, hv, _, hl, hm, hmm, _, hx⟩
  · simp at h0
    obtain ⟨rfl, rfl, rfl⟩ := h0
    exact ⟨Nat.zero_le _, fun i hi => by omega⟩
  · simp at hv
    obtain ⟨rfl, rfl, rfl⟩ := hv
    refine ⟨Nat.le_trans hl hm, fun i hi => ?_⟩
    have him : i < m := by rw [hmm]; split <;> omega
    obtain ⟨cs', h1, h2⟩ := hx i him
    have ce : Try.prog.cellsOf 34 = 3 := by kernel_rfl
    rw [ce] at h1
    obtain ⟨_, hlen, hcell⟩ := World.cells?_some h1
    obtain ⟨xs, k, hk, hxy, _, hxl, hf⟩ := DataW.trod_struct Try.underlying34 h2
    match cs', hlen with
    | [v0, v1, v2], _ =>
      have d3 : Try.prog.cellsOf 3 = 1 := by kernel_rfl
      have d2 : Try.prog.cellsOf 32 = 2 := by kernel_rfl
      have g0 : DataW.trod enc Try.prog W base (fun _ => true) hd k 3 (([v0, v1, v2].drop 0).take (Try.prog.cellsOf 3)) = xs[0]? := hf 0 _ rfl
      rw [d3] at g0
      replace g0 : DataW.trod enc Try.prog W base (fun _ => true) hd k 3 [v0] = xs[0]? := g0
      have g1 : DataW.trod enc Try.prog W base (fun _ => true) hd k 32 (([v0, v1, v2].drop 1).take (Try.prog.cellsOf 32)) = xs[1]? := hf 1 _ rfl
      rw [d2] at g1
      replace g1 : DataW.trod enc Try.prog W base (fun _ => true) hd k 32 [v1, v2] = xs[1]? := g1
      have hx5 : xs.length = 2 := hxl
      match xs, hx5 with
      | [y0, y1], _ =>
        obtain ⟨p0, e0, _, w0⟩ := DataW.trod_int Try.underlying3 g0
        obtain ⟨ys, k2, hk2, _, _, hyl, hf2⟩ := DataW.trod_struct Try.underlying32 g1
        have j0 : DataW.trod enc Try.prog W base (fun _ => true) hd k2 3 (([v1, v2].drop 0).take (Try.prog.cellsOf 3)) = ys[0]? := hf2 0 _ rfl
        rw [d3] at j0
        replace j0 : DataW.trod enc Try.prog W base (fun _ => true) hd k2 3 [v1] = ys[0]? := j0
        have j1 : DataW.trod enc Try.prog W base (fun _ => true) hd k2 3 (([v1, v2].drop 1).take (Try.prog.cellsOf 3)) = ys[1]? := hf2 1 _ rfl
        rw [d3] at j1
        replace j1 : DataW.trod enc Try.prog W base (fun _ => true) hd k2 3 [v2] = ys[1]? := j1
        have hy5 : ys.length = 2 := hyl
        match ys, hy5 with
        | [z0, z1], _ =>
          obtain ⟨p1, e1, _, w1⟩ := DataW.trod_int Try.underlying3 j0
          obtain ⟨p2, e2, _, w2⟩ := DataW.trod_int Try.underlying3 j1
          simp only [List.cons.injEq, and_true] at e0 e1 e2
          subst e0 e1 e2
          have q0 := hcell 0 (by omega)
          have q1 := hcell 1 (by omega)
          have q2 := hcell 2 (by omega)
          simp only [List.getElem?_cons_zero, List.getElem?_cons_succ, Go.Deep.add_add] at q0 q1 q2
          obtain ⟨b, off, spot⟩ := ad
          have hspot : spot = none := by
            obtain ⟨cs0, h10, _⟩ := hx 0 (by omega)
            rw [ce] at h10
            obtain ⟨_, hlen0, hcell0⟩ := World.cells?_some h10
            have q := hcell0 0 (by omega)
            rw [List.getElem?_eq_getElem (by omega)] at q
            have := World.cell?_spot q
            simpa [Addr.add] using this
          subst hspot
          have hadd : ∀ t : Nat, (⟨b, off, none⟩ : Addr).add t = ⟨b, off + t, none⟩ := fun t => by unfold Addr.add; split <;> simp_all
          rw [hadd] at q0 q1 q2
          have hbw : b < W.heap.size := World.block_lt_of_cell? W _ q0
          exact ⟨b, off, p0, p1, p2, rfl, hbw, by simpa using q0, by simpa [Nat.add_assoc] using q1, by simpa [Nat.add_assoc] using q2, wf_range p1 w1, wf_range p2 w2⟩
end Go.Proofs.Ytjnobdgigeejnaa
