/-
  A list of calls that came in: what its cells are; does, whatever the call is.
-/
import Derived.Test.YtmgodahdljnbmaaDDo0
import Derived.Test.YtmgodahdljnbmaaDDo1
import Derived.Test.YtmgodahdljnbmaaDDo3
import Derived.Test.YtmgodahdljnbmaaDDo5
import Derived.Deep.Slices
import Derived.ChangeArms
namespace Go.Proofs.Ytmgodahdljnbmaa
open Go.RowKit

structure ActAt (w : World) (b o : Nat) (kind at_ : Int) (c : UInt8) (text : ByteArray) (ka : Option Addr) (kn kc : Nat) (l : List (BitVec 64)) : Prop where
  c0 : w.cell? ⟨b, o, none⟩ = some (.int .i64 kind)
  c1 : w.cell? ⟨b, o + 1, none⟩ = some (.int .i64 at_)
  c2 : w.cell? ⟨b, o + 2, none⟩ = some (.int .u8 (c.toNat : Int))
  c3 : w.cell? ⟨b, o + 3, none⟩ = some (.string text)
  c4 : w.cell? ⟨b, o + 4, none⟩ = some (.slice ka kn kc)
  keep : ReadsI w (.slice ka kn kc) l
  few : l.length ≤ maxLen
  at64 : -9223372036854775808 ≤ at_ ∧ at_ < 9223372036854775808
def ActsAre (w : World) (a : Option Addr) (len : Nat) : Prop :=
  len ≤ maxLen ∧ ∀ i, i < len → ∃ b off, a = some ⟨b, off, none⟩ ∧ b < w.heap.size ∧ ∃ kind at_ c text ka kn kc l, ActAt w b (off + i * 5) kind at_ c text ka kn kc l
theorem ActAt.below {w w' : World} {b o : Nat} {kind at_ : Int} {c : UInt8} {text : ByteArray} {ka : Option Addr} {kn kc : Nat} {l : List (BitVec 64)} (h : ActAt w b o kind at_ c text ka kn kc l) (hb : b < w.heap.size) (k : Below w.heap.size w w') : ActAt w' b o kind at_ c text ka kn kc l :=
  ⟨(k.cell (p := ⟨b, o, none⟩) hb).trans h.c0, (k.cell (p := ⟨b, o + 1, none⟩) hb).trans h.c1, (k.cell (p := ⟨b, o + 2, none⟩) hb).trans h.c2, (k.cell (p := ⟨b, o + 3, none⟩) hb).trans h.c3, (k.cell (p := ⟨b, o + 4, none⟩) hb).trans h.c4, h.keep.below k, h.few, h.at64⟩

theorem u8_of (n : Int) (h : (Lit.int .u8 n).wf = true) : ∃ c : UInt8, n = (c.toNat : Int) := by
  have hb : 0 ≤ n ∧ n ≤ 255 := by
    have h0 : IntKind.u8.min ≤ n ∧ n ≤ IntKind.u8.max := by simpa [Lit.wf] using h
    exact h0
  refine ⟨UInt8.ofNat n.toNat, ?_⟩
  rw [UInt8.toNat_ofNat', Nat.mod_eq_of_lt (by omega)]
  omega
theorem i64_of (n : Int) (h : (Lit.int .i64 n).wf = true) : -9223372036854775808 ≤ n ∧ n < 9223372036854775808 := by
  obtain ⟨x, rfl⟩ := Wd.word_of n h
  have h1 := BitVec.toInt_lt (x := x)
  have h2 := BitVec.le_toInt (x := x)
  omega
theorem acts_of {H : Type} {enc : TypeId × Value → H} {W : World} {base : Nat} {hd : Bool} {fuel : Nat} {a : Option Addr} {len cap : Nat} {x : DataW H × List MemPlace}
    (h : DataW.trod enc Try.prog W base (fun _ => true) hd fuel 22 [.slice a len cap] = some x) : ActsAre W a len := by
  rcases Go.Deep.open_slice Try.underlying22 h with ⟨h0, _⟩ | ⟨ad, ln, cp, m, n, D, Pl, hv, _, hl, hm, hmm, _, hx⟩
  · simp at h0
    obtain ⟨rfl, rfl, rfl⟩ := h0
    exact ⟨Nat.zero_le _, fun i hi => by omega⟩
  · simp at hv
    obtain ⟨rfl, rfl, rfl⟩ := hv
    refine ⟨Nat.le_trans hl hm, fun i hi => ?_⟩
    have him : i < m := by rw [hmm]; split <;> omega
    obtain ⟨cs', h1, h2⟩ := hx i him
    have ce : Try.prog.cellsOf 35 = 5 := by kernel_rfl
    rw [ce] at h1
    obtain ⟨_, hlen, hcell⟩ := World.cells?_some h1
    obtain ⟨xs, k, hk, hxy, _, hxl, hf⟩ := DataW.trod_struct Try.underlying35 h2
    match cs', hlen with
    | [v0, v1, v2, v3, v4], _ =>
      have d3 : Try.prog.cellsOf 3 = 1 := by kernel_rfl
      have d5 : Try.prog.cellsOf 5 = 1 := by kernel_rfl
      have d9 : Try.prog.cellsOf 9 = 1 := by kernel_rfl
      have d33 : Try.prog.cellsOf 33 = 1 := by kernel_rfl
      have g0 : DataW.trod enc Try.prog W base (fun _ => true) hd k 3 (([v0, v1, v2, v3, v4].drop 0).take (Try.prog.cellsOf 3)) = xs[0]? := hf 0 _ rfl
      rw [d3] at g0
      replace g0 : DataW.trod enc Try.prog W base (fun _ => true) hd k 3 [v0] = xs[0]? := g0
      have g1 : DataW.trod enc Try.prog W base (fun _ => true) hd k 3 (([v0, v1, v2, v3, v4].drop 1).take (Try.prog.cellsOf 3)) = xs[1]? := hf 1 _ rfl
      rw [d3] at g1
      replace g1 : DataW.trod enc Try.prog W base (fun _ => true) hd k 3 [v1] = xs[1]? := g1
      have g2 : DataW.trod enc Try.prog W base (fun _ => true) hd k 5 (([v0, v1, v2, v3, v4].drop 2).take (Try.prog.cellsOf 5)) = xs[2]? := hf 2 _ rfl
      rw [d5] at g2
      replace g2 : DataW.trod enc Try.prog W base (fun _ => true) hd k 5 [v2] = xs[2]? := g2
      have g3 : DataW.trod enc Try.prog W base (fun _ => true) hd k 9 (([v0, v1, v2, v3, v4].drop 3).take (Try.prog.cellsOf 9)) = xs[3]? := hf 3 _ rfl
      rw [d9] at g3
      replace g3 : DataW.trod enc Try.prog W base (fun _ => true) hd k 9 [v3] = xs[3]? := g3
      have g4 : DataW.trod enc Try.prog W base (fun _ => true) hd k 33 (([v0, v1, v2, v3, v4].drop 4).take (Try.prog.cellsOf 33)) = xs[4]? := hf 4 _ rfl
      rw [d33] at g4
      replace g4 : DataW.trod enc Try.prog W base (fun _ => true) hd k 33 [v4] = xs[4]? := g4
      have hx5 : xs.length = 5 := hxl
      match xs, hx5 with
      | [y0, y1, y2, y3, y4], _ =>
        obtain ⟨kind, e0, _, _⟩ := DataW.trod_int Try.underlying3 g0
        obtain ⟨at_, e1, _, w1⟩ := DataW.trod_int Try.underlying3 g1
        obtain ⟨cn, e2, _, w2'⟩ := DataW.trod_int Try.underlying5 g2
        obtain ⟨text, e3, _, _⟩ := DataW.trod_string Try.underlying9 g3
        simp only [List.cons.injEq, and_true] at e0 e1 e2 e3
        subst e0 e1 e2 e3
        obtain ⟨c, rfl⟩ := u8_of cn w2'
        have q0 := hcell 0 (by omega)
        have q1 := hcell 1 (by omega)
        have q2 := hcell 2 (by omega)
        have q3 := hcell 3 (by omega)
        have q4 := hcell 4 (by omega)
        simp only [List.getElem?_cons_zero, List.getElem?_cons_succ, Go.Deep.add_add] at q0 q1 q2 q3 q4
        obtain ⟨b, off, spot⟩ := ad
        have hspot : spot = none := by
          obtain ⟨cs0, h10, _⟩ := hx 0 (by omega)
          rw [ce] at h10
          obtain ⟨_, hlen0, hcell0⟩ := World.cells?_some h10
          have q := hcell0 0 (by omega)
          rw [List.getElem?_eq_getElem (by omega)] at q
          have := World.cell?_spot q
          simpa [Addr.add] using this
        subst hspot
        have hadd : ∀ t : Nat, (⟨b, off, none⟩ : Addr).add t = ⟨b, off + t, none⟩ := fun t => by unfold Addr.add; split <;> simp_all
        rw [hadd] at q0 q1 q2 q3 q4
        have hbw : b < W.heap.size := World.block_lt_of_cell? W _ q0
        refine ⟨b, off, rfl, hbw, ?_⟩
        have mk : ∀ ka kn kc l, v4 = .slice ka kn kc → ReadsI W (.slice ka kn kc) l → l.length ≤ maxLen → ∃ kind at_ c text ka kn kc l, ActAt W b (off + i * 5) kind at_ c text ka kn kc l := by
          intro ka kn kc l hv4 hr hl'
          subst hv4
          exact ⟨kind, at_, c, text, ka, kn, kc, l, by simpa using q0, by simpa [Nat.add_assoc] using q1, by simpa [Nat.add_assoc] using q2, by simpa [Nat.add_assoc] using q3, by simpa [Nat.add_assoc] using q4, hr, hl', i64_of at_ w1⟩
        rcases Go.ChangeShapes.open_ints Try.underlying33 Try.underlying3 d3 g4 with ⟨h4, _⟩ | ⟨ad4, l4, c4, zs, h4, _, hl4, hm4, hz, _, hcl, hwz⟩
        · simp only [List.cons.injEq, and_true] at h4
          exact mk none 0 0 [] h4 (.inl ⟨rfl, _, _, rfl⟩) (by simp)
        · simp only [List.cons.injEq, and_true] at h4
          obtain ⟨l, hll, hr⟩ := reads_of_row (w := W) (a := some ad4) (len := l4) (cap := c4) (zs := zs) (.inr ⟨ad4, rfl, hl4, hm4, by simpa using hz, hcl, hwz⟩)
          exact mk (some ad4) l4 c4 l h4 hr (by rw [hll]; exact Nat.le_trans hl4 hm4)

/-- does, whatever the call is. -/
theorem does_any {w : World} {H : Hnd} {R : RH} {s : St} (B : Both w H R s) (hl9 : s.wait.length < 900000) (kind at_ : Int) (hat : -9223372036854775808 ≤ at_ ∧ at_ < 9223372036854775808) (c : UInt8) (text : ByteArray) (ka : Option Addr) (kn kc : Nat) (l : List (BitVec 64)) (hv : ReadsI w (.slice ka kn kc) l) (hll : l.length ≤ maxLen) :
    Calls Try.prog 10 #[.pointer (some ⟨H.p, 0, none⟩), .agg #[.slice R.sa s.sure.length R.sc, .slice R.wa s.wait.length R.wc, .int .i64 s.fz, .bool s.off], .agg #[.int .i64 kind, .int .i64 at_, .int .u8 (c.toNat : Int), .string text, .slice ka kn kc]] w (DoesAns w H s) := by
  have hstr : ∃ str, (text.toList.isEmpty = false ∧ str = text) ∨ (text.toList.isEmpty = true ∧ str = FS c) := by
    cases h : text.toList.isEmpty with
    | false => exact ⟨_, .inl ⟨rfl, rfl⟩⟩
    | true => exact ⟨_, .inr ⟨rfl, rfl⟩⟩
  obtain ⟨str, hstr⟩ := hstr
  by_cases h1 : kind = 1
  · subst h1; exact does_put B at_ c text str hstr ka kn kc hl9
  by_cases h2 : kind = 2
  · subst h2; exact does_sync B at_ c text ka kn kc
  by_cases h3 : kind = 3
  · subst h3; exact does_fuse B at_ hat c text ka kn kc
  by_cases h4 : kind = 4
  · subst h4; exact does_crash B at_ c text ka kn kc l hv hll
  by_cases h5 : kind = 5
  · subst h5; exact does_spoil B at_ c text str hstr ka kn kc
  exact does_read B kind at_ h1 h2 h3 h4 h5 c text ka kn kc
end Go.Proofs.Ytmgodahdljnbmaa
