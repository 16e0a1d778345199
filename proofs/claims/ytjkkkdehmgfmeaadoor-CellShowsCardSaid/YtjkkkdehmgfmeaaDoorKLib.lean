/-
  What a walk needs of the library's variables, and the library's contracts (strconv.Itoa, strconv.Atoi, strings.HasPrefix, strings.ReplaceAll) in the form in which the walks meet them.
-/
import Derived.Test.YtjkkkdehmgfmeaaDoorRows
import Derived.Test.YtjkkkdehmgfmeaaDoorShelf
import Derived.Test.YtjkkkdehmgfmeaaDoorKRefPut
import Derived.Lib.AppendIntMem
import Derived.Lib.LaidTab
import Derived.LaidLaws
import Derived.Stop.LaidErr
import Derived.MakeChecks
namespace Go.Proofs.YtjkkkdehmgfmeaaDoor
open Go.RowKit

/-- The name of the table that Itoa reads. -/
def tabName : String := ((Rows.cellShowsRow.laid.map (·.1)).getD 2 default)
/-- What a walk needs of the library's variables. -/
structure Env (w : World) : Prop where
  tab : Lib.TabIs Tryd.prog w tabName .u64 Lib.pow10Tab
  syn : ∃ te pe, w.cell? ⟨0, 0, none⟩ = some (.iface te pe)
  rng : ∃ te pe, w.cell? ⟨1, 0, none⟩ = some (.iface te pe)
  len : ∃ m, w.cell? ⟨3, 0, none⟩ = some (.int .i64 m)
theorem Env.below {w w' : World} (h : Env w) (hb : Below w.heap.size w w') : Env w' := by
  obtain ⟨te, pe, h1⟩ := h.syn
  obtain ⟨te2, pe2, h2⟩ := h.rng
  obtain ⟨m, h3⟩ := h.len
  exact ⟨((Lib.tabBelow_of_tabIs h.tab).on hb).here, ⟨te, pe, (hb.cell (World.block_lt_of_cell? w _ h1)).trans h1⟩, ⟨te2, pe2, (hb.cell (World.block_lt_of_cell? w _ h2)).trans h2⟩, ⟨m, (hb.cell (World.block_lt_of_cell? w _ h3)).trans h3⟩⟩

theorem iface_laid {n nm : String} {d : DataW Unit} {r : List (String × DataW Unit)} {W : World} {g : Nat} {ti : TypeId} {ms : Array (String × TypeId)} (h : laidMet Tryd.prog ((n, .iface nm d) :: r) W)
    (hg : Tryd.prog.globalNamed n = some g) (ht : (Tryd.prog.globals[g]?).map (·.type) = some ti) (hi : Tryd.prog.underlying ti = some (.interface ms)) : ∃ te pe, W.cell? ⟨g, 0, none⟩ = some (.iface te pe) := by
  obtain ⟨ps, ⟨g0, t0, cs0, f0, p0, q0, hg0, ht0, hv0, hd0, _, e0⟩, _, hrows⟩ := h
  obtain rfl := Option.some.inj (hg.symm.trans hg0)
  obtain rfl := Option.some.inj (ht.symm.trans ht0)
  obtain ⟨l0⟩ := cs0
  obtain ⟨f1, u, v, hl, _⟩ := iface_of_trod hi hd0
  simp only at hl
  subst hl
  exact ⟨u, v, by simpa using World.var?_cell hg0 hv0 0⟩

/-- What a row's list, and the world's shape, give. -/
theorem env_of {W : World} (h : laidMetH Tryd.prog Rows.cellShowsRow.laid W) (hs : W.ShapedOpen Tryd.prog) : Env W := by
  rw [MakeChecks.laidMetH_plain _ _ _ (by kernel_rfl)] at h
  have h2 := h.tail.tail
  have h4 := h2.tail.tail
  have h5 := h4.tail
  refine ⟨?_, ?_, ?_, Tryd.laysM138.s1_3 W hs⟩
  · exact Lib.tabIs_of_head (k := .u64) (zs := Lib.pow10Tab) (g := 2) (by kernel_rfl) (by kernel_rfl) Tryd.underlying121 Tryd.underlying83 (by kernel_rfl) (by kernel_rfl) h2
  · exact iface_laid h5 (by kernel_rfl) (by kernel_rfl) Tryd.underlying75
  · exact iface_laid h4 (by kernel_rfl) (by kernel_rfl) Tryd.underlying75

theorem itoa_any {n : Int} (h0 : -9223372036854775808 ≤ n) (h1 : n ≤ 9223372036854775807) {w : World} (hE : Env w) :
    Calls Tryd.prog 41 #[.int .i64 n] w fun e w' => e = .returned (.string (str (Lib.itoa n))) ∧ Below w.heap.size w w' := by
  refine (Any.strconv_Itoa Tryd.laysM171 n h0 h1 w hE.tab).mono ?_
  rintro e w' ⟨rfl, k, os, rfl⟩
  exact ⟨rfl, Lib.below_grow _ _ (Nat.le_refl _) _ _⟩
theorem hasPrefix_any (s p : ByteArray) (w : World) :
    Calls Tryd.prog 53 #[.string s, .string p] w fun e w' => e = .returned (.bool (Lib.hasPrefix s.data.toList p.data.toList)) ∧ w' = w := Any.strings_HasPrefix Tryd.lays99 s p w
theorem replaceAll_any (s old new : ByteArray) {w : World} (hE : Env w) (hs : s.size < 4294967281) (h1 : 1 ≤ old.size) (hlen : s.size + Lib.countB s old * new.size ≤ 140737488355328) :
    Calls Tryd.prog 42 #[.string s, .string old, .string new] w fun e w' => e = .returned (.string (str (Lib.replaceAll s.data.toList old.data.toList new.data.toList))) ∧ Below w.heap.size w w' := by
  obtain ⟨m, hm⟩ := hE.len
  exact Any.strings_ReplaceAll Tryd.lays155 Tryd.Builder_Extra_155 s old new m w hs hm h1 hlen
/-- Atoi: a number and no error, or some error. -/
theorem atoi_any (s : ByteArray) (hs : s.size ≤ 281474976710656) {w : World} (hE : Env w) :
    Calls Tryd.prog 52 #[.string s] w fun e w' => Below w.heap.size w w' ∧ ((∃ v, Lib.atoiAll s.data.toList = .ok v ∧ e = .returned (.tuple #[.int .i64 v, .nilIface])) ∨ ((∀ v, Lib.atoiAll s.data.toList ≠ .ok v) ∧ ∃ x t p, e = .returned (.tuple #[.int .i64 x, .iface t (.pointer (some p))]))) := by
  obtain ⟨te, pe, hsy⟩ := hE.syn
  obtain ⟨te2, pe2, hrg⟩ := hE.rng
  cases h : Lib.atoiAll s.data.toList with
  | ok v =>
    refine (Any.strconv_Atoi_ok Tryd.laysC172 s (by omega) v h w).mono ?_
    rintro e w' ⟨rfl, hw⟩
    refine ⟨?_, .inl ⟨v, rfl, rfl⟩⟩
    rcases hw with rfl | ⟨t, rfl⟩
    · exact Below.refl _ _
    · exact Lib.bytesWorld_below _ _ _
  | range =>
    refine (Any.strconv_Atoi_range Tryd.laysC172 s hs h _ w hrg (.inr ⟨te2, pe2, rfl⟩)).mono ?_
    rintro e w' ⟨N, rfl, _, _, hb⟩
    exact ⟨hb, .inr ⟨fun v h => (by cases h), _, _, _, rfl⟩⟩
  | _ =>
    refine (Any.strconv_Atoi_syntax Tryd.laysC172 s hs h _ w hsy (.inr ⟨te, pe, rfl⟩)).mono ?_
    rintro e w' ⟨N, rfl, _, _, hb⟩
    exact ⟨hb, .inr ⟨fun v h => (by cases h), _, _, _, rfl⟩⟩
end Go.Proofs.YtjkkkdehmgfmeaaDoor
