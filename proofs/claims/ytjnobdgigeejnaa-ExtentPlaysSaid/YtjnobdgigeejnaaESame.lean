/-
  The contract of peristyleref05's Same, where both are the same.
-/
import Derived.Test.YtjnobdgigeejnaaELaw
namespace Go.Proofs.Ytjnobdgigeejnaa
open Go.RowKit

set_option maxRecDepth 4000 in
set_option maxHeartbeats 4000000 in
theorem same_yes {w : World} {a1 a2 : Option Addr} {n c1 c2 : Nat} {hs : List (Nat × Nat)} (h1 : SRows w (.slice a1 n c1) 32 2 (hs.map ec)) (h2 : SRows w (.slice a2 n c2) 32 2 (hs.map ec)) (hn : n ≤ 5000) :
    Calls Try.prog 22 #[.slice a1 n c1, .slice a2 n c2] w fun e w' => e = .returned (.bool true) ∧ Below w.heap.size w w' := by
  have hlen : hs.length = n := by
    have := (src_of h1).1
    rw [List.length_map] at this
    exact this
  have HH : Hid (SRows w (.slice a1 n c1) 32 2 (hs.map ec) ∧ SRows w (.slice a2 n c2) 32 2 (hs.map ec) ∧ hs.length = n) := ⟨h1, h2, hlen⟩
  clear h1 h2 hlen
  go_enter Try.func22, Try.ntmps22
  go_wp2_with fail
  go_loopg [5] n (fun gg s5 wx => ∃ i : Nat, i + gg = n ∧ s5 = .int .i64 i ∧ Below w.heap.size w wx)
  case atStart => exact ⟨0, by omega, rfl, Below.refl _ _⟩
  case round =>
    obtain ⟨i, hig, rfl, hb⟩ := hrel
    by_cases hi : i < n
    · have hiI : (i : Int) < (n : Int) := by omega
      obtain ⟨x, hx⟩ : ∃ x, hs[i]? = some x := ⟨_, List.getElem?_eq_getElem (by have := HH.out.2.2; omega)⟩
      have hpos : 0 < (hs.map ec).length := by rw [List.length_map]; have := HH.out.2.2; omega
      obtain ⟨g1, rfl, _, _⟩ := (src_of HH.out.1).2 hpos
      obtain ⟨g2, rfl, _, _⟩ := (src_of HH.out.2.1).2 hpos
      obtain ⟨y0, y1⟩ := row_cells (HH.out.1.of_block (w' := wr) (fun k hk => hb.block k (HH.out.1.lt hk))) hx
      obtain ⟨z0, z1⟩ := row_cells (HH.out.2.1.of_block (w' := wr) (fun k hk => hb.block k (HH.out.2.1.lt hk))) hx
      have hr2 : IntKind.i64.wrap ((i : Int) + 1) = (i : Int) + 1 := by rw [IntKind.wrap_i64]; omega
      have HB : Hid (Below w.heap.size w wr) := hb
      clear hx hpos hb
      go_wp2_with fail
      go_quiet (fail)
      go_wp2_with fail
      go_roundg (n - (i + 1))
      case measure => clear hr2; omega
      case rel => exact ⟨i + 1, by clear hr2; omega, by go_num, ⟨HB.out.os, HB.out.tape, HB.out.output, HB.out.size, HB.out.block⟩⟩
    · have hiI : ¬ (i : Int) < (n : Int) := by omega
      have HB : Hid (Below w.heap.size w wr) := hb
      clear hb
      go_wp2_with fail
      go_ret
      exact ⟨rfl, HB.out⟩
end Go.Proofs.Ytjnobdgigeejnaa
