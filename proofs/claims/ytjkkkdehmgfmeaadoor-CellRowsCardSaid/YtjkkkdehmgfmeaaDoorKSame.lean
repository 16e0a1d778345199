/-
  The contract of the document's Same, where both rows are the same.
-/
import Derived.Test.YtjkkkdehmgfmeaaDoorKRow
import Derived.Deep.QuietTactic
import Derived.BigQuiet
namespace Go.Proofs.YtjkkkdehmgfmeaaDoor
open Go.RowKit

set_option maxRecDepth 4000 in
set_option maxHeartbeats 4000000 in
theorem same_yes {w : World} {v1 v2 : Value} {r : List Cl} (h1 : RowIs w v1 r) (h2 : RowIs w v2 r) (hm : r.length ≤ maxLen) :
    Calls Tryd.prog 21 #[v1, v2] w fun e w' => e = .returned (.bool true) ∧ Below w.heap.size w w' := by
  unfold maxLen at hm
  obtain ⟨a1, cap1, rfl, h1⟩ := h1
  obtain ⟨a2, cap2, rfl, h2⟩ := h2
  obtain ⟨n, hn⟩ : ∃ n, n = r.length := ⟨_, rfl⟩
  rw [← hn] at hm
  rw [← hn]
  have HN : Hid (n = r.length) := hn
  have H1 : Hid (r ≠ [] → ∃ b off, a1 = some ⟨b, off, none⟩ ∧ b < w.heap.size ∧ ∀ i c, r[i]? = some c → CellAt w b (off + i * 3) c) := h1
  have H2 : Hid (r ≠ [] → ∃ b off, a2 = some ⟨b, off, none⟩ ∧ b < w.heap.size ∧ ∀ i c, r[i]? = some c → CellAt w b (off + i * 3) c) := h2
  clear hn h1 h2
  go_enter Tryd.func21, Tryd.ntmps21
  go_wp2_with fail
  go_loopg [5] n (fun gg s5 wx => ∃ i : Nat, i + gg = n ∧ s5 = .int .i64 i ∧ Below w.heap.size w wx)
  case atStart => exact ⟨0, by omega, rfl, Below.refl _ _⟩
  case round =>
    obtain ⟨i, hig, rfl, hb⟩ := hrel
    by_cases hi : i < n
    · have hiI : (i : Int) < (n : Int) := by omega
      have hrn := HN.out
      have hne : r ≠ [] := by rintro rfl; simp at hrn; omega
      obtain ⟨b1, off1, rfl, hb1, hc1⟩ := H1.out hne
      obtain ⟨b2, off2, rfl, hb2, hc2⟩ := H2.out hne
      obtain ⟨c, hic⟩ : ∃ c, r[i]? = some c := ⟨_, List.getElem?_eq_getElem (by omega)⟩
      have x1 := (hc1 i c hic).below hb1 hb
      have x2 := (hc2 i c hic).below hb2 hb
      have p0 := x1.c0
      have p1 := x1.c1
      have p2 := x1.c2
      have q0 := x2.c0
      have q1 := x2.c1
      have q2 := x2.c2
      have hr2 : IntKind.i64.wrap ((i : Int) + 1) = (i : Int) + 1 := by rw [IntKind.wrap_i64]; omega
      have HB : Hid (Below w.heap.size w wr) := hb
      clear hic hc1 hc2 x1 x2 hb hne hrn
      go_wp2_with fail
      go_quiet (fail)
      go_wp2_with fail
      go_roundg (n - (i + 1))
      case measure => clear hr2; omega
      case rel => exact ⟨i + 1, by clear hr2; omega, by go_num, ⟨HB.out.os, HB.out.tape, HB.out.output, HB.out.size, HB.out.block⟩⟩
    · have hiI : ¬ (i : Int) < (n : Int) := by omega
      have HB : Hid (Below w.heap.size w wr) := hb
      clear hb
      go_wp2_with fail
      go_ret
      exact ⟨rfl, HB.out⟩
end Go.Proofs.YtjkkkdehmgfmeaaDoor
