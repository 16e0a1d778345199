/-
  Slices of ints that are read; the contract of package peristyleref01's Same, where both are the same numbers.
-/
import Derived.Test.YtlohljefhcidkaaRowy
import Derived.Deep.QuietTactic
import Derived.BigQuiet
import Derived.Deep.LoopGhost
namespace Go.Proofs.Ytlohljefhcidkaa
open Go.RowKit

/-- The slice v reads as the words l in the world w. -/
def ReadsI (w : World) (v : Value) (l : List (BitVec 64)) : Prop :=
  (l = [] ∧ ∃ a c, v = .slice a 0 c) ∨
  (∃ b off c, v = .slice (some ⟨b, off, none⟩) l.length c ∧ l ≠ [] ∧ b < w.heap.size ∧ ∀ i, i < l.length → w.cell? ⟨b, off + i, none⟩ = some (.int .i64 (l.getD i 0#64).toInt))
theorem ReadsI.below {w w' : World} {v : Value} {l : List (BitVec 64)} (h : ReadsI w v l) (hb : Below w.heap.size w w') : ReadsI w' v l := by
  rcases h with h | ⟨b, off, c, hv, hl, hbw, hc⟩
  · exact .inl h
  · exact .inr ⟨b, off, c, hv, hl, Nat.lt_of_lt_of_le hbw hb.size, fun i hi => (hb.cell (p := ⟨b, off + i, none⟩) hbw).trans (hc i hi)⟩
theorem OwnsI.reads {w : World} {B : Nat} {v : Value} {l : List (BitVec 64)} (h : OwnsI w B v l) : ReadsI w v l := by
  rcases h.cell with ⟨g, cap, rfl, _, hg, _, hc⟩ | ⟨rfl, rfl⟩
  · by_cases hl : l = []
    · subst hl; exact .inl ⟨rfl, _, _, rfl⟩
    · exact .inr ⟨g, 0, cap, rfl, hl, hg, fun i hi => by simpa using hc i hi⟩
  · exact .inl ⟨rfl, _, _, rfl⟩

set_option maxRecDepth 4000 in
set_option maxHeartbeats 1000000 in
theorem same_row (w : World) (b1 off1 c1 b2 off2 c2 : Nat) (l : List (BitVec 64)) (hl : l.length ≤ 1000000)
    (h1 : ∀ i, i < l.length → w.cell? ⟨b1, off1 + i, none⟩ = some (.int .i64 (l.getD i 0#64).toInt)) (h2 : ∀ i, i < l.length → w.cell? ⟨b2, off2 + i, none⟩ = some (.int .i64 (l.getD i 0#64).toInt)) :
    Calls Try.prog 14 #[.slice (some ⟨b1, off1, none⟩) l.length c1, .slice (some ⟨b2, off2, none⟩) l.length c2] w fun e w' => e = .returned (.bool true) ∧ ∃ n, w' = w.drewN n := by
  obtain ⟨m, hm⟩ : ∃ m, m = l.length := ⟨_, rfl⟩
  rw [← hm] at hl h1 h2 ⊢
  clear hm
  go_enter Try.func14, Try.ntmps14
  go_wp2
  go_loopg [5] m (fun g s5 wx => ∃ k n : Nat, k + g = m ∧ s5 = .int .i64 k ∧ wx = w.drewN n)
  case atStart => exact ⟨0, 0, by omega, rfl, rfl⟩
  case round =>
    obtain ⟨k, n, hkg, rfl, rfl⟩ := hrel
    by_cases hk : k < m
    · have hkI : (k : Int) < (m : Int) := by omega
      have e1 := h1 k hk
      have e2 := h2 k hk
      obtain ⟨x, hx⟩ : ∃ x, x = (l.getD k 0#64).toInt := ⟨_, rfl⟩
      rw [← hx] at e1 e2
      clear hx h1 h2
      go_wp2
      go_quiet (fail)
      go_wp2
      go_roundg (m - (k + 1))
      case measure => omega
      case rel => exact ⟨k + 1, _, by omega, by go_num, rfl⟩
    · have hkI : ¬ (k : Int) < (m : Int) := by omega
      clear h1 h2
      go_wp2
      go_ret
      exact ⟨rfl, _, rfl⟩
set_option maxHeartbeats 400000 in
theorem same_nil (w : World) (a1 a2 : Option Addr) (c1 c2 : Nat) :
    Calls Try.prog 14 #[.slice a1 0 c1, .slice a2 0 c2] w fun e w' => e = .returned (.bool true) ∧ ∃ n, w' = w.drewN n := by
  go_enter Try.func14, Try.ntmps14
  go_wp2
  go_loopg [5] 0 (fun g s5 wx => g = 0 ∧ s5 = .int .i64 0 ∧ wx = w)
  case atStart => exact ⟨rfl, rfl, rfl⟩
  case round =>
    obtain ⟨hg, rfl, rfl⟩ := hrel
    clear hg
    go_wp2
    go_ret
    exact ⟨rfl, 0, rfl⟩
theorem same_any (w : World) (v1 v2 : Value) (l : List (BitVec 64)) (hl : l.length ≤ 1000000) (h1 : ReadsI w v1 l) (h2 : ReadsI w v2 l) :
    Calls Try.prog 14 #[v1, v2] w fun e w' => e = .returned (.bool true) ∧ ∃ n, w' = w.drewN n := by
  rcases h1 with ⟨rfl, a1, c1, rfl⟩ | ⟨b1, off1, c1, rfl, hne, _, hc1⟩
  · rcases h2 with ⟨_, a2, c2, rfl⟩ | ⟨_, _, _, _, hne, _⟩
    · exact same_nil w _ _ _ _
    · exact absurd rfl hne
  · rcases h2 with ⟨h, _⟩ | ⟨b2, off2, c2, rfl, _, _, hc2⟩
    · exact absurd h hne
    · exact same_row w _ _ _ _ _ _ l hl hc1 hc2
end Go.Proofs.Ytlohljefhcidkaa
