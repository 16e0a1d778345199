/-
  The contracts of package peristyleref07's Same, where both are the same texts, and Few; what law 7's awake answers: true.
-/
import Derived.Test.YtmhbpijefohopaaPRefTakeT
import Derived.Test.YtmhbpijefohopaaPTakeT
namespace Go.Proofs.Ytmhbpijefohopaa
open Go.RowKit

set_option maxRecDepth 4000 in
set_option maxHeartbeats 1000000 in
theorem sameT_row (w : World) (b1 off1 c1 b2 off2 c2 : Nat) (l : List ByteArray) (hl : l.length ≤ 1000000)
    (h1 : ∀ i t, l[i]? = some t → w.cell? ⟨b1, off1 + i, none⟩ = some (.string t)) (h2 : ∀ i t, l[i]? = some t → w.cell? ⟨b2, off2 + i, none⟩ = some (.string t)) :
    Calls Try.prog 17 #[.slice (some ⟨b1, off1, none⟩) l.length c1, .slice (some ⟨b2, off2, none⟩) l.length c2] w fun e w' => e = .returned (.bool true) ∧ ∃ n, w' = w.drewN n := by
  obtain ⟨m, hm⟩ : ∃ m, m = l.length := ⟨_, rfl⟩
  rw [← hm] at hl ⊢
  have HM : Hid (m = l.length) := hm
  clear hm
  go_enter Try.func17, Try.ntmps17
  go_wp2
  go_loopg [5] m (fun g s5 wx => ∃ k n : Nat, k + g = m ∧ s5 = .int .i64 k ∧ wx = w.drewN n)
  case atStart => exact ⟨0, 0, by omega, rfl, rfl⟩
  case round =>
    obtain ⟨k, n, hkg, rfl, rfl⟩ := hrel
    by_cases hk : k < m
    · have hkI : (k : Int) < (m : Int) := by omega
      obtain ⟨t, ht⟩ : ∃ t, l[k]? = some t := ⟨_, List.getElem?_eq_getElem (by rw [← HM.out]; exact hk)⟩
      have e1 := h1 k t ht
      have e2 := h2 k t ht
      clear ht h1 h2
      go_wp2
      go_quiet (fail)
      go_wp2
      go_roundg (m - (k + 1))
      case measure => omega
      case rel => exact ⟨k + 1, _, by omega, by go_num, rfl⟩
    · have hkI : ¬ (k : Int) < (m : Int) := by omega
      clear h1 h2
      go_wp2
      go_ret
      exact ⟨rfl, _, rfl⟩
set_option maxHeartbeats 400000 in
theorem sameT_nil (w : World) (a1 a2 : Option Addr) (c1 c2 : Nat) :
    Calls Try.prog 17 #[.slice a1 0 c1, .slice a2 0 c2] w fun e w' => e = .returned (.bool true) ∧ ∃ n, w' = w.drewN n := by
  go_enter Try.func17, Try.ntmps17
  go_wp2
  go_loopg [5] 0 (fun g s5 wx => g = 0 ∧ s5 = .int .i64 0 ∧ wx = w)
  case atStart => exact ⟨rfl, rfl, rfl⟩
  case round =>
    obtain ⟨hg, rfl, rfl⟩ := hrel
    clear hg
    go_wp2
    go_ret
    exact ⟨rfl, 0, rfl⟩
theorem sameT_any (w : World) (v1 v2 : Value) (l : List ByteArray) (hl : l.length ≤ 1000000) (h1 : ReadsS w v1 l) (h2 : ReadsS w v2 l) :
    Calls Try.prog 17 #[v1, v2] w fun e w' => e = .returned (.bool true) ∧ ∃ n, w' = w.drewN n := by
  rcases h1 with ⟨rfl, a1, c1, rfl⟩ | ⟨b1, off1, c1, rfl, hne, _, hc1⟩
  · rcases h2 with ⟨_, a2, c2, rfl⟩ | ⟨_, _, _, _, hne, _⟩
    · exact sameT_nil w _ _ _ _
    · exact absurd rfl hne
  · rcases h2 with ⟨h, _⟩ | ⟨b2, off2, c2, rfl, _, _, hc2⟩
    · exact absurd h hne
    · exact sameT_row w _ _ _ _ _ _ l hl hc1 hc2

/-- Few answers, and answers yes only if there are few texts. -/
def FewPost (l : List ByteArray) (most : Nat) (w : World) (e : Ending) (w' : World) : Prop := ∃ b : Bool, e = .returned (.bool b) ∧ (b = true → l.length ≤ most) ∧ w' = w
set_option maxRecDepth 4000 in
set_option maxHeartbeats 1000000 in
theorem few_any (w : World) (v : Value) (l : List ByteArray) (most : Nat) (hmm : most ≤ 1000) (hl : l.length ≤ maxLen) (hr : ReadsS w v l) :
    Calls Try.prog 12 #[v, .int .i64 (most : Int)] w (FewPost l most w) := by
  unfold maxLen at hl
  have hmmI : (most : Int) ≤ 1000 := by omega
  rcases hr with ⟨rfl, a, c, rfl⟩ | ⟨b, off, c, rfl, hne, hb, hc⟩
  · go_enter Try.func12, Try.ntmps12
    go_wp2
    go_loopg [5] 0 (fun g s5 wx => g = 0 ∧ s5 = .int .i64 0 ∧ wx = w)
    case atStart => exact ⟨rfl, rfl, rfl⟩
    case round =>
      obtain ⟨hg, rfl, rfl⟩ := hrel
      clear hg
      go_wp2
      go_ret
      exact ⟨_, rfl, fun _ => Nat.zero_le _, rfl⟩
  · obtain ⟨m, hm⟩ : ∃ m, m = l.length := ⟨_, rfl⟩
    rw [← hm] at hl ⊢
    have hmI : (m : Int) ≤ 9223372036854775807 := by omega
    have HM : Hid (m = l.length) := hm
    clear hm
    go_enter Try.func12, Try.ntmps12
    go_wp2
    go_loopg [5] m (fun g s5 wx => ∃ k : Nat, k + g = m ∧ s5 = .int .i64 k ∧ wx = w)
    case atStart => exact ⟨0, by omega, rfl, rfl⟩
    case round =>
      obtain ⟨k, hkg, rfl, rfl⟩ := hrel
      by_cases hk : k < m
      · have hkI : (k : Int) < (m : Int) := by omega
        by_cases hkm : (k : Int) < (most : Int)
        · obtain ⟨t, ht⟩ : ∃ t, l[k]? = some t := ⟨_, List.getElem?_eq_getElem (by rw [← HM.out]; exact hk)⟩
          have e1 := hc k t ht
          clear ht hc
          by_cases h100 : (100 : Int) < (t.size : Int)
          · go_wp2
            go_ret
            exact ⟨false, rfl, (fun h => by cases h), rfl⟩
          · go_wp2
            go_roundg (m - (k + 1))
            case measure => omega
            case rel => exact ⟨k + 1, by omega, by go_num, rfl⟩
        · clear hc
          go_wp2
          go_ret
          refine ⟨_, rfl, fun h => ?_, rfl⟩
          have := HM.out
          simp at h
          omega
      · have hkI : ¬ (k : Int) < (m : Int) := by omega
        clear hc
        go_wp2
        go_ret
        refine ⟨_, rfl, fun h => ?_, rfl⟩
        have := HM.out
        simp at h
        omega
end Go.Proofs.Ytmhbpijefohopaa
