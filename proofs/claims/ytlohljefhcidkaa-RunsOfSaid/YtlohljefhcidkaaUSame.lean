/-
  The contract of peristyleref10's Same, where both are the same runs.
-/
import Derived.Test.YtlohljefhcidkaaUMem
namespace Go.Proofs.Ytlohljefhcidkaa
open Go.RowKit

set_option maxRecDepth 4000 in
set_option maxHeartbeats 4000000 in
theorem sameR_any {w : World} {v1 v2 : Value} {rs : List Rn} (h1 : RunsIs w v1 rs) (h2 : RunsIs w v2 rs) (hl : rs.length ≤ 1000000) :
    Calls Try.prog 13 #[v1, v2] w fun e w' => e = .returned (.bool true) ∧ ∃ n, w' = w.drewN n := by
  obtain ⟨a1, n, c1, rfl, hn, _⟩ := h1.slice
  obtain ⟨a2, n2, c2, rfl, hn2, _⟩ := h2.slice
  obtain rfl : n = n2 := by omega
  have hn1 : (n : Int) ≤ 1000000 := by omega
  have HH : Hid (RunsIs w (.slice a1 n c1) rs ∧ RunsIs w (.slice a2 n c2) rs ∧ rs.length = n) := ⟨h1, h2, hn⟩
  clear h1 h2 hl hn hn2
  go_enter Try.func13, Try.ntmps13
  go_wp2_with fail
  go_loopg [5] n (fun gg s5 wx => ∃ i q : Nat, i + gg = n ∧ s5 = .int .i64 i ∧ wx = w.drewN q)
  case atStart => exact ⟨0, 0, by omega, rfl, rfl⟩
  case round =>
    obtain ⟨i, q, hig, rfl, rfl⟩ := hrel
    by_cases hi : i < n
    · have hiI : (i : Int) < (n : Int) := by omega
      obtain ⟨r, hr⟩ : ∃ r, rs[i]? = some r := ⟨_, List.getElem?_eq_getElem (by have := HH.out.2.2; omega)⟩
      obtain ⟨b1, o1, rfl, k1⟩ := HH.out.1.some (by rintro rfl; simp at hr)
      obtain ⟨b2, o2, rfl, k2⟩ := HH.out.2.1.some (by rintro rfl; simp at hr)
      have r1 := k1 i r hr
      have r2 := k2 i r hr
      have x0 := r1.c0
      have x1 := r1.c1
      have x2 := r1.c2
      have y0 := r2.c0
      have y1 := r2.c1
      have y2 := r2.c2
      generalize r.f = f at *
      generalize r.c = c at *
      generalize r.v.toInt = z at *
      have hr2 : IntKind.i64.wrap ((i : Int) + 1) = (i : Int) + 1 := by rw [IntKind.wrap_i64]; omega
      clear k1 k2 r1 r2 hr
      go_wp2_with fail
      go_quiet (fail)
      go_wp2_with fail
      go_roundg (n - (i + 1))
      case measure => clear hr2; omega
      case rel => exact ⟨i + 1, _, by clear hr2; omega, by go_num, rfl⟩
    · have hiI : ¬ (i : Int) < (n : Int) := by omega
      go_wp2_with fail
      go_ret
      exact ⟨rfl, _, rfl⟩
end Go.Proofs.Ytlohljefhcidkaa
