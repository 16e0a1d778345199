/-
  The contracts of package span's Rank, Count, Pick and Places.
-/
import Derived.Test.YteijhnfciiblmaaSMay
namespace Go.Proofs.Yteijhnfciiblmaa
open Go.RowKit

theorem rk_next {rs : List Sn} {k : Nat} {s : Sn} (x : Int) (hs : rs[k]? = some s) : rk x (rs.take (k + 1)) = rk x (rs.take k) + (min (max x s.lo) s.hi - s.lo) := by
  rw [take_succ_of hs, rk_append]; simp [rk]
theorem pl_next {rs : List Sn} {k : Nat} {s : Sn} (hs : rs[k]? = some s) : pl (rs.take (k + 1)) = pl (rs.take k) ++ rng s.lo (s.hi - s.lo).toNat := by
  rw [take_succ_of hs, pl_snoc]
theorem pl_part (rs : List Sn) (k : Nat) : pl rs = pl (rs.take k) ++ pl (rs.drop k) := by rw [← pl_append, List.take_append_drop]

set_option maxRecDepth 4000 in
set_option maxHeartbeats 4000000 in
theorem rank_yes {w : World} {v : Value} {rs : List Sn} (h : SpansIs w v rs) (hm : mayS rs = true) (x : Int) :
    Calls Try.prog 23 #[v, .int .i64 x] w fun e w' => e = .returned (.int .i64 (rk x rs)) ∧ Below w.heap.size w w' := by
  have hl := may_len hm
  obtain ⟨a, n, cap, rfl, hn, hcap⟩ := h.slice
  have hn1 : (n : Int) ≤ 65537 := by omega
  have HH : Hid (SpansIs w (.slice a n cap) rs ∧ rs.length = n ∧ mayS rs = true) := ⟨h, hn, hm⟩
  have hmay := may_any h (by omega)
  rw [hm] at hmay
  clear h hl hn hm
  go_enter Try.func23, Try.ntmps23
  go_wp2_with fail
  refine hmay.mono ?_
  rintro e w1 ⟨rfl, hb1⟩
  have H1 : Hid (Below w.heap.size w w1) := hb1
  clear hmay hb1
  go_wp2_with fail
  go_loopg [5, 13] n (fun gg s5 s13 wx => ∃ k : Nat, k + gg = n ∧ s13 = .int .i64 k ∧ s5 = .int .i64 (rk x (rs.take k)) ∧ Hid (Below w.heap.size w wx))
  case atStart => exact ⟨0, by omega, rfl, by rw [List.take_zero]; rfl, H1⟩
  case round =>
    obtain ⟨k, hkg, rfl, rfl, HB⟩ := hrel
    by_cases hk : k < n
    · have hkI : (k : Int) < (n : Int) := by omega
      obtain ⟨s, b, off, hs, rfl, hat⟩ := (HH.out.1.below HB.out).at hk
      have c0 := hat.c0
      have c1 := hat.c1
      have hbd := may_at HH.out.2.2 hs
      have heb := end_bd (may_take HH.out.2.2 k)
      have hrb := rk_bd (x := x) (may_take HH.out.2.2 k)
      have hrn := rk_bd (x := x) (may_take HH.out.2.2 (k + 1))
      have hen := end_bd (may_take HH.out.2.2 (k + 1))
      have hnx := rk_next x hs
      unfold endS at heb hen
      have hr2 : IntKind.i64.wrap ((k : Int) + 1) = (k : Int) + 1 := by rw [IntKind.wrap_i64]; omega
      obtain ⟨R, hR⟩ : ∃ R, R = rk x (rs.take k) := ⟨_, rfl⟩
      rw [← hR] at hrb hnx
      rw [← hR]
      obtain ⟨lo, hi⟩ := s
      simp only at c0 c1 hbd hnx
      have hlo : 0 ≤ lo ∧ lo ≤ 65536 := by
        have := end_bd (may_take HH.out.2.2 k)
        omega
      have hhi : 0 ≤ hi ∧ hi ≤ 65536 := by omega
      have hRb : 0 ≤ R ∧ R ≤ 65537 := by omega
      have HB2 : ∀ A, Hid (Below w.heap.size w (wr.alloc A)) := fun A => HB.out.trans (belowOne _ HB.out.size _)
      have hx3 : (x < lo ∧ min (max x lo) hi = lo) ∨ (¬ x < lo ∧ hi < x ∧ min (max x lo) hi = hi) ∨ (¬ x < lo ∧ ¬ hi < x ∧ min (max x lo) hi = x) := by omega
      have hRs : 0 ≤ rk x (rs.take (k + 1)) ∧ rk x (rs.take (k + 1)) ≤ 65537 := by omega
      clear hat hs heb hrb hrn hen hR
      rcases hx3 with ⟨g1, g3⟩ | ⟨g1, g2, g3⟩ | ⟨g1, g2, g3⟩
      all_goals
        rw [g3] at hnx
        clear g3
        have HN : Hid (rk x (rs.take (k + 1)) = _) := hnx
        rw [hnx] at hRs
        clear hnx
        go_wp2_with fail
      all_goals
        go_roundg (n - (k + 1))
        case measure => clear hr2; omega
        case rel => exact ⟨k + 1, by clear hr2; omega, by go_num, by rw [HN.out] <;> (first | rfl | go_num | (congr 1; omega) | (exfalso; omega)), HB2 _⟩
    · have hkI : ¬ (k : Int) < (n : Int) := by omega
      obtain rfl : k = n := by omega
      go_wp2_with fail
      go_ret
      exact ⟨ret_int (by rw [List.take_of_length_le (by rw [HH.out.2.1]; exact Nat.le_refl _)]), HB.out⟩
set_option maxHeartbeats 1000000 in
theorem rank_no {w : World} {v : Value} {rs : List Sn} (h : SpansIs w v rs) (hl : rs.length ≤ 1000000) (hm : mayS rs = false) (x : Int) :
    Calls Try.prog 23 #[v, .int .i64 x] w fun e w' => e = .returned (.int .i64 0) ∧ Below w.heap.size w w' := by
  obtain ⟨a, n, cap, rfl, hn, hcap⟩ := h.slice
  have hmay := may_any h hl
  rw [hm] at hmay
  clear h hl hn hm
  go_enter Try.func23, Try.ntmps23
  go_wp2_with fail
  refine hmay.mono ?_
  rintro e w1 ⟨rfl, hb1⟩
  go_wp2_with fail
  go_ret
  exact ⟨rfl, hb1⟩
/-- How many places are below x, of spans that may be; else 0. -/
def rankA (rs : List Sn) (x : Int) : Int := if mayS rs = true then rk x rs else 0
theorem rank_any {w : World} {v : Value} {rs : List Sn} (h : SpansIs w v rs) (hl : rs.length ≤ 1000000) (x : Int) :
    Calls Try.prog 23 #[v, .int .i64 x] w fun e w' => e = .returned (.int .i64 (rankA rs x)) ∧ Below w.heap.size w w' := by
  unfold rankA
  cases hm : mayS rs with
  | false => exact rank_no h hl hm x
  | true => exact rank_yes h hm x
set_option maxHeartbeats 1000000 in
theorem count_any {w : World} {v : Value} {rs : List Sn} (h : SpansIs w v rs) (hl : rs.length ≤ 1000000) :
    Calls Try.prog 22 #[v] w fun e w' => e = .returned (.int .i64 (rankA rs 65536)) ∧ Below w.heap.size w w' := by
  obtain ⟨a, n, cap, rfl, hn, hcap⟩ := h.slice
  have hr := rank_any h hl 65536
  generalize rankA rs 65536 = z at *
  clear h hl hn
  go_enter Try.func22, Try.ntmps22
  go_wp2_with fail
  refine hr.mono ?_
  rintro e w1 ⟨rfl, hb1⟩
  go_wp2_with fail
  go_ret
  exact ⟨rfl, hb1⟩
end Go.Proofs.Yteijhnfciiblmaa
