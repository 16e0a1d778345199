/-
  The contracts of peristyleref14's Same (of two that are the same), May, Top and Few.
-/
import Derived.Test.YteijhnfciiblmaaSMay
namespace Go.Proofs.Yteijhnfciiblmaa
open Go.RowKit

set_option maxRecDepth 4000 in
set_option maxHeartbeats 4000000 in
theorem sameS_any {w : World} {v1 v2 : Value} {rs : List Sn} (h1 : SpansIs w v1 rs) (h2 : SpansIs w v2 rs) (hl : rs.length ≤ 1000000) :
    Calls Try.prog 14 #[v1, v2] w fun e w' => e = .returned (.bool true) ∧ ∃ n, w' = w.drewN n := by
  obtain ⟨a1, n, c1, rfl, hn, _⟩ := h1.slice
  obtain ⟨a2, n2, c2, rfl, hn2, _⟩ := h2.slice
  obtain rfl : n = n2 := by omega
  have hn1 : (n : Int) ≤ 1000000 := by omega
  have HH : Hid (SpansIs w (.slice a1 n c1) rs ∧ SpansIs w (.slice a2 n c2) rs ∧ rs.length = n) := ⟨h1, h2, hn⟩
  clear h1 h2 hl hn hn2
  go_enter Try.func14, Try.ntmps14
  go_wp2_with fail
  go_loopg [5] n (fun gg s5 wx => ∃ i q : Nat, i + gg = n ∧ s5 = .int .i64 i ∧ wx = w.drewN q)
  case atStart => exact ⟨0, 0, by omega, rfl, rfl⟩
  case round =>
    obtain ⟨i, q, hig, rfl, rfl⟩ := hrel
    by_cases hi : i < n
    · have hiI : (i : Int) < (n : Int) := by omega
      obtain ⟨r, b1, o1, hr, rfl, r1⟩ := HH.out.1.at hi
      obtain ⟨r', b2, o2, hr', rfl, r2⟩ := HH.out.2.1.at hi
      obtain rfl : r = r' := by rw [hr] at hr'; cases hr'; rfl
      have x0 := r1.c0
      have x1 := r1.c1
      have y0 := r2.c0
      have y1 := r2.c1
      generalize r.lo = f at *
      generalize r.hi = c at *
      have hr2 : IntKind.i64.wrap ((i : Int) + 1) = (i : Int) + 1 := by rw [IntKind.wrap_i64]; omega
      clear r1 r2 hr hr'
      go_wp2_with fail
      go_quiet (fail)
      go_wp2_with fail
      go_roundg (n - (i + 1))
      case measure => clear hr2; omega
      case rel => exact ⟨i + 1, _, by clear hr2; omega, by go_num, rfl⟩
    · have hiI : ¬ (i : Int) < (n : Int) := by omega
      go_wp2_with fail
      go_ret
      exact ⟨rfl, _, rfl⟩

theorem drewN_add (w : World) (q n : Nat) : (w.drewN q).drewN n = w.drewN (q + n) := by simp [World.drewN, Nat.add_assoc]
theorem end_prev {rs : List Sn} {m : Nat} {t : Sn} (ht : rs[m]? = some t) : endS (rs.take (m + 1)) = t.hi := end_next ht
set_option maxRecDepth 4000 in
set_option maxHeartbeats 4000000 in
theorem refMay_any {w : World} {v : Value} {rs : List Sn} (h : SpansIs w v rs) (hl : rs.length ≤ 1000000) :
    Calls Try.prog 16 #[v] w fun e w' => e = .returned (.bool (mayS rs)) ∧ ∃ n, w' = w.drewN n := by
  obtain ⟨a, n, cap, rfl, hn, hcap⟩ := h.slice
  have hn1 : (n : Int) ≤ 1000000 := by omega
  have HH : Hid (SpansIs w (.slice a n cap) rs ∧ rs.length = n) := ⟨h, hn⟩
  clear h hl hn
  go_enter Try.func16, Try.ntmps16
  go_wp2_with fail
  go_loopg [3] n (fun gg s3 wx => ∃ k q : Nat, k + gg = n ∧ s3 = .int .i64 k ∧ Hid (mayS (rs.take k) = true) ∧ wx = w.drewN q)
  case atStart => exact ⟨0, 0, by omega, rfl, by unfold Hid; rw [List.take_zero]; rfl, rfl⟩
  case round =>
    obtain ⟨k, q, hkg, rfl, HM, rfl⟩ := hrel
    by_cases hk : k < n
    · have hkI : (k : Int) < (n : Int) := by omega
      obtain ⟨s, b, off, hs, rfl, hat⟩ := HH.out.1.at hk
      have c0 := hat.c0
      have c1 := hat.c1
      have hr2 : IntKind.i64.wrap ((k : Int) + 1) = (k : Int) + 1 := by rw [IntKind.wrap_i64]; omega
      have HN : Hid (endS (rs.take k) < s.lo ∧ s.lo < s.hi ∧ s.hi ≤ 65536 → mayS (rs.take (k + 1)) = true) := fun h => may_next HM.out hs h
      have HF : Hid (¬ (endS (rs.take k) < s.lo ∧ s.lo < s.hi ∧ s.hi ≤ 65536) → mayS rs = false) := fun h => may_not hs h
      have heb := end_bd HM.out
      obtain ⟨lo, hi⟩ := s
      simp only at c0 c1 HN HF
      by_cases g1 : lo < 0
      · have B1 : decide (lo < 0) = true := by simpa using g1
        have HR : Hid (mayS rs = false) := HF.out (by omega)
        clear hat hs HN HF heb g1
        go_wp2_with fail
        go_quiet (fail)
        go_wp2_with fail
        go_ret
        exact ⟨ret_bool HR.out.symm, _, drewN_add _ _ _⟩
      · have B1 : decide (lo < 0) = false := by simpa using g1
        by_cases g2 : hi ≤ lo
        · have B2 : decide (hi ≤ lo) = true := by simpa using g2
          have HR : Hid (mayS rs = false) := HF.out (by omega)
          clear hat hs HN HF heb g1 g2
          go_wp2_with fail
          go_quiet (fail)
          go_wp2_with fail
          go_ret
          exact ⟨ret_bool HR.out.symm, _, drewN_add _ _ _⟩
        · have B2 : decide (hi ≤ lo) = false := by simpa using g2
          by_cases g3 : 65536 < hi
          · have B3 : decide (65536 < hi) = true := by simpa using g3
            have HR : Hid (mayS rs = false) := HF.out (by omega)
            clear hat hs HN HF heb g1 g2 g3
            go_wp2_with fail
            go_quiet (fail)
            go_wp2_with fail
            go_ret
            exact ⟨ret_bool HR.out.symm, _, drewN_add _ _ _⟩
          · have B3 : decide (65536 < hi) = false := by simpa using g3
            cases k with
            | zero =>
              have HR : Hid (mayS (rs.take (0 + 1)) = true) := HN.out (by rw [List.take_zero]; show (-1 : Int) < lo ∧ _; omega)
              clear hat hs HN HF heb g1 g2 g3
              simp only [Nat.zero_mul, Nat.add_zero] at c0 c1
              go_wp2_with fail
              go_quiet (fail)
              go_wp2_with fail
              go_roundg (n - 1)
              case measure => clear hr2; omega
              case rel => exact ⟨1, _, by clear hr2; omega, by go_num, HR, rfl⟩
            | succ m =>
              obtain ⟨t, b', off', ht, e, hat'⟩ := HH.out.1.at (k := m) (by omega)
              cases e
              have d1 := hat'.c1
              have hmI : (m : Int) ≤ 1000000 := by omega
              have he := end_prev ht
              rw [he] at HN HF
              obtain ⟨lo', hi'⟩ := t
              simp only at d1 HN HF
              by_cases g4 : lo ≤ hi'
              · have B4 : decide (lo ≤ hi') = true := by simpa using g4
                have HR : Hid (mayS rs = false) := HF.out (by omega)
                clear hat hs HN HF heb g1 g2 g3 g4 he ht hat'
                go_wp2_with fail
                go_quiet (fail)
                go_wp2_with fail
                go_ret
                exact ⟨ret_bool HR.out.symm, _, drewN_add _ _ _⟩
              · have B4 : decide (lo ≤ hi') = false := by simpa using g4
                have HR : Hid (mayS (rs.take (m + 1 + 1)) = true) := HN.out (by omega)
                clear hat hs HN HF heb g1 g2 g3 g4 he ht hat'
                go_wp2_with fail
                go_quiet (fail)
                go_wp2_with fail
                go_roundg (n - (m + 2))
                case measure => clear hr2; omega
                case rel => exact ⟨m + 2, _, by clear hr2; omega, by go_num, HR, rfl⟩
    · have hkI : ¬ (k : Int) < (n : Int) := by omega
      obtain rfl : k = n := by omega
      go_wp2_with fail
      go_ret
      exact ⟨ret_bool (by have := HM.out; rw [List.take_of_length_le (by rw [HH.out.2]; exact Nat.le_refl _)] at this; exact this.symm), _, rfl⟩
/-- The place behind the last one. -/
def topS (rs : List Sn) : Int := if rs.length = 0 then 0 else endS rs
theorem top_bd {rs : List Sn} (h : mayS rs = true) : 0 ≤ topS rs ∧ topS rs ≤ 65536 ∧ endS rs ≤ topS rs := by
  unfold topS
  have := end_bd h
  split
  · rename_i h0
    rw [List.eq_nil_of_length_eq_zero h0]
    exact ⟨by omega, by omega, by show (-1 : Int) ≤ 0; omega⟩
  · rename_i h0
    obtain ⟨p, s, rfl, hp⟩ := list_snoc (n := rs.length - 1) (l := rs) (by omega)
    have h1 := may_snoc.1 h
    have h2 := end_bd h1.1
    rw [end_snoc] at this ⊢
    omega
set_option maxRecDepth 4000 in
set_option maxHeartbeats 1000000 in
theorem refTop_any {w : World} {v : Value} {rs : List Sn} (h : SpansIs w v rs) (hl : rs.length ≤ 1000000) :
    Calls Try.prog 29 #[v] w fun e w' => e = .returned (.int .i64 (topS rs)) ∧ w' = w := by
  obtain ⟨a, n, cap, rfl, hn, hcap⟩ := h.slice
  rcases Nat.eq_zero_or_pos n with h0 | hp
  · subst h0
    have HT : Hid (topS rs = 0) := by unfold Hid topS; rw [if_pos hn]
    clear h hl hn
    go_enter Try.func29, Try.ntmps29
    go_wp2_with fail
    go_ret
    exact ⟨ret_int HT.out.symm, rfl⟩
  · obtain ⟨m, rfl⟩ : ∃ m, n = m + 1 := ⟨n - 1, by omega⟩
    obtain ⟨s, b, off, hs, rfl, hat⟩ := h.at (k := m) (by omega)
    have c1 := hat.c1
    have HT : Hid (topS rs = s.hi) := by
      unfold Hid topS
      rw [if_neg (by omega), ← end_next hs, List.take_of_length_le (by omega)]
    have hm1 : (m : Int) ≤ 1000000 := by omega
    have hne : ((m : Int) + 1 == 0) = false := by simp; omega
    generalize s.hi = z at *
    clear h hl hn hs hat hp
    go_enter Try.func29, Try.ntmps29
    go_wp2_with fail
    go_ret
    exact ⟨ret_int HT.out.symm, rfl⟩
/-- What Few answers. -/
def fewA (rs : List Sn) : Bool := decide (rs.length ≤ 60) && (!mayS rs || decide (topS rs ≤ 2048))
set_option maxRecDepth 4000 in
set_option maxHeartbeats 1000000 in
theorem few_any {w : World} {v : Value} {rs : List Sn} (h : SpansIs w v rs) :
    Calls Try.prog 8 #[v] w fun e w' => e = .returned (.bool (fewA rs)) ∧ ∃ n, w' = w.drewN n := by
  obtain ⟨a, n, cap, rfl, hn, hcap⟩ := h.slice
  by_cases hl : n ≤ 60
  · have hlI : (n : Int) ≤ 60 := by omega
    have hmay := refMay_any h (by omega)
    have htop := fun q : Nat => refTop_any (w := w.drewN q) (h.below (below_drewN (Below.refl _ _) q)) (by omega)
    cases hm : mayS rs with
    | false =>
      rw [hm] at hmay
      have HF : Hid (fewA rs = true) := by unfold Hid fewA; rw [hm]; simp; omega
      clear h hn hm htop
      go_enter Try.func8, Try.ntmps8
      go_wp2_with fail
      refine hmay.mono ?_
      rintro e w1 ⟨rfl, q, rfl⟩
      go_wp2_with fail
      go_ret
      exact ⟨ret_bool HF.out.symm, _, rfl⟩
    | true =>
      rw [hm] at hmay
      have HF : Hid (fewA rs = decide (topS rs ≤ 2048)) := by unfold Hid fewA; rw [hm]; simp; omega
      generalize topS rs = T at *
      clear h hn hm
      go_enter Try.func8, Try.ntmps8
      go_wp2_with fail
      refine hmay.mono ?_
      rintro e w1 ⟨rfl, q, rfl⟩
      go_wp2_with fail
      refine (htop q).mono ?_
      rintro e w2 ⟨rfl, rfl⟩
      go_wp2_with fail
      go_ret
      exact ⟨ret_bool HF.out.symm, _, rfl⟩
  · have hlI : ¬ (n : Int) ≤ 60 := by omega
    have HF : Hid (fewA rs = false) := by unfold Hid fewA; rw [decide_eq_false (by omega)]; rfl
    clear h hn
    go_enter Try.func8, Try.ntmps8
    go_wp2_with fail
    go_ret
    exact ⟨ret_bool HF.out.symm, 0, rfl⟩
end Go.Proofs.Yteijhnfciiblmaa
