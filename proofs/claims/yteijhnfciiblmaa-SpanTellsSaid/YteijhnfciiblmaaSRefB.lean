/-
  The contracts of peristyleref14's Places, Pick, Rank and Has, and of peristyleref01's Same, where both are the same numbers.
-/
import Derived.Test.YteijhnfciiblmaaSRefA
import Derived.Test.YteijhnfciiblmaaSPick
import Derived.Test.YteijhnfciiblmaaSIdx
namespace Go.Proofs.Yteijhnfciiblmaa
open Go.RowKit

set_option maxRecDepth 4000 in
set_option maxHeartbeats 1000000 in
theorem sameZ_any {w : World} {v1 v2 : Value} {l : List Int} (h1 : ReadsZ w v1 l) (h2 : ReadsZ w v2 l) (hl : l.length ≤ 1000000) :
    Calls Try.prog 21 #[v1, v2] w fun e w' => e = .returned (.bool true) ∧ ∃ n, w' = w.drewN n := by
  obtain ⟨a1, n, c1, rfl, hn, _⟩ := h1.slice
  obtain ⟨a2, n2, c2, rfl, hn2, _⟩ := h2.slice
  obtain rfl : n = n2 := by omega
  have hn1 : (n : Int) ≤ 1000000 := by omega
  have HH : Hid (ReadsZ w (.slice a1 n c1) l ∧ ReadsZ w (.slice a2 n c2) l ∧ l.length = n) := ⟨h1, h2, hn⟩
  clear h1 h2 hl hn hn2
  go_enter Try.func21, Try.ntmps21
  go_wp2_with fail
  go_loopg [5] n (fun gg s5 wx => ∃ i q : Nat, i + gg = n ∧ s5 = .int .i64 i ∧ wx = w.drewN q)
  case atStart => exact ⟨0, 0, by omega, rfl, rfl⟩
  case round =>
    obtain ⟨i, q, hig, rfl, rfl⟩ := hrel
    by_cases hi : i < n
    · have hiI : (i : Int) < (n : Int) := by omega
      obtain ⟨r, b1, o1, hr, rfl, x0⟩ := HH.out.1.at hi
      obtain ⟨r', b2, o2, hr', rfl, y0⟩ := HH.out.2.1.at hi
      obtain rfl : r = r' := by rw [hr] at hr'; cases hr'; rfl
      have hr2 : IntKind.i64.wrap ((i : Int) + 1) = (i : Int) + 1 := by rw [IntKind.wrap_i64]; omega
      clear hr hr'
      go_wp2_with fail
      go_quiet (fail)
      go_wp2_with fail
      go_roundg (n - (i + 1))
      case measure => clear hr2; omega
      case rel => exact ⟨i + 1, _, by clear hr2; omega, by go_num, rfl⟩
    · have hiI : ¬ (i : Int) < (n : Int) := by omega
      go_wp2_with fail
      go_ret
      exact ⟨rfl, _, rfl⟩

set_option maxRecDepth 4000 in
set_option maxHeartbeats 4000000 in
theorem refPlaces_any {w : World} {v : Value} {rs : List Sn} (h : SpansIs w v rs) (hl : rs.length ≤ 1000000) :
    Calls Try.prog 18 #[v] w (PlacesAns w rs) := by
  obtain ⟨a, n, cap, rfl, hn, hcap⟩ := h.slice
  have hn1 : (n : Int) ≤ 1000000 := by omega
  have hmay := refMay_any h hl
  cases hm : mayS rs with
  | false =>
    rw [hm] at hmay
    have HM : Hid (mayS rs = false) := hm
    clear h hl hn hm
    go_enter Try.func18, Try.ntmps18
    go_wp2_with fail
    refine hmay.mono ?_
    rintro e w1 ⟨rfl, q, rfl⟩
    go_wp2_with fail
    go_ret2
    exact ⟨.inr ⟨HM.out, rfl⟩, below_drewN (Below.refl _ _) _⟩
  | true =>
    rw [hm] at hmay
    have HH : Hid (SpansIs w (.slice a n cap) rs ∧ rs.length = n ∧ mayS rs = true) := ⟨h, hn, hm⟩
    clear h hl hn hm
    go_enter Try.func18, Try.ntmps18
    go_wp2_with fail
    refine hmay.mono ?_
    rintro e w1 ⟨rfl, q, rfl⟩
    clear hmay
    go_wp2_with fail
    go_loopg [4, 5] n (fun gg s4 s5 wx => ∃ k : Nat, k + gg = n ∧ s5 = .int .i64 k ∧ Hid (OwnsZ wx w.heap.size s4 (pl (rs.take k))) ∧ Hid (Below w.heap.size w wx))
    case atStart => exact ⟨0, by omega, rfl, ownsZ_nil _ _, below_drewN (Below.refl _ _) _⟩
    case round =>
      obtain ⟨k, hkg, rfl, HO, HB⟩ := hrel
      by_cases hk : k < n
      · have hkI : (k : Int) < (n : Int) := by omega
        obtain ⟨s, b, off, hs, rfl, hat⟩ := (HH.out.1.below HB.out).at hk
        have c0 := hat.c0
        have hbd := may_at HH.out.2.2 hs
        have heb := end_bd (may_take HH.out.2.2 k)
        have HAT : Hid (∀ W, Below w.heap.size w W → W.cell? ⟨b, off + k * 2 + 1, none⟩ = some (.int .i64 s.hi)) := fun W hW => by
          obtain ⟨s', b', off', hs', e, hat'⟩ := (HH.out.1.below hW).at hk
          cases e
          obtain rfl : s = s' := by rw [hs] at hs'; cases hs'; rfl
          exact hat'.c1
        obtain ⟨lo, hi⟩ := s
        simp only at c0 hbd HAT
        obtain ⟨C, hC⟩ : ∃ C : Nat, hi = lo + (C : Int) := ⟨(hi - lo).toNat, by omega⟩
        have HE : Hid (pl (rs.take (k + 1)) = pl (rs.take k) ++ rng lo C) := by
          unfold Hid; rw [pl_next hs]; simp only; rw [show (hi - lo).toNat = C by omega]
        have hl0 : (pl (rs.take k)).length + C ≤ 65537 := by
          have := pl_len (may_take HH.out.2.2 (k + 1))
          rwa [HE.out, List.length_append, rng_len] at this
        have hlo : 0 ≤ lo ∧ lo ≤ 65536 ∧ hi ≤ 65536 := by omega
        have hC1 : (C : Int) ≤ 65536 := by omega
        have HC : Hid (hi = lo + (C : Int)) := hC
        have hr2 : IntKind.i64.wrap ((k : Int) + 1) = (k : Int) + 1 := by rw [IntKind.wrap_i64]; omega
        generalize pl (rs.take k) = l at *
        clear hat hs hbd heb hC
        go_wp2_with fail
        go_loopg [4, 6] C (fun gj s4 s6 wx => ∃ i : Nat, i + gj = C ∧ s6 = .int .i64 (lo + (i : Int)) ∧ Hid (OwnsZ wx w.heap.size s4 (l ++ rng lo i)) ∧ Hid (Below w.heap.size w wx))
        case atStart => exact ⟨0, by omega, by simp, by unfold Hid; rw [rng, List.append_nil]; exact HO.out, HB⟩
        case round =>
          obtain ⟨i, hig, rfl, HF, HB1⟩ := hrel
          clear HO HB c0
          have b1 := HAT.out _ HB1.out
          by_cases hi2 : i < C
          · have hiI : lo + (i : Int) < hi := by have := HC.out; omega
            have HL : Hid ((l ++ rng lo i).length + 1 ≤ 1000000 ∧ l ++ rng lo i ++ [lo + (i : Int)] = l ++ rng lo (i + 1)) := ⟨by rw [List.length_append, rng_len]; omega, by rw [List.append_assoc, rng_snoc]⟩
            have hr3 : IntKind.i64.wrap (lo + (i : Int) + 1) = lo + (i : Int) + 1 := by rw [IntKind.wrap_i64]; omega
            generalize l ++ rng lo i = y at *
            go_wp2_with (at_builtin; refine append_z rfl (.tmp 30) (.tmp 32) rfl rfl rfl HF.out HB1.out.size HL.out.1 ?_; intro v5 w5 o5 k5; have HS5 : Hid (OwnsZ w5 w.heap.size v5 (y ++ [lo + (i : Int)]) ∧ Below w.heap.size w w5) := ⟨o5, HB1.out.trans (kept_ownZ_below HF.out k5 HB1.out.size)⟩; clear o5 k5)
            go_roundg (C - (i + 1))
            case measure => clear hr2 hr3; omega
            case rel => exact ⟨i + 1, by clear hr2 hr3; omega, by congr 1; clear hr2 hr3; omega, by unfold Hid; rw [← HL.out.2]; exact HS5.out.1, HS5.out.2⟩
          · have hiI : ¬ lo + (i : Int) < hi := by have := HC.out; omega
            obtain rfl : i = C := by omega
            go_wp2_with fail
            go_roundg (n - (k + 1))
            case measure => clear hr2; omega
            case rel => exact ⟨k + 1, by clear hr2; omega, by go_num, by unfold Hid; rw [HE.out]; exact HF.out, HB1⟩
      · have hkI : ¬ (k : Int) < (n : Int) := by omega
        obtain rfl : k = n := by omega
        have HE : Hid (pl (rs.take k) = pl rs) := by unfold Hid; rw [List.take_of_length_le (by rw [HH.out.2.1]; exact Nat.le_refl _)]
        go_wp2_with fail
        go_ret2
        exact ⟨.inl ⟨HH.out.2.2, _, rfl, by rw [← HE.out]; exact HO.out⟩, HB.out⟩

set_option maxRecDepth 4000 in
set_option maxHeartbeats 4000000 in
theorem refPick_any {w : World} {v : Value} {rs : List Sn} (h : SpansIs w v rs) (hl : rs.length ≤ 1000000) (x : Int) :
    Calls Try.prog 20 #[v, .int .i64 x] w fun e w' => e = .returned (.tuple #[.int .i64 (pickA rs x).1, .int .i64 (pickA rs x).2]) ∧ Below w.heap.size w w' := by
  have hp := refPlaces_any h hl
  obtain ⟨a, n, cap, rfl, hn, hcap⟩ := h.slice
  clear h hl hn
  go_enter Try.func20, Try.ntmps20
  go_wp2_with fail
  refine hp.mono ?_
  rintro e w1 ⟨⟨hm, p, rfl, ho⟩ | ⟨hm, rfl⟩, hb1⟩
  · have hr := ho.reads
    have hpl := pl_len hm
    obtain ⟨pa, N, pc, rfl, hN, hNc⟩ := hr.slice
    have hN1 : (N : Int) ≤ 65537 := by omega
    have HB : Hid (Below w.heap.size w w1) := hb1
    by_cases h0 : x < 0
    · have HP : Hid (pickA rs x = (0, 3)) := pick_low hm h0
      clear hp hm ho hr hpl hN hb1
      go_wp2_with fail
      go_ret2
      exact ⟨ret_pair (p := (0, 3)) HP.out.symm, HB.out⟩
    · by_cases h1 : (N : Int) ≤ x
      · have HP : Hid (pickA rs x = (0, 3)) := pick_none hm (by omega) (by omega)
        clear hp hm ho hr hpl hN hb1
        go_wp2_with fail
        go_ret2
        exact ⟨ret_pair (p := (0, 3)) HP.out.symm, HB.out⟩
      · obtain ⟨X, rfl⟩ : ∃ X : Nat, x = (X : Int) := ⟨x.toNat, by omega⟩
        obtain ⟨y, b, off, hy, rfl, c0⟩ := hr.at (k := X) (by omega)
        have HP : Hid (pickA rs (X : Int) = (y, 0)) := pick_some hm (by omega) (by simpa using hy)
        have h1' : (X : Int) < (N : Int) := by omega
        clear hp hm ho hr hpl hN hb1 hy h0 h1
        go_wp2_with fail
        go_ret2
        exact ⟨ret_pair (p := (y, 0)) HP.out.symm, HB.out⟩
  · have HP : Hid (pickA rs x = (0, 1)) := pick_no x hm
    clear hp hm
    go_wp2_with fail
    go_ret2
    exact ⟨ret_pair (p := (0, 1)) HP.out.symm, hb1⟩

set_option maxRecDepth 4000 in
set_option maxHeartbeats 4000000 in
theorem refRank_any {w : World} {v : Value} {rs : List Sn} (h : SpansIs w v rs) (hl : rs.length ≤ 1000000) (x : Int) :
    Calls Try.prog 24 #[v, .int .i64 x] w fun e w' => e = .returned (.int .i64 (rankA rs x)) ∧ Below w.heap.size w w' := by
  have hp := refPlaces_any h hl
  obtain ⟨a, n, cap, rfl, hn, hcap⟩ := h.slice
  clear h hl hn
  go_enter Try.func24, Try.ntmps24
  go_wp2_with fail
  refine hp.mono ?_
  intro e w1 hans
  have hcom : ∃ (p : Value) (k : Int) (l : List Int), e = .returned (.tuple #[p, .int .i64 k]) ∧ ReadsZ w1 p l ∧ l.length ≤ 65537 ∧ ∀ m, IsRank l x m → rankA rs x = (m : Int) := by
    rcases hans.1 with ⟨hm, p, rfl, ho⟩ | ⟨hm, rfl⟩
    · refine ⟨p, 0, pl rs, rfl, ho.reads, pl_len hm, fun m hmr => ?_⟩
      have := (rk_is (x := x) hm).unique hmr
      have := rk_bd (x := x) hm
      unfold rankA
      rw [if_pos hm]
      omega
    · refine ⟨_, 1, [], rfl, readsZ_nil _, by simp, fun m hmr => ?_⟩
      have := hmr.le
      unfold rankA
      rw [hm]
      simp at this
      simp [this]
  obtain ⟨p, kk, l, rfl, hr, hll, hrk⟩ := hcom
  have HB : Hid (Below w.heap.size w w1) := hans.2
  obtain ⟨pa, N, pc, rfl, hN, hNc⟩ := hr.slice
  have hN1 : (N : Int) ≤ 65537 := by omega
  have HH : Hid (ReadsZ w1 (.slice pa N pc) l ∧ l.length = N ∧ ∀ m, IsRank l x m → rankA rs x = (m : Int)) := ⟨hr, hN, hrk⟩
  clear hp hans hr hN hll hrk
  go_wp2_with fail
  go_loopg [7] N (fun gg s7 wx => ∃ k : Nat, k + gg = N ∧ s7 = .int .i64 k ∧ Hid (∀ (i : Nat) (y : Int), i < k → l[i]? = some y → y < x) ∧ wx = w1)
  case atStart => exact ⟨0, by omega, rfl, fun i y hi => by omega, rfl⟩
  case round =>
    obtain ⟨k, hkg, rfl, HL, rfl⟩ := hrel
    by_cases hk : k < N
    · have hkI : (k : Int) < (N : Int) := by omega
      obtain ⟨y, b, off, hy, rfl, c0⟩ := HH.out.1.at hk
      have hr2 : IntKind.i64.wrap ((k : Int) + 1) = (k : Int) + 1 := by rw [IntKind.wrap_i64]; omega
      by_cases hc : y < x
      · have HN : Hid (∀ (i : Nat) (y : Int), i < k + 1 → l[i]? = some y → y < x) := fun i z hi hz => by
          by_cases e : i = k
          · subst e; rw [hy] at hz; cases hz; exact hc
          · exact HL.out i z (by omega) hz
        clear hy
        go_wp2_with fail
        go_roundg (N - (k + 1))
        case measure => clear hr2; omega
        case rel => exact ⟨k + 1, by clear hr2; omega, by go_num, HN, rfl⟩
      · have HR : Hid (rankA rs x = (k : Int)) := HH.out.2.2 k ⟨by have := HH.out.2.1; omega, HL.out, fun z hz => by rw [hy] at hz; cases hz; exact hc⟩
        clear hy
        go_wp2_with fail
        go_ret
        exact ⟨ret_int HR.out.symm, HB.out⟩
    · have hkI : ¬ (k : Int) < (N : Int) := by omega
      obtain rfl : k = N := by omega
      have HR : Hid (rankA rs x = (k : Int)) := HH.out.2.2 k ⟨by have := HH.out.2.1; omega, HL.out, fun z hz => by rw [List.getElem?_eq_none (by have := HH.out.2.1; omega)] at hz; cases hz⟩
      go_wp2_with fail
      go_ret
      exact ⟨ret_int HR.out.symm, HB.out⟩

set_option maxRecDepth 4000 in
set_option maxHeartbeats 4000000 in
theorem refHas_any {w : World} {v : Value} {rs : List Sn} (h : SpansIs w v rs) (hl : rs.length ≤ 1000000) (x : Int) :
    Calls Try.prog 26 #[v, .int .i64 x] w fun e w' => e = .returned (.bool (hasA rs x)) ∧ Below w.heap.size w w' := by
  have hmay := fun q : Nat => refMay_any (w := w.drewN q) (h.below (below_drewN (Below.refl _ _) q)) hl
  obtain ⟨a, n, cap, rfl, hn, hcap⟩ := h.slice
  have hn1 : (n : Int) ≤ 1000000 := by omega
  have HH : Hid (SpansIs w (.slice a n cap) rs ∧ rs.length = n) := ⟨h, hn⟩
  clear h hl hn
  go_enter Try.func26, Try.ntmps26
  go_wp2_with fail
  go_loopg [5] n (fun gg s5 wx => ∃ k q : Nat, k + gg = n ∧ s5 = .int .i64 k ∧ Hid (inB (rs.take k) x = false) ∧ wx = w.drewN q)
  case atStart => exact ⟨0, 0, by omega, rfl, by unfold Hid; rw [List.take_zero]; rfl, rfl⟩
  case round =>
    obtain ⟨k, q, hkg, rfl, HN, rfl⟩ := hrel
    by_cases hk : k < n
    · have hkI : (k : Int) < (n : Int) := by omega
      obtain ⟨s, b, off, hs, rfl, hat⟩ := HH.out.1.at hk
      have c0 := hat.c0
      have c1 := hat.c1
      have hr2 : IntKind.i64.wrap ((k : Int) + 1) = (k : Int) + 1 := by rw [IntKind.wrap_i64]; omega
      have hmq := hmay q
      cases hm : mayS rs with
      | false =>
        rw [hm] at hmq
        have HF : Hid (hasA rs x = false) := by unfold Hid hasA; rw [hm]; rfl
        clear hmay hat hs hm
        go_wp2_with fail
        refine hmq.mono ?_
        rintro e w1 ⟨rfl, q1, rfl⟩
        go_wp2_with fail
        go_ret
        exact ⟨ret_bool HF.out.symm, below_drewN (Below.refl _ _) _⟩
      | true =>
        rw [hm] at hmq
        have HM : Hid (mayS rs = true ∧ inB (rs.take (k + 1)) x = (inB (rs.take k) x || decide (s.lo ≤ x ∧ x < s.hi)) ∧ (s.lo ≤ x ∧ x < s.hi → inB rs x = true)) := ⟨hm, in_take x hs, in_here hs⟩
        clear hat hs hm
        obtain ⟨lo, hi⟩ := s
        simp only at c0 c1 HM
        by_cases g1 : lo ≤ x
        · by_cases g2 : x < hi
          · go_wp2_with fail
            refine hmq.mono ?_
            rintro e w1 ⟨rfl, q1, rfl⟩
            clear hmay hmq
            go_wp2_with fail
            go_ret
            exact ⟨ret_bool (by unfold hasA; rw [HM.out.1, HM.out.2.2 ⟨g1, g2⟩]; rfl), below_drewN (Below.refl _ _) _⟩
          · go_wp2_with fail
            refine hmq.mono ?_
            rintro e w1 ⟨rfl, q1, rfl⟩
            clear hmq
            go_wp2_with fail
            go_roundg (n - (k + 1))
            case measure => clear hr2; omega
            case rel => exact ⟨k + 1, q + q1, by clear hr2; omega, by go_num, by unfold Hid; rw [HM.out.2.1, HN.out]; simp; omega, rfl⟩
        · go_wp2_with fail
          refine hmq.mono ?_
          rintro e w1 ⟨rfl, q1, rfl⟩
          clear hmq
          go_wp2_with fail
          go_roundg (n - (k + 1))
          case measure => clear hr2; omega
          case rel => exact ⟨k + 1, q + q1, by clear hr2; omega, by go_num, by unfold Hid; rw [HM.out.2.1, HN.out]; simp; omega, rfl⟩
    · have hkI : ¬ (k : Int) < (n : Int) := by omega
      obtain rfl : k = n := by omega
      have HF : Hid (hasA rs x = false) := by
        have := HN.out
        rw [List.take_of_length_le (by rw [HH.out.2]; exact Nat.le_refl _)] at this
        unfold Hid hasA
        rw [this]
        simp
      clear hmay
      go_wp2_with fail
      go_ret
      exact ⟨ret_bool HF.out.symm, below_drewN (Below.refl _ _) _⟩
end Go.Proofs.Yteijhnfciiblmaa
