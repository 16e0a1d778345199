/-
  The contracts of the document's digits and Show.
-/
import Derived.Test.YtjkkkdehmgfmeaaDoorKRead
namespace Go.Proofs.YtjkkkdehmgfmeaaDoor
open Go.RowKit

theorem rem_neg (v : Nat) : (-(v : Int)).tmod 10 = -((v % 10 : Nat) : Int) := by
  rw [Int.neg_tmod, Int.tmod_eq_emod_of_nonneg (by omega)]
  omega
theorem quo_neg (v : Nat) : (-(v : Int)).tdiv 10 = -((v / 10 : Nat) : Int) := by
  rw [Int.neg_tdiv, Int.tdiv_eq_ediv_of_nonneg (by omega)]
  omega
/-- How far digits has come: v is left, the digits t are there. -/
def DigSt (u v : Nat) (t : List UInt8) : Prop := (0 < v ∧ Lib.decDigits u = Lib.decDigits v ++ t) ∨ (v = 0 ∧ 0 < u ∧ t = Lib.decDigits u) ∨ (v = 0 ∧ u = 0 ∧ t = [])
theorem DigSt.step {u v : Nat} {t : List UInt8} (h : DigSt u v t) (hv : 0 < v) : DigSt u (v / 10) (UInt8.ofNat (48 + v % 10) :: t) := by
  rcases h with ⟨_, h⟩ | ⟨h, _⟩ | ⟨h, _⟩
  · by_cases hs : v < 10
    · rw [Lib.decDigits_one hs] at h
      have hu : 0 < u := by
        rcases Nat.eq_zero_or_pos u with rfl | hu
        · rw [Lib.decDigits_one (by decide)] at h
          have := congrArg List.length h
          simp at this
          subst this
          simp only [List.append_nil, List.cons.injEq, and_true] at h
          have := congrArg UInt8.toNat h
          rw [digit_nat hs, digit_nat (by decide)] at this
          omega
        · exact hu
      refine .inr (.inl ⟨by omega, hu, ?_⟩)
      rw [h, Nat.mod_eq_of_lt hs]
      rfl
    · refine .inl ⟨by omega, ?_⟩
      rw [h]
      conv => lhs; rw [Lib.decDigits, dif_neg hs]
      simp
  · omega
  · omega

theorem belowNew {w1 : World} (B : Nat) (h : B ≤ w1.heap.size) (A : Obj) : Below B w1 (w1.alloc A) := (Below.refl _ _).alloc h _
theorem digSt_start (u : Nat) : DigSt u u [] := by
  rcases Nat.eq_zero_or_pos u with rfl | h
  · exact .inr (.inr ⟨rfl, rfl, rfl⟩)
  · exact .inl ⟨h, by simp⟩
theorem DigSt.len {u v : Nat} {t : List UInt8} (h : DigSt u v t) (hu : u ≤ 9223372036854775808) : t.length ≤ 20 := by
  have h20 := Lib.nDigits_le20 u (by omega)
  rw [← Lib.decDigits_length] at h20
  rcases h with ⟨_, h⟩ | ⟨_, _, rfl⟩ | ⟨_, _, rfl⟩
  · rw [h, List.length_append] at h20
    omega
  · exact h20
  · simp
set_option maxHeartbeats 1000000 in
set_option maxRecDepth 4000 in
theorem digits_any (u : Nat) (hu : u ≤ 9223372036854775808) (w : World) :
    Calls Tryd.prog 43 #[.int .i64 (-(u : Int))] w fun e w' => e = .returned (.string (str (Lib.decDigits u))) ∧ Below w.heap.size w w' := by
  obtain ⟨x0, hx0⟩ : ∃ x : Int, x = -(u : Int) := ⟨_, rfl⟩
  rw [← hx0]
  have HX : Hid (x0 = -(u : Int)) := hx0
  clear hx0
  go_enter Tryd.func43, Tryd.ntmps43
  go_wp2_with fail
  go_loopg [0, 3] u (fun g s0 s3 wx => ∃ (x : Int) (t : ByteArray) (l : List UInt8), s0 = .int .i64 x ∧ s3 = .string t ∧ Hid (x = -(g : Int) ∧ t = str l ∧ DigSt u g l ∧ g ≤ u) ∧ Below w.heap.size w wx)
  case atStart => exact ⟨x0, _, [], rfl, rfl, ⟨HX.out, rfl, digSt_start u, Nat.le_refl _⟩, Below.refl _ _⟩
  case round =>
    obtain ⟨x, t, l, rfl, rfl, hH, hb⟩ := hrel
    have hts : (t.size : Int) ≤ 20 := by
      rw [hH.out.2.1, str_size]
      have := hH.out.2.2.1.len hu
      omega
    have HB : Hid (Below w.heap.size w wr) := hb
    have hsz := hb.size
    clear hb
    rcases Nat.eq_zero_or_pos gk with h0 | hpos
    · have hx0 : x = 0 := by have := hH.out.1; omega
      subst hx0
      have hd := hH.out.2.2.1
      rw [h0] at hd
      have ht := hH.out.2.1
      clear hH
      rcases hd with ⟨h, _⟩ | ⟨_, hu0, hl⟩ | ⟨_, hu0, hl⟩
      · omega
      · have hemp : t.toList.isEmpty = false := by
          rw [ht, toList_str, hl]
          obtain ⟨d, r, _, e⟩ := digits_head u
          rw [e]; rfl
        have HT : Hid (str (Lib.decDigits u) = t) := by rw [ht, hl]; rfl
        clear ht hl h0 hu0
        go_wp2_with fail
        go_ret
        exact ⟨retS HT.out, HB.out⟩
      · have hemp : t.toList.isEmpty = true := by rw [ht, toList_str, hl]; rfl
        have HT : Hid (str (Lib.decDigits u) = ⟨#[48]⟩) := by rw [hu0, Lib.decDigits_one (by decide)]; rfl
        clear ht hl h0 hu0
        go_wp2_with fail
        go_ret
        exact ⟨retS HT.out, HB.out⟩
    · have hneg : x < 0 := by rw [hH.out.1]; omega
      have hrem : x.tmod 10 = -((gk % 10 : Nat) : Int) := by rw [hH.out.1, rem_neg]
      have hquo : x.tdiv 10 = -((gk / 10 : Nat) : Int) := by rw [hH.out.1, quo_neg]
      obtain ⟨d, hd⟩ : ∃ d, d = gk % 10 := ⟨_, rfl⟩
      obtain ⟨y, hy⟩ : ∃ y, y = -((gk / 10 : Nat) : Int) := ⟨_, rfl⟩
      rw [← hd] at hrem
      rw [← hy] at hquo
      have hd10 : (d : Int) < 10 := by omega
      have hlow : -9223372036854775808 ≤ x := by have := hH.out; omega
      obtain ⟨c8, hc8⟩ : ∃ c8, c8 = UInt8.ofNat (48 + d) := ⟨_, rfl⟩
      have hn8 : 48 + (d : Int) = (c8.toNat : Int) := by rw [hc8, digit_nat (by omega)]; omega
      have hy1 : y ≤ 0 := by omega
      have hy2 : -9223372036854775808 ≤ y := by have := hH.out; omega
      have hwy : wrap64 y = y := by unfold wrap64; omega
      have hcv := convert_own (ownsB_new wr hn8) (by simp)
      have HH : Hid (c8 = UInt8.ofNat (48 + gk % 10) ∧ y = -((gk / 10 : Nat) : Int) ∧ (⟨#[c8]⟩ : ByteArray) ++ t = str (c8 :: l)) := ⟨by rw [hc8, hd], hy, by rw [hH.out.2.1]; exact str_append [_] l⟩
      clear hd hy hn8 hc8
      go_wp2_with fail
      go_roundg (gk / 10)
      case measure => omega
      case rel => exact ⟨y, _, c8 :: l, rfl, rfl, ⟨HH.out.2.1, HH.out.2.2, by rw [HH.out.1]; exact hH.out.2.2.1.step hpos, by have := hH.out.2.2.2; omega⟩, HB.out.trans (belowNew _ hsz _)⟩

theorem dbl_snoc (s : ByteArray) (k : Nat) (h : k < s.size) : dbl (s.data.toList.take (k + 1)) = dbl (s.data.toList.take k) ++ (if s[k] = 39 then [39, 39] else [s[k]]) := by
  have h1 : s.data.toList.take (k + 1) = s.data.toList.take k ++ [s[k]] := by
    rw [List.take_succ_eq_append_getElem (by rw [← Lib.size_eq]; exact h)]
    rfl
  rw [h1]
  simp [dbl]

set_option maxHeartbeats 2000000 in
set_option maxRecDepth 4000 in
theorem refShow_any (c : Cl) (w : World) (hok : okC c) (hs : c.s.size ≤ 100000) :
    Calls Tryd.prog 27 #[cv c] w fun e w' => e = .returned (.string (str (showL c))) ∧ Below w.heap.size w w' := by
  obtain ⟨k, n, s⟩ := c
  simp only [cv]
  simp only at hs
  by_cases h0 : k = 0
  · subst h0
    have HR : Hid (showL ⟨0, n, s⟩ = [110, 117, 108, 108]) := by unfold Hid showL; rfl
    go_enter Tryd.func27, Tryd.ntmps27
    go_wp2_with fail
    go_ret
    exact ⟨retS (by rw [HR.out]; rfl), below1 _ _⟩
  · by_cases h1 : k = 1
    · subst h1
      have HR : Hid (showL ⟨1, n, s⟩ = Lib.itoa n) := by unfold Hid showL; rfl
      clear h0
      by_cases hneg : n < 0
      · obtain ⟨u, rfl⟩ : ∃ u : Nat, n = -(u : Int) := ⟨n.natAbs, by omega⟩
        have hu : u ≤ 9223372036854775808 := by have := hok.1; simp only at this; omega
        obtain ⟨t, ht⟩ : ∃ t, t = str (Lib.decDigits u) := ⟨_, rfl⟩
        have hdg : ∀ w, Calls Tryd.prog 43 #[.int .i64 (-(u : Int))] w fun e w' => e = .returned (.string t) ∧ Below w.heap.size w w' := fun w => by rw [ht]; exact digits_any u hu w
        have hts : (t.size : Int) ≤ 20 := by
          rw [ht, str_size, Lib.decDigits_length]
          have := Lib.nDigits_le20 u (by omega)
          omega
        have HT : Hid (str (showL ⟨1, -(u : Int), s⟩) = ⟨#[45]⟩ ++ t) := by
          unfold Hid; rw [HR.out, ht, Lib.itoa_neg u (by omega)]; exact (str_append [45] _).symm
        obtain ⟨x, hx⟩ : ∃ x : Int, x = -(u : Int) := ⟨_, rfl⟩
        rw [← hx] at hdg hneg HT
        rw [← hx]
        clear ht hx HR hok
        go_enter Tryd.func27, Tryd.ntmps27
        go_wp2_with (go_at_call 43; refine (hdg _).mono ?_; rintro e w1 ⟨rfl, hb1⟩)
        go_ret
        exact ⟨retS HT.out, (below1 _ _).trans (hb1.mono (by simp))⟩
      · obtain ⟨u, rfl⟩ : ∃ u : Nat, n = (u : Int) := ⟨n.toNat, by omega⟩
        have hu : u ≤ 9223372036854775807 := by have := hok.2; simp only at this; omega
        have hdg : ∀ w, Calls Tryd.prog 43 #[.int .i64 (-(u : Int))] w fun e w' => e = .returned (.string (str (Lib.decDigits u))) ∧ Below w.heap.size w w' := fun w => digits_any u (by omega) w
        have HT : Hid (str (showL ⟨1, (u : Int), s⟩) = str (Lib.decDigits u)) := by unfold Hid; rw [HR.out, Lib.itoa_nonneg]
        have huI : (u : Int) ≤ 9223372036854775807 := by omega
        clear HR hok
        go_enter Tryd.func27, Tryd.ntmps27
        go_wp2_with (go_at_call 43; refine (hdg _).mono ?_; rintro e w1 ⟨rfl, hb1⟩)
        go_ret
        exact ⟨retS HT.out, (below1 _ _).trans (hb1.mono (by simp))⟩
    · by_cases h2 : k = 2
      · subst h2
        have HR : Hid (showL ⟨2, n, s⟩ = 39 :: (dbl s.data.toList ++ [39])) := by unfold Hid showL; rfl
        have own0 := ownsB_new (w.alloc (.cells #[.int .i64 2, .int .i64 n, .string s] 23)) (n := 39) (c := 39) rfl
        rw [World.size_alloc] at own0
        have HS : Hid (s.size = s.data.toList.length) := Lib.size_eq s
        have HO : Hid (OwnsB ((w.alloc (.cells #[.int .i64 2, .int .i64 n, .string s] 23)).alloc (.cells #[.int .u8 39] 5)) (w.heap.size + 1) (.slice (some ⟨w.heap.size + 1, 0, none⟩) 1 1) [39]) := own0
        have H39 : Hid ((39 : Int) = ((39 : UInt8).toNat : Int)) := rfl
        clear h0 h1 hok own0
        go_enter Tryd.func27, Tryd.ntmps27
        go_wp2_with fail
        go_loopg [3, 4] s.size (fun gg s3 s4 wx => ∃ i : Nat, i + gg = s.size ∧ s4 = .int .i64 i ∧ Hid (OwnsB wx (w.heap.size + 1) s3 (39 :: dbl (s.data.toList.take i))) ∧ Box wx w.heap.size 23 #[.int .i64 2, .int .i64 n, .string s] ∧ Below w.heap.size w wx ∧ w.heap.size + 1 ≤ wx.heap.size)
        case atStart => exact ⟨0, by omega, rfl, HO, box_old _ _ _ _, below2 _ _ _, by simp⟩
        case round =>
          obtain ⟨i, hig, rfl, hown, bx, hb, hsz⟩ := hrel
          have HB : Hid (Below w.heap.size w wr) := hb
          have HX : Hid (Box wr w.heap.size 23 #[.int .i64 2, .int .i64 n, .string s]) := bx
          have q2 := bx.cell 2 _ rfl
          clear hb bx
          by_cases hi : i < s.size
          · have hiI : (i : Int) < (s.size : Int) := by omega
            have hr2 : IntKind.i64.wrap ((i : Int) + 1) = (i : Int) + 1 := by rw [IntKind.wrap_i64]; omega
            have hsn := dbl_snoc s i hi
            have hlen : (39 :: dbl (s.data.toList.take i)).length ≤ 200001 := by
              have := dbl_len (s.data.toList.take i)
              rw [List.length_take] at this
              simp only [List.length_cons]
              omega
            obtain ⟨L, hL⟩ : ∃ L, L = 39 :: dbl (s.data.toList.take i) := ⟨_, rfl⟩
            rw [← hL] at hown hlen
            have HC : Hid ((s[i].toNat : Int) = (s[i].toNat : Int)) := rfl
            by_cases hq : s[i] = 39
            · have hq1 : ((s[i].toNat : Int) == 39) = true := by rw [hq]; rfl
              have HF : Hid (39 :: dbl (s.data.toList.take (i + 1)) = (L ++ [39]) ++ [s[i]]) := by
                unfold Hid; rw [hsn, if_pos hq, hL, hq]; simp
              clear hsn hL hq
              go_wp2_with (first
                | (at_builtin; refine append_u8 rfl (.tmp 37) (.tmp 38) rfl rfl rfl H39.out hown.out hsz ?hl ?_; (case hl => omega); intro v3 w3 hown3 hb3; have bx3 := HX.out.below hb3 (by omega); have r2 := bx3.cell 2 _ rfl; have HX3 : Hid (Box w3 w.heap.size 23 #[.int .i64 2, .int .i64 n, .string s]) := bx3; have HO3 : Hid (OwnsB w3 (w.heap.size + 1) v3 (L ++ [39])) := hown3; have HB3 : Hid (Below (w.heap.size + 1) wr w3) := hb3; have hsz3 : w.heap.size + 1 ≤ w3.heap.size := (by have := hb3.size; omega); clear hown3 hb3 bx3)
                | (at_builtin; refine append_u8 rfl (.tmp 40) (.tmp 45) rfl rfl rfl HC.out HO3.out hsz3 ?hl ?_; (case hl => simp; omega); intro v4 w4 hown4 hb4))
              go_roundg (s.size - (i + 1))
              case measure => clear hr2; omega
              case rel => exact ⟨i + 1, by clear hr2; omega, by go_num, by unfold Hid; rw [HF.out]; exact hown4, HX3.out.below hb4 (by omega), HB.out.trans ((HB3.out.mono (by omega)).trans (hb4.mono (by omega))), by have := hb4.size; omega⟩
            · have hq1 : ((s[i].toNat : Int) == 39) = false := by
                rw [beq_eq_false_iff_ne]
                intro e
                exact hq (UInt8.toNat_inj.1 (by have : s[i].toNat = 39 := by omega
                                                rw [this]; rfl))
              have HF : Hid (39 :: dbl (s.data.toList.take (i + 1)) = L ++ [s[i]]) := by
                unfold Hid; rw [hsn, if_neg hq, hL]; simp
              clear hsn hL hq
              go_wp2_with (at_builtin; refine append_u8 rfl (.tmp 40) (.tmp 45) rfl rfl rfl HC.out hown.out hsz ?hl ?_; (case hl => omega); intro v4 w4 hown4 hb4)
              go_roundg (s.size - (i + 1))
              case measure => clear hr2; omega
              case rel => exact ⟨i + 1, by clear hr2; omega, by go_num, by unfold Hid; rw [HF.out]; exact hown4, HX.out.below hb4 (by omega), HB.out.trans (hb4.mono (by omega)), by have := hb4.size; omega⟩
          · have hiI : ¬ (i : Int) < (s.size : Int) := by omega
            have htk : s.data.toList.take i = s.data.toList := List.take_of_length_le (by rw [← HS.out]; omega)
            rw [htk] at hown
            have hlen : (39 :: dbl s.data.toList).length ≤ 200001 := by
              have := dbl_len s.data.toList
              rw [← HS.out] at this
              simp only [List.length_cons]
              omega
            obtain ⟨L, hL⟩ : ∃ L, L = 39 :: dbl s.data.toList := ⟨_, rfl⟩
            rw [← hL] at hown hlen
            have HF : Hid (showL ⟨2, n, s⟩ = L ++ [39]) := by unfold Hid; rw [HR.out, hL]; simp
            clear htk hL
            go_wp2_with (at_builtin; refine append_u8 rfl (.tmp 47) (.tmp 48) rfl rfl rfl H39.out hown.out hsz ?hl ?_; (case hl => omega); intro v4 w4 hown4 hb4; have hcv := convert_own hown4 (by simp))
            go_ret
            exact ⟨retS (by rw [HF.out]; rfl), HB.out.trans (hb4.mono (by omega))⟩
      · have HR : Hid (showL ⟨k, n, s⟩ = [63]) := by unfold Hid showL; simp [h0, h1, h2]
        have b0 : (k == 0) = false := by simpa using h0
        have b1 : (k == 1) = false := by simpa using h1
        have b2 : (k == 2) = false := by simpa using h2
        clear h0 h1 h2 hok
        go_enter Tryd.func27, Tryd.ntmps27
        go_wp2_with fail
        go_ret
        exact ⟨retS (by rw [HR.out]; rfl), below1 _ _⟩
end Go.Proofs.YtjkkkdehmgfmeaaDoor
