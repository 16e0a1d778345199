/-
  The walk of law 4's DeviceFuses: a fuse lets just so many writes and syncs be done, and none behind.
-/
import Derived.Test.YtmgodahdljnbmaaDFree
namespace Go.Proofs.Ytmgodahdljnbmaa
open Go.RowKit

set_option maxRecDepth 4000 in
set_option maxHeartbeats 4000000 in
theorem walkDeviceFuses (a0 : Int) (w0 : (Lit.int .i64 a0).wf = true) (a1 : Int) (w1 : (Lit.int .i64 a1).wf = true) (a2 : Int) (w2 : (Lit.int .i64 a2).wf = true) (w : World) :
    Calls Try.prog 5 #[.int .i64 a0, .int .i64 a1, .int .i64 a2] w fun e w' => e = .returned (.bool true) ∧ Below w.heap.size w w' := by
  obtain ⟨x0, rfl⟩ := Wd.word_of a0 w0
  obtain ⟨x1, rfl⟩ := Wd.word_of a1 w1
  obtain ⟨x2, rfl⟩ := Wd.word_of a2 w2
  obtain ⟨n, rn, hn⟩ := and_mask x2 63 (by omega)
  obtain ⟨u, ru, hu⟩ := and_mask x0 255 (by omega)
  replace rn : bits .and .i64 x2.toInt 63 = (n : Int) := rn
  replace ru : bits .and .i64 x0.toInt 255 = (u : Int) := ru
  obtain ⟨M, hM⟩ : ∃ M, M = u % 61 := ⟨_, rfl⟩
  have rM : (u : Int) % 61 = (M : Int) := by rw [hM]; simp
  have hM2 : M < 61 := by rw [hM]; exact Nat.mod_lt _ (by omega)
  have rM2 : Int.tmod (u : Int) 61 = (M : Int) := by rw [Int.tmod_eq_emod_of_nonneg (by omega)]; exact rM
  clear hM w0 w1 w2
  go_enter Try.func5, Try.ntmps5
  go_wp2_with fail
  refine (new_any 4 (by omega) (by omega) _).mono ?_
  rintro e w1 ⟨H1, rfl, D1, b1, c1⟩
  have O1 := own_new D1 b1 c1
  obtain ⟨p, hp⟩ : ∃ p, p = H1.p := ⟨_, rfl⟩
  rw [← hp] at O1 ⊢
  obtain ⟨su, hsu⟩ : ∃ su, su = List.replicate 4 (List.replicate 128 (0 : UInt8)) := ⟨_, rfl⟩
  have O1' : Own w w1 p H1 ⟨su, [], -1, false⟩ := by rw [hsu]; exact O1
  have hl4 : su.length = 4 := by rw [hsu]; simp
  clear D1 b1 c1 hp hsu O1
  go_wp2_with fail
  refine (O1'.fuse (n : Int) (by omega)).mono ?_
  rintro e w2 ⟨rfl, O2⟩
  replace O2 : Own w w2 p H1 ⟨su, [], (n : Int), false⟩ := O2
  clear O1'
  go_wp2_with fail
  go_loopg [10, 11] M (fun g s10 s11 wx => ∃ (i : Nat) (H : Hnd) (su : List (List UInt8)) (wt : List (Nat × List UInt8)) (f : Int) (o : Bool), i + g = M ∧ s10 = .int .i64 i ∧ Own w wx p H ⟨su, wt, f, o⟩ ∧ su.length = 4 ∧ wt.length ≤ i ∧ (i ≤ n → f = (n : Int) - i ∧ o = false) ∧ (n < i → f = -1 ∧ o = true))
  case atStart => exact ⟨0, H1, su, [], n, false, by omega, rfl, O2, hl4, by simp, by simp, by omega⟩
  case round =>
    obtain ⟨i, H, su, wt, f, o, hig, rfl, O, hsu, hwt, hA, hB⟩ := hrel
    clear O2 hl4
    by_cases hi : i < M
    · have hiI : (i : Int) < (M : Int) := by omega
      have r63 : bits .and .i64 (i : Int) 63 = (i : Int) := by
        have := and_pow i 6 63 (by omega) (by omega) (by omega)
        rw [Nat.mod_eq_of_lt (by omega)] at this
        exact this
      obtain ⟨q, hq⟩ : ∃ q, q = i % 4 := ⟨_, rfl⟩
      have r3 : bits .and .i64 (i : Int) 3 = (q : Int) := by
        have := and_pow i 2 3 (by omega) (by omega) (by omega)
        rw [hq]
        exact this
      have hq4 : q < 4 := by omega
      have hr2 : IntKind.i64.wrap ((i : Int) + 1) = (i : Int) + 1 := by rw [IntKind.wrap_i64]; omega
      clear hq
      by_cases hin : i < n
      · have hinI : (i : Int) < (n : Int) := by omega
        obtain ⟨rfl, rfl⟩ := hA (by omega)
        have HO : Hid (Own w wr p H ⟨su, wt, (n : Int) - i, false⟩) := O
        clear hA hB O
        go_wp2_with fail
        · refine (HO.out.sync_pos (by omega)).mono ?_
          rintro e w3 ⟨rfl, H3, O3⟩
          have co := O3.off
          have HO3 : Hid (Own w w3 p H3 ⟨lay su wt, [], (n : Int) - i - 1, false⟩) := O3
          clear O3
          go_wp2_with fail
          refine co.mono ?_
          rintro e w4 ⟨rfl, rfl⟩
          clear co
          go_wp2
          go_roundg (M - (i + 1))
          case measure => omega
          case rel => exact ⟨i + 1, H3, _, _, _, _, by omega, by go_num, HO3.out, by rw [lay_len]; exact hsu, by simp, fun _ => ⟨by omega, rfl⟩, fun h => by omega⟩
        · refine (filled_str 119 _).mono ?_
          rintro e w2a ⟨rfl, b2⟩
          have O2 := HO.out.below b2
          go_wp2_with fail
          refine (O2.write_pos (by omega) q 119 (by omega) (by omega)).mono ?_
          rintro e w3 ⟨rfl, H3, O3⟩
          have co := O3.off
          have HO3 : Hid (Own w w3 p H3 ⟨su, wt ++ [(q, fl 119)], (n : Int) - i - 1, false⟩) := O3
          clear O3 O2 b2
          go_wp2_with fail
          refine co.mono ?_
          rintro e w4 ⟨rfl, rfl⟩
          clear co
          go_wp2
          go_roundg (M - (i + 1))
          case measure => omega
          case rel => exact ⟨i + 1, H3, _, _, _, _, by omega, by go_num, HO3.out, hsu, by simp; omega, fun _ => ⟨by omega, rfl⟩, fun h => by omega⟩
      · have hinI : ¬ (i : Int) < (n : Int) := by omega
        have hinG : (n : Int) ≤ (i : Int) := by omega
        have hdead : Hid (o = true ∧ f = -1 ∨ o = false ∧ f = 0) := by
          show _ ∨ _
          by_cases e : i = n
          · have := hA (by omega); right; exact ⟨this.2, by omega⟩
          · have := hB (by omega); left; exact ⟨this.2, this.1⟩
        have HO : Hid (Own w wr p H ⟨su, wt, f, o⟩) := O
        clear hA hB O
        go_wp2_with fail
        · refine (HO.out.sync_dead hdead.out).mono ?_
          rintro e w3 ⟨rfl, O3⟩
          have co := O3.off
          have HO3 : Hid (Own w w3 p H ⟨su, wt, -1, true⟩) := O3
          clear O3
          go_wp2_with fail
          refine co.mono ?_
          rintro e w4 ⟨rfl, rfl⟩
          clear co
          go_wp2
          go_roundg (M - (i + 1))
          case measure => omega
          case rel => exact ⟨i + 1, H, _, _, _, _, by omega, by go_num, HO3.out, hsu, by omega, fun h => by omega, fun _ => ⟨rfl, rfl⟩⟩
        · refine (filled_str 119 _).mono ?_
          rintro e w2a ⟨rfl, b2⟩
          have O2 := HO.out.below b2
          go_wp2_with fail
          refine (O2.write_dead hdead.out q 119 (by omega)).mono ?_
          rintro e w3 ⟨rfl, O3⟩
          have co := O3.off
          have HO3 : Hid (Own w w3 p H ⟨su, wt, -1, true⟩) := O3
          clear O3 O2 b2
          go_wp2_with fail
          refine co.mono ?_
          rintro e w4 ⟨rfl, rfl⟩
          clear co
          go_wp2
          go_roundg (M - (i + 1))
          case measure => omega
          case rel => exact ⟨i + 1, H, _, _, _, _, by omega, by go_num, HO3.out, hsu, by omega, fun h => by omega, fun _ => ⟨rfl, rfl⟩⟩
    · have hiI : ¬ (i : Int) < (M : Int) := by omega
      have cc := O.crash (.slice none 0 0) [] (.inl ⟨rfl, none, 0, rfl⟩) (by simp)
      clear hA hB O
      go_wp2_with fail
      refine cc.mono ?_
      rintro e w3 ⟨rfl, H3, O3, _⟩
      clear cc
      have co := O3.off
      go_wp2_with fail
      refine co.mono ?_
      rintro e w4 ⟨rfl, rfl⟩
      clear co
      go_wp2_with fail
      refine (filled_str 120 _).mono ?_
      rintro e w5 ⟨rfl, b5⟩
      have O5 := O3.below b5
      clear O3 b5
      go_wp2_with fail
      refine (O5.write 0 120 (by rw [lay_len]; omega) (by simp)).mono ?_
      rintro e w6 ⟨rfl, H6, O6, _⟩
      have HB := O6.bel
      clear O5 O6
      go_wp2_with fail
      refine (awake_any _).mono ?_
      rintro e w7 ⟨rfl, b7⟩
      go_wp2
      go_ret
      exact ⟨rfl, HB.trans (b7.mono HB.size)⟩
end Go.Proofs.Ytmgodahdljnbmaa
