/-
  The contract of package vint's Take.
-/
import Derived.Test.YtlohljefhcidkaaVTk
namespace Go.Proofs.Ytlohljefhcidkaa
open Go.RowKit Leb

theorem u8_andNot_all : ∀ n : Fin 256, bits .andNot .u8 ((n.val : Nat) : Int) 128 = ((n.val % 128 : Nat) : Int) := by decide +kernel
theorem u8_and_all : ∀ n : Fin 256, (bits .and .u8 ((n.val : Nat) : Int) 128 != 0) = decide (128 ≤ n.val) := by decide +kernel
theorem u8_and127_all : ∀ n : Fin 256, bits .and .u8 ((n.val : Nat) : Int) 127 = ((n.val % 128 : Nat) : Int) := by decide +kernel
theorem u8_or_all : ∀ n : Fin 256, bits .or .u8 ((n.val : Nat) : Int) 128 = ((n.val % 128 + 128 : Nat) : Int) := by decide +kernel
theorem u8_andNot (c : UInt8) : bits .andNot .u8 (c.toNat : Int) 128 = ((c.toNat % 128 : Nat) : Int) := u8_andNot_all ⟨c.toNat, c.toNat_lt⟩
theorem u8_and (c : UInt8) : (bits .and .u8 (c.toNat : Int) 128 != 0) = decide (128 ≤ c.toNat) := u8_and_all ⟨c.toNat, c.toNat_lt⟩
theorem u8_and127 (c : UInt8) : bits .and .u8 (c.toNat : Int) 127 = ((c.toNat % 128 : Nat) : Int) := u8_and127_all ⟨c.toNat, c.toNat_lt⟩
theorem getD_data (s : ByteArray) (k : Nat) (h : k < s.size) : s.data.toList.getD k 0 = s[k] := by
  have h2 : k < s.data.size := h
  have e : s[k] = s.data[k] := rfl
  rw [e, List.getD_eq_getElem?_getD, Array.getElem?_toList, Array.getElem?_eq_getElem h2]
  rfl
/-- A group that is shifted too far does not come back. -/
theorem shl_back (g m : Nat) (hg : g < 2 ^ 64) : ((BitVec.ofNat 64 g <<< m).toNat : Int) / 2 ^ m = g ↔ 2 ^ m * g < 2 ^ 64 := by
  have hp := Nat.two_pow_pos m
  have e : ((BitVec.ofNat 64 g <<< m).toNat) = (g * 2 ^ m) % 2 ^ 64 := by
    rw [BitVec.toNat_shiftLeft, BitVec.toNat_ofNat, Nat.mod_eq_of_lt hg, Nat.shiftLeft_eq]
  have e2 : (((BitVec.ofNat 64 g <<< m).toNat : Int) / 2 ^ m = g) ↔ ((g * 2 ^ m) % 2 ^ 64) / 2 ^ m = g := by
    rw [e]
    have : (((g * 2 ^ m) % 2 ^ 64 : Nat) : Int) / 2 ^ m = (((g * 2 ^ m) % 2 ^ 64 / 2 ^ m : Nat) : Int) := by simp
    rw [this]; omega
  rw [e2]
  constructor
  · intro h
    have h1 : 2 ^ m * ((g * 2 ^ m) % 2 ^ 64 / 2 ^ m) ≤ (g * 2 ^ m) % 2 ^ 64 := Nat.mul_div_le _ _
    rw [h] at h1
    omega
  · intro h
    rw [Nat.mod_eq_of_lt (by rw [Nat.mul_comm]; exact h), Nat.mul_div_cancel _ hp]
theorem u64_shl_g (g m : Nat) (hg : g < 2 ^ 64) : IntKind.u64.wrap ((g : Int) * 2 ^ m) = ((BitVec.ofNat 64 g <<< m).toNat : Int) := by
  have e : (g : Int) = ((BitVec.ofNat 64 g).toNat : Int) := by rw [BitVec.toNat_ofNat, Nat.mod_eq_of_lt (by omega)]
  rw [← Wd.u64_shl, ← e]
theorem got_succ7 (s : List UInt8) (k : Nat) (hk : k ≤ 9) (hs : k < s.length) : gotW s k ||| (BitVec.ofNat 64 ((s.getD k 0).toNat % 128) <<< (k * 7)) = gotW s (k + 1) := by
  rw [Nat.mul_comm k 7]; exact got_succ s k hk hs

/-- What a round of Take knows of its byte. -/
structure At (s : ByteArray) (k : Nat) (h : k < s.size) (g : Nat) (sh : BitVec 64) : Prop where
  group : bits .andNot .u8 (s[k].toNat : Int) 128 = (g : Int)
  lt : (g : Int) < 128
  shifted : IntKind.u64.wrap ((g : Int) * 2 ^ (k * 7)) = (sh.toNat : Int)
  word : bits .or .u64 ((gotW s.data.toList k).toNat : Int) (sh.toNat : Int) = ((gotW s.data.toList (k + 1)).toNat : Int)
  byte : (s.data.toList.getD k 0).toNat = s[k].toNat
  isg : g = s[k].toNat % 128
  back : ((sh.toNat : Int) / 2 ^ (k * 7) = g ↔ 2 ^ (7 * k) * g < 2 ^ 64)
theorem at_some (s : ByteArray) (k : Nat) (h : k < s.size) (hk : k ≤ 9) : ∃ g sh, At s k h g sh := by
  refine ⟨s[k].toNat % 128, BitVec.ofNat 64 (s[k].toNat % 128) <<< (k * 7), u8_andNot _, by omega, u64_shl_g _ _ (by omega), ?_, ?_, rfl, ?_⟩
  · rw [Wd.u64_or, ← got_succ7 s.data.toList k hk (by simpa using h), getD_data s k h]
  · rw [getD_data s k h]
  · rw [shl_back _ _ (by omega), Nat.mul_comm k 7]
theorem At.small {s : ByteArray} {k : Nat} {h : k < s.size} {g : Nat} {sh : BitVec 64} (a : At s k h g sh) (hc : s[k].toNat < 128) : (s.data.toList.getD k 0).toNat = g := by
  rw [a.byte, a.isg]; omega
theorem At.wide {s : ByteArray} {k : Nat} {h : k < s.size} {g : Nat} {sh : BitVec 64} (a : At s k h g sh) (hk : k ≤ 9) (hc : s[k].toNat < 128) : (val (s.data.toList.take (k + 1)) < 2 ^ 64) ↔ 2 ^ (7 * k) * g < 2 ^ 64 := by
  have e := val_take_succ s.data.toList k (by simpa using h)
  rw [a.small hc, pow128] at e
  have hg := a.lt
  have e2 : g % 128 = g := by omega
  rw [e2] at e
  have hl := val_take_lt s.data.toList k
  have hp : 2 ^ (7 * k) * 2 ^ (64 - 7 * k) = 2 ^ 64 := by rw [← Nat.pow_add]; congr 1; omega
  rw [e]
  constructor
  · intro h1; omega
  · intro h1
    have : g < 2 ^ (64 - 7 * k) := by
      rw [← hp] at h1
      exact Nat.lt_of_mul_lt_mul_left h1
    have h2 : 2 ^ (7 * k) * (g + 1) ≤ 2 ^ 64 := by
      rw [← hp]; exact Nat.mul_le_mul_left _ this
    rw [Nat.mul_add, Nat.mul_one] at h2
    omega
theorem At.stop {s : ByteArray} {k : Nat} {h : k < s.size} {g : Nat} {sh : BitVec 64} (a : At s k h g sh) (hk : k ≤ 9) (hc : s[k].toNat < 128) (hall : ∀ i, i < k → 128 ≤ (s.data.toList.getD i 0).toNat)
    (hz : k = 0 ∨ g ≠ 0) (hw : (sh.toNat : Int) / 2 ^ (k * 7) = g) : tk s.data.toList = (gotW s.data.toList (k + 1), k + 1, 0) := by
  refine tk_stop hall ?_ (by simpa using h) ?_ ((a.wide hk hc).2 (a.back.1 hw))
  · rw [a.byte]; exact hc
  · rw [a.small hc]; exact hz
theorem At.no {s : ByteArray} {k : Nat} {h : k < s.size} {g : Nat} {sh : BitVec 64} (a : At s k h g sh) (hk : k ≤ 9) (hc : s[k].toNat < 128) (hall : ∀ i, i < k → 128 ≤ (s.data.toList.getD i 0).toNat)
    (hz : (0 < k ∧ g = 0) ∨ ¬ (sh.toNat : Int) / 2 ^ (k * 7) = g) : tk s.data.toList = (0#64, 0, 20) := by
  refine tk_stop_no hall ?_ (by simpa using h) ?_
  · rw [a.byte]; exact hc
  · rw [a.small hc]
    rcases hz with hz | hz
    · exact .inl hz
    · refine .inr (Nat.le_of_not_lt fun e => hz (a.back.2 ((a.wide hk hc).1 e)))
theorem At.next {s : ByteArray} {k : Nat} {h : k < s.size} {g : Nat} {sh : BitVec 64} (a : At s k h g sh) (hc : 128 ≤ s[k].toNat) (hall : ∀ i, i < k → 128 ≤ (s.data.toList.getD i 0).toNat) : ∀ i, i < k + 1 → 128 ≤ (s.data.toList.getD i 0).toNat := by
  intro i hi
  by_cases e : i = k
  · rw [e, a.byte]; exact hc
  · exact hall i (by omega)
theorem take_no {s : List UInt8} (h : tk s = (0#64, 0, 20)) :
    Ending.returned (.tuple #[.int .i64 0, .int .i64 0, .int .i64 20]) = .returned (.tuple #[.int .i64 (zagW (tk s).1).toInt, .int .i64 (tk s).2.1, .int .i64 (tk s).2.2]) := by
  rw [h, zag_zero]; rfl
theorem take_yes {s : List UInt8} {z : BitVec 64} {k : Nat} (h : tk s = (z, k + 1, 0)) :
    Ending.returned (.tuple #[.int .i64 (zagW z).toInt, .int .i64 ((k : Int) + 1), .int .i64 0]) = .returned (.tuple #[.int .i64 (zagW (tk s).1).toInt, .int .i64 (tk s).2.1, .int .i64 (tk s).2.2]) := by
  rw [h]; rfl

set_option maxRecDepth 4000 in
set_option maxHeartbeats 1000000 in
theorem take_any (s : ByteArray) (hs : s.size ≤ maxLen) (w : World) :
    Calls Try.prog 33 #[.string s] w fun e w' => e = .returned (.tuple #[.int .i64 (zagW (tk s.data.toList).1).toInt, .int .i64 (tk s.data.toList).2.1, .int .i64 (tk s.data.toList).2.2]) ∧ w' = w := by
  unfold maxLen at hs
  obtain ⟨m, hm1, hm2, hm3⟩ : ∃ m : Nat, m ≤ 10 ∧ m ≤ s.size ∧ ((10 : Int) ≤ m ∨ (s.size : Int) ≤ m) := ⟨min 10 s.size, by omega, by omega, by omega⟩
  by_cases hlt : (10 : Int) < (s.size : Int)
  case' pos => have hm4 : (10 : Int) ≤ m := by omega
  case' neg => have hm4 : (s.size : Int) ≤ m := by omega
  all_goals
    clear hm3
    go_enter Try.func33, Try.ntmps33
    go_wp2
    go_loopg [5, 14] m (fun g s5 s14 wx => ∃ k : Nat, k + g = m ∧ s14 = .int .i64 k ∧ s5 = .int .u64 (gotW s.data.toList k).toNat ∧ (∀ i, i < k → 128 ≤ (s.data.toList.getD i 0).toNat) ∧ wx = w)
    case atStart => exact ⟨0, by omega, rfl, rfl, fun i hi => by omega, rfl⟩
    case round =>
      obtain ⟨k, hkg, rfl, rfl, hall, rfl⟩ := hrel
      have HA : Hid (∀ i, i < k → 128 ≤ (s.data.toList.getD i 0).toNat) := hall
      clear hall
      by_cases hk : k < m
      · have hks : k < s.size := by omega
        have hkI : (k : Int) < 10 := by omega
        have hksI : (k : Int) < (s.size : Int) := by omega
        obtain ⟨g, sh, hat⟩ := at_some s k hks (by omega)
        have r1 := hat.group
        have r2 := u8_and s[k]
        have r3 := hat.lt
        have r4 := hat.shifted
        have r5 := hat.word
        have r6 := Wd.i64_toNat (gotW s.data.toList (k + 1))
        by_cases hc : 128 ≤ s[k].toNat
        · go_wp2
          go_roundg (m - (k + 1))
          case measure => omega
          case rel => exact ⟨k + 1, by omega, by go_num, rfl, hat.next hc HA.out, rfl⟩
        · have hc' : s[k].toNat < 128 := by omega
          by_cases hw : (sh.toNat : Int) / 2 ^ (k * 7) = (g : Int)
          · by_cases hk0 : 0 < k
            · by_cases hg0 : g = 0
              · have HT : Hid (tk s.data.toList = (0#64, 0, 20)) := hat.no (by omega) hc' HA.out (.inl ⟨hk0, hg0⟩)
                have hg1 : ((g : Int) == 0) = true := by simpa using hg0
                clear hg0
                go_wp2
                go_ret3
                exact ⟨take_no HT.out, rfl⟩
              · have HT : Hid (tk s.data.toList = (gotW s.data.toList (k + 1), k + 1, 0)) := hat.stop (by omega) hc' HA.out (.inr hg0) hw
                have hg1 : ((g : Int) == 0) = false := by simpa using hg0
                clear hg0
                go_wp2_with (go_at_call 40; refine (zag_any _ _).mono ?_; rintro e w1 ⟨rfl, rfl⟩)
                go_ret3
                exact ⟨take_yes HT.out, rfl⟩
            · have HT : Hid (tk s.data.toList = (gotW s.data.toList (k + 1), k + 1, 0)) := hat.stop (by omega) hc' HA.out (.inl (by omega)) hw
              go_wp2_with (go_at_call 40; refine (zag_any _ _).mono ?_; rintro e w1 ⟨rfl, rfl⟩)
              go_ret3
              exact ⟨take_yes HT.out, rfl⟩
          · have HT : Hid (tk s.data.toList = (0#64, 0, 20)) := hat.no (by omega) hc' HA.out (.inr hw)
            obtain ⟨q, hq⟩ : ∃ q : Int, (sh.toNat : Int) / 2 ^ (k * 7) = q := ⟨_, rfl⟩
            rw [hq] at hw
            have hw2 : (q == (g : Int)) = false := by simpa using hw
            clear hw hat
            go_wp2
            all_goals
              go_ret3
              exact ⟨take_no HT.out, rfl⟩
      · have HT : Hid (tk s.data.toList = (0#64, 0, 20)) := tk_long HA.out (k := k) (by have := s.size_data; simp; omega)
        first
          | (have hx : ¬ (k : Int) < 10 := by omega)
          | (have hx : ¬ (k : Int) < (s.size : Int) := by omega)
        go_wp2
        go_ret3
        exact ⟨take_no HT.out, rfl⟩
end Go.Proofs.Ytlohljefhcidkaa
