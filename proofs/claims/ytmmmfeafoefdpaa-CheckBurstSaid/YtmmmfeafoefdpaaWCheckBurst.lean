/-
  The walk of law 3's CheckBurst: sealed bytes of which some are turned within 32 bits in a row are sealed no more.
-/
import Derived.Test.YtmmmfeafoefdpaaCAwake
import Derived.Test.YtmmmfeafoefdpaaCTurn
namespace Go.Proofs.Ytmmmfeafoefdpaa
open Go.RowKit

/-- '[]byte(Seal(s))', with the call's own block. -/
theorem and_low16 (x : BitVec 64) : ∃ u : Nat, bits .and .i64 x.toInt 65535 = (u : Int) ∧ u < 65536 := by
  refine ⟨(x &&& 65535#64).toNat, ?_, ?_⟩
  · have e : (65535 : Int) = (65535#64).toInt := by decide
    have h : (x &&& 65535#64).toNat ≤ 65535 := by rw [BitVec.toNat_and]; exact Nat.and_le_right
    rw [e, Wd.i64_and, BitVec.toInt_eq_toNat_bmod, Int.bmod_def]
    omega
  · have h : (x &&& 65535#64).toNat ≤ 65535 := by rw [BitVec.toNat_and]; exact Nat.and_le_right
    omega
theorem and_seven (K : Nat) (hK : K < 1000000) : bits .and .i64 (K : Int) 7 = ((K % 8 : Nat) : Int) := by
  have e : (7 : Int) = ((7#32).toNat : Int) := by decide
  have e2 : (K : Int) = ((BitVec.ofNat 32 K).toNat : Int) := by rw [BitVec.toNat_ofNat]; omega
  rw [e2, e, Wt.i64_and, BitVec.toNat_and]
  have := Nat.and_two_pow_sub_one_eq_mod (BitVec.ofNat 32 K).toNat 3
  have e3 : (7#32).toNat = 2 ^ 3 - 1 := by decide
  rw [e3, this, BitVec.toNat_ofNat]
  omega

/-- What is asked of the walk's end: the bytes are sealed if and only if none is turned. -/
theorem burst_end (s : ByteArray) (l : List UInt8) (f : Nat → Bool) (a m : Nat) (hl : l.length = s.size + 4) (hm : m ≤ 32) (hm2 : a + m ≤ 8 * (s.size + 4))
    (h : ∀ k, Crc.bitAt l k = (Crc.bitAt (sealL s.data.toList) k ^^ win f a m k)) : (∃ t, l = sealL t) ↔ anyTo f m = false := by
  rw [sealed_cut (e := s.size) hl.symm, anyTo_false]
  have hd : s.data.toList.length = s.size := by simp
  have := Crc.sealed_burst s.data.toList (Crc.four (Crc.sum s.data.toList)) (l.take s.size) (l.drop s.size) rfl (by rw [List.length_take, hd]; omega) (by rw [List.length_drop]; omega) (win f a m) a m (8 * (s.size + 4) - (a + m)) hm (by rw [hd]; omega)
    (fun i hi => win_low f a m i hi) (fun i hi => win_high f a m i hi) (fun k _ => by rw [List.take_append_drop]; exact h k)
  rw [this]
  constructor
  · intro h i hi; rw [← win_in f a m i hi]; exact h i hi
  · intro h i hi; rw [win_in f a m i hi]; exact h i hi

set_option maxRecDepth 4000 in
set_option maxHeartbeats 2000000 in
theorem walkCheckBurst (s : ByteArray) (_ : s.size ≤ maxLen) (a0 : Int) (w0 : (Lit.int .i64 a0).wf = true) (a1 : Int) (w1 : (Lit.int .i64 a1).wf = true) (w : World) :
    Calls Try.prog 6 #[.string s, .int .i64 a0, .int .i64 a1] w fun e w' => e = .returned (.bool true) ∧ Below w.heap.size w w' := by
  obtain ⟨x, rfl⟩ := Wd.word_of a0 w0
  obtain ⟨y, rfl⟩ := Wd.word_of a1 w1
  by_cases hlen : (1024 : Int) < (s.size : Int)
  · go_enter Try.func6, Try.ntmps6
    go_wp2_with (go_at_call 8; refine (awake_any _).mono ?_; rintro e w2 ⟨rfl, hb2⟩)
    go_ret
    exact ⟨rfl, hb2⟩
  · have hs : s.size ≤ 1000000 := by omega
    have c := seal_any s hs
    obtain ⟨S, hS⟩ : ∃ S, S = sealS s := ⟨_, rfl⟩
    rw [← hS] at c
    have hsz : (S.size : Int) = (s.size : Int) + 4 := by rw [hS, sealS_size]; omega
    have HS : Hid (S = sealS s) := hS
    obtain ⟨u, ru, hu⟩ := and_low16 x
    obtain ⟨a, ha⟩ : ∃ a, a = u % (8 * (s.size + 4)) := ⟨_, rfl⟩
    have ra : (u : Int) % (8 * ((s.size : Int) + 4)) = (a : Int) := by rw [ha]; simp
    have hal : a < 8 * (s.size + 4) := by rw [ha]; exact Nat.mod_lt _ (by omega)
    obtain ⟨M, hM, hM2, hM3⟩ : ∃ M, M ≤ 32 ∧ a + M ≤ 8 * (s.size + 4) ∧ (32 ≤ M ∨ 8 * (s.size + 4) ≤ a + M) := ⟨min 32 (8 * (s.size + 4) - a), by omega, by omega, by omega⟩
    obtain ⟨f, hf⟩ : ∃ f, f = bt y := ⟨_, rfl⟩
    have HF : Hid (f = bt y) := hf
    have hsl : S.data.toList = sealL s.data.toList := by rw [hS, sealS_list]
    clear hS ha hf
    go_enter Try.func6, Try.ntmps6
    go_wp2_with (first
      | (go_at_call 14; refine (c _).mono ?_; rintro e w2 ⟨rfl, hb2⟩; obtain ⟨cap, w3, hcv, hrow, hb3⟩ := bytes_of S w2))
    have hbase := hb2.size
    go_loopg [9, 10] M (fun g s9 s10 wx => ∃ (i : Nat) (l : List UInt8), i + g = M ∧ s10 = .int .i64 i ∧ s9 = .bool (anyTo f i) ∧ l.length = s.size + 4 ∧ (∀ k, Crc.bitAt l k = (Crc.bitAt (sealL s.data.toList) k ^^ win f a i k)) ∧ RowB wx w2.heap.size l ∧ Below w.heap.size w wx)
    case atStart =>
      refine ⟨0, _, by omega, rfl, rfl, ?_, ?_, hrow, hb2.trans (hb3.mono hbase)⟩
      · rw [hsl, sealL_len]; simp
      · intro k; rw [win_zero, hsl]; simp
    case round =>
      obtain ⟨i, l, hig, rfl, rfl, hl, hbits, hrow1, hb1⟩ := hrel
      have HB : Hid (∀ k, Crc.bitAt l k = (Crc.bitAt (sealL s.data.toList) k ^^ win f a i k)) := hbits
      have HL : Hid (l.length = s.size + 4) := hl
      clear hrow hbits hcv hsl
      by_cases hi : i < M
      · have hiI : (i : Int) < 32 := by omega
        obtain ⟨K, hK⟩ : ∃ K, K = a + i := ⟨_, rfl⟩
        have rK : (a : Int) + (i : Int) = (K : Int) := by omega
        have hK8 : (K : Int) < 8 * ((s.size : Int) + 4) := by omega
        have hKl : K < 1000000 := by omega
        have rb : (bits .and .i64 (y.toInt / 2 ^ i) 1 == 1) = f i := by rw [HF.out]; exact Wd.bit_at y i (by omega)
        obtain ⟨p, hp⟩ : ∃ p, p = K / 8 := ⟨_, rfl⟩
        have rp : (K : Int) / 8 = (p : Int) := by omega
        have hpS : (p : Int) < (s.size : Int) + 4 := by omega
        have hpl : p < l.length := by omega
        obtain ⟨q, hq⟩ : ∃ q, q = K % 8 := ⟨_, rfl⟩
        have rq : bits .and .i64 (K : Int) 7 = (q : Int) := by rw [hq]; exact and_seven K hKl
        have hq8 : (q : Int) < 8 := by omega
        obtain ⟨z, rz, hz⟩ := one_bit q (by omega)
        have rx := u8_xor (l.getD p 0) z
        have hcell := hrow1.cell p hpl
        have hfr := hrow1.frozen p hpl
        have hset := hrow1.set p hpl (l.getD p 0 ^^^ z)
        have HT : Hid (f i = true → ∀ k, Crc.bitAt (l.set p (l.getD p 0 ^^^ z)) k = (Crc.bitAt (sealL s.data.toList) k ^^ win f a (i + 1) k)) := by
          intro hfi
          have := turn_one l (sealL s.data.toList) f a i HB.out (by omega) hfi z (by rw [← hK, ← hq]; exact hz)
          rw [← hK, ← hp] at this
          exact this
        obtain ⟨c0, hc0⟩ : ∃ c0, c0 = l.getD p 0 := ⟨_, rfl⟩
        rw [← hc0] at rx hcell hset HT
        obtain ⟨c1, hc1⟩ : ∃ c1, c1 = c0 ^^^ z := ⟨_, rfl⟩
        rw [← hc1] at rx hset HT
        clear hz hq hp hK hc0 hc1
        cases hfi : f i
        · rw [hfi] at rb
          have HN : Hid (∀ k, Crc.bitAt l k = (Crc.bitAt (sealL s.data.toList) k ^^ win f a (i + 1) k)) := turn_none _ _ _ _ _ HB.out hfi
          have HA : Hid (anyTo f i = anyTo f (i + 1)) := by show _ = _; rw [anyTo, hfi, Bool.or_false]
          go_wp2
          go_roundg (M - (i + 1))
          case measure => omega
          case rel => exact ⟨i + 1, l, by omega, by go_num, by rw [HA.out], HL.out, HN.out, hrow1, hb1⟩
        · rw [hfi] at rb
          have HA : Hid (anyTo f (i + 1) = true) := by show _ = _; rw [anyTo, hfi, Bool.or_true]
          go_wp2
          go_region
          all_goals
            go_wp2
            go_roundg (M - (i + 1))
            case measure => omega
            case rel =>
              refine ⟨i + 1, l.set p c1, by omega, by go_num, by rw [HA.out], ?_, HT.out hfi, ?_, ?_⟩
              · rw [List.length_set]; exact HL.out
              · first | exact hset | exact hset.drew
              · first | exact (hb1.setCell (by simp; omega) _) | exact (hb1.setCell (by simp; omega) _).drew
      · obtain rfl : i = M := by omega
        have hT := burst_end s l f a i HL.out hM hM2 HB.out
        have hSl : l.length = S.size := by omega
        have ht := hrow1.text cap
        rw [hSl] at ht
        have hls : (strB l).size ≤ maxLen := by rw [strB_size]; unfold maxLen; omega
        have hacc := hb1
        cases hA : anyTo f i
        case' true =>
          have co := open_no (strB l) hls (by rw [strB_list, hT, hA]; simp)
        case' false =>
          obtain ⟨t, htt⟩ := hT.2 hA
          have co := open_yes (strB l) hls t (by rw [strB_list]; exact htt)
          obtain ⟨T2, hT2⟩ : ∃ T2, T2 = strB t := ⟨_, rfl⟩
          rw [← hT2] at co
          clear htt hT2
        all_goals
          obtain ⟨U, hU⟩ : ∃ U, U = strB l := ⟨_, rfl⟩
          rw [← hU] at co ht
          clear hU hls hT hrow1 hSl hA
          by_cases h32 : (i : Int) < 32
          case' pos =>
            have hx : ¬ (a : Int) + (i : Int) < 8 * ((s.size : Int) + 4) := by omega
          all_goals
            go_wp2_with (first
              | (go_at_call 13; refine (co _).mono ?_; rintro e w4 ⟨rfl, hb4⟩; replace hacc := hacc.trans (hb4.mono hacc.size); clear hb4)
              | (go_at_call 8; refine (awake_any _).mono ?_; rintro e w4 ⟨rfl, hb4⟩; replace hacc := hacc.trans (hb4.mono hacc.size); clear hb4))
            go_ret
            exact ⟨rfl, hacc⟩
end Go.Proofs.Ytmmmfeafoefdpaa
