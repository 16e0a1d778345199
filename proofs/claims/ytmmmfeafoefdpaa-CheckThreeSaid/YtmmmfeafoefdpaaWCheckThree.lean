/-
  The walk of law 3's CheckThree: the sums of three texts of one length, turned into one another.
-/
import Derived.Test.YtmmmfeafoefdpaaCAwake
import Derived.Test.YtmmmfeafoefdpaaCTurn
namespace Go.Proofs.Ytmmmfeafoefdpaa
open Go.RowKit

theorem bitAt_take (l : List UInt8) (n k : Nat) (h : k < 8 * n) : Crc.bitAt (l.take n) k = Crc.bitAt l k := by
  unfold Crc.bitAt
  rw [List.getD_eq_getElem?_getD, List.getD_eq_getElem?_getD, List.getElem?_take_of_lt (by omega)]
/-- What the bytes are at the end. -/
theorem three_end (A B C l : List UInt8) (n : Nat) (hl : l.length = n) (hA : n ≤ A.length) (hB : n ≤ B.length) (hC : n ≤ C.length) (h : ∀ j, j < n → l.getD j 0 = A.getD j 0 ^^^ B.getD j 0 ^^^ C.getD j 0) :
    Crc.sum l = Crc.sum (A.take n) ^^^ Crc.sum (B.take n) ^^^ Crc.sum (C.take n) := by
  apply Crc.sum_three
  · rw [List.length_take]; omega
  · rw [List.length_take]; omega
  · rw [List.length_take]; omega
  · intro k hk
    rw [hl] at hk
    rw [bitAt_take _ _ _ hk, bitAt_take _ _ _ hk, bitAt_take _ _ _ hk]
    unfold Crc.bitAt
    rw [h _ (by omega), xor_bit, xor_bit, Bool.xor_assoc]
theorem getD_byte (s : ByteArray) (k : Nat) (h : k < s.size) : s.data.toList.getD k 0 = s[k] := getD_at s k h

set_option maxRecDepth 4000 in
set_option maxHeartbeats 2000000 in
theorem walkCheckThree (a : ByteArray) (_ : a.size ≤ maxLen) (b : ByteArray) (_ : b.size ≤ maxLen) (c : ByteArray) (_ : c.size ≤ maxLen) (w : World) :
    Calls Try.prog 7 #[.string a, .string b, .string c] w fun e w' => e = .returned (.bool true) ∧ Below w.heap.size w w' := by
  obtain ⟨n, hn⟩ : ∃ n : Nat, n = min (min a.size b.size) c.size := ⟨_, rfl⟩
  obtain ⟨m, hm⟩ : ∃ m : Nat, m = min a.size b.size := ⟨_, rfl⟩
  have r1 : (if b.size < a.size then (b.size : Int) else (a.size : Int)) = (m : Int) := by split <;> omega
  have r2 : (if c.size < m then (c.size : Int) else (m : Int)) = (n : Int) := by split <;> omega
  have r3 : (if (b.size : Int) < (a.size : Int) then (b.size : Int) else (a.size : Int)) = (m : Int) := by split <;> omega
  have r4 : (if (c.size : Int) < (m : Int) then (c.size : Int) else (m : Int)) = (n : Int) := by split <;> omega
  have hna : n ≤ a.size := by omega
  have hnb : n ≤ b.size := by omega
  have hnc : n ≤ c.size := by omega
  clear hm hn
  by_cases hlen : (512 : Int) < (n : Int)
  · go_enter Try.func7, Try.ntmps7
    go_wp2_with (go_at_call 8; refine (awake_any _).mono ?_; rintro e w2 ⟨rfl, hb2⟩)
    go_ret
    exact ⟨rfl, hb2⟩
  · have hn9 : n ≤ 1000000 := by omega
    go_enter Try.func7, Try.ntmps7
    go_wp2_with (first
      | (at_make; refine make_u8 rfl _ _ rfl rfl rfl rfl hn9 ?_; intro w2 hrow hb2))
    go_loopg [9] n (fun g s9 wx => ∃ (i : Nat) (l : List UInt8), i + g = n ∧ s9 = .int .i64 i ∧ l.length = n ∧ (∀ j, j < i → l.getD j 0 = a.data.toList.getD j 0 ^^^ b.data.toList.getD j 0 ^^^ c.data.toList.getD j 0) ∧ RowB wx w.heap.size l ∧ Below w.heap.size w wx)
    case atStart => exact ⟨0, _, by omega, rfl, by simp, fun j hj => by omega, hrow, hb2⟩
    case round =>
      obtain ⟨i, l, hig, rfl, hl, hall, hrow1, hb1⟩ := hrel
      have HL : Hid (l.length = n) := hl
      have HA : Hid (∀ j, j < i → l.getD j 0 = a.data.toList.getD j 0 ^^^ b.data.toList.getD j 0 ^^^ c.data.toList.getD j 0) := hall
      clear hrow hall hb2
      by_cases hi : i < n
      · have hiI : (i : Int) < (n : Int) := by omega
        have hia : i < a.size := by omega
        have hib : i < b.size := by omega
        have hic : i < c.size := by omega
        have hiaI : (i : Int) < (a.size : Int) := by omega
        have hibI : (i : Int) < (b.size : Int) := by omega
        have hicI : (i : Int) < (c.size : Int) := by omega
        have hil : i < l.length := by omega
        have hcell := hrow1.cell i hil
        have hfr := hrow1.frozen i hil
        have rx := u8_xor a[i] b[i]
        obtain ⟨x1, hx1⟩ : ∃ x1, x1 = a[i] ^^^ b[i] := ⟨_, rfl⟩
        rw [← hx1] at rx
        have ry := u8_xor x1 c[i]
        obtain ⟨x2, hx2⟩ : ∃ x2, x2 = x1 ^^^ c[i] := ⟨_, rfl⟩
        rw [← hx2] at ry
        have hset := hrow1.set i hil x2
        have HX : Hid (x2 = a.data.toList.getD i 0 ^^^ b.data.toList.getD i 0 ^^^ c.data.toList.getD i 0) := by
          show _ = _
          rw [getD_byte a i hia, getD_byte b i hib, getD_byte c i hic, ← hx1, ← hx2]
        clear hx1 hx2
        go_wp2
        go_region
        all_goals
          go_wp2
          go_roundg (n - (i + 1))
          case measure => omega
          case rel =>
            refine ⟨i + 1, l.set i x2, by omega, by go_num, ?_, ?_, ?_, ?_⟩
            · rw [List.length_set]; exact HL.out
            · intro j hj
              by_cases e : j = i
              · rw [e, ← HX.out]; simp [hil]
              · rw [← HA.out j (by omega)]
                have e' : ¬ i = j := fun h => e h.symm
                simp [e']
            · first | exact hset | exact hset.drew
            · first | exact (hb1.setCell (by simp) _) | exact (hb1.setCell (by simp) _).drew
      · obtain rfl : i = n := by omega
        have hA := three_end a.data.toList b.data.toList c.data.toList l i HL.out (by simpa using hna) (by simpa using hnb) (by simpa using hnc) HA.out
        have hle : ∀ t : ByteArray, (t.extract 0 i).size ≤ maxLen := fun t => by rw [ByteArray.size_extract]; unfold maxLen; omega
        have ca := sum_any (a.extract 0 i) (hle a)
        have cb := sum_any (b.extract 0 i) (hle b)
        have cc := sum_any (c.extract 0 i) (hle c)
        have cl := sum_any (strB l) (by rw [strB_size]; unfold maxLen; omega)
        rw [extract_head] at ca cb cc
        rw [strB_list] at cl
        have ht : ∀ k : Above wr, (convert 31 9 (.slice (some ⟨w.heap.size, 0, none⟩) i i)).run Try.prog k.it = .ok (.string (strB l)) k.it := fun k => by
          have := (hrow1.below k.is hrow1.lt).text i
          rw [HL.out] at this
          exact this
        obtain ⟨U, hU⟩ : ∃ U, U = strB l := ⟨_, rfl⟩
        rw [← hU] at cl ht
        rw [hA] at cl
        obtain ⟨na, hna'⟩ : ∃ x, x = Crc.sum (a.data.toList.take i) := ⟨_, rfl⟩
        obtain ⟨nb, hnb'⟩ : ∃ x, x = Crc.sum (b.data.toList.take i) := ⟨_, rfl⟩
        obtain ⟨nc, hnc'⟩ : ∃ x, x = Crc.sum (c.data.toList.take i) := ⟨_, rfl⟩
        rw [← hna'] at ca cl
        rw [← hnb'] at cb cl
        rw [← hnc'] at cc cl
        have rab := Wt.i64_xor na nb
        obtain ⟨nab, hnab⟩ : ∃ x, x = na ^^^ nb := ⟨_, rfl⟩
        rw [← hnab] at rab cl
        have rx := Wt.i64_xor nab nc
        obtain ⟨nx, hnx⟩ : ∃ x, x = nab ^^^ nc := ⟨_, rfl⟩
        rw [← hnx] at rx cl
        clear hU hA hna' hnb' hnc' hnab hnx hle hrow1 hig
        have hba : 0 ≤ (i : Int) ∧ (i : Int) ≤ (a.size : Int) := by omega
        have hbb : 0 ≤ (i : Int) ∧ (i : Int) ≤ (b.size : Int) := by omega
        have hbc : 0 ≤ (i : Int) ∧ (i : Int) ≤ (c.size : Int) := by omega
        go_wp2_with fail
        refine wp_region_above (by kernel_rfl) (by kernel_rfl) ?_
        intro hne
        repeat (go_big_quiet_step (first
          | (go_at_call 9; first | (with_reducible exact above_same (cl _)) | (with_reducible exact above_same (ca _)) | (with_reducible exact above_same (cb _)) | (with_reducible exact above_same (cc _)))
          | (go_at_call 8; exact above_of (awake_any _))))
        refine wpQuiet_nil ?_
        rintro _ ⟨kq, rfl⟩
        have hbq := kq.is
        go_wp2
        go_ret
        exact ⟨rfl, hb1.trans (hbq.mono hb1.size)⟩
end Go.Proofs.Ytmmmfeafoefdpaa
