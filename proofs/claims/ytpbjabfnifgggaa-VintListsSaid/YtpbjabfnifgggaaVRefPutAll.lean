/-
  The contract of package peristyleref02's PutAll.
-/
import Derived.Test.YtpbjabfnifgggaaVPutAll
namespace Go.Proofs.Ytpbjabfnifgggaa
open Go.RowKit Leb

theorem str_append (a b : List UInt8) : str a ++ str b = str (a ++ b) := by
  apply ByteArray.ext
  simp [str, ByteArray.data_append]
theorem refPut_len (n : Nat) (hn : n ≤ 1000) (w : World) :
    Calls Try.prog 10 #[.int .i64 (n : Int)] w fun e w' => e = .returned (.string (str (enc1 (BitVec.ofNat 64 n)))) ∧ Below w.heap.size w w' := by
  have := refPut_any (BitVec.ofNat 64 n) w
  rw [Wd.toInt_of_small _ (by omega)] at this
  exact this

set_option maxRecDepth 4000 in
set_option maxHeartbeats 1000000 in
theorem refPutAll_any (v : Value) (l : List (BitVec 64)) (w : World) (hl : l.length ≤ 1000) (hr : ReadsI w v l) :
    Calls Try.prog 15 #[v] w fun e w' => e = .returned (.string (str (encAll l))) ∧ Below w.heap.size w w' := by
  rcases hr with ⟨rfl, a, c, rfl⟩ | ⟨b, off, c, rfl, hne, hbw, hc⟩
  · have h0 := refPut_len 0 (by omega)
    go_enter Try.func15, Try.ntmps15
    go_wp2_with fail
    refine (h0 _).mono ?_
    rintro e w1 ⟨rfl, hb⟩
    clear h0
    go_wp2
    go_loopg [3, 4] 0 (fun g s3 s4 wx => g = 0 ∧ s3 = .string (str (enc1 (BitVec.ofNat 64 0))) ∧ s4 = .int .i64 0 ∧ wx = w1)
    case atStart => exact ⟨rfl, rfl, rfl, rfl⟩
    case round =>
      obtain ⟨hg, rfl, rfl, rfl⟩ := hrel
      clear hg
      go_wp2
      go_ret
      refine ⟨?_, hb⟩
      simp [encAll, encs]
  · obtain ⟨m, hm⟩ : ∃ m, m = l.length := ⟨_, rfl⟩
    have HM : Hid (m = l.length) := hm
    have HL : Hid (encAll l = enc1 (BitVec.ofNat 64 m) ++ encs l) := by show _ = _; rw [encAll, hm]
    rw [← hm] at hl ⊢
    have hmI : (m : Int) ≤ 1000 := by omega
    have h0 := refPut_len m hl
    have hcs : ∀ k, k < m → ∀ wx : World, Below w.heap.size w wx → wx.cell? ⟨b, off + k, none⟩ = some (.int .i64 (l.getD k 0#64).toInt) := fun k hk wx hb => (hb.cell (p := ⟨b, off + k, none⟩) hbw).trans (hc k (by omega))
    have HC : Hid (∀ k, k < m → ∀ wx : World, Below w.heap.size w wx → wx.cell? ⟨b, off + k, none⟩ = some (.int .i64 (l.getD k 0#64).toInt)) := hcs
    clear hcs hc hm
    go_enter Try.func15, Try.ntmps15
    go_wp2_with fail
    refine (h0 _).mono ?_
    rintro e w1 ⟨rfl, hb⟩
    clear h0
    go_wp2
    go_loopg [3, 4] m (fun g s3 s4 wx => ∃ k : Nat, k + g = m ∧ s3 = .string (str (enc1 (BitVec.ofNat 64 m) ++ encs (l.take k))) ∧ s4 = .int .i64 k ∧ Below w.heap.size w wx)
    case atStart => exact ⟨0, by omega, by simp [encs], rfl, hb⟩
    case round =>
      obtain ⟨k, hkg, rfl, rfl, hb2⟩ := hrel
      clear hb
      by_cases hk : k < m
      · have hkI : (k : Int) < (m : Int) := by omega
        have e1 := HC.out k hk _ hb2
        obtain ⟨x, hx⟩ : ∃ x, x = l.getD k 0#64 := ⟨_, rfl⟩
        rw [← hx] at e1
        have hsn : enc1 (BitVec.ofNat 64 m) ++ encs (l.take (k + 1)) = (enc1 (BitVec.ofNat 64 m) ++ encs (l.take k)) ++ enc1 x := by
          rw [encs_snoc l k (by rw [← HM.out]; exact hk), ← hx, List.append_assoc]
        have HS : Hid (enc1 (BitVec.ofNat 64 m) ++ encs (l.take (k + 1)) = (enc1 (BitVec.ofNat 64 m) ++ encs (l.take k)) ++ enc1 x) := hsn
        have hs1 : (str (enc1 (BitVec.ofNat 64 m) ++ encs (l.take k))).size ≤ 20000 := by
          rw [str_size, List.length_append, enc1_len]
          have h1 := encs_len (l.take k)
          have h2 := (lenW_bd (zigW (BitVec.ofNat 64 m))).2
          rw [List.length_take] at h1
          omega
        have hs2 : (str (enc1 x)).size ≤ 10 := (lenW_bd (zigW x)).2
        obtain ⟨S, hS⟩ : ∃ S, S = str (enc1 (BitVec.ofNat 64 m) ++ encs (l.take k)) := ⟨_, rfl⟩
        obtain ⟨T, hT⟩ : ∃ T, T = str (enc1 x) := ⟨_, rfl⟩
        have cx : ∀ w, Calls Try.prog 10 #[.int .i64 x.toInt] w fun e w' => e = .returned (.string T) ∧ Below w.heap.size w w' := fun w => hT ▸ refPut_any x w
        rw [← hS] at hs1 ⊢
        rw [← hT] at hs2
        have HT : Hid (S ++ T = str (enc1 (BitVec.ofNat 64 m) ++ encs (l.take (k + 1)))) := by show _ = _; rw [hS, hT, str_append, hsn]
        clear hsn hx hS hT
        go_wp2_with (go_at_call 10; refine (cx _).mono ?_; rintro e w3 ⟨rfl, hb3⟩)
        go_roundg (m - (k + 1))
        case measure => omega
        case rel => exact ⟨k + 1, by omega, by rw [← HT.out], by go_num, hb2.trans (hb3.mono hb2.size)⟩
      · have hkI : ¬ (k : Int) < (m : Int) := by omega
        have e : l.take k = l := List.take_of_length_le (by rw [← HM.out]; omega)
        have HE : Hid (l.take k = l) := e
        clear e
        go_wp2
        go_ret
        refine ⟨?_, hb2⟩
        rw [HL.out]
        show Ending.returned (.string (str (enc1 (BitVec.ofNat 64 m) ++ encs (l.take k)))) = _
        rw [HE.out]
end Go.Proofs.Ytpbjabfnifgggaa
