/-
  The contracts of package plain's PutInts and of package peristyleref07's.
-/
import Derived.Test.YtmhbpijefohopaaPNum
namespace Go.Proofs.Ytmhbpijefohopaa
open Go.RowKit

theorem put_byte (r : BitVec 64) : (r.toNat : Int) % 256 = ((UInt8.ofNat r.toNat).toNat : Int) := by
  simp
theorem put_next (r : BitVec 64) : (r.toNat : Int) / 256 = ((r >>> 8).toNat : Int) := by
  have := Wd.u64_shr r 8
  simpa using this
theorem shr8 (r : BitVec 64) : (r >>> 8).toNat = r.toNat / 256 := by
  rw [BitVec.toNat_ushiftRight, Nat.shiftRight_eq_div_pow]

set_option maxRecDepth 4000 in
set_option maxHeartbeats 1000000 in
theorem putInts_row (b off c : Nat) (zs : List (BitVec 64)) (w : World) (hb : b < w.heap.size)
    (hz : ∀ i, i < zs.length → w.cell? ⟨b, off + i, none⟩ = some (.int .i64 (zs.getD i 0#64).toInt)) (hl : zs.length ≤ 1000) :
    Calls Try.prog 7 #[.slice (some ⟨b, off, none⟩) zs.length c] w fun e w' => e = .returned (.string (Pl.txt (Pl.encI zs))) ∧ Below w.heap.size w w' := by
  obtain ⟨m, hm⟩ : ∃ m, m = zs.length := ⟨_, rfl⟩
  rw [← hm]
  have hm9 : (m : Int) ≤ 1000 := by omega
  have HM : Hid (m = zs.length) := hm
  have HC : Hid ((m : Int) * 8 = ((m * 8 : Nat) : Int)) := by show _ = _; omega
  have hC : m * 8 ≤ 1000000 := by omega
  clear hm
  go_enter Try.func7, Try.ntmps7
  go_wp2_with (at_make; refine make_bytes rfl _ _ rfl rfl rfl HC.out hC (Nat.le_refl _) ?_; intro v2 w2 hown2 hb2)
  go_loopg [3, 13] m (fun g s3 s13 wx => ∃ k : Nat, k + g = m ∧ s13 = .int .i64 k ∧ OwnsB wx w.heap.size s3 (Pl.encI (zs.take k)) ∧ Below w.heap.size w wx)
  case atStart => exact ⟨0, by omega, rfl, by simpa [Pl.encI] using hown2, hb2⟩
  case round =>
    obtain ⟨k, hkg, rfl, hown1, hb1⟩ := hrel
    clear hown2 hb2
    by_cases hk : k < m
    · have hkI : (k : Int) < (m : Int) := by omega
      have hcell := (hb1.cell (p := ⟨b, off + k, none⟩) hb).trans (hz k (by rw [← HM.out]; exact hk))
      have hl2 : (Pl.encI (zs.take k)).length ≤ 8 * k := by rw [Pl.encI_len, List.length_take]; omega
      have hsn := Pl.encI_snoc zs k (by rw [← HM.out]; exact hk)
      obtain ⟨L, hL⟩ : ∃ L, L = Pl.encI (zs.take k) := ⟨_, rfl⟩
      rw [← hL] at hown1 hl2 hsn
      obtain ⟨x, hx⟩ : ∃ x, x = zs.getD k 0#64 := ⟨_, rfl⟩
      rw [← hx] at hcell hsn
      have HX : Hid (Pl.encI (zs.take (k + 1)) = L ++ Pl.oct x) := hsn
      have r1 : IntKind.u64.wrap x.toInt = (x.toNat : Int) := Wd.u64_toInt _
      clear hsn hL hx
      go_wp2
      go_loopg [3, 6, 19] 8 (fun g s3 s6 s19 wx => ∃ (j : Nat) (done : List UInt8) (r : BitVec 64), j + g = 8 ∧ s19 = .int .i64 j ∧ s6 = .int .u64 r.toNat ∧ done.length = j ∧ Pl.oct x = done ++ Pl.oc g r.toNat ∧ OwnsB wx w.heap.size s3 (L ++ done) ∧ Below w.heap.size w wx)
      case atStart => exact ⟨0, [], x, by omega, rfl, rfl, rfl, rfl, by simpa using hown1, hb1⟩
      case round =>
        obtain ⟨j, done, r, hjg, rfl, rfl, hdl, henc, hown2, hb2⟩ := hrel
        have HE : Hid (Pl.oct x = done ++ Pl.oc gk r.toNat) := henc
        have HD : Hid (done.length = j) := hdl
        have hdl2 : (L ++ done).length + 1 ≤ 1000000 := by rw [List.length_append]; omega
        have hsz := hb2.size
        clear henc hdl hown1 hb1
        cases gk with
        | zero =>
          have hjI : ¬ (j : Int) < 8 := by omega
          go_wp2
          go_roundg (m - (k + 1))
          case measure => omega
          case rel =>
            refine ⟨k + 1, by omega, by go_num, ?_, hb2⟩
            have e := HE.out
            rw [Pl.oc, List.append_nil] at e
            rw [HX.out, e]
            exact hown2
        | succ g =>
          have hjI : (j : Int) < 8 := by omega
          have r2 : Hid ((r.toNat : Int) % 256 = ((UInt8.ofNat r.toNat).toNat : Int)) := put_byte r
          have r3 := put_next r
          go_wp2_with (at_builtin; (refine append_u8 rfl (.tmp 21) (.tmp 24) rfl rfl rfl r2.out hown2 hsz hdl2 ?_; intro v3 w3 hown3 hb3))
          go_roundg g
          case measure => omega
          case rel =>
            refine ⟨j + 1, done ++ [UInt8.ofNat r.toNat], r >>> 8, by omega, by go_num, ?_, by rw [List.length_append, HD.out]; rfl, ?_, by simpa using hown3, hb2.trans hb3⟩
            · first | rfl | go_num
            · rw [HE.out, Pl.oc, shr8]; simp
    · have hkI : ¬ (k : Int) < (m : Int) := by omega
      have e : zs.take k = zs := List.take_of_length_le (by rw [← HM.out]; omega)
      rw [e] at hown1
      have hcv := convert_all hown1
      clear e
      go_wp2
      go_ret
      exact ⟨rfl, hb1⟩
set_option maxHeartbeats 400000 in
theorem putInts_none (a : Option Addr) (c : Nat) (w : World) :
    Calls Try.prog 7 #[.slice a 0 c] w fun e w' => e = .returned (.string (Pl.txt (Pl.encI []))) ∧ Below w.heap.size w w' := by
  go_enter Try.func7, Try.ntmps7
  go_wp2_with (at_make; refine make_bytes (n := 0) rfl _ _ rfl rfl rfl rfl (Nat.zero_le _) (Nat.le_refl _) ?_; intro v2 w2 hown2 hb2)
  go_loopg [3, 13] 0 (fun g s3 s13 wx => g = 0 ∧ s3 = v2 ∧ s13 = .int .i64 0 ∧ wx = w2)
  case atStart => exact ⟨rfl, rfl, rfl, rfl⟩
  case round =>
    obtain ⟨hg, rfl, rfl, rfl⟩ := hrel
    have hcv := convert_all hown2
    clear hg
    go_wp2
    go_ret
    exact ⟨rfl, hb2⟩
theorem putInts_any (v : Value) (l : List (BitVec 64)) (w : World) (hl : l.length ≤ 1000) (hr : ReadsI w v l) :
    Calls Try.prog 7 #[v] w fun e w' => e = .returned (.string (Pl.txt (Pl.encI l))) ∧ Below w.heap.size w w' := by
  rcases hr with ⟨rfl, a, c, rfl⟩ | ⟨b, off, c, rfl, _, hb, hc⟩
  · exact putInts_none a c w
  · exact putInts_row b off c l w hb hc hl
end Go.Proofs.Ytmhbpijefohopaa
