/-
  The contracts of package vint's put and Put.
-/
import Derived.Test.YtlohljefhcidkaaVTake
import Derived.Test.YtlohljefhcidkaaRowy
import Derived.Lib.Strings
namespace Go.Proofs.Ytlohljefhcidkaa
open Go.RowKit Leb

/-- The bytes of a number, and of numbers one behind the other. -/
def enc1 (x : BitVec 64) : List UInt8 := leb (zigW x).toNat
def encs (zs : List (BitVec 64)) : List UInt8 := zs.flatMap enc1
theorem enc1_len (x : BitVec 64) : (enc1 x).length = lenW (zigW x) := rfl
theorem encs_len (zs : List (BitVec 64)) : (encs zs).length ≤ 10 * zs.length := by
  induction zs with
  | nil => simp [encs]
  | cons z r ih =>
    have h1 := (lenW_bd (zigW z)).2
    have h2 : (encs (z :: r)).length = (enc1 z).length + (encs r).length := by simp [encs]
    rw [h2, enc1_len, List.length_cons]; omega
theorem encs_snoc (zs : List (BitVec 64)) (k : Nat) (h : k < zs.length) : encs (zs.take (k + 1)) = encs (zs.take k) ++ enc1 (zs.getD k 0#64) := by
  rw [List.take_succ_eq_append_getElem h]
  simp only [encs, List.flatMap_append, List.flatMap_cons, List.flatMap_nil, List.append_nil]
  simp [h]
theorem leb_two {r : Nat} (h : 2 ≤ (leb r).length) : 128 ≤ r := by
  apply Nat.le_of_not_lt
  intro e
  rw [leb_small e] at h
  simp at h
theorem leb_one {r : Nat} (h : (leb r).length ≤ 1) : r < 128 := by
  apply Nat.lt_of_not_le
  intro e
  rw [leb_big e] at h
  have := leb_pos (r / 128)
  simp at h
  rw [h] at this
  simp at this
theorem put_or (r : BitVec 64) : bits .or .u8 ((r.toNat : Int) % 256) 128 = ((UInt8.ofNat (r.toNat % 128 + 128)).toNat : Int) := by
  have e : (r.toNat : Int) % 256 = ((r.toNat % 256 : Nat) : Int) := by omega
  rw [e, byte_small (by omega)]
  have := u8_or_all ⟨r.toNat % 256, by omega⟩
  simp only at this
  rw [this]
  omega
theorem put_shr (r : BitVec 64) : (r.toNat : Int) / 128 = ((r >>> 7).toNat : Int) := by
  have := Wd.u64_shr r 7
  simpa using this
theorem shr7 (r : BitVec 64) : (r >>> 7).toNat = r.toNat / 128 := by
  rw [BitVec.toNat_ushiftRight, Nat.shiftRight_eq_div_pow]
theorem put_last (r : BitVec 64) (h : r.toNat < 128) : (r.toNat : Int) = ((UInt8.ofNat r.toNat).toNat : Int) := by
  rw [byte_small (by omega)]
set_option maxRecDepth 4000 in
set_option maxHeartbeats 1000000 in
theorem put_some (B : Nat) (v : Value) (l : List UInt8) (b off c : Nat) (zs : List (BitVec 64)) (w : World) (hown : OwnsB w B v l) (hB : B ≤ w.heap.size) (hb : b < B)
    (hz : ∀ i, i < zs.length → w.cell? ⟨b, off + i, none⟩ = some (.int .i64 (zs.getD i 0#64).toInt)) (hl : l.length + 10 * zs.length ≤ 900000) :
    Calls Try.prog 30 #[v, .slice (some ⟨b, off, none⟩) zs.length c] w fun e w' => (∃ v', e = .returned v' ∧ OwnsB w' B v' (l ++ encs zs)) ∧ Below B w w' := by
  obtain ⟨m, hm⟩ : ∃ m, m = zs.length := ⟨_, rfl⟩
  rw [← hm]
  have hm9 : (m : Int) ≤ 900000 := by omega
  have hmz : (m : Int) ≤ zs.length := by omega
  have HM : Hid (m = zs.length) := hm
  clear hm
  go_enter Try.func30, Try.ntmps30
  go_wp2
  go_loopg [0, 10] m (fun g s0 s10 wx => ∃ k : Nat, k + g = m ∧ s10 = .int .i64 k ∧ OwnsB wx B s0 (l ++ encs (zs.take k)) ∧ Below B w wx)
  case atStart => exact ⟨0, by omega, rfl, by simpa [encs] using hown, Below.refl _ _⟩
  case round =>
    obtain ⟨k, hkg, rfl, hown1, hb1⟩ := hrel
    by_cases hk : k < m
    · have hkI : (k : Int) < (m : Int) := by omega
      have hcell := (hb1.cell (p := ⟨b, off + k, none⟩) hb).trans (hz k (by rw [← HM.out]; exact hk))
      have hl2 : (l ++ encs (zs.take k)).length ≤ l.length + 10 * k := by
        have := encs_len (zs.take k)
        rw [List.length_take] at this
        rw [List.length_append]; omega
      have hsn := encs_snoc zs k (by rw [← HM.out]; exact hk)
      obtain ⟨L, hL⟩ : ∃ L, L = l ++ encs (zs.take k) := ⟨_, rfl⟩
      rw [← hL] at hown1 hl2
      obtain ⟨x, hx⟩ : ∃ x, x = zs.getD k 0#64 := ⟨_, rfl⟩
      rw [← hx] at hcell hsn
      have HX : Hid (encs (zs.take (k + 1)) = encs (zs.take k) ++ enc1 x) := hsn
      have HL : Hid (L = l ++ encs (zs.take k)) := hL
      have hlen := lenW_bd (zigW x)
      obtain ⟨N, hN⟩ : ∃ N, lenW (zigW x) = N + 1 := ⟨lenW (zigW x) - 1, by omega⟩
      have hN9 : (N : Int) ≤ 9 := by omega
      have r1 : IntKind.u64.wrap (zigW x).toInt = ((zigW x).toNat : Int) := Wd.u64_toInt _
      clear hsn hL hx hlen
      have hNI : ((lenW (zigW x) : Nat) : Int) = (N : Int) + 1 := by omega
      clear hN
      go_wp2_with (first
        | (go_at_call 36; refine (zig_any _ _).mono ?_; rintro e w1 ⟨rfl, rfl⟩)
        | (go_at_call 37; refine (len_any _ _).mono ?_; rintro e w1 ⟨rfl, rfl⟩))
      go_loopg [0, 7, 20] N (fun g s0 s7 s20 wx => ∃ (j : Nat) (done : List UInt8) (r : BitVec 64), j + g = N ∧ s20 = .int .i64 j ∧ s7 = .int .u64 r.toNat ∧ enc1 x = done ++ leb r.toNat ∧ (leb r.toNat).length = g + 1 ∧ OwnsB wx B s0 (L ++ done) ∧ Below B w wx)
      case atStart => exact ⟨0, [], zigW x, by omega, rfl, rfl, rfl, by have : (leb (zigW x).toNat).length = lenW (zigW x) := rfl; omega, by simpa using hown1, hb1⟩
      case round =>
        obtain ⟨j, done, r, hjg, rfl, rfl, henc, hrl, hown2, hb2⟩ := hrel
        have HE : Hid (enc1 x = done ++ leb r.toNat) := henc
        have HR : Hid ((leb r.toNat).length = gk + 1) := hrl
        have hdl : (L ++ done).length ≤ l.length + 10 * k + 10 := by
          have e := congrArg List.length henc
          rw [enc1_len, List.length_append] at e
          have := (lenW_bd (zigW x)).2
          rw [List.length_append]; omega
        have hsz := hb2.size
        clear henc hrl hown1 hb1
        by_cases hj : j < N
        · have hr := leb_two (r := r.toNat) (by rw [HR.out]; omega)
          have hjI : (j : Int) < (N : Int) := by omega
          have r2 : Hid (bits .or .u8 ((r.toNat : Int) % 256) 128 = ((UInt8.ofNat (r.toNat % 128 + 128)).toNat : Int)) := put_or r
          have r3 := put_shr r
          go_wp2_with (at_builtin; (refine append_u8 rfl (.tmp 22) (.tmp 26) rfl rfl rfl r2.out hown2 ?hB ?hl ?_; (case hB => omega); (case hl => omega); intro v3 w3 hown3 hb3))
          go_roundg (N - (j + 1))
          case measure => omega
          case rel =>
            refine ⟨j + 1, done ++ [UInt8.ofNat (r.toNat % 128 + 128)], r >>> 7, by omega, by go_num, ?_, ?_, ?_, by simpa using hown3, hb2.trans hb3⟩
            · first | rfl | go_num
            · rw [HE.out, leb_big hr, shr7]; simp
            · have h1 := HR.out
              rw [leb_big hr, List.length_cons] at h1
              rw [shr7]; omega
        · have hr := leb_one (r := r.toNat) (by rw [HR.out]; omega)
          have hjI : ¬ (j : Int) < (N : Int) := by omega
          have r2 : Hid ((r.toNat : Int) = ((UInt8.ofNat r.toNat).toNat : Int)) := put_last r hr
          go_wp2_with (at_builtin; refine append_u8 rfl (.tmp 31) (.tmp 34) rfl rfl rfl r2.out hown2 ?hB ?hl ?_; (case hB => omega); (case hl => omega); intro v3 w3 hown3 hb3)
          go_roundg (m - (k + 1))
          case measure => omega
          case rel =>
            refine ⟨k + 1, by omega, by go_num, ?_, hb2.trans hb3⟩
            have e1 := HE.out
            rw [leb_small hr] at e1
            have e2 := HL.out
            rw [HX.out, e1, ← List.append_assoc, ← e2, ← List.append_assoc]
            exact hown3
    · have hkI : ¬ (k : Int) < (m : Int) := by omega
      have e : zs.take k = zs := List.take_of_length_le (by rw [← HM.out]; omega)
      rw [e] at hown1
      clear e
      go_wp2
      go_ret
      exact ⟨⟨_, rfl, hown1⟩, hb1⟩

set_option maxHeartbeats 400000 in
theorem put_none (v : Value) (a : Option Addr) (c : Nat) (w : World) :
    Calls Try.prog 30 #[v, .slice a 0 c] w fun e w' => e = .returned v ∧ w' = w := by
  go_enter Try.func30, Try.ntmps30
  go_wp2
  go_loopg [0, 10] 0 (fun g s0 s10 wx => g = 0 ∧ s0 = v ∧ s10 = .int .i64 0 ∧ wx = w)
  case atStart => exact ⟨rfl, rfl, rfl, rfl⟩
  case round =>
    obtain ⟨hg, rfl, rfl, rfl⟩ := hrel
    clear hg
    go_wp2
    go_ret
    exact ⟨rfl, rfl⟩

/-- The text of a list of bytes. -/
def str (l : List UInt8) : ByteArray := ⟨l.toArray⟩
theorem str_size (l : List UInt8) : (str l).size = l.length := rfl
theorem str_list (l : List UInt8) : (str l).data.toList = l := by simp [str]
theorem toList_str (l : List UInt8) : (str l).toList = l := by
  rw [ByteArray.toList_eq]; exact str_list l

set_option maxHeartbeats 400000 in
theorem put_any (x : BitVec 64) (w : World) :
    Calls Try.prog 25 #[.int .i64 x.toInt] w fun e w' => e = .returned (.string (str (enc1 x))) ∧ Below w.heap.size w w' := by
  have hp := leb_pos (zigW x).toNat
  go_enter Try.func25, Try.ntmps25
  go_wp2_with (go_at_call 30; refine (put_some (w.heap.size + 1) _ [] w.heap.size 0 1 [x] _ (ownsB_nil _ _) ?h1 ?h2 ?h3 ?h4).mono ?_; (case h1 => simp); (case h2 => simp); (case h3 => intro i hi; obtain rfl : i = 0 := (by simpa using hi); simp); (case h4 => simp); rintro e w1 ⟨⟨v1, rfl, hown⟩, hb⟩; have hcv := convert_own hown (by simp [encs]; exact hp))
  go_ret
  refine ⟨by simp [encs, str], ((Below.refl _ _).alloc (Nat.le_refl _) _).trans (hb.mono (by omega))⟩
end Go.Proofs.Ytlohljefhcidkaa
