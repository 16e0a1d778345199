/-
  16 texts, one behind the other: CTail, CSeal, JPure, CRefSeal, VRefPut, VRefTake, JRefA, VSame, VRow, PMem, JRefB, Last, DMem, Box, JRefC, JRefD.
-/
import Derived.Test.YtgffplfpoopolaaJoin1
import Derived.Deep.RegionWith
import Derived.Lib.Strings
import Derived.WalkSmall
import Derived.Deep.QuietTactic
import Derived.BigQuiet
import Derived.Deep.LoopGhost
import Derived.Deep.Strs
import Derived.Laws.OwnMore
import Derived.Laws.BytesArg
import Derived.WalkKit
import Derived.Deep.Quiet
import Derived.Below
import Derived.Deep.RegionHeld3
import Derived.WalkSpells
import Derived.WalkLawsBesides
import Derived.Deep.MidRow
import Derived.Deep.DeepAppendWide
import Derived.OwnWalk
import Derived.Deep.WholeRow
/-
  The contracts of package check's tail, Seal and Open.
-/
namespace Go.Proofs.Ytgffplfpoopolaa
open Go.RowKit

/-- The bytes of a sum that are laid already, k of them. -/
def part (n : BitVec 32) (k : Nat) : List UInt8 := (List.range 4).map fun i => if i < k then UInt8.ofNat (n.toNat / 2 ^ (8 * i)) else 0
theorem part_len (n : BitVec 32) (k : Nat) : (part n k).length = 4 := by simp [part]
theorem part_four (n : BitVec 32) : part n 4 = Crc.four n := by
  unfold part Crc.four
  rw [show List.range 4 = [0, 1, 2, 3] from rfl]
  simp
theorem part_step (n : BitVec 32) (k : Nat) (hk : k < 4) : (part n k).set k (UInt8.ofNat (n.toNat / 2 ^ (8 * k))) = part n (k + 1) := by
  have : k = 0 ∨ k = 1 ∨ k = 2 ∨ k = 3 := by omega
  unfold part
  rw [show List.range 4 = [0, 1, 2, 3] from rfl]
  rcases this with rfl | rfl | rfl | rfl <;> simp
theorem part_byte (m : BitVec 32) : IntKind.u8.wrap (m.toNat : Int) = ((UInt8.ofNat m.toNat).toNat : Int) := by
  rw [IntKind.wrap_u8, UInt8.toNat_ofNat']
  omega
theorem sum_back (n : BitVec 32) : IntKind.u32.wrap (n.toNat : Int) = (n.toNat : Int) := Wt.u32_toNat n

set_option maxRecDepth 4000 in
set_option maxHeartbeats 1000000 in
theorem tail_any (s : ByteArray) (hs : s.size ≤ maxLen) (w : World) :
    Calls Try.prog 60 #[.string s] w fun e w' => e = .returned (.string (strB (Crc.four (Crc.sum s.data.toList)))) ∧ Below w.heap.size w w' := by
  obtain ⟨n, hn⟩ : ∃ n, n = Crc.sum s.data.toList := ⟨_, rfl⟩
  have c : ∀ w, Calls Try.prog 70 #[.string s] w fun e w' => e = .returned (.int .i64 n.toNat) ∧ w' = w := fun w => hn ▸ sum_any s hs w
  rw [← hn]
  have r1 := sum_back n
  clear hn
  go_enter Try.func60, Try.ntmps60
  go_wp2_with (go_at_call 70; refine (c _).mono ?_; rintro e w1 ⟨rfl, rfl⟩)
  go_loopg [4, 9] 4 (fun g s4 s9 wx => ∃ (k : Nat) (m : BitVec 32), k + g = 4 ∧ s9 = .int .i64 k ∧ s4 = .int .u32 m.toNat ∧ m.toNat = n.toNat / 2 ^ (8 * k) ∧ RowB wx w.heap.size (part n k) ∧ Below w.heap.size w wx)
  case atStart =>
    refine ⟨0, n, rfl, rfl, rfl, by simp, rowB_new _ _ _ _ ?_, (Below.refl _ _).alloc (Nat.le_refl _) _⟩
    intro i hi
    rw [part_len] at hi
    have : i = 0 ∨ i = 1 ∨ i = 2 ∨ i = 3 := by omega
    rcases this with rfl | rfl | rfl | rfl <;> rfl
  case round =>
    obtain ⟨k, m, hkg, rfl, rfl, hm, hrow, hb⟩ := hrel
    by_cases hk : k < 4
    · have hkI : (k : Int) < 4 := by omega
      have hcell := hrow.cell k (by rw [part_len]; exact hk)
      have hfr := hrow.frozen k (by rw [part_len]; exact hk)
      have r2 := part_byte m
      have hset := hrow.set k (by rw [part_len]; exact hk) (UInt8.ofNat m.toNat)
      have e2 : UInt8.ofNat m.toNat = UInt8.ofNat (n.toNat / 2 ^ (8 * k)) := by rw [hm]
      have HS : Hid (UInt8.ofNat m.toNat = UInt8.ofNat (n.toNat / 2 ^ (8 * k))) := e2
      have HM : Hid (m.toNat = n.toNat / 2 ^ (8 * k)) := hm
      obtain ⟨x, hx⟩ : ∃ x, x = UInt8.ofNat m.toNat := ⟨_, rfl⟩
      rw [← hx] at r2 hset
      have HX : Hid (x = UInt8.ofNat (n.toNat / 2 ^ (8 * k))) := by show _ = _; rw [hx, hm]
      obtain ⟨m2, hm2⟩ : ∃ m2, m2 = m >>> 8 := ⟨_, rfl⟩
      have r3 : (m.toNat : Int) / 256 = (m2.toNat : Int) := by have := Wt.shr m 8; rw [hm2]; simpa using this
      have HM2 : Hid (m2.toNat = n.toNat / 2 ^ (8 * (k + 1))) := by
        show _ = _
        rw [hm2, BitVec.toNat_ushiftRight, Nat.shiftRight_eq_div_pow, hm, Nat.div_div_eq_div_mul, ← Nat.pow_add, Nat.mul_add]
      clear hm hx e2 hm2 HM HS
      go_wp2
      go_roundg (4 - (k + 1))
      case measure => omega
      case rel =>
        refine ⟨k + 1, m2, by omega, by go_num, rfl, HM2.out, ?_, hb.setCell (by simp) _⟩
        rw [← part_step n k hk, ← HX.out]
        exact hset
    · have hkI : ¬ (k : Int) < 4 := by omega
      obtain rfl : k = 4 := by omega
      rw [part_four] at hrow
      have ht := hrow.text 4
      rw [Crc.four_len] at ht
      clear hrow
      go_wp2
      go_ret
      exact ⟨rfl, hb⟩
end Go.Proofs.Ytgffplfpoopolaa
/-
  The contracts of Seal and Open, of package check and of package peristyleref03.
-/
namespace Go.Proofs.Ytgffplfpoopolaa
open Go.RowKit

/-- Sealed bytes. -/
def sealL (l : List UInt8) : List UInt8 := l ++ Crc.four (Crc.sum l)
def sealS (s : ByteArray) : ByteArray := s ++ strB (Crc.four (Crc.sum s.data.toList))
theorem sealL_len (l : List UInt8) : (sealL l).length = l.length + 4 := by
  rw [sealL, List.length_append, Crc.four_len]
theorem sealS_list (s : ByteArray) : (sealS s).data.toList = sealL s.data.toList := by
  rw [sealS, ByteArray.toList_data_append, strB_list]; rfl
theorem sealS_size (s : ByteArray) : (sealS s).size = s.size + 4 := by
  rw [sealS, ByteArray.size_append, strB_size, Crc.four_len]
theorem extract_head (s : ByteArray) (k : Nat) : (s.extract 0 k).data.toList = s.data.toList.take k := by
  rw [Lib.extract_data]; simp
theorem extract_rest (s : ByteArray) (u : Nat) : (s.extract u s.size).data.toList = s.data.toList.drop u := by
  rw [Lib.extract_data, List.take_of_length_le]
  simp
theorem toList_data (s : ByteArray) : s.toList = s.data.toList := ByteArray.toList_eq s
theorem extract_head_le (s : ByteArray) (k : Nat) (hs : s.size ≤ maxLen) : (s.extract 0 k).size ≤ maxLen := by
  rw [ByteArray.size_extract]; omega

set_option maxHeartbeats 400000 in
theorem seal_any (s : ByteArray) (hs : s.size ≤ 1000000) (w : World) :
    Calls Try.prog 46 #[.string s] w fun e w' => e = .returned (.string (sealS s)) ∧ Below w.heap.size w w' := by
  have hs0 : s.size ≤ maxLen := by unfold maxLen; omega
  have hsz := strB_size (Crc.four (Crc.sum s.data.toList))
  rw [Crc.four_len] at hsz
  have c := tail_any s hs0
  obtain ⟨T, hT⟩ : ∃ T, T = strB (Crc.four (Crc.sum s.data.toList)) := ⟨_, rfl⟩
  rw [← hT] at c hsz
  have HT : Hid (s ++ T = sealS s) := by show _ = _; rw [hT]; rfl
  clear hT
  go_enter Try.func46, Try.ntmps46
  go_wp2_with (go_at_call 60; refine (c _).mono ?_; rintro e w1 ⟨rfl, hb⟩)
  go_ret
  exact ⟨congrArg (fun x => Ending.returned (.string x)) HT.out, hb⟩

/-- Bytes that are sealed. -/
theorem sealed_cut {l : List UInt8} {e : Nat} (he : e + 4 = l.length) : (∃ t, l = sealL t) ↔ l.drop e = Crc.four (Crc.sum (l.take e)) := by
  constructor
  · rintro ⟨t, rfl⟩
    rw [sealL_len] at he
    have e1 : e = t.length := by omega
    subst e1
    unfold sealL
    simp
  · intro h
    refine ⟨l.take e, ?_⟩
    rw [sealL, ← h, List.take_append_drop]
theorem sealed_is {l t : List UInt8} {e : Nat} (he : e + 4 = l.length) (h : l = sealL t) : l.take e = t ∧ l.drop e = Crc.four (Crc.sum t) := by
  subst h
  rw [sealL_len] at he
  have e1 : e = t.length := by omega
  subst e1
  unfold sealL
  simp

end Go.Proofs.Ytgffplfpoopolaa
/-
  A journal without memory: what a part's block is, which parts make a record, which records blocks have, and what a crash leaves of them. Pure mathematics over lists of bytes. No program is spoken of.
-/
namespace Go.Proofs.Ytgffplfpoopolaa
open Leb

/-! ### A part, and its block -/
structure Pt where
  turn : BitVec 64
  num : BitVec 64
  ahead : BitVec 64
  behind : BitVec 64
  s : List UInt8
def Pt.nums (p : Pt) : List (BitVec 64) := [p.turn, p.num, p.ahead, p.behind, BitVec.ofNat 64 p.s.length]
def bodyL (p : Pt) : List UInt8 := encs p.nums ++ p.s
def partL (p : Pt) : List UInt8 := sealL (bodyL p) ++ List.replicate (128 - (sealL (bodyL p)).length) 0
structure Pt.May (p : Pt) : Prop where
  a0 : 0 ≤ p.ahead.toInt
  a1 : p.ahead.toInt ≤ 86
  b0 : 0 ≤ p.behind.toInt
  b1 : p.behind.toInt ≤ 86
  s0 : 1 ≤ p.s.length
  s1 : p.s.length ≤ 96

theorem zig_up (x : BitVec 64) (h : 0 ≤ x.toInt) : ((zigW x).toNat : Int) = 2 * x.toInt := by
  have hm : x.msb = false := by
    cases e : x.msb
    · rfl
    · exact absurd ((Wd.neg_iff x).2 e) (by omega)
  have hlt := BitVec.toInt_lt (x := x)
  rw [zigW, if_neg (by simp [hm]), BitVec.toNat_shiftLeft, Nat.shiftLeft_eq]
  rw [BitVec.toInt_eq_toNat_bmod, Int.bmod_def] at h hlt ⊢
  have := x.isLt
  omega
theorem enc1_two (x : BitVec 64) (h0 : 0 ≤ x.toInt) (h1 : x.toInt ≤ 8191) : (enc1 x).length ≤ 2 := by
  have e := zig_up x h0
  exact leb_len_le 1 (z := (zigW x).toNat) (by simp; omega)
theorem enc1_ten (x : BitVec 64) : 1 ≤ (enc1 x).length ∧ (enc1 x).length ≤ 10 := lenW_bd _
theorem encs_five (a b c d e : BitVec 64) : encs [a, b, c, d, e] = enc1 a ++ enc1 b ++ enc1 c ++ enc1 d ++ enc1 e := by simp [encs]
theorem encs_five_len (a b c d e : BitVec 64) : (encs [a, b, c, d, e]).length = (enc1 a).length + (enc1 b).length + (enc1 c).length + (enc1 d).length + (enc1 e).length := by
  rw [encs_five]; simp only [List.length_append]
theorem ofNat_toInt {n : Nat} (h : n < 9223372036854775808) : (BitVec.ofNat 64 n).toInt = (n : Int) := Wd.toInt_of_small _ (by omega)
theorem ofNat_inj {a b : Nat} (ha : a < 9223372036854775808) (hb : b < 9223372036854775808) (h : BitVec.ofNat 64 a = BitVec.ofNat 64 b) : a = b := by
  have := congrArg BitVec.toInt h
  rw [ofNat_toInt ha, ofNat_toInt hb] at this
  omega

theorem body_len {p : Pt} (h : p.May) : (bodyL p).length ≤ 122 := by
  have h1 := (enc1_ten p.turn).2
  have h2 := (enc1_ten p.num).2
  have h3 := enc1_two p.ahead h.a0 (by have := h.a1; omega)
  have h4 := enc1_two p.behind h.b0 (by have := h.b1; omega)
  have hs := h.s1
  have h5 := enc1_two (BitVec.ofNat 64 p.s.length) (by rw [ofNat_toInt (by omega)]; omega) (by rw [ofNat_toInt (by omega)]; omega)
  rw [bodyL, List.length_append, Pt.nums, encs_five_len]
  omega
theorem partL_len {p : Pt} (h : (bodyL p).length ≤ 124) : (partL p).length = 128 := by
  rw [partL, List.length_append, List.length_replicate, sealL_len]
  omega
theorem part_head (p : Pt) : ∃ r, partL p = encs p.nums ++ (p.s ++ r) ∧ (bodyL p).length + r.length = (encs p.nums).length + p.s.length + r.length ∧ 4 ≤ r.length := by
  refine ⟨Crc.four (Crc.sum (bodyL p)) ++ List.replicate (128 - (sealL (bodyL p)).length) 0, ?_, ?_, ?_⟩
  · unfold partL sealL
    rw [show bodyL p = encs p.nums ++ p.s from rfl]
    simp only [List.append_assoc]
  · rw [show bodyL p = encs p.nums ++ p.s from rfl, List.length_append]
  · rw [List.length_append, Crc.four_len]; omega
/-- What is read of a part's block. -/
theorem part_tk (p : Pt) : tkN 5 (partL p) = some (p.nums, (encs p.nums).length) := by
  obtain ⟨r, hr, _⟩ := part_head p
  rw [hr]
  exact tkN_enc p.nums _
theorem part_s (p : Pt) : ((partL p).drop (encs p.nums).length).take p.s.length = p.s := by
  obtain ⟨r, hr, _⟩ := part_head p
  rw [hr, List.drop_left, List.take_left]
theorem part_room (p : Pt) : (encs p.nums).length + p.s.length + 4 ≤ (partL p).length := by
  obtain ⟨r, hr, _, h4⟩ := part_head p
  rw [hr]
  simp only [List.length_append]
  omega
theorem part_inj {p q : Pt} (hp : p.s.length ≤ 96) (hq : q.s.length ≤ 96) (h : partL p = partL q) : p = q := by
  have h1 := part_tk p
  rw [h, part_tk q] at h1
  have h2 : q.nums = p.nums ∧ (encs q.nums).length = (encs p.nums).length := by simpa using h1
  have h3 := part_s p
  rw [h, ← h2.2] at h3
  obtain ⟨e, _⟩ := h2
  simp only [Pt.nums, List.cons.injEq, and_true] at e
  obtain ⟨e1, e2, e3, e4, e5⟩ := e
  have e6 := ofNat_inj (by omega) (by omega) e5
  rw [← e6, part_s q] at h3
  obtain ⟨a, b, c, d, s⟩ := p
  obtain ⟨a', b', c', d', s'⟩ := q
  simp only at e1 e2 e3 e4 h3
  subst e1 e2 e3 e4 h3
  rfl

/-- The part of a block, if it is one. -/
def ptOf (b : List UInt8) (zs : List (BitVec 64)) (u : Nat) : Pt := ⟨zs.getD 0 0#64, zs.getD 1 0#64, zs.getD 2 0#64, zs.getD 3 0#64, (b.drop u).take (zs.getD 4 0#64).toInt.toNat⟩
def Pt.mayB (p : Pt) : Bool := decide (0 ≤ p.ahead.toInt) && decide (p.ahead.toInt ≤ 86) && decide (0 ≤ p.behind.toInt) && decide (p.behind.toInt ≤ 86) && decide (1 ≤ p.s.length) && decide (p.s.length ≤ 96)
theorem mayB_iff (p : Pt) : p.mayB = true ↔ p.May := by
  constructor
  · intro h
    simp only [Pt.mayB, Bool.and_eq_true, decide_eq_true_eq] at h
    obtain ⟨⟨⟨⟨⟨h1, h2⟩, h3⟩, h4⟩, h5⟩, h6⟩ := h
    exact ⟨h1, h2, h3, h4, h5, h6⟩
  · intro h
    simp only [Pt.mayB, Bool.and_eq_true, decide_eq_true_eq]
    exact ⟨⟨⟨⟨⟨h.a0, h.a1⟩, h.b0⟩, h.b1⟩, h.s0⟩, h.s1⟩
def readP (b : List UInt8) : Option Pt :=
  match tkN 5 b with
  | some (zs, u) => if (ptOf b zs u).mayB && (partL (ptOf b zs u) == b) then some (ptOf b zs u) else none
  | none => none
theorem readP_part {p : Pt} (h : p.May) : readP (partL p) = some p := by
  have hs := h.s1
  have e : ptOf (partL p) p.nums (encs p.nums).length = p := by
    have e4 : (p.nums.getD 4 0#64).toInt.toNat = p.s.length := by
      show (BitVec.ofNat 64 p.s.length).toInt.toNat = p.s.length
      rw [ofNat_toInt (by omega)]; omega
    unfold ptOf
    rw [e4, part_s]
    rfl
  unfold readP
  rw [part_tk]
  simp only [e]
  rw [if_pos]
  rw [(mayB_iff p).2 h]
  simp
theorem readP_some {b : List UInt8} {p : Pt} (h : readP b = some p) : p.May ∧ partL p = b := by
  unfold readP at h
  split at h
  · rename_i zs u _
    split at h
    · rename_i hc
      rw [Bool.and_eq_true, beq_iff_eq, mayB_iff] at hc
      have e : ptOf b zs u = p := by simpa using h
      rw [← e]
      exact hc
    · cases h
  · cases h
theorem readP_iff (b : List UInt8) (p : Pt) : readP b = some p ↔ p.May ∧ partL p = b := ⟨readP_some, fun h => by rw [← h.2]; exact readP_part h.1⟩
/-- What must be read of a block that is a part's. -/
theorem readP_tk {b : List UInt8} {p : Pt} (h : readP b = some p) : tkN 5 b = some (p.nums, (encs p.nums).length) ∧ (encs p.nums).length + p.s.length + 4 ≤ b.length := by
  obtain ⟨_, rfl⟩ := readP_some h
  exact ⟨part_tk p, part_room p⟩
theorem readP_none {b : List UInt8} (h : tkN 5 b = none) : readP b = none := by
  unfold readP; rw [h]
theorem readP_of {b : List UInt8} {zs : List (BitVec 64)} {u : Nat} (h : tkN 5 b = some (zs, u)) : readP b = if (ptOf b zs u).mayB && (partL (ptOf b zs u) == b) then some (ptOf b zs u) else none := by
  unfold readP; rw [h]
theorem tkN_len : ∀ (c : Nat) (s : List UInt8) (zs : List (BitVec 64)) (u : Nat), tkN c s = some (zs, u) → zs.length = c ∧ u ≤ s.length := by
  intro c
  induction c with
  | zero =>
    intro s zs u h
    simp only [tkN, Option.some.injEq, Prod.mk.injEq] at h
    rw [← h.1, ← h.2]
    exact ⟨rfl, Nat.zero_le _⟩
  | succ c ih =>
    intro s zs u h
    simp only [tkN] at h
    split at h
    · cases hq : tkN c (s.drop (tk s).2.1) with
      | none => rw [hq] at h; cases h
      | some q =>
        obtain ⟨ys, v⟩ := q
        rw [hq] at h
        simp only [Option.map_some, Option.some.injEq, Prod.mk.injEq] at h
        have := ih _ _ _ hq
        have h2 := (tk_used_le s).1
        rw [List.length_drop] at this
        rw [← h.1, ← h.2]
        simp only [List.length_cons]
        omega
    · cases h
def zeros : List UInt8 := List.replicate 128 0
theorem zeros_no : readP zeros = none := by
  cases h : readP zeros with
  | none => rfl
  | some p =>
    obtain ⟨h1, h2⟩ := readP_some h
    have h3 := part_tk p
    have h4 : tkN 5 zeros = some ([0#64, 0#64, 0#64, 0#64, 0#64], 5) := by decide +kernel
    rw [h2, h4] at h3
    simp only [Option.some.injEq, Prod.mk.injEq, Pt.nums, List.cons.injEq, and_true] at h3
    have h5 := h3.1.2.2.2.2
    have h6 := h1.s1
    have h7 := h1.s0
    have := ofNat_inj (a := 0) (b := p.s.length) (by omega) (by omega) h5
    omega

/-! ### A record, and its parts -/
def needs (n : Nat) : Nat := (n + 95) / 96
def piece (s : List UInt8) (i : Nat) : List UInt8 := (s.drop (96 * i)).take 96
def ptAt (turn : BitVec 64) (first : Nat) (s : List UInt8) (i : Nat) : Pt := ⟨turn, BitVec.ofNat 64 (first + i), BitVec.ofNat 64 i, BitVec.ofNat 64 (needs s.length - 1 - i), piece s i⟩
def blkL (turn : BitVec 64) (first : Nat) (s : List UInt8) (i : Nat) : List UInt8 := partL (ptAt turn first s i)
theorem piece_len (s : List UInt8) (i : Nat) : (piece s i).length = min 96 (s.length - 96 * i) := by simp [piece]
theorem needs_pos {n : Nat} (h : 1 ≤ n) : 1 ≤ needs n := by unfold needs; omega
theorem needs_le {n : Nat} (h : n ≤ 8192) : needs n ≤ 86 := by unfold needs; omega
theorem ptAt_may (turn : BitVec 64) (first : Nat) {s : List UInt8} (h1 : 1 ≤ s.length) (h2 : s.length ≤ 8192) {i : Nat} (hi : i < needs s.length) : (ptAt turn first s i).May := by
  have hn := needs_le h2
  have hd : needs s.length = (s.length + 95) / 96 := rfl
  refine ⟨?_, ?_, ?_, ?_, ?_, ?_⟩
  · show 0 ≤ (BitVec.ofNat 64 i).toInt
    rw [ofNat_toInt (by omega)]; omega
  · show (BitVec.ofNat 64 i).toInt ≤ 86
    rw [ofNat_toInt (by omega)]; omega
  · show 0 ≤ (BitVec.ofNat 64 (needs s.length - 1 - i)).toInt
    rw [ofNat_toInt (by omega)]; omega
  · show (BitVec.ofNat 64 (needs s.length - 1 - i)).toInt ≤ 86
    rw [ofNat_toInt (by omega)]; omega
  · show 1 ≤ (piece s i).length
    rw [piece_len]; omega
  · show (piece s i).length ≤ 96
    rw [piece_len]; omega
theorem blk_len (turn : BitVec 64) (first : Nat) {s : List UInt8} (h1 : 1 ≤ s.length) (h2 : s.length ≤ 8192) {i : Nat} (hi : i < needs s.length) : (blkL turn first s i).length = 128 :=
  partL_len (Nat.le_trans (body_len (ptAt_may turn first h1 h2 hi)) (by omega))
theorem blk_read (turn : BitVec 64) (first : Nat) {s : List UInt8} (h1 : 1 ≤ s.length) (h2 : s.length ≤ 8192) {i : Nat} (hi : i < needs s.length) : readP (blkL turn first s i) = some (ptAt turn first s i) :=
  readP_part (ptAt_may turn first h1 h2 hi)
/-- The pieces, one behind the other. -/
theorem take_piece (s : List UInt8) (i : Nat) : s.take (96 * i) ++ piece s i = s.take (96 * (i + 1)) := by
  unfold piece
  rw [show 96 * (i + 1) = 96 * i + 96 by omega, List.take_add]
theorem take_needs (s : List UInt8) : s.take (96 * needs s.length) = s := List.take_of_length_le (by unfold needs; omega)
theorem pieces_eq {s t : List UInt8} (hn : needs s.length = needs t.length) (h : ∀ i, i < needs s.length → piece s i = piece t i) : s = t := by
  have : ∀ k, k ≤ needs s.length → s.take (96 * k) = t.take (96 * k) := by
    intro k
    induction k with
    | zero => intro _; simp
    | succ k ih =>
      intro hk
      rw [← take_piece, ← take_piece, ih (by omega), h k (by omega)]
  have e := this _ (Nat.le_refl _)
  rw [take_needs, hn, take_needs] at e
  exact e

/-! ### The records of blocks -/
structure RecAt (l : List (List UInt8)) (turn : BitVec 64) (a : Nat) (s : List UInt8) : Prop where
  s0 : 1 ≤ s.length
  s1 : s.length ≤ 8192
  fit : a + needs s.length ≤ l.length
  blk : ∀ i, i < needs s.length → l[a + i]? = some (blkL turn a s i)
theorem RecAt.unique {l : List (List UInt8)} {turn : BitVec 64} {a : Nat} {s t : List UInt8} (h : RecAt l turn a s) (k : RecAt l turn a t) : s = t := by
  have hs := needs_pos h.s0
  have ht := needs_pos k.s0
  have hs2 := needs_le h.s1
  have ht2 := needs_le k.s1
  have hp : ∀ i, i < needs s.length → i < needs t.length → ptAt turn a s i = ptAt turn a t i := by
    intro i hi hj
    have e := h.blk i hi
    rw [k.blk i hj] at e
    exact part_inj (ptAt_may turn a h.s0 h.s1 hi).s1 (ptAt_may turn a k.s0 k.s1 hj).s1 (Option.some.inj e).symm
  have h0 := congrArg Pt.behind (hp 0 (by omega) (by omega))
  have hn : needs s.length = needs t.length := by
    have := ofNat_inj (by omega) (by omega) h0
    omega
  exact pieces_eq hn fun i hi => congrArg Pt.s (hp i hi (by omega))
/-- Records that lie from a to e. -/
def Line (l : List (List UInt8)) (turn : BitVec 64) : Nat → List (List UInt8) → Nat → Prop
  | a, [], e => a = e
  | a, s :: r, e => RecAt l turn a s ∧ Line l turn (a + needs s.length) r e
section
variable {l l' : List (List UInt8)} {turn : BitVec 64}
theorem line_snoc : ∀ {out : List (List UInt8)} {a e : Nat} {s : List UInt8}, Line l turn a out e → RecAt l turn e s → Line l turn a (out ++ [s]) (e + needs s.length)
  | [], _, _, _, h, k => by
    have h : _ = _ := h
    subst h
    exact ⟨k, rfl⟩
  | _ :: _, _, _, _, h, k => ⟨h.1, line_snoc h.2 k⟩
theorem line_le : ∀ {out : List (List UInt8)} {a e : Nat}, Line l turn a out e → a ≤ l.length → a ≤ e ∧ e ≤ l.length
  | [], _, _, h, k => by
    have h : _ = _ := h
    subst h
    exact ⟨Nat.le_refl _, k⟩
  | s :: _, a, e, h, k => by
    have := line_le h.2 h.1.fit
    omega
theorem line_count : ∀ {out : List (List UInt8)} {a e : Nat}, Line l turn a out e → a + out.length ≤ e
  | [], _, _, h => by
    have h : _ = _ := h
    subst h
    exact Nat.le_refl _
  | s :: r, a, e, h => by
    have h1 := line_count h.2
    have h2 := needs_pos h.1.s0
    simp only [List.length_cons]
    omega
theorem line_unique : ∀ {o1 o2 : List (List UInt8)} {a e1 e2 : Nat}, Line l turn a o1 e1 → (∀ s, ¬ RecAt l turn e1 s) → Line l turn a o2 e2 → (∀ s, ¬ RecAt l turn e2 s) → o1 = o2 ∧ e1 = e2
  | [], [], _, _, _, h1, _, h2, _ => by
    have h1 : _ = _ := h1
    have h2 : _ = _ := h2
    exact ⟨rfl, by omega⟩
  | [], s :: _, _, _, _, h1, n1, h2, _ => by
    have h1 : _ = _ := h1
    subst h1
    exact absurd h2.1 (n1 s)
  | s :: _, [], _, _, _, h1, _, h2, n2 => by
    have h2 : _ = _ := h2
    subst h2
    exact absurd h1.1 (n2 s)
  | s :: r, t :: q, a, e1, e2, h1, n1, h2, n2 => by
    have e := h1.1.unique h2.1
    subst e
    have := line_unique h1.2 n1 h2.2 n2
    exact ⟨by rw [this.1], this.2⟩
theorem RecAt.over {a : Nat} {s : List UInt8} (h : RecAt l turn a s) (hl : l'.length = l.length) (hk : ∀ i, i < needs s.length → l'[a + i]? = l[a + i]?) : RecAt l' turn a s :=
  ⟨h.s0, h.s1, by rw [hl]; exact h.fit, fun i hi => by rw [hk i hi]; exact h.blk i hi⟩
theorem line_over : ∀ {out : List (List UInt8)} {a e : Nat}, Line l turn a out e → l'.length = l.length → (∀ k, k < e → l'[k]? = l[k]?) → Line l' turn a out e
  | [], _, _, h, _, _ => h
  | s :: r, a, e, h, hl, hk => by
    have h2 := (line_le h.2 h.1.fit).1
    exact ⟨h.1.over hl fun i hi => hk (a + i) (by omega), line_over h.2 hl hk⟩
end
/-- The records of a turn. -/
structure Recs (l : List (List UInt8)) (turn : BitVec 64) (out : List (List UInt8)) (e : Nat) : Prop where
  line : Line l turn 0 out e
  last : ∀ s, ¬ RecAt l turn e s
theorem Recs.unique {l : List (List UInt8)} {turn : BitVec 64} {o1 o2 : List (List UInt8)} {e1 e2 : Nat} (h : Recs l turn o1 e1) (k : Recs l turn o2 e2) : o1 = o2 ∧ e1 = e2 := line_unique h.line h.last k.line k.last
/-- Where a block is noughts, no record begins. -/
theorem rec_first {l : List (List UInt8)} {turn : BitVec 64} {a : Nat} {s : List UInt8} (h : RecAt l turn a s) {b : List UInt8} (hb : l[a]? = some b) : b ≠ zeros := by
  intro e
  subst e
  have h1 := h.blk 0 (needs_pos h.s0)
  rw [Nat.add_zero, hb] at h1
  have h2 := blk_read turn a h.s0 h.s1 (i := 0) (needs_pos h.s0)
  rw [← Option.some.inj h1, zeros_no] at h2
  cases h2
/-- What a crash leaves: behind the records that were added, each block is noughts, or the part of one more record that belongs there. -/
theorem crash_recs {l : List (List UInt8)} {turn : BitVec 64} {out : List (List UInt8)} {e : Nat} (hL : Line l turn 0 out e) {s : List UInt8} (h0 : 1 ≤ s.length) (h1 : s.length ≤ 8192)
    (hk : ∀ k b, e ≤ k → l[k]? = some b → b = zeros ∨ (k - e < needs s.length ∧ b = blkL turn e s (k - e))) :
    Recs l turn out e ∨ Recs l turn (out ++ [s]) (e + needs s.length) := by
  by_cases hr : ∃ t, RecAt l turn e t
  · obtain ⟨t, ht⟩ := hr
    have hall : ∀ i, i < needs t.length → i < needs s.length ∧ l[e + i]? = some (blkL turn e s i) := by
      intro i hi
      have h2 := ht.blk i hi
      rcases hk (e + i) _ (by omega) h2 with h3 | ⟨h3, h4⟩
      · have h5 := blk_read turn e ht.s0 ht.s1 hi
        rw [h3, zeros_no] at h5
        cases h5
      · rw [show e + i - e = i by omega] at h3 h4
        exact ⟨h3, by rw [h2, h4]⟩
    have hp : ∀ i, i < needs t.length → ptAt turn e t i = ptAt turn e s i := by
      intro i hi
      have h2 := (hall i hi).2
      rw [ht.blk i hi] at h2
      exact part_inj (ptAt_may turn e ht.s0 ht.s1 hi).s1 (ptAt_may turn e h0 h1 (hall i hi).1).s1 (Option.some.inj h2)
    have ht1 := needs_pos ht.s0
    have hs2 := needs_le h1
    have ht2 := needs_le ht.s1
    have hs1 := needs_pos h0
    have hb := congrArg Pt.behind (hp 0 (by omega))
    have hn : needs t.length = needs s.length := by
      have := ofNat_inj (by omega) (by omega) hb
      omega
    have hts : t = s := pieces_eq hn fun i hi => congrArg Pt.s (hp i hi)
    subst hts
    refine .inr ⟨line_snoc hL ht, ?_⟩
    intro u hu
    have hfit := hu.fit
    have hu1 := needs_pos hu.s0
    obtain ⟨b, hb2⟩ : ∃ b, l[e + needs t.length]? = some b := ⟨_, List.getElem?_eq_getElem (by omega)⟩
    rcases hk _ b (by omega) hb2 with h3 | ⟨h3, _⟩
    · exact rec_first hu hb2 h3
    · omega
  · exact .inl ⟨hL, fun t ht => hr ⟨t, ht⟩⟩
end Go.Proofs.Ytgffplfpoopolaa
/-
  The contracts of Seal and Open of package peristyleref03.
-/
namespace Go.Proofs.Ytgffplfpoopolaa
open Go.RowKit

/-- A byte of a sum, as the plain text takes it. -/
theorem ref_byte (m : BitVec 32) : IntKind.u8.wrap (bits .and .i64 (m.toNat : Int) 255) = ((UInt8.ofNat m.toNat).toNat : Int) := by
  have e : (255 : Int) = ((255#32).toNat : Int) := by decide
  rw [e, Wt.i64_and, IntKind.wrap_u8, UInt8.toNat_ofNat', BitVec.toNat_and]
  have := Nat.and_two_pow_sub_one_eq_mod m.toNat 8
  have e2 : (255#32).toNat = 2 ^ 8 - 1 := by decide
  rw [e2, this]
  omega
theorem refSeal_byte (n : BitVec 32) (k : Nat) : ∃ x : UInt8, IntKind.u8.wrap (bits .and .i64 ((n.toNat : Int) / 2 ^ k) 255) = (x.toNat : Int) ∧ x = UInt8.ofNat (n.toNat / 2 ^ k) := by
  refine ⟨_, ?_, rfl⟩
  rw [Wt.shr, ref_byte, BitVec.toNat_ushiftRight, Nat.shiftRight_eq_div_pow]
set_option maxRecDepth 4000 in
set_option maxHeartbeats 1000000 in
theorem refSeal_any (s : ByteArray) (hs : s.size ≤ 1000000) (w : World) :
    Calls Try.prog 66 #[.string s] w fun e w' => e = .returned (.string (sealS s)) ∧ Below w.heap.size w w' := by
  have hs0 : s.size ≤ maxLen := by unfold maxLen; omega
  obtain ⟨n, hn⟩ : ∃ n, n = Crc.sum s.data.toList := ⟨_, rfl⟩
  have c : ∀ w, Calls Try.prog 78 #[.string s] w fun e w' => e = .returned (.int .i64 n.toNat) ∧ w' = w := fun w => hn ▸ refSum_any s hs0 w
  obtain ⟨x0, r0, h0⟩ := refSeal_byte n 0
  obtain ⟨x1, r1, h1⟩ := refSeal_byte n 8
  obtain ⟨x2, r2, h2⟩ := refSeal_byte n 16
  obtain ⟨x3, r3, h3⟩ := refSeal_byte n 24
  have hx : Crc.four (Crc.sum s.data.toList) = [x0, x1, x2, x3] := by
    rw [← hn, h0, h1, h2, h3]; simp [Crc.four]
  have HX : Hid (s ++ strB [x0, x1, x2, x3] = sealS s) := by show _ = _; rw [sealS, hx]
  have hrow := rowB_new w #[.int .u8 (x0.toNat : Int), .int .u8 (x1.toNat : Int), .int .u8 (x2.toNat : Int), .int .u8 (x3.toNat : Int)] 5 [x0, x1, x2, x3] (by
    intro i hi
    have : i = 0 ∨ i = 1 ∨ i = 2 ∨ i = 3 := by simp at hi; omega
    rcases this with rfl | rfl | rfl | rfl <;> rfl)
  have ht := hrow.text 4
  have hsz : (strB [x0, x1, x2, x3]).size = 4 := rfl
  obtain ⟨T, hT⟩ : ∃ T, T = strB [x0, x1, x2, x3] := ⟨_, rfl⟩
  rw [← hT] at ht hsz HX
  simp at ht r0 r1 r2 r3
  clear h0 h1 h2 h3 hx hn hrow hT
  go_enter Try.func66, Try.ntmps66
  go_wp2_with (go_at_call 78; refine (c _).mono ?_; rintro e w1 ⟨rfl, hw1⟩; replace hw1 := hw1.symm; subst hw1)
  go_ret
  exact ⟨congrArg (fun x => Ending.returned (.string x)) HX.out, (Below.refl _ _).alloc (Nat.le_refl _) _⟩

end Go.Proofs.Ytgffplfpoopolaa
/-
  The contract of package peristyleref02's Put.
-/
namespace Go.Proofs.Ytgffplfpoopolaa
open Go.RowKit Leb

theorem field_low (x : BitVec 64) : wordW (fieldF x 0 7) = BitVec.ofNat 64 (x.toNat % 128) := by
  apply BitVec.eq_of_getLsbD_eq
  intro i hi
  rw [wordW_bit _ i hi, BitVec.getLsbD_ofNat]
  unfold fieldF bitsOf
  rw [show (128 : Nat) = 2 ^ 7 from rfl, Nat.testBit_mod_two_pow]
  by_cases h : i < 7
  · have h2 : (i : Int) < 7 := by omega
    simp [h, h2, hi, BitVec.getLsbD]
  · have h2 : ¬ (i : Int) < 7 := by omega
    simp [h, h2]
theorem field_high (x : BitVec 64) : wordW (fieldF x 7 64) = x >>> 7 := by
  apply BitVec.eq_of_getLsbD_eq
  intro i hi
  rw [wordW_bit _ i hi, BitVec.getLsbD_ushiftRight]
  unfold fieldF bitsOf
  by_cases h : 7 + i < 64
  · have h2 : (i : Int) < 64 := by omega
    simp [h, h2]
  · rw [BitVec.getLsbD_of_ge x (7 + i) (by omega)]; simp
theorem refLow (x : BitVec 64) (w : World) (c : Nat) (hc : c = x.toNat % 128) :
    Calls Try.prog 80 #[.int .i64 x.toInt, .int .i64 0, .int .i64 7] w fun e w' => e = .returned (.int .i64 (c : Int)) ∧ Below w.heap.size w w' := by
  refine (refField_in x 0 (by decide) 7 w).mono ?_
  rintro e w' ⟨rfl, hb⟩
  rw [field_low, Wd.toInt_of_small _ (by omega), hc]
  exact ⟨rfl, hb⟩
theorem refHigh (x : BitVec 64) (w : World) (q : BitVec 64) (hq : q = x >>> 7) :
    Calls Try.prog 80 #[.int .i64 x.toInt, .int .i64 7, .int .i64 64] w fun e w' => e = .returned (.int .i64 q.toInt) ∧ Below w.heap.size w w' := by
  refine (refField_in x 7 (by decide) 64 w).mono ?_
  rintro e w' ⟨rfl, hb⟩
  rw [field_high, hq]
  exact ⟨rfl, hb⟩
theorem refZig_eq (x : BitVec 64) (w : World) :
    Calls Try.prog 79 #[.int .i64 x.toInt] w fun e w' => e = .returned (.int .i64 (zigW x).toInt) ∧ Below w.heap.size w w' := by
  refine (refZig_any x w).mono ?_
  rintro e w' ⟨rfl, hb⟩
  rw [zig_eq]
  exact ⟨rfl, hb⟩
theorem toInt_zero_iff (x : BitVec 64) : (x.toInt == 0) = decide (x.toNat = 0) := by
  rw [Bool.eq_iff_iff, beq_iff_eq, decide_eq_true_iff, BitVec.toInt_eq_toNat_bmod, Int.bmod_def]
  have := x.isLt
  omega

set_option maxRecDepth 4000 in
set_option maxHeartbeats 1000000 in
theorem refPut_any (x : BitVec 64) (w : World) :
    Calls Try.prog 67 #[.int .i64 x.toInt] w fun e w' => e = .returned (.string (str (enc1 x))) ∧ Below w.heap.size w w' := by
  go_enter Try.func67, Try.ntmps67
  go_wp2_with (go_at_call 79; refine (refZig_eq _ _).mono ?_; rintro e w1 ⟨rfl, hb1⟩)
  go_loopg [3, 4] (leb (zigW x).toNat).length (fun g s3 s4 wx => ∃ (done : List UInt8) (r : BitVec 64), (leb r.toNat).length = g ∧ s3 = .int .i64 r.toInt ∧ enc1 x = done ++ leb r.toNat ∧ OwnsB wx w.heap.size s4 done ∧ Below w.heap.size w wx)
  case atStart => exact ⟨[], zigW x, rfl, rfl, rfl, ownsB_nil _ _, hb1⟩
  case round =>
    obtain ⟨done, r, hrg, rfl, henc, hown, hb2⟩ := hrel
    have HE : Hid (enc1 x = done ++ leb r.toNat) := henc
    have HR : Hid ((leb r.toNat).length = gk) := hrg
    have hdl : done.length ≤ 10 := by
      have e := congrArg List.length henc
      rw [enc1_len, List.length_append] at e
      have := (lenW_bd (zigW x)).2
      omega
    have hsz := hb2.size
    clear henc hrg
    obtain ⟨c, hc⟩ : ∃ c, c = r.toNat % 128 := ⟨_, rfl⟩
    have HC : Hid (c = r.toNat % 128) := hc
    have hc2 : (c : Int) < 128 := by omega
    obtain ⟨q, hq⟩ : ∃ q, q = r >>> 7 := ⟨_, rfl⟩
    have HQ : Hid (q = r >>> 7) := hq
    by_cases hr : r.toNat < 128
    · have hz : (q.toInt == 0) = true := by rw [hq, toInt_zero_iff, shr7, decide_eq_true_iff]; omega
      have r2 : Hid ((c : Int) = ((UInt8.ofNat r.toNat).toNat : Int)) := by show _ = _; rw [byte_small (by omega), hc]; omega
      clear hc hq
      go_wp2_with fail
      refine (refLow _ _ c HC.out).mono ?_
      rintro e w3 ⟨rfl, hb3⟩
      replace hown := hown.below hb3
      replace hb2 := hb2.trans (hb3.mono hsz)
      clear hb3
      replace hsz := hb2.size
      go_wp2_with fail
      refine (refHigh _ _ q HQ.out).mono ?_
      rintro e w4 ⟨rfl, hb3⟩
      replace hown := hown.below hb3
      replace hb2 := hb2.trans (hb3.mono hsz)
      clear hb3
      replace hsz := hb2.size
      go_wp2_with ((at_builtin; refine append_u8 rfl (.tmp 14) (.tmp 17) rfl rfl rfl r2.out hown ?hB ?hl ?_; (case hB => omega); (case hl => omega); intro v3 w3 hown3 hb3; have hcv := convert_own hown3 (by simp)))
      go_ret
      have e1 := HE.out
      rw [leb_small hr] at e1
      refine ⟨?_, hb2.trans hb3⟩
      rw [e1]; rfl
    · have hr' : 128 ≤ r.toNat := by omega
      have hz : (q.toInt == 0) = false := by rw [hq, toInt_zero_iff, shr7, decide_eq_false_iff_not]; omega
      have r2 : Hid ((128 : Int) + (c : Int) = ((UInt8.ofNat (r.toNat % 128 + 128)).toNat : Int)) := by show _ = _; rw [byte_small (by omega), hc]; omega
      clear hc hq
      go_wp2_with fail
      refine (refLow _ _ c HC.out).mono ?_
      rintro e w3 ⟨rfl, hb3⟩
      replace hown := hown.below hb3
      replace hb2 := hb2.trans (hb3.mono hsz)
      clear hb3
      replace hsz := hb2.size
      go_wp2_with fail
      refine (refHigh _ _ q HQ.out).mono ?_
      rintro e w4 ⟨rfl, hb3⟩
      replace hown := hown.below hb3
      replace hb2 := hb2.trans (hb3.mono hsz)
      clear hb3
      replace hsz := hb2.size
      go_wp2_with ((at_builtin; refine append_u8 rfl (.tmp 20) (.tmp 24) rfl rfl rfl r2.out hown ?hB ?hl ?_; (case hB => omega); (case hl => omega); intro v3 w3 hown3 hb3))
      go_roundg ((leb r.toNat).length - 1)
      case measure => have := HR.out; have := leb_pos r.toNat; omega
      case rel =>
        have e1 := HE.out
        rw [leb_big hr'] at e1
        refine ⟨done ++ [UInt8.ofNat (r.toNat % 128 + 128)], q, ?_, rfl, ?_, hown3, hb2.trans hb3⟩
        · rw [leb_big hr', HQ.out, shr7]; simp
        · rw [e1, HQ.out, shr7]; simp
end Go.Proofs.Ytgffplfpoopolaa
/-
  The contract of package peristyleref02's Take.
-/
namespace Go.Proofs.Ytgffplfpoopolaa
open Go.RowKit Leb

theorem refWith_at (s : ByteArray) (k : Nat) (hk : k ≤ 9) (hks : k < s.size) (c : Nat) (hc : c = s[k].toNat % 128) (w : World) :
    Calls Try.prog 81 #[.int .i64 (gotW s.data.toList k).toInt, .int .i64 (7 * (k : Int)), .int .i64 7, .int .i64 (c : Int)] w fun e w' => e = .returned (.int .i64 (gotW s.data.toList (k + 1)).toInt) ∧ Below w.heap.size w w' := by
  have e1 : (7 * (k : Int)) = ((7 * k : Nat) : Int) := by omega
  have e2 : (c : Int) = (BitVec.ofNat 64 c).toInt := by rw [Wd.toInt_of_small _ (by omega)]
  rw [e1, e2]
  refine (refWith_in (gotW s.data.toList k) (7 * k) (by omega) 7 (BitVec.ofNat 64 c) w).mono ?_
  rintro e w' ⟨rfl, hb⟩
  have hn : (BitVec.ofNat 64 c).toNat = c := by rw [BitVec.toNat_ofNat]; omega
  rw [with_shl _ _ _ (got_lt _ k hk).2 (by rw [hn]; omega), hc, ← getD_data s k hks, got_succ _ k hk (by simpa using hks)]
  exact ⟨rfl, hb⟩
theorem refZag_eq (x : BitVec 64) (w : World) :
    Calls Try.prog 82 #[.int .i64 x.toInt] w fun e w' => e = .returned (.int .i64 (zagW x).toInt) ∧ Below w.heap.size w w' := by
  refine (refZag_any x w).mono ?_
  rintro e w' ⟨rfl, hb⟩
  rw [zag_eq]
  exact ⟨rfl, hb⟩
theorem enc1_zag (z : BitVec 64) : enc1 (zagW z) = leb z.toNat := by rw [enc1, zig_zag]
theorem extract_list (s : ByteArray) (k : Nat) : (s.extract 0 k).toList = s.data.toList.take k := by
  rw [Lib.extract_toList]; simp

set_option maxRecDepth 4000 in
set_option maxHeartbeats 1000000 in
theorem refTake_any (s : ByteArray) (w : World) :
    Calls Try.prog 68 #[.string s] w fun e w' => e = .returned (.tuple #[.int .i64 (zagW (tk s.data.toList).1).toInt, .int .i64 (tk s.data.toList).2.1, .int .i64 (tk s.data.toList).2.2]) ∧ Below w.heap.size w w' := by
  go_enter Try.func68, Try.ntmps68
  go_wp2
  go_loopg [5, 6] 10 (fun g s5 s6 wx => ∃ k : Nat, k + g = 10 ∧ s6 = .int .i64 k ∧ s5 = .int .i64 (gotW s.data.toList k).toInt ∧ (∀ i, i < k → 128 ≤ (s.data.toList.getD i 0).toNat) ∧ Below w.heap.size w wx)
  case atStart => exact ⟨0, by omega, rfl, rfl, fun i hi => by omega, Below.refl _ _⟩
  case round =>
    obtain ⟨k, hkg, rfl, rfl, hall, hb⟩ := hrel
    have HA : Hid (∀ i, i < k → 128 ≤ (s.data.toList.getD i 0).toNat) := hall
    clear hall
    by_cases hk : k < 10 ∧ k < s.size
    · obtain ⟨hk, hks⟩ := hk
      have hkI : (k : Int) < 10 := by omega
      have hksI : (k : Int) < (s.size : Int) := by omega
      obtain ⟨c, hc⟩ : ∃ c, c = s[k].toNat % 128 := ⟨_, rfl⟩
      have HC : Hid (c = s[k].toNat % 128) := hc
      have r1 : bits .and .u8 (s[k].toNat : Int) 127 = (c : Int) := by rw [hc]; exact u8_and127 s[k]
      have hc2 : (c : Int) < 128 := by omega
      clear hc
      by_cases h128 : 128 ≤ s[k].toNat
      · have h128I : ¬ (s[k].toNat : Int) < 128 := by omega
        go_wp2_with fail
        refine (refWith_at s k (by omega) hks c HC.out _).mono ?_
        rintro e w1 ⟨rfl, hb1⟩
        go_wp2
        go_roundg (10 - (k + 1))
        case measure => omega
        case rel =>
          refine ⟨k + 1, by omega, by go_num, rfl, fun i hi => ?_, hb.trans (hb1.mono hb.size)⟩
          by_cases e : i = k
          · rw [e, getD_data s k hks]; exact h128
          · exact HA.out i (by omega)
      · have h128I : (s[k].toNat : Int) < 128 := by omega
        have hle1 : ((k : Int) + 1) ≤ (s.size : Int) := by omega
        have hwr : wrap64 ((k : Int) + 1) = (k : Int) + 1 := by unfold wrap64; omega
        have hwr2 : IntKind.i64.wrap ((k : Int) + 1) = (k : Int) + 1 := by rw [IntWalk.i64_left]; exact hwr
        have hle2 : 0 ≤ (k : Int) + 1 ∧ ((k : Int) + 1) ≤ (s.size : Int) := ⟨by omega, hle1⟩
        rcases tk_again HA.out (k := k) (by rw [getD_data s k hks]; omega) (by simpa using hks) with ⟨h1, h2⟩ | ⟨h1, h2⟩
        case' inl =>
          have HT : Hid (tk s.data.toList = (gotW s.data.toList (k + 1), k + 1, 0)) := h2
          have hq : ((str (enc1 (zagW (gotW s.data.toList (k + 1))))).toList == (s.extract 0 (k + 1)).toList) = true := by rw [beq_iff_eq, toList_str, enc1_zag, extract_list, h1]
        case' inr =>
          have HT : Hid (tk s.data.toList = (0#64, 0, 20)) := h2
          have hq : ((str (enc1 (zagW (gotW s.data.toList (k + 1))))).toList == (s.extract 0 (k + 1)).toList) = false := by rw [beq_eq_false_iff_ne, toList_str, enc1_zag, extract_list]; exact h1
        all_goals
          clear h1 h2
          go_wp2_with fail
          refine (refWith_at s k (by omega) hks c HC.out _).mono ?_
          rintro e w1 ⟨rfl, hb1⟩
          have hb2 := hb.trans (hb1.mono hb.size)
          clear hb1 hb
          go_wp2_with fail
          refine (refZag_eq _ _).mono ?_
          rintro e w2 ⟨rfl, hb3⟩
          have hb4 := hb2.trans (hb3.mono hb2.size)
          clear hb2 hb3
          go_wp2_with fail
          go_region_with (go_at_call 67; refine (refPut_any _ _).mono ?_; rintro e w3 ⟨rfl, hb5⟩)
          all_goals
            go_wp2
            go_ret3
            first | exact ⟨take_no HT.out, hb4.drew.trans (hb5.mono hb4.size)⟩ | exact ⟨take_yes HT.out, hb4.drew.trans (hb5.mono hb4.size)⟩
    · have HT : Hid (tk s.data.toList = (0#64, 0, 20)) := tk_long HA.out (k := k) (by simp; omega)
      by_cases hks : (k : Int) < (s.size : Int)
      · have hkI : ¬ (k : Int) < 10 := by omega
        go_wp2
        go_ret3
        exact ⟨take_no HT.out, hb⟩
      · go_wp2
        go_ret3
        exact ⟨take_no HT.out, hb⟩
end Go.Proofs.Ytgffplfpoopolaa
/-
  The contracts of package peristyleref23's Needs, May and Part.
-/
namespace Go.Proofs.Ytgffplfpoopolaa
open Go.RowKit

def needsI (x : Int) : Int := if 1 ≤ x ∧ x ≤ 8192 then ((needs x.toNat : Nat) : Int) else 0
theorem needsI_nat {n : Nat} (h1 : 1 ≤ n) (h2 : n ≤ 8192) : needsI (n : Int) = ((needs n : Nat) : Int) := by
  unfold needsI
  rw [if_pos (by omega)]
  simp
theorem needsI_no {x : Int} (h : ¬ (1 ≤ x ∧ x ≤ 8192)) : needsI x = 0 := by unfold needsI; rw [if_neg h]
theorem needsI_zero {x : Int} : needsI x = 0 ↔ ¬ (1 ≤ x ∧ x ≤ 8192) := by
  constructor
  · intro h h2
    unfold needsI needs at h
    rw [if_pos h2] at h
    omega
  · exact needsI_no
set_option maxHeartbeats 400000 in
theorem refNeeds_any (x : Int) (w : World) :
    Calls Try.prog 36 #[.int .i64 x] w fun e w' => e = .returned (.int .i64 (needsI x)) ∧ w' = w := by
  by_cases h : 1 ≤ x ∧ x ≤ 8192
  · obtain ⟨k, rfl⟩ : ∃ k : Nat, x = (k : Int) := ⟨x.toNat, by omega⟩
    have h1 : (1 : Int) ≤ k := h.1
    have h2 : (k : Int) ≤ 8192 := h.2
    have HN : Hid (needsI (k : Int) = ((needs k : Nat) : Int)) := needsI_nat (by omega) (by omega)
    have hq : wrap64 (Int.tdiv ((k : Int) + 95) 96) = ((needs k : Nat) : Int) := by
      unfold needs
      rw [Int.tdiv_eq_ediv_of_nonneg (by omega)]
      unfold wrap64
      omega
    clear h
    go_enter Try.func36, Try.ntmps36
    go_wp2
    go_ret
    rw [HN.out]
    refine ⟨?_, rfl⟩
    first | rfl | (congr 2)
  · have HN : Hid (needsI x = 0) := needsI_no h
    by_cases h1 : x < 1
    · clear h
      go_enter Try.func36, Try.ntmps36
      go_wp2
      go_ret
      rw [HN.out]
      exact ⟨rfl, rfl⟩
    · have h2 : 8192 < x := by omega
      clear h
      go_enter Try.func36, Try.ntmps36
      go_wp2
      go_ret
      rw [HN.out]
      exact ⟨rfl, rfl⟩

/-- May a journal be there? -/
def mayJ (size : Nat) (first count turn : Int) : Bool := decide (1 ≤ count) && decide (0 ≤ first) && decide (first < size) && decide (count ≤ size - first) && decide (1 ≤ turn) && decide (turn ≤ 4294967296)
set_option maxRecDepth 4000 in
set_option maxHeartbeats 1000000 in
theorem refMay_any (size : Nat) (hs : size ≤ 4096) (first count turn : Int) (w : World) :
    Calls Try.prog 57 #[.int .i64 size, .agg #[.int .i64 first, .int .i64 count], .int .i64 turn] w fun e w' => e = .returned (.bool (mayJ size first count turn)) ∧ Below w.heap.size w w' := by
  have hb1 : ∀ A : Obj, Below w.heap.size w (w.alloc A) := fun A => (Below.refl _ w).alloc (Nat.le_refl _) _
  by_cases h1 : 1 ≤ count
  case' neg => have HM : Hid (mayJ size first count turn = false) := by show _ = _; simp [mayJ, h1]
  case' pos =>
    by_cases h2 : 0 ≤ first
    case' neg => have HM : Hid (mayJ size first count turn = false) := by show _ = _; simp [mayJ, h2]
    case' pos =>
      by_cases h3 : first < size
      case' neg => have HM : Hid (mayJ size first count turn = false) := by show _ = _; simp [mayJ, h3]
      case' pos =>
        have hw : wrap64 ((size : Int) - first) = (size : Int) - first := by unfold wrap64; omega
        by_cases h4 : count ≤ (size : Int) - first
        case' neg => have HM : Hid (mayJ size first count turn = false) := by show _ = _; simp [mayJ, h4]
        case' pos =>
          by_cases h5 : 1 ≤ turn
          case' neg => have HM : Hid (mayJ size first count turn = false) := by show _ = _; simp [mayJ, h5]
          case' pos =>
            by_cases h6 : turn ≤ 4294967296
            case' neg => have HM : Hid (mayJ size first count turn = false) := by show _ = _; simp [mayJ, h6]
            case' pos => have HM : Hid (mayJ size first count turn = true) := by show _ = _; simp [mayJ, h1, h2, h3, h4, h5, h6]
  all_goals
    go_enter Try.func57, Try.ntmps57
    go_wp2
    go_ret
    rw [HM.out]
    exact ⟨by first | rfl | simp_all, hb1 _⟩

/-! ### Part -/
theorem strB_append (a b : List UInt8) : strB a ++ strB b = strB (a ++ b) := by
  apply ByteArray.ext
  simp [strB]
theorem sealS_strB (l : List UInt8) : sealS (strB l) = strB (sealL l) := by
  rw [← strB_of (sealS (strB l)), sealS_list, strB_list]
theorem str_is (l : List UInt8) : str l = strB l := rfl
theorem part_text (p : Pt) : sealS (strB (enc1 p.turn) ++ strB (enc1 p.num) ++ strB (enc1 p.ahead) ++ strB (enc1 p.behind) ++ strB (enc1 (BitVec.ofNat 64 p.s.length)) ++ strB p.s) = strB (sealL (bodyL p)) := by
  rw [strB_append, strB_append, strB_append, strB_append, strB_append, sealS_strB, bodyL, Pt.nums, encs_five]
set_option maxRecDepth 4000 in
set_option maxHeartbeats 1000000 in
theorem refPart_any (p : Pt) (hb : (bodyL p).length ≤ 124) (w : World) :
    Calls Try.prog 53 #[.int .i64 p.turn.toInt, .int .i64 p.num.toInt, .int .i64 p.ahead.toInt, .int .i64 p.behind.toInt, .string (strB p.s)] w fun e w' => e = .returned (.string (strB (partL p))) ∧ Below w.heap.size w w' := by
  have hbl : (bodyL p).length = (enc1 p.turn).length + (enc1 p.num).length + (enc1 p.ahead).length + (enc1 p.behind).length + (enc1 (BitVec.ofNat 64 p.s.length)).length + p.s.length := by
    rw [bodyL, List.length_append, Pt.nums, encs_five_len]
  have hpl : partL p = sealL (bodyL p) ++ List.replicate (128 - ((bodyL p).length + 4)) 0 := by rw [partL, sealL_len]
  have c1 := fun w => refPut_any p.turn w
  have c2 := fun w => refPut_any p.num w
  have c3 := fun w => refPut_any p.ahead w
  have c4 := fun w => refPut_any p.behind w
  have c5 := fun w => refPut_any (BitVec.ofNat 64 p.s.length) w
  have hsl : p.s.length ≤ 124 := by omega
  rw [ofNat_toInt (by omega)] at c5
  have ht := part_text p
  have hz : (strB p.s).size = p.s.length := rfl
  have z1 : (str (enc1 p.turn)).size = (enc1 p.turn).length := rfl
  have z2 : (str (enc1 p.num)).size = (enc1 p.num).length := rfl
  have z3 : (str (enc1 p.ahead)).size = (enc1 p.ahead).length := rfl
  have z4 : (str (enc1 p.behind)).size = (enc1 p.behind).length := rfl
  have z5 : (str (enc1 (BitVec.ofNat 64 p.s.length))).size = (enc1 (BitVec.ofNat 64 p.s.length)).length := rfl
  obtain ⟨S, hS⟩ : ∃ S, S = strB p.s := ⟨_, rfl⟩
  obtain ⟨n, hn⟩ : ∃ n, n = p.s.length := ⟨_, rfl⟩
  obtain ⟨e1, he1⟩ : ∃ e, e = str (enc1 p.turn) := ⟨_, rfl⟩
  obtain ⟨e2, he2⟩ : ∃ e, e = str (enc1 p.num) := ⟨_, rfl⟩
  obtain ⟨e3, he3⟩ : ∃ e, e = str (enc1 p.ahead) := ⟨_, rfl⟩
  obtain ⟨e4, he4⟩ : ∃ e, e = str (enc1 p.behind) := ⟨_, rfl⟩
  obtain ⟨e5, he5⟩ : ∃ e, e = str (enc1 (BitVec.ofNat 64 p.s.length)) := ⟨_, rfl⟩
  rw [← str_is, ← str_is, ← str_is, ← str_is, ← str_is] at ht
  rw [← he1] at c1 z1 ht
  rw [← he2] at c2 z2 ht
  rw [← he3] at c3 z3 ht
  rw [← he4] at c4 z4 ht
  rw [← he5] at c5 z5 ht
  rw [← hS] at hz ht ⊢
  rw [← hn] at hz hbl hsl c5 z5
  obtain ⟨m, hm⟩ : ∃ m, m = (bodyL p).length := ⟨_, rfl⟩
  rw [← hm] at hb hbl hpl
  have q1 : e1.size ≤ 124 := by omega
  have r2 : e2.size ≤ 124 := by omega
  have r3 : e3.size ≤ 124 := by omega
  have r4 : e4.size ≤ 124 := by omega
  have r5 : e5.size ≤ 124 := by omega
  have q2 : (e1 ++ e2).size ≤ 124 := by rw [ByteArray.size_append]; omega
  have q3 : (e1 ++ e2 ++ e3).size ≤ 124 := by rw [ByteArray.size_append, ByteArray.size_append]; omega
  have q4 : (e1 ++ e2 ++ e3 ++ e4).size ≤ 124 := by rw [ByteArray.size_append, ByteArray.size_append, ByteArray.size_append]; omega
  have q5 : (e1 ++ e2 ++ e3 ++ e4 ++ e5).size ≤ 124 := by rw [ByteArray.size_append, ByteArray.size_append, ByteArray.size_append, ByteArray.size_append]; omega
  have q6 : (e1 ++ e2 ++ e3 ++ e4 ++ e5 ++ S).size = m := by rw [ByteArray.size_append, ByteArray.size_append, ByteArray.size_append, ByteArray.size_append, ByteArray.size_append]; omega
  have cs := fun w => refSeal_any (e1 ++ e2 ++ e3 ++ e4 ++ e5 ++ S) (by omega) w
  obtain ⟨B, hB⟩ : ∃ B, B = sealS (e1 ++ e2 ++ e3 ++ e4 ++ e5 ++ S) := ⟨_, rfl⟩
  have hBz : B.size = m + 4 := by rw [hB, sealS_size, q6]
  rw [← hB] at cs ht
  obtain ⟨g, hg⟩ : ∃ g, g = 128 - (m + 4) := ⟨_, rfl⟩
  rw [← hg] at hpl
  have hz9 : (strB (List.replicate g 0)).size = g := by rw [strB_size, List.length_replicate]
  have hg9 : g ≤ 124 := by omega
  obtain ⟨Z, hZ⟩ : ∃ Z, Z = strB (List.replicate g 0) := ⟨_, rfl⟩
  have HE : Hid (B ++ Z = strB (partL p)) := by
    show _ = _
    rw [ht, hZ, strB_append, hpl]
  have HZ : Hid (Z = strB (List.replicate g 0)) := hZ
  rw [← hZ] at hz9
  have hmI : (m : Int) ≤ 124 := by omega
  have hwI : (128 : Int) - ((m : Int) + 4) = (g : Int) := by omega
  clear hS he1 he2 he3 he4 he5 z1 z2 z3 z4 z5 hbl hpl hB ht hn hm hb hg hZ
  go_enter Try.func53, Try.ntmps53
  go_wp2_with fail
  refine (c1 _).mono ?_
  rintro e w1 ⟨rfl, hb1⟩
  go_wp2_with fail
  refine (c2 _).mono ?_
  rintro e w2 ⟨rfl, hb2⟩
  replace hb1 := hb1.trans (hb2.mono hb1.size)
  clear hb2
  go_wp2_with fail
  refine (c3 _).mono ?_
  rintro e w3 ⟨rfl, hb2⟩
  replace hb1 := hb1.trans (hb2.mono hb1.size)
  clear hb2
  go_wp2_with fail
  refine (c4 _).mono ?_
  rintro e w4 ⟨rfl, hb2⟩
  replace hb1 := hb1.trans (hb2.mono hb1.size)
  clear hb2
  go_wp2_with fail
  refine (c5 _).mono ?_
  rintro e w5 ⟨rfl, hb2⟩
  replace hb1 := hb1.trans (hb2.mono hb1.size)
  clear hb2
  go_wp2_with fail
  refine (cs _).mono ?_
  rintro e w6 ⟨rfl, hb2⟩
  replace hb1 := hb1.trans (hb2.mono hb1.size)
  clear hb2
  go_wp2_with (at_make; refine make_u8 rfl _ _ rfl rfl rfl rfl (by omega) ?_; intro w7 hrow hb7; have htx := hrow.text g; rw [List.length_replicate, ← HZ.out] at htx)
  go_ret
  exact ⟨congrArg (fun x => Ending.returned (.string x)) HE.out, hb1.trans (hb7.mono hb1.size)⟩
end Go.Proofs.Ytgffplfpoopolaa
/-
  Slices of ints that are read; the contract of package peristyleref01's Same, where both are the same numbers.
-/
namespace Go.Proofs.Ytgffplfpoopolaa
open Go.RowKit

/-- The slice v reads as the words l in the world w. -/
def ReadsI (w : World) (v : Value) (l : List (BitVec 64)) : Prop :=
  (l = [] ∧ ∃ a c, v = .slice a 0 c) ∨
  (∃ b off c, v = .slice (some ⟨b, off, none⟩) l.length c ∧ l ≠ [] ∧ b < w.heap.size ∧ ∀ i, i < l.length → w.cell? ⟨b, off + i, none⟩ = some (.int .i64 (l.getD i 0#64).toInt))
theorem ReadsI.below {w w' : World} {v : Value} {l : List (BitVec 64)} (h : ReadsI w v l) (hb : Below w.heap.size w w') : ReadsI w' v l := by
  rcases h with h | ⟨b, off, c, hv, hl, hbw, hc⟩
  · exact .inl h
  · exact .inr ⟨b, off, c, hv, hl, Nat.lt_of_lt_of_le hbw hb.size, fun i hi => (hb.cell (p := ⟨b, off + i, none⟩) hbw).trans (hc i hi)⟩
theorem OwnsI.reads {w : World} {B : Nat} {v : Value} {l : List (BitVec 64)} (h : OwnsI w B v l) : ReadsI w v l := by
  rcases h.cell with ⟨g, cap, rfl, _, hg, _, hc⟩ | ⟨rfl, rfl⟩
  · by_cases hl : l = []
    · subst hl; exact .inl ⟨rfl, _, _, rfl⟩
    · exact .inr ⟨g, 0, cap, rfl, hl, hg, fun i hi => by simpa using hc i hi⟩
  · exact .inl ⟨rfl, _, _, rfl⟩

end Go.Proofs.Ytgffplfpoopolaa
/-
  A slice of ints that came in, as words.
-/
namespace Go.Proofs.Ytgffplfpoopolaa
open Go.RowKit

/-- What a law's walk is told of a slice of integers that came in: it is nil, or its cells (elements, then spare room) hold the numbers zs, each of its kind. -/
def IsRow (k : IntKind) (w : World) (a : Option Addr) (len cap : Nat) (zs : List Int) : Prop :=
  (a = none ∧ len = 0 ∧ cap = 0 ∧ zs = []) ∨
  ∃ x, a = some x ∧ len ≤ cap ∧ cap ≤ maxLen ∧ zs.length = cap ∧ (∀ i, i < zs.length → w.cell? (x.add i) = some (.int k (zs.getD i 0))) ∧ ∀ n ∈ zs, (Lit.int k n).wf = true

theorem reads_of_row {w : World} {a : Option Addr} {len cap : Nat} {zs : List Int} (h : IsRow .i64 w a len cap zs) : ∃ l : List (BitVec 64), l.length = len ∧ ReadsI w (.slice a len cap) l := by
  rcases h with ⟨rfl, rfl, rfl, rfl⟩ | ⟨x, rfl, hlc, _, hzl, hc, hwf⟩
  · exact ⟨[], rfl, .inl ⟨rfl, _, _, rfl⟩⟩
  · refine ⟨(zs.take len).map (BitVec.ofInt 64), by simp; omega, ?_⟩
    by_cases h0 : len = 0
    · subst h0
      exact .inl ⟨by simp, _, _, rfl⟩
    · obtain ⟨b, off, spot⟩ := x
      have hc0 := hc 0 (by omega)
      have hspot : spot = none := by simpa [Addr.add] using World.cell?_spot hc0
      subst hspot
      have hbw : b < w.heap.size := by
        have := World.block_lt_of_cell? w _ hc0
        simpa [Addr.add] using this
      have hll : ((zs.take len).map (BitVec.ofInt 64)).length = len := by simp; omega
      refine .inr ⟨b, off, cap, by rw [hll], fun e => h0 (by rw [← hll, e]; rfl), hbw, fun i hi => ?_⟩
      rw [hll] at hi
      have hadd : (⟨b, off, none⟩ : Addr).add i = ⟨b, off + i, none⟩ := by unfold Addr.add; split <;> simp_all
      have hz := hc i (by omega)
      rw [hadd] at hz
      rw [hz]
      have hiz : i < zs.length := by omega
      have hmem : zs[i] ∈ zs := List.getElem_mem hiz
      obtain ⟨y, hy⟩ := Wd.word_of _ (hwf _ hmem)
      have e1 : zs.getD i 0 = zs[i] := by simp [hiz]
      have e2 : ((zs.take len).map (BitVec.ofInt 64)).getD i 0#64 = BitVec.ofInt 64 zs[i] := by
        simp [hi, hiz]
      rw [e1, e2, hy]
      simp
end Go.Proofs.Ytgffplfpoopolaa
/-
  Slices of texts: what they own and how they read; slices of numbers and of texts that are made at once and stored into; the string of any bytes of the call's own; a slice of texts that came in.
-/
namespace Go.Proofs.Ytgffplfpoopolaa
open Go.RowKit

def sv (l : List ByteArray) : List Value := l.map .string
def OwnsS (w : World) (B : Nat) (v : Value) (l : List ByteArray) : Prop := w.ownsRow B 9 1 v l.length (sv l)
theorem OwnsS.below {w w' : World} {B : Nat} {v : Value} {l : List ByteArray} (h : OwnsS w B v l) (hb : Below w.heap.size w w') : OwnsS w' B v l := ownsRow_below h hb
theorem OwnsS.base {w : World} {B B' : Nat} {v : Value} {l : List ByteArray} (h : OwnsS w B v l) (hb : B' ≤ B) : OwnsS w B' v l := ownsRow_base h hb
theorem ownsS_nil (w : World) (B : Nat) : OwnsS w B (.slice none 0 0) [] := World.ownsRow_nil w B _ _
theorem info_text : (Try.prog.info? 9).map (fun i => (i.zero, i.size, i.bytes)) = some (some (.string ByteArray.empty), 1, 16) := by kernel_rfl

/-- The slice v reads as the texts l in the world w. -/
def ReadsS (w : World) (v : Value) (l : List ByteArray) : Prop :=
  (l = [] ∧ ∃ a c, v = .slice a 0 c) ∨
  (∃ b off c, v = .slice (some ⟨b, off, none⟩) l.length c ∧ l ≠ [] ∧ b < w.heap.size ∧ ∀ i t, l[i]? = some t → w.cell? ⟨b, off + i, none⟩ = some (.string t))
theorem ReadsS.below {w w' : World} {v : Value} {l : List ByteArray} (h : ReadsS w v l) (hb : Below w.heap.size w w') : ReadsS w' v l := by
  rcases h with h | ⟨b, off, c, hv, hl, hbw, hc⟩
  · exact .inl h
  · exact .inr ⟨b, off, c, hv, hl, Nat.lt_of_lt_of_le hbw hb.size, fun i t hi => (hb.cell (p := ⟨b, off + i, none⟩) hbw).trans (hc i t hi)⟩
theorem add0 (g i : Nat) : (⟨g, 0, none⟩ : Addr).add i = ⟨g, i, none⟩ := by unfold Addr.add; split <;> simp_all
theorem OwnsS.reads {w : World} {B : Nat} {v : Value} {l : List ByteArray} (h : OwnsS w B v l) : ReadsS w v l := by
  have hc := @World.ownsRow.cells _ _ _ _ _ _ _ h
  have hlt := h.lt
  rcases h.2 with ⟨rfl, h0⟩ | ⟨g, cap, cur, rfl, hb, hg, hcap, _⟩
  · exact .inl ⟨List.eq_nil_of_length_eq_zero h0, _, _, rfl⟩
  · by_cases hl : l = []
    · subst hl; exact .inl ⟨rfl, _, _, rfl⟩
    · refine .inr ⟨g, 0, cap, rfl, hl, (hlt g rfl).2, fun i t hi => ?_⟩
      have hx := hc rfl i (.string t) (by simp [sv, hi])
      rw [add0] at hx
      rw [Nat.zero_add]
      exact hx

/-- 's = append(s, t)', s the call's own, of texts. -/
theorem append_s {ops : Array Oper} {rest : List Oper} {o : Oper} {a : Act} {Q : Exit → Act → World → Prop} (hgd : o.guard = none) (s x : Operand)
    (ho : o.op = .call { callee := .builtin .append, args := #[s, x], argTypes := #[27, 27] })
    {w : World} {B : Nat} {v : Value} {l : List ByteArray} {t : ByteArray} (hs : a.eval s = v) (hx : a.eval x = .slice (some ⟨w.heap.size, 0, none⟩) 1 1)
    (hown : OwnsS w B v l) (hB : B ≤ w.heap.size) (hl : l.length + 1 ≤ 1000000)
    (h : ∀ v' w', OwnsS w' B v' (l ++ [t]) → Below B w w' → wpList Try.prog ops Q rest (a.put o.dst v') w') :
    wpList Try.prog ops Q (o :: rest) a (w.alloc (.cells #[.string t] 9)) := by
  obtain ⟨i0, hi, hz0, hz1, hz2⟩ := info_parts info_text
  refine wpList_append_own _ hgd s x 27 ho B 9 i0 (.string ByteArray.empty) 1 16 Try.underlying27 hi hz0 hz1 hz2 rfl (by decide) v l.length (sv l) hs (World.ownsRow.alloc hown _) ⟨w.heap.size, 0, none⟩ 1 1 [.string t] hx rfl (cell_one_new _ _ _) ?_ ?_ ?_ ?_ ?_
  · intro u hu; simp at hu; subst hu; rfl
  · simp only [maxLen]; omega
  · omega
  · simp; omega
  · intro v' w' hown' hgrow _
    refine h v' w' ?_ ?_
    · simpa [OwnsS, sv] using hown'
    · refine ((Below.refl B w).alloc hB _).grown hgrow (by simp; omega) fun k hk => (hown.lt k hk).1

/-- 'make([]byte, 0, n)'. -/
theorem make_bytes {ops : Array Oper} {rest : List Oper} {o : Oper} {a : Act} {Q : Exit → Act → World → Prop} (hgd : o.guard = none) (l c : Operand) (hop : o.op = Op.makeSlice 60 l c)
    {w : World} {C : Int} {n B : Nat} (hl : a.eval l = .int .i64 0) (hc : a.eval c = .int .i64 C) (hC : C = (n : Int)) (hn : n ≤ 1000000) (hB : B ≤ w.heap.size)
    (h : ∀ v' w', OwnsB w' B v' [] → Below B w w' → wpList Try.prog ops Q rest (a.put o.dst v') w') : wpList Try.prog ops Q (o :: rest) a w := by
  obtain ⟨i0, hi, hz0, hz1, hz2⟩ := info_parts info_u8
  refine wpList_make_own w hgd l c 60 hop B 5 i0 (.int .u8 0) 1 Try.underlying60 hi hz0 hz1 _ _ C n hl hc hC ?_ ?_ hB ?_
  · rw [hz2]; omega
  · unfold maxLen; omega
  · intro w' hown hg
    exact h _ w' hown ((Below.refl B w).grown hg hB (fun k hk => by cases hk))
/-- 'make([]int, n)'. -/
theorem make_ints {ops : Array Oper} {rest : List Oper} {o : Oper} {a : Act} {Q : Exit → Act → World → Prop} (hgd : o.guard = none) (l c : Operand) (hop : o.op = Op.makeSlice 44 l c)
    {w : World} {C : Int} {n B : Nat} (hl : a.eval l = .int .i64 C) (hc : a.eval c = .int .i64 C) (hC : C = (n : Int)) (hn : n ≤ 1000000) (hB : B ≤ w.heap.size)
    (h : ∀ w', OwnsI w' B (.slice (some ⟨w.heap.size, 0, none⟩) n n) (List.replicate n 0#64) → Below B w w' → wpList Try.prog ops Q rest (a.put o.dst (.slice (some ⟨w.heap.size, 0, none⟩) n n)) w') : wpList Try.prog ops Q (o :: rest) a w := by
  obtain ⟨i0, hi, hz0, hz1, hz2⟩ := info_parts info_i64
  refine wpList_make_full w hgd l c 44 hop B 3 i0 (.int .i64 0) 1 Try.underlying44 hi hz0 hz1 _ _ C C n hl hc hC hC ?_ ?_ hB ?_
  · rw [hz2]; omega
  · unfold maxLen; omega
  · intro w' hown hg
    refine h w' ?_ ((Below.refl B w).grown hg hB (fun k hk => by cases hk))
    have e : (madeCells (Value.int IntKind.i64 0).cells (n * 1)).toList = iv (List.replicate n 0#64) := by
      rw [Nat.mul_one, show (Value.int IntKind.i64 0).cells = #[.int .i64 0] from rfl, toList_madeCells_one]
      simp [iv]
    rw [e] at hown
    unfold OwnsI
    rw [List.length_replicate]
    exact hown
/-- 'make([]string, n)'. -/
theorem make_strs {ops : Array Oper} {rest : List Oper} {o : Oper} {a : Act} {Q : Exit → Act → World → Prop} (hgd : o.guard = none) (l c : Operand) (hop : o.op = Op.makeSlice 27 l c)
    {w : World} {C : Int} {n B : Nat} (hl : a.eval l = .int .i64 C) (hc : a.eval c = .int .i64 C) (hC : C = (n : Int)) (hn : n ≤ 1000000) (hB : B ≤ w.heap.size)
    (h : ∀ w', OwnsS w' B (.slice (some ⟨w.heap.size, 0, none⟩) n n) (List.replicate n ByteArray.empty) → Below B w w' → wpList Try.prog ops Q rest (a.put o.dst (.slice (some ⟨w.heap.size, 0, none⟩) n n)) w') : wpList Try.prog ops Q (o :: rest) a w := by
  obtain ⟨i0, hi, hz0, hz1, hz2⟩ := info_parts info_text
  refine wpList_make_full w hgd l c 27 hop B 9 i0 (.string ByteArray.empty) 1 Try.underlying27 hi hz0 hz1 _ _ C C n hl hc hC hC ?_ ?_ hB ?_
  · rw [hz2]; omega
  · unfold maxLen; omega
  · intro w' hown hg
    refine h w' ?_ ((Below.refl B w).grown hg hB (fun k hk => by cases hk))
    have e : (madeCells (Value.string ByteArray.empty).cells (n * 1)).toList = sv (List.replicate n ByteArray.empty) := by
      rw [Nat.mul_one, show (Value.string ByteArray.empty).cells = #[.string ByteArray.empty] from rfl, toList_madeCells_one]
      simp [sv]
    rw [e] at hown
    unfold OwnsS
    rw [List.length_replicate]
    exact hown
/-- A store into such a slice. -/
theorem OwnsI.store {w : World} {B g n cap : Nat} {l : List (BitVec 64)} (h : OwnsI w B (.slice (some ⟨g, 0, none⟩) n cap) l) (hn : n = l.length) (k : Nat) (hk : k < l.length) (x : BitVec 64) :
    w.cell? ⟨g, k, none⟩ = some (.int .i64 (l.getD k 0#64).toInt) ∧ w.frozen? ⟨g, k, none⟩ = false ∧ OwnsI (w.setCell ⟨g, k, none⟩ (.int .i64 x.toInt)) B (.slice (some ⟨g, 0, none⟩) n cap) (l.set k x) ∧ B ≤ g := by
  subst hn
  refine ⟨?_, World.ownsRow.frozenAt h k, ?_, (h.lt g rfl).1⟩
  · rw [World.ownsRow.cellAt h k (by omega)]
    simp [iv, hk]
  · have := (World.ownsRow.stored h k (.int .i64 x.toInt)).1
    unfold OwnsI
    rw [List.length_set]
    have e : (iv l).set k (.int .i64 x.toInt) = iv (l.set k x) := by simp [iv, List.map_set]
    rw [e] at this
    exact this
theorem OwnsS.store {w : World} {B g n cap : Nat} {l : List ByteArray} (h : OwnsS w B (.slice (some ⟨g, 0, none⟩) n cap) l) (hn : n = l.length) (k : Nat) (hk : k < l.length) (x : ByteArray) :
    (∃ t, w.cell? ⟨g, k, none⟩ = some (.string t)) ∧ w.frozen? ⟨g, k, none⟩ = false ∧ OwnsS (w.setCell ⟨g, k, none⟩ (.string x)) B (.slice (some ⟨g, 0, none⟩) n cap) (l.set k x) ∧ B ≤ g := by
  subst hn
  refine ⟨⟨l[k], ?_⟩, World.ownsRow.frozenAt h k, ?_, (h.lt g rfl).1⟩
  · rw [World.ownsRow.cellAt h k (by omega)]
    simp [sv, hk]
  · have := (World.ownsRow.stored h k (.string x)).1
    unfold OwnsS
    rw [List.length_set]
    have e : (sv l).set k (.string x) = sv (l.set k x) := by simp [sv, List.map_set]
    rw [e] at this
    exact this
theorem set_mid {α : Type} (d : List α) (g : Nat) (z x : α) (k : Nat) (hk : d.length = k) : (d ++ List.replicate (g + 1) z).set k x = (d ++ [x]) ++ List.replicate g z := by
  subst hk
  rw [List.set_append_right _ _ (Nat.le_refl _), Nat.sub_self, List.replicate_succ, List.set_cons_zero, List.append_assoc]
  rfl
/-- 'string(s)', s the call's own, of bytes. -/
theorem convert_all {w : World} {B : Nat} {v : Value} {l : List UInt8} (hown : OwnsB w B v l) :
    (convert 60 9 v).run Try.prog w = .ok (.string ⟨l.toArray⟩) w := by
  rcases Nat.eq_zero_or_pos l.length with h0 | hp
  · have hl : l = [] := List.eq_nil_of_length_eq_zero h0
    subst hl
    rcases hown.2 with ⟨rfl, _⟩ | ⟨g, cap, cur, rfl, _, _, _⟩
    · exact run_convert_bytes_nil w 60 5 Try.underlying60 Try.underlying5 _ _ 9 Try.underlying9
    · rw [run_convert_bytes_string w _ _ 5 _ _ _ Try.underlying60 Try.underlying5 Try.underlying9]
      have hload : (loadCells ⟨g, 0, none⟩ 0).run Try.prog w = .ok (([] : List Int).map (Value.int .u8)).toArray w := by
        have := run_loadCells_list (P := Try.prog) w ⟨g, 0, none⟩ [] (by intro j u h; simp at h)
        simpa using this
      have := run_bytesToString (P := Try.prog) w ⟨g, 0, none⟩ 0 cap [] hload
      exact this
  · exact convert_own hown hp
/-- Texts that came in. -/
theorem strs_of {H : Type} {enc : TypeId × Value → H} {W : World} {base : Nat} {sp : Nat → Bool} {hd : Bool} {fuel : Nat} {a : Option Addr} {len cap : Nat} {x : DataW H × List MemPlace}
    (h : DataW.trod enc Try.prog W base sp hd fuel 27 [.slice a len cap] = some x) : ∃ l : List ByteArray, l.length = len ∧ ReadsS W (.slice a len cap) l ∧ l.length ≤ maxLen := by
  rcases Go.Deep.open_strs Try.underlying27 Try.underlying9 (by kernel_rfl) h with ⟨h0, _⟩ | ⟨ad, ln, cp, m, Sx, hv, _, hl, hm, hmm, _, hx⟩
  · simp at h0
    obtain ⟨rfl, rfl, rfl⟩ := h0
    exact ⟨[], rfl, .inl ⟨rfl, _, _, rfl⟩, Nat.zero_le _⟩
  · simp at hv
    obtain ⟨rfl, rfl, rfl⟩ := hv
    have hlm : len ≤ m := by rw [hmm]; split <;> omega
    refine ⟨(List.range len).map Sx, by simp, ?_, by simp; omega⟩
    rcases Nat.eq_zero_or_pos len with rfl | hpos
    · exact .inl ⟨rfl, _, _, rfl⟩
    · obtain ⟨b, off, spot⟩ := ad
      have hc0 := (hx 0 (by omega)).1
      have hspot : spot = none := by simpa [Addr.add] using World.cell?_spot hc0
      subst hspot
      have hbw : b < W.heap.size := by
        have := World.block_lt_of_cell? W _ hc0
        simpa [Addr.add] using this
      have hll : ((List.range len).map Sx).length = len := by simp
      refine .inr ⟨b, off, cap, by rw [hll], fun e => by rw [e] at hll; simp at hll; omega, hbw, fun i t hi => ?_⟩
      have hadd : (⟨b, off, none⟩ : Addr).add i = ⟨b, off + i, none⟩ := by unfold Addr.add; split <;> simp_all
      have hil : i < len := by
        have := (List.getElem?_eq_some_iff.1 hi).1
        rwa [hll] at this
      rw [List.getElem?_map, List.getElem?_range hil] at hi
      simp at hi
      subst hi
      rw [← hadd]
      exact (hx i (by omega)).1
end Go.Proofs.Ytgffplfpoopolaa
/-
  The contract of package peristyleref23's Blocks.
-/
namespace Go.Proofs.Ytgffplfpoopolaa
open Go.RowKit

/-- A record's blocks, as texts. -/
def blks (turn : BitVec 64) (first : Nat) (s : List UInt8) : List ByteArray := (List.range (needs s.length)).map fun i => strB (blkL turn first s i)
theorem blks_len (turn : BitVec 64) (first : Nat) (s : List UInt8) : (blks turn first s).length = needs s.length := by simp [blks]
theorem blks_at (turn : BitVec 64) (first : Nat) (s : List UInt8) {i : Nat} (hi : i < needs s.length) : (blks turn first s)[i]? = some (strB (blkL turn first s i)) := by
  simp [blks, hi]
theorem extract_piece (s : List UInt8) (a b : Nat) : (strB s).extract a b = strB ((s.drop a).take (b - a)) := by
  apply ByteArray.ext
  rw [ByteArray.data_extract]
  apply Array.ext'
  simp [strB]
theorem piece_cut (s : List UInt8) (i : Nat) : (strB s).extract (96 * i) (min s.length (96 * i + 96)) = strB (piece s i) := by
  by_cases h : 96 * i ≤ s.length
  · rw [extract_piece, piece]
    congr 1
    by_cases h2 : 96 * i + 96 ≤ s.length
    · rw [Nat.min_eq_right h2, show 96 * i + 96 - 96 * i = 96 by omega]
    · rw [Nat.min_eq_left (by omega), List.take_of_length_le (by simp), List.take_of_length_le (by simp; omega)]
  · apply ByteArray.ext
    rw [ByteArray.data_extract]
    apply Array.ext'
    have : s.drop (96 * i) = [] := List.drop_eq_nil_of_le (by omega)
    simp [strB, piece, this]
set_option maxRecDepth 4000 in
set_option maxHeartbeats 1000000 in
theorem refBlocks_any (turn : BitVec 64) (first : Nat) (hf : first ≤ 10000) (s : List UInt8) (h1 : 1 ≤ s.length) (h2 : s.length ≤ 8192) (w : World) :
    Calls Try.prog 37 #[.int .i64 turn.toInt, .int .i64 first, .string (strB s)] w fun e w' => (∃ v, e = .returned v ∧ OwnsS w' w.heap.size v (blks turn first s)) ∧ Below w.heap.size w w' := by
  have cn := fun w => refNeeds_any (s.length : Int) w
  rw [needsI_nat h1 h2] at cn
  have hN := needs_le h2
  have hN0 := needs_pos h1
  have hNd : needs s.length = (s.length + 95) / 96 := rfl
  have HB : Hid (blks turn first s = (List.range (needs s.length)).map fun i => strB (blkL turn first s i)) := rfl
  have cp : ∀ k : Nat, k < needs s.length → ∀ w, Calls Try.prog 53 #[.int .i64 turn.toInt, .int .i64 ((first : Int) + (k : Int)), .int .i64 (k : Int), .int .i64 ((needs s.length : Int) - 1 - (k : Int)), .string ((strB s).extract (96 * k) (min s.length (96 * k + 96)))] w fun e w' => e = .returned (.string (strB (blkL turn first s k))) ∧ Below w.heap.size w w' := by
    intro k hk w
    have := refPart_any (ptAt turn first s k) (Nat.le_trans (body_len (ptAt_may turn first h1 h2 hk)) (by omega)) w
    rw [piece_cut]
    rw [show (ptAt turn first s k).turn = turn from rfl, show (ptAt turn first s k).num = BitVec.ofNat 64 (first + k) from rfl, show (ptAt turn first s k).ahead = BitVec.ofNat 64 k from rfl, show (ptAt turn first s k).behind = BitVec.ofNat 64 (needs s.length - 1 - k) from rfl, show (ptAt turn first s k).s = piece s k from rfl, ofNat_toInt (by omega), ofNat_toInt (by omega), ofNat_toInt (by omega)] at this
    rw [show ((first + k : Nat) : Int) = (first : Int) + (k : Int) by omega, show ((needs s.length - 1 - k : Nat) : Int) = (needs s.length : Int) - 1 - (k : Int) by omega] at this
    exact this
  have HP := cp
  have hz : (strB s).size = s.length := rfl
  obtain ⟨N, hNn⟩ : ∃ N, N = needs s.length := ⟨_, rfl⟩
  obtain ⟨L, hL⟩ : ∃ L, L = s.length := ⟨_, rfl⟩
  rw [← hNn] at cn cp HP hN hN0 hNd HB
  rw [← hL] at cn cp HP hNd hz h1 h2
  obtain ⟨S, hS⟩ : ∃ S, S = strB s := ⟨_, rfl⟩
  rw [← hS] at cp HP hz ⊢
  have hfI : (first : Int) ≤ 10000 := by omega
  have hNI : (N : Int) ≤ 86 := by omega
  have HNd : Hid (N = (L + 95) / 96) := hNd
  clear hNn hL hS hNd
  replace HP : Hid (∀ k : Nat, k < N → ∀ w, Calls Try.prog 53 #[.int .i64 turn.toInt, .int .i64 ((first : Int) + (k : Int)), .int .i64 (k : Int), .int .i64 ((N : Int) - 1 - (k : Int)), .string (S.extract (96 * k) (min L (96 * k + 96)))] w fun e w' => e = .returned (.string (strB (blkL turn first s k))) ∧ Below w.heap.size w w') := HP
  clear cp
  go_enter Try.func37, Try.ntmps37
  go_wp2_with (go_at_call 36; refine (cn _).mono ?_; rintro e w1 ⟨rfl, hw1⟩; replace hw1 := hw1.symm; subst hw1)
  go_loopg [8, 9] N (fun g s8 s9 wx => ∃ k : Nat, k + g = N ∧ s9 = .int .i64 k ∧ OwnsS wx w.heap.size s8 ((List.range k).map fun i => strB (blkL turn first s i)) ∧ Below w.heap.size w wx)
  case atStart => exact ⟨0, by omega, rfl, ownsS_nil _ _, Below.refl _ _⟩
  case round =>
    obtain ⟨k, hkg, rfl, hown, hb⟩ := hrel
    by_cases hk : k < N
    · have hkI : (k : Int) < (N : Int) := by omega
      have c := HP.out k hk
      have hsn : (List.range (k + 1)).map (fun i => strB (blkL turn first s i)) = ((List.range k).map fun i => strB (blkL turn first s i)) ++ [strB (blkL turn first s k)] := by
        rw [List.range_succ, List.map_append]; rfl
      have hll : ((List.range k).map fun i => strB (blkL turn first s i)).length = k := by simp
      obtain ⟨D, hD⟩ : ∃ D, D = (List.range k).map fun i => strB (blkL turn first s i) := ⟨_, rfl⟩
      obtain ⟨T, hT⟩ : ∃ T, T = strB (blkL turn first s k) := ⟨_, rfl⟩
      rw [← hD] at hown hsn hll
      rw [← hT] at c hsn
      have HS : Hid ((List.range (k + 1)).map (fun i => strB (blkL turn first s i)) = D ++ [T]) := hsn
      clear hsn hD hT
      have hbd : 96 * (k : Int) ≤ (L : Int) := by have := HNd.out; omega
      by_cases hm : (L : Int) ≤ 96 * (k : Int) + 96
      case' pos =>
        rw [Nat.min_eq_left (by omega)] at c
      case' neg =>
        rw [Nat.min_eq_right (by omega)] at c
        have hm2 : 96 * (k : Int) + 96 ≤ (L : Int) := by omega
      all_goals
        go_wp2_with fail
        refine (c _).mono ?_
        rintro e w2 ⟨rfl, hb2⟩
        have hown2 := hown.below (hb2.mono (Nat.le_refl _))
        replace hb2 := hb.trans (hb2.mono hb.size)
        have hsz := hb2.size
        go_wp2_with (at_builtin; refine append_s rfl (.tmp 18) (.tmp 39) rfl rfl rfl hown2 ?hB ?hl ?_; (case hB => omega); (case hl => omega); intro v3 w3 hown3 hb3)
        go_roundg (N - (k + 1))
        case measure => omega
        case rel =>
          refine ⟨k + 1, by omega, by go_num, ?_, hb2.trans hb3⟩
          rw [HS.out]
          exact hown3
    · have hkI : ¬ (k : Int) < (N : Int) := by omega
      have hkN : k = N := by omega
      subst hkN
      go_wp2
      go_ret
      refine ⟨⟨_, rfl, ?_⟩, hb⟩
      rw [HB.out]
      exact hown
end Go.Proofs.Ytgffplfpoopolaa
/-
  Regions that draw their order, whose last operation waits for all others: where these are quiet in a class of worlds, the walk in the order of the text serves, and the last operation is done in whatever world of the class. No program is spoken of.
-/
namespace Go.Proofs.Ytgffplfpoopolaa
open Go.RowKit

/-- What the text of the region must be. -/
def lastB (L : List Oper) : Bool :=
  Region.lexB .any L.dropLast.toArray &&
  (match L.getLast? with
    | some z => z.guard.isNone && ((List.range L.dropLast.length).all fun i => z.after.any fun e => Region.binds .any e && (e.on == i || (match L.dropLast[e.on]? with | some o => o.after.any fun e' => Region.binds .any e' && e'.on == i | none => false))) && (z.after.all fun e => !Region.binds .any e || decide (e.on < L.dropLast.length))
    | none => false) &&
  ((List.range L.dropLast.length).all fun j => match L.dropLast[j]? with
    | some o => (o.after.all fun e => !Region.binds .any e || decide (e.on < j)) && (match o.guard with | some (k, _) => decide (k < L.dropLast.length) | none => true)
    | none => true)

section
variable {P : Program} {l : List Oper} {z : Oper} {Q : Exit → Act → World → Prop}

theorem push_get (l : List Oper) (z : Oper) (j : Nat) (hj : j < l.length) : (l ++ [z]).toArray[j]? = l.toArray[j]? := by
  simp [List.getElem?_append_left hj]
theorem yielded_push (l : List Oper) (z : Oper) (t : Array Value) (j : Nat) (hj : j < l.length) : yielded (l ++ [z]).toArray t j = yielded l.toArray t j := by
  unfold yielded
  rw [push_get l z j hj]
theorem wanted_push (o : Oper) (hg : ∀ k b, o.guard = some (k, b) → k < l.length) (t : Array Value) : Region.wanted o (yielded (l ++ [z]).toArray t) = Region.wanted o (yielded l.toArray t) := by
  unfold Region.wanted
  split
  · rfl
  · rename_i k b hk
    rw [yielded_push l z t k (hg k b hk)]
theorem listed_push (a : Array Bool) (j : Nat) (d : Bool) (hj : j < a.size) : (a.push false).getD j d = a.getD j d := by
  simp [Array.getElem?_push, Nat.ne_of_lt hj]
theorem listed_pushF (a : Array Bool) (j : Nat) : (a.push false).getD j false = a.getD j false := by
  by_cases h : j < a.size
  · exact listed_push a j false h
  · by_cases e : j = a.size
    · subst e; simp
    · simp [Array.getElem?_push, e]
/-- How many have not come up. -/
def unl (a : Array Bool) : Nat := a.toList.count false
theorem unl_set (a : Array Bool) (i : Nat) (h : a.getD i true = false) : unl (a.setIfInBounds i true) + 1 = unl a := by
  have hi : i < a.size := by
    rcases Nat.lt_or_ge i a.size with h' | h'
    · exact h'
    · simp [Array.getElem?_eq_none h'] at h
  have h0 : a.toList[i]'(by simpa using hi) = false := by simpa [hi] using h
  unfold unl
  rw [Array.toList_setIfInBounds, List.count_set (by simpa using hi), h0]
  have h1 : false ∈ a.toList := by
    have hm := List.getElem_mem (l := a.toList) (n := i) (by simpa using hi)
    rwa [h0] at hm
  have h2 : 0 < a.toList.count false := List.count_pos_iff.2 h1
  have e1 : (false == false) = true := rfl
  have e2 : (true == false) = false := rfl
  simp only [e1, e2, if_true, Bool.false_eq_true, if_false]
  omega
theorem unl_pos (a : Array Bool) (h : 0 < unl a) : ∃ i, i < a.size ∧ a.getD i true = false ∧ ∀ j, j < i → a.getD j true = true := by
  have hm : false ∈ a.toList := List.count_pos_iff.1 h
  obtain ⟨i, hi, he⟩ := List.getElem_of_mem hm
  have hex : ∃ i, i < a.size ∧ a.getD i true = false := ⟨i, by simpa using hi, by simp at hi; simp [hi]; simpa using he⟩
  obtain ⟨n, hn⟩ : ∃ n, n = a.size := ⟨_, rfl⟩
  have key : ∀ n, (∃ i, i < n ∧ i < a.size ∧ a.getD i true = false) → ∃ i, i < a.size ∧ a.getD i true = false ∧ ∀ j, j < i → a.getD j true = true := by
    intro n
    induction n with
    | zero => rintro ⟨i, hi, _⟩; omega
    | succ n ih =>
      rintro ⟨i, hi, h1, h2⟩
      by_cases hx : ∃ i, i < n ∧ i < a.size ∧ a.getD i true = false
      · exact ih hx
      · refine ⟨i, h1, h2, fun j hj => ?_⟩
        cases hb : a.getD j true with
        | true => rfl
        | false => exact absurd ⟨j, by omega, by omega, hb⟩ hx
  obtain ⟨i, h1, h2⟩ := hex
  exact key (i + 1) ⟨i, by omega, h1, h2⟩
theorem unl_zero (a : Array Bool) (h : unl a = 0) (j : Nat) (hj : j < a.size) : a.getD j false = true := by
  cases hb : a.getD j false with
  | true => rfl
  | false =>
    have : false ∈ a.toList := by
      have h0 : a[j] = false := by simpa [hj] using hb
      rw [← h0]
      exact Array.getElem_mem_toList hj
    have := List.count_pos_iff.2 this
    unfold unl at h
    omega

theorem ready_lt {listed : Array Bool} (hs : listed.size = l.length) {j : Nat} (hj : j < l.length) : j ∈ Region.ready .any (l ++ [z]).toArray (listed.push false) ↔ j ∈ Region.ready .any l.toArray listed := by
  rw [mem_ready, mem_ready, push_get l z j hj, listed_push listed j true (by omega)]
  constructor
  · rintro ⟨h1, o, ho, h2⟩
    exact ⟨h1, o, ho, fun e he hb => by rw [← listed_pushF]; exact h2 e he hb⟩
  · rintro ⟨h1, o, ho, h2⟩
    exact ⟨h1, o, ho, fun e he hb => by rw [listed_pushF]; exact h2 e he hb⟩
theorem ready_top {ops : Array Oper} {listed : Array Bool} {j : Nat} (h : j ∈ Region.ready .any ops listed) : j < ops.size := by
  obtain ⟨_, o, ho, _⟩ := mem_ready.1 h
  exact (Array.getElem?_eq_some_iff.1 ho).1
/-- What is asked behind the others: the last operation. -/
def Then (P : Program) (z : Oper) (Q : Exit → Act → World → Prop) : Exit → Act → World → Prop
  | .normal, a, w => z.wp P a w (fun a w => Q .normal a w) Q
  | e, a, w => Q e a w
theorem then_panic {d : Option Tmp} {v : Value} (hQ : ∀ c a w, Q (.panic c) (a.put d v) w → Q (.panic c) a w) : ∀ c a w, Then P z Q (.panic c) (a.put d v) w → Then P z Q (.panic c) a w := hQ
theorem wp_then {o : Oper} {a : Act} {w : World} {K K' : Act → World → Prop} (h : ∀ a w, K a w → K' a w) (hh : o.wp P a w K (Then P z Q)) : o.wp P a w K' Q := by
  unfold Oper.wp at *
  generalize (execOp a.eval o).run P w = r at *
  cases r with
  | ok n w' =>
    cases n <;> simp only [Oper.upon] at hh ⊢
    case value => exact h _ _ hh
    case skip => exact h _ _ hh
    case defer => exact h _ _ hh
    case enter =>
      refine Calls.mono hh (fun e w'' he => ?_)
      cases e with
      | returned v => exact h _ _ he
      | panicked c => exact he
      | outgrown => exact he
    case row => exact Rows.mono hh (fun _ _ he => h _ _ he)
  | halt x w' => cases x <;> simp only [Oper.upon] at hh ⊢ <;> exact hh
theorem any_of_pre (hdep : ∀ j o, l[j]? = some o → (∀ e ∈ o.after, Region.binds .any e = true → e.on < j) ∧ ∀ k b, o.guard = some (k, b) → k < l.length)
    (hz : z.guard = none) (hw : ∀ i, i < l.length → ∃ e ∈ z.after, Region.binds .any e = true ∧ (e.on = i ∨ ∃ o, l[e.on]? = some o ∧ ∃ e' ∈ o.after, Region.binds .any e' = true ∧ e'.on = i)) (hze : ∀ e ∈ z.after, Region.binds .any e = true → e.on < l.length) :
    ∀ (fuel : Nat) (listed : Array Bool) (a : Act) (w : World), listed.size = l.length → unl listed = fuel → (∀ j o, l[j]? = some o → listed.getD j false = true → ∀ e ∈ o.after, Region.binds .any e = true → listed.getD e.on false = true) →
      wpAny P .any l.toArray (Then P z Q) fuel listed a w → wpAny P .any (l ++ [z]).toArray Q (fuel + 1) (listed.push false) a w := by
  intro fuel
  induction fuel with
  | zero =>
    intro listed a w hs hu _ h
    have hall := unl_zero listed hu
    have hone : ∀ j, j < l.length → ¬ (listed.getD j true = false) := fun j hj e => by
      have h1 := hall j (by omega)
      have hj' : j < listed.size := by omega
      simp [hj'] at e h1
      rw [e] at h1
      cases h1
    have hrz : l.length ∈ Region.ready .any (l ++ [z]).toArray (listed.push false) := by
      rw [mem_ready]
      refine ⟨by simp [← hs], z, by simp, fun e he hb => ?_⟩
      rw [listed_pushF]
      exact hall _ (by have := hze e he hb; omega)
    refine ⟨fun h0 => (by rw [h0] at hrz; cases hrz), fun i hi => ?_⟩
    have hlt := ready_top hi
    have hil : i = l.length := by
      simp at hlt
      rcases Nat.lt_or_ge i l.length with h' | h'
      · have := (mem_ready.1 hi).1
        rw [listed_push listed i true (by omega)] at this
        exact absurd this (hone i h')
      · omega
    subst hil
    have hsz : (l ++ [z]).toArray[l.length]? = some z := by simp
    unfold wpOp
    simp only [hsz, Region.wanted, hz, if_true]
    have hlast : z.wp P a w (fun a w => Q .normal a w) Q := h.2
    refine .inl (Oper.wp_mono (fun a' w' hq => ⟨?_, hq⟩) hlast)
    cases hr : Region.ready .any (l ++ [z]).toArray ((listed.push false).setIfInBounds l.length true) with
    | nil => rfl
    | cons x xs =>
      have hx : x ∈ Region.ready .any (l ++ [z]).toArray ((listed.push false).setIfInBounds l.length true) := by rw [hr]; simp
      have hxt := ready_top hx
      have hx1 := (mem_ready.1 hx).1
      simp at hxt
      by_cases e : x = l.length
      · subst e
        simp [← hs] at hx1
      · rw [getD_set_ne true (fun h' => e h'.symm), listed_push listed x true (by omega)] at hx1
        exact absurd hx1 (hone x (by omega))
  | succ fuel ih =>
    intro listed a w hs hu hcl h
    obtain ⟨i0, hi0, hf0, hmin⟩ := unl_pos listed (by omega)
    have hr0 : i0 ∈ Region.ready .any l.toArray listed := by
      have hsome : l[i0]? = some l[i0] := List.getElem?_eq_getElem (by omega)
      rw [mem_ready]
      refine ⟨hf0, l[i0], by simp, fun e he hb => ?_⟩
      have hlt := (hdep i0 _ hsome).1 e he hb
      have h1 := hmin _ hlt
      have h2 : e.on < listed.size := by omega
      simp [h2] at h1 ⊢
      exact h1
    have hr1 := (ready_lt (z := z) hs (by omega)).2 hr0
    refine ⟨fun h0 => (by rw [h0] at hr1; cases hr1), fun i hi => ?_⟩
    have hlt := ready_top hi
    have hil : i < l.length := by
      simp at hlt
      rcases Nat.lt_or_ge i l.length with h' | h'
      · exact h'
      · have e : i = l.length := by omega
        subst e
        obtain ⟨_, o, ho, hall⟩ := mem_ready.1 hi
        have hsz : (l ++ [z]).toArray[l.length]? = some z := by simp
        rw [hsz] at ho
        cases ho
        obtain ⟨e, he, hb, heq⟩ := hw i0 (by omega)
        have this := hall e he hb
        rw [listed_pushF] at this
        have this : listed.getD i0 false = true := by
          rcases heq with heq | ⟨o, ho, e', he', hb', heq⟩
          · rw [heq] at this; exact this
          · have h1 := hcl e.on o ho this e' he' hb'
            rw [heq] at h1
            exact h1
        simp [hi0] at this hf0
        rw [hf0] at this
        cases this
    have hi' := (ready_lt (z := z) hs hil).1 hi
    have hq := h.2 i hi'
    obtain ⟨hun, o, ho, hrd⟩ := mem_ready.1 hi'
    have ho' : l[i]? = some o := by simpa using ho
    have hset : (listed.push false).setIfInBounds i true = (listed.setIfInBounds i true).push false := by
      apply Array.ext'
      simp [List.set_append_left, hs, hil]
    have hus := unl_set listed i hun
    have hkeep : ∀ j, listed.getD j false = true → (listed.setIfInBounds i true).getD j false = true := fun j hj => by
      by_cases e : i = j
      · subst e
        have : i < listed.size := by omega
        simp [this]
      · rw [getD_set_ne false e]
        exact hj
    have hcl2 : ∀ j o, l[j]? = some o → (listed.setIfInBounds i true).getD j false = true → ∀ e ∈ o.after, Region.binds .any e = true → (listed.setIfInBounds i true).getD e.on false = true := by
      intro j o2 ho2 hj e he hb
      by_cases ej : i = j
      · subst ej
        rw [ho'] at ho2
        cases ho2
        exact hkeep _ (hrd e he hb)
      · rw [getD_set_ne false ej] at hj
        exact hkeep _ (hcl j o2 ho2 hj e he hb)
    unfold wpOp at hq
    rw [ho] at hq
    unfold wpOp
    rw [push_get l z i hil, ho]
    simp only at hq ⊢
    rw [wanted_push o (hdep i o ho').2]
    have hnext : ∀ a' w', wpAny P .any l.toArray (Then P z Q) fuel (listed.setIfInBounds i true) a' w' → wpAny P .any (l ++ [z]).toArray Q (fuel + 1) ((listed.push false).setIfInBounds i true) a' w' := by
      intro a' w' h'
      rw [hset]
      exact ih _ _ _ (by simpa using hs) (by omega) hcl2 h'
    split
    · rename_i hwt
      simp only [hwt, if_true] at hq
      rcases hq with hq | ⟨hq, a', w', hl⟩
      · exact .inl (wp_then hnext hq)
      · exact .inr ⟨hq, a', w', hl⟩
    · rename_i hwt
      simp only [hwt] at hq
      exact hnext _ _ hq

/-- **The last operation waits for all others.** -/
theorem wp_region_then {id : Nat} {a : Act} {w : World} {L : List Oper} (z : Oper) (hm : P.follows .mixedOrders = true) (hL : L.getLast? = some z) (hB : lastB L = true)
    (h : wpAny P .any L.dropLast.toArray (Then P z Q) L.dropLast.length (Array.replicate L.dropLast.length false) a w.drew) : (Code.region id L.toArray true).wp P Q a w := by
  have hne : L = L.dropLast ++ [z] := by
    have hn : L ≠ [] := by intro e; subst e; simp at hL
    have h1 := List.dropLast_concat_getLast hn
    rw [List.getLast?_eq_some_getLast hn] at hL
    rw [Option.some.inj hL] at h1
    exact h1.symm
  obtain ⟨l, hl⟩ : ∃ l, l = L.dropLast := ⟨_, rfl⟩
  unfold lastB at hB
  rw [hL] at hB
  rw [← hl] at hne h hB
  subst hne
  simp only [Bool.and_eq_true, List.all_eq_true, List.mem_range, Region.lexB, Option.isNone_iff_eq_none] at hB
  obtain ⟨⟨⟨hns, hlex⟩, ⟨hzg, hz1⟩, hz2⟩, hdep⟩ := hB
  refine wp_region_any hm ?_
  have hrep : Array.replicate (l ++ [z]).toArray.size false = (Array.replicate l.length false).push false := by
    apply Array.ext'
    simp [List.replicate_succ']
  have hsz : (l ++ [z]).toArray.size = l.length + 1 := by simp
  rw [hrep, hsz]
  refine any_of_pre ?_ hzg ?_ ?_ l.length _ a _ (by simp) ?_ ?_ h
  · intro j o ho
    have hj := (List.getElem?_eq_some_iff.1 ho).1
    have h1 := hdep j hj
    rw [ho] at h1
    simp only [Bool.and_eq_true, Array.all_eq_true_iff_forall_mem, Bool.or_eq_true, Bool.not_eq_true', decide_eq_true_eq] at h1
    refine ⟨fun e he hb => ?_, fun k b hg => ?_⟩
    · rcases h1.1 e he with h2 | h2
      · rw [hb] at h2; cases h2
      · exact h2
    · have h2 := h1.2
      rw [hg] at h2
      simpa using h2
  · intro i hi
    have h1 := hz1 i hi
    rw [Array.any_eq_true] at h1
    obtain ⟨j, hj, h2⟩ := h1
    simp only [Bool.and_eq_true, Bool.or_eq_true, beq_iff_eq] at h2
    refine ⟨z.after[j], Array.getElem_mem hj, h2.1, ?_⟩
    rcases h2.2 with h3 | h3
    · exact .inl h3
    · cases ho : l[z.after[j].on]? with
      | none => rw [ho] at h3; cases h3
      | some o =>
        rw [ho] at h3
        simp only [Array.any_eq_true, Bool.and_eq_true, beq_iff_eq] at h3
        obtain ⟨j', hj', h4⟩ := h3
        exact .inr ⟨o, rfl, o.after[j'], Array.getElem_mem hj', h4.1, h4.2⟩
  · intro e he hb
    rw [Array.all_eq_true_iff_forall_mem] at hz2
    have h1 := hz2 e he
    simp only [Bool.or_eq_true, Bool.not_eq_true', decide_eq_true_eq] at h1
    rcases h1 with h1 | h1
    · rw [hb] at h1; cases h1
    · exact h1
  · unfold unl
    simp
  · intro j o _ hj
    simp [Array.getElem?_replicate] at hj
    split at hj <;> simp at hj
/-- The others held under the condition S. -/
theorem wp_region_held_then {id : Nat} {a : Act} {w : World} {L : List Oper} (S : World → Prop) (z : Oper) (hm : P.follows .mixedOrders = true) (hL : L.getLast? = some z) (hB : lastB L = true)
    (h : wpAnyH P .any L.dropLast.toArray (Then P z Q) S L.dropLast.length (Array.replicate L.dropLast.length false) a w.drew) : (Code.region id L.toArray true).wp P Q a w :=
  wp_region_then z hm hL hB (wpAny_of_held _ _ _ _ h)
/-- One of the others, by its number, taken first. -/
theorem takeL {S : World → Prop} (i : Nat) {oi : Oper} {v : Value} {fuel : Nat} {listed : Array Bool} {a : Act} {w : World} (hi : l[i]? = some oi)
    (hs : Region.noSelect l.toArray = true) (hf : Region.free .any l.toArray listed i = true) (hr : (Region.ready .any l.toArray listed).contains i = true) (hQ : ∀ c a w, Q (.panic c) (a.put oi.dst v) w → Q (.panic c) a w)
    (hw : Region.wanted oi (yielded l.toArray a.tmps) = true) (hS : S w) (hy : ∀ w, S w → (execOp a.eval oi).run P w = .ok (.value v) w)
    (h : wpAnyH P .any l.toArray (Then P z Q) S fuel (listed.setIfInBounds i true) (a.put oi.dst v) w) : wpAnyH P .any l.toArray (Then P z Q) S (fuel + 1) listed a w :=
  wpAnyH_take (by simpa using hi) hs hf hr (then_panic hQ) (.inl ⟨hw, hy⟩) hS h
/-- A call of a Go function that alone may come up. -/
theorem callL {S : World → Prop} (i : Nat) {oi : Oper} {f : FuncId} {vs : Array Value} {fuel : Nat} {listed : Array Bool} {a : Act} {w : World} (hi : l[i]? = some oi) (hr : Region.ready .any l.toArray listed = [i])
    (hw : Region.wanted oi (yielded l.toArray a.tmps) = true) (hop : (execOp a.eval oi).run P w = .ok (.enter f vs) w)
    (hc : Calls P f vs w fun e w' => ∃ v, e = .returned v ∧ S w' ∧ wpAnyH P .any l.toArray (Then P z Q) S fuel (listed.setIfInBounds i true) (a.put oi.dst v) w') : wpAnyH P .any l.toArray (Then P z Q) S (fuel + 1) listed a w := by
  refine wpAnyH_all hr (by simp) ?_
  intro j hj
  simp only [List.mem_singleton] at hj
  subst hj
  have hi' : l.toArray[j]? = some oi := by simpa using hi
  unfold wpOp
  simp only [hi', hw, if_true]
  refine .inl ?_
  unfold Oper.wp
  rw [hop]
  refine Calls.mono hc fun e w' he => ?_
  obtain ⟨v, rfl, h⟩ := he
  exact h
/-- A store that alone may come up. -/
theorem stepL {S : World → Prop} (i : Nat) {oi : Oper} {fuel : Nat} {listed : Array Bool} {a : Act} {w : World} (w' : World) (hi : l[i]? = some oi) (hr : Region.ready .any l.toArray listed = [i])
    (hw : Region.wanted oi (yielded l.toArray a.tmps) = true) (hop : (execOp a.eval oi).run P w = .ok .skip w') (hS : S w')
    (h : wpAnyH P .any l.toArray (Then P z Q) S fuel (listed.setIfInBounds i true) (a.put oi.dst undef) w') : wpAnyH P .any l.toArray (Then P z Q) S (fuel + 1) listed a w := by
  refine wpAnyH_all hr (by simp) ?_
  intro j hj
  simp only [List.mem_singleton] at hj
  subst hj
  have hi' : l.toArray[j]? = some oi := by simpa using hi
  unfold wpOp
  simp only [hi', hw, if_true]
  refine .inl ?_
  unfold Oper.wp
  rw [hop]
  exact ⟨hS, h⟩
/-- A variable that is made, where that alone may come up. -/
theorem newL {S : World → Prop} (i : Nat) {oi : Oper} {fuel : Nat} {listed : Array Bool} {a : Act} {w : World} (w' : World) (v : Value) (hi : l[i]? = some oi) (hr : Region.ready .any l.toArray listed = [i])
    (hw : Region.wanted oi (yielded l.toArray a.tmps) = true) (hop : (execOp a.eval oi).run P w = .ok (.value v) w') (hS : S w')
    (h : wpAnyH P .any l.toArray (Then P z Q) S fuel (listed.setIfInBounds i true) (a.put oi.dst v) w') : wpAnyH P .any l.toArray (Then P z Q) S (fuel + 1) listed a w := by
  refine wpAnyH_all hr (by simp) ?_
  intro j hj
  simp only [List.mem_singleton] at hj
  subst hj
  have hi' : l.toArray[j]? = some oi := by simpa using hi
  unfold wpOp
  simp only [hi', hw, if_true]
  refine .inl ?_
  unfold Oper.wp
  rw [hop]
  exact ⟨hS, h⟩
/-- A call of a Go function or a variable that is made, whichever comes up first. -/
theorem callNewL {S : World → Prop} (i j : Nat) {oi oj : Oper} {f : FuncId} {vs : Array Value} {fuel : Nat} {listed : Array Bool} {a : Act} {w : World} (w' : World) (v : Value) (hi : l[i]? = some oi) (hj : l[j]? = some oj) (hr : Region.ready .any l.toArray listed = [i, j])
    (hwi : Region.wanted oi (yielded l.toArray a.tmps) = true) (hwj : Region.wanted oj (yielded l.toArray a.tmps) = true) (hop : (execOp a.eval oi).run P w = .ok (.enter f vs) w) (hop' : (execOp a.eval oj).run P w = .ok (.value v) w') (hS : S w')
    (hc : Calls P f vs w fun e w' => ∃ v, e = .returned v ∧ S w' ∧ wpAnyH P .any l.toArray (Then P z Q) S fuel (listed.setIfInBounds i true) (a.put oi.dst v) w')
    (h : wpAnyH P .any l.toArray (Then P z Q) S fuel (listed.setIfInBounds j true) (a.put oj.dst v) w') : wpAnyH P .any l.toArray (Then P z Q) S (fuel + 1) listed a w := by
  refine wpAnyH_all hr (by simp) ?_
  intro k hk
  simp only [List.mem_cons, List.not_mem_nil, or_false] at hk
  have hi' : l.toArray[i]? = some oi := by simpa using hi
  have hj' : l.toArray[j]? = some oj := by simpa using hj
  rcases hk with rfl | rfl
  · unfold wpOp
    simp only [hi', hwi, if_true]
    refine .inl ?_
    unfold Oper.wp
    rw [hop]
    refine Calls.mono hc fun e w' he => ?_
    obtain ⟨v, rfl, h⟩ := he
    exact h
  · unfold wpOp
    simp only [hj', hwj, if_true]
    refine .inl ?_
    unfold Oper.wp
    rw [hop']
    exact ⟨hS, h⟩
/-- All others have come up. -/
theorem doneL {S : World → Prop} {fuel : Nat} {listed : Array Bool} {a : Act} {w : World} (hr : Region.ready .any l.toArray listed = []) (h : z.wp P a w (fun a w => Q .normal a w) Q) : wpAnyH P .any l.toArray (Then P z Q) S fuel listed a w :=
  wpAnyH_done hr h fuel
/-- The others quiet in a class of worlds. -/
theorem wp_region_last {C : World → Prop} {id : Nat} {a : Act} {w : World} {L : List Oper} (z : Oper) (hm : P.follows .mixedOrders = true) (hL : L.getLast? = some z) (hB : lastB L = true) (hC : C w.drew)
    (h : wpQuiet P L.dropLast.toArray C (fun a' => ∀ w', C w' → z.wp P a' w' (fun a w => Q .normal a w) Q) L.dropLast a) : (Code.region id L.toArray true).wp P Q a w := by
  refine wp_region_then z hm hL hB (wpAny_of_quiet (C := C) (Q := fun a' => ∀ w', C w' → z.wp P a' w' (fun a w => Q .normal a w) Q) (fun a w' hw' hq => hq w' hw') _ _ _ _ hC ?_)
  unfold lastB at hB
  simp only [Bool.and_eq_true, Region.lexB] at hB
  exact wpAnyQ_lex (P := P) (C := C) (md := .any) hB.1.1.1 L.dropLast 0 (Array.replicate L.dropLast.length false) a (by simp) (by simpa using hB.1.1.2) h
/-- The same, in the class of all worlds above the first one. -/
theorem wp_region_above_last {id : Nat} {a : Act} {w : World} {L : List Oper} (z : Oper) (hm : P.follows .mixedOrders = true) (hL : L.getLast? = some z) (hB : lastB L = true)
    (h : Nonempty (Above w) → wpQuiet P L.dropLast.toArray (fun w' => ∃ k : Above w, w' = k.it) (fun a' => ∀ w', (∃ k : Above w, w' = k.it) → z.wp P a' w' (fun a w => Q .normal a w) Q) L.dropLast a) : (Code.region id L.toArray true).wp P Q a w :=
  wp_region_last (C := fun w' => ∃ k : Above w, w' = k.it) z hm hL hB ⟨⟨w.drew, (Below.refl _ _).drew⟩, rfl⟩ (h (above_some w))
end
end Go.Proofs.Ytgffplfpoopolaa
/-
  Blocks of memory that a call may turn, and all others as they were; rows of many cells each in one block: load, store, copy of a text into one. No program is spoken of.
-/
namespace Go.Proofs.Ytgffplfpoopolaa
open Go.RowKit

/-- Of the old blocks those outside F are as they were. -/
structure Kept (F : Nat → Prop) (w w' : World) : Prop where
  os : w'.os = w.os
  tape : w'.tape = w.tape
  output : w'.output = w.output
  size : w.heap.size ≤ w'.heap.size
  block : ∀ k, k < w.heap.size → ¬ F k → w'.heap[k]? = w.heap[k]?
section
variable {F G : Nat → Prop} {a b c w w' : World}
theorem Kept.refl (F : Nat → Prop) (w : World) : Kept F w w := ⟨rfl, rfl, rfl, Nat.le_refl _, fun _ _ _ => rfl⟩
theorem Kept.trans (h : Kept F a b) (k : Kept G b c) (i : ∀ k, G k → F k ∨ a.heap.size ≤ k) : Kept F a c :=
  ⟨k.os.trans h.os, k.tape.trans h.tape, k.output.trans h.output, Nat.le_trans h.size k.size, fun x hx hF => by
    rw [k.block x (Nat.lt_of_lt_of_le hx h.size) (fun hG => by rcases i x hG with h1 | h1; exact hF h1; omega), h.block x hx hF]⟩
theorem Kept.mono (h : Kept F w w') (i : ∀ k, F k → G k) : Kept G w w' := ⟨h.os, h.tape, h.output, h.size, fun x hx hG => h.block x hx (fun hF => hG (i x hF))⟩
theorem Kept.drew (h : Kept F a w) : Kept F a w.drew := ⟨h.os, h.tape, h.output, h.size, h.block⟩
theorem Kept.drewN (h : Kept F a w) (n : Nat) : Kept F a (w.drewN n) := ⟨h.os, h.tape, h.output, h.size, h.block⟩
theorem Kept.alloc (h : Kept F a w) (o : Obj) : Kept F a (w.alloc o) :=
  ⟨h.os, h.tape, h.output, by have := h.size; simp; omega, fun x hx hF => by rw [Below.heap_alloc w o x (Nat.lt_of_lt_of_le hx h.size), h.block x hx hF]⟩
theorem Kept.setCell (h : Kept F a w) {p : Addr} (hp : F p.block ∨ a.heap.size ≤ p.block) (u : Value) : Kept F a (w.setCell p u) :=
  ⟨h.os, h.tape, h.output, by have := h.size; simp; omega, fun x hx hF => by
    rw [Below.heap_setCell w p u x (fun e => by subst e; rcases hp with h1 | h1; exact hF h1; omega), h.block x hx hF]⟩
theorem Kept.setCells {p : Nat} (hp : F p ∨ a.heap.size ≤ p) : ∀ (vs : List Value) (o : Nat) (w : World), Kept F a w → Kept F a (w.setCells p o vs)
  | [], _, _, h => h
  | v :: r, o, w, h => by
    rw [World.setCells]
    exact Kept.setCells hp r (o + 1) _ (h.setCell (p := ⟨p, o, none⟩) hp v)
theorem Kept.grown (h : Kept F a w) {row : Option Nat} (hg : w.grownBy w' row) (hr : ∀ k, row = some k → F k ∨ a.heap.size ≤ k) : Kept F a w' :=
  ⟨hg.os.trans h.os, hg.tape.trans h.tape, hg.output.trans h.output, Nat.le_trans h.size hg.size, fun x hx hF => by
    rw [hg.block x (Nat.lt_of_lt_of_le hx h.size) (fun e => by rcases hr x e.symm with h1 | h1; exact hF h1; omega), h.block x hx hF]⟩
theorem Kept.below {B : Nat} (h : Kept F w w') (hF : ∀ k, F k → B ≤ k) (hB : B ≤ w.heap.size) : Below B w w' :=
  ⟨h.os, h.tape, h.output, h.size, fun k hk => h.block k (by omega) (fun hf => by have := hF k hf; omega)⟩
theorem kept_of_below (F : Nat → Prop) (h : Below w.heap.size w w') : Kept F w w' := ⟨h.os, h.tape, h.output, h.size, fun k hk _ => h.block k hk⟩
end

theorem heap_setCells_far (b : Nat) : ∀ (vs : List Value) (o : Nat) (w : World) (k : Nat), k ≠ b → (w.setCells b o vs).heap[k]? = w.heap[k]?
  | [], _, _, _, _ => rfl
  | v :: r, o, w, k, h => by
    rw [World.setCells, heap_setCells_far b r (o + 1) _ k h, Below.heap_setCell w ⟨b, o, none⟩ v k h]
theorem heap_setCells (b : Nat) (t : TypeId) : ∀ (vs : List Value) (o : Nat) (w : World) (cur : Array Value), w.heap[b]? = some (.cells cur t (0, 0)) → o + vs.length ≤ cur.size →
    ∃ cur', (w.setCells b o vs).heap[b]? = some (.cells cur' t (0, 0)) ∧ cur'.size = cur.size ∧ (∀ k, k < o ∨ o + vs.length ≤ k → cur'[k]? = cur[k]?) ∧ ∀ j v, vs[j]? = some v → cur'[o + j]? = some v
  | [], _, _, cur, h, _ => ⟨cur, h, rfl, fun _ _ => rfl, fun _ _ hv => by simp at hv⟩
  | v :: r, o, w, cur, h, hl => by
    simp only [List.length_cons] at hl
    obtain ⟨cur', h1, h2, h3, h4⟩ := heap_setCells b t r (o + 1) (w.setCell ⟨b, o, none⟩ v) (cur.setIfInBounds o v) (heap_setCell_same w b o cur t v h) (by simp; omega)
    refine ⟨cur', h1, by simpa using h2, ?_, ?_⟩
    · intro k hk
      simp only [List.length_cons] at hk
      rw [h3 k (by omega), Array.getElem?_setIfInBounds, if_neg (by omega)]
    · intro j u hu
      cases j with
      | zero =>
        simp at hu
        subst hu
        rw [h3 (o + 0) (by omega), Array.getElem?_setIfInBounds]
        simp
        omega
      | succ j =>
        have := h4 j u (by simpa using hu)
        rwa [show o + (j + 1) = o + 1 + j by omega]

/-- The block b has tot cells of type t, which may be written: from its head on the rows R of sz cells each. -/
def Rows (w : World) (b : Nat) (t : TypeId) (tot sz : Nat) (R : List (List Value)) : Prop :=
  ∃ cur : Array Value, w.heap[b]? = some (.cells cur t (0, 0)) ∧ cur.size = tot ∧ R.length * sz ≤ tot ∧ (∀ r ∈ R, r.length = sz) ∧ ∀ i r, R[i]? = some r → ∀ j v, r[j]? = some v → cur[i * sz + j]? = some v
section
variable {w w' : World} {b : Nat} {t : TypeId} {tot sz : Nat} {R : List (List Value)}
theorem Rows.lt (h : Rows w b t tot sz R) : b < w.heap.size := by
  obtain ⟨cur, h1, _⟩ := h
  exact (Array.getElem?_eq_some_iff.1 h1).1
theorem Rows.of_block (h : Rows w b t tot sz R) (e : w'.heap[b]? = w.heap[b]?) : Rows w' b t tot sz R := by
  obtain ⟨cur, h1, h2⟩ := h
  exact ⟨cur, by rw [e]; exact h1, h2⟩
theorem Rows.kept {F : Nat → Prop} (h : Rows w b t tot sz R) (k : Kept F w w') (hb : ¬ F b) : Rows w' b t tot sz R := h.of_block (k.block b h.lt hb)
theorem Rows.drew (h : Rows w b t tot sz R) : Rows w.drew b t tot sz R := h
theorem Rows.range (h : Rows w b t tot sz R) {i : Nat} {r : List Value} (hr : R[i]? = some r) : w.rangeAt b (i * sz) r := by
  obtain ⟨cur, h1, _, _, _, h5⟩ := h
  intro j v hv
  rw [cell_of_row w b _ cur t _ h1]
  exact h5 i r hr j v hv
theorem Rows.fit (h : Rows w b t tot sz R) {i : Nat} (hi : i < R.length) : i * sz + sz ≤ tot := by
  obtain ⟨_, _, _, h3, _⟩ := h
  have : (i + 1) * sz ≤ R.length * sz := Nat.mul_le_mul_right _ hi
  rw [Nat.add_mul] at this
  omega
theorem Rows.there_at (h : Rows w b t tot sz R) {o n : Nat} (ho : o + n ≤ tot) : w.there b o n := by
  obtain ⟨cur, h1, h2, _⟩ := h
  intro j hj
  refine ⟨?_, frozen_of_row w b _ cur t h1⟩
  rw [cell_of_row w b _ cur t _ h1, Array.getElem?_eq_getElem (by omega)]
  rfl
theorem Rows.there (h : Rows w b t tot sz R) {i : Nat} (hi : i < R.length) : w.there b (i * sz) sz := h.there_at (h.fit hi)
theorem Rows.set (h : Rows w b t tot sz R) {i : Nat} (hi : i < R.length) {r : List Value} (hl : r.length = sz) : Rows (w.setCells b (i * sz) r) b t tot sz (R.set i r) := by
  have hf := h.fit hi
  obtain ⟨cur, h1, h2, h3, h4, h5⟩ := h
  obtain ⟨cur', g1, g2, g3, g4⟩ := heap_setCells b t r (i * sz) w cur h1 (by omega)
  refine ⟨cur', g1, by omega, by simpa using h3, ?_, ?_⟩
  · intro x hx
    rcases List.mem_or_eq_of_mem_set hx with hx | rfl
    · exact h4 x hx
    · exact hl
  · intro k x hx j v hv
    rw [List.getElem?_set] at hx
    by_cases e : i = k
    · subst e
      simp [hi] at hx
      subst hx
      exact g4 j v hv
    · rw [if_neg e] at hx
      have hj : j < sz := by
        have := h4 x (List.mem_of_getElem? hx)
        have := (List.getElem?_eq_some_iff.1 hv).1
        omega
      rw [g3 (k * sz + j) ?_]
      · exact h5 k x hx j v hv
      · rw [hl]
        rcases Nat.lt_or_ge k i with h' | h'
        · left
          have : (k + 1) * sz ≤ i * sz := Nat.mul_le_mul_right _ h'
          rw [Nat.add_mul] at this
          omega
        · right
          have : (i + 1) * sz ≤ k * sz := Nat.mul_le_mul_right _ (by omega)
          rw [Nat.add_mul] at this
          omega
theorem Rows.take (h : Rows w b t tot sz R) (k : Nat) : Rows w b t tot sz (R.take k) := by
  obtain ⟨cur, h1, h2, h3, h4, h5⟩ := h
  refine ⟨cur, h1, h2, ?_, fun r hr => h4 r (List.mem_of_mem_take hr), ?_⟩
  · refine Nat.le_trans (Nat.mul_le_mul_right _ ?_) h3
    rw [List.length_take]
    omega
  · intro i r hr
    rw [List.getElem?_take] at hr
    split at hr
    · exact h5 i r hr
    · cases hr
/-- What is written behind the rows turns none of them. -/
theorem Rows.behind (h : Rows w b t tot sz R) {o : Nat} (vs : List Value) (ho : R.length * sz ≤ o) (hf : o + vs.length ≤ tot) : Rows (w.setCells b o vs) b t tot sz R := by
  obtain ⟨cur, h1, h2, h3, h4, h5⟩ := h
  obtain ⟨cur', g1, g2, g3, g4⟩ := heap_setCells b t vs o w cur h1 (by omega)
  refine ⟨cur', g1, by omega, h3, h4, ?_⟩
  intro i r hr j v hv
  have hi : i < R.length := (List.getElem?_eq_some_iff.1 hr).1
  have hj : j < sz := by
    have := h4 r (List.mem_of_getElem? hr)
    have := (List.getElem?_eq_some_iff.1 hv).1
    omega
  have : (i + 1) * sz ≤ R.length * sz := Nat.mul_le_mul_right _ hi
  rw [Nat.add_mul] at this
  rw [g3 _ (by omega)]
  exact h5 i r hr j v hv
theorem Rows.far (h : Rows w b t tot sz R) {p o : Nat} (vs : List Value) (hp : b ≠ p) : Rows (w.setCells p o vs) b t tot sz R := h.of_block (heap_setCells_far p vs o w b hp)
end

theorem flatten_at {sz : Nat} (hsz : 0 < sz) : ∀ (R : List (List Value)), (∀ r ∈ R, r.length = sz) → ∀ k, R.flatten[k]? = (R[k / sz]?).bind (·[k % sz]?)
  | [], _, k => by simp
  | r :: R, h, k => by
    have hr := h r (by simp)
    rw [List.flatten_cons, List.getElem?_append]
    by_cases hk : k < sz
    · rw [if_pos (by omega), Nat.div_eq_of_lt hk, Nat.mod_eq_of_lt hk]
      simp
    · rw [if_neg (by omega), hr, flatten_at hsz R (fun x hx => h x (by simp [hx])) (k - sz)]
      have e1 : k / sz = (k - sz) / sz + 1 := by rw [Nat.div_eq_sub_div hsz (by omega)]
      have e2 : k % sz = (k - sz) % sz := by rw [Nat.mod_eq_sub_mod (by omega)]
      rw [e1, e2]
      simp
theorem length_flat {sz : Nat} : ∀ (R : List (List Value)), (∀ r ∈ R, r.length = sz) → R.flatten.length = R.length * sz
  | [], _ => by simp
  | r :: R, h => by
    rw [List.flatten_cons, List.length_append, length_flat R (fun x hx => h x (by simp [hx])), h r (by simp), List.length_cons, Nat.add_mul]
    omega

/-- A slice of rows that the call's own writes lie in: none, or the head of a block. -/
def SRows (w : World) (v : Value) (t : TypeId) (sz : Nat) (R : List (List Value)) : Prop :=
  (v = .slice none 0 0 ∧ R = []) ∨ ∃ g cap, v = .slice (some ⟨g, 0, none⟩) R.length cap ∧ R.length ≤ cap ∧ cap ≤ maxLen ∧ Rows w g t (cap * sz) sz R
section
variable {w w' : World} {v : Value} {t : TypeId} {sz : Nat} {R : List (List Value)}
theorem srows_nil (w : World) (t : TypeId) (sz : Nat) : SRows w (.slice none 0 0) t sz [] := .inl ⟨rfl, rfl⟩
theorem SRows.of_block (h : SRows w v t sz R) (e : ∀ k, v.ownBlock = some k → w'.heap[k]? = w.heap[k]?) : SRows w' v t sz R := by
  rcases h with h | ⟨g, cap, rfl, h1, h2, h3⟩
  · exact .inl h
  · exact .inr ⟨g, cap, rfl, h1, h2, h3.of_block (e g rfl)⟩
theorem SRows.lt (h : SRows w v t sz R) {k : Nat} (hk : v.ownBlock = some k) : k < w.heap.size := by
  rcases h with ⟨rfl, _⟩ | ⟨g, cap, rfl, h1, h2, h3⟩
  · simp [Value.ownBlock] at hk
  · simp [Value.ownBlock] at hk
    subst hk
    exact h3.lt
theorem SRows.kept {F : Nat → Prop} (h : SRows w v t sz R) (k : Kept F w w') (hb : ∀ g, v.ownBlock = some g → ¬ F g) : SRows w' v t sz R :=
  h.of_block fun g hg => k.block g (h.lt hg) (hb g hg)
theorem SRows.rowlen (h : SRows w v t sz R) : ∀ r ∈ R, r.length = sz := by
  rcases h with ⟨_, rfl⟩ | ⟨g, cap, _, _, _, cur, _, _, _, h4, _⟩
  · simp
  · exact h4
theorem SRows.own (h : SRows w v t sz R) (hsz : 0 < sz) : w.ownsRow 0 t sz v R.length R.flatten := by
  refine ⟨length_flat R h.rowlen, ?_⟩
  rcases h with ⟨rfl, rfl⟩ | ⟨g, cap, rfl, h1, h2, cur, c1, c2, c3, c4, c5⟩
  · exact .inl ⟨rfl, rfl⟩
  · refine .inr ⟨g, cap, cur, rfl, Nat.zero_le _, c1, h1, h2, c2, ?_⟩
    apply List.ext_getElem?
    intro k
    rw [List.getElem?_take, flatten_at hsz R c4 k]
    split
    · rename_i hk
      have hd : k / sz < R.length := (Nat.div_lt_iff_lt_mul hsz).2 hk
      have hm : k % sz < sz := Nat.mod_lt _ hsz
      have hr := List.getElem?_eq_getElem hd
      rw [hr]
      have hl : (R[k / sz]).length = sz := c4 _ (List.getElem_mem hd)
      have := c5 (k / sz) _ hr (k % sz) (R[k / sz])[k % sz] (by rw [List.getElem?_eq_getElem])
      rw [Nat.div_add_mod' k sz] at this
      simp only [Option.bind_some]
      rw [Array.getElem?_toList, this]
      exact (List.getElem?_eq_getElem (by omega)).symm
    · rename_i hk
      have hd : ¬ k / sz < R.length := fun h => hk ((Nat.div_lt_iff_lt_mul hsz).1 h)
      rw [List.getElem?_eq_none (by omega)]
      rfl
theorem srows_of_own {B n : Nat} {xs : List Value} (h : w.ownsRow B t sz v n xs) (hx : xs = R.flatten) (hR : ∀ r ∈ R, r.length = sz) (hsz : 0 < sz) (hn : R.length = n) : SRows w v t sz R := by
  subst hx hn
  rcases h.2 with ⟨rfl, h0⟩ | ⟨g, cap, cur, rfl, _, c1, h1, h2, c2, c3⟩
  · exact .inl ⟨rfl, List.eq_nil_of_length_eq_zero h0⟩
  · refine .inr ⟨g, cap, rfl, h1, h2, cur, c1, c2, Nat.mul_le_mul_right _ h1, hR, ?_⟩
    intro i r hr j u hu
    have hi : i < R.length := (List.getElem?_eq_some_iff.1 hr).1
    have hj : j < sz := by
      have := hR r (List.mem_of_getElem? hr)
      have := (List.getElem?_eq_some_iff.1 hu).1
      omega
    have hk : i * sz + j < R.length * sz := by
      have : (i + 1) * sz ≤ R.length * sz := Nat.mul_le_mul_right _ hi
      rw [Nat.add_mul] at this
      omega
    have e := congrArg (·[i * sz + j]?) c3
    simp only [List.getElem?_take] at e
    rw [if_pos hk, Array.getElem?_toList, flatten_at hsz R hR] at e
    have d1 : (i * sz + j) / sz = i := by rw [Nat.mul_comm, Nat.mul_add_div hsz, Nat.div_eq_of_lt hj]; rfl
    have d2 : (i * sz + j) % sz = j := by rw [Nat.mul_comm, Nat.mul_add_mod, Nat.mod_eq_of_lt hj]
    rw [d1, d2, hr] at e
    rw [e]
    exact hu
end

/-- The bytes of a text as cells. -/
def cellsS (s : ByteArray) : List Value := s.data.toList.map fun b => .int .u8 b.toNat
theorem cellsS_len (s : ByteArray) : (cellsS s).length = s.size := by simp [cellsS]
theorem run_copy_str {P : Program} (w : World) (dT sT ty elem : TypeId) (b o n cap : Nat) (s : ByteArray) (hs : s.size = n)
    (hu : P.underlying dT = some (.slice elem)) (hsz : (P.info? elem).map (·.size) = some 1) (ht : w.there b o n) :
    (Builtin.copy_ #[dT, sT] ty #[.slice (some ⟨b, o, none⟩) n cap, .string s]).run P w = .ok (goInt n) (w.setCells b o (cellsS s)) := by
  have hl := cellsS_len s
  have hst := run_storeCells_cells (P := P) b o (cellsS s) 0 w (fun j hj => by simpa using (ht j (by omega)).1) (fun j hj => by simpa using (ht j (by omega)).2) (fun v hv => by
    simp only [cellsS, List.mem_map] at hv
    obtain ⟨x, _, rfl⟩ := hv
    rfl)
  simp only [Nat.add_zero] at hst
  cases hq : P.info? elem with
  | none => simp [hq] at hsz
  | some i =>
    subst hs
    simp [Builtin.copy_, run_underlying hu, Builtin.lenOf, Builtin.firstCells, sizeOf, typeInfo, hq]
    rw [show (List.map (fun b : UInt8 => Value.int IntKind.u8 (b.toNat : Int)) s.data.toList) = cellsS s from rfl, List.take_of_length_le (by omega), hst]
    rfl
theorem wpList_copy_str {P : Program} {ops : Array Oper} {rest : List Oper} {op : Oper} {a : Act} {w : World} {Q : Exit → Act → World → Prop} (hgd : op.guard = none) (d x : Operand) (dT sT elem : TypeId)
    (ho : op.op = .call { callee := .builtin .copy, args := #[d, x], argTypes := #[dT, sT] }) (b o n cap : Nat) (s : ByteArray) (hd : a.eval d = .slice (some ⟨b, o, none⟩) n cap) (hx : a.eval x = .string s) (hs : s.size = n)
    (hu : P.underlying dT = some (.slice elem)) (hsz : (P.info? elem).map (·.size) = some 1) (ht : w.there b o n)
    (h : wpList P ops Q rest (a.put op.dst (goInt n)) (w.setCells b o (cellsS s))) : wpList P ops Q (op :: rest) a w := by
  refine wpList_plain hgd fun K hK => ?_
  have hr := run_copy_str (P := P) w dT sT op.type elem b o n cap s hs hu hsz ht
  unfold Oper.wp execOp
  simp only [ho, resolve, invoke, builtin, Sem.run_bind, Sem.run_pure, Result.andThen_ok, List.map_toArray, List.map_cons, List.map_nil, hd, hx, hr]
  exact hK _ _ h
theorem step_copy_str {P : Program} {ops : Array Oper} {op : Oper} {a : Act} {w : World} {K : Act → World → Prop} {Q : Exit → Act → World → Prop} {E : Prop} (hgd : op.guard = none) (d x : Operand) (dT sT elem : TypeId)
    (ho : op.op = .call { callee := .builtin .copy, args := #[d, x], argTypes := #[dT, sT] }) (b o n cap : Nat) (s : ByteArray) (hd : a.eval d = .slice (some ⟨b, o, none⟩) n cap) (hx : a.eval x = .string s) (hs : s.size = n)
    (hu : P.underlying dT = some (.slice elem)) (hsz : (P.info? elem).map (·.size) = some 1) (ht : w.there b o n)
    (h : K (a.put op.dst (goInt n)) (w.setCells b o (cellsS s))) : if Region.wanted op (yielded ops a.tmps) = true then Oper.wp P op a w K Q else E := by
  have hw : Region.wanted op (yielded ops a.tmps) = true := by simp [Region.wanted, hgd]
  rw [if_pos hw]
  have hr := run_copy_str (P := P) w dT sT op.type elem b o n cap s hs hu hsz ht
  unfold Oper.wp execOp
  simp only [ho, resolve, invoke, builtin, Sem.run_bind, Sem.run_pure, Result.andThen_ok, List.map_toArray, List.map_cons, List.map_nil, hd, hx, hr]
  exact h
end Go.Proofs.Ytgffplfpoopolaa
/-
  A struct in a block of its own: what it reads as, behind calls and stores; a call's results of which one lies in memory. No program is spoken of.
-/
namespace Go.Proofs.Ytgffplfpoopolaa
open Go.RowKit

/-- The block b is the struct (or array) c. -/
def Box (w : World) (b : Nat) (t : TypeId) (c : Array Value) : Prop := w.heap[b]? = some (.cells c t (0, 0))
section
variable {w w' : World} {b : Nat} {t : TypeId} {c : Array Value}
theorem Box.lt (h : Box w b t c) : b < w.heap.size := (Array.getElem?_eq_some_iff.1 h).1
theorem Box.of_block (h : Box w b t c) (e : w'.heap[b]? = w.heap[b]?) : Box w' b t c := e.trans h
theorem Box.below {B : Nat} (h : Box w b t c) (k : Below B w w') (hb : b < B) : Box w' b t c := h.of_block (k.block b hb)
theorem Box.over (h : Box w b t c) (k : Below w.heap.size w w') : Box w' b t c := h.below k h.lt
theorem Box.kept {F : Nat → Prop} (h : Box w b t c) (k : Kept F w w') (hF : ¬ F b) : Box w' b t c := h.of_block (k.block b h.lt hF)
theorem Box.alloc (h : Box w b t c) (o : Obj) : Box (w.alloc o) b t c := h.of_block (Below.heap_alloc w o b h.lt)
theorem Box.drew (h : Box w b t c) : Box w.drew b t c := h
theorem Box.drewN (h : Box w b t c) (n : Nat) : Box (w.drewN n) b t c := h
theorem box_new (w : World) (c : Array Value) (t : TypeId) : Box (w.alloc (.cells c t)) w.heap.size t c := heap_alloc_last w _
theorem box_old (w : World) (c : Array Value) (t : TypeId) (o : Obj) : Box ((w.alloc (.cells c t)).alloc o) w.heap.size t c := (box_new w c t).alloc o
theorem Box.set (h : Box w b t c) (k : Nat) (v : Value) : Box (w.setCell ⟨b, k, none⟩ v) b t (c.setIfInBounds k v) := heap_setCell_same w b k c t v h
theorem Box.other (h : Box w b t c) {a : Addr} (hn : b ≠ a.block) (v : Value) : Box (w.setCell a v) b t c := h.of_block (heap_setCell_other w a b v hn)
theorem Box.setRow (h : Box w b t c) (c' : Array Value) : Box (w.setRow b c') b t c' := setRow_heap w b c c' t (0, 0) h
theorem Box.rowOther (h : Box w b t c) {p : Nat} (hn : b ≠ p) (c' : Array Value) : Box (w.setRow p c') b t c := h.of_block (setRow_other w p b c' hn)
theorem Box.cell (h : Box w b t c) (k : Nat) (v : Value) (hv : c[k]? = some v) : w.cell? ⟨b, k, none⟩ = some v := (cell_of_row w b k c t (0, 0) h).trans hv
theorem Box.frozen (h : Box w b t c) (k : Nat) : w.frozen? ⟨b, k, none⟩ = false := frozen_of_row w b k c t h
end
theorem below_setRow {B : Nat} {a w : World} {b : Nat} (h : Below B a w) (hb : B ≤ b) (cs : Array Value) : Below B a (w.setRow b cs) :=
  h.trans ⟨rfl, rfl, rfl, by simp, fun k hk => setRow_other w b k cs (by omega)⟩
theorem below2 (w : World) (A B : Obj) : Below w.heap.size w ((w.alloc A).alloc B) := ((Below.refl _ w).alloc (Nat.le_refl _) _).alloc (by simp) _
theorem below1 (w : World) (A : Obj) : Below w.heap.size w (w.alloc A) := (Below.refl _ w).alloc (Nat.le_refl _) _

theorem two_box {w w1 : World} {c0 c1 : Array Value} {t0 t1 : TypeId} (hb : Below ((w.alloc (.cells c0 t0)).alloc (.cells c1 t1)).heap.size ((w.alloc (.cells c0 t0)).alloc (.cells c1 t1)) w1) :
    Box w1 w.heap.size t0 c0 ∧ Box w1 (w.heap.size + 1) t1 c1 ∧ Below w.heap.size w w1 := by
  have b1 := box_new (w.alloc (.cells c0 t0)) c1 t1
  rw [World.size_alloc] at b1
  exact ⟨(box_old _ _ _ _).over hb, b1.over hb, (below2 _ _ _).trans (hb.mono (by simp; omega))⟩

section
variable {P : Program} {fn : Func} {p q : Tmp} {ty : TypeId} {w : World} {g : Nat} {t : TypeId} {cs : Array Value} {tmps : Array Value}
theorem res_box (h : fn.results = #[.cell p ty]) (d : TypeDesc) (hp : tmps.getD p undef = .pointer (some ⟨g, 0, none⟩)) (hg : Box w g t cs)
    (hu : P.underlying ty = some d) (hd : (match d with | .struct _ | .array _ _ => true | _ => false) = true) (hi : (P.info? ty).map (·.size) = some cs.size) :
    (results fn tmps).run P w = .ok (.agg cs) w := results_cell_row h tmps w g t cs (0, 0) d hp hg hu hd hi
theorem res_box_slot (h : fn.results = #[.cell p ty, .tmp q]) (d : TypeDesc) (hp : tmps.getD p undef = .pointer (some ⟨g, 0, none⟩)) (hg : Box w g t cs)
    (hu : P.underlying ty = some d) (hd : (match d with | .struct _ | .array _ _ => true | _ => false) = true) (hi : (P.info? ty).map (·.size) = some cs.size) (v : Value) (hq : tmps.getD q undef = v) :
    (results fn tmps).run P w = .ok (.tuple #[.agg cs, v]) w := by
  have hp' : tmps[p]?.getD undef = .pointer (some ⟨g, 0, none⟩) := by simpa using hp
  have hq' : tmps[q]?.getD undef = v := by simpa using hq
  have hl := run_loadVar_row (P := P) w g t ty cs (0, 0) d hg hu hd hi
  simp [results, h, hp', hq', asAddr, hl]
end
end Go.Proofs.Ytgffplfpoopolaa
/-
  The contracts of package peristyleref23's Read and part.
-/
namespace Go.Proofs.Ytgffplfpoopolaa
open Go.RowKit Leb

/-- A part's fields, as a value. -/
def pv (p : Pt) : Array Value := #[.int .i64 p.turn.toInt, .int .i64 p.num.toInt, .int .i64 p.ahead.toInt, .int .i64 p.behind.toInt, .string (strB p.s)]
def noPt : Pt := ⟨0#64, 0#64, 0#64, 0#64, []⟩
/-- What is told of a block's part. -/
def ReadAns (b : List UInt8) (w : World) (e : Ending) (w' : World) : Prop :=
  (∃ p : Pt, e = .returned (.tuple #[.agg (pv p), .bool (readP b).isSome]) ∧ ∀ q, readP b = some q → p = q) ∧ Below w.heap.size w w'
/-- Five numbers, of which some are told. -/
def arr5 (d : List (BitVec 64)) : Array Value := (d.map (fun x : BitVec 64 => Value.int .i64 x.toInt) ++ List.replicate (5 - d.length) (Value.int .i64 0)).toArray
theorem arr5_set (d : List (BitVec 64)) (x : BitVec 64) (h : d.length < 5) : (arr5 d).setIfInBounds d.length (.int .i64 x.toInt) = arr5 (d ++ [x]) := by
  obtain ⟨g, hg⟩ : ∃ g, 5 - d.length = g + 1 := ⟨4 - d.length, by omega⟩
  have hg2 : 5 - (d ++ [x]).length = g := by simp; omega
  unfold arr5
  rw [hg, hg2, List.setIfInBounds_toArray, set_mid _ _ _ _ _ (by simp)]
  simp
theorem arr5_at (d : List (BitVec 64)) (k : Nat) (h : k < 5) : ∃ v, (arr5 d)[k]? = some v := by
  unfold arr5
  refine ⟨_, Array.getElem?_eq_getElem ?_⟩
  simp
  omega
theorem readP_nums {b : List UInt8} {a n x y z : BitVec 64} {u : Nat} (h : tkN 5 b = some ([a, n, x, y, z], u)) {p : Pt} (hp : readP b = some p) : p.turn = a ∧ p.num = n ∧ p.ahead = x ∧ p.behind = y ∧ (p.s.length : Int) = z.toInt ∧ (encs p.nums).length = u := by
  have h1 := (readP_tk hp).1
  rw [h] at h1
  simp only [Option.some.injEq, Prod.mk.injEq, Pt.nums, List.cons.injEq, and_true] at h1
  obtain ⟨⟨e1, e2, e3, e4, e5⟩, e6⟩ := h1
  have hs := (readP_some hp).1.s1
  refine ⟨e1.symm, e2.symm, e3.symm, e4.symm, ?_, ?_⟩
  · rw [e5, ofNat_toInt (by omega)]
  · rw [e6]; rfl
/-- What the five numbers must be. -/
theorem readP_bad {b : List UInt8} (hb : b.length = 128) {a n x y z : BitVec 64} {u : Nat} (h : tkN 5 b = some ([a, n, x, y, z], u)) (hn : ¬ (0 ≤ x.toInt ∧ 0 ≤ y.toInt ∧ x.toInt ≤ 86 ∧ y.toInt ≤ 86 ∧ 1 ≤ z.toInt ∧ z.toInt ≤ 96 ∧ z.toInt ≤ 128 - (u : Int) - 4)) : readP b = none := by
  cases hp : readP b with
  | none => rfl
  | some p =>
    exfalso
    obtain ⟨_, _, e3, e4, e5, e6⟩ := readP_nums h hp
    have hm := (readP_some hp).1
    have hr := (readP_tk hp).2
    have h1 := hm.a0
    have h2 := hm.a1
    have h3 := hm.b0
    have h4 := hm.b1
    have h5 := hm.s0
    have h6 := hm.s1
    rw [e3] at h1 h2
    rw [e4] at h3 h4
    apply hn
    omega
theorem readP_good {b : List UInt8} (hb : b.length = 128) {a n x y z : BitVec 64} {u k : Nat} (h : tkN 5 b = some ([a, n, x, y, z], u)) (hx0 : 0 ≤ x.toInt) (hy0 : 0 ≤ y.toInt) (hx : x.toInt ≤ 86) (hy : y.toInt ≤ 86) (hz : z.toInt = (k : Int)) (hk : 1 ≤ k) (hk2 : k ≤ 96) (hk3 : u + k + 4 ≤ 128) :
    (⟨a, n, x, y, (b.drop u).take k⟩ : Pt).May ∧ ((b.drop u).take k).length = k ∧ readP b = if partL ⟨a, n, x, y, (b.drop u).take k⟩ = b then some ⟨a, n, x, y, (b.drop u).take k⟩ else none := by
  have hl : ((b.drop u).take k).length = k := by simp; omega
  have hm : (⟨a, n, x, y, (b.drop u).take k⟩ : Pt).May := ⟨hx0, hx, hy0, hy, by rw [hl]; exact hk, by rw [hl]; exact hk2⟩
  refine ⟨hm, hl, ?_⟩
  rw [readP_of h]
  have e : ptOf b [a, n, x, y, z] u = ⟨a, n, x, y, (b.drop u).take k⟩ := by
    show (⟨a, n, x, y, (b.drop u).take z.toInt.toNat⟩ : Pt) = _
    rw [hz]
    simp
  rw [e, (mayB_iff _).2 hm, Bool.true_and]
  simp only [beq_iff_eq]
theorem five_of {d : List (BitVec 64)} (h : d.length = 5) : ∃ a n x y z, d = [a, n, x, y, z] := by
  match d, h with
  | [a, n, x, y, z], _ => exact ⟨a, n, x, y, z, rfl⟩
theorem box_five {w : World} {z : Nat} {t : TypeId} {c0 c1 c2 c3 c4 : Value} (h : Box w z t #[c0, c1, c2, c3, c4]) (a b d e f : Value) : Box (((((w.setCell ⟨z, 0, none⟩ a).setCell ⟨z, 1, none⟩ b).setCell ⟨z, 2, none⟩ d).setCell ⟨z, 3, none⟩ e).setCell ⟨z, 4, none⟩ f) z t #[a, b, d, e, f] := by
  have := ((((h.set 0 a).set 1 b).set 2 d).set 3 e).set 4 f
  simpa using this
theorem other_five {w : World} {g z : Nat} {t : TypeId} {c : Array Value} (h : Box w g t c) (hn : g ≠ z) (x y u v r : Value) : Box (((((w.setCell ⟨z, 0, none⟩ x).setCell ⟨z, 1, none⟩ y).setCell ⟨z, 2, none⟩ u).setCell ⟨z, 3, none⟩ v).setCell ⟨z, 4, none⟩ r) g t c :=
  ((((h.other (a := ⟨z, 0, none⟩) hn x).other (a := ⟨z, 1, none⟩) hn y).other (a := ⟨z, 2, none⟩) hn u).other (a := ⟨z, 3, none⟩) hn v).other (a := ⟨z, 4, none⟩) hn r
theorem below_five {B : Nat} {a w : World} {z : Nat} (h : Below B a w) (hz : B ≤ z) (x y u v t : Value) : Below B a (((((w.setCell ⟨z, 0, none⟩ x).setCell ⟨z, 1, none⟩ y).setCell ⟨z, 2, none⟩ u).setCell ⟨z, 3, none⟩ v).setCell ⟨z, 4, none⟩ t) :=
  ((((h.setCell (p := ⟨z, 0, none⟩) hz x).setCell (p := ⟨z, 1, none⟩) hz y).setCell (p := ⟨z, 2, none⟩) hz u).setCell (p := ⟨z, 3, none⟩) hz v).setCell (p := ⟨z, 4, none⟩) hz t
theorem size_fields : (Try.prog.info? 120).map (·.size) = some 5 := by kernel_rfl
set_option maxRecDepth 4000 in
set_option maxHeartbeats 1000000 in
theorem refRead_any (b : List UInt8) (hb : b.length = 128) (w : World) :
    Calls Try.prog 58 #[.string (strB b)] w (ReadAns b w) := by
  have hz : (strB b).size = 128 := by rw [strB_size, hb]
  have ht : ∀ (u : Nat) (w : World), Calls Try.prog 68 #[.string ((strB b).extract u (strB b).size)] w fun e w' => e = .returned (.tuple #[.int .i64 (zagW (tk (b.drop u)).1).toInt, .int .i64 (tk (b.drop u)).2.1, .int .i64 (tk (b.drop u)).2.2]) ∧ Below w.heap.size w w' := by
    intro u w
    have := refTake_any ((strB b).extract u (strB b).size) w
    rw [extract_rest, strB_list] at this
    exact this
  rw [hz] at ht
  have HT := (show Hid _ from ht)
  have HB : Hid (b.length = 128) := hb
  obtain ⟨S, hS⟩ : ∃ S, S = strB b := ⟨_, rfl⟩
  have HS : Hid (S = strB b) := hS
  rw [← hS] at ht HT hz ⊢
  clear ht hb hS
  go_enter Try.func58, Try.ntmps58
  go_wp2
  go_loopg [5, 6] 5 (fun g s5 s6 wx => ∃ (k u : Nat) (d : List (BitVec 64)), k + g = 5 ∧ s6 = .int .i64 k ∧ s5 = .int .i64 u ∧ d.length = k ∧ u ≤ 128 ∧ tkF (5 - k) b d u = tkF 5 b [] 0 ∧ Box wx w.heap.size 120 (pv noPt) ∧ Box wx (w.heap.size + 1) 126 (arr5 d) ∧ Below w.heap.size w wx)
  case atStart =>
    have b1 := box_new (w.alloc (.cells (pv noPt) 120)) (arr5 []) 126
    rw [World.size_alloc] at b1
    exact ⟨0, 0, [], rfl, rfl, rfl, rfl, by omega, rfl, box_old _ _ _ _, b1, below2 _ _ _⟩
  case round =>
    obtain ⟨k, u, d, hkg, rfl, rfl, hdk, hu, htk, hB0, hB1, hbel⟩ := hrel
    have HF : Hid (tkF (5 - k) b d u = tkF 5 b [] 0) := htk
    have HD : Hid (d.length = k) := hdk
    have HB0 : Hid (Box wr w.heap.size 120 (pv noPt)) := hB0
    have HB1 : Hid (Box wr (w.heap.size + 1) 126 (arr5 d)) := hB1
    have hub : 0 ≤ (u : Int) ∧ (u : Int) ≤ 128 := by omega
    by_cases hk : k < 5
    · have hkI : (k : Int) < 5 := by omega
      have c := HT.out u
      clear htk hdk hB0 hB1
      rcases tk_cases (b.drop u) with ⟨z, hp, e⟩ | ⟨_, e⟩
      · have hlen := hp.length_le
        have hzl : lenW z = (leb z.toNat).length := rfl
        rw [List.length_drop, HB.out, ← hzl] at hlen
        have HE : Hid (tk (b.drop u) = (z, lenW z, 0)) := e
        rw [e] at c
        simp only at c
        obtain ⟨x, hx⟩ : ∃ x, x = zagW z := ⟨_, rfl⟩
        obtain ⟨n, hn⟩ : ∃ n, n = lenW z := ⟨_, rfl⟩
        rw [← hx, ← hn] at c
        rw [← hn] at hlen
        have HX : Hid (x = zagW z ∧ n = lenW z) := ⟨hx, hn⟩
        clear hx hn e hp hzl
        go_wp2_with fail
        refine (c _).mono ?_
        rintro e w2 ⟨rfl, hb2⟩
        have hA0 := HB0.out.over hb2
        have hA1 := HB1.out.over hb2
        obtain ⟨v, hv⟩ := arr5_at d k hk
        have hc1 := hA1.cell k v hv
        have hf1 := hA1.frozen k
        replace hb2 := hbel.trans (hb2.mono hbel.size)
        have HA : Hid (Box w2 w.heap.size 120 (pv noPt) ∧ Box w2 (w.heap.size + 1) 126 (arr5 d) ∧ Below w.heap.size w w2) := ⟨hA0, hA1, hb2⟩
        clear hA0 hA1 hb2 hv
        go_wp2_with fail
        go_roundg (5 - (k + 1))
        case measure => omega
        case rel =>
          obtain ⟨hA0, hA1, hb2⟩ := HA.out
          obtain ⟨hx, hn⟩ := HX.out
          have hset := hA1.set k (.int .i64 x.toInt)
          have hdl := HD.out
          subst hdl
          rw [arr5_set d x hk] at hset
          refine ⟨d.length + 1, u + n, d ++ [x], by omega, by go_num, by go_num, by simp, by omega, ?_, hA0.other (by simp) _, hset, hb2.setCell (p := ⟨w.heap.size + 1, d.length, none⟩) (by simp) _⟩
          rw [← HF.out, show 5 - d.length = (5 - (d.length + 1)) + 1 by omega, tkF_ok HE.out, hx, hn]
      · have HE : Hid (readP b = none) := by
          show _ = _
          apply readP_none
          have h1 := HF.out
          rw [show 5 - k = (5 - (k + 1)) + 1 by omega, tkF_no e] at h1
          unfold tkF at h1
          cases h2 : tkN 5 b with
          | none => rfl
          | some q => rw [List.drop_zero, h2] at h1; cases h1
        rw [e] at c
        simp only at c
        rw [zag_zero] at c
        clear e
        go_wp2_with fail
        refine (c _).mono ?_
        rintro e w2 ⟨rfl, hb2⟩
        have hA0 := HB0.out.over hb2
        have z0 := hA0.cell 0 _ rfl
        have z1 := hA0.cell 1 _ rfl
        have z2 := hA0.cell 2 _ rfl
        have z3 := hA0.cell 3 _ rfl
        have z4 := hA0.cell 4 _ rfl
        have y0 := hA0.frozen 0
        have y1 := hA0.frozen 1
        have y2 := hA0.frozen 2
        have y3 := hA0.frozen 3
        have y4 := hA0.frozen 4
        have F5 := box_five hA0 (.int .i64 0) (.int .i64 0) (.int .i64 0) (.int .i64 0) (.string { data := #[] })
        have hb3 := below_five (hbel.trans (hb2.mono hbel.size)) (Nat.le_refl _) (.int .i64 0) (.int .i64 0) (.int .i64 0) (.int .i64 0) (.string { data := #[] })
        have HA : Hid _ := (show Hid _ from F5)
        have HA3 : Hid _ := (show Hid _ from hb3)
        clear hA0 hb2 F5 hb3
        go_wp2_with fail
        refine bodyPost_ret (res_box_slot Try.results58 _ rfl HA.out Try.underlying120 rfl size_fields _ rfl) rfl ⟨⟨noPt, ?_, ?_⟩, HA3.out⟩
        · rw [HE.out]; rfl
        · intro q hq; rw [HE.out] at hq; cases hq
    · have hkI : ¬ (k : Int) < 5 := by omega
      have hk5 : k = 5 := by omega
      subst hk5
      obtain ⟨a, n, x, y, z, rfl⟩ := five_of HD.out
      have HT5 : Hid (tkN 5 b = some ([a, n, x, y, z], u)) := by
        show _ = _
        have h1 := HF.out
        rw [show 5 - 5 = 0 from rfl, tkF_zero] at h1
        unfold tkF at h1
        cases h2 : tkN 5 b with
        | none => rw [List.drop_zero, h2] at h1; cases h1
        | some q =>
          rw [List.drop_zero, h2] at h1
          simp at h1
          rw [h1.1, h1.2]
      have l0 := hB1.cell 0 (.int .i64 a.toInt) rfl
      have l1 := hB1.cell 1 (.int .i64 n.toInt) rfl
      have l2 := hB1.cell 2 (.int .i64 x.toInt) rfl
      have l3 := hB1.cell 3 (.int .i64 y.toInt) rfl
      have l4 := hB1.cell 4 (.int .i64 z.toInt) rfl
      have z0 := hB0.cell 0 _ rfl
      have z1 := hB0.cell 1 _ rfl
      have z2 := hB0.cell 2 _ rfl
      have z3 := hB0.cell 3 _ rfl
      have z4 := hB0.cell 4 _ rfl
      have y0 := hB0.frozen 0
      have y1 := hB0.frozen 1
      have y2 := hB0.frozen 2
      have y3 := hB0.frozen 3
      have y4 := hB0.frozen 4
      clear htk hdk HF HD hB0 hB1
      have r1 : wrap64 (128 - (u : Int)) = 128 - (u : Int) := by unfold wrap64; omega
      have r2 : wrap64 (128 - (u : Int) - 4) = 128 - (u : Int) - 4 := by unfold wrap64; omega
      by_cases hall : 0 ≤ x.toInt ∧ 0 ≤ y.toInt ∧ x.toInt ≤ 86 ∧ y.toInt ≤ 86 ∧ 1 ≤ z.toInt ∧ z.toInt ≤ 96 ∧ z.toInt ≤ 128 - (u : Int) - 4
      · obtain ⟨h1, h2, h3, h4, h5, h6, h7⟩ := hall
        obtain ⟨k, hk5⟩ : ∃ k : Nat, z.toInt = (k : Int) := ⟨z.toInt.toNat, by omega⟩
        rw [hk5] at l4 h5 h6 h7
        obtain ⟨hm, hpl, hrd⟩ := readP_good HB.out HT5.out h1 h2 h3 h4 hk5 (by omega) (by omega) (by omega)
        have c := fun w => refPart_any ⟨a, n, x, y, (b.drop u).take k⟩ (Nat.le_trans (body_len hm) (by omega)) w
        have hcut : S.extract u (u + k) = strB ((b.drop u).take k) := by rw [HS.out, extract_piece, show u + k - u = k by omega]
        simp only at c
        have HR : Hid (readP b = if partL ⟨a, n, x, y, (b.drop u).take k⟩ = b then some ⟨a, n, x, y, (b.drop u).take k⟩ else none) := hrd
        have HC : Hid (S.extract u (u + k) = strB ((b.drop u).take k)) := hcut
        rw [← hcut] at c
        have hq : ((strB (partL ⟨a, n, x, y, (b.drop u).take k⟩)).toList == S.toList) = (readP b).isSome := by
          rw [HS.out, strB_toList, strB_toList, hrd]
          by_cases e : partL ⟨a, n, x, y, (b.drop u).take k⟩ = b
          · rw [if_pos e]; simpa using e
          · rw [if_neg e]; simpa using e
        obtain ⟨Q, hQ⟩ : ∃ Q, Q = strB (partL ⟨a, n, x, y, (b.drop u).take k⟩) := ⟨_, rfl⟩
        rw [← hQ] at c hq
        have HP : Hid (∀ q, readP b = some q → (⟨a, n, x, y, (b.drop u).take k⟩ : Pt) = q) := by
          intro q hq2
          rw [hrd] at hq2
          split at hq2
          · exact Option.some.inj hq2
          · cases hq2
        have HM : Hid (z.toInt = (k : Int)) := hk5
        clear hk5 hrd hcut hQ hm hpl HT5
        have r3 : wrap64 ((u : Int) + (k : Int)) = (u : Int) + (k : Int) := by unfold wrap64; omega
        have hbd : (u : Int) ≤ (u : Int) + (k : Int) ∧ (u : Int) + (k : Int) ≤ 128 := by omega
        go_wp2_with fail
        refine wp_region_held_then (fun w' : World => w'.cell? ⟨w.heap.size + 1, 0, none⟩ = some (.int .i64 a.toInt) ∧ w'.cell? ⟨w.heap.size + 1, 1, none⟩ = some (.int .i64 n.toInt) ∧ w'.cell? ⟨w.heap.size + 1, 2, none⟩ = some (.int .i64 x.toInt) ∧ w'.cell? ⟨w.heap.size + 1, 3, none⟩ = some (.int .i64 y.toInt)) _ (by kernel_rfl) rfl (by kernel_rfl) ?_
        have hHeld : (fun w' : World => w'.cell? ⟨w.heap.size + 1, 0, none⟩ = some (.int .i64 a.toInt) ∧ w'.cell? ⟨w.heap.size + 1, 1, none⟩ = some (.int .i64 n.toInt) ∧ w'.cell? ⟨w.heap.size + 1, 2, none⟩ = some (.int .i64 x.toInt) ∧ w'.cell? ⟨w.heap.size + 1, 3, none⟩ = some (.int .i64 y.toInt)) wr.drew := ⟨l0, l1, l2, l3⟩
        dsimp only [List.dropLast, List.length, List.getLast]
        ((refine takeL 0 (v := ?_) rfl (by kernel_rfl) (by kernel_rfl) (by kernel_rfl) (fun _ _ _ h => h) (by rfl) hHeld ?_ ?_; rotate_left; focus (intro w hSw; (try dsimp only at hSw); go_simp <;> with_reducible rfl); (try simp only [Act.put, List.setIfInBounds_toArray, List.set_cons_zero, List.set_cons_succ])); (refine takeL 1 (v := ?_) rfl (by kernel_rfl) (by kernel_rfl) (by kernel_rfl) (fun _ _ _ h => h) (by rfl) hHeld ?_ ?_; rotate_left; focus (intro w hSw; (try dsimp only at hSw); go_simp <;> with_reducible rfl); (try simp only [Act.put, List.setIfInBounds_toArray, List.set_cons_zero, List.set_cons_succ])); (refine takeL 2 (v := ?_) rfl (by kernel_rfl) (by kernel_rfl) (by kernel_rfl) (fun _ _ _ h => h) (by rfl) hHeld ?_ ?_; rotate_left; focus (intro w hSw; (try dsimp only at hSw); go_simp <;> with_reducible rfl); (try simp only [Act.put, List.setIfInBounds_toArray, List.set_cons_zero, List.set_cons_succ])); (refine takeL 3 (v := ?_) rfl (by kernel_rfl) (by kernel_rfl) (by kernel_rfl) (fun _ _ _ h => h) (by rfl) hHeld ?_ ?_; rotate_left; focus (intro w hSw; (try dsimp only at hSw); go_simp <;> with_reducible rfl); (try simp only [Act.put, List.setIfInBounds_toArray, List.set_cons_zero, List.set_cons_succ])); (refine takeL 4 (v := ?_) rfl (by kernel_rfl) (by kernel_rfl) (by kernel_rfl) (fun _ _ _ h => h) (by rfl) hHeld ?_ ?_; rotate_left; focus (intro w hSw; (try dsimp only at hSw); go_simp <;> with_reducible rfl); (try simp only [Act.put, List.setIfInBounds_toArray, List.set_cons_zero, List.set_cons_succ])); (refine takeL 5 (v := ?_) rfl (by kernel_rfl) (by kernel_rfl) (by kernel_rfl) (fun _ _ _ h => h) (by rfl) hHeld ?_ ?_; rotate_left; focus (intro w hSw; (try dsimp only at hSw); go_simp <;> with_reducible rfl); (try simp only [Act.put, List.setIfInBounds_toArray, List.set_cons_zero, List.set_cons_succ])); (refine takeL 6 (v := ?_) rfl (by kernel_rfl) (by kernel_rfl) (by kernel_rfl) (fun _ _ _ h => h) (by rfl) hHeld ?_ ?_; rotate_left; focus (intro w hSw; (try dsimp only at hSw); go_simp <;> with_reducible rfl); (try simp only [Act.put, List.setIfInBounds_toArray, List.set_cons_zero, List.set_cons_succ])); (refine takeL 7 (v := ?_) rfl (by kernel_rfl) (by kernel_rfl) (by kernel_rfl) (fun _ _ _ h => h) (by rfl) hHeld ?_ ?_; rotate_left; focus (intro w hSw; (try dsimp only at hSw); go_simp <;> with_reducible rfl); (try simp only [Act.put, List.setIfInBounds_toArray, List.set_cons_zero, List.set_cons_succ])); (refine takeL 8 (v := ?_) rfl (by kernel_rfl) (by kernel_rfl) (by kernel_rfl) (fun _ _ _ h => h) (by rfl) hHeld ?_ ?_; rotate_left; focus (intro w hSw; (try dsimp only at hSw); go_simp <;> with_reducible rfl); (try simp only [Act.put, List.setIfInBounds_toArray, List.set_cons_zero, List.set_cons_succ])); (refine takeL 9 (v := ?_) rfl (by kernel_rfl) (by kernel_rfl) (by kernel_rfl) (fun _ _ _ h => h) (by rfl) hHeld ?_ ?_; rotate_left; focus (intro w hSw; (try dsimp only at hSw); go_simp <;> with_reducible rfl); (try simp only [Act.put, List.setIfInBounds_toArray, List.set_cons_zero, List.set_cons_succ])); (refine takeL 10 (v := ?_) rfl (by kernel_rfl) (by kernel_rfl) (by kernel_rfl) (fun _ _ _ h => h) (by rfl) hHeld ?_ ?_; rotate_left; focus (intro w hSw; (try dsimp only at hSw); go_simp <;> with_reducible rfl); (try simp only [Act.put, List.setIfInBounds_toArray, List.set_cons_zero, List.set_cons_succ])); (refine takeL 11 (v := ?_) rfl (by kernel_rfl) (by kernel_rfl) (by kernel_rfl) (fun _ _ _ h => h) (by rfl) hHeld ?_ ?_; rotate_left; focus (intro w hSw; (try dsimp only at hSw); go_simp <;> with_reducible rfl); (try simp only [Act.put, List.setIfInBounds_toArray, List.set_cons_zero, List.set_cons_succ])); (refine takeL 12 (v := ?_) rfl (by kernel_rfl) (by kernel_rfl) (by kernel_rfl) (fun _ _ _ h => h) (by rfl) hHeld ?_ ?_; rotate_left; focus (intro w hSw; (try dsimp only at hSw); go_simp <;> with_reducible rfl); (try simp only [Act.put, List.setIfInBounds_toArray, List.set_cons_zero, List.set_cons_succ])); (refine takeL 13 (v := ?_) rfl (by kernel_rfl) (by kernel_rfl) (by kernel_rfl) (fun _ _ _ h => h) (by rfl) hHeld ?_ ?_; rotate_left; focus (intro w hSw; (try dsimp only at hSw); go_simp <;> with_reducible rfl); (try simp only [Act.put, List.setIfInBounds_toArray, List.set_cons_zero, List.set_cons_succ])); (refine takeL 14 (v := ?_) rfl (by kernel_rfl) (by kernel_rfl) (by kernel_rfl) (fun _ _ _ h => h) (by rfl) hHeld ?_ ?_; rotate_left; focus (intro w hSw; (try dsimp only at hSw); go_simp <;> with_reducible rfl); (try simp only [Act.put, List.setIfInBounds_toArray, List.set_cons_zero, List.set_cons_succ])); (refine takeL 15 (v := ?_) rfl (by kernel_rfl) (by kernel_rfl) (by kernel_rfl) (fun _ _ _ h => h) (by rfl) hHeld ?_ ?_; rotate_left; focus (intro w hSw; (try dsimp only at hSw); go_simp <;> with_reducible rfl); (try simp only [Act.put, List.setIfInBounds_toArray, List.set_cons_zero, List.set_cons_succ])); (refine takeL 16 (v := ?_) rfl (by kernel_rfl) (by kernel_rfl) (by kernel_rfl) (fun _ _ _ h => h) (by rfl) hHeld ?_ ?_; rotate_left; focus (intro w hSw; (try dsimp only at hSw); go_simp <;> with_reducible rfl); (try simp only [Act.put, List.setIfInBounds_toArray, List.set_cons_zero, List.set_cons_succ])); (refine takeL 17 (v := ?_) rfl (by kernel_rfl) (by kernel_rfl) (by kernel_rfl) (fun _ _ _ h => h) (by rfl) hHeld ?_ ?_; rotate_left; focus (intro w hSw; (try dsimp only at hSw); go_simp <;> with_reducible rfl); (try simp only [Act.put, List.setIfInBounds_toArray, List.set_cons_zero, List.set_cons_succ])); (refine takeL 18 (v := ?_) rfl (by kernel_rfl) (by kernel_rfl) (by kernel_rfl) (fun _ _ _ h => h) (by rfl) hHeld ?_ ?_; rotate_left; focus (intro w hSw; (try dsimp only at hSw); go_simp <;> with_reducible rfl); (try simp only [Act.put, List.setIfInBounds_toArray, List.set_cons_zero, List.set_cons_succ])); (refine takeL 20 (v := ?_) rfl (by kernel_rfl) (by kernel_rfl) (by kernel_rfl) (fun _ _ _ h => h) (by rfl) hHeld ?_ ?_; rotate_left; focus (intro w hSw; (try dsimp only at hSw); go_simp <;> with_reducible rfl); (try simp only [Act.put, List.setIfInBounds_toArray, List.set_cons_zero, List.set_cons_succ])))
        dsimp only [Act.put]
        simp only [List.setIfInBounds_toArray, List.set_cons_zero, List.set_cons_succ]
        refine callL 19 (f := 53) (vs := #[.int .i64 a.toInt, .int .i64 n.toInt, .int .i64 x.toInt, .int .i64 y.toInt, .string (S.extract u (u + k))]) rfl (by kernel_rfl) (by rfl) (by go_simp) ?_
        refine (c _).mono ?_
        rintro e w2 ⟨rfl, hb2⟩
        have hA0 := HB0.out.drew.over hb2
        have hA1 := HB1.out.drew.over hb2
        have hHeld2 : (fun w' : World => w'.cell? ⟨w.heap.size + 1, 0, none⟩ = some (.int .i64 a.toInt) ∧ w'.cell? ⟨w.heap.size + 1, 1, none⟩ = some (.int .i64 n.toInt) ∧ w'.cell? ⟨w.heap.size + 1, 2, none⟩ = some (.int .i64 x.toInt) ∧ w'.cell? ⟨w.heap.size + 1, 3, none⟩ = some (.int .i64 y.toInt)) w2 := ⟨hA1.cell 0 _ rfl, hA1.cell 1 _ rfl, hA1.cell 2 _ rfl, hA1.cell 3 _ rfl⟩
        refine ⟨_, rfl, hHeld2, ?_⟩
        have F5 := box_five hA0 (.int .i64 a.toInt) (.int .i64 n.toInt) (.int .i64 x.toInt) (.int .i64 y.toInt) (.string (S.extract u (u + k)))
        have b2 := hbel.trans (((Below.refl _ wr).drew.trans hb2).mono hbel.size)
        have hb3 := below_five b2 (Nat.le_refl _) (.int .i64 a.toInt) (.int .i64 n.toInt) (.int .i64 x.toInt) (.int .i64 y.toInt) (.string (S.extract u (u + k)))
        have hA5 := other_five hA1 (z := w.heap.size) (by omega) (.int .i64 a.toInt) (.int .i64 n.toInt) (.int .i64 x.toInt) (.int .i64 y.toInt) (.string (S.extract u (u + k)))
        have q0 := hA0.cell 0 _ rfl
        have q1 := hA0.cell 1 _ rfl
        have q2 := hA0.cell 2 _ rfl
        have q3 := hA0.cell 3 _ rfl
        have q4 := hA0.cell 4 _ rfl
        have p0 := hA0.frozen 0
        have p1 := hA0.frozen 1
        have p2 := hA0.frozen 2
        have p3 := hA0.frozen 3
        have p4 := hA0.frozen 4
        ((refine takeL 21 (v := ?_) rfl (by kernel_rfl) (by kernel_rfl) (by kernel_rfl) (fun _ _ _ h => h) (by rfl) hHeld2 ?_ ?_; rotate_left; focus (intro w hSw; (try dsimp only at hSw); go_simp <;> with_reducible rfl); (try simp only [Act.put, List.setIfInBounds_toArray, List.set_cons_zero, List.set_cons_succ])))
        dsimp only [Act.put]
        simp only [List.setIfInBounds_toArray, List.set_cons_zero, List.set_cons_succ]
        refine stepL 22 (((((w2.setCell ⟨w.heap.size, 0, none⟩ (.int .i64 a.toInt)).setCell ⟨w.heap.size, 1, none⟩ (.int .i64 n.toInt)).setCell ⟨w.heap.size, 2, none⟩ (.int .i64 x.toInt)).setCell ⟨w.heap.size, 3, none⟩ (.int .i64 y.toInt)).setCell ⟨w.heap.size, 4, none⟩ (.string (S.extract u (u + k)))) rfl (by kernel_rfl) (by rfl) (by go_simp) ⟨hA5.cell 0 _ rfl, hA5.cell 1 _ rfl, hA5.cell 2 _ rfl, hA5.cell 3 _ rfl⟩ ?_
        refine doneL (by kernel_rfl) ?_
        dsimp only [Act.put]
        unfold Oper.wp
        go_simp
        go_wp2_with fail
        refine bodyPost_ret (res_box_slot Try.results58 _ rfl F5 Try.underlying120 rfl size_fields _ rfl) rfl ⟨⟨⟨a, n, x, y, (b.drop u).take k⟩, ?_, HP.out⟩, hb3⟩
        rw [HC.out]
        rfl
      · have HE : Hid (readP b = none) := readP_bad HB.out HT5.out hall
        have F5 := box_five HB0.out (.int .i64 0) (.int .i64 0) (.int .i64 0) (.int .i64 0) (.string { data := #[] })
        have hb3 := below_five hbel (Nat.le_refl _) (.int .i64 0) (.int .i64 0) (.int .i64 0) (.int .i64 0) (.string { data := #[] })
        have HA : Hid _ := (show Hid _ from F5)
        have HA3 : Hid _ := (show Hid _ from hb3)
        clear F5 hb3
        have hw : x.toInt < 0 ∨ (0 ≤ x.toInt ∧ y.toInt < 0) ∨ (0 ≤ x.toInt ∧ 0 ≤ y.toInt ∧ 86 < x.toInt) ∨ (0 ≤ x.toInt ∧ 0 ≤ y.toInt ∧ x.toInt ≤ 86 ∧ 86 < y.toInt) ∨ (0 ≤ x.toInt ∧ 0 ≤ y.toInt ∧ x.toInt ≤ 86 ∧ y.toInt ≤ 86 ∧ z.toInt < 1) ∨ (0 ≤ x.toInt ∧ 0 ≤ y.toInt ∧ x.toInt ≤ 86 ∧ y.toInt ≤ 86 ∧ 1 ≤ z.toInt ∧ 96 < z.toInt) ∨ (0 ≤ x.toInt ∧ 0 ≤ y.toInt ∧ x.toInt ≤ 86 ∧ y.toInt ≤ 86 ∧ 1 ≤ z.toInt ∧ z.toInt ≤ 96 ∧ 128 - (u : Int) - 4 < z.toInt) := by omega
        clear hall
        rcases hw with h1 | ⟨h1, h2⟩ | ⟨h1, h2, h3⟩ | ⟨h1, h2, h3, h4⟩ | ⟨h1, h2, h3, h4, h5⟩ | ⟨h1, h2, h3, h4, h5, h6⟩ | ⟨h1, h2, h3, h4, h5, h6, h7⟩
        all_goals
          go_wp2_with fail
          refine bodyPost_ret (res_box_slot Try.results58 _ rfl HA.out Try.underlying120 rfl size_fields _ rfl) rfl ⟨⟨noPt, ?_, ?_⟩, HA3.out⟩
          · rw [HE.out]; rfl
          · intro q hq; rw [HE.out] at hq; cases hq
end Go.Proofs.Ytgffplfpoopolaa
/-
  The contracts of package peristyleref23's part.
-/
namespace Go.Proofs.Ytgffplfpoopolaa
open Go.RowKit Leb

/-- What part tells of a block. -/
def PartAns (b : List UInt8) (turn : BitVec 64) (num : Int) (w : World) (e : Ending) (w' : World) : Prop :=
  (∃ (p : Pt) (ok : Bool), e = .returned (.tuple #[.string (strB p.s), .int .i64 p.ahead.toInt, .int .i64 p.behind.toInt, .bool ok]) ∧ (ok = true ↔ readP b = some p ∧ p.turn = turn ∧ p.num.toInt = num) ∧ ∀ q, readP b = some q → p = q) ∧ Below w.heap.size w w'
theorem below_drewN (w : World) (n : Nat) : Below w.heap.size w (w.drewN n) := ⟨rfl, rfl, rfl, Nat.le_refl _, fun _ _ => rfl⟩
theorem toInt_beq (x y : BitVec 64) : (x.toInt == y.toInt) = decide (x = y) := by
  rw [Bool.eq_iff_iff, beq_iff_eq, decide_eq_true_iff, BitVec.toInt_inj]
set_option maxRecDepth 4000 in
set_option maxHeartbeats 1000000 in
theorem refpart_any (b : List UInt8) (hb : b.length = 128) (turn : BitVec 64) (num : Int) (w : World) :
    Calls Try.prog 83 #[.string (strB b), .int .i64 turn.toInt, .int .i64 num] w (PartAns b turn num w) := by
  have c := refRead_any b hb
  obtain ⟨S, hS⟩ : ∃ S, S = strB b := ⟨_, rfl⟩
  rw [← hS] at c ⊢
  clear hS hb
  go_enter Try.func83, Try.ntmps83
  go_wp2_with fail
  refine (c _).mono ?_
  rintro e w1 ⟨⟨⟨a, n, x, y, sL⟩, he, hp⟩, hb1⟩
  obtain ⟨ok, hok⟩ : ∃ ok, ok = (readP b).isSome := ⟨_, rfl⟩
  rw [← hok] at he
  have he2 : e = .returned (.tuple #[.agg #[.int .i64 a.toInt, .int .i64 n.toInt, .int .i64 x.toInt, .int .i64 y.toInt, .string (strB sL)], .bool ok]) := he
  clear he
  subst he2
  have F5 := box_new w1 #[.int .i64 a.toInt, .int .i64 n.toInt, .int .i64 x.toInt, .int .i64 y.toInt, .string (strB sL)] 120
  have hb2 := hb1.trans ((below1 w1 (.cells #[.int .i64 a.toInt, .int .i64 n.toInt, .int .i64 x.toInt, .int .i64 y.toInt, .string (strB sL)] 120)).mono hb1.size)
  obtain ⟨W, hW⟩ : ∃ W, W = w1.alloc (.cells #[.int .i64 a.toInt, .int .i64 n.toInt, .int .i64 x.toInt, .int .i64 y.toInt, .string (strB sL)] 120) := ⟨_, rfl⟩
  rw [← hW] at F5 hb2
  have HW : Hid (W = w1.alloc (.cells #[.int .i64 a.toInt, .int .i64 n.toInt, .int .i64 x.toInt, .int .i64 y.toInt, .string (strB sL)] 120)) := hW
  have HP : Hid ((∀ q, readP b = some q → (⟨a, n, x, y, sL⟩ : Pt) = q) ∧ ok = (readP b).isSome) := ⟨hp, hok⟩
  have f0 := F5.cell 0 _ rfl
  have f1 := F5.cell 1 _ rfl
  have f2 := F5.cell 2 _ rfl
  have f3 := F5.cell 3 _ rfl
  have f4 := F5.cell 4 _ rfl
  clear hp hok hW F5
  have hend : ∀ ok2 : Bool, (ok2 = true ↔ ok = true ∧ a = turn ∧ n.toInt = num) → ∀ W', Below W.heap.size W W' → PartAns b turn num w (.returned (.tuple #[.string (strB sL), .int .i64 x.toInt, .int .i64 y.toInt, .bool ok2])) W' := by
    intro ok2 h2 W' hbW
    refine ⟨⟨⟨a, n, x, y, sL⟩, ok2, rfl, ?_, HP.out.1⟩, hb2.trans (hbW.mono hb2.size)⟩
    rw [h2]
    have h3 := HP.out.2
    constructor
    · rintro ⟨h4, h5, h6⟩
      refine ⟨?_, h5, h6⟩
      rw [h4] at h3
      cases hq : readP b with
      | none => rw [hq] at h3; cases h3
      | some q => rw [HP.out.1 q hq]
    · rintro ⟨h4, h5, h6⟩
      refine ⟨?_, h5, h6⟩
      rw [h3, h4]
      rfl
  have HEND := (show Hid _ from hend)
  clear hend
  go_wp2_with fail
  show Code.wp _ _ _ _ (w1.alloc (.cells #[.int .i64 a.toInt, .int .i64 n.toInt, .int .i64 x.toInt, .int .i64 y.toInt, .string (strB sL)] 120))
  rw [← HW.out]
  cases ok with
  | false =>
    go_quiet (fail)
    go_wp2
    exact bodyPost_ret (v := .tuple #[.string (strB sL), .int .i64 x.toInt, .int .i64 y.toInt, .bool false]) (by simp [results, Try.results83, go_sem]) rfl (HEND.out false (by simp) _ (below_drewN W _))
  | true =>
    by_cases h1 : (a.toInt == turn.toInt) = true
    · by_cases h2 : (n.toInt == num) = true
      · have e1 : a = turn := BitVec.toInt_inj.1 (by simpa using h1)
        have e2 : n.toInt = num := by simpa using h2
        have HE : Hid (a = turn ∧ n.toInt = num) := ⟨e1, e2⟩
        clear e1 e2
        go_quiet (fail)
        go_wp2
        exact bodyPost_ret (v := .tuple #[.string (strB sL), .int .i64 x.toInt, .int .i64 y.toInt, .bool true]) (by simp [results, Try.results83, go_sem]) rfl (HEND.out true (by simp [HE.out.1, HE.out.2]) _ (below_drewN W _))
      · have e2 : ¬ n.toInt = num := by simpa using h2
        have h2f : (n.toInt == num) = false := by simpa using h2
        have HE : Hid (¬ n.toInt = num) := e2
        clear e2 h2
        go_quiet (fail)
        go_wp2
        exact bodyPost_ret (v := .tuple #[.string (strB sL), .int .i64 x.toInt, .int .i64 y.toInt, .bool false]) (by simp [results, Try.results83, go_sem]) rfl (HEND.out false (by simp [HE.out]) _ (below_drewN W _))
    · have e1 : ¬ a = turn := fun e => h1 (by rw [e]; simp)
      have h1f : (a.toInt == turn.toInt) = false := by simpa using h1
      have HE : Hid (¬ a = turn) := e1
      clear e1 h1
      go_quiet (fail)
      go_wp2
      exact bodyPost_ret (v := .tuple #[.string (strB sL), .int .i64 x.toInt, .int .i64 y.toInt, .bool false]) (by simp [results, Try.results83, go_sem]) rfl (HEND.out false (by simp [HE.out]) _ (below_drewN W _))
end Go.Proofs.Ytgffplfpoopolaa
