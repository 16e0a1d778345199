/-
  16 texts, one behind the other: JPure, DPure, JCrash, QPure, VSame, VRow, PMem, CRefSeal, VRefPut, DMem, DDev, DMeth, DNew, DWrite, DRaw, DSync.
-/
import Derived.Test.YthcjjcfiademnaaDoorJoin1
import Derived.Deep.QuietTactic
import Derived.BigQuiet
import Derived.Deep.LoopGhost
import Derived.Deep.Strs
import Derived.Laws.OwnMore
import Derived.Laws.BytesArg
import Derived.WalkKit
import Derived.WalkSpells
import Derived.WalkLawsBesides
import Derived.Deep.MidRow
import Derived.Deep.DeepAppendWide
import Derived.Deep.RegionHeld3
import Derived.Below
import Derived.OwnWalk
import Derived.Test.YthcjjcfiademnaaDoorRows
import Derived.Laws.MakeOwn
import Derived.Deep.AppendLies
import Derived.Deep.RegionLaw
import Derived.Deep.WholeRow
/-
  A journal without memory: what a part's block is, which parts make a record, which records blocks have, and what a crash leaves of them. Pure mathematics over lists of bytes. No program is spoken of.
-/
namespace Go.Proofs.YthcjjcfiademnaaDoor
open Leb

/-! ### A part, and its block -/
structure Pt where
  turn : BitVec 64
  num : BitVec 64
  ahead : BitVec 64
  behind : BitVec 64
  s : List UInt8
def Pt.nums (p : Pt) : List (BitVec 64) := [p.turn, p.num, p.ahead, p.behind, BitVec.ofNat 64 p.s.length]
def bodyL (p : Pt) : List UInt8 := encs p.nums ++ p.s
def partL (p : Pt) : List UInt8 := sealL (bodyL p) ++ List.replicate (128 - (sealL (bodyL p)).length) 0
structure Pt.May (p : Pt) : Prop where
  a0 : 0 ≤ p.ahead.toInt
  a1 : p.ahead.toInt ≤ 86
  b0 : 0 ≤ p.behind.toInt
  b1 : p.behind.toInt ≤ 86
  s0 : 1 ≤ p.s.length
  s1 : p.s.length ≤ 96

theorem zig_up (x : BitVec 64) (h : 0 ≤ x.toInt) : ((zigW x).toNat : Int) = 2 * x.toInt := by
  have hm : x.msb = false := by
    cases e : x.msb
    · rfl
    · exact absurd ((Wd.neg_iff x).2 e) (by omega)
  have hlt := BitVec.toInt_lt (x := x)
  rw [zigW, if_neg (by simp [hm]), BitVec.toNat_shiftLeft, Nat.shiftLeft_eq]
  rw [BitVec.toInt_eq_toNat_bmod, Int.bmod_def] at h hlt ⊢
  have := x.isLt
  omega
theorem enc1_two (x : BitVec 64) (h0 : 0 ≤ x.toInt) (h1 : x.toInt ≤ 8191) : (enc1 x).length ≤ 2 := by
  have e := zig_up x h0
  exact leb_len_le 1 (z := (zigW x).toNat) (by simp; omega)
theorem enc1_ten (x : BitVec 64) : 1 ≤ (enc1 x).length ∧ (enc1 x).length ≤ 10 := lenW_bd _
theorem encs_five (a b c d e : BitVec 64) : encs [a, b, c, d, e] = enc1 a ++ enc1 b ++ enc1 c ++ enc1 d ++ enc1 e := by simp [encs]
theorem encs_five_len (a b c d e : BitVec 64) : (encs [a, b, c, d, e]).length = (enc1 a).length + (enc1 b).length + (enc1 c).length + (enc1 d).length + (enc1 e).length := by
  rw [encs_five]; simp only [List.length_append]
theorem ofNat_toInt {n : Nat} (h : n < 9223372036854775808) : (BitVec.ofNat 64 n).toInt = (n : Int) := Wd.toInt_of_small _ (by omega)
theorem ofNat_inj {a b : Nat} (ha : a < 9223372036854775808) (hb : b < 9223372036854775808) (h : BitVec.ofNat 64 a = BitVec.ofNat 64 b) : a = b := by
  have := congrArg BitVec.toInt h
  rw [ofNat_toInt ha, ofNat_toInt hb] at this
  omega

theorem body_len {p : Pt} (h : p.May) : (bodyL p).length ≤ 122 := by
  have h1 := (enc1_ten p.turn).2
  have h2 := (enc1_ten p.num).2
  have h3 := enc1_two p.ahead h.a0 (by have := h.a1; omega)
  have h4 := enc1_two p.behind h.b0 (by have := h.b1; omega)
  have hs := h.s1
  have h5 := enc1_two (BitVec.ofNat 64 p.s.length) (by rw [ofNat_toInt (by omega)]; omega) (by rw [ofNat_toInt (by omega)]; omega)
  rw [bodyL, List.length_append, Pt.nums, encs_five_len]
  omega
theorem partL_len {p : Pt} (h : (bodyL p).length ≤ 124) : (partL p).length = 128 := by
  rw [partL, List.length_append, List.length_replicate, sealL_len]
  omega
theorem part_head (p : Pt) : ∃ r, partL p = encs p.nums ++ (p.s ++ r) ∧ (bodyL p).length + r.length = (encs p.nums).length + p.s.length + r.length ∧ 4 ≤ r.length := by
  refine ⟨Crc.four (Crc.sum (bodyL p)) ++ List.replicate (128 - (sealL (bodyL p)).length) 0, ?_, ?_, ?_⟩
  · unfold partL sealL
    rw [show bodyL p = encs p.nums ++ p.s from rfl]
    simp only [List.append_assoc]
  · rw [show bodyL p = encs p.nums ++ p.s from rfl, List.length_append]
  · rw [List.length_append, Crc.four_len]; omega
/-- What is read of a part's block. -/
theorem part_tk (p : Pt) : tkN 5 (partL p) = some (p.nums, (encs p.nums).length) := by
  obtain ⟨r, hr, _⟩ := part_head p
  rw [hr]
  exact tkN_enc p.nums _
theorem part_s (p : Pt) : ((partL p).drop (encs p.nums).length).take p.s.length = p.s := by
  obtain ⟨r, hr, _⟩ := part_head p
  rw [hr, List.drop_left, List.take_left]
theorem part_room (p : Pt) : (encs p.nums).length + p.s.length + 4 ≤ (partL p).length := by
  obtain ⟨r, hr, _, h4⟩ := part_head p
  rw [hr]
  simp only [List.length_append]
  omega
theorem part_inj {p q : Pt} (hp : p.s.length ≤ 96) (hq : q.s.length ≤ 96) (h : partL p = partL q) : p = q := by
  have h1 := part_tk p
  rw [h, part_tk q] at h1
  have h2 : q.nums = p.nums ∧ (encs q.nums).length = (encs p.nums).length := by simpa using h1
  have h3 := part_s p
  rw [h, ← h2.2] at h3
  obtain ⟨e, _⟩ := h2
  simp only [Pt.nums, List.cons.injEq, and_true] at e
  obtain ⟨e1, e2, e3, e4, e5⟩ := e
  have e6 := ofNat_inj (by omega) (by omega) e5
  rw [← e6, part_s q] at h3
  obtain ⟨a, b, c, d, s⟩ := p
  obtain ⟨a', b', c', d', s'⟩ := q
  simp only at e1 e2 e3 e4 h3
  subst e1 e2 e3 e4 h3
  rfl

/-- The part of a block, if it is one. -/
def ptOf (b : List UInt8) (zs : List (BitVec 64)) (u : Nat) : Pt := ⟨zs.getD 0 0#64, zs.getD 1 0#64, zs.getD 2 0#64, zs.getD 3 0#64, (b.drop u).take (zs.getD 4 0#64).toInt.toNat⟩
def Pt.mayB (p : Pt) : Bool := decide (0 ≤ p.ahead.toInt) && decide (p.ahead.toInt ≤ 86) && decide (0 ≤ p.behind.toInt) && decide (p.behind.toInt ≤ 86) && decide (1 ≤ p.s.length) && decide (p.s.length ≤ 96)
theorem mayB_iff (p : Pt) : p.mayB = true ↔ p.May := by
  constructor
  · intro h
    simp only [Pt.mayB, Bool.and_eq_true, decide_eq_true_eq] at h
    obtain ⟨⟨⟨⟨⟨h1, h2⟩, h3⟩, h4⟩, h5⟩, h6⟩ := h
    exact ⟨h1, h2, h3, h4, h5, h6⟩
  · intro h
    simp only [Pt.mayB, Bool.and_eq_true, decide_eq_true_eq]
    exact ⟨⟨⟨⟨⟨h.a0, h.a1⟩, h.b0⟩, h.b1⟩, h.s0⟩, h.s1⟩
def readP (b : List UInt8) : Option Pt :=
  match tkN 5 b with
  | some (zs, u) => if (ptOf b zs u).mayB && (partL (ptOf b zs u) == b) then some (ptOf b zs u) else none
  | none => none
theorem readP_part {p : Pt} (h : p.May) : readP (partL p) = some p := by
  have hs := h.s1
  have e : ptOf (partL p) p.nums (encs p.nums).length = p := by
    have e4 : (p.nums.getD 4 0#64).toInt.toNat = p.s.length := by
      show (BitVec.ofNat 64 p.s.length).toInt.toNat = p.s.length
      rw [ofNat_toInt (by omega)]; omega
    unfold ptOf
    rw [e4, part_s]
    rfl
  unfold readP
  rw [part_tk]
  simp only [e]
  rw [if_pos]
  rw [(mayB_iff p).2 h]
  simp
theorem readP_some {b : List UInt8} {p : Pt} (h : readP b = some p) : p.May ∧ partL p = b := by
  unfold readP at h
  split at h
  · rename_i zs u _
    split at h
    · rename_i hc
      rw [Bool.and_eq_true, beq_iff_eq, mayB_iff] at hc
      have e : ptOf b zs u = p := by simpa using h
      rw [← e]
      exact hc
    · cases h
  · cases h
theorem readP_iff (b : List UInt8) (p : Pt) : readP b = some p ↔ p.May ∧ partL p = b := ⟨readP_some, fun h => by rw [← h.2]; exact readP_part h.1⟩
/-- What must be read of a block that is a part's. -/
theorem readP_tk {b : List UInt8} {p : Pt} (h : readP b = some p) : tkN 5 b = some (p.nums, (encs p.nums).length) ∧ (encs p.nums).length + p.s.length + 4 ≤ b.length := by
  obtain ⟨_, rfl⟩ := readP_some h
  exact ⟨part_tk p, part_room p⟩
theorem readP_none {b : List UInt8} (h : tkN 5 b = none) : readP b = none := by
  unfold readP; rw [h]
theorem readP_of {b : List UInt8} {zs : List (BitVec 64)} {u : Nat} (h : tkN 5 b = some (zs, u)) : readP b = if (ptOf b zs u).mayB && (partL (ptOf b zs u) == b) then some (ptOf b zs u) else none := by
  unfold readP; rw [h]
theorem tkN_len : ∀ (c : Nat) (s : List UInt8) (zs : List (BitVec 64)) (u : Nat), tkN c s = some (zs, u) → zs.length = c ∧ u ≤ s.length := by
  intro c
  induction c with
  | zero =>
    intro s zs u h
    simp only [tkN, Option.some.injEq, Prod.mk.injEq] at h
    rw [← h.1, ← h.2]
    exact ⟨rfl, Nat.zero_le _⟩
  | succ c ih =>
    intro s zs u h
    simp only [tkN] at h
    split at h
    · cases hq : tkN c (s.drop (tk s).2.1) with
      | none => rw [hq] at h; cases h
      | some q =>
        obtain ⟨ys, v⟩ := q
        rw [hq] at h
        simp only [Option.map_some, Option.some.injEq, Prod.mk.injEq] at h
        have := ih _ _ _ hq
        have h2 := (tk_used_le s).1
        rw [List.length_drop] at this
        rw [← h.1, ← h.2]
        simp only [List.length_cons]
        omega
    · cases h
def zeros : List UInt8 := List.replicate 128 0
theorem zeros_no : readP zeros = none := by
  cases h : readP zeros with
  | none => rfl
  | some p =>
    obtain ⟨h1, h2⟩ := readP_some h
    have h3 := part_tk p
    have h4 : tkN 5 zeros = some ([0#64, 0#64, 0#64, 0#64, 0#64], 5) := by decide +kernel
    rw [h2, h4] at h3
    simp only [Option.some.injEq, Prod.mk.injEq, Pt.nums, List.cons.injEq, and_true] at h3
    have h5 := h3.1.2.2.2.2
    have h6 := h1.s1
    have h7 := h1.s0
    have := ofNat_inj (a := 0) (b := p.s.length) (by omega) (by omega) h5
    omega

/-! ### A record, and its parts -/
def needs (n : Nat) : Nat := (n + 95) / 96
def piece (s : List UInt8) (i : Nat) : List UInt8 := (s.drop (96 * i)).take 96
def ptAt (turn : BitVec 64) (first : Nat) (s : List UInt8) (i : Nat) : Pt := ⟨turn, BitVec.ofNat 64 (first + i), BitVec.ofNat 64 i, BitVec.ofNat 64 (needs s.length - 1 - i), piece s i⟩
def blkL (turn : BitVec 64) (first : Nat) (s : List UInt8) (i : Nat) : List UInt8 := partL (ptAt turn first s i)
theorem piece_len (s : List UInt8) (i : Nat) : (piece s i).length = min 96 (s.length - 96 * i) := by simp [piece]
theorem needs_pos {n : Nat} (h : 1 ≤ n) : 1 ≤ needs n := by unfold needs; omega
theorem needs_le {n : Nat} (h : n ≤ 8192) : needs n ≤ 86 := by unfold needs; omega
theorem ptAt_may (turn : BitVec 64) (first : Nat) {s : List UInt8} (h1 : 1 ≤ s.length) (h2 : s.length ≤ 8192) {i : Nat} (hi : i < needs s.length) : (ptAt turn first s i).May := by
  have hn := needs_le h2
  have hd : needs s.length = (s.length + 95) / 96 := rfl
  refine ⟨?_, ?_, ?_, ?_, ?_, ?_⟩
  · show 0 ≤ (BitVec.ofNat 64 i).toInt
    rw [ofNat_toInt (by omega)]; omega
  · show (BitVec.ofNat 64 i).toInt ≤ 86
    rw [ofNat_toInt (by omega)]; omega
  · show 0 ≤ (BitVec.ofNat 64 (needs s.length - 1 - i)).toInt
    rw [ofNat_toInt (by omega)]; omega
  · show (BitVec.ofNat 64 (needs s.length - 1 - i)).toInt ≤ 86
    rw [ofNat_toInt (by omega)]; omega
  · show 1 ≤ (piece s i).length
    rw [piece_len]; omega
  · show (piece s i).length ≤ 96
    rw [piece_len]; omega
theorem blk_len (turn : BitVec 64) (first : Nat) {s : List UInt8} (h1 : 1 ≤ s.length) (h2 : s.length ≤ 8192) {i : Nat} (hi : i < needs s.length) : (blkL turn first s i).length = 128 :=
  partL_len (Nat.le_trans (body_len (ptAt_may turn first h1 h2 hi)) (by omega))
theorem blk_read (turn : BitVec 64) (first : Nat) {s : List UInt8} (h1 : 1 ≤ s.length) (h2 : s.length ≤ 8192) {i : Nat} (hi : i < needs s.length) : readP (blkL turn first s i) = some (ptAt turn first s i) :=
  readP_part (ptAt_may turn first h1 h2 hi)
/-- The pieces, one behind the other. -/
theorem take_piece (s : List UInt8) (i : Nat) : s.take (96 * i) ++ piece s i = s.take (96 * (i + 1)) := by
  unfold piece
  rw [show 96 * (i + 1) = 96 * i + 96 by omega, List.take_add]
theorem take_needs (s : List UInt8) : s.take (96 * needs s.length) = s := List.take_of_length_le (by unfold needs; omega)
theorem pieces_eq {s t : List UInt8} (hn : needs s.length = needs t.length) (h : ∀ i, i < needs s.length → piece s i = piece t i) : s = t := by
  have : ∀ k, k ≤ needs s.length → s.take (96 * k) = t.take (96 * k) := by
    intro k
    induction k with
    | zero => intro _; simp
    | succ k ih =>
      intro hk
      rw [← take_piece, ← take_piece, ih (by omega), h k (by omega)]
  have e := this _ (Nat.le_refl _)
  rw [take_needs, hn, take_needs] at e
  exact e

/-! ### The records of blocks -/
structure RecAt (l : List (List UInt8)) (turn : BitVec 64) (a : Nat) (s : List UInt8) : Prop where
  s0 : 1 ≤ s.length
  s1 : s.length ≤ 8192
  fit : a + needs s.length ≤ l.length
  blk : ∀ i, i < needs s.length → l[a + i]? = some (blkL turn a s i)
theorem RecAt.unique {l : List (List UInt8)} {turn : BitVec 64} {a : Nat} {s t : List UInt8} (h : RecAt l turn a s) (k : RecAt l turn a t) : s = t := by
  have hs := needs_pos h.s0
  have ht := needs_pos k.s0
  have hs2 := needs_le h.s1
  have ht2 := needs_le k.s1
  have hp : ∀ i, i < needs s.length → i < needs t.length → ptAt turn a s i = ptAt turn a t i := by
    intro i hi hj
    have e := h.blk i hi
    rw [k.blk i hj] at e
    exact part_inj (ptAt_may turn a h.s0 h.s1 hi).s1 (ptAt_may turn a k.s0 k.s1 hj).s1 (Option.some.inj e).symm
  have h0 := congrArg Pt.behind (hp 0 (by omega) (by omega))
  have hn : needs s.length = needs t.length := by
    have := ofNat_inj (by omega) (by omega) h0
    omega
  exact pieces_eq hn fun i hi => congrArg Pt.s (hp i hi (by omega))
/-- Records that lie from a to e. -/
def Line (l : List (List UInt8)) (turn : BitVec 64) : Nat → List (List UInt8) → Nat → Prop
  | a, [], e => a = e
  | a, s :: r, e => RecAt l turn a s ∧ Line l turn (a + needs s.length) r e
section
variable {l l' : List (List UInt8)} {turn : BitVec 64}
theorem line_snoc : ∀ {out : List (List UInt8)} {a e : Nat} {s : List UInt8}, Line l turn a out e → RecAt l turn e s → Line l turn a (out ++ [s]) (e + needs s.length)
  | [], _, _, _, h, k => by
    have h : _ = _ := h
    subst h
    exact ⟨k, rfl⟩
  | _ :: _, _, _, _, h, k => ⟨h.1, line_snoc h.2 k⟩
theorem line_le : ∀ {out : List (List UInt8)} {a e : Nat}, Line l turn a out e → a ≤ l.length → a ≤ e ∧ e ≤ l.length
  | [], _, _, h, k => by
    have h : _ = _ := h
    subst h
    exact ⟨Nat.le_refl _, k⟩
  | s :: _, a, e, h, k => by
    have := line_le h.2 h.1.fit
    omega
theorem line_count : ∀ {out : List (List UInt8)} {a e : Nat}, Line l turn a out e → a + out.length ≤ e
  | [], _, _, h => by
    have h : _ = _ := h
    subst h
    exact Nat.le_refl _
  | s :: r, a, e, h => by
    have h1 := line_count h.2
    have h2 := needs_pos h.1.s0
    simp only [List.length_cons]
    omega
theorem line_unique : ∀ {o1 o2 : List (List UInt8)} {a e1 e2 : Nat}, Line l turn a o1 e1 → (∀ s, ¬ RecAt l turn e1 s) → Line l turn a o2 e2 → (∀ s, ¬ RecAt l turn e2 s) → o1 = o2 ∧ e1 = e2
  | [], [], _, _, _, h1, _, h2, _ => by
    have h1 : _ = _ := h1
    have h2 : _ = _ := h2
    exact ⟨rfl, by omega⟩
  | [], s :: _, _, _, _, h1, n1, h2, _ => by
    have h1 : _ = _ := h1
    subst h1
    exact absurd h2.1 (n1 s)
  | s :: _, [], _, _, _, h1, _, h2, n2 => by
    have h2 : _ = _ := h2
    subst h2
    exact absurd h1.1 (n2 s)
  | s :: r, t :: q, a, e1, e2, h1, n1, h2, n2 => by
    have e := h1.1.unique h2.1
    subst e
    have := line_unique h1.2 n1 h2.2 n2
    exact ⟨by rw [this.1], this.2⟩
theorem RecAt.over {a : Nat} {s : List UInt8} (h : RecAt l turn a s) (hl : l'.length = l.length) (hk : ∀ i, i < needs s.length → l'[a + i]? = l[a + i]?) : RecAt l' turn a s :=
  ⟨h.s0, h.s1, by rw [hl]; exact h.fit, fun i hi => by rw [hk i hi]; exact h.blk i hi⟩
theorem line_over : ∀ {out : List (List UInt8)} {a e : Nat}, Line l turn a out e → l'.length = l.length → (∀ k, k < e → l'[k]? = l[k]?) → Line l' turn a out e
  | [], _, _, h, _, _ => h
  | s :: r, a, e, h, hl, hk => by
    have h2 := (line_le h.2 h.1.fit).1
    exact ⟨h.1.over hl fun i hi => hk (a + i) (by omega), line_over h.2 hl hk⟩
end
/-- The records of a turn. -/
structure Recs (l : List (List UInt8)) (turn : BitVec 64) (out : List (List UInt8)) (e : Nat) : Prop where
  line : Line l turn 0 out e
  last : ∀ s, ¬ RecAt l turn e s
theorem Recs.unique {l : List (List UInt8)} {turn : BitVec 64} {o1 o2 : List (List UInt8)} {e1 e2 : Nat} (h : Recs l turn o1 e1) (k : Recs l turn o2 e2) : o1 = o2 ∧ e1 = e2 := line_unique h.line h.last k.line k.last
/-- Where a block is noughts, no record begins. -/
theorem rec_first {l : List (List UInt8)} {turn : BitVec 64} {a : Nat} {s : List UInt8} (h : RecAt l turn a s) {b : List UInt8} (hb : l[a]? = some b) : b ≠ zeros := by
  intro e
  subst e
  have h1 := h.blk 0 (needs_pos h.s0)
  rw [Nat.add_zero, hb] at h1
  have h2 := blk_read turn a h.s0 h.s1 (i := 0) (needs_pos h.s0)
  rw [← Option.some.inj h1, zeros_no] at h2
  cases h2
/-- What a crash leaves: behind the records that were added, each block is noughts, or the part of one more record that belongs there. -/
theorem crash_recs {l : List (List UInt8)} {turn : BitVec 64} {out : List (List UInt8)} {e : Nat} (hL : Line l turn 0 out e) {s : List UInt8} (h0 : 1 ≤ s.length) (h1 : s.length ≤ 8192)
    (hk : ∀ k b, e ≤ k → l[k]? = some b → b = zeros ∨ (k - e < needs s.length ∧ b = blkL turn e s (k - e))) :
    Recs l turn out e ∨ Recs l turn (out ++ [s]) (e + needs s.length) := by
  by_cases hr : ∃ t, RecAt l turn e t
  · obtain ⟨t, ht⟩ := hr
    have hall : ∀ i, i < needs t.length → i < needs s.length ∧ l[e + i]? = some (blkL turn e s i) := by
      intro i hi
      have h2 := ht.blk i hi
      rcases hk (e + i) _ (by omega) h2 with h3 | ⟨h3, h4⟩
      · have h5 := blk_read turn e ht.s0 ht.s1 hi
        rw [h3, zeros_no] at h5
        cases h5
      · rw [show e + i - e = i by omega] at h3 h4
        exact ⟨h3, by rw [h2, h4]⟩
    have hp : ∀ i, i < needs t.length → ptAt turn e t i = ptAt turn e s i := by
      intro i hi
      have h2 := (hall i hi).2
      rw [ht.blk i hi] at h2
      exact part_inj (ptAt_may turn e ht.s0 ht.s1 hi).s1 (ptAt_may turn e h0 h1 (hall i hi).1).s1 (Option.some.inj h2)
    have ht1 := needs_pos ht.s0
    have hs2 := needs_le h1
    have ht2 := needs_le ht.s1
    have hs1 := needs_pos h0
    have hb := congrArg Pt.behind (hp 0 (by omega))
    have hn : needs t.length = needs s.length := by
      have := ofNat_inj (by omega) (by omega) hb
      omega
    have hts : t = s := pieces_eq hn fun i hi => congrArg Pt.s (hp i hi)
    subst hts
    refine .inr ⟨line_snoc hL ht, ?_⟩
    intro u hu
    have hfit := hu.fit
    have hu1 := needs_pos hu.s0
    obtain ⟨b, hb2⟩ : ∃ b, l[e + needs t.length]? = some b := ⟨_, List.getElem?_eq_getElem (by omega)⟩
    rcases hk _ b (by omega) hb2 with h3 | ⟨h3, _⟩
    · exact rec_first hu hb2 h3
    · omega
  · exact .inl ⟨hL, fun t ht => hr ⟨t, ht⟩⟩
end Go.Proofs.YthcjjcfiademnaaDoor
/-
  What a device is, without memory: blocks that are sure, writes that wait, a fuse, the power. No program is spoken of.
-/
namespace Go.Proofs.YthcjjcfiademnaaDoor

structure St where
  sure : List (List UInt8)
  wait : List (Nat × List UInt8)
  fuse : Int
  off : Bool

/-- Writes laid upon blocks, one behind the other. -/
def lay (sure : List (List UInt8)) (wait : List (Nat × List UInt8)) : List (List UInt8) := wait.foldl (fun s x => s.set x.1 x.2) sure
theorem lay_nil (s : List (List UInt8)) : lay s [] = s := rfl
theorem lay_len : ∀ (wait : List (Nat × List UInt8)) (s : List (List UInt8)), (lay s wait).length = s.length
  | [], _ => rfl
  | x :: r, s => by
    show (lay (s.set x.1 x.2) r).length = _
    rw [lay_len r]; simp
theorem lay_cons (s : List (List UInt8)) (x : Nat × List UInt8) (r : List (Nat × List UInt8)) : lay s (x :: r) = lay (s.set x.1 x.2) r := rfl
theorem lay_append (s : List (List UInt8)) (a b : List (Nat × List UInt8)) : lay s (a ++ b) = lay (lay s a) b := by simp [lay, List.foldl_append]
theorem lay_snoc (s : List (List UInt8)) (a : List (Nat × List UInt8)) (x : Nat × List UInt8) : lay s (a ++ [x]) = (lay s a).set x.1 x.2 := by rw [lay_append]; rfl
theorem lay_mem {p : List UInt8 → Prop} : ∀ (wait : List (Nat × List UInt8)) (s : List (List UInt8)), (∀ b ∈ s, p b) → (∀ x ∈ wait, p x.2) → ∀ b ∈ lay s wait, p b
  | [], _, h, _ => h
  | x :: r, s, h, h2 => by
    rw [lay_cons]
    refine lay_mem r _ ?_ (fun y hy => h2 y (by simp [hy]))
    intro b hb
    rcases List.mem_or_eq_of_mem_set hb with hb | rfl
    · exact h b hb
    · exact h2 x (by simp)
/-- A block to which no write waits is as it is sure. -/
theorem lay_other (k : Nat) : ∀ (wait : List (Nat × List UInt8)) (s : List (List UInt8)), (∀ x ∈ wait, x.1 ≠ k) → (lay s wait)[k]? = s[k]?
  | [], _, _ => rfl
  | x :: r, s, h => by
    rw [lay_cons, lay_other k r _ (fun y hy => h y (by simp [hy])), List.getElem?_set_ne (h x (by simp))]
/-- Blocks that differ in one alone, to which no write waits. -/
theorem lay_set (k : Nat) (b : List UInt8) : ∀ (wait : List (Nat × List UInt8)) (s : List (List UInt8)), lay (s.set k b) (wait.filter fun x => x.1 != k) = (lay s wait).set k b
  | [], _ => rfl
  | x :: r, s => by
    rw [lay_cons]
    by_cases h : x.1 = k
    · subst h
      simp only [List.filter_cons, bne_self_eq_false, Bool.false_eq_true, if_false]
      rw [← lay_set x.1 b r (s.set x.1 x.2), List.set_set]
    · have h' : (x.1 != k) = true := by simp [h]
      simp only [List.filter_cons, h', if_true]
      rw [lay_cons, List.set_comm _ _ (fun e => h e.symm), lay_set k b r]
/-- Which of the writes survive. -/
def keepW (f : Nat → Bool) : Nat → List (Nat × List UInt8) → List (Nat × List UInt8)
  | _, [] => []
  | i, x :: r => if f i then x :: keepW f (i + 1) r else keepW f (i + 1) r
theorem keepW_mem (f : Nat → Bool) : ∀ (l : List (Nat × List UInt8)) (i : Nat) (x), x ∈ keepW f i l → x ∈ l
  | [], _, _, h => by simp [keepW] at h
  | y :: r, i, x, h => by
    unfold keepW at h
    split at h
    · rcases List.mem_cons.1 h with h | h
      · simp [h]
      · exact List.mem_cons_of_mem _ (keepW_mem f r _ x h)
    · exact List.mem_cons_of_mem _ (keepW_mem f r _ x h)
theorem keepW_congr (f g : Nat → Bool) : ∀ (l : List (Nat × List UInt8)) (i : Nat), (∀ k, i ≤ k → k < i + l.length → f k = g k) → keepW f i l = keepW g i l
  | [], _, _ => rfl
  | y :: r, i, h => by
    unfold keepW
    rw [h i (Nat.le_refl _) (by simp), keepW_congr f g r (i + 1) (fun k h1 h2 => h k (by omega) (by simp; omega))]
theorem keepW_snoc (f : Nat → Bool) (x : Nat × List UInt8) : ∀ (l : List (Nat × List UInt8)) (i : Nat), keepW f i (l ++ [x]) = keepW f i l ++ (if f (i + l.length) then [x] else [])
  | [], i => by simp only [List.nil_append, keepW, List.length_nil, Nat.add_zero]
  | y :: r, i => by
    have e : i + 1 + r.length = i + (y :: r).length := by simp; omega
    simp only [List.cons_append, keepW]
    rw [keepW_snoc f x r (i + 1), e]
    split <;> simp
/-- Back to what is sure, wherever a write waited: that is what is sure. -/
def back (sure : List (List UInt8)) (seen : List (List UInt8)) (wait : List (Nat × List UInt8)) : List (List UInt8) := wait.foldl (fun s x => s.set x.1 (sure.getD x.1 [])) seen
theorem back_len (sure : List (List UInt8)) : ∀ (wait : List (Nat × List UInt8)) (s : List (List UInt8)), (back sure s wait).length = s.length
  | [], _ => rfl
  | x :: r, s => by
    show (back sure (s.set x.1 _) r).length = _
    rw [back_len sure r]; simp
theorem back_snoc (sure s : List (List UInt8)) (a : List (Nat × List UInt8)) (x : Nat × List UInt8) : back sure s (a ++ [x]) = (back sure s a).set x.1 (sure.getD x.1 []) := by simp [back, List.foldl_append]
theorem back_at (sure : List (List UInt8)) (k : Nat) (hk : k < sure.length) : ∀ (wait : List (Nat × List UInt8)) (s : List (List UInt8)), s.length = sure.length → ((∀ x ∈ wait, x.1 ≠ k) → s[k]? = sure[k]?) → (back sure s wait)[k]? = sure[k]?
  | [], s, _, h => h (by simp)
  | x :: r, s, hl, h => by
    show (back sure (s.set x.1 _) r)[k]? = _
    refine back_at sure k hk r _ (by simpa using hl) ?_
    intro h2
    by_cases e : x.1 = k
    · subst e
      rw [List.getElem?_set_self (by omega), List.getElem?_eq_getElem hk]
      simp [hk]
    · rw [List.getElem?_set_ne e]
      exact h (by intro y hy; rcases List.mem_cons.1 hy with rfl | hy; exact e; exact h2 y hy)
theorem back_all (sure : List (List UInt8)) (wait kept : List (Nat × List UInt8)) (hk : ∀ x ∈ kept, x ∈ wait) : back (lay sure kept) (lay sure wait) wait = lay sure kept := by
  apply List.ext_getElem?
  intro k
  by_cases h : k < (lay sure kept).length
  · refine back_at _ k h wait _ (by simp [lay_len]) ?_
    intro h2
    rw [lay_other k wait sure h2, lay_other k kept sure (fun x hx => h2 x (hk x hx))]
  · rw [List.getElem?_eq_none (by rw [back_len, lay_len]; rw [lay_len] at h; omega), List.getElem?_eq_none (by omega)]
/-- The last write to a block, or what is sure of it. -/
theorem lay_last (s : List (List UInt8)) (a : List (Nat × List UInt8)) (x : Nat × List UInt8) (b : List (Nat × List UInt8)) (hb : ∀ y ∈ b, y.1 ≠ x.1) (hx : x.1 < s.length) : (lay s (a ++ x :: b))[x.1]? = some x.2 := by
  rw [lay_append, lay_cons, lay_other x.1 b _ hb, List.getElem?_set_self (by rw [lay_len]; exact hx)]

/-- A doing is done, or the power goes off. -/
def St.goes (s : St) : Bool := !s.off && s.fuse != 0
def St.burnt (s : St) : St := { s with fuse := if s.off then s.fuse else if s.fuse = 0 then -1 else if 0 < s.fuse then s.fuse - 1 else s.fuse, off := s.off || s.fuse == 0 }
def St.write (s : St) (k : Nat) (b : List UInt8) : St := { s.burnt with wait := s.wait ++ [(k, b)] }
def St.synced (s : St) : St := { s.burnt with sure := lay s.sure s.wait, wait := [] }
def St.crashed (s : St) (f : Nat → Bool) : St := { sure := lay s.sure (keepW f 0 s.wait), wait := [], fuse := -1, off := false }
def St.spoilt (s : St) (k : Nat) (b : List UInt8) : St := { s with sure := s.sure.set k b, wait := s.wait.filter fun x => x.1 != k }
end Go.Proofs.YthcjjcfiademnaaDoor
/-
  A journal on a device, without memory: what adding a record does to the blocks, and what a crash leaves of them. Pure mathematics. No program is spoken of.
-/
namespace Go.Proofs.YthcjjcfiademnaaDoor
open Leb

/-- A block that may lie in a journal's extent. -/
def okB (b : List UInt8) : Bool := (readP b).isSome || (b == zeros)
theorem okB_zeros : okB zeros = true := by simp [okB]
theorem okB_blk (turn : BitVec 64) (first : Nat) {s : List UInt8} (h1 : 1 ≤ s.length) (h2 : s.length ≤ 8192) {i : Nat} (hi : i < needs s.length) : okB (blkL turn first s i) = true := by
  simp [okB, blk_read turn first h1 h2 hi]
/-- The blocks of an extent. -/
def extL (B : List (List UInt8)) (f c : Nat) : List (List UInt8) := (B.drop f).take c
theorem extL_at {B : List (List UInt8)} {f c k : Nat} (hk : k < c) : (extL B f c)[k]? = B[f + k]? := by
  simp [extL, hk]
theorem extL_len {B : List (List UInt8)} {f c : Nat} (h : f + c ≤ B.length) : (extL B f c).length = c := by simp [extL]; omega
theorem extL_snoc {B : List (List UInt8)} {f c k : Nat} (hk : k < c) {b : List UInt8} (hb : B[f + k]? = some b) : (extL B f c).take (k + 1) = (extL B f c).take k ++ [b] := by
  have h1 : (extL B f c)[k]? = some b := by rw [extL_at hk, hb]
  rw [List.take_add_one, h1]
  rfl

/-! ### Writes, one behind the other, and a sync -/
def wrs : Nat → List (List UInt8) → List (Nat × List UInt8)
  | _, [] => []
  | a, b :: r => (a, b) :: wrs (a + 1) r
def putAll : St → Nat → List (List UInt8) → St × Int
  | s, _, [] => if s.goes then (s.synced, 0) else (s.burnt, 40)
  | s, a, b :: r => if s.goes then putAll (s.write a b) (a + 1) r else (s.burnt, 40)
theorem goes_on {s : St} (h : s.goes = true) : s.off = false ∧ s.burnt.off = false := by
  obtain ⟨su, wt, f, o⟩ := s
  simp only [St.goes, Bool.and_eq_true, Bool.not_eq_true', bne_iff_ne] at h
  refine ⟨h.1, ?_⟩
  show (o || f == 0) = false
  rw [h.1]
  simpa using h.2
theorem putAll_spec : ∀ (bl : List (List UInt8)) (s : St) (a : Nat),
    ((putAll s a bl).2 = 0 ∧ (putAll s a bl).1.sure = lay s.sure (s.wait ++ wrs a bl) ∧ (putAll s a bl).1.wait = [] ∧ (putAll s a bl).1.off = false) ∨
    ((putAll s a bl).2 = 40 ∧ (putAll s a bl).1.sure = s.sure ∧ ∃ k, (putAll s a bl).1.wait = s.wait ++ (wrs a bl).take k)
  | [], s, a => by
    unfold putAll
    cases h : s.goes with
    | true => left; exact ⟨rfl, by simp [wrs, St.synced, St.burnt], rfl, (goes_on h).2⟩
    | false => right; exact ⟨rfl, rfl, 0, by simp [St.burnt]⟩
  | b :: r, s, a => by
    unfold putAll
    cases h : s.goes with
    | true =>
      simp only [if_true]
      rcases putAll_spec r (s.write a b) (a + 1) with ⟨h1, h2, h3, h4⟩ | ⟨h1, h2, k, h3⟩
      · left
        refine ⟨h1, ?_, h3, h4⟩
        rw [h2]
        show lay s.sure ((s.wait ++ [(a, b)]) ++ wrs (a + 1) r) = lay s.sure (s.wait ++ wrs a (b :: r))
        rw [List.append_assoc]
        rfl
      · right
        refine ⟨h1, h2, k + 1, ?_⟩
        rw [h3]
        show (s.wait ++ [(a, b)]) ++ (wrs (a + 1) r).take k = s.wait ++ (wrs a (b :: r)).take (k + 1)
        rw [List.append_assoc]
        rfl
    | false => right; exact ⟨rfl, rfl, 0, by simp [St.burnt]⟩
theorem wrs_mem : ∀ (bl : List (List UInt8)) (a : Nat) (x : Nat × List UInt8), x ∈ wrs a bl → ∃ i, x.1 = a + i ∧ bl[i]? = some x.2
  | [], _, _, h => by simp [wrs] at h
  | b :: r, a, x, h => by
    rcases List.mem_cons.1 h with rfl | h
    · exact ⟨0, rfl, rfl⟩
    · obtain ⟨i, h1, h2⟩ := wrs_mem r (a + 1) x h
      exact ⟨i + 1, by omega, by simpa using h2⟩
theorem lay_wrs : ∀ (bl : List (List UInt8)) (a : Nat) (S : List (List UInt8)) (i : Nat) (b : List UInt8), bl[i]? = some b → a + bl.length ≤ S.length → (lay S (wrs a bl))[a + i]? = some b
  | [], _, _, _, _, h, _ => by simp at h
  | b :: r, a, S, i, x, h, hl => by
    show (lay (S.set a b) (wrs (a + 1) r))[a + i]? = some x
    cases i with
    | zero =>
      rw [lay_other _ _ _ (fun y hy => by obtain ⟨j, h1, _⟩ := wrs_mem r (a + 1) y hy; omega)]
      simp only [List.length_cons] at hl
      rw [Nat.add_zero, List.getElem?_set_self (by omega)]
      simpa using h
    | succ i =>
      have := lay_wrs r (a + 1) (S.set a b) i x (by simpa using h) (by simp only [List.length_set]; simp only [List.length_cons] at hl; omega)
      rw [show a + (i + 1) = a + 1 + i by omega]
      exact this
/-- Of some of the writes: a block is as it was, or one of theirs. -/
theorem lay_some {bl : List (List UInt8)} {a : Nat} : ∀ (ws : List (Nat × List UInt8)) (S : List (List UInt8)), (∀ x ∈ ws, ∃ i, x.1 = a + i ∧ bl[i]? = some x.2) → ∀ k b, (lay S ws)[k]? = some b → S[k]? = some b ∨ ∃ i, k = a + i ∧ bl[i]? = some b
  | [], _, _, _, _, h => .inl h
  | x :: r, S, hw, k, b, h => by
    rw [lay_cons] at h
    rcases lay_some r _ (fun y hy => hw y (by simp [hy])) k b h with h1 | h1
    · by_cases e : x.1 = k
      · subst e
        obtain ⟨i, h2, h3⟩ := hw x (by simp)
        right
        refine ⟨i, h2, ?_⟩
        have hx : x.1 < (S.set x.1 x.2).length := (List.getElem?_eq_some_iff.1 h1).1
        rw [List.getElem?_set_self (by simpa using hx)] at h1
        rw [h3]
        exact h1
      · rw [List.getElem?_set_ne e] at h1
        exact .inl h1
    · exact .inr h1

/-! ### A journal in an extent -/
def blkLs (turn : BitVec 64) (u : Nat) (t : List UInt8) : List (List UInt8) := (List.range (needs t.length)).map (blkL turn u t)
theorem blkLs_at {turn : BitVec 64} {u : Nat} {t : List UInt8} {i : Nat} {b : List UInt8} (h : (blkLs turn u t)[i]? = some b) : i < needs t.length ∧ b = blkL turn u t i := by
  simp only [blkLs, List.getElem?_map, Option.map_eq_some_iff] at h
  obtain ⟨j, h1, h2⟩ := h
  have h3 := List.getElem?_eq_some_iff.1 h1
  obtain ⟨h4, h5⟩ := h3
  simp at h4 h5
  subst h5
  exact ⟨h4, h2.symm⟩
theorem blkLs_get {turn : BitVec 64} {u : Nat} {t : List UInt8} {i : Nat} (h : i < needs t.length) : (blkLs turn u t)[i]? = some (blkL turn u t i) := by simp [blkLs, h]
theorem blkLs_len (turn : BitVec 64) (u : Nat) (t : List UInt8) : (blkLs turn u t).length = needs t.length := by simp [blkLs]
/-- Records lie in an extent, and noughts behind them. -/
structure Jst (S : List (List UInt8)) (f c : Nat) (turn : BitVec 64) (added : List (List UInt8)) (u : Nat) : Prop where
  line : Line (extL S f c) turn 0 added u
  rest : ∀ k, u ≤ k → k < c → S[f + k]? = some zeros
  fit : f + c ≤ S.length
theorem Jst.le {S : List (List UInt8)} {f c : Nat} {turn : BitVec 64} {added : List (List UInt8)} {u : Nat} (h : Jst S f c turn added u) : u ≤ c := by
  have := (line_le h.line (Nat.zero_le _)).2
  rw [extL_len h.fit] at this
  exact this
theorem jst_new {n f c : Nat} {turn : BitVec 64} (h : f + c ≤ n) : Jst (List.replicate n zeros) f c turn [] 0 := by
  refine ⟨rfl, fun k _ hk => ?_, by simpa using h⟩
  rw [List.getElem?_replicate]
  simp
  omega
section
variable {S : List (List UInt8)} {f c : Nat} {turn : BitVec 64} {added : List (List UInt8)} {u : Nat} {t : List UInt8}
theorem Jst.add (h : Jst S f c turn added u) (h1 : 1 ≤ t.length) (h2 : t.length ≤ 8192) (hr : u + needs t.length ≤ c) : Jst (lay S (wrs (f + u) (blkLs turn u t))) f c turn (added ++ [t]) (u + needs t.length) := by
  have hfit := h.fit
  have hlen : (lay S (wrs (f + u) (blkLs turn u t))).length = S.length := lay_len _ _
  have hoth : ∀ k, k < f + u ∨ f + u + needs t.length ≤ k → (lay S (wrs (f + u) (blkLs turn u t)))[k]? = S[k]? := by
    intro k hk
    apply lay_other
    intro x hx
    obtain ⟨i, h3, h4⟩ := wrs_mem _ _ x hx
    have := (blkLs_at h4).1
    omega
  have hel : (extL (lay S (wrs (f + u) (blkLs turn u t))) f c).length = (extL S f c).length := by rw [extL_len (by omega), extL_len hfit]
  have hl2 : Line (extL (lay S (wrs (f + u) (blkLs turn u t))) f c) turn 0 added u := by
    refine line_over h.line hel fun k hk => ?_
    have := h.le
    rw [extL_at (by omega), extL_at (by omega), hoth _ (by omega)]
  refine ⟨line_snoc hl2 ⟨h1, h2, by rw [hel, extL_len hfit]; exact hr, fun i hi => ?_⟩, fun k hk hkc => ?_, by omega⟩
  · rw [extL_at (by omega), show f + (u + i) = f + u + i by omega]
    exact lay_wrs _ _ _ _ _ (blkLs_get hi) (by rw [blkLs_len]; omega)
  · rw [hoth _ (by omega)]
    exact h.rest k (by omega) hkc
/-- Behind a crash: the records that were added, and the last one, or not. -/
theorem Jst.crash (h : Jst S f c turn added u) (h1 : 1 ≤ t.length) (h2 : t.length ≤ 8192) (ws : List (Nat × List UInt8)) (hw : ∀ x ∈ ws, x ∈ wrs (f + u) (blkLs turn u t)) :
    Recs (extL (lay S ws) f c) turn added u ∨ Recs (extL (lay S ws) f c) turn (added ++ [t]) (u + needs t.length) := by
  have hfit := h.fit
  have hw2 : ∀ x ∈ ws, ∃ i, x.1 = f + u + i ∧ (blkLs turn u t)[i]? = some x.2 := fun x hx => wrs_mem _ _ x (hw x hx)
  have hel : (extL (lay S ws) f c).length = (extL S f c).length := by rw [extL_len (by rw [lay_len]; exact hfit), extL_len hfit]
  have hl2 : Line (extL (lay S ws) f c) turn 0 added u := by
    refine line_over h.line hel fun k hk => ?_
    have := h.le
    rw [extL_at (by omega), extL_at (by omega)]
    apply lay_other
    intro x hx
    obtain ⟨i, h3, _⟩ := hw2 x hx
    omega
  refine crash_recs hl2 h1 h2 ?_
  intro k b hk hb
  have hkc : k < c := by
    have := (List.getElem?_eq_some_iff.1 hb).1
    rw [hel, extL_len hfit] at this
    exact this
  rw [extL_at hkc] at hb
  rcases lay_some ws S hw2 _ b hb with h3 | ⟨i, h3, h4⟩
  · rw [h.rest k hk hkc] at h3
    exact .inl (Option.some.inj h3).symm
  · obtain ⟨h5, h6⟩ := blkLs_at h4
    have e : k - u = i := by omega
    rw [e]
    exact .inr ⟨h5, h6⟩
theorem line_ok : ∀ {l : List (List UInt8)} {out : List (List UInt8)} {a e : Nat}, Line l turn a out e → ∀ k b, a ≤ k → k < e → l[k]? = some b → okB b = true
  | _, [], _, _, h, k, _, h1, h2, _ => by
    have h : _ = _ := h
    omega
  | l, s :: r, a, e, h, k, b, h1, h2, hb => by
    by_cases hk : k < a + needs s.length
    · have := h.1.blk (k - a) (by omega)
      rw [show a + (k - a) = k by omega, hb] at this
      rw [Option.some.inj this]
      exact okB_blk turn a h.1.s0 h.1.s1 (by omega)
    · exact line_ok h.2 k b (by omega) h2 hb
/-- No block is spoilt by a crash. -/
theorem Jst.ok (h : Jst S f c turn added u) (h1 : 1 ≤ t.length) (h2 : t.length ≤ 8192) (ws : List (Nat × List UInt8)) (hw : ∀ x ∈ ws, x ∈ wrs (f + u) (blkLs turn u t)) : ∀ b ∈ extL (lay S ws) f c, okB b = true := by
  intro b hb
  obtain ⟨k, hk⟩ := List.mem_iff_getElem?.1 hb
  have hfit := h.fit
  have hkc : k < c := by
    have := (List.getElem?_eq_some_iff.1 hk).1
    rw [extL_len (by rw [lay_len]; exact hfit)] at this
    exact this
  rw [extL_at hkc] at hk
  rcases lay_some ws S (fun x hx => wrs_mem _ _ x (hw x hx)) _ b hk with h3 | ⟨i, h3, h4⟩
  · by_cases hku : k < u
    · exact line_ok h.line k b (Nat.zero_le _) hku (by rw [extL_at hkc]; exact h3)
    · rw [h.rest k (by omega) hkc] at h3
      rw [← Option.some.inj h3]
      exact okB_zeros
  · obtain ⟨h5, h6⟩ := blkLs_at h4
    rw [h6]
    exact okB_blk turn u h1 h2 h5
/-- Without a write that waits. -/
theorem Jst.recs (h : Jst S f c turn added u) : Recs (extL S f c) turn added u := by
  refine ⟨h.line, fun s hs => ?_⟩
  have hfit := hs.fit
  rw [extL_len h.fit] at hfit
  have hn := needs_pos hs.s0
  exact rec_first hs (b := zeros) (by rw [extL_at (by omega)]; exact h.rest u (Nat.le_refl _) (by omega)) rfl
end
end Go.Proofs.YthcjjcfiademnaaDoor
/-
  Slots on a device, without memory: a slot's block, what laying does to the blocks, which slot is read. Pure mathematics. No program is spoken of.
-/
namespace Go.Proofs.YthcjjcfiademnaaDoor
open Leb

/-- What a slot tells. -/
structure Sd where
  turn : BitVec 64
  f : BitVec 64
  c : BitVec 64
  n : BitVec 64
  s : BitVec 64
def Sd.nums (d : Sd) : List (BitVec 64) := [d.turn, d.f, d.c, d.n, d.s]
def noSd : Sd := ⟨0#64, 0#64, 0#64, 0#64, 0#64⟩
/-- A block that begins with bytes. -/
def fillL (l : List UInt8) : List UInt8 := l.take 128 ++ List.replicate (128 - l.length) 0
theorem fillL_len (l : List UInt8) : (fillL l).length = 128 := by simp [fillL]; omega
def slotB (d : Sd) : List UInt8 := fillL (sealL (encs d.nums))
theorem slotB_len (d : Sd) : (slotB d).length = 128 := fillL_len _
theorem nums_len (d : Sd) : (encs d.nums).length ≤ 50 := by
  have := encs_len d.nums
  simpa [Sd.nums] using this
theorem slotB_eq (d : Sd) : slotB d = encs d.nums ++ (Crc.four (Crc.sum (encs d.nums)) ++ List.replicate (124 - (encs d.nums).length) 0) := by
  have h := nums_len d
  have hl := sealL_len (encs d.nums)
  rw [slotB, fillL, List.take_of_length_le (by omega), hl, sealL, List.append_assoc, show 128 - ((encs d.nums).length + 4) = 124 - (encs d.nums).length by omega]
theorem encs_append (a b : List (BitVec 64)) : encs (a ++ b) = encs a ++ encs b := by simp [encs]
theorem encs_cons (x : BitVec 64) (b : List (BitVec 64)) : encs (x :: b) = enc1 x ++ encs b := by simp [encs]
/-- The numbers of a block, one behind the other. -/
theorem slot_drop (d : Sd) (k : Nat) (hk : k < 5) : ∃ r, (slotB d).drop (encs (d.nums.take k)).length = enc1 (d.nums.getD k 0#64) ++ r := by
  have hkl : k < d.nums.length := hk
  have e : d.nums = d.nums.take k ++ (d.nums.getD k 0#64 :: d.nums.drop (k + 1)) := by
    conv => lhs; rw [← List.take_append_drop k d.nums]
    rw [List.drop_eq_getElem_cons hkl]
    simp [hkl]
  have e2 : encs d.nums = encs (d.nums.take k) ++ (enc1 (d.nums.getD k 0#64) ++ encs (d.nums.drop (k + 1))) := by
    conv => lhs; rw [e]
    rw [encs_append, encs_cons]
  refine ⟨encs (d.nums.drop (k + 1)) ++ (Crc.four (Crc.sum (encs d.nums)) ++ List.replicate (124 - (encs d.nums).length) 0), ?_⟩
  rw [slotB_eq]
  obtain ⟨X, hX⟩ : ∃ X, X = Crc.four (Crc.sum (encs d.nums)) ++ List.replicate (124 - (encs d.nums).length) 0 := ⟨_, rfl⟩
  rw [← hX, e2, List.append_assoc, List.drop_left, List.append_assoc]
theorem slot_tk (d : Sd) (k : Nat) (hk : k < 5) : tk ((slotB d).drop (encs (d.nums.take k)).length) = (zigW (d.nums.getD k 0#64), (enc1 (d.nums.getD k 0#64)).length, 0) := by
  obtain ⟨r, hr⟩ := slot_drop d k hk
  rw [hr]
  exact tk_ok ⟨r, rfl⟩
theorem slot_used (d : Sd) (k : Nat) (hk : k < 5) : (encs (d.nums.take k)).length + (enc1 (d.nums.getD k 0#64)).length = (encs (d.nums.take (k + 1))).length ∧ (encs (d.nums.take (k + 1))).length ≤ 50 := by
  rw [encs_snoc d.nums k hk, List.length_append]
  refine ⟨rfl, ?_⟩
  rw [← List.length_append, ← encs_snoc d.nums k hk]
  have := encs_len (d.nums.take (k + 1))
  have h2 : (d.nums.take (k + 1)).length ≤ 5 := by rw [List.length_take]; omega
  omega

/-! ### Noughts -/
def blankL (l : List UInt8) : Bool := l.all (· == 0)
theorem blank_rep (n : Nat) : blankL (List.replicate n 0) = true := by simp [blankL]
theorem blank_zeros : blankL zeros = true := blank_rep 128
theorem leb_head {z : Nat} (h : 1 ≤ z) : ∃ b r, leb z = b :: r ∧ b ≠ 0 := by
  by_cases h1 : z < 128
  · refine ⟨UInt8.ofNat z, [], leb_small h1, fun e => ?_⟩
    have := congrArg UInt8.toNat e
    rw [byte_small (by omega)] at this
    simp at this
    omega
  · refine ⟨UInt8.ofNat (z % 128 + 128), leb (z / 128), leb_big (by omega), fun e => ?_⟩
    have := congrArg UInt8.toNat e
    rw [byte_small (by omega)] at this
    simp at this
theorem slot_not_blank (d : Sd) (h : 1 ≤ d.turn.toInt) : blankL (slotB d) = false := by
  have hz := zig_up d.turn (by omega)
  obtain ⟨b, r, e, hb⟩ := leb_head (z := (zigW d.turn).toNat) (by omega)
  obtain ⟨q, hq⟩ := slot_drop d 0 (by omega)
  have e0 : slotB d = enc1 d.turn ++ q := by simpa [encs, Sd.nums] using hq
  rw [e0, show enc1 d.turn = b :: r from e]
  simp [blankL, hb]

/-! ### Bytes in an extent -/
def exts (c : Nat) (t : List UInt8) : List (List UInt8) := (List.range c).map fun i => fillL (t.drop (128 * i))
theorem exts_len (c : Nat) (t : List UInt8) : (exts c t).length = c := by simp [exts]
theorem exts_get {c : Nat} (t : List UInt8) {i : Nat} (h : i < c) : (exts c t)[i]? = some (fillL (t.drop (128 * i))) := by simp [exts, h]
theorem exts_mem {c : Nat} {t : List UInt8} : ∀ b ∈ exts c t, b.length = 128 := by
  intro b hb
  simp only [exts, List.mem_map] at hb
  obtain ⟨i, _, rfl⟩ := hb
  exact fillL_len _
theorem exts_drop {c : Nat} (t : List UInt8) {k : Nat} (h : k < c) : (exts c t).drop k = fillL (t.drop (128 * k)) :: (exts c t).drop (k + 1) := by
  rw [List.drop_eq_getElem_cons (by rw [exts_len]; exact h)]
  congr 1
  have := exts_get t h
  rw [List.getElem?_eq_getElem (by rw [exts_len]; exact h)] at this
  exact Option.some.inj this
/-- All bytes of an extent. -/
def whole (c : Nat) (t : List UInt8) : List UInt8 := t ++ List.replicate (128 * c - t.length) 0
theorem whole_len {c : Nat} {t : List UInt8} (h : t.length ≤ 128 * c) : (whole c t).length = 128 * c := by simp [whole]; omega
theorem whole_step {c : Nat} {t : List UInt8} (h : t.length ≤ 128 * c) {k : Nat} (hk : k < c) : (whole c t).take (128 * (k + 1)) = (whole c t).take (128 * k) ++ fillL (t.drop (128 * k)) := by
  rw [show 128 * (k + 1) = 128 * k + 128 by omega, List.take_add]
  congr 1
  rw [whole, fillL, List.drop_append, List.take_append]
  congr 1
  rw [List.drop_replicate, List.take_replicate]
  congr 1
  simp
  omega
theorem whole_all {c : Nat} {t : List UInt8} (h : t.length ≤ 128 * c) : (whole c t).take (128 * c) = whole c t := List.take_of_length_le (by rw [whole_len h]; omega)
theorem whole_head {c : Nat} {t : List UInt8} : (whole c t).take t.length = t := by simp [whole]
theorem whole_rest {c : Nat} {t : List UInt8} : (whole c t).drop t.length = List.replicate (128 * c - t.length) 0 := by simp [whole]

/-! ### Which slot is read -/
def blkO : Option Sd → List UInt8
  | none => zeros
  | some d => slotB d
def sdO : Option Sd → Sd
  | none => noSd
  | some d => d
/-- A slot that belongs in a block of a device of n blocks. -/
structure Bel (n : Nat) (place : Nat) (d : Sd) : Prop where
  t1 : 1 ≤ d.turn.toInt
  t2 : d.turn.toInt ≤ 4294967296
  tp : d.turn.toInt % 2 = (place : Int)
  f1 : 2 ≤ d.f.toInt
  c1 : 1 ≤ d.c.toInt
  fc : d.f.toInt + d.c.toInt ≤ (n : Int)
  n0 : 0 ≤ d.n.toInt
  n1 : d.n.toInt ≤ 128 * d.c.toInt
  s0 : 0 ≤ d.s.toInt
  s1 : d.s.toInt ≤ 4294967295
def BelO (n place : Nat) : Option Sd → Prop
  | none => True
  | some d => Bel n place d
theorem sdO_turn {n place : Nat} {o : Option Sd} (h : BelO n place o) : 0 ≤ (sdO o).turn.toInt ∧ ((sdO o).turn.toInt = 0 ↔ o = none) := by
  cases o with
  | none => exact ⟨by decide, by simp [sdO, noSd]⟩
  | some d =>
    have := (show Bel n place d from h).t1
    refine ⟨by show 0 ≤ d.turn.toInt; omega, ?_⟩
    constructor
    · intro e
      have e : d.turn.toInt = 0 := e
      omega
    · intro e; cases e
def best (o0 o1 : Option Sd) : Option Sd := if (sdO o0).turn.toInt < (sdO o1).turn.toInt then o1 else o0
/-- What the slots of blocks tell. -/
structure Two (S : List (List UInt8)) (o0 o1 : Option Sd) : Prop where
  s0 : S[0]? = some (blkO o0)
  s1 : S[1]? = some (blkO o1)
  b0 : BelO S.length 0 o0
  b1 : BelO S.length 1 o1
  n2 : 2 ≤ S.length
/-- Bytes lie in the extent of a slot. -/
structure Lies (S : List (List UInt8)) (d : Sd) (f c : Nat) (t : List UInt8) : Prop where
  hf : d.f = BitVec.ofNat 64 f
  hc : d.c = BitVec.ofNat 64 c
  hn : d.n = BitVec.ofNat 64 t.length
  hs : d.s = BitVec.ofNat 64 (Crc.sum t).toNat
  fit : t.length ≤ 128 * c
  c4 : f + c ≤ 4096
  blk : ∀ k, k < c → S[f + k]? = some (fillL (t.drop (128 * k)))
end Go.Proofs.YthcjjcfiademnaaDoor
/-
  Slices of ints that are read; the contract of package peristyleref01's Same, where both are the same numbers.
-/
namespace Go.Proofs.YthcjjcfiademnaaDoor
open Go.RowKit

/-- The slice v reads as the words l in the world w. -/
def ReadsI (w : World) (v : Value) (l : List (BitVec 64)) : Prop :=
  (l = [] ∧ ∃ a c, v = .slice a 0 c) ∨
  (∃ b off c, v = .slice (some ⟨b, off, none⟩) l.length c ∧ l ≠ [] ∧ b < w.heap.size ∧ ∀ i, i < l.length → w.cell? ⟨b, off + i, none⟩ = some (.int .i64 (l.getD i 0#64).toInt))
theorem ReadsI.below {w w' : World} {v : Value} {l : List (BitVec 64)} (h : ReadsI w v l) (hb : Below w.heap.size w w') : ReadsI w' v l := by
  rcases h with h | ⟨b, off, c, hv, hl, hbw, hc⟩
  · exact .inl h
  · exact .inr ⟨b, off, c, hv, hl, Nat.lt_of_lt_of_le hbw hb.size, fun i hi => (hb.cell (p := ⟨b, off + i, none⟩) hbw).trans (hc i hi)⟩
theorem OwnsI.reads {w : World} {B : Nat} {v : Value} {l : List (BitVec 64)} (h : OwnsI w B v l) : ReadsI w v l := by
  rcases h.cell with ⟨g, cap, rfl, _, hg, _, hc⟩ | ⟨rfl, rfl⟩
  · by_cases hl : l = []
    · subst hl; exact .inl ⟨rfl, _, _, rfl⟩
    · exact .inr ⟨g, 0, cap, rfl, hl, hg, fun i hi => by simpa using hc i hi⟩
  · exact .inl ⟨rfl, _, _, rfl⟩

end Go.Proofs.YthcjjcfiademnaaDoor
/-
  A slice of ints that came in, as words.
-/
namespace Go.Proofs.YthcjjcfiademnaaDoor
open Go.RowKit

/-- What a law's walk is told of a slice of integers that came in: it is nil, or its cells (elements, then spare room) hold the numbers zs, each of its kind. -/
def IsRow (k : IntKind) (w : World) (a : Option Addr) (len cap : Nat) (zs : List Int) : Prop :=
  (a = none ∧ len = 0 ∧ cap = 0 ∧ zs = []) ∨
  ∃ x, a = some x ∧ len ≤ cap ∧ cap ≤ maxLen ∧ zs.length = cap ∧ (∀ i, i < zs.length → w.cell? (x.add i) = some (.int k (zs.getD i 0))) ∧ ∀ n ∈ zs, (Lit.int k n).wf = true

theorem reads_of_row {w : World} {a : Option Addr} {len cap : Nat} {zs : List Int} (h : IsRow .i64 w a len cap zs) : ∃ l : List (BitVec 64), l.length = len ∧ ReadsI w (.slice a len cap) l := by
  rcases h with ⟨rfl, rfl, rfl, rfl⟩ | ⟨x, rfl, hlc, _, hzl, hc, hwf⟩
  · exact ⟨[], rfl, .inl ⟨rfl, _, _, rfl⟩⟩
  · refine ⟨(zs.take len).map (BitVec.ofInt 64), by simp; omega, ?_⟩
    by_cases h0 : len = 0
    · subst h0
      exact .inl ⟨by simp, _, _, rfl⟩
    · obtain ⟨b, off, spot⟩ := x
      have hc0 := hc 0 (by omega)
      have hspot : spot = none := by simpa [Addr.add] using World.cell?_spot hc0
      subst hspot
      have hbw : b < w.heap.size := by
        have := World.block_lt_of_cell? w _ hc0
        simpa [Addr.add] using this
      have hll : ((zs.take len).map (BitVec.ofInt 64)).length = len := by simp; omega
      refine .inr ⟨b, off, cap, by rw [hll], fun e => h0 (by rw [← hll, e]; rfl), hbw, fun i hi => ?_⟩
      rw [hll] at hi
      have hadd : (⟨b, off, none⟩ : Addr).add i = ⟨b, off + i, none⟩ := by unfold Addr.add; split <;> simp_all
      have hz := hc i (by omega)
      rw [hadd] at hz
      rw [hz]
      have hiz : i < zs.length := by omega
      have hmem : zs[i] ∈ zs := List.getElem_mem hiz
      obtain ⟨y, hy⟩ := Wd.word_of _ (hwf _ hmem)
      have e1 : zs.getD i 0 = zs[i] := by simp [hiz]
      have e2 : ((zs.take len).map (BitVec.ofInt 64)).getD i 0#64 = BitVec.ofInt 64 zs[i] := by
        simp [hi, hiz]
      rw [e1, e2, hy]
      simp
end Go.Proofs.YthcjjcfiademnaaDoor
/-
  Slices of texts: what they own and how they read; slices of numbers and of texts that are made at once and stored into; the string of any bytes of the call's own; a slice of texts that came in.
-/
namespace Go.Proofs.YthcjjcfiademnaaDoor
open Go.RowKit

def sv (l : List ByteArray) : List Value := l.map .string
def OwnsS (w : World) (B : Nat) (v : Value) (l : List ByteArray) : Prop := w.ownsRow B 9 1 v l.length (sv l)
theorem OwnsS.below {w w' : World} {B : Nat} {v : Value} {l : List ByteArray} (h : OwnsS w B v l) (hb : Below w.heap.size w w') : OwnsS w' B v l := ownsRow_below h hb
theorem OwnsS.base {w : World} {B B' : Nat} {v : Value} {l : List ByteArray} (h : OwnsS w B v l) (hb : B' ≤ B) : OwnsS w B' v l := ownsRow_base h hb
theorem ownsS_nil (w : World) (B : Nat) : OwnsS w B (.slice none 0 0) [] := World.ownsRow_nil w B _ _
theorem info_text : (Tryd.prog.info? 9).map (fun i => (i.zero, i.size, i.bytes)) = some (some (.string ByteArray.empty), 1, 16) := by kernel_rfl

/-- The slice v reads as the texts l in the world w. -/
def ReadsS (w : World) (v : Value) (l : List ByteArray) : Prop :=
  (l = [] ∧ ∃ a c, v = .slice a 0 c) ∨
  (∃ b off c, v = .slice (some ⟨b, off, none⟩) l.length c ∧ l ≠ [] ∧ b < w.heap.size ∧ ∀ i t, l[i]? = some t → w.cell? ⟨b, off + i, none⟩ = some (.string t))
theorem ReadsS.below {w w' : World} {v : Value} {l : List ByteArray} (h : ReadsS w v l) (hb : Below w.heap.size w w') : ReadsS w' v l := by
  rcases h with h | ⟨b, off, c, hv, hl, hbw, hc⟩
  · exact .inl h
  · exact .inr ⟨b, off, c, hv, hl, Nat.lt_of_lt_of_le hbw hb.size, fun i t hi => (hb.cell (p := ⟨b, off + i, none⟩) hbw).trans (hc i t hi)⟩
theorem add0 (g i : Nat) : (⟨g, 0, none⟩ : Addr).add i = ⟨g, i, none⟩ := by unfold Addr.add; split <;> simp_all
theorem OwnsS.reads {w : World} {B : Nat} {v : Value} {l : List ByteArray} (h : OwnsS w B v l) : ReadsS w v l := by
  have hc := @World.ownsRow.cells _ _ _ _ _ _ _ h
  have hlt := h.lt
  rcases h.2 with ⟨rfl, h0⟩ | ⟨g, cap, cur, rfl, hb, hg, hcap, _⟩
  · exact .inl ⟨List.eq_nil_of_length_eq_zero h0, _, _, rfl⟩
  · by_cases hl : l = []
    · subst hl; exact .inl ⟨rfl, _, _, rfl⟩
    · refine .inr ⟨g, 0, cap, rfl, hl, (hlt g rfl).2, fun i t hi => ?_⟩
      have hx := hc rfl i (.string t) (by simp [sv, hi])
      rw [add0] at hx
      rw [Nat.zero_add]
      exact hx

/-- 's = append(s, t)', s the call's own, of texts. -/
theorem append_s {ops : Array Oper} {rest : List Oper} {o : Oper} {a : Act} {Q : Exit → Act → World → Prop} (hgd : o.guard = none) (s x : Operand)
    (ho : o.op = .call { callee := .builtin .append, args := #[s, x], argTypes := #[22, 22] })
    {w : World} {B : Nat} {v : Value} {l : List ByteArray} {t : ByteArray} (hs : a.eval s = v) (hx : a.eval x = .slice (some ⟨w.heap.size, 0, none⟩) 1 1)
    (hown : OwnsS w B v l) (hB : B ≤ w.heap.size) (hl : l.length + 1 ≤ 1000000)
    (h : ∀ v' w', OwnsS w' B v' (l ++ [t]) → Below B w w' → wpList Tryd.prog ops Q rest (a.put o.dst v') w') :
    wpList Tryd.prog ops Q (o :: rest) a (w.alloc (.cells #[.string t] 9)) := by
  obtain ⟨i0, hi, hz0, hz1, hz2⟩ := info_parts info_text
  refine wpList_append_own _ hgd s x 22 ho B 9 i0 (.string ByteArray.empty) 1 16 Tryd.underlying22 hi hz0 hz1 hz2 rfl (by decide) v l.length (sv l) hs (World.ownsRow.alloc hown _) ⟨w.heap.size, 0, none⟩ 1 1 [.string t] hx rfl (cell_one_new _ _ _) ?_ ?_ ?_ ?_ ?_
  · intro u hu; simp at hu; subst hu; rfl
  · simp only [maxLen]; omega
  · omega
  · simp; omega
  · intro v' w' hown' hgrow _
    refine h v' w' ?_ ?_
    · simpa [OwnsS, sv] using hown'
    · refine ((Below.refl B w).alloc hB _).grown hgrow (by simp; omega) fun k hk => (hown.lt k hk).1

/-- 'make([]byte, 0, n)'. -/
theorem make_bytes {ops : Array Oper} {rest : List Oper} {o : Oper} {a : Act} {Q : Exit → Act → World → Prop} (hgd : o.guard = none) (l c : Operand) (hop : o.op = Op.makeSlice 62 l c)
    {w : World} {C : Int} {n B : Nat} (hl : a.eval l = .int .i64 0) (hc : a.eval c = .int .i64 C) (hC : C = (n : Int)) (hn : n ≤ 1000000) (hB : B ≤ w.heap.size)
    (h : ∀ v' w', OwnsB w' B v' [] → Below B w w' → wpList Tryd.prog ops Q rest (a.put o.dst v') w') : wpList Tryd.prog ops Q (o :: rest) a w := by
  obtain ⟨i0, hi, hz0, hz1, hz2⟩ := info_parts info_u8
  refine wpList_make_own w hgd l c 62 hop B 5 i0 (.int .u8 0) 1 Tryd.underlying62 hi hz0 hz1 _ _ C n hl hc hC ?_ ?_ hB ?_
  · rw [hz2]; omega
  · unfold maxLen; omega
  · intro w' hown hg
    exact h _ w' hown ((Below.refl B w).grown hg hB (fun k hk => by cases hk))
/-- 'make([]int, n)'. -/
theorem make_ints {ops : Array Oper} {rest : List Oper} {o : Oper} {a : Act} {Q : Exit → Act → World → Prop} (hgd : o.guard = none) (l c : Operand) (hop : o.op = Op.makeSlice 23 l c)
    {w : World} {C : Int} {n B : Nat} (hl : a.eval l = .int .i64 C) (hc : a.eval c = .int .i64 C) (hC : C = (n : Int)) (hn : n ≤ 1000000) (hB : B ≤ w.heap.size)
    (h : ∀ w', OwnsI w' B (.slice (some ⟨w.heap.size, 0, none⟩) n n) (List.replicate n 0#64) → Below B w w' → wpList Tryd.prog ops Q rest (a.put o.dst (.slice (some ⟨w.heap.size, 0, none⟩) n n)) w') : wpList Tryd.prog ops Q (o :: rest) a w := by
  obtain ⟨i0, hi, hz0, hz1, hz2⟩ := info_parts info_i64
  refine wpList_make_full w hgd l c 23 hop B 3 i0 (.int .i64 0) 1 Tryd.underlying23 hi hz0 hz1 _ _ C C n hl hc hC hC ?_ ?_ hB ?_
  · rw [hz2]; omega
  · unfold maxLen; omega
  · intro w' hown hg
    refine h w' ?_ ((Below.refl B w).grown hg hB (fun k hk => by cases hk))
    have e : (madeCells (Value.int IntKind.i64 0).cells (n * 1)).toList = iv (List.replicate n 0#64) := by
      rw [Nat.mul_one, show (Value.int IntKind.i64 0).cells = #[.int .i64 0] from rfl, toList_madeCells_one]
      simp [iv]
    rw [e] at hown
    unfold OwnsI
    rw [List.length_replicate]
    exact hown
/-- 'make([]string, n)'. -/
theorem make_strs {ops : Array Oper} {rest : List Oper} {o : Oper} {a : Act} {Q : Exit → Act → World → Prop} (hgd : o.guard = none) (l c : Operand) (hop : o.op = Op.makeSlice 22 l c)
    {w : World} {C : Int} {n B : Nat} (hl : a.eval l = .int .i64 C) (hc : a.eval c = .int .i64 C) (hC : C = (n : Int)) (hn : n ≤ 1000000) (hB : B ≤ w.heap.size)
    (h : ∀ w', OwnsS w' B (.slice (some ⟨w.heap.size, 0, none⟩) n n) (List.replicate n ByteArray.empty) → Below B w w' → wpList Tryd.prog ops Q rest (a.put o.dst (.slice (some ⟨w.heap.size, 0, none⟩) n n)) w') : wpList Tryd.prog ops Q (o :: rest) a w := by
  obtain ⟨i0, hi, hz0, hz1, hz2⟩ := info_parts info_text
  refine wpList_make_full w hgd l c 22 hop B 9 i0 (.string ByteArray.empty) 1 Tryd.underlying22 hi hz0 hz1 _ _ C C n hl hc hC hC ?_ ?_ hB ?_
  · rw [hz2]; omega
  · unfold maxLen; omega
  · intro w' hown hg
    refine h w' ?_ ((Below.refl B w).grown hg hB (fun k hk => by cases hk))
    have e : (madeCells (Value.string ByteArray.empty).cells (n * 1)).toList = sv (List.replicate n ByteArray.empty) := by
      rw [Nat.mul_one, show (Value.string ByteArray.empty).cells = #[.string ByteArray.empty] from rfl, toList_madeCells_one]
      simp [sv]
    rw [e] at hown
    unfold OwnsS
    rw [List.length_replicate]
    exact hown
/-- A store into such a slice. -/
theorem OwnsI.store {w : World} {B g n cap : Nat} {l : List (BitVec 64)} (h : OwnsI w B (.slice (some ⟨g, 0, none⟩) n cap) l) (hn : n = l.length) (k : Nat) (hk : k < l.length) (x : BitVec 64) :
    w.cell? ⟨g, k, none⟩ = some (.int .i64 (l.getD k 0#64).toInt) ∧ w.frozen? ⟨g, k, none⟩ = false ∧ OwnsI (w.setCell ⟨g, k, none⟩ (.int .i64 x.toInt)) B (.slice (some ⟨g, 0, none⟩) n cap) (l.set k x) ∧ B ≤ g := by
  subst hn
  refine ⟨?_, World.ownsRow.frozenAt h k, ?_, (h.lt g rfl).1⟩
  · rw [World.ownsRow.cellAt h k (by omega)]
    simp [iv, hk]
  · have := (World.ownsRow.stored h k (.int .i64 x.toInt)).1
    unfold OwnsI
    rw [List.length_set]
    have e : (iv l).set k (.int .i64 x.toInt) = iv (l.set k x) := by simp [iv, List.map_set]
    rw [e] at this
    exact this
theorem OwnsS.store {w : World} {B g n cap : Nat} {l : List ByteArray} (h : OwnsS w B (.slice (some ⟨g, 0, none⟩) n cap) l) (hn : n = l.length) (k : Nat) (hk : k < l.length) (x : ByteArray) :
    (∃ t, w.cell? ⟨g, k, none⟩ = some (.string t)) ∧ w.frozen? ⟨g, k, none⟩ = false ∧ OwnsS (w.setCell ⟨g, k, none⟩ (.string x)) B (.slice (some ⟨g, 0, none⟩) n cap) (l.set k x) ∧ B ≤ g := by
  subst hn
  refine ⟨⟨l[k], ?_⟩, World.ownsRow.frozenAt h k, ?_, (h.lt g rfl).1⟩
  · rw [World.ownsRow.cellAt h k (by omega)]
    simp [sv, hk]
  · have := (World.ownsRow.stored h k (.string x)).1
    unfold OwnsS
    rw [List.length_set]
    have e : (sv l).set k (.string x) = sv (l.set k x) := by simp [sv, List.map_set]
    rw [e] at this
    exact this
theorem set_mid {α : Type} (d : List α) (g : Nat) (z x : α) (k : Nat) (hk : d.length = k) : (d ++ List.replicate (g + 1) z).set k x = (d ++ [x]) ++ List.replicate g z := by
  subst hk
  rw [List.set_append_right _ _ (Nat.le_refl _), Nat.sub_self, List.replicate_succ, List.set_cons_zero, List.append_assoc]
  rfl
/-- 'string(s)', s the call's own, of bytes. -/
theorem convert_all {w : World} {B : Nat} {v : Value} {l : List UInt8} (hown : OwnsB w B v l) :
    (convert 62 9 v).run Tryd.prog w = .ok (.string ⟨l.toArray⟩) w := by
  rcases Nat.eq_zero_or_pos l.length with h0 | hp
  · have hl : l = [] := List.eq_nil_of_length_eq_zero h0
    subst hl
    rcases hown.2 with ⟨rfl, _⟩ | ⟨g, cap, cur, rfl, _, _, _⟩
    · exact run_convert_bytes_nil w 62 5 Tryd.underlying62 Tryd.underlying5 _ _ 9 Tryd.underlying9
    · rw [run_convert_bytes_string w _ _ 5 _ _ _ Tryd.underlying62 Tryd.underlying5 Tryd.underlying9]
      have hload : (loadCells ⟨g, 0, none⟩ 0).run Tryd.prog w = .ok (([] : List Int).map (Value.int .u8)).toArray w := by
        have := run_loadCells_list (P := Tryd.prog) w ⟨g, 0, none⟩ [] (by intro j u h; simp at h)
        simpa using this
      have := run_bytesToString (P := Tryd.prog) w ⟨g, 0, none⟩ 0 cap [] hload
      exact this
  · exact convert_own hown hp
/-- Texts that came in. -/
theorem strs_of {H : Type} {enc : TypeId × Value → H} {W : World} {base : Nat} {sp : Nat → Bool} {hd : Bool} {fuel : Nat} {a : Option Addr} {len cap : Nat} {x : DataW H × List MemPlace}
    (h : DataW.trod enc Tryd.prog W base sp hd fuel 22 [.slice a len cap] = some x) : ∃ l : List ByteArray, l.length = len ∧ ReadsS W (.slice a len cap) l ∧ l.length ≤ maxLen := by
  rcases Go.Deep.open_strs Tryd.underlying22 Tryd.underlying9 (by kernel_rfl) h with ⟨h0, _⟩ | ⟨ad, ln, cp, m, Sx, hv, _, hl, hm, hmm, _, hx⟩
  · simp at h0
    obtain ⟨rfl, rfl, rfl⟩ := h0
    exact ⟨[], rfl, .inl ⟨rfl, _, _, rfl⟩, Nat.zero_le _⟩
  · simp at hv
    obtain ⟨rfl, rfl, rfl⟩ := hv
    have hlm : len ≤ m := by rw [hmm]; split <;> omega
    refine ⟨(List.range len).map Sx, by simp, ?_, by simp; omega⟩
    rcases Nat.eq_zero_or_pos len with rfl | hpos
    · exact .inl ⟨rfl, _, _, rfl⟩
    · obtain ⟨b, off, spot⟩ := ad
      have hc0 := (hx 0 (by omega)).1
      have hspot : spot = none := by simpa [Addr.add] using World.cell?_spot hc0
      subst hspot
      have hbw : b < W.heap.size := by
        have := World.block_lt_of_cell? W _ hc0
        simpa [Addr.add] using this
      have hll : ((List.range len).map Sx).length = len := by simp
      refine .inr ⟨b, off, cap, by rw [hll], fun e => by rw [e] at hll; simp at hll; omega, hbw, fun i t hi => ?_⟩
      have hadd : (⟨b, off, none⟩ : Addr).add i = ⟨b, off + i, none⟩ := by unfold Addr.add; split <;> simp_all
      have hil : i < len := by
        have := (List.getElem?_eq_some_iff.1 hi).1
        rwa [hll] at this
      rw [List.getElem?_map, List.getElem?_range hil] at hi
      simp at hi
      subst hi
      rw [← hadd]
      exact (hx i (by omega)).1
end Go.Proofs.YthcjjcfiademnaaDoor
/-
  The contracts of Seal and Open of package peristyleref03.
-/
namespace Go.Proofs.YthcjjcfiademnaaDoor
open Go.RowKit

/-- A byte of a sum, as the plain text takes it. -/
theorem ref_byte (m : BitVec 32) : IntKind.u8.wrap (bits .and .i64 (m.toNat : Int) 255) = ((UInt8.ofNat m.toNat).toNat : Int) := by
  have e : (255 : Int) = ((255#32).toNat : Int) := by decide
  rw [e, Wt.i64_and, IntKind.wrap_u8, UInt8.toNat_ofNat', BitVec.toNat_and]
  have := Nat.and_two_pow_sub_one_eq_mod m.toNat 8
  have e2 : (255#32).toNat = 2 ^ 8 - 1 := by decide
  rw [e2, this]
  omega
theorem refSeal_byte (n : BitVec 32) (k : Nat) : ∃ x : UInt8, IntKind.u8.wrap (bits .and .i64 ((n.toNat : Int) / 2 ^ k) 255) = (x.toNat : Int) ∧ x = UInt8.ofNat (n.toNat / 2 ^ k) := by
  refine ⟨_, ?_, rfl⟩
  rw [Wt.shr, ref_byte, BitVec.toNat_ushiftRight, Nat.shiftRight_eq_div_pow]
set_option maxRecDepth 4000 in
set_option maxHeartbeats 1000000 in
theorem refSeal_any (s : ByteArray) (hs : s.size ≤ 1000000) (w : World) :
    Calls Tryd.prog 25 #[.string s] w fun e w' => e = .returned (.string (sealS s)) ∧ Below w.heap.size w w' := by
  have hs0 : s.size ≤ maxLen := by unfold maxLen; omega
  obtain ⟨n, hn⟩ : ∃ n, n = Crc.sum s.data.toList := ⟨_, rfl⟩
  have c : ∀ w, Calls Tryd.prog 27 #[.string s] w fun e w' => e = .returned (.int .i64 n.toNat) ∧ w' = w := fun w => hn ▸ refSum_any s hs0 w
  obtain ⟨x0, r0, h0⟩ := refSeal_byte n 0
  obtain ⟨x1, r1, h1⟩ := refSeal_byte n 8
  obtain ⟨x2, r2, h2⟩ := refSeal_byte n 16
  obtain ⟨x3, r3, h3⟩ := refSeal_byte n 24
  have hx : Crc.four (Crc.sum s.data.toList) = [x0, x1, x2, x3] := by
    rw [← hn, h0, h1, h2, h3]; simp [Crc.four]
  have HX : Hid (s ++ strB [x0, x1, x2, x3] = sealS s) := by show _ = _; rw [sealS, hx]
  have hrow := rowB_new w #[.int .u8 (x0.toNat : Int), .int .u8 (x1.toNat : Int), .int .u8 (x2.toNat : Int), .int .u8 (x3.toNat : Int)] 5 [x0, x1, x2, x3] (by
    intro i hi
    have : i = 0 ∨ i = 1 ∨ i = 2 ∨ i = 3 := by simp at hi; omega
    rcases this with rfl | rfl | rfl | rfl <;> rfl)
  have ht := hrow.text 4
  have hsz : (strB [x0, x1, x2, x3]).size = 4 := rfl
  obtain ⟨T, hT⟩ : ∃ T, T = strB [x0, x1, x2, x3] := ⟨_, rfl⟩
  rw [← hT] at ht hsz HX
  simp at ht r0 r1 r2 r3
  clear h0 h1 h2 h3 hx hn hrow hT
  go_enter Tryd.func25, Tryd.ntmps25
  go_wp2_with (go_at_call 27; refine (c _).mono ?_; rintro e w1 ⟨rfl, hw1⟩; replace hw1 := hw1.symm; subst hw1)
  go_ret
  exact ⟨congrArg (fun x => Ending.returned (.string x)) HX.out, (Below.refl _ _).alloc (Nat.le_refl _) _⟩

end Go.Proofs.YthcjjcfiademnaaDoor
/-
  The contract of package peristyleref02's Put.
-/
namespace Go.Proofs.YthcjjcfiademnaaDoor
open Go.RowKit Leb

theorem field_low (x : BitVec 64) : wordW (fieldF x 0 7) = BitVec.ofNat 64 (x.toNat % 128) := by
  apply BitVec.eq_of_getLsbD_eq
  intro i hi
  rw [wordW_bit _ i hi, BitVec.getLsbD_ofNat]
  unfold fieldF bitsOf
  rw [show (128 : Nat) = 2 ^ 7 from rfl, Nat.testBit_mod_two_pow]
  by_cases h : i < 7
  · have h2 : (i : Int) < 7 := by omega
    simp [h, h2, hi, BitVec.getLsbD]
  · have h2 : ¬ (i : Int) < 7 := by omega
    simp [h, h2]
theorem field_high (x : BitVec 64) : wordW (fieldF x 7 64) = x >>> 7 := by
  apply BitVec.eq_of_getLsbD_eq
  intro i hi
  rw [wordW_bit _ i hi, BitVec.getLsbD_ushiftRight]
  unfold fieldF bitsOf
  by_cases h : 7 + i < 64
  · have h2 : (i : Int) < 64 := by omega
    simp [h, h2]
  · rw [BitVec.getLsbD_of_ge x (7 + i) (by omega)]; simp
theorem refLow (x : BitVec 64) (w : World) (c : Nat) (hc : c = x.toNat % 128) :
    Calls Tryd.prog 41 #[.int .i64 x.toInt, .int .i64 0, .int .i64 7] w fun e w' => e = .returned (.int .i64 (c : Int)) ∧ Below w.heap.size w w' := by
  refine (refField_in x 0 (by decide) 7 w).mono ?_
  rintro e w' ⟨rfl, hb⟩
  rw [field_low, Wd.toInt_of_small _ (by omega), hc]
  exact ⟨rfl, hb⟩
theorem refHigh (x : BitVec 64) (w : World) (q : BitVec 64) (hq : q = x >>> 7) :
    Calls Tryd.prog 41 #[.int .i64 x.toInt, .int .i64 7, .int .i64 64] w fun e w' => e = .returned (.int .i64 q.toInt) ∧ Below w.heap.size w w' := by
  refine (refField_in x 7 (by decide) 64 w).mono ?_
  rintro e w' ⟨rfl, hb⟩
  rw [field_high, hq]
  exact ⟨rfl, hb⟩
theorem refZig_eq (x : BitVec 64) (w : World) :
    Calls Tryd.prog 40 #[.int .i64 x.toInt] w fun e w' => e = .returned (.int .i64 (zigW x).toInt) ∧ Below w.heap.size w w' := by
  refine (refZig_any x w).mono ?_
  rintro e w' ⟨rfl, hb⟩
  rw [zig_eq]
  exact ⟨rfl, hb⟩
theorem toInt_zero_iff (x : BitVec 64) : (x.toInt == 0) = decide (x.toNat = 0) := by
  rw [Bool.eq_iff_iff, beq_iff_eq, decide_eq_true_iff, BitVec.toInt_eq_toNat_bmod, Int.bmod_def]
  have := x.isLt
  omega

set_option maxRecDepth 4000 in
set_option maxHeartbeats 1000000 in
theorem refPut_any (x : BitVec 64) (w : World) :
    Calls Tryd.prog 26 #[.int .i64 x.toInt] w fun e w' => e = .returned (.string (str (enc1 x))) ∧ Below w.heap.size w w' := by
  go_enter Tryd.func26, Tryd.ntmps26
  go_wp2_with (go_at_call 40; refine (refZig_eq _ _).mono ?_; rintro e w1 ⟨rfl, hb1⟩)
  go_loopg [3, 4] (leb (zigW x).toNat).length (fun g s3 s4 wx => ∃ (done : List UInt8) (r : BitVec 64), (leb r.toNat).length = g ∧ s3 = .int .i64 r.toInt ∧ enc1 x = done ++ leb r.toNat ∧ OwnsB wx w.heap.size s4 done ∧ Below w.heap.size w wx)
  case atStart => exact ⟨[], zigW x, rfl, rfl, rfl, ownsB_nil _ _, hb1⟩
  case round =>
    obtain ⟨done, r, hrg, rfl, henc, hown, hb2⟩ := hrel
    have HE : Hid (enc1 x = done ++ leb r.toNat) := henc
    have HR : Hid ((leb r.toNat).length = gk) := hrg
    have hdl : done.length ≤ 10 := by
      have e := congrArg List.length henc
      rw [enc1_len, List.length_append] at e
      have := (lenW_bd (zigW x)).2
      omega
    have hsz := hb2.size
    clear henc hrg
    obtain ⟨c, hc⟩ : ∃ c, c = r.toNat % 128 := ⟨_, rfl⟩
    have HC : Hid (c = r.toNat % 128) := hc
    have hc2 : (c : Int) < 128 := by omega
    obtain ⟨q, hq⟩ : ∃ q, q = r >>> 7 := ⟨_, rfl⟩
    have HQ : Hid (q = r >>> 7) := hq
    by_cases hr : r.toNat < 128
    · have hz : (q.toInt == 0) = true := by rw [hq, toInt_zero_iff, shr7, decide_eq_true_iff]; omega
      have r2 : Hid ((c : Int) = ((UInt8.ofNat r.toNat).toNat : Int)) := by show _ = _; rw [byte_small (by omega), hc]; omega
      clear hc hq
      go_wp2_with fail
      refine (refLow _ _ c HC.out).mono ?_
      rintro e w3 ⟨rfl, hb3⟩
      replace hown := hown.below hb3
      replace hb2 := hb2.trans (hb3.mono hsz)
      clear hb3
      replace hsz := hb2.size
      go_wp2_with fail
      refine (refHigh _ _ q HQ.out).mono ?_
      rintro e w4 ⟨rfl, hb3⟩
      replace hown := hown.below hb3
      replace hb2 := hb2.trans (hb3.mono hsz)
      clear hb3
      replace hsz := hb2.size
      go_wp2_with ((at_builtin; refine append_u8 rfl (.tmp 14) (.tmp 17) rfl rfl rfl r2.out hown ?hB ?hl ?_; (case hB => omega); (case hl => omega); intro v3 w3 hown3 hb3; have hcv := convert_own hown3 (by simp)))
      go_ret
      have e1 := HE.out
      rw [leb_small hr] at e1
      refine ⟨?_, hb2.trans hb3⟩
      rw [e1]; rfl
    · have hr' : 128 ≤ r.toNat := by omega
      have hz : (q.toInt == 0) = false := by rw [hq, toInt_zero_iff, shr7, decide_eq_false_iff_not]; omega
      have r2 : Hid ((128 : Int) + (c : Int) = ((UInt8.ofNat (r.toNat % 128 + 128)).toNat : Int)) := by show _ = _; rw [byte_small (by omega), hc]; omega
      clear hc hq
      go_wp2_with fail
      refine (refLow _ _ c HC.out).mono ?_
      rintro e w3 ⟨rfl, hb3⟩
      replace hown := hown.below hb3
      replace hb2 := hb2.trans (hb3.mono hsz)
      clear hb3
      replace hsz := hb2.size
      go_wp2_with fail
      refine (refHigh _ _ q HQ.out).mono ?_
      rintro e w4 ⟨rfl, hb3⟩
      replace hown := hown.below hb3
      replace hb2 := hb2.trans (hb3.mono hsz)
      clear hb3
      replace hsz := hb2.size
      go_wp2_with ((at_builtin; refine append_u8 rfl (.tmp 20) (.tmp 24) rfl rfl rfl r2.out hown ?hB ?hl ?_; (case hB => omega); (case hl => omega); intro v3 w3 hown3 hb3))
      go_roundg ((leb r.toNat).length - 1)
      case measure => have := HR.out; have := leb_pos r.toNat; omega
      case rel =>
        have e1 := HE.out
        rw [leb_big hr'] at e1
        refine ⟨done ++ [UInt8.ofNat (r.toNat % 128 + 128)], q, ?_, rfl, ?_, hown3, hb2.trans hb3⟩
        · rw [leb_big hr', HQ.out, shr7]; simp
        · rw [e1, HQ.out, shr7]; simp
end Go.Proofs.YthcjjcfiademnaaDoor
/-
  Blocks of memory that a call may turn, and all others as they were; rows of many cells each in one block: load, store, copy of a text into one. No program is spoken of.
-/
namespace Go.Proofs.YthcjjcfiademnaaDoor
open Go.RowKit

/-- Of the old blocks those outside F are as they were. -/
structure Kept (F : Nat → Prop) (w w' : World) : Prop where
  os : w'.os = w.os
  tape : w'.tape = w.tape
  output : w'.output = w.output
  size : w.heap.size ≤ w'.heap.size
  block : ∀ k, k < w.heap.size → ¬ F k → w'.heap[k]? = w.heap[k]?
section
variable {F G : Nat → Prop} {a b c w w' : World}
theorem Kept.refl (F : Nat → Prop) (w : World) : Kept F w w := ⟨rfl, rfl, rfl, Nat.le_refl _, fun _ _ _ => rfl⟩
theorem Kept.trans (h : Kept F a b) (k : Kept G b c) (i : ∀ k, G k → F k ∨ a.heap.size ≤ k) : Kept F a c :=
  ⟨k.os.trans h.os, k.tape.trans h.tape, k.output.trans h.output, Nat.le_trans h.size k.size, fun x hx hF => by
    rw [k.block x (Nat.lt_of_lt_of_le hx h.size) (fun hG => by rcases i x hG with h1 | h1; exact hF h1; omega), h.block x hx hF]⟩
theorem Kept.mono (h : Kept F w w') (i : ∀ k, F k → G k) : Kept G w w' := ⟨h.os, h.tape, h.output, h.size, fun x hx hG => h.block x hx (fun hF => hG (i x hF))⟩
theorem Kept.drew (h : Kept F a w) : Kept F a w.drew := ⟨h.os, h.tape, h.output, h.size, h.block⟩
theorem Kept.drewN (h : Kept F a w) (n : Nat) : Kept F a (w.drewN n) := ⟨h.os, h.tape, h.output, h.size, h.block⟩
theorem Kept.alloc (h : Kept F a w) (o : Obj) : Kept F a (w.alloc o) :=
  ⟨h.os, h.tape, h.output, by have := h.size; simp; omega, fun x hx hF => by rw [Below.heap_alloc w o x (Nat.lt_of_lt_of_le hx h.size), h.block x hx hF]⟩
theorem Kept.setCell (h : Kept F a w) {p : Addr} (hp : F p.block ∨ a.heap.size ≤ p.block) (u : Value) : Kept F a (w.setCell p u) :=
  ⟨h.os, h.tape, h.output, by have := h.size; simp; omega, fun x hx hF => by
    rw [Below.heap_setCell w p u x (fun e => by subst e; rcases hp with h1 | h1; exact hF h1; omega), h.block x hx hF]⟩
theorem Kept.setCells {p : Nat} (hp : F p ∨ a.heap.size ≤ p) : ∀ (vs : List Value) (o : Nat) (w : World), Kept F a w → Kept F a (w.setCells p o vs)
  | [], _, _, h => h
  | v :: r, o, w, h => by
    rw [World.setCells]
    exact Kept.setCells hp r (o + 1) _ (h.setCell (p := ⟨p, o, none⟩) hp v)
theorem Kept.grown (h : Kept F a w) {row : Option Nat} (hg : w.grownBy w' row) (hr : ∀ k, row = some k → F k ∨ a.heap.size ≤ k) : Kept F a w' :=
  ⟨hg.os.trans h.os, hg.tape.trans h.tape, hg.output.trans h.output, Nat.le_trans h.size hg.size, fun x hx hF => by
    rw [hg.block x (Nat.lt_of_lt_of_le hx h.size) (fun e => by rcases hr x e.symm with h1 | h1; exact hF h1; omega), h.block x hx hF]⟩
theorem Kept.below {B : Nat} (h : Kept F w w') (hF : ∀ k, F k → B ≤ k) (hB : B ≤ w.heap.size) : Below B w w' :=
  ⟨h.os, h.tape, h.output, h.size, fun k hk => h.block k (by omega) (fun hf => by have := hF k hf; omega)⟩
theorem kept_of_below (F : Nat → Prop) (h : Below w.heap.size w w') : Kept F w w' := ⟨h.os, h.tape, h.output, h.size, fun k hk _ => h.block k hk⟩
end

theorem heap_setCells_far (b : Nat) : ∀ (vs : List Value) (o : Nat) (w : World) (k : Nat), k ≠ b → (w.setCells b o vs).heap[k]? = w.heap[k]?
  | [], _, _, _, _ => rfl
  | v :: r, o, w, k, h => by
    rw [World.setCells, heap_setCells_far b r (o + 1) _ k h, Below.heap_setCell w ⟨b, o, none⟩ v k h]
theorem heap_setCells (b : Nat) (t : TypeId) : ∀ (vs : List Value) (o : Nat) (w : World) (cur : Array Value), w.heap[b]? = some (.cells cur t (0, 0)) → o + vs.length ≤ cur.size →
    ∃ cur', (w.setCells b o vs).heap[b]? = some (.cells cur' t (0, 0)) ∧ cur'.size = cur.size ∧ (∀ k, k < o ∨ o + vs.length ≤ k → cur'[k]? = cur[k]?) ∧ ∀ j v, vs[j]? = some v → cur'[o + j]? = some v
  | [], _, _, cur, h, _ => ⟨cur, h, rfl, fun _ _ => rfl, fun _ _ hv => by simp at hv⟩
  | v :: r, o, w, cur, h, hl => by
    simp only [List.length_cons] at hl
    obtain ⟨cur', h1, h2, h3, h4⟩ := heap_setCells b t r (o + 1) (w.setCell ⟨b, o, none⟩ v) (cur.setIfInBounds o v) (heap_setCell_same w b o cur t v h) (by simp; omega)
    refine ⟨cur', h1, by simpa using h2, ?_, ?_⟩
    · intro k hk
      simp only [List.length_cons] at hk
      rw [h3 k (by omega), Array.getElem?_setIfInBounds, if_neg (by omega)]
    · intro j u hu
      cases j with
      | zero =>
        simp at hu
        subst hu
        rw [h3 (o + 0) (by omega), Array.getElem?_setIfInBounds]
        simp
        omega
      | succ j =>
        have := h4 j u (by simpa using hu)
        rwa [show o + (j + 1) = o + 1 + j by omega]

/-- The block b has tot cells of type t, which may be written: from its head on the rows R of sz cells each. -/
def Rows (w : World) (b : Nat) (t : TypeId) (tot sz : Nat) (R : List (List Value)) : Prop :=
  ∃ cur : Array Value, w.heap[b]? = some (.cells cur t (0, 0)) ∧ cur.size = tot ∧ R.length * sz ≤ tot ∧ (∀ r ∈ R, r.length = sz) ∧ ∀ i r, R[i]? = some r → ∀ j v, r[j]? = some v → cur[i * sz + j]? = some v
section
variable {w w' : World} {b : Nat} {t : TypeId} {tot sz : Nat} {R : List (List Value)}
theorem Rows.lt (h : Rows w b t tot sz R) : b < w.heap.size := by
  obtain ⟨cur, h1, _⟩ := h
  exact (Array.getElem?_eq_some_iff.1 h1).1
theorem Rows.of_block (h : Rows w b t tot sz R) (e : w'.heap[b]? = w.heap[b]?) : Rows w' b t tot sz R := by
  obtain ⟨cur, h1, h2⟩ := h
  exact ⟨cur, by rw [e]; exact h1, h2⟩
theorem Rows.kept {F : Nat → Prop} (h : Rows w b t tot sz R) (k : Kept F w w') (hb : ¬ F b) : Rows w' b t tot sz R := h.of_block (k.block b h.lt hb)
theorem Rows.drew (h : Rows w b t tot sz R) : Rows w.drew b t tot sz R := h
theorem Rows.range (h : Rows w b t tot sz R) {i : Nat} {r : List Value} (hr : R[i]? = some r) : w.rangeAt b (i * sz) r := by
  obtain ⟨cur, h1, _, _, _, h5⟩ := h
  intro j v hv
  rw [cell_of_row w b _ cur t _ h1]
  exact h5 i r hr j v hv
theorem Rows.fit (h : Rows w b t tot sz R) {i : Nat} (hi : i < R.length) : i * sz + sz ≤ tot := by
  obtain ⟨_, _, _, h3, _⟩ := h
  have : (i + 1) * sz ≤ R.length * sz := Nat.mul_le_mul_right _ hi
  rw [Nat.add_mul] at this
  omega
theorem Rows.there_at (h : Rows w b t tot sz R) {o n : Nat} (ho : o + n ≤ tot) : w.there b o n := by
  obtain ⟨cur, h1, h2, _⟩ := h
  intro j hj
  refine ⟨?_, frozen_of_row w b _ cur t h1⟩
  rw [cell_of_row w b _ cur t _ h1, Array.getElem?_eq_getElem (by omega)]
  rfl
theorem Rows.there (h : Rows w b t tot sz R) {i : Nat} (hi : i < R.length) : w.there b (i * sz) sz := h.there_at (h.fit hi)
theorem Rows.set (h : Rows w b t tot sz R) {i : Nat} (hi : i < R.length) {r : List Value} (hl : r.length = sz) : Rows (w.setCells b (i * sz) r) b t tot sz (R.set i r) := by
  have hf := h.fit hi
  obtain ⟨cur, h1, h2, h3, h4, h5⟩ := h
  obtain ⟨cur', g1, g2, g3, g4⟩ := heap_setCells b t r (i * sz) w cur h1 (by omega)
  refine ⟨cur', g1, by omega, by simpa using h3, ?_, ?_⟩
  · intro x hx
    rcases List.mem_or_eq_of_mem_set hx with hx | rfl
    · exact h4 x hx
    · exact hl
  · intro k x hx j v hv
    rw [List.getElem?_set] at hx
    by_cases e : i = k
    · subst e
      simp [hi] at hx
      subst hx
      exact g4 j v hv
    · rw [if_neg e] at hx
      have hj : j < sz := by
        have := h4 x (List.mem_of_getElem? hx)
        have := (List.getElem?_eq_some_iff.1 hv).1
        omega
      rw [g3 (k * sz + j) ?_]
      · exact h5 k x hx j v hv
      · rw [hl]
        rcases Nat.lt_or_ge k i with h' | h'
        · left
          have : (k + 1) * sz ≤ i * sz := Nat.mul_le_mul_right _ h'
          rw [Nat.add_mul] at this
          omega
        · right
          have : (i + 1) * sz ≤ k * sz := Nat.mul_le_mul_right _ (by omega)
          rw [Nat.add_mul] at this
          omega
theorem Rows.take (h : Rows w b t tot sz R) (k : Nat) : Rows w b t tot sz (R.take k) := by
  obtain ⟨cur, h1, h2, h3, h4, h5⟩ := h
  refine ⟨cur, h1, h2, ?_, fun r hr => h4 r (List.mem_of_mem_take hr), ?_⟩
  · refine Nat.le_trans (Nat.mul_le_mul_right _ ?_) h3
    rw [List.length_take]
    omega
  · intro i r hr
    rw [List.getElem?_take] at hr
    split at hr
    · exact h5 i r hr
    · cases hr
/-- What is written behind the rows turns none of them. -/
theorem Rows.behind (h : Rows w b t tot sz R) {o : Nat} (vs : List Value) (ho : R.length * sz ≤ o) (hf : o + vs.length ≤ tot) : Rows (w.setCells b o vs) b t tot sz R := by
  obtain ⟨cur, h1, h2, h3, h4, h5⟩ := h
  obtain ⟨cur', g1, g2, g3, g4⟩ := heap_setCells b t vs o w cur h1 (by omega)
  refine ⟨cur', g1, by omega, h3, h4, ?_⟩
  intro i r hr j v hv
  have hi : i < R.length := (List.getElem?_eq_some_iff.1 hr).1
  have hj : j < sz := by
    have := h4 r (List.mem_of_getElem? hr)
    have := (List.getElem?_eq_some_iff.1 hv).1
    omega
  have : (i + 1) * sz ≤ R.length * sz := Nat.mul_le_mul_right _ hi
  rw [Nat.add_mul] at this
  rw [g3 _ (by omega)]
  exact h5 i r hr j v hv
theorem Rows.far (h : Rows w b t tot sz R) {p o : Nat} (vs : List Value) (hp : b ≠ p) : Rows (w.setCells p o vs) b t tot sz R := h.of_block (heap_setCells_far p vs o w b hp)
end

theorem flatten_at {sz : Nat} (hsz : 0 < sz) : ∀ (R : List (List Value)), (∀ r ∈ R, r.length = sz) → ∀ k, R.flatten[k]? = (R[k / sz]?).bind (·[k % sz]?)
  | [], _, k => by simp
  | r :: R, h, k => by
    have hr := h r (by simp)
    rw [List.flatten_cons, List.getElem?_append]
    by_cases hk : k < sz
    · rw [if_pos (by omega), Nat.div_eq_of_lt hk, Nat.mod_eq_of_lt hk]
      simp
    · rw [if_neg (by omega), hr, flatten_at hsz R (fun x hx => h x (by simp [hx])) (k - sz)]
      have e1 : k / sz = (k - sz) / sz + 1 := by rw [Nat.div_eq_sub_div hsz (by omega)]
      have e2 : k % sz = (k - sz) % sz := by rw [Nat.mod_eq_sub_mod (by omega)]
      rw [e1, e2]
      simp
theorem length_flat {sz : Nat} : ∀ (R : List (List Value)), (∀ r ∈ R, r.length = sz) → R.flatten.length = R.length * sz
  | [], _ => by simp
  | r :: R, h => by
    rw [List.flatten_cons, List.length_append, length_flat R (fun x hx => h x (by simp [hx])), h r (by simp), List.length_cons, Nat.add_mul]
    omega

/-- A slice of rows that the call's own writes lie in: none, or the head of a block. -/
def SRows (w : World) (v : Value) (t : TypeId) (sz : Nat) (R : List (List Value)) : Prop :=
  (v = .slice none 0 0 ∧ R = []) ∨ ∃ g cap, v = .slice (some ⟨g, 0, none⟩) R.length cap ∧ R.length ≤ cap ∧ cap ≤ maxLen ∧ Rows w g t (cap * sz) sz R
section
variable {w w' : World} {v : Value} {t : TypeId} {sz : Nat} {R : List (List Value)}
theorem srows_nil (w : World) (t : TypeId) (sz : Nat) : SRows w (.slice none 0 0) t sz [] := .inl ⟨rfl, rfl⟩
theorem SRows.of_block (h : SRows w v t sz R) (e : ∀ k, v.ownBlock = some k → w'.heap[k]? = w.heap[k]?) : SRows w' v t sz R := by
  rcases h with h | ⟨g, cap, rfl, h1, h2, h3⟩
  · exact .inl h
  · exact .inr ⟨g, cap, rfl, h1, h2, h3.of_block (e g rfl)⟩
theorem SRows.lt (h : SRows w v t sz R) {k : Nat} (hk : v.ownBlock = some k) : k < w.heap.size := by
  rcases h with ⟨rfl, _⟩ | ⟨g, cap, rfl, h1, h2, h3⟩
  · simp [Value.ownBlock] at hk
  · simp [Value.ownBlock] at hk
    subst hk
    exact h3.lt
theorem SRows.kept {F : Nat → Prop} (h : SRows w v t sz R) (k : Kept F w w') (hb : ∀ g, v.ownBlock = some g → ¬ F g) : SRows w' v t sz R :=
  h.of_block fun g hg => k.block g (h.lt hg) (hb g hg)
theorem SRows.rowlen (h : SRows w v t sz R) : ∀ r ∈ R, r.length = sz := by
  rcases h with ⟨_, rfl⟩ | ⟨g, cap, _, _, _, cur, _, _, _, h4, _⟩
  · simp
  · exact h4
theorem SRows.own (h : SRows w v t sz R) (hsz : 0 < sz) : w.ownsRow 0 t sz v R.length R.flatten := by
  refine ⟨length_flat R h.rowlen, ?_⟩
  rcases h with ⟨rfl, rfl⟩ | ⟨g, cap, rfl, h1, h2, cur, c1, c2, c3, c4, c5⟩
  · exact .inl ⟨rfl, rfl⟩
  · refine .inr ⟨g, cap, cur, rfl, Nat.zero_le _, c1, h1, h2, c2, ?_⟩
    apply List.ext_getElem?
    intro k
    rw [List.getElem?_take, flatten_at hsz R c4 k]
    split
    · rename_i hk
      have hd : k / sz < R.length := (Nat.div_lt_iff_lt_mul hsz).2 hk
      have hm : k % sz < sz := Nat.mod_lt _ hsz
      have hr := List.getElem?_eq_getElem hd
      rw [hr]
      have hl : (R[k / sz]).length = sz := c4 _ (List.getElem_mem hd)
      have := c5 (k / sz) _ hr (k % sz) (R[k / sz])[k % sz] (by rw [List.getElem?_eq_getElem])
      rw [Nat.div_add_mod' k sz] at this
      simp only [Option.bind_some]
      rw [Array.getElem?_toList, this]
      exact (List.getElem?_eq_getElem (by omega)).symm
    · rename_i hk
      have hd : ¬ k / sz < R.length := fun h => hk ((Nat.div_lt_iff_lt_mul hsz).1 h)
      rw [List.getElem?_eq_none (by omega)]
      rfl
theorem srows_of_own {B n : Nat} {xs : List Value} (h : w.ownsRow B t sz v n xs) (hx : xs = R.flatten) (hR : ∀ r ∈ R, r.length = sz) (hsz : 0 < sz) (hn : R.length = n) : SRows w v t sz R := by
  subst hx hn
  rcases h.2 with ⟨rfl, h0⟩ | ⟨g, cap, cur, rfl, _, c1, h1, h2, c2, c3⟩
  · exact .inl ⟨rfl, List.eq_nil_of_length_eq_zero h0⟩
  · refine .inr ⟨g, cap, rfl, h1, h2, cur, c1, c2, Nat.mul_le_mul_right _ h1, hR, ?_⟩
    intro i r hr j u hu
    have hi : i < R.length := (List.getElem?_eq_some_iff.1 hr).1
    have hj : j < sz := by
      have := hR r (List.mem_of_getElem? hr)
      have := (List.getElem?_eq_some_iff.1 hu).1
      omega
    have hk : i * sz + j < R.length * sz := by
      have : (i + 1) * sz ≤ R.length * sz := Nat.mul_le_mul_right _ hi
      rw [Nat.add_mul] at this
      omega
    have e := congrArg (·[i * sz + j]?) c3
    simp only [List.getElem?_take] at e
    rw [if_pos hk, Array.getElem?_toList, flatten_at hsz R hR] at e
    have d1 : (i * sz + j) / sz = i := by rw [Nat.mul_comm, Nat.mul_add_div hsz, Nat.div_eq_of_lt hj]; rfl
    have d2 : (i * sz + j) % sz = j := by rw [Nat.mul_comm, Nat.mul_add_mod, Nat.mod_eq_of_lt hj]
    rw [d1, d2, hr] at e
    rw [e]
    exact hu
end

/-- The bytes of a text as cells. -/
def cellsS (s : ByteArray) : List Value := s.data.toList.map fun b => .int .u8 b.toNat
theorem cellsS_len (s : ByteArray) : (cellsS s).length = s.size := by simp [cellsS]
theorem run_copy_str {P : Program} (w : World) (dT sT ty elem : TypeId) (b o n cap : Nat) (s : ByteArray) (hs : s.size = n)
    (hu : P.underlying dT = some (.slice elem)) (hsz : (P.info? elem).map (·.size) = some 1) (ht : w.there b o n) :
    (Builtin.copy_ #[dT, sT] ty #[.slice (some ⟨b, o, none⟩) n cap, .string s]).run P w = .ok (goInt n) (w.setCells b o (cellsS s)) := by
  have hl := cellsS_len s
  have hst := run_storeCells_cells (P := P) b o (cellsS s) 0 w (fun j hj => by simpa using (ht j (by omega)).1) (fun j hj => by simpa using (ht j (by omega)).2) (fun v hv => by
    simp only [cellsS, List.mem_map] at hv
    obtain ⟨x, _, rfl⟩ := hv
    rfl)
  simp only [Nat.add_zero] at hst
  cases hq : P.info? elem with
  | none => simp [hq] at hsz
  | some i =>
    subst hs
    simp [Builtin.copy_, run_underlying hu, Builtin.lenOf, Builtin.firstCells, sizeOf, typeInfo, hq]
    rw [show (List.map (fun b : UInt8 => Value.int IntKind.u8 (b.toNat : Int)) s.data.toList) = cellsS s from rfl, List.take_of_length_le (by omega), hst]
    rfl
theorem wpList_copy_str {P : Program} {ops : Array Oper} {rest : List Oper} {op : Oper} {a : Act} {w : World} {Q : Exit → Act → World → Prop} (hgd : op.guard = none) (d x : Operand) (dT sT elem : TypeId)
    (ho : op.op = .call { callee := .builtin .copy, args := #[d, x], argTypes := #[dT, sT] }) (b o n cap : Nat) (s : ByteArray) (hd : a.eval d = .slice (some ⟨b, o, none⟩) n cap) (hx : a.eval x = .string s) (hs : s.size = n)
    (hu : P.underlying dT = some (.slice elem)) (hsz : (P.info? elem).map (·.size) = some 1) (ht : w.there b o n)
    (h : wpList P ops Q rest (a.put op.dst (goInt n)) (w.setCells b o (cellsS s))) : wpList P ops Q (op :: rest) a w := by
  refine wpList_plain hgd fun K hK => ?_
  have hr := run_copy_str (P := P) w dT sT op.type elem b o n cap s hs hu hsz ht
  unfold Oper.wp execOp
  simp only [ho, resolve, invoke, builtin, Sem.run_bind, Sem.run_pure, Result.andThen_ok, List.map_toArray, List.map_cons, List.map_nil, hd, hx, hr]
  exact hK _ _ h
theorem step_copy_str {P : Program} {ops : Array Oper} {op : Oper} {a : Act} {w : World} {K : Act → World → Prop} {Q : Exit → Act → World → Prop} {E : Prop} (hgd : op.guard = none) (d x : Operand) (dT sT elem : TypeId)
    (ho : op.op = .call { callee := .builtin .copy, args := #[d, x], argTypes := #[dT, sT] }) (b o n cap : Nat) (s : ByteArray) (hd : a.eval d = .slice (some ⟨b, o, none⟩) n cap) (hx : a.eval x = .string s) (hs : s.size = n)
    (hu : P.underlying dT = some (.slice elem)) (hsz : (P.info? elem).map (·.size) = some 1) (ht : w.there b o n)
    (h : K (a.put op.dst (goInt n)) (w.setCells b o (cellsS s))) : if Region.wanted op (yielded ops a.tmps) = true then Oper.wp P op a w K Q else E := by
  have hw : Region.wanted op (yielded ops a.tmps) = true := by simp [Region.wanted, hgd]
  rw [if_pos hw]
  have hr := run_copy_str (P := P) w dT sT op.type elem b o n cap s hs hu hsz ht
  unfold Oper.wp execOp
  simp only [ho, resolve, invoke, builtin, Sem.run_bind, Sem.run_pure, Result.andThen_ok, List.map_toArray, List.map_cons, List.map_nil, hd, hx, hr]
  exact h
end Go.Proofs.YthcjjcfiademnaaDoor
/-
  A device in memory, and the contracts of its small methods: Size, given, has, fits, Off, Fuse, goesOn, Read.
-/
namespace Go.Proofs.YthcjjcfiademnaaDoor
open Go.RowKit

def bcells (l : List UInt8) : List Value := l.map fun b => .int .u8 b.toNat
def wcells (x : Nat × List UInt8) : List Value := .int .i64 x.1 :: bcells x.2
theorem bcells_len (l : List UInt8) : (bcells l).length = l.length := by simp [bcells]
theorem bcells_one (l : List UInt8) : ∀ v ∈ bcells l, v.oneCell' = true := by
  intro v hv
  simp only [bcells, List.mem_map] at hv
  obtain ⟨x, _, rfl⟩ := hv
  rfl
theorem wcells_one (x : Nat × List UInt8) : ∀ v ∈ wcells x, v.oneCell' = true := by
  intro v hv
  rcases List.mem_cons.1 hv with rfl | hv
  · rfl
  · exact bcells_one _ v hv

structure Hnd where
  p : Nat
  bs : Nat
  bn : Nat
  wv : Value
def Hnd.foot (H : Hnd) (k : Nat) : Prop := k = H.p ∨ k = H.bs ∨ k = H.bn ∨ H.wv.ownBlock = some k

structure DevIs (w : World) (H : Hnd) (s : St) : Prop where
  dev : w.heap[H.p]? = some (.cells #[.slice (some ⟨H.bs, 0, none⟩) s.sure.length s.sure.length, .slice (some ⟨H.bn, 0, none⟩) s.sure.length s.sure.length, H.wv, .int .i64 s.fuse, .bool s.off] 42 (0, 0))
  sure : Rows w H.bs 51 (s.sure.length * 128) 128 (s.sure.map bcells)
  seen : Rows w H.bn 51 (s.sure.length * 128) 128 ((lay s.sure s.wait).map bcells)
  wait : SRows w H.wv 53 129 (s.wait.map wcells)
  d1 : H.p ≠ H.bs
  d2 : H.p ≠ H.bn
  d3 : H.bs ≠ H.bn
  d4 : ∀ k, H.wv.ownBlock = some k → k ≠ H.p ∧ k ≠ H.bs ∧ k ≠ H.bn
  pos : 1 ≤ s.sure.length
  top : s.sure.length ≤ 4096
  ats : ∀ x ∈ s.wait, x.1 < s.sure.length ∧ x.2.length = 128
  blk : ∀ b ∈ s.sure, b.length = 128
  fz : -9223372036854775808 ≤ s.fuse ∧ s.fuse < 9223372036854775808
  few : s.wait.length ≤ 1000000
section
variable {w w' : World} {H : Hnd} {s : St}
theorem DevIs.cell (D : DevIs w H s) (k : Nat) : w.cell? ⟨H.p, k, none⟩ = (#[Value.slice (some ⟨H.bs, 0, none⟩) s.sure.length s.sure.length, .slice (some ⟨H.bn, 0, none⟩) s.sure.length s.sure.length, H.wv, .int .i64 s.fuse, .bool s.off])[k]? :=
  cell_of_row w H.p k _ _ _ D.dev
theorem DevIs.c0 (D : DevIs w H s) : w.cell? ⟨H.p, 0, none⟩ = some (.slice (some ⟨H.bs, 0, none⟩) s.sure.length s.sure.length) := D.cell 0
theorem DevIs.c1 (D : DevIs w H s) : w.cell? ⟨H.p, 1, none⟩ = some (.slice (some ⟨H.bn, 0, none⟩) s.sure.length s.sure.length) := D.cell 1
theorem DevIs.c2 (D : DevIs w H s) : w.cell? ⟨H.p, 2, none⟩ = some H.wv := D.cell 2
theorem DevIs.c3 (D : DevIs w H s) : w.cell? ⟨H.p, 3, none⟩ = some (.int .i64 s.fuse) := D.cell 3
theorem DevIs.c4 (D : DevIs w H s) : w.cell? ⟨H.p, 4, none⟩ = some (.bool s.off) := D.cell 4
theorem DevIs.fr (D : DevIs w H s) (k : Nat) : w.frozen? ⟨H.p, k, none⟩ = false := frozen_of_row w H.p k _ _ D.dev
theorem DevIs.lt (D : DevIs w H s) {k : Nat} (hk : H.foot k) : k < w.heap.size := by
  rcases hk with rfl | rfl | rfl | hk
  · exact (Array.getElem?_eq_some_iff.1 D.dev).1
  · exact D.sure.lt
  · exact D.seen.lt
  · exact D.wait.lt hk
/-- What leaves the device's blocks as they were leaves the device. -/
theorem DevIs.kept {F : Nat → Prop} (D : DevIs w H s) (k : Kept F w w') (hF : ∀ x, H.foot x → ¬ F x) : DevIs w' H s :=
  { D with
    dev := by rw [k.block H.p (D.lt (.inl rfl)) (hF _ (.inl rfl))]; exact D.dev
    sure := D.sure.kept k (hF _ (.inr (.inl rfl)))
    seen := D.seen.kept k (hF _ (.inr (.inr (.inl rfl))))
    wait := D.wait.kept k fun g hg => hF _ (.inr (.inr (.inr hg))) }
theorem DevIs.below (D : DevIs w H s) (b : Below w.heap.size w w') : DevIs w' H s := D.kept (kept_of_below (fun _ => False) b) (fun _ _ h => h)
theorem DevIs.drewN (D : DevIs w H s) (n : Nat) : DevIs (w.drewN n) H s := D.kept ((Kept.refl (fun _ => False) w).drewN n) (fun _ _ h => h)
end

/-- The same device behind a call that turned it. -/
structure Turned (H H' : Hnd) (w w' : World) : Prop where
  p : H'.p = H.p
  kept : Kept H.foot w w'
  foot : ∀ k, H'.foot k → H.foot k ∨ w.heap.size ≤ k
theorem Turned.refl (H : Hnd) (w : World) : Turned H H w w := ⟨rfl, Kept.refl _ _, fun _ h => .inl h⟩
theorem Turned.trans {H H' H'' : Hnd} {a b c : World} (h : Turned H H' a b) (k : Turned H' H'' b c) : Turned H H'' a c :=
  ⟨k.p.trans h.p, h.kept.trans k.kept h.foot, fun x hx => by
    rcases k.foot x hx with h1 | h1
    · exact h.foot x h1
    · exact .inr (Nat.le_trans h.kept.size h1)⟩
theorem Turned.of_below {H H' : Hnd} {a b c : World} (h : Turned H H' a b) (k : Below b.heap.size b c) : Turned H H' a c :=
  ⟨h.p, h.kept.trans (kept_of_below (fun _ => False) k) (fun _ h => h.elim), h.foot⟩
theorem Turned.below {H H' : Hnd} {w w' : World} {B : Nat} (h : Turned H H' w w') (hF : ∀ k, H.foot k → B ≤ k) (hB : B ≤ w.heap.size) : Below B w w' := h.kept.below hF hB
theorem Turned.above {H H' : Hnd} {w w' : World} {B : Nat} (h : Turned H H' w w') (hF : ∀ k, H.foot k → B ≤ k) (hB : B ≤ w.heap.size) : ∀ k, H'.foot k → B ≤ k := fun k hk => by
  rcases h.foot k hk with h1 | h1
  · exact hF k h1
  · omega

/-! ### Size, given, has, fits -/
theorem size_some (p : Nat) (a : Option Addr) (n c : Nat) (w : World) (hc : w.cell? ⟨p, 0, none⟩ = some (.slice a n c)) :
    Calls Tryd.prog 28 #[.pointer (some ⟨p, 0, none⟩)] w fun e w' => e = .returned (.int .i64 n) ∧ w' = w := by
  go_enter Tryd.func28, Tryd.ntmps28
  go_wp2
  go_ret
  exact ⟨rfl, rfl⟩
theorem size_nil (w : World) :
    Calls Tryd.prog 28 #[.pointer none] w fun e w' => e = .returned (.int .i64 0) ∧ w' = w := by
  go_enter Tryd.func28, Tryd.ntmps28
  go_wp2
  go_ret
  exact ⟨rfl, rfl⟩
/-- The methods' answers hang on the size alone. -/
def SizeIs (d : Value) (n : Nat) (w : World) : Prop := ∀ w', w'.heap = w.heap → Calls Tryd.prog 28 #[d] w' fun e w'' => e = .returned (.int .i64 n) ∧ w'' = w'
theorem sizeIs_nil (w : World) : SizeIs (.pointer none) 0 w := fun w' _ => size_nil w'
theorem sizeIs_some (p : Nat) (a : Option Addr) (n c : Nat) (w : World) (hc : w.cell? ⟨p, 0, none⟩ = some (.slice a n c)) : SizeIs (.pointer (some ⟨p, 0, none⟩)) n w :=
  fun w' h => size_some p a n c w' (by rw [← hc]; simp [World.cell?, h])
theorem given_any (d : Value) (n : Nat) (w : World) (hs : SizeIs d n w) :
    Calls Tryd.prog 13 #[d] w fun e w' => e = .returned (.bool (decide (0 < n))) ∧ w' = w := by
  have c := hs w rfl
  go_enter Tryd.func13, Tryd.ntmps13
  go_wp2_with (go_at_call 28; refine c.mono ?_; rintro e w1 ⟨rfl, hw1⟩; subst hw1)
  go_ret
  simp
theorem has_any (d : Value) (n : Nat) (at_ : Int) (w : World) (hs : SizeIs d n w) :
    Calls Tryd.prog 47 #[d, .int .i64 at_] w fun e w' => e = .returned (.bool (decide (0 ≤ at_ ∧ at_ < n))) ∧ w' = w := by
  have c := hs w rfl
  by_cases h : 0 ≤ at_
  · go_enter Tryd.func47, Tryd.ntmps47
    go_wp2_with (go_at_call 28; refine c.mono ?_; rintro e w1 ⟨rfl, hw1⟩; subst hw1)
    go_ret
    simp [h]
  · go_enter Tryd.func47, Tryd.ntmps47
    go_wp2_with (go_at_call 28; refine c.mono ?_; rintro e w1 ⟨rfl, hw1⟩; subst hw1)
    go_ret
    simp
    omega
theorem fits_any (d : Value) (n : Nat) (at_ : Int) (str : ByteArray) (w : World) (hs : SizeIs d n w) :
    Calls Tryd.prog 43 #[d, .int .i64 at_, .string str] w fun e w' => e = .returned (.bool (decide ((0 ≤ at_ ∧ at_ < n) ∧ str.size = 128))) ∧ w' = w := by
  have c := has_any d n at_ w hs
  have e8 : ((str.size : Int) == 128) = decide (str.size = 128) := by rw [Bool.eq_iff_iff]; simp; omega
  by_cases h : 0 ≤ at_ ∧ at_ < n
  · have hd : decide (0 ≤ at_ ∧ at_ < n) = true := by simp [h]
    rw [hd] at c
    go_enter Tryd.func43, Tryd.ntmps43
    go_wp2_with (go_at_call 47; refine c.mono ?_; rintro e w1 ⟨rfl, hw1⟩; subst hw1)
    go_ret
    simp [h]
  · have hd : decide (0 ≤ at_ ∧ at_ < n) = false := by simpa using h
    rw [hd] at c
    go_enter Tryd.func43, Tryd.ntmps43
    go_wp2_with (go_at_call 47; refine c.mono ?_; rintro e w1 ⟨rfl, hw1⟩; subst hw1)
    go_ret
    simp [h]
theorem DevIs.size {w : World} {H : Hnd} {s : St} (D : DevIs w H s) : SizeIs (.pointer (some ⟨H.p, 0, none⟩)) s.sure.length w := sizeIs_some _ _ _ _ _ D.c0
end Go.Proofs.YthcjjcfiademnaaDoor
/-
  The contracts of a device's methods Off, Fuse, Read, of goesOn, and of law 4's filled.
-/
namespace Go.Proofs.YthcjjcfiademnaaDoor
open Go.RowKit

section
variable {w w' : World} {H : Hnd} {s : St}
theorem DevIs.setF (D : DevIs w H s) (f : Int) (hf : -9223372036854775808 ≤ f ∧ f < 9223372036854775808) : DevIs (w.setCell ⟨H.p, 3, none⟩ (.int .i64 f)) H { s with fuse := f } :=
  { dev := by
      have := heap_setCell_same w H.p 3 _ _ (.int .i64 f) D.dev
      exact this
    sure := D.sure.of_block (heap_setCell_other w _ _ _ (fun e => D.d1 e.symm))
    seen := D.seen.of_block (heap_setCell_other w _ _ _ (fun e => D.d2 e.symm))
    wait := D.wait.of_block (fun k hk => heap_setCell_other w _ _ _ (D.d4 k hk).1)
    d1 := D.d1, d2 := D.d2, d3 := D.d3, d4 := D.d4, pos := D.pos, top := D.top, ats := D.ats, blk := D.blk, fz := hf, few := D.few }
theorem DevIs.setO (D : DevIs w H s) (b : Bool) : DevIs (w.setCell ⟨H.p, 4, none⟩ (.bool b)) H { s with off := b } :=
  { dev := by
      have := heap_setCell_same w H.p 4 _ _ (.bool b) D.dev
      exact this
    sure := D.sure.of_block (heap_setCell_other w _ _ _ (fun e => D.d1 e.symm))
    seen := D.seen.of_block (heap_setCell_other w _ _ _ (fun e => D.d2 e.symm))
    wait := D.wait.of_block (fun k hk => heap_setCell_other w _ _ _ (D.d4 k hk).1)
    d1 := D.d1, d2 := D.d2, d3 := D.d3, d4 := D.d4, pos := D.pos, top := D.top, ats := D.ats, blk := D.blk, fz := D.fz, few := D.few }
theorem turned_set (H : Hnd) (w : World) (k : Nat) (v : Value) : Turned H H w (w.setCell ⟨H.p, k, none⟩ v) :=
  ⟨rfl, (Kept.refl _ _).setCell (.inl (.inl rfl)) v, fun _ h => .inl h⟩
end

theorem fuse_any {w : World} {H : Hnd} {s : St} (D : DevIs w H s) (n : Int) (hn : -9223372036854775808 ≤ n ∧ n < 9223372036854775808) :
    Calls Tryd.prog 7 #[.pointer (some ⟨H.p, 0, none⟩), .int .i64 n] w fun e w' => e = .returned (.int .i64 0) ∧ DevIs w' H { s with fuse := n } ∧ Turned H H w w' := by
  have c := given_any _ _ w D.size
  have hp := D.pos
  have hd : decide (0 < s.sure.length) = true := by simp; omega
  rw [hd] at c
  have h3 := D.c3
  have hf := D.fr 3
  have D' := D.setF n hn
  have T := turned_set H w 3 (.int .i64 n)
  go_enter Tryd.func7, Tryd.ntmps7
  go_wp2_with (go_at_call 13; refine c.mono ?_; rintro e w1 ⟨rfl, hw1⟩; replace hw1 := hw1.symm; subst hw1)
  go_ret
  exact ⟨rfl, D', T⟩
theorem fuse_none (d : Value) (n : Int) (w : World) (hs : SizeIs d 0 w) :
    Calls Tryd.prog 7 #[d, .int .i64 n] w fun e w' => e = .returned (.int .i64 1) ∧ w' = w := by
  have c := given_any d 0 w hs
  have hd : decide (0 < 0) = false := by simp
  rw [hd] at c
  go_enter Tryd.func7, Tryd.ntmps7
  go_wp2_with (go_at_call 13; refine c.mono ?_; rintro e w1 ⟨rfl, hw1⟩; replace hw1 := hw1.symm; subst hw1)
  go_ret
  exact ⟨rfl, rfl⟩

set_option maxHeartbeats 1000000 in
theorem goesOn_any {w : World} {H : Hnd} {s : St} (D : DevIs w H s) :
    Calls Tryd.prog 44 #[.pointer (some ⟨H.p, 0, none⟩)] w fun e w' => e = .returned (.bool s.goes) ∧ DevIs w' H s.burnt ∧ Turned H H w w' := by
  have h3 := D.c3
  have h4 := D.c4
  have f3 := D.fr 3
  have f4 := D.fr 4
  have HZ : Hid (-9223372036854775808 ≤ s.fuse ∧ s.fuse < 9223372036854775808) := D.fz
  obtain ⟨sure, wait, f, o⟩ := s
  simp only at h3 h4 HZ
  cases o with
  | true =>
    have D' : DevIs w H (St.burnt ⟨sure, wait, f, true⟩) := by simpa [St.burnt] using D
    clear D
    go_enter Tryd.func44, Tryd.ntmps44
    go_wp2
    go_ret
    exact ⟨rfl, D', Turned.refl _ _⟩
  | false =>
    by_cases h0 : f = 0
    · subst h0
      have D' : DevIs ((w.setCell ⟨H.p, 4, none⟩ (.bool true)).setCell ⟨H.p, 3, none⟩ (.int .i64 (-1))) H (St.burnt ⟨sure, wait, 0, false⟩) := by
        have := (D.setO true).setF (-1) (by omega)
        simpa [St.burnt] using this
      have T := (turned_set H w 4 (.bool true)).trans (turned_set H _ 3 (.int .i64 (-1)))
      have hD : Hid (DevIs w H ⟨sure, wait, 0, false⟩) := D
      clear D
      go_enter Tryd.func44, Tryd.ntmps44
      go_wp2
      go_ret
      exact ⟨rfl, D', T⟩
    · have hb0 : (f == 0) = false := by simpa using h0
      by_cases hp : 0 < f
      · have hz := HZ.out
        have D' : DevIs (w.setCell ⟨H.p, 3, none⟩ (.int .i64 (f - 1))) H (St.burnt ⟨sure, wait, f, false⟩) := by
          have := D.setF (f - 1) (by omega)
          simpa [St.burnt, h0, hp, hb0] using this
        have T := turned_set H w 3 (.int .i64 (f - 1))
        have hg : St.goes ⟨sure, wait, f, false⟩ = true := by simp [St.goes, h0]
        have r1 : wrap64 (f - 1) = f - 1 := by unfold wrap64; omega
        rw [hg]
        clear D hz
        go_enter Tryd.func44, Tryd.ntmps44
        go_wp2
        go_ret
        exact ⟨rfl, D', T⟩
      · have D' : DevIs w H (St.burnt ⟨sure, wait, f, false⟩) := by
          simpa [St.burnt, h0, hp, hb0] using D
        have hg : St.goes ⟨sure, wait, f, false⟩ = true := by simp [St.goes, h0]
        rw [hg]
        clear D
        go_enter Tryd.func44, Tryd.ntmps44
        go_wp2
        go_ret
        exact ⟨rfl, D', Turned.refl _ _⟩

/-! ### Read -/
theorem read_bad (d : Value) (n : Nat) (at_ : Int) (w : World) (hs : SizeIs d n w) (h : ¬ (0 ≤ at_ ∧ at_ < n)) :
    Calls Tryd.prog 32 #[d, .int .i64 at_] w fun e w' => e = .returned (.tuple #[.string { data := #[] }, .int .i64 1]) ∧ w' = w := by
  have c := has_any d n at_ w hs
  have hd : decide (0 ≤ at_ ∧ at_ < (n : Int)) = false := by simpa using h
  rw [hd] at c
  clear h
  go_enter Tryd.func32, Tryd.ntmps32
  go_wp2_with (go_at_call 47; refine c.mono ?_; rintro e w1 ⟨rfl, hw1⟩; replace hw1 := hw1.symm; subst hw1)
  go_ret2
  exact ⟨rfl, rfl⟩
theorem read_off {w : World} {H : Hnd} {s : St} (D : DevIs w H s) (k : Nat) (hk : k < s.sure.length) (ho : s.off = true) :
    Calls Tryd.prog 32 #[.pointer (some ⟨H.p, 0, none⟩), .int .i64 k] w fun e w' => e = .returned (.tuple #[.string { data := #[] }, .int .i64 40]) ∧ w' = w := by
  have c := has_any _ _ (k : Int) w D.size
  have hd : decide (0 ≤ (k : Int) ∧ (k : Int) < (s.sure.length : Int)) = true := by simp; omega
  rw [hd] at c
  have h4 := D.c4
  rw [ho] at h4
  go_enter Tryd.func32, Tryd.ntmps32
  go_wp2_with (go_at_call 47; refine c.mono ?_; rintro e w1 ⟨rfl, hw1⟩; replace hw1 := hw1.symm; subst hw1)
  go_ret2
  exact ⟨rfl, rfl⟩
theorem text_of {w : World} {b o : Nat} {l : List UInt8} (h : w.rangeAt b o (bcells l)) (cap : Nat) :
    (convert 62 9 (.slice (some ⟨b, o, none⟩) l.length cap)).run Tryd.prog w = .ok (.string (strB l)) w := by
  refine run_convert_bytes_back w _ _ 5 _ cap l Tryd.underlying62 Tryd.underlying5 Tryd.underlying9 ?_
  intro j hj
  rw [Addr.add_mid, h j (.int .u8 (l[j].toNat : Int)) (by simp [bcells, hj])]
theorem read_on {w : World} {H : Hnd} {s : St} (D : DevIs w H s) (k : Nat) (l : List UInt8) (hl : (lay s.sure s.wait)[k]? = some l) (ho : s.off = false) :
    Calls Tryd.prog 32 #[.pointer (some ⟨H.p, 0, none⟩), .int .i64 k] w fun e w' => e = .returned (.tuple #[.string (strB l), .int .i64 0]) ∧ w' = w := by
  have hk : k < s.sure.length := by
    have := (List.getElem?_eq_some_iff.1 hl).1
    rwa [lay_len] at this
  have c := has_any _ _ (k : Int) w D.size
  have hd : decide (0 ≤ (k : Int) ∧ (k : Int) < (s.sure.length : Int)) = true := by simp; omega
  rw [hd] at c
  have h4 := D.c4
  rw [ho] at h4
  have h1 := D.c1
  have h128 : l.length = 128 := lay_mem (p := fun b => b.length = 128) s.wait s.sure D.blk (fun x hx => (D.ats x hx).2) l (List.mem_of_getElem? hl)
  have ht := text_of (D.seen.range (i := k) (r := bcells l) (by rw [List.getElem?_map, hl]; rfl)) 128
  rw [h128] at ht
  have hkI : (k : Int) < (s.sure.length : Int) := by omega
  go_enter Tryd.func32, Tryd.ntmps32
  go_wp2_with (go_at_call 47; refine c.mono ?_; rintro e w1 ⟨rfl, hw1⟩; replace hw1 := hw1.symm; subst hw1)
  go_ret2
  exact ⟨rfl, rfl⟩

/-! ### filled -/
end Go.Proofs.YthcjjcfiademnaaDoor
/-
  The contract of device.New.
-/
namespace Go.Proofs.YthcjjcfiademnaaDoor
open Go.RowKit

theorem info_block : (Tryd.prog.info? 51).map (fun i => (i.zero, i.size, i.bytes)) = some (some (.agg (Array.replicate 128 (.int .u8 0))), 128, 128) := by kernel_rfl

/-- 'make([]block, n)', in whatever world. -/
theorem make_blocks (n : Nat) (hn : n ≤ 4096) : ∃ c : Array Value, c.size = n * 128 ∧ (∀ i, i < n * 128 → c[i]? = some (.int .u8 0)) ∧
    ∀ w : World, (Instr.makeSlice 39 (.int .i64 (n : Int)) (.int .i64 (n : Int))).run Tryd.prog w = .ok (.slice (some ⟨w.heap.size, 0, none⟩) n n) (w.alloc (.cells c 51)) := by
  obtain ⟨i0, hi, hz0, hz1, hz2⟩ := info_parts info_block
  refine ⟨madeCells (Array.replicate 128 (.int .u8 0)) (n * 128), size_madeCells _ _, ?_, ?_⟩
  · intro i h
    have h2 : i % 128 < 128 := Nat.mod_lt _ (by omega)
    simp [madeCells, h, h2]
  · intro w
    have hr := run_make (P := Tryd.prog) w 39 51 i0 _ Tryd.underlying39 hi hz0 .i64 .i64 n n (by omega) (Int.le_refl _) (by rw [hz2]; omega) (by omega)
    simp only [Int.toNat_natCast, hz1] at hr
    exact hr
theorem rows_new {w : World} {b n : Nat} {c : Array Value} {t : TypeId} (h : w.heap[b]? = some (.cells c t (0, 0))) (hs : c.size = n * 128) (hc : ∀ i, i < n * 128 → c[i]? = some (.int .u8 0)) :
    Rows w b t (n * 128) 128 ((List.replicate n (List.replicate 128 (0 : UInt8))).map bcells) := by
  refine ⟨c, h, hs, by simp, ?_, ?_⟩
  · intro r hr
    simp only [List.map_replicate, List.mem_replicate] at hr
    rw [hr.2]
    simp [bcells]
  · intro i r hr j v hv
    have hi : i < n := by simpa using (List.getElem?_eq_some_iff.1 hr).1
    simp only [List.map_replicate, List.getElem?_replicate, hi, if_true, Option.some.injEq] at hr
    subst hr
    have hj : j < 128 := by simpa [bcells] using (List.getElem?_eq_some_iff.1 hv).1
    simp only [bcells, List.map_replicate, List.getElem?_replicate, hj, if_true, Option.some.injEq] at hv
    rw [hc _ (by omega), ← hv]
    rfl
theorem heap3 (w : World) (A B C : Obj) : (((w.alloc A).alloc B).alloc C).heap[w.heap.size]? = some A ∧ (((w.alloc A).alloc B).alloc C).heap[w.heap.size + 1]? = some B ∧ (((w.alloc A).alloc B).alloc C).heap[w.heap.size + 1 + 1]? = some C := by
  refine ⟨?_, ?_, ?_⟩
  · rw [heap_alloc_old _ _ (by simp; omega), heap_alloc_old _ _ (by simp)]
    exact heap_alloc_new w A
  · rw [heap_alloc_old _ _ (by simp)]
    have := heap_alloc_new (w.alloc A) B
    simpa using this
  · have := heap_alloc_new ((w.alloc A).alloc B) C
    simpa using this
def St.new (n : Nat) : St := ⟨List.replicate n (List.replicate 128 0), [], -1, false⟩
theorem dev_new {w : World} {n p b1 b2 : Nat} {c : Array Value} (hn : 1 ≤ n) (hn2 : n ≤ 4096) (hs : c.size = n * 128) (hc : ∀ i, i < n * 128 → c[i]? = some (.int .u8 0))
    (hp : w.heap[p]? = some (.cells #[.slice (some ⟨b1, 0, none⟩) n n, .slice (some ⟨b2, 0, none⟩) n n, .slice none 0 0, .int .i64 (-1), .bool false] 42 (0, 0)))
    (h1 : w.heap[b1]? = some (.cells c 51 (0, 0))) (h2 : w.heap[b2]? = some (.cells c 51 (0, 0))) (d1 : p ≠ b1) (d2 : p ≠ b2) (d3 : b1 ≠ b2) : DevIs w ⟨p, b1, b2, .slice none 0 0⟩ (St.new n) :=
  { dev := by simpa [St.new] using hp
    sure := by simpa [St.new] using rows_new h1 hs hc
    seen := by simpa [St.new, lay] using rows_new h2 hs hc
    wait := srows_nil _ _ _
    d1 := d1, d2 := d2, d3 := d3
    d4 := by intro k hk; simp [Value.ownBlock] at hk
    pos := by simpa [St.new] using hn
    top := by simpa [St.new] using hn2
    ats := by intro x hx; simp [St.new] at hx
    blk := by intro b hb; simp [St.new] at hb; rw [hb.2]; simp
    fz := by show _ ≤ (-1 : Int) ∧ (-1 : Int) < _; omega
    few := by simp [St.new] }

theorem new_bad (n : Int) (h : ¬ (1 ≤ n ∧ n ≤ 4096)) (w : World) :
    Calls Tryd.prog 5 #[.int .i64 n] w fun e w' => e = .returned (.tuple #[.pointer none, .int .i64 1]) ∧ w' = w := by
  by_cases h1 : n < 1
  · clear h
    go_enter Tryd.func5, Tryd.ntmps5
    go_wp2
    go_ret2
    exact ⟨rfl, rfl⟩
  · have h2 : 4096 < n := by omega
    clear h
    go_enter Tryd.func5, Tryd.ntmps5
    go_wp2
    go_ret2
    exact ⟨rfl, rfl⟩

set_option maxHeartbeats 1000000 in
theorem new_any (n : Nat) (h1 : 1 ≤ n) (h2 : n ≤ 4096) (w : World) :
    Calls Tryd.prog 5 #[.int .i64 (n : Int)] w fun e w' => ∃ H : Hnd, e = .returned (.tuple #[.pointer (some ⟨H.p, 0, none⟩), .int .i64 0]) ∧ DevIs w' H (St.new n) ∧ Below w.heap.size w w' ∧ ∀ k, H.foot k → w.heap.size ≤ k := by
  obtain ⟨c, hs, hc, hm⟩ := make_blocks n h2
  have g1 : ¬ (n : Int) < 1 := by omega
  have g2 : ¬ 4096 < (n : Int) := by omega
  have HS : Hid (c.size = n * 128) := hs
  have HC : Hid (∀ i, i < n * 128 → c[i]? = some (.int .u8 0)) := hc
  have H1 : Hid (1 ≤ n) := h1
  have H2 : Hid (n ≤ 4096) := h2
  clear hs hc h1 h2
  go_enter Tryd.func5, Tryd.ntmps5
  go_wp2
  go_region
  all_goals go_wp2
  all_goals go_ret2
  · refine ⟨⟨w.heap.size + 1 + 1, w.heap.size, w.heap.size + 1, .slice none 0 0⟩, rfl, dev_new H1.out H2.out HS.out HC.out (heap3 w _ _ _).2.2 (heap3 w _ _ _).1 (heap3 w _ _ _).2.1 (by omega) (by omega) (by omega), ?_, ?_⟩
    · exact ((((Below.refl _ w).alloc (Nat.le_refl _) _).alloc (by simp) _).alloc (by simp; omega) _).drew
    · intro k hk
      rcases hk with rfl | rfl | rfl | hk
      · simp only; omega
      · simp only; omega
      · simp only; omega
      · simp [Value.ownBlock] at hk
  · refine ⟨⟨w.heap.size + 1 + 1, w.heap.size + 1, w.heap.size, .slice none 0 0⟩, rfl, dev_new H1.out H2.out HS.out HC.out (heap3 w _ _ _).2.2 (heap3 w _ _ _).2.1 (heap3 w _ _ _).1 (by omega) (by omega) (by omega), ?_, ?_⟩
    · exact ((((Below.refl _ w).alloc (Nat.le_refl _) _).alloc (by simp) _).alloc (by simp; omega) _).drew
    · intro k hk
      rcases hk with rfl | rfl | rfl | hk
      · simp only; omega
      · simp only; omega
      · simp only; omega
      · simp [Value.ownBlock] at hk
end Go.Proofs.YthcjjcfiademnaaDoor
/-
  The contract of a device's Write.
-/
namespace Go.Proofs.YthcjjcfiademnaaDoor
open Go.RowKit

theorem info_write : (Tryd.prog.info? 53).map (fun i => (i.zero, i.size, i.bytes)) = some (some (.agg (#[.int .i64 0] ++ Array.replicate 128 (.int .u8 0))), 129, 136) := by kernel_rfl
theorem size_block : (Tryd.prog.info? 51).map (·.size) = some 128 := by kernel_rfl
theorem size_write : (Tryd.prog.info? 53).map (·.size) = some 129 := by kernel_rfl
theorem size_byte : (Tryd.prog.info? 5).map (·.size) = some 1 := by kernel_rfl

theorem fill_one (off : Nat) : ∀ (vs : List Value) (k : Nat) (cs : Array Value), off + k + vs.length ≤ cs.size →
    ((vs.zipIdx k).foldl (fun (cs : Array Value) (x : Value × Nat) => cs.setIfInBounds (off + x.2) x.1) cs).toList = cs.toList.take (off + k) ++ vs ++ cs.toList.drop (off + k + vs.length)
  | [], k, cs, _ => by simp
  | v :: r, k, cs, h => by
    simp only [List.length_cons] at h
    rw [List.zipIdx_cons, List.foldl_cons, fill_one off r (k + 1) _ (by simp; omega)]
    simp only [Array.toList_setIfInBounds]
    have hl : off + k < cs.toList.length := by simp; omega
    rw [List.take_set, List.drop_set, if_pos (by omega)]
    have e1 : off + (k + 1) = off + k + 1 := by omega
    have e2 : off + (k + 1) + r.length = off + k + (v :: r).length := by simp; omega
    rw [e2, e1]
    have e3 : (cs.toList.take (off + k + 1)).set (off + k) v = cs.toList.take (off + k) ++ [v] := by
      rw [List.take_add_one, List.set_append_right _ _ (by simp; omega)]
      have : (cs.toList.take (off + k)).length = off + k := by simp; omega
      rw [this, Nat.sub_self, List.getElem?_eq_getElem hl]
      simp
    rw [e3]
    simp
def wr (v : Value) (c : Array Value) : Array Value := (v :: c.toList).toArray
theorem info_int : (Tryd.prog.info? 3).map (fun i => (i.zero, i.size, i.bytes)) = some (some (.int .i64 0), 1, 8) := by kernel_rfl
theorem fill_step (place : Nat → Option (Nat × Nat)) (X : Array Value) (i off size : Nat) (v : Value) (rest : List (Nat × Value)) (hp : place i = some (off, size)) (h1 : v.cells.size = size) (h2 : off + size ≤ X.size) :
    Instr.fill place X ((i, v) :: rest) = Instr.fill place (X.toList.take off ++ v.cells.toList ++ X.toList.drop (off + size)).toArray rest := by
  have e := fill_one off v.cells.toList 0 X (by simp; omega)
  have e2 : (v.cells.zipIdx.foldl (fun (cs : Array Value) (x : Value × Nat) => cs.setIfInBounds (off + x.2) x.1) X) = (X.toList.take off ++ v.cells.toList ++ X.toList.drop (off + size)).toArray := by
    apply Array.ext'
    rw [← Array.foldl_toList, Array.toList_zipIdx, e]
    simp [h1]
  have h3 : ¬ off + v.cells.size > X.size := by omega
  simp only [Instr.fill, hp, h1, ne_eq, not_true_eq_false, decide_false, Bool.false_or, decide_eq_true_eq]
  rw [if_neg (by omega)]
  congr 1
theorem cells_agg (c : Array Value) : (Value.agg c).cells = c := rfl
set_option maxRecDepth 4000 in
/-- 'write{at, bytes}'. -/
theorem build_write (v u : Value) (hv : v.cells = #[v]) (hu : u.cells.size = 128) (w : World) : (Instr.build 53 #[(0, v), (1, u)]).run Tryd.prog w = .ok (.agg (wr v u.cells)) w := by
  obtain ⟨i0, hi, hz0, hz1, hz2⟩ := info_parts info_write
  obtain ⟨i1, hj, hw0, hw1, hw2⟩ := info_parts info_int
  obtain ⟨i2, hk, hx0, hx1, hx2⟩ := info_parts info_block
  obtain ⟨Z, hZ⟩ : ∃ Z : Array Value, Z = #[Value.int .i64 0] ++ Array.replicate 128 (.int .u8 0) := ⟨_, rfl⟩
  have hZs : Z.size = 129 := by rw [hZ]; simp
  have hf : ∀ place : Nat → Option (Nat × Nat), place 0 = some (0, 1) → place 1 = some (1, 128) → Instr.fill place Z [(0, v), (1, u)] = some (wr v u.cells) := by
    intro place h0 h1
    rw [fill_step place Z 0 0 1 v _ h0 (by rw [hv]; rfl) (by omega), fill_step place _ 1 1 128 u _ h1 hu (by simp [hv]; omega), Instr.fill]
    congr 1
    apply Array.ext'
    have : (List.drop (1 + 128) (List.take 0 Z.toList ++ v.cells.toList ++ List.drop (0 + 1) Z.toList)) = [] := by
      apply List.drop_eq_nil_of_le
      simp [hv]
      omega
    show _ ++ _ ++ _ = _
    rw [this]
    simp [hv, wr]
  rw [← hZ] at hz0
  simp [Instr.build, zeroValue, typeInfo, hi, hz0, run_underlying Tryd.underlying53, sizeOf, hj, hk, hw1, hx1, cells_agg]
  rw [hf _ (by rfl) (by rfl)]
  rfl
set_option maxRecDepth 4000 in
/-- '[]write{x}'. -/
theorem slice_write (v : Value) (hl : v.cells.size = 129) (w : World) : (Instr.buildSlice 40 1 #[(0, v)]).run Tryd.prog w = .ok (.slice (some ⟨w.heap.size, 0, none⟩) 1 1) (w.alloc (.cells v.cells 53)) := by
  obtain ⟨i0, hi, hz0, hz1, hz2⟩ := info_parts info_write
  have hf : ∀ (place : Nat → Option (Nat × Nat)) (Z : Array Value), Z.size = 129 → place 0 = some (0, 129) → Instr.fill place Z [(0, v)] = some v.cells := by
    intro place Z hZ h0
    rw [fill_step place Z 0 0 129 v _ h0 hl (by omega), Instr.fill]
    congr 1
    apply Array.ext'
    have : List.drop (0 + 129) Z.toList = [] := by apply List.drop_eq_nil_of_le; simp; omega
    show _ ++ _ ++ _ = _
    rw [this]
    simp
  simp [Instr.buildSlice, zeroValue, typeInfo, hi, hz0, run_underlying Tryd.underlying40, sizeOf, hz1]
  rw [hf _ _ (by simp) (by rfl)]
  simp [newRow]
theorem exec_build (ρ : Operand → Value) (dst : Option Tmp) (ty : TypeId) (pos : String) (after : Array Edge) (guard : Option (Nat × Bool)) (x y : Operand) (w : World) (hv : (ρ x).cells = #[ρ x]) (hu : (ρ y).cells.size = 128) :
    (execOp ρ { dst, op := .build 53 #[(0, x), (1, y)], type := ty, pos, after, guard }).run Tryd.prog w = .ok (.value (.agg (wr (ρ x) (ρ y).cells))) w := by
  have := build_write (ρ x) (ρ y) hv hu w
  simp [execOp, this]
theorem exec_slice (ρ : Operand → Value) (dst : Option Tmp) (ty : TypeId) (pos : String) (after : Array Edge) (guard : Option (Nat × Bool)) (x : Operand) (w : World) (hv : (ρ x).cells.size = 129) :
    (execOp ρ { dst, op := .buildSlice 40 1 #[(0, x)], type := ty, pos, after, guard }).run Tryd.prog w = .ok (.value (.slice (some ⟨w.heap.size, 0, none⟩) 1 1)) (w.alloc (.cells (ρ x).cells 53)) := by
  have := slice_write (ρ x) hv w
  simp [execOp, this]
/-- A whole block's cells, where a pointer points. -/
def lrow (w : World) : Value → Array Value
  | .pointer (some a) => ((List.range 128).map fun j => (w.cell? (a.add j)).getD undef).toArray
  | _ => #[]
def okRow (w : World) (v : Value) : Prop := ∃ b o cs, v = .pointer (some ⟨b, o, none⟩) ∧ w.rangeAt b o cs ∧ cs.length = 128
theorem lrow_eq {w : World} {b o : Nat} {cs : List Value} (h : w.rangeAt b o cs) (hl : cs.length = 128) : lrow w (.pointer (some ⟨b, o, none⟩)) = cs.toArray := by
  show ((List.range 128).map fun j => (w.cell? ((⟨b, o, none⟩ : Addr).add j)).getD undef).toArray = cs.toArray
  refine congrArg List.toArray ?_
  apply List.ext_getElem
  · simp [hl]
  · intro j h1 h2
    simp only [List.getElem_map, List.getElem_range, Addr.add_mid]
    rw [h j cs[j] (List.getElem?_eq_getElem h2)]
    rfl
theorem exec_load (ρ : Operand → Value) (dst : Option Tmp) (ty : TypeId) (pos : String) (after : Array Edge) (guard : Option (Nat × Bool)) (x : Operand) (w : World) (h : okRow w (ρ x)) :
    (execOp ρ { dst, op := .load 51 x, type := ty, pos, after, guard }).run Tryd.prog w = .ok (.value (.agg (lrow w (ρ x)))) w := by
  obtain ⟨b, o, cs, hx, hr, hl⟩ := h
  have := run_loadAt_mid (P := Tryd.prog) w b o 51 cs _ hr Tryd.underlying51 rfl (by rw [hl]; exact size_block)
  rw [hx, lrow_eq hr hl]
  simp [execOp, hx, this]
theorem fold_write (v : Value) (cs : List Value) (hcl : cs.length = 128) (Z : Array Value) (hZ : Z.size = 129) : List.foldl (fun (cs : Array Value) (x : Value × Nat) => cs.setIfInBounds (1 + x.snd) x.fst) (Z.setIfInBounds 0 v) cs.zipIdx = wr v cs.toArray := by
  apply Array.ext'
  rw [fill_one 1 cs 0 _ (by simp; omega)]
  have hd : List.drop (1 + 0 + cs.length) (Z.setIfInBounds 0 v).toList = [] := by
    apply List.drop_eq_nil_of_le
    simp; omega
  rw [hd]
  obtain ⟨l⟩ := Z
  cases l with
  | nil => simp at hZ
  | cons a l => simp [wr]
attribute [local go_sem ↓] exec_build exec_slice exec_load

theorem write_bad (d : Value) (n : Nat) (at_ : Int) (str : ByteArray) (w : World) (hs : SizeIs d n w) (h : ¬ ((0 ≤ at_ ∧ at_ < n) ∧ str.size = 128)) :
    Calls Tryd.prog 29 #[d, .int .i64 at_, .string str] w fun e w' => e = .returned (.int .i64 1) ∧ w' = w := by
  have c := fits_any d n at_ str w hs
  have hd : decide ((0 ≤ at_ ∧ at_ < (n : Int)) ∧ str.size = 128) = false := by simpa using h
  rw [hd] at c
  clear h
  go_enter Tryd.func29, Tryd.ntmps29
  go_wp2_with (go_at_call 43; refine c.mono ?_; rintro e w1 ⟨rfl, hw1⟩; replace hw1 := hw1.symm; subst hw1)
  go_ret
  exact ⟨rfl, rfl⟩
theorem write_off {w : World} {H : Hnd} {s : St} (D : DevIs w H s) (k : Nat) (str : ByteArray) (hk : k < s.sure.length) (hl : str.size = 128) (hg : s.goes = false) :
    Calls Tryd.prog 29 #[.pointer (some ⟨H.p, 0, none⟩), .int .i64 k, .string str] w fun e w' => e = .returned (.int .i64 40) ∧ DevIs w' H s.burnt ∧ Turned H H w w' := by
  have c := fits_any _ _ (k : Int) str w D.size
  have hd : decide ((0 ≤ (k : Int) ∧ (k : Int) < (s.sure.length : Int)) ∧ str.size = 128) = true := by simp; omega
  rw [hd] at c
  have c2 := goesOn_any D
  rw [hg] at c2
  go_enter Tryd.func29, Tryd.ntmps29
  go_wp2_with (first
    | (go_at_call 43; refine c.mono ?_; rintro e w1 ⟨rfl, hw1⟩; replace hw1 := hw1.symm; subst hw1)
    | (go_at_call 44; refine c2.mono ?_; rintro e w1 ⟨rfl, D1, T1⟩))
  go_ret
  exact ⟨rfl, D1, T1⟩

theorem write_end {w1 w2 w3 : World} {H : Hnd} {s : St} (D : DevIs w1 H s) (k : Nat) (hk : k < s.sure.length) (b : List UInt8) (hb : b.length = 128) (hw2 : w2 = w1.setCells H.bn (k * 128) (bcells b)) (X : Obj)
    (hgrow : (w2.alloc X).drew.grownBy w3 H.wv.ownBlock) (g cap n1 : Nat) (hn1 : n1 = s.wait.length + 1) (xs : List Value) (hxs : xs = (s.wait.map wcells).flatten ++ wcells (k, b)) (hown : w3.ownsRow 0 53 129 (.slice (some ⟨g, 0, none⟩) n1 cap) n1 xs)
    (hat : H.wv.ownBlock = some g ∨ g = w2.heap.size + 1) (few : s.wait.length < 1000000) :
    DevIs (w3.setCell ⟨H.p, 2, none⟩ (.slice (some ⟨g, 0, none⟩) n1 cap)) { H with wv := .slice (some ⟨g, 0, none⟩) n1 cap } { s with wait := s.wait ++ [(k, b)] } ∧
      Turned H { H with wv := .slice (some ⟨g, 0, none⟩) n1 cap } w1 (w3.setCell ⟨H.p, 2, none⟩ (.slice (some ⟨g, 0, none⟩) n1 cap)) := by
  have K2 : Kept H.foot w1 w2 := by rw [hw2]; exact Kept.setCells (.inl (.inr (.inr (.inl rfl)))) _ _ _ (Kept.refl _ _)
  have K3 : Kept H.foot w1 w3 := (K2.alloc X).drew.grown hgrow fun x hx => .inl (.inr (.inr (.inr hx)))
  have hpn : ∀ x, x < w1.heap.size → H.wv.ownBlock ≠ some x → w3.heap[x]? = w2.heap[x]? := fun x hx hne => by
    rw [hgrow.block x (by have := K2.size; simp; omega) (fun e => hne e.symm)]
    exact heap_alloc_old _ _ (Nat.lt_of_lt_of_le hx K2.size)
  have far : ∀ x, x ≠ H.bn → w2.heap[x]? = w1.heap[x]? := fun x hx => by rw [hw2]; exact heap_setCells_far _ _ _ _ _ hx
  have np : H.wv.ownBlock ≠ some H.p := fun e => (D.d4 _ e).1 rfl
  have ns : H.wv.ownBlock ≠ some H.bs := fun e => (D.d4 _ e).2.1 rfl
  have nn : H.wv.ownBlock ≠ some H.bn := fun e => (D.d4 _ e).2.2 rfl
  have lp := D.lt (k := H.p) (.inl rfl)
  have ls := D.lt (k := H.bs) (.inr (.inl rfl))
  have ln := D.lt (k := H.bn) (.inr (.inr (.inl rfl)))
  have gne : g ≠ H.p ∧ g ≠ H.bs ∧ g ≠ H.bn := by
    rcases hat with h | h
    · exact D.d4 g h
    · have := K2.size; omega
  have dev3 : w3.heap[H.p]? = _ := ((hpn _ lp np).trans (far _ D.d2)).trans D.dev
  have sn2 : Rows w2 H.bn 51 (s.sure.length * 128) 128 (((lay s.sure s.wait).map bcells).set k (bcells b)) := by
    rw [hw2]
    exact D.seen.set (by rw [List.length_map, lay_len]; exact hk) (by rw [bcells_len, hb])
  refine ⟨?_, rfl, K3.setCell (.inl (.inl rfl)) _, ?_⟩
  · exact
      { dev := heap_setCell_same w3 H.p 2 _ _ _ dev3
        sure := (D.sure.of_block ((hpn _ ls ns).trans (far _ D.d3))).of_block (heap_setCell_other w3 _ _ _ (fun e => D.d1 e.symm))
        seen := by
          have := (sn2.of_block (hpn _ ln nn)).of_block (heap_setCell_other w3 ⟨H.p, 2, none⟩ _ (.slice (some ⟨g, 0, none⟩) n1 cap) (fun e => D.d2 e.symm))
          rw [lay_snoc, List.map_set]
          exact this
        wait := by
          have : SRows w3 (.slice (some ⟨g, 0, none⟩) n1 cap) 53 129 ((s.wait ++ [(k, b)]).map wcells) := by
            refine srows_of_own hown ?_ ?_ (by omega) ?_
            · rw [hxs]; simp
            · intro r hr
              rw [List.map_append, List.mem_append] at hr
              rcases hr with hr | hr
              · exact D.wait.rowlen r hr
              · simp at hr; rw [hr]; simp [wcells, bcells_len, hb]
            · simp [hn1]
          exact this.of_block fun x hx => heap_setCell_other w3 _ _ _ (by simp [Value.ownBlock] at hx; rw [← hx]; exact gne.1)
        d1 := D.d1, d2 := D.d2, d3 := D.d3
        d4 := by intro x hx; simp [Value.ownBlock] at hx; rw [← hx]; exact gne
        pos := D.pos, top := D.top
        ats := by
          intro x hx
          rcases List.mem_append.1 hx with hx | hx
          · exact D.ats x hx
          · simp at hx; rw [hx]; exact ⟨hk, hb⟩
        blk := D.blk, fz := D.fz
        few := by simp; omega }
  · intro x hx
    rcases hx with rfl | rfl | rfl | hx
    · exact .inl (.inl rfl)
    · exact .inl (.inr (.inl rfl))
    · exact .inl (.inr (.inr (.inl rfl)))
    · simp [Value.ownBlock] at hx
      subst hx
      rcases hat with h | h
      · exact .inl (.inr (.inr (.inr h)))
      · right; have := K2.size; omega

set_option maxRecDepth 4000 in
set_option maxHeartbeats 2000000 in
theorem write_on {w : World} {H : Hnd} {s : St} (D : DevIs w H s) (k : Nat) (str : ByteArray) (hk : k < s.sure.length) (hl : str.size = 128) (hg : s.goes = true) (hfew : s.wait.length < 1000000) :
    Calls Tryd.prog 29 #[.pointer (some ⟨H.p, 0, none⟩), .int .i64 k, .string str] w fun e w' => e = .returned (.int .i64 0) ∧ ∃ H', DevIs w' H' (s.write k str.data.toList) ∧ Turned H H' w w' := by
  have c := fits_any _ _ (k : Int) str w D.size
  have hd : decide ((0 ≤ (k : Int) ∧ (k : Int) < (s.sure.length : Int)) ∧ str.size = 128) = true := by simp; omega
  rw [hd] at c
  have c2 := goesOn_any D
  rw [hg] at c2
  have hkI : (k : Int) < (s.sure.length : Int) := by omega
  obtain ⟨cs, hcs⟩ : ∃ cs, cs = cellsS str := ⟨_, rfl⟩
  have hcl : cs.length = 128 := by rw [hcs, cellsS_len, hl]
  have hone : ∀ v ∈ cs, v.oneCell' = true := by
    rw [hcs]
    intro v hv
    simp only [cellsS, List.mem_map] at hv
    obtain ⟨x, _, rfl⟩ := hv
    rfl
  obtain ⟨A, hA⟩ : ∃ A, A = wr (.int .i64 (k : Int)) cs.toArray := ⟨_, rfl⟩
  have hA9 : A.size = 129 := by rw [hA]; simp [wr, hcl]
  have hAe : wr (.int .i64 (k : Int)) cs.toArray = A := hA.symm
  have hu := Tryd.underlying51
  have hi := size_block
  rw [← hcl] at hi
  go_enter Tryd.func29, Tryd.ntmps29
  go_wp2_with (first
    | (go_at_call 43; refine c.mono ?_; rintro e w1 ⟨rfl, hw1⟩; replace hw1 := hw1.symm; subst hw1)
    | (go_at_call 44; refine c2.mono ?_; rintro e w1 ⟨rfl, D1, T1⟩; have q1 := D1.c1; have q2 := D1.c2; have q5 := D1.fr 2; have qb := D1.seen.there (i := k) (by rw [List.length_map, lay_len]; exact hk))
    | (refine wpList_copy_str rfl _ _ _ _ 5 rfl H.bn (k * 128) 128 128 str rfl rfl hl Tryd.underlying62 size_byte qb ?_))
  obtain ⟨w2, hw2⟩ : ∃ w2, w2 = w1.setCells H.bn (k * 128) (cellsS str) := ⟨_, rfl⟩
  rw [← hw2]
  have K2 : Kept H.foot w1 w2 := by rw [hw2]; exact Kept.setCells (.inl (.inr (.inr (.inl rfl)))) _ _ _ (Kept.refl _ _)
  have far : ∀ x, x ≠ H.bn → w2.heap[x]? = w1.heap[x]? := fun x hx => by rw [hw2]; exact heap_setCells_far _ _ _ _ _ hx
  have p1 : w2.cell? ⟨H.p, 1, none⟩ = some (.slice (some ⟨H.bn, 0, none⟩) s.burnt.sure.length s.burnt.sure.length) := (World.cell?_of_block (far _ D1.d2)).trans q1
  have p2 : w2.cell? ⟨H.p, 2, none⟩ = some H.wv := (World.cell?_of_block (far _ D1.d2)).trans q2
  have sn2 : w2.rangeAt H.bn (k * 128) cs := by
    rw [hw2, hcs]
    refine World.rangeAt_setCells_same _ _ _ _ ?_
    rw [cellsS_len, hl]
    exact qb
  have lp : H.p < w2.heap.size := Nat.lt_of_lt_of_le (D1.lt (.inl rfl)) K2.size
  have p2a : (w2.alloc (.cells A 53)).cell? ⟨H.p, 2, none⟩ = some H.wv := (World.cell?_of_block (heap_alloc_old _ _ lp)).trans p2
  have hown : (w2.alloc (.cells A 53)).drew.ownsRow 0 53 129 H.wv s.wait.length (s.wait.map wcells).flatten := by
    have h0 : SRows w2 H.wv 53 129 (s.wait.map wcells) := D1.wait.of_block fun x hx => far x (D1.d4 x hx).2.2
    have h1 := (h0.of_block (w' := (w2.alloc (.cells A 53)).drew) fun x hx => heap_alloc_old _ _ (h0.lt hx)).own (by omega)
    rw [List.length_map] at h1
    exact h1
  have hnews : ∀ j u, A.toList[j]? = some u → (w2.alloc (.cells A 53)).drew.cell? ((⟨w2.heap.size, 0, none⟩ : Addr).add j) = some u := World.news_of_block (heap_alloc_last w2 _)
  have hAone : ∀ u ∈ A.toList, u.oneCell' = true := by
    rw [hA]
    intro u hu
    simp [wr] at hu
    rcases hu with rfl | hu
    · rfl
    · exact hone u hu
  have hAl : A.toList.length = 1 * 129 := by simp [hA9]
  obtain ⟨i0, z0, HI⟩ : ∃ (i0 : TypeInfo) (z0 : Value), Hid (Tryd.prog.info? 53 = some i0 ∧ i0.zero = some z0 ∧ i0.size = 129 ∧ i0.bytes = 136 ∧ z0.cells.size = 129) := by
    obtain ⟨i0, hi0, hz0, hz1, hz2⟩ := info_parts info_write
    exact ⟨i0, _, hi0, hz0, hz1, hz2, by simp [cells_agg]⟩
  have HX : Hid (DevIs w1 H s.burnt ∧ Turned H H w w1 ∧ w2 = w1.setCells H.bn (k * 128) (cellsS str) ∧ cs = cellsS str ∧ A = wr (.int .i64 (k : Int)) cs.toArray) := ⟨D1, T1, hw2, hcs, hA⟩
  have lp3 : H.p < (w2.alloc (.cells A 53)).drew.heap.size := by simp; omega
  have npw : some H.p ≠ H.wv.ownBlock := fun e => (D1.d4 _ e.symm).1 rfl
  have nnw : some H.bn ≠ H.wv.ownBlock := fun e => (D1.d4 _ e.symm).2.2 rfl
  have ln3 : H.bn < (w2.alloc (.cells A 53)).drew.heap.size := by
    have := Nat.lt_of_lt_of_le (D1.lt (.inr (.inr (.inl rfl)))) K2.size
    simp; omega
  have dnp : H.bn ≠ H.p := fun e => D1.d2 e.symm
  have p5 : w2.frozen? ⟨H.p, 2, none⟩ = false := (World.frozen?_of_block (far _ D1.d2)).trans q5
  have p5a : (w2.alloc (.cells A 53)).frozen? ⟨H.p, 2, none⟩ = false := (World.frozen?_of_block (heap_alloc_old _ _ lp)).trans p5
  have p1a : (w2.alloc (.cells A 53)).cell? ⟨H.p, 1, none⟩ = some (.slice (some ⟨H.bn, 0, none⟩) s.burnt.sure.length s.burnt.sure.length) := (World.cell?_of_block (heap_alloc_old _ _ lp)).trans p1
  have sn2a : (w2.alloc (.cells A 53)).rangeAt H.bn (k * 128) cs := World.rangeAt_alloc sn2 _
  clear D1 T1 hw2 hcs hA D far K2 q1 q2 q5 qb c c2 hg hd
  have hok : okRow w2.drew (.pointer (some ⟨H.bn, k * 128, none⟩)) := ⟨_, _, cs, rfl, sn2, hcl⟩
  have hlr : lrow w2.drew (.pointer (some ⟨H.bn, k * 128, none⟩)) = cs.toArray := lrow_eq sn2 hcl
  clear sn2 sn2a hu hi
  have hfold : ∀ Z : Array Value, Z.size = 129 → List.foldl (fun (cs : Array Value) (x : Value × Nat) => cs.setIfInBounds (1 + x.snd) x.fst) (Z.setIfInBounds 0 (.int .i64 (k : Int))) cs.zipIdx = A := fun Z hZ => (fold_write _ cs hcl Z hZ).trans hAe
  go_wp2_with fail
  go_region_law
    ((refine step_append_lies _ rfl (.tmp 28) (.tmp 38) 40 rfl 0 53 i0 z0 129 136 Tryd.underlying40 HI.out.1 HI.out.2.1 HI.out.2.2.1 HI.out.2.2.2.1 HI.out.2.2.2.2 (by decide) H.wv s.wait.length (s.wait.map wcells).flatten (by simp [Act.eval]) hown ⟨w2.heap.size, 0, none⟩ 1 1 A.toList (by simp [Act.eval]) hAl hnews hAone (by decide) (by simp only [maxLen]; omega) (by omega) (Nat.zero_le _) (w2.heap.size + 1) (by simp) ?_; intro g cap w3 hown3 hgrow hat hlt; have r3 := (hgrow.cell_far ⟨H.p, 2, none⟩ lp3 npw).trans p2a; have r4 := (hgrow.frozen_far ⟨H.p, 2, none⟩ lp3 npw).trans p5a))
  all_goals go_wp2
  all_goals go_ret
  all_goals
    obtain ⟨D1, T1, hw2, hcs, hA⟩ := HX.out
    have hx := write_end D1 k hk str.data.toList (by simpa using hl) (by rw [hw2]; rfl) _ hgrow g cap (s.wait.length + 1) rfl _ (by rw [hA, hcs]; simp [wr, wcells, cellsS, bcells]; rfl) hown3 hat hfew
    exact ⟨rfl, _, hx.1, T1.trans hx.2⟩
end Go.Proofs.YthcjjcfiademnaaDoor
/-
  A device in memory in the midst of a call: what is sure and what is seen stand apart. And laws for a whole struct or array that a loop's variable is.
-/
namespace Go.Proofs.YthcjjcfiademnaaDoor
open Go.RowKit

structure Raw (w : World) (H : Hnd) (n : Nat) (su sn : List (List UInt8)) (wt : List (Nat × List UInt8)) (f : Int) (o : Bool) : Prop where
  dev : w.heap[H.p]? = some (.cells #[.slice (some ⟨H.bs, 0, none⟩) n n, .slice (some ⟨H.bn, 0, none⟩) n n, H.wv, .int .i64 f, .bool o] 42 (0, 0))
  sure : Rows w H.bs 51 (n * 128) 128 (su.map bcells)
  seen : Rows w H.bn 51 (n * 128) 128 (sn.map bcells)
  wait : SRows w H.wv 53 129 (wt.map wcells)
  d1 : H.p ≠ H.bs
  d2 : H.p ≠ H.bn
  d3 : H.bs ≠ H.bn
  d4 : ∀ k, H.wv.ownBlock = some k → k ≠ H.p ∧ k ≠ H.bs ∧ k ≠ H.bn
  l1 : su.length = n
  l2 : sn.length = n
  pos : 1 ≤ n
  top : n ≤ 4096
  ats : ∀ x ∈ wt, x.1 < n ∧ x.2.length = 128
  b1 : ∀ b ∈ su, b.length = 128
  b2 : ∀ b ∈ sn, b.length = 128
  fz : -9223372036854775808 ≤ f ∧ f < 9223372036854775808
  few : wt.length ≤ 1000000
section
variable {w w' : World} {H : Hnd} {s : St} {n : Nat} {su sn : List (List UInt8)} {wt : List (Nat × List UInt8)} {f : Int} {o : Bool}
theorem DevIs.raw (D : DevIs w H s) : Raw w H s.sure.length s.sure (lay s.sure s.wait) s.wait s.fuse s.off :=
  { dev := D.dev, sure := D.sure, seen := D.seen, wait := D.wait, d1 := D.d1, d2 := D.d2, d3 := D.d3, d4 := D.d4, l1 := rfl, l2 := lay_len _ _, pos := D.pos, top := D.top, ats := D.ats, b1 := D.blk
    b2 := lay_mem (p := fun b => b.length = 128) s.wait s.sure D.blk (fun x hx => (D.ats x hx).2), fz := D.fz, few := D.few }
theorem Raw.is (R : Raw w H n su sn wt f o) (h : sn = lay su wt) : DevIs w H ⟨su, wt, f, o⟩ := by
  have h1 := R.l1
  subst h h1
  exact { dev := R.dev, sure := R.sure, seen := R.seen, wait := R.wait, d1 := R.d1, d2 := R.d2, d3 := R.d3, d4 := R.d4, pos := R.pos, top := R.top, ats := R.ats, blk := R.b1, fz := R.fz, few := R.few }
theorem Raw.cell (R : Raw w H n su sn wt f o) (k : Nat) : w.cell? ⟨H.p, k, none⟩ = (#[Value.slice (some ⟨H.bs, 0, none⟩) n n, .slice (some ⟨H.bn, 0, none⟩) n n, H.wv, .int .i64 f, .bool o])[k]? := cell_of_row w H.p k _ _ _ R.dev
theorem Raw.c0 (R : Raw w H n su sn wt f o) : w.cell? ⟨H.p, 0, none⟩ = some (.slice (some ⟨H.bs, 0, none⟩) n n) := R.cell 0
theorem Raw.c1 (R : Raw w H n su sn wt f o) : w.cell? ⟨H.p, 1, none⟩ = some (.slice (some ⟨H.bn, 0, none⟩) n n) := R.cell 1
theorem Raw.c2 (R : Raw w H n su sn wt f o) : w.cell? ⟨H.p, 2, none⟩ = some H.wv := R.cell 2
theorem Raw.c3 (R : Raw w H n su sn wt f o) : w.cell? ⟨H.p, 3, none⟩ = some (.int .i64 f) := R.cell 3
theorem Raw.c4 (R : Raw w H n su sn wt f o) : w.cell? ⟨H.p, 4, none⟩ = some (.bool o) := R.cell 4
theorem Raw.fr (R : Raw w H n su sn wt f o) (k : Nat) : w.frozen? ⟨H.p, k, none⟩ = false := frozen_of_row w H.p k _ _ R.dev
theorem Raw.lt (R : Raw w H n su sn wt f o) {k : Nat} (hk : H.foot k) : k < w.heap.size := by
  rcases hk with rfl | rfl | rfl | hk
  · exact (Array.getElem?_eq_some_iff.1 R.dev).1
  · exact R.sure.lt
  · exact R.seen.lt
  · exact R.wait.lt hk
theorem Raw.kept {F : Nat → Prop} (R : Raw w H n su sn wt f o) (k : Kept F w w') (hF : ∀ x, H.foot x → ¬ F x) : Raw w' H n su sn wt f o :=
  { R with
    dev := by rw [k.block H.p (R.lt (.inl rfl)) (hF _ (.inl rfl))]; exact R.dev
    sure := R.sure.kept k (hF _ (.inr (.inl rfl)))
    seen := R.seen.kept k (hF _ (.inr (.inr (.inl rfl))))
    wait := R.wait.kept k fun g hg => hF _ (.inr (.inr (.inr hg))) }
theorem Raw.alloc (R : Raw w H n su sn wt f o) (b : Obj) : Raw (w.alloc b) H n su sn wt f o := R.kept ((Kept.refl (fun _ => False) w).alloc b) (fun _ _ h => h)
theorem Raw.drew (R : Raw w H n su sn wt f o) : Raw w.drew H n su sn wt f o := R.kept ((Kept.refl (fun _ => False) w).drew) (fun _ _ h => h)
theorem Raw.setSure (R : Raw w H n su sn wt f o) {k : Nat} (hk : k < n) {b : List UInt8} (hb : b.length = 128) : Raw (w.setCells H.bs (k * 128) (bcells b)) H n (su.set k b) sn wt f o :=
  { R with
    dev := by rw [heap_setCells_far _ _ _ _ _ R.d1]; exact R.dev
    sure := by
      have := R.sure.set (i := k) (r := bcells b) (by rw [List.length_map, R.l1]; exact hk) (by rw [bcells_len, hb])
      rwa [List.map_set]
    seen := R.seen.far _ (fun e => R.d3 e.symm)
    wait := R.wait.of_block fun x hx => heap_setCells_far _ _ _ _ _ (R.d4 x hx).2.1
    l1 := by rw [List.length_set]; exact R.l1
    b1 := by
      intro x hx
      rcases List.mem_or_eq_of_mem_set hx with hx | rfl
      · exact R.b1 x hx
      · exact hb }
theorem Raw.setSeen (R : Raw w H n su sn wt f o) {k : Nat} (hk : k < n) {b : List UInt8} (hb : b.length = 128) : Raw (w.setCells H.bn (k * 128) (bcells b)) H n su (sn.set k b) wt f o :=
  { R with
    dev := by rw [heap_setCells_far _ _ _ _ _ R.d2]; exact R.dev
    seen := by
      have := R.seen.set (i := k) (r := bcells b) (by rw [List.length_map, R.l2]; exact hk) (by rw [bcells_len, hb])
      rwa [List.map_set]
    sure := R.sure.far _ R.d3
    wait := R.wait.of_block fun x hx => heap_setCells_far _ _ _ _ _ (R.d4 x hx).2.2
    l2 := by rw [List.length_set]; exact R.l2
    b2 := by
      intro x hx
      rcases List.mem_or_eq_of_mem_set hx with hx | rfl
      · exact R.b2 x hx
      · exact hb }
/-- Another slice of writes. -/
theorem Raw.setWait (R : Raw w H n su sn wt f o) (v : Value) (wt' : List (Nat × List UInt8)) (hv : SRows w v 53 129 (wt'.map wcells)) (hd : ∀ k, v.ownBlock = some k → k ≠ H.p ∧ k ≠ H.bs ∧ k ≠ H.bn) (ha : ∀ x ∈ wt', x.1 < n ∧ x.2.length = 128) (hf : wt'.length ≤ 1000000) :
    Raw (w.setCell ⟨H.p, 2, none⟩ v) { H with wv := v } n su sn wt' f o :=
  { R with
    dev := heap_setCell_same w H.p 2 _ _ v R.dev
    sure := R.sure.of_block (heap_setCell_other w _ _ _ (fun e => R.d1 e.symm))
    seen := R.seen.of_block (heap_setCell_other w _ _ _ (fun e => R.d2 e.symm))
    wait := hv.of_block fun k hk => heap_setCell_other w _ _ _ (hd k hk).1
    d4 := hd, ats := ha, few := hf }
theorem Raw.setNone (R : Raw w H n su sn wt f o) : Raw (w.setCell ⟨H.p, 2, none⟩ (.slice none 0 0)) { H with wv := .slice none 0 0 } n su sn [] f o :=
  R.setWait _ [] (srows_nil _ _ _) (by intro k hk; simp [Value.ownBlock] at hk) (by simp) (by simp)
theorem Raw.setF (R : Raw w H n su sn wt f o) (f' : Int) (hf : -9223372036854775808 ≤ f' ∧ f' < 9223372036854775808) : Raw (w.setCell ⟨H.p, 3, none⟩ (.int .i64 f')) H n su sn wt f' o :=
  { R with
    dev := heap_setCell_same w H.p 3 _ _ _ R.dev
    sure := R.sure.of_block (heap_setCell_other w _ _ _ (fun e => R.d1 e.symm))
    seen := R.seen.of_block (heap_setCell_other w _ _ _ (fun e => R.d2 e.symm))
    wait := R.wait.of_block (fun k hk => heap_setCell_other w _ _ _ (R.d4 k hk).1)
    fz := hf }
theorem Raw.setO (R : Raw w H n su sn wt f o) (b : Bool) : Raw (w.setCell ⟨H.p, 4, none⟩ (.bool b)) H n su sn wt f b :=
  { R with
    dev := heap_setCell_same w H.p 4 _ _ _ R.dev
    sure := R.sure.of_block (heap_setCell_other w _ _ _ (fun e => R.d1 e.symm))
    seen := R.seen.of_block (heap_setCell_other w _ _ _ (fun e => R.d2 e.symm))
    wait := R.wait.of_block (fun k hk => heap_setCell_other w _ _ _ (R.d4 k hk).1) }
/-- The write number k, where it lies. -/
theorem Raw.at_ (R : Raw w H n su sn wt f o) {k : Nat} {x : Nat × List UInt8} (hx : wt[k]? = some x) : ∃ g cap, H.wv = .slice (some ⟨g, 0, none⟩) wt.length cap ∧ w.rangeAt g (k * 129) (wcells x) := by
  rcases R.wait with ⟨_, h0⟩ | ⟨g, cap, hv, _, _, hr⟩
  · simp at h0; subst h0; simp at hx
  · refine ⟨g, cap, by simpa using hv, hr.range ?_⟩
    rw [List.getElem?_map, hx]; rfl
theorem Raw.wv (R : Raw w H n su sn wt f o) : ∃ g cap, H.wv = .slice g wt.length cap := by
  rcases R.wait with ⟨hv, h0⟩ | ⟨g, cap, hv, _⟩
  · simp at h0; subst h0; exact ⟨_, _, hv⟩
  · exact ⟨_, _, by simpa using hv⟩
end

/-! ### A loop's variable that is a whole struct -/
section
variable {P : Program} {ops : Array Oper} {rest : List Oper} {op : Oper} {a : Act} {w : World} {Q : Exit → Act → World → Prop}
theorem alloc_wide {t : TypeId} {z : Array Value} (hz : ∀ w, (zeroValue t).run P w = .ok (.agg z) w) (hgd : op.guard = none) (ho : op.op = .alloc t)
    (h : wpList P ops Q rest (a.put op.dst (.pointer (some ⟨w.heap.size, 0, none⟩))) (w.alloc (.cells z t))) : wpList P ops Q (op :: rest) a w := by
  refine wpList_plain hgd fun K hK => ?_
  unfold Oper.wp execOp
  simp only [ho, Instr.alloc, Sem.run_bind, hz, Result.andThen_ok]
  exact hK _ _ h
theorem store_wide {t : TypeId} {n : Nat} (hi : (P.info? t).map (·.size) = some n) (x y : Operand) (b : Nat) (c c' : Array Value) (W : World) (hW : w = W.alloc (.cells c t)) (hgd : op.guard = none) (ho : op.op = .store t x y) (hx : a.eval x = .pointer (some ⟨b, 0, none⟩)) (hb : b = W.heap.size) (hy : a.eval y = .agg c')
    (hc : c.size = n) (hc' : c'.size = n) (h1 : c'.all (·.oneCell') = true)
    (h : wpList P ops Q rest (a.put op.dst undef) (W.alloc (.cells c' t))) : wpList P ops Q (op :: rest) a w := by
  subst hb hW
  refine wpList_store_row hgd t x y ho W.heap.size c' hx hy t c (heap_alloc_last W _) (by rw [hc']; exact hi) (by omega) h1 ?_
  rw [World.setRow_alloc_new]
  exact h
end
def zw : Array Value := #[Value.int .i64 0] ++ Array.replicate 128 (.int .u8 0)
theorem zw_size : zw.size = 129 := by simp [zw]
theorem info_write2 : (Tryd.prog.info? 53).map (fun i => (i.zero, i.size)) = some (some (.agg zw), 129) := by kernel_rfl
theorem zero_write (w : World) : (zeroValue 53).run Tryd.prog w = .ok (.agg zw) w := (zero_of_info info_write2).1 w
def wArr (x : Nat × List UInt8) : Array Value := (wcells x).toArray
theorem wArr_size {x : Nat × List UInt8} (h : x.2.length = 128) : (wArr x).size = 129 := by simp [wArr, wcells, bcells_len, h]
theorem wArr_one (x : Nat × List UInt8) : (wArr x).all (·.oneCell') = true := all_oneCell_toArray (wcells_one x)
theorem wArr_cell {w : World} {B : Nat} {t : TypeId} {x : Nat × List UInt8} (h : w.heap[B]? = some (.cells (wArr x) t (0, 0))) : w.cell? ⟨B, 0, none⟩ = some (.int .i64 x.1) ∧ w.rangeAt B 1 (bcells x.2) := by
  refine ⟨by rw [cell_of_row w B 0 _ t _ h]; rfl, ?_⟩
  intro j v hj
  rw [cell_of_row w B _ _ t _ h]
  simp [wArr, wcells, Nat.add_comm 1 j, hj]
end Go.Proofs.YthcjjcfiademnaaDoor
/-
  The contract of a device's Sync.
-/
namespace Go.Proofs.YthcjjcfiademnaaDoor
open Go.RowKit

theorem sync_none (d : Value) (w : World) (hs : SizeIs d 0 w) :
    Calls Tryd.prog 30 #[d] w fun e w' => e = .returned (.int .i64 1) ∧ w' = w := by
  have c := given_any d 0 w hs
  have hd : decide (0 < 0) = false := by simp
  rw [hd] at c
  go_enter Tryd.func30, Tryd.ntmps30
  go_wp2_with (go_at_call 13; refine c.mono ?_; rintro e w1 ⟨rfl, hw1⟩; replace hw1 := hw1.symm; subst hw1)
  go_ret
  exact ⟨rfl, rfl⟩
theorem sync_off {w : World} {H : Hnd} {s : St} (D : DevIs w H s) (hg : s.goes = false) :
    Calls Tryd.prog 30 #[.pointer (some ⟨H.p, 0, none⟩)] w fun e w' => e = .returned (.int .i64 40) ∧ DevIs w' H s.burnt ∧ Turned H H w w' := by
  have c := given_any _ _ w D.size
  have hp := D.pos
  have hd : decide (0 < s.sure.length) = true := by simp; omega
  rw [hd] at c
  have c2 := goesOn_any D
  rw [hg] at c2
  go_enter Tryd.func30, Tryd.ntmps30
  go_wp2_with (first
    | (go_at_call 13; refine c.mono ?_; rintro e w1 ⟨rfl, hw1⟩; replace hw1 := hw1.symm; subst hw1)
    | (go_at_call 44; refine c2.mono ?_; rintro e w1 ⟨rfl, D1, T1⟩))
  go_ret
  exact ⟨rfl, D1, T1⟩
theorem lay_take (su : List (List UInt8)) (wt : List (Nat × List UInt8)) (k : Nat) (x : Nat × List UInt8) (hx : wt[k]? = some x) : lay su (wt.take (k + 1)) = (lay su (wt.take k)).set x.1 x.2 := by
  rw [List.take_add_one, hx]
  exact lay_snoc _ _ _

set_option maxRecDepth 4000 in
set_option maxHeartbeats 2000000 in
theorem sync_on {w : World} {H : Hnd} {s : St} (D : DevIs w H s) (hg : s.goes = true) :
    Calls Tryd.prog 30 #[.pointer (some ⟨H.p, 0, none⟩)] w fun e w' => e = .returned (.int .i64 0) ∧ ∃ H', DevIs w' H' s.synced ∧ Turned H H' w w' := by
  have c := given_any _ _ w D.size
  have hp := D.pos
  have hd : decide (0 < s.sure.length) = true := by simp; omega
  rw [hd] at c
  have c2 := goesOn_any D
  rw [hg] at c2
  have hz := zero_write
  obtain ⟨gg, cap, hwv⟩ := D.raw.wv
  have hu := Tryd.underlying51
  have hi := size_block
  clear hg hd
  go_enter Tryd.func30, Tryd.ntmps30
  go_wp2_with (first
    | (go_at_call 13; refine c.mono ?_; rintro e w1 ⟨rfl, hw1⟩; replace hw1 := hw1.symm; subst hw1)
    | (go_at_call 44; refine c2.mono ?_; rintro e w1 ⟨rfl, D1, T1⟩; have q2 := D1.c2; rw [hwv] at q2; obtain ⟨n, hn⟩ : ∃ n, n = s.sure.length := ⟨_, rfl⟩; obtain ⟨m, hm⟩ : ∃ m, m = s.wait.length := ⟨_, rfl⟩; have R1 : Raw w1 H n s.sure (lay s.sure s.wait) s.wait s.burnt.fuse s.burnt.off := (hn ▸ D1.raw : _)))
  go_loopg [4, 16, 17, 18, 19, 20, 21, 22, 23, 24, 25, 26, 27, 28, 29] m (fun g s4 s16 s17 s18 s19 s20 s21 s22 s23 s24 s25 s26 s27 s28 s29 wx => ∃ k : Nat, k + g = m ∧ s16 = .int .i64 k ∧ Raw wx H n (lay s.sure (s.wait.take k)) (lay s.sure s.wait) s.wait s.burnt.fuse s.burnt.off ∧ Kept H.foot w1 wx)
  case atStart => exact ⟨0, by omega, rfl, by simpa [lay] using R1, Kept.refl _ _⟩
  case round =>
    obtain ⟨k, hkg, rfl, R, K⟩ := hrel
    by_cases hk : k < m
    · have hkI : (k : Int) < (s.wait.length : Int) := by omega
      obtain ⟨x, hx⟩ : ∃ x, s.wait[k]? = some x := ⟨_, List.getElem?_eq_getElem (by omega)⟩
      obtain ⟨g, cap', hv, hrange⟩ := R.at_ hx
      rw [hwv] at hv
      simp only [Value.slice.injEq, true_and] at hv
      obtain ⟨rfl, rfl⟩ := hv
      obtain ⟨hxa, hxl⟩ := R.ats x (List.mem_of_getElem? hx)
      have RA := R.alloc (.cells (wArr x) 53)
      have p0 := RA.c0
      obtain ⟨b0, b1⟩ := wArr_cell (heap_alloc_last wr (.cells (wArr x) 53))
      have th := RA.sure.there (i := x.1) (by rw [List.length_map, lay_len, ← hn]; exact hxa)
      obtain ⟨cs, hcs⟩ : ∃ cs, cs = bcells x.2 := ⟨_, rfl⟩
      rw [← hcs] at b1
      have hcl : cs.length = 128 := by rw [hcs, bcells_len, hxl]
      have hone : ∀ v ∈ cs, v.oneCell' = true := by rw [hcs]; exact bcells_one _
      have hi : Option.map (fun x => x.size) (Tryd.prog.info? 51) = some cs.length := by rw [hcl]; exact size_block
      have hws := wArr_size hxl
      have d1 := R.d1
      have nB : wr.heap.size ≠ H.bs := Nat.ne_of_gt (R.lt (.inr (.inl rfl)))
      have hxI : (x.1 : Int) < (n : Int) := by omega
      have hr2 : IntKind.i64.wrap ((k : Int) + 1) = (k : Int) + 1 := by have := R.few; rw [IntKind.wrap_i64]; omega
      have hwl : some (wcells x).length = some 129 := by simp [wcells, bcells_len, hxl]
      have HR : Hid (Raw (wr.alloc (.cells (wArr x) 53)) H n (lay s.sure (s.wait.take k)) (lay s.sure s.wait) s.wait s.burnt.fuse s.burnt.off ∧ Kept H.foot w1 wr ∧ cs = bcells x.2 ∧ s.wait[k]? = some x ∧ x.2.length = 128) := ⟨RA, K, hcs, hx, hxl⟩
      have HM : Hid (m = s.wait.length) := hm
      clear RA K hcs hx hxl R R1 D1 T1 c c2 D hm hn q2
      go_wp2_with (first
        | (refine wpList_load_mid rfl 53 _ rfl g (k * 129) rfl (wcells x) _ hrange Tryd.underlying53 rfl (size_write.trans hwl.symm) ?_)
        | (refine alloc_wide hz rfl rfl ?_)
        | (refine store_wide size_write _ _ _ zw (wArr x) wr rfl rfl rfl rfl rfl rfl zw_size hws (wArr_one x) ?_))
      go_region_held3 (fun w' => w'.cell? ⟨H.p, 0, none⟩ = some (.slice (some ⟨H.bs, 0, none⟩) n n) ∧ w'.cell? ⟨wr.heap.size, 0, none⟩ = some (.int .i64 x.1) ∧ w'.rangeAt wr.heap.size 1 cs ∧ w'.there H.bs (x.1 * 128) 128)
        (first
          | exact ⟨p0, b0, b1, th⟩
          | exact ⟨(World.cell?_setCells_out _ _ _ _ _ (fun e _ => absurd e d1)).trans p0, (World.cell?_setCells_out _ _ _ _ _ (fun e _ => absurd e nB)).trans b0, World.rangeAt_setCells_apart ((World.rangeAt_drew _ _ _ _).2 b1) _ _ _ (.inl nB), World.there_setCells ((World.there_drew _ _ _ _).2 th) _ _ _⟩)
        (fail)
      all_goals go_wp2
      go_roundg (m - (k + 1))
      case measure => omega
      case rel =>
        obtain ⟨RA, K, hcs, hx, hxl⟩ := HR.out
        refine ⟨k + 1, by omega, by go_num, ?_, ?_⟩
        · rw [lay_take _ _ _ _ hx, hcs]
          exact RA.drew.setSure hxa hxl
        · exact Kept.setCells (.inl (.inr (.inl rfl))) _ _ _ (K.alloc _).drew
    · have hkI : ¬ (k : Int) < (s.wait.length : Int) := by omega
      obtain rfl : k = m := by omega
      rw [hm, List.take_length] at R
      have R2 := R.setNone
      have q1 := R.c2
      have q3 := R.fr 2
      have DD := R2.is rfl
      have K2 := K.setCell (p := ⟨H.p, 2, none⟩) (.inl (.inl rfl)) (.slice none 0 0)
      have TT : Turned H { H with wv := .slice none 0 0 } w1 (wr.setCell ⟨H.p, 2, none⟩ (.slice none 0 0)) := ⟨rfl, K2, fun x hx => by
        rcases hx with rfl | rfl | rfl | hx
        · exact .inl (.inl rfl)
        · exact .inl (.inr (.inl rfl))
        · exact .inl (.inr (.inr (.inl rfl)))
        · simp [Value.ownBlock] at hx⟩
      have HR : Hid (Turned H { H with wv := .slice none 0 0 } w (wr.setCell ⟨H.p, 2, none⟩ (.slice none 0 0))) := T1.trans TT
      clear R R2 K K2 R1 c c2 D1 T1 D TT
      go_wp2
      go_ret
      exact ⟨rfl, _, DD, HR.out⟩
end Go.Proofs.YthcjjcfiademnaaDoor
