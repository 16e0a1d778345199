/-
  Numbers as bytes one behind the other, and what bytes hold, as plain functions. Pure mathematics over VTk and VPut.
-/
import Derived.Test.YtpbjabfnifgggaaVPut
import Derived.Test.YtpbjabfnifgggaaZigEq
namespace Go.Proofs.Ytpbjabfnifgggaa
open Leb

/-- So many numbers that bytes begin with, and how many bytes they have. -/
def tkN : Nat → List UInt8 → Option (List (BitVec 64) × Nat)
  | 0, _ => some ([], 0)
  | c + 1, s => if (tk s).2.2 = 0 then (tkN c (s.drop (tk s).2.1)).map (fun p => (zagW (tk s).1 :: p.1, (tk s).2.1 + p.2)) else none
/-- The same from u on, behind d. -/
def tkF (c : Nat) (s : List UInt8) (d : List (BitVec 64)) (u : Nat) : Option (List (BitVec 64) × Nat) := (tkN c (s.drop u)).map (fun p => (d ++ p.1, u + p.2))
def ta (s : List UInt8) : List (BitVec 64) × Nat × Nat :=
  if (tk s).2.2 = 0 then
    if (zagW (tk s).1).toInt < 0 then ([], 0, 20)
    else if 65536 < (zagW (tk s).1).toInt then ([], 0, 4)
    else match tkF (zagW (tk s).1).toInt.toNat s [] (tk s).2.1 with
      | some p => (p.1, p.2, 0)
      | none => ([], 0, 20)
  else ([], 0, 20)
theorem tkF_zero (s : List UInt8) (d : List (BitVec 64)) (u : Nat) : tkF 0 s d u = some (d, u) := by simp [tkF, tkN]
theorem tkF_ok {c : Nat} {s : List UInt8} {d : List (BitVec 64)} {u : Nat} {z : BitVec 64} (h : tk (s.drop u) = (z, lenW z, 0)) : tkF (c + 1) s d u = tkF c s (d ++ [zagW z]) (u + lenW z) := by
  unfold tkF
  simp only [tkN, h, if_true, List.drop_drop, Option.map_map]
  congr 1
  funext p
  simp [Nat.add_assoc]
theorem tkF_no {c : Nat} {s : List UInt8} {d : List (BitVec 64)} {u : Nat} (h : tk (s.drop u) = (0#64, 0, 20)) : tkF (c + 1) s d u = none := by
  simp [tkF, tkN, h]
theorem ta_form {s : List UInt8} (h : tk s = (0#64, 0, 20)) : ta s = ([], 0, 20) := by simp [ta, h]
theorem ta_neg {s : List UInt8} {z : BitVec 64} (h : tk s = (z, lenW z, 0)) (hn : (zagW z).toInt < 0) : ta s = ([], 0, 20) := by simp [ta, h, hn]
theorem ta_many {s : List UInt8} {z : BitVec 64} (h : tk s = (z, lenW z, 0)) (hn : 65536 < (zagW z).toInt) : ta s = ([], 0, 4) := by
  have : ¬ (zagW z).toInt < 0 := by omega
  simp [ta, h, hn, this]
theorem ta_some {s : List UInt8} {z : BitVec 64} (h : tk s = (z, lenW z, 0)) (c : Nat) (hc : (zagW z).toInt = c) (hn : c ≤ 65536) {d : List (BitVec 64)} {u : Nat} (hf : tkF c s [] (lenW z) = some (d, u)) : ta s = (d, u, 0) := by
  have h1 : ¬ (c : Int) < 0 := by omega
  have h2 : ¬ (65536 : Int) < c := by omega
  have h3 : ((c : Int)).toNat = c := by omega
  simp [ta, h, hc, h2, h3, hf]
theorem ta_none {s : List UInt8} {z : BitVec 64} (h : tk s = (z, lenW z, 0)) (c : Nat) (hc : (zagW z).toInt = c) (hn : c ≤ 65536) (hf : tkF c s [] (lenW z) = none) : ta s = ([], 0, 20) := by
  have h1 : ¬ (c : Int) < 0 := by omega
  have h2 : ¬ (65536 : Int) < c := by omega
  have h3 : ((c : Int)).toNat = c := by omega
  simp [ta, h, hc, h2, h3, hf]

/-- Numbers that were put are taken. -/
theorem tkN_enc : ∀ (l : List (BitVec 64)) (r : List UInt8), tkN l.length (encs l ++ r) = some (l, (encs l).length) := by
  intro l
  induction l with
  | nil => intro r; simp [tkN, encs]
  | cons x t ih =>
    intro r
    have e : encs (x :: t) ++ r = enc1 x ++ (encs t ++ r) := by simp [encs]
    have h : tk (enc1 x ++ (encs t ++ r)) = (zigW x, lenW (zigW x), 0) := tk_ok (List.prefix_append _ _)
    have hd : (enc1 x ++ (encs t ++ r)).drop (lenW (zigW x)) = encs t ++ r := by rw [← enc1_len]; exact List.drop_left
    rw [e]
    simp only [List.length_cons, tkN, h, if_true, hd, ih r, Option.map_some, zag_zig]
    simp [encs, enc1_len]
/-- All of a list: how many, and each. -/
def encAll (l : List (BitVec 64)) : List UInt8 := enc1 (BitVec.ofNat 64 l.length) ++ encs l
theorem ta_enc (l : List (BitVec 64)) (hl : l.length ≤ 65536) (r : List UInt8) : ta (encAll l ++ r) = (l, (encAll l).length, 0) := by
  have e : encAll l ++ r = enc1 (BitVec.ofNat 64 l.length) ++ (encs l ++ r) := by simp [encAll]
  have h : tk (encAll l ++ r) = (zigW (BitVec.ofNat 64 l.length), lenW (zigW (BitVec.ofNat 64 l.length)), 0) := by
    rw [e]; exact tk_ok (List.prefix_append _ _)
  refine ta_some h l.length (by rw [zag_zig, Wd.toInt_of_small _ (by omega)]) hl ?_
  unfold tkF
  have hd : (encAll l ++ r).drop (lenW (zigW (BitVec.ofNat 64 l.length))) = encs l ++ r := by rw [e, ← enc1_len]; exact List.drop_left
  rw [hd, tkN_enc]
  simp [encAll, enc1_len]
theorem encAll_len (l : List (BitVec 64)) : (encAll l).length ≤ 10 + 10 * l.length := by
  have h1 := encs_len l
  have h2 := (lenW_bd (zigW (BitVec.ofNat 64 l.length))).2
  rw [encAll, List.length_append, enc1_len]; omega
end Go.Proofs.Ytpbjabfnifgggaa
