/-
  9 texts, one behind the other: KOrd, KCmp, KChk, KRow, KSame, MKPut, VRow, BRow, Last.
-/
import Derived.WalkKit
import Derived.Lib.Strings
import Derived.Test.YtflabcmjbhmphaaRows
import Derived.Test.YtflabcmjbhmphaaJoin2
import Derived.WalkSpells
import Derived.WalkLawsBesides
import Derived.Deep.MidRow
import Derived.Deep.LoopGhost
import Derived.Deep.QuietTactic
import Derived.BigQuiet
import Derived.Test.YtflabcmjbhmphaaJoin1
import Derived.Laws.BytesString
import Derived.Laws.Cells
import Derived.Laws.IdiomStrings
import Derived.Below
import Derived.OwnWalk
import Derived.Deep.WholeRow
import Derived.Deep.Quiet
import Derived.Deep.RegionHeld3
/-
  Cells as the document has them: which may be, and which of two stands first. No program is spoken of.
-/
namespace Go.Proofs.Ytflabcmjbhmphaa
open Go.RowKit

structure Cl where
  k : Int
  n : Int
  s : ByteArray
/-- A cell as a value. -/
abbrev cv (c : Cl) : Value := .agg #[.int .i64 c.k, .int .i64 c.n, .string c.s]
def cl0 : Cl := ⟨0, 0, ⟨#[]⟩⟩

theorem toList_inj {a b : ByteArray} (h : a.toList = b.toList) : a = b := by
  rw [Lib.toList_data, Lib.toList_data] at h
  exact ByteArray.ext (Array.toList_inj.1 h)
theorem cl_ext {a b : Cl} (hk : a.k = b.k) (hn : a.n = b.n) (hs : a.s.toList = b.s.toList) : a = b := by
  cases a; cases b
  simp only at hk hn hs
  rw [hk, hn, toList_inj hs]
theorem toList_len (s : ByteArray) : s.toList.length = s.size := by
  rw [Lib.toList_data, ← Lib.size_eq]

/-- May a cell be? -/
def mayC (c : Cl) : Bool := (c.k == 0 && (c.n == 0 && c.s.size == 0)) || (c.k == 1 && c.s.size == 0) || (c.k == 2 && (c.n == 0 && decide (c.s.size ≤ 32)))

def cmpI (a b : Int) : Int := if a < b then -1 else if b < a then 1 else 0
def cmpS (a b : ByteArray) : Int := if Op.bytesLess a.toList b.toList = true then -1 else if a.toList = b.toList then 0 else 1
/-- Which of two cells stands first. -/
def cmpC (a b : Cl) : Int := if a.k = b.k then if a.n = b.n then cmpS a.s b.s else cmpI a.n b.n else cmpI a.k b.k

theorem bless_irrefl : ∀ l : List UInt8, Op.bytesLess l l = false
  | [] => rfl
  | a :: x => by
    have ih := bless_irrefl x
    have : ¬ a < a := fun h => by have := UInt8.lt_iff_toNat_lt.1 h; omega
    simp [Op.bytesLess, ih, this]
theorem bless_asymm : ∀ a b : List UInt8, Op.bytesLess a b = true → Op.bytesLess b a = false
  | _, [], h => by simp [Op.bytesLess] at h
  | [], _ :: _, _ => by simp [Op.bytesLess]
  | a :: x, b :: y, h => by
    have ih := bless_asymm x y
    simp only [Op.bytesLess, Bool.or_eq_true, decide_eq_true_eq, Bool.and_eq_true, beq_iff_eq] at h
    simp only [Op.bytesLess, Bool.or_eq_false_iff, decide_eq_false_iff_not, Bool.and_eq_false_iff, beq_eq_false_iff_ne]
    rcases h with h | ⟨rfl, h⟩
    · have h' := UInt8.lt_iff_toNat_lt.1 h
      refine ⟨fun e => ?_, .inl fun e => ?_⟩
      · have := UInt8.lt_iff_toNat_lt.1 e; omega
      · subst e; omega
    · refine ⟨fun e => ?_, .inr (ih h)⟩
      have := UInt8.lt_iff_toNat_lt.1 e; omega
theorem bless_total : ∀ a b : List UInt8, a ≠ b → Op.bytesLess a b = false → Op.bytesLess b a = true
  | [], [], h, _ => absurd rfl h
  | _ :: _, [], _, _ => by simp [Op.bytesLess]
  | [], _ :: _, _, h => by simp [Op.bytesLess] at h
  | a :: x, b :: y, hne, h => by
    have ih := bless_total x y
    simp only [Op.bytesLess, Bool.or_eq_false_iff, decide_eq_false_iff_not, Bool.and_eq_false_iff, beq_eq_false_iff_ne] at h
    simp only [Op.bytesLess, Bool.or_eq_true, decide_eq_true_eq, Bool.and_eq_true, beq_iff_eq]
    by_cases e : a = b
    · subst e
      refine .inr ⟨rfl, ih (fun e => hne (by rw [e])) ?_⟩
      rcases h.2 with h2 | h2
      · exact absurd rfl h2
      · exact h2
    · refine .inl (UInt8.lt_iff_toNat_lt.2 ?_)
      have h1 : ¬ a.toNat < b.toNat := fun h' => h.1 (UInt8.lt_iff_toNat_lt.2 h')
      have h2 : a.toNat ≠ b.toNat := fun h' => e (UInt8.toNat_inj.1 h')
      omega
theorem bless_trans : ∀ a b c : List UInt8, Op.bytesLess a b = true → Op.bytesLess b c = true → Op.bytesLess a c = true
  | _, _, [], _, h => by simp [Op.bytesLess] at h
  | [], _, _ :: _, _, _ => by simp [Op.bytesLess]
  | _ :: _, [], _ :: _, h, _ => by simp [Op.bytesLess] at h
  | a :: x, b :: y, c :: z, h1, h2 => by
    have ih := bless_trans x y z
    simp only [Op.bytesLess, Bool.or_eq_true, decide_eq_true_eq, Bool.and_eq_true, beq_iff_eq] at *
    rcases h1 with h1 | ⟨rfl, h1⟩
    · have h1' := UInt8.lt_iff_toNat_lt.1 h1
      rcases h2 with h2 | ⟨rfl, h2⟩
      · have h2' := UInt8.lt_iff_toNat_lt.1 h2
        exact .inl (UInt8.lt_iff_toNat_lt.2 (by omega))
      · exact .inl h1
    · rcases h2 with h2 | ⟨rfl, h2⟩
      · exact .inl h2
      · exact .inr ⟨rfl, ih h1 h2⟩

theorem cmpI_flip (a b : Int) : cmpI b a = - cmpI a b := by unfold cmpI; (repeat' split) <;> omega
theorem cmpS_flip (a b : ByteArray) : cmpS b a = - cmpS a b := by
  unfold cmpS
  by_cases e : a.toList = b.toList
  · rw [e, bless_irrefl]; simp
  · cases h : Op.bytesLess a.toList b.toList with
    | true => rw [bless_asymm _ _ h]; simp [Ne.symm e]
    | false => rw [bless_total _ _ e h]; simp [e]
theorem cmpS_zero (a b : ByteArray) : cmpS a b = 0 ↔ a.toList = b.toList := by
  unfold cmpS
  by_cases e : a.toList = b.toList
  · rw [e, bless_irrefl]; simp
  · simp only [e, if_false, iff_false]
    split <;> omega
theorem cmpS_bd (a b : ByteArray) : -1 ≤ cmpS a b ∧ cmpS a b ≤ 1 := by unfold cmpS; (repeat' split) <;> omega
theorem cmpS_trans (a b c : ByteArray) (h1 : cmpS a b ≤ 0) (h2 : cmpS b c ≤ 0) : cmpS a c ≤ 0 := by
  have e1 : a.toList = b.toList ∨ Op.bytesLess a.toList b.toList = true := by
    unfold cmpS at h1
    split at h1
    · exact .inr ‹_›
    · split at h1
      · exact .inl ‹_›
      · omega
  have e2 : b.toList = c.toList ∨ Op.bytesLess b.toList c.toList = true := by
    unfold cmpS at h2
    split at h2
    · exact .inr ‹_›
    · split at h2
      · exact .inl ‹_›
      · omega
  have e3 : a.toList = c.toList ∨ Op.bytesLess a.toList c.toList = true := by
    rcases e1 with e1 | e1
    · rw [e1]; exact e2
    · rcases e2 with e2 | e2
      · rw [← e2]; exact .inr e1
      · exact .inr (bless_trans _ _ _ e1 e2)
  unfold cmpS
  rcases e3 with e3 | e3
  · rw [e3]; (repeat' split) <;> simp_all
  · simp [e3]
theorem cmpC_flip (a b : Cl) : cmpC b a = - cmpC a b := by
  unfold cmpC
  have h1 := cmpI_flip a.k b.k
  have h2 := cmpI_flip a.n b.n
  have h3 := cmpS_flip a.s b.s
  (repeat' split) <;> omega
theorem cmpI_zero (a b : Int) : cmpI a b = 0 ↔ a = b := by unfold cmpI; (repeat' split) <;> omega
theorem cmpI_bd (a b : Int) : -1 ≤ cmpI a b ∧ cmpI a b ≤ 1 := by unfold cmpI; (repeat' split) <;> omega
theorem cmpC_bd (a b : Cl) : -1 ≤ cmpC a b ∧ cmpC a b ≤ 1 := by
  unfold cmpC
  have h1 := cmpI_bd a.k b.k
  have h2 := cmpI_bd a.n b.n
  have h3 := cmpS_bd a.s b.s
  (repeat' split) <;> omega
theorem cmpC_zero (a b : Cl) : cmpC a b = 0 ↔ a = b := by
  constructor
  · intro h
    unfold cmpC at h
    have h1 := cmpI_zero a.k b.k
    have h2 := cmpI_zero a.n b.n
    have h3 := cmpS_zero a.s b.s
    split at h
    · split at h
      · exact cl_ext ‹_› ‹_› (h3.1 h)
      · exact absurd (h2.1 h) ‹_›
    · exact absurd (h1.1 h) ‹_›
  · rintro rfl
    have := (cmpS_zero a.s a.s).2 rfl
    simp [cmpC, this]
theorem cmpC_trans (a b c : Cl) (h1 : cmpC a b ≤ 0) (h2 : cmpC b c ≤ 0) : cmpC a c ≤ 0 := by
  have h3 := cmpS_trans a.s b.s c.s
  unfold cmpC cmpI at *
  (repeat' split at h1) <;> (repeat' split at h2) <;> (repeat' split) <;> omega
end Go.Proofs.Ytflabcmjbhmphaa
/-
  The contracts of cmp.Compare at ints and texts, of package cell's Compare, meant and Check, and of the document's Compare and May.
-/
namespace Go.Proofs.Ytflabcmjbhmphaa
open Go.RowKit

theorem retI {a b : Int} (h : b = a) : Ending.returned (.int .i64 a) = .returned (.int .i64 b) := by rw [h]
theorem retB {a b : Bool} (h : b = a) : Ending.returned (.bool a) = .returned (.bool b) := by rw [h]

theorem belowTwo (w : World) (A B : Obj) : Below w.heap.size w ((w.alloc A).alloc B) := ((Below.refl _ w).alloc (Nat.le_refl _) _).alloc (by simp) _

end Go.Proofs.Ytflabcmjbhmphaa
/-
  The contracts of package cell's number, text, meant and Check, and of the document's Compare and May.
-/
namespace Go.Proofs.Ytflabcmjbhmphaa
open Go.RowKit

def numC (n : Int) : Cl := ⟨1, n, ⟨#[]⟩⟩
def txtC (s : ByteArray) : Cl := ⟨2, 0, s⟩
def meantC (c : Cl) : Cl := if c.k = 1 then numC c.n else if c.k = 2 then txtC c.s else cl0
/-- A cell's cells in memory. -/
abbrev ca (c : Cl) : Array Value := #[.int .i64 c.k, .int .i64 c.n, .string c.s]
theorem size_cell : (Try.prog.info? 71).map (·.size) = some 3 := by kernel_rfl
theorem ca_one (c : Cl) : (ca c).all (·.oneCell') = true := by simp [ca, Value.oneCell']

theorem emp_size (s : ByteArray) : s.toList.isEmpty = (s.size == 0) := by
  rw [Bool.eq_iff_iff, List.isEmpty_iff, beq_iff_eq, ← toList_len]
  exact List.length_eq_zero_iff.symm
set_option maxHeartbeats 1000000 in
theorem may_any (c : Cl) (w : World) :
    Calls Try.prog 55 #[cv c] w fun e w' => e = .returned (.bool (mayC c)) ∧ Below w.heap.size w w' := by
  by_cases h0 : c.k = 0
  · by_cases hn : c.n = 0
    · have HE : Hid (mayC c = c.s.toList.isEmpty) := by unfold Hid mayC; rw [h0, hn, emp_size]; simp
      go_enter Try.func55, Try.ntmps55
      go_wp2
      go_ret
      exact ⟨retB HE.out, below1 _ _⟩
    · have HE : Hid (mayC c = false) := by unfold Hid mayC; rw [h0]; simp [hn]
      go_enter Try.func55, Try.ntmps55
      go_wp2
      go_ret
      exact ⟨retB HE.out, below1 _ _⟩
  · have h0' : (c.k == 0) = false := by simpa using h0
    by_cases h1 : c.k = 1
    · have HE : Hid (mayC c = c.s.toList.isEmpty) := by unfold Hid mayC; rw [h1, emp_size]; simp
      clear h0 h0'
      go_enter Try.func55, Try.ntmps55
      go_wp2
      go_ret
      exact ⟨retB HE.out, below1 _ _⟩
    · have h1' : (c.k == 1) = false := by simpa using h1
      by_cases h2 : c.k = 2
      · clear h0 h1 h0' h1'
        by_cases hn : c.n = 0
        · have HE : Hid (mayC c = decide ((c.s.size : Int) ≤ 32)) := by
            unfold Hid mayC; rw [h2, hn, Bool.eq_iff_iff]; simp; omega
          go_enter Try.func55, Try.ntmps55
          go_wp2
          go_ret
          exact ⟨retB HE.out, below1 _ _⟩
        · have HE : Hid (mayC c = false) := by unfold Hid mayC; rw [h2]; simp [hn]
          go_enter Try.func55, Try.ntmps55
          go_wp2
          go_ret
          exact ⟨retB HE.out, below1 _ _⟩
      · have HE : Hid (mayC c = false) := by unfold Hid mayC; simp [h0, h1, h2]
        have h2' : (c.k == 2) = false := by simpa using h2
        clear h0 h1 h2
        go_enter Try.func55, Try.ntmps55
        go_wp2
        go_ret
        exact ⟨retB HE.out, below1 _ _⟩
/-- A cell in a new block, in every world above. -/
theorem above_ca {w : World} {t : TypeId} {x y : Int} {s : ByteArray} : (∀ k : Above (w.alloc (.cells #[.int .i64 x, .int .i64 y, .string s] t)), k.it.cell? ⟨w.heap.size, 0, none⟩ = some (.int .i64 x)) ∧ (∀ k : Above (w.alloc (.cells #[.int .i64 x, .int .i64 y, .string s] t)), k.it.cell? ⟨w.heap.size, 1, none⟩ = some (.int .i64 y)) ∧ ∀ k : Above (w.alloc (.cells #[.int .i64 x, .int .i64 y, .string s] t)), k.it.cell? ⟨w.heap.size, 2, none⟩ = some (.string s) :=
  ⟨fun k => ((box_new _ _ _).over k.is).cell 0 _ rfl, fun k => ((box_new _ _ _).over k.is).cell 1 _ rfl, fun k => ((box_new _ _ _).over k.is).cell 2 _ rfl⟩
/-- What Check answers. -/
def errC (c : Cl) : Int := if mayC c = true then 0 else 1
end Go.Proofs.Ytflabcmjbhmphaa
/-
  Rows of cells in memory; the contracts of at (package cell's and the document's), and of the document's Compare, Light and Same.
-/
namespace Go.Proofs.Ytflabcmjbhmphaa
open Go.RowKit

/-- The cell c lies at b, from o on. -/
structure CellAt (w : World) (b o : Nat) (c : Cl) : Prop where
  c0 : w.cell? ⟨b, o, none⟩ = some (.int .i64 c.k)
  c1 : w.cell? ⟨b, o + 1, none⟩ = some (.int .i64 c.n)
  c2 : w.cell? ⟨b, o + 2, none⟩ = some (.string c.s)
theorem CellAt.below {w w' : World} {b o : Nat} {c : Cl} (h : CellAt w b o c) (hb : b < w.heap.size) (k : Below w.heap.size w w') : CellAt w' b o c :=
  ⟨(k.cell (p := ⟨b, o, none⟩) hb).trans h.c0, (k.cell (p := ⟨b, o + 1, none⟩) hb).trans h.c1, (k.cell (p := ⟨b, o + 2, none⟩) hb).trans h.c2⟩
/-- A slice of cells reads as r. -/
def RowIs (w : World) (v : Value) (r : List Cl) : Prop :=
  ∃ a cap, v = .slice a r.length cap ∧ (r ≠ [] → ∃ b off, a = some ⟨b, off, none⟩ ∧ b < w.heap.size ∧ ∀ i c, r[i]? = some c → CellAt w b (off + i * 3) c)
theorem RowIs.below {w w' : World} {v : Value} {r : List Cl} (h : RowIs w v r) (k : Below w.heap.size w w') : RowIs w' v r := by
  obtain ⟨a, cap, rfl, h⟩ := h
  refine ⟨a, cap, rfl, fun hr => ?_⟩
  obtain ⟨b, off, rfl, hb, hc⟩ := h hr
  exact ⟨b, off, rfl, Nat.lt_of_lt_of_le hb k.size, fun i c hi => (hc i c hi).below hb k⟩
/-- What stands in a column of a row. -/
def atC (r : List Cl) (k : Int) : Cl := if 0 ≤ k then r.getD k.toNat cl0 else cl0

/-- Few cells, of few bytes. -/
def lightC (r : List Cl) : Bool := decide (r.length ≤ 20) && r.all fun c => decide (c.s.size ≤ 100)
theorem light_no {r : List Cl} {i : Nat} {c : Cl} (hi : r[i]? = some c) (h : 100 < c.s.size) : lightC r = false := by
  unfold lightC
  have hm : c ∈ r := List.mem_of_getElem? hi
  have : (r.all fun c : Cl => decide (c.s.size ≤ 100)) = false := by
    rw [List.all_eq_false]
    exact ⟨c, hm, by simp; omega⟩
  rw [this, Bool.and_false]
theorem light_long {r : List Cl} (h : 20 < r.length) : lightC r = false := by
  unfold lightC
  rw [decide_eq_false (by omega), Bool.false_and]
theorem light_yes {r : List Cl} (h : r.length ≤ 20) (hc : ∀ (i : Nat) (c : Cl), r[i]? = some c → c.s.size ≤ 100) : lightC r = true := by
  unfold lightC
  rw [decide_eq_true h, Bool.true_and, List.all_eq_true]
  intro c hm
  obtain ⟨i, hi⟩ := List.getElem?_of_mem hm
  simpa using hc i c hi

set_option maxHeartbeats 1000000 in
theorem light_any (w : World) (v : Value) (r : List Cl) (h : RowIs w v r) (hm : r.length ≤ maxLen) :
    Calls Try.prog 17 #[v] w fun e w' => e = .returned (.bool (lightC r)) ∧ Below w.heap.size w w' := by
  unfold maxLen at hm
  obtain ⟨a, cap, rfl, h⟩ := h
  obtain ⟨n, hn⟩ : ∃ n, n = r.length := ⟨_, rfl⟩
  rw [← hn] at hm
  rw [← hn]
  have HN : Hid (n = r.length) := hn
  have HH : Hid (r ≠ [] → ∃ b off, a = some ⟨b, off, none⟩ ∧ b < w.heap.size ∧ ∀ i c, r[i]? = some c → CellAt w b (off + i * 3) c) := h
  clear hn h
  go_enter Try.func17, Try.ntmps17
  go_wp2
  go_loopg [3] (min n 20) (fun g s3 wx => ∃ i : Nat, i + g = min n 20 ∧ s3 = .int .i64 i ∧ (∀ (j : Nat) (c : Cl), j < i → r[j]? = some c → c.s.size ≤ 100) ∧ wx = w)
  case atStart => exact ⟨0, by omega, rfl, fun j c hj => by omega, rfl⟩
  case round =>
    obtain ⟨i, hig, rfl, hall, rfl⟩ := hrel
    have HA : Hid (∀ (j : Nat) (c : Cl), j < i → r[j]? = some c → c.s.size ≤ 100) := hall
    clear hall
    by_cases hi : i < n
    · by_cases hi2 : i < 20
      · have hiI : (i : Int) < (n : Int) := by omega
        have hi2I : (i : Int) < 20 := by omega
        have hrn := HN.out
        have hne : r ≠ [] := by rintro rfl; simp at hrn; omega
        obtain ⟨b, off, rfl, hb, hc⟩ := HH.out hne
        obtain ⟨c, hic⟩ : ∃ c, r[i]? = some c := ⟨_, List.getElem?_eq_getElem (by omega)⟩
        have q2 := (hc i c hic).c2
        have hr2 : IntKind.i64.wrap ((i : Int) + 1) = (i : Int) + 1 := by rw [IntKind.wrap_i64]; omega
        have HI : Hid (r[i]? = some c) := hic
        clear hc hic hne hrn
        by_cases hl : (100 : Int) < (c.s.size : Int)
        · go_wp2_with fail
          go_ret
          exact ⟨retB (light_no HI.out (by omega)), Below.refl _ _⟩
        · have hl' : c.s.size ≤ 100 := by omega
          clear hl'
          go_wp2_with fail
          go_roundg (min n 20 - (i + 1))
          case measure => clear hr2; omega
          case rel =>
            refine ⟨i + 1, by clear hr2; omega, by go_num, fun j x hj hx => ?_, rfl⟩
            by_cases e : j = i
            · subst e
              have := HI.out
              rw [hx] at this
              obtain rfl := Option.some.inj this
              omega
            · exact HA.out j x (by omega) hx
      · have hiI : (i : Int) < (n : Int) := by omega
        have hi2I : ¬ (i : Int) < 20 := by omega
        have h20 : ¬ (n : Int) ≤ 20 := by omega
        go_wp2_with fail
        go_ret
        have hrn := HN.out
        exact ⟨retB (light_long (by omega)), Below.refl _ _⟩
    · have hiI : ¬ (i : Int) < (n : Int) := by omega
      have h20 : (n : Int) ≤ 20 := by omega
      go_wp2_with fail
      go_ret
      have hrn := HN.out
      refine ⟨retB (light_yes (by omega) fun j c hj => HA.out j c ?_ hj), Below.refl _ _⟩
      have := (List.getElem?_eq_some_iff.1 hj).1
      omega
end Go.Proofs.Ytflabcmjbhmphaa
/-
  The contract of the document's Same, where both rows are the same.
-/
namespace Go.Proofs.Ytflabcmjbhmphaa
open Go.RowKit

set_option maxRecDepth 4000 in
set_option maxHeartbeats 4000000 in
theorem same_yes {w : World} {v1 v2 : Value} {r : List Cl} (h1 : RowIs w v1 r) (h2 : RowIs w v2 r) (hm : r.length ≤ maxLen) :
    Calls Try.prog 36 #[v1, v2] w fun e w' => e = .returned (.bool true) ∧ Below w.heap.size w w' := by
  unfold maxLen at hm
  obtain ⟨a1, cap1, rfl, h1⟩ := h1
  obtain ⟨a2, cap2, rfl, h2⟩ := h2
  obtain ⟨n, hn⟩ : ∃ n, n = r.length := ⟨_, rfl⟩
  rw [← hn] at hm
  rw [← hn]
  have HN : Hid (n = r.length) := hn
  have H1 : Hid (r ≠ [] → ∃ b off, a1 = some ⟨b, off, none⟩ ∧ b < w.heap.size ∧ ∀ i c, r[i]? = some c → CellAt w b (off + i * 3) c) := h1
  have H2 : Hid (r ≠ [] → ∃ b off, a2 = some ⟨b, off, none⟩ ∧ b < w.heap.size ∧ ∀ i c, r[i]? = some c → CellAt w b (off + i * 3) c) := h2
  clear hn h1 h2
  go_enter Try.func36, Try.ntmps36
  go_wp2_with fail
  go_loopg [5] n (fun gg s5 wx => ∃ i : Nat, i + gg = n ∧ s5 = .int .i64 i ∧ Below w.heap.size w wx)
  case atStart => exact ⟨0, by omega, rfl, Below.refl _ _⟩
  case round =>
    obtain ⟨i, hig, rfl, hb⟩ := hrel
    by_cases hi : i < n
    · have hiI : (i : Int) < (n : Int) := by omega
      have hrn := HN.out
      have hne : r ≠ [] := by rintro rfl; simp at hrn; omega
      obtain ⟨b1, off1, rfl, hb1, hc1⟩ := H1.out hne
      obtain ⟨b2, off2, rfl, hb2, hc2⟩ := H2.out hne
      obtain ⟨c, hic⟩ : ∃ c, r[i]? = some c := ⟨_, List.getElem?_eq_getElem (by omega)⟩
      have x1 := (hc1 i c hic).below hb1 hb
      have x2 := (hc2 i c hic).below hb2 hb
      have p0 := x1.c0
      have p1 := x1.c1
      have p2 := x1.c2
      have q0 := x2.c0
      have q1 := x2.c1
      have q2 := x2.c2
      have hr2 : IntKind.i64.wrap ((i : Int) + 1) = (i : Int) + 1 := by rw [IntKind.wrap_i64]; omega
      have HB : Hid (Below w.heap.size w wr) := hb
      clear hic hc1 hc2 x1 x2 hb hne hrn
      go_wp2_with fail
      go_quiet (fail)
      go_wp2_with fail
      go_roundg (n - (i + 1))
      case measure => clear hr2; omega
      case rel => exact ⟨i + 1, by clear hr2; omega, by go_num, ⟨HB.out.os, HB.out.tape, HB.out.output, HB.out.size, HB.out.block⟩⟩
    · have hiI : ¬ (i : Int) < (n : Int) := by omega
      have HB : Hid (Below w.heap.size w wr) := hb
      clear hb
      go_wp2_with fail
      go_ret
      exact ⟨rfl, HB.out⟩
end Go.Proofs.Ytflabcmjbhmphaa
/-
  A cell's bytes, and a row's: the contracts of package cell's put and Put.
-/
namespace Go.Proofs.Ytflabcmjbhmphaa
open Go.RowKit

/-- A cell's bytes. -/
def bytesC (c : Cl) : List UInt8 :=
  if c.k = 1 then 1 :: enc1 (BitVec.ofInt 64 c.n) else if c.k = 2 then 2 :: UInt8.ofNat c.s.size :: c.s.data.toList else [0]
/-- Its number is an int. -/
def okC (c : Cl) : Prop := -9223372036854775808 ≤ c.n ∧ c.n ≤ 9223372036854775807
theorem may_kind {c : Cl} (h : mayC c = true) : (c.k = 0 ∧ c.n = 0 ∧ c.s.size = 0) ∨ (c.k = 1 ∧ c.s.size = 0) ∨ (c.k = 2 ∧ c.n = 0 ∧ c.s.size ≤ 32) := by
  unfold mayC at h
  simp only [Bool.or_eq_true, Bool.and_eq_true, beq_iff_eq, decide_eq_true_eq] at h
  rcases h with (h | h) | h
  · exact .inl h
  · exact .inr (.inl h)
  · exact .inr (.inr h)
theorem bytesC_len {c : Cl} (h : mayC c = true) : 1 ≤ (bytesC c).length ∧ (bytesC c).length ≤ 34 := by
  have hs := Lib.size_eq c.s
  rcases may_kind h with ⟨h1, _⟩ | ⟨h1, _⟩ | ⟨h1, _, h3⟩
  · simp [bytesC, h1]
  · have := lenW_bd (zigW (BitVec.ofInt 64 c.n))
    simp only [bytesC, h1, if_true, List.length_cons, enc1_len]
    omega
  · simp only [bytesC, h1, if_true]
    rw [if_neg (by decide)]
    simp only [List.length_cons]
    omega
theorem small_u8 {n : Nat} (h : n ≤ 255) : (n : Int) = ((UInt8.ofNat n).toNat : Int) := by
  rw [UInt8.toNat_ofNat', Nat.mod_eq_of_lt (by omega)]

/-- A row's bytes, if it may be put. -/
def putL (r : List Cl) : List UInt8 := UInt8.ofNat r.length :: r.flatMap bytesC
def putOk (r : List Cl) : Bool := decide (r.length ≤ 255) && r.all mayC
/-- What Put answers. -/
def putA (r : List Cl) : ByteArray × Int := if putOk r = true then (str (putL r), 0) else (⟨#[]⟩, 1)
theorem flatC_len {r : List Cl} (h : ∀ c ∈ r, mayC c = true) : (r.flatMap bytesC).length ≤ 34 * r.length := by
  induction r with
  | nil => simp
  | cons c r ih =>
    have h1 := (bytesC_len (h c (by simp))).2
    have h2 := ih fun x hx => h x (by simp [hx])
    simp only [List.flatMap_cons, List.length_append, List.length_cons]
    omega
theorem flatC_snoc {r : List Cl} {i : Nat} {c : Cl} (h : r[i]? = some c) : (r.take (i + 1)).flatMap bytesC = (r.take i).flatMap bytesC ++ bytesC c := by
  rw [List.take_add_one, h]
  simp
theorem putA_long {r : List Cl} (h : 255 < r.length) : putA r = (⟨#[]⟩, 1) := by
  unfold putA putOk
  rw [decide_eq_false (by omega)]
  rfl
theorem putA_bad {r : List Cl} {i : Nat} {c : Cl} (h : r[i]? = some c) (hc : mayC c = false) : putA r = (⟨#[]⟩, 1) := by
  have : r.all mayC = false := by
    rw [List.all_eq_false]
    exact ⟨c, List.mem_of_getElem? h, by rw [hc]; simp⟩
  unfold putA putOk
  rw [this, Bool.and_false]
  rfl
theorem putA_ok {r : List Cl} (h : r.length ≤ 255) (hc : ∀ (i : Nat) (c : Cl), r[i]? = some c → mayC c = true) : putA r = (str (putL r), 0) := by
  have : r.all mayC = true := by
    rw [List.all_eq_true]
    intro c hm
    obtain ⟨i, hi⟩ := List.getElem?_of_mem hm
    exact hc i c hi
  unfold putA putOk
  rw [this, decide_eq_true h]
  rfl
theorem retT2 {a b : ByteArray} {x y : Int} (h : (b, y) = (a, x)) : Ending.returned (.tuple #[.string a, .int .i64 x]) = .returned (.tuple #[.string b, .int .i64 y]) := by
  obtain ⟨rfl, rfl⟩ := Prod.mk.inj h
  rfl

end Go.Proofs.Ytflabcmjbhmphaa
/-
  A slice of ints that came in, as words.
-/
namespace Go.Proofs.Ytflabcmjbhmphaa
open Go.RowKit

/-- What a law's walk is told of a slice of integers that came in: it is nil, or its cells (elements, then spare room) hold the numbers zs, each of its kind. -/
def IsRow (k : IntKind) (w : World) (a : Option Addr) (len cap : Nat) (zs : List Int) : Prop :=
  (a = none ∧ len = 0 ∧ cap = 0 ∧ zs = []) ∨
  ∃ x, a = some x ∧ len ≤ cap ∧ cap ≤ maxLen ∧ zs.length = cap ∧ (∀ i, i < zs.length → w.cell? (x.add i) = some (.int k (zs.getD i 0))) ∧ ∀ n ∈ zs, (Lit.int k n).wf = true

theorem reads_of_row {w : World} {a : Option Addr} {len cap : Nat} {zs : List Int} (h : IsRow .i64 w a len cap zs) : ∃ l : List (BitVec 64), l.length = len ∧ ReadsI w (.slice a len cap) l := by
  rcases h with ⟨rfl, rfl, rfl, rfl⟩ | ⟨x, rfl, hlc, _, hzl, hc, hwf⟩
  · exact ⟨[], rfl, .inl ⟨rfl, _, _, rfl⟩⟩
  · refine ⟨(zs.take len).map (BitVec.ofInt 64), by simp; omega, ?_⟩
    by_cases h0 : len = 0
    · subst h0
      exact .inl ⟨by simp, _, _, rfl⟩
    · obtain ⟨b, off, spot⟩ := x
      have hc0 := hc 0 (by omega)
      have hspot : spot = none := by simpa [Addr.add] using World.cell?_spot hc0
      subst hspot
      have hbw : b < w.heap.size := by
        have := World.block_lt_of_cell? w _ hc0
        simpa [Addr.add] using this
      have hll : ((zs.take len).map (BitVec.ofInt 64)).length = len := by simp; omega
      refine .inr ⟨b, off, cap, by rw [hll], fun e => h0 (by rw [← hll, e]; rfl), hbw, fun i hi => ?_⟩
      rw [hll] at hi
      have hadd : (⟨b, off, none⟩ : Addr).add i = ⟨b, off + i, none⟩ := by unfold Addr.add; split <;> simp_all
      have hz := hc i (by omega)
      rw [hadd] at hz
      rw [hz]
      have hiz : i < zs.length := by omega
      have hmem : zs[i] ∈ zs := List.getElem_mem hiz
      obtain ⟨y, hy⟩ := Wd.word_of _ (hwf _ hmem)
      have e1 : zs.getD i 0 = zs[i] := by simp [hiz]
      have e2 : ((zs.take len).map (BitVec.ofInt 64)).getD i 0#64 = BitVec.ofInt 64 zs[i] := by
        simp [hi, hiz]
      rw [e1, e2, hy]
      simp
end Go.Proofs.Ytflabcmjbhmphaa
/-
  Bytes in a block of the call's own, to be turned in place: what a cell is, what a store makes of them, the string of them.
-/
namespace Go.Proofs.Ytflabcmjbhmphaa
open Go.RowKit

/-- The text of a list of bytes. -/
def strB (l : List UInt8) : ByteArray := ⟨l.toArray⟩
theorem strB_size (l : List UInt8) : (strB l).size = l.length := rfl
theorem strB_list (l : List UInt8) : (strB l).data.toList = l := by simp [strB]
theorem strB_toList (l : List UInt8) : (strB l).toList = l := by
  rw [ByteArray.toList_eq]; exact strB_list l
theorem strB_of (s : ByteArray) : strB s.data.toList = s := by
  apply ByteArray.ext; simp [strB]

/-- In the world w the block b begins with the bytes l, and they may be turned. -/
def RowB (w : World) (b : Nat) (l : List UInt8) : Prop :=
  ∃ (c : Array Value) (t : TypeId) (fr : Nat × Nat), w.heap[b]? = some (.cells c t fr) ∧ (∀ i, i < l.length → c[i]? = some (.int .u8 ((l.getD i 0).toNat : Int))) ∧ (fr.2 ≤ fr.1 ∨ l.length ≤ fr.1)
theorem RowB.cell {w : World} {b : Nat} {l : List UInt8} (h : RowB w b l) (k : Nat) (hk : k < l.length) : w.cell? ⟨b, k, none⟩ = some (.int .u8 ((l.getD k 0).toNat : Int)) := by
  obtain ⟨c, t, fr, hb, hc, _⟩ := h
  rw [cell_of_row w b k c t fr hb]; exact hc k hk
theorem RowB.frozen {w : World} {b : Nat} {l : List UInt8} (h : RowB w b l) (k : Nat) (hk : k < l.length) : w.frozen? ⟨b, k, none⟩ = false := by
  obtain ⟨c, t, fr, hb, _, hf⟩ := h
  simp only [World.frozen?, hb]
  rcases hf with hf | hf
  · simp; omega
  · simp; omega
theorem RowB.set {w : World} {b : Nat} {l : List UInt8} (h : RowB w b l) (k : Nat) (hk : k < l.length) (x : UInt8) : RowB (w.setCell ⟨b, k, none⟩ (.int .u8 (x.toNat : Int))) b (l.set k x) := by
  obtain ⟨c, t, fr, hb, hc, hf⟩ := h
  have hck : k < c.size := (Array.getElem?_eq_some_iff.1 (hc k hk)).1
  refine ⟨c.setIfInBounds k (.int .u8 (x.toNat : Int)), t, fr, ?_, ?_, by simpa using hf⟩
  · simp [World.setCell, Array.getElem?_modify, hb]
  · intro i hi
    rw [List.length_set] at hi
    rw [Array.getElem?_setIfInBounds]
    by_cases e : k = i
    · subst e
      simp [hck, hk]
    · rw [if_neg e, hc i hi]
      simp [List.getD_eq_getElem?_getD, e]
theorem RowB.below {w w' : World} {b B : Nat} {l : List UInt8} (h : RowB w b l) (hb : Below B w w') (hB : b < B) : RowB w' b l := by
  obtain ⟨c, t, fr, h1, h2⟩ := h
  exact ⟨c, t, fr, by rw [hb.block b hB]; exact h1, h2⟩
theorem RowB.lt {w : World} {b : Nat} {l : List UInt8} (h : RowB w b l) : b < w.heap.size := by
  obtain ⟨c, t, fr, h1, _⟩ := h
  exact (Array.getElem?_eq_some_iff.1 h1).1
theorem RowB.drew {w : World} {b : Nat} {l : List UInt8} (h : RowB w b l) : RowB w.drew b l := h
theorem rowB_new (w : World) (c : Array Value) (t : TypeId) (l : List UInt8) (h : ∀ i, i < l.length → c[i]? = some (.int .u8 ((l.getD i 0).toNat : Int))) : RowB (w.alloc (.cells c t)) w.heap.size l :=
  ⟨c, t, (0, 0), heap_alloc_last w _, h, .inl (Nat.le_refl _)⟩
/-- 'string(b)' of such bytes. -/
theorem RowB.text {w : World} {b : Nat} {l : List UInt8} (h : RowB w b l) (cap : Nat) :
    (convert 93 9 (.slice (some ⟨b, 0, none⟩) l.length cap)).run Try.prog w = .ok (.string (strB l)) w := by
  refine run_convert_bytes_back w _ _ 5 _ cap l Try.underlying93 Try.underlying5 Try.underlying9 ?_
  intro j hj
  have hadd : (⟨b, 0, none⟩ : Addr).add j = ⟨b, j, none⟩ := by unfold Addr.add; split <;> simp_all
  rw [hadd, h.cell j hj]
  simp [hj]
/-- '[]byte(s)'. -/
theorem bytes_of (s : ByteArray) (w : World) :
    ∃ cap w', (convert 9 93 (.string s)).run Try.prog w = .ok (.slice (some ⟨w.heap.size, 0, none⟩) s.size cap) w' ∧ RowB w' w.heap.size s.data.toList ∧ Below w.heap.size w w' := by
  refine ⟨_, _, run_bytes_of_string w _ _ 5 s Try.underlying9 Try.underlying93 Try.underlying5, ?_, ?_⟩
  · refine ⟨_, _, _, heap_alloc_last w.drew _, ?_, .inr ?_⟩
    · intro i hi
      have hi2 : i < s.data.size := by simpa using hi
      unfold bytesRow
      rw [Array.getElem?_append_left (by simpa using hi2), Array.getElem?_map, Array.getElem?_eq_getElem hi2, List.getD_eq_getElem?_getD, Array.getElem?_toList, Array.getElem?_eq_getElem hi2]
      rfl
    · simp [bytesRow]
  · exact ((Below.refl _ _).drew).alloc (Nat.le_refl _) _
theorem infoB_u8 : (Try.prog.info? 5).map (fun i => (i.zero, i.size, i.bytes)) = some (some (.int .u8 0), 1, 1) := by kernel_rfl
/-- 'make([]byte, n)'. -/
theorem make_u8 {ops : Array Oper} {rest : List Oper} {o : Oper} {a : Act} {Q : Exit → Act → World → Prop} (hgd : o.guard = none) (l c : Operand) (hop : o.op = Op.makeSlice 93 l c)
    {w : World} {C : Int} {n : Nat} (hl : a.eval l = .int .i64 C) (hc : a.eval c = .int .i64 C) (hC : C = (n : Int)) (hn : n ≤ 1000000)
    (h : ∀ w', RowB w' w.heap.size (List.replicate n 0) → Below w.heap.size w w' → wpList Try.prog ops Q rest (a.put o.dst (.slice (some ⟨w.heap.size, 0, none⟩) n n)) w') : wpList Try.prog ops Q (o :: rest) a w := by
  obtain ⟨i0, hi, hz0, hz1, hz2⟩ := info_parts infoB_u8
  refine wpList_plain hgd fun K hK' => ?_
  have hr := run_make (P := Try.prog) w 93 5 i0 (.int .u8 0) Try.underlying93 hi hz0 .i64 .i64 n n (by omega) (Int.le_refl _) (by rw [hz2]; omega) (by omega)
  subst hC
  unfold Oper.wp
  simp [execOp, hop, hl, hc, hr, Result.andThen]
  refine hK' _ _ (h _ ?_ ?_)
  · refine rowB_new _ _ _ _ ?_
    intro i hi
    rw [List.length_replicate] at hi
    rw [hz1, Nat.mul_one]
    have e : (Value.int IntKind.u8 0).cells = #[.int .u8 0] := rfl
    rw [e]
    simp [madeCells, hi, Nat.mod_one]
  · exact (Below.refl _ _).alloc (Nat.le_refl _) _
end Go.Proofs.Ytflabcmjbhmphaa
/-
  Regions that draw their order, whose last operation waits for all others: where these are quiet in a class of worlds, the walk in the order of the text serves, and the last operation is done in whatever world of the class. No program is spoken of.
-/
namespace Go.Proofs.Ytflabcmjbhmphaa
open Go.RowKit

/-- What the text of the region must be. -/
def lastB (L : List Oper) : Bool :=
  Region.lexB .any L.dropLast.toArray &&
  (match L.getLast? with
    | some z => z.guard.isNone && ((List.range L.dropLast.length).all fun i => z.after.any fun e => Region.binds .any e && (e.on == i || (match L.dropLast[e.on]? with | some o => o.after.any fun e' => Region.binds .any e' && e'.on == i | none => false))) && (z.after.all fun e => !Region.binds .any e || decide (e.on < L.dropLast.length))
    | none => false) &&
  ((List.range L.dropLast.length).all fun j => match L.dropLast[j]? with
    | some o => (o.after.all fun e => !Region.binds .any e || decide (e.on < j)) && (match o.guard with | some (k, _) => decide (k < L.dropLast.length) | none => true)
    | none => true)

section
variable {P : Program} {l : List Oper} {z : Oper} {Q : Exit → Act → World → Prop}

theorem push_get (l : List Oper) (z : Oper) (j : Nat) (hj : j < l.length) : (l ++ [z]).toArray[j]? = l.toArray[j]? := by
  simp [List.getElem?_append_left hj]
theorem yielded_push (l : List Oper) (z : Oper) (t : Array Value) (j : Nat) (hj : j < l.length) : yielded (l ++ [z]).toArray t j = yielded l.toArray t j := by
  unfold yielded
  rw [push_get l z j hj]
theorem wanted_push (o : Oper) (hg : ∀ k b, o.guard = some (k, b) → k < l.length) (t : Array Value) : Region.wanted o (yielded (l ++ [z]).toArray t) = Region.wanted o (yielded l.toArray t) := by
  unfold Region.wanted
  split
  · rfl
  · rename_i k b hk
    rw [yielded_push l z t k (hg k b hk)]
theorem listed_push (a : Array Bool) (j : Nat) (d : Bool) (hj : j < a.size) : (a.push false).getD j d = a.getD j d := by
  simp [Array.getElem?_push, Nat.ne_of_lt hj]
theorem listed_pushF (a : Array Bool) (j : Nat) : (a.push false).getD j false = a.getD j false := by
  by_cases h : j < a.size
  · exact listed_push a j false h
  · by_cases e : j = a.size
    · subst e; simp
    · simp [Array.getElem?_push, e]
/-- How many have not come up. -/
def unl (a : Array Bool) : Nat := a.toList.count false
theorem unl_set (a : Array Bool) (i : Nat) (h : a.getD i true = false) : unl (a.setIfInBounds i true) + 1 = unl a := by
  have hi : i < a.size := by
    rcases Nat.lt_or_ge i a.size with h' | h'
    · exact h'
    · simp [Array.getElem?_eq_none h'] at h
  have h0 : a.toList[i]'(by simpa using hi) = false := by simpa [hi] using h
  unfold unl
  rw [Array.toList_setIfInBounds, List.count_set (by simpa using hi), h0]
  have h1 : false ∈ a.toList := by
    have hm := List.getElem_mem (l := a.toList) (n := i) (by simpa using hi)
    rwa [h0] at hm
  have h2 : 0 < a.toList.count false := List.count_pos_iff.2 h1
  have e1 : (false == false) = true := rfl
  have e2 : (true == false) = false := rfl
  simp only [e1, e2, if_true, Bool.false_eq_true, if_false]
  omega
theorem unl_pos (a : Array Bool) (h : 0 < unl a) : ∃ i, i < a.size ∧ a.getD i true = false ∧ ∀ j, j < i → a.getD j true = true := by
  have hm : false ∈ a.toList := List.count_pos_iff.1 h
  obtain ⟨i, hi, he⟩ := List.getElem_of_mem hm
  have hex : ∃ i, i < a.size ∧ a.getD i true = false := ⟨i, by simpa using hi, by simp at hi; simp [hi]; simpa using he⟩
  obtain ⟨n, hn⟩ : ∃ n, n = a.size := ⟨_, rfl⟩
  have key : ∀ n, (∃ i, i < n ∧ i < a.size ∧ a.getD i true = false) → ∃ i, i < a.size ∧ a.getD i true = false ∧ ∀ j, j < i → a.getD j true = true := by
    intro n
    induction n with
    | zero => rintro ⟨i, hi, _⟩; omega
    | succ n ih =>
      rintro ⟨i, hi, h1, h2⟩
      by_cases hx : ∃ i, i < n ∧ i < a.size ∧ a.getD i true = false
      · exact ih hx
      · refine ⟨i, h1, h2, fun j hj => ?_⟩
        cases hb : a.getD j true with
        | true => rfl
        | false => exact absurd ⟨j, by omega, by omega, hb⟩ hx
  obtain ⟨i, h1, h2⟩ := hex
  exact key (i + 1) ⟨i, by omega, h1, h2⟩
theorem unl_zero (a : Array Bool) (h : unl a = 0) (j : Nat) (hj : j < a.size) : a.getD j false = true := by
  cases hb : a.getD j false with
  | true => rfl
  | false =>
    have : false ∈ a.toList := by
      have h0 : a[j] = false := by simpa [hj] using hb
      rw [← h0]
      exact Array.getElem_mem_toList hj
    have := List.count_pos_iff.2 this
    unfold unl at h
    omega

theorem ready_lt {listed : Array Bool} (hs : listed.size = l.length) {j : Nat} (hj : j < l.length) : j ∈ Region.ready .any (l ++ [z]).toArray (listed.push false) ↔ j ∈ Region.ready .any l.toArray listed := by
  rw [mem_ready, mem_ready, push_get l z j hj, listed_push listed j true (by omega)]
  constructor
  · rintro ⟨h1, o, ho, h2⟩
    exact ⟨h1, o, ho, fun e he hb => by rw [← listed_pushF]; exact h2 e he hb⟩
  · rintro ⟨h1, o, ho, h2⟩
    exact ⟨h1, o, ho, fun e he hb => by rw [listed_pushF]; exact h2 e he hb⟩
theorem ready_top {ops : Array Oper} {listed : Array Bool} {j : Nat} (h : j ∈ Region.ready .any ops listed) : j < ops.size := by
  obtain ⟨_, o, ho, _⟩ := mem_ready.1 h
  exact (Array.getElem?_eq_some_iff.1 ho).1
/-- What is asked behind the others: the last operation. -/
def Then (P : Program) (z : Oper) (Q : Exit → Act → World → Prop) : Exit → Act → World → Prop
  | .normal, a, w => z.wp P a w (fun a w => Q .normal a w) Q
  | e, a, w => Q e a w
theorem then_panic {d : Option Tmp} {v : Value} (hQ : ∀ c a w, Q (.panic c) (a.put d v) w → Q (.panic c) a w) : ∀ c a w, Then P z Q (.panic c) (a.put d v) w → Then P z Q (.panic c) a w := hQ
theorem wp_then {o : Oper} {a : Act} {w : World} {K K' : Act → World → Prop} (h : ∀ a w, K a w → K' a w) (hh : o.wp P a w K (Then P z Q)) : o.wp P a w K' Q := by
  unfold Oper.wp at *
  generalize (execOp a.eval o).run P w = r at *
  cases r with
  | ok n w' =>
    cases n <;> simp only [Oper.upon] at hh ⊢
    case value => exact h _ _ hh
    case skip => exact h _ _ hh
    case defer => exact h _ _ hh
    case enter =>
      refine Calls.mono hh (fun e w'' he => ?_)
      cases e with
      | returned v => exact h _ _ he
      | panicked c => exact he
      | outgrown => exact he
    case row => exact Rows.mono hh (fun _ _ he => h _ _ he)
  | halt x w' => cases x <;> simp only [Oper.upon] at hh ⊢ <;> exact hh
theorem any_of_pre (hdep : ∀ j o, l[j]? = some o → (∀ e ∈ o.after, Region.binds .any e = true → e.on < j) ∧ ∀ k b, o.guard = some (k, b) → k < l.length)
    (hz : z.guard = none) (hw : ∀ i, i < l.length → ∃ e ∈ z.after, Region.binds .any e = true ∧ (e.on = i ∨ ∃ o, l[e.on]? = some o ∧ ∃ e' ∈ o.after, Region.binds .any e' = true ∧ e'.on = i)) (hze : ∀ e ∈ z.after, Region.binds .any e = true → e.on < l.length) :
    ∀ (fuel : Nat) (listed : Array Bool) (a : Act) (w : World), listed.size = l.length → unl listed = fuel → (∀ j o, l[j]? = some o → listed.getD j false = true → ∀ e ∈ o.after, Region.binds .any e = true → listed.getD e.on false = true) →
      wpAny P .any l.toArray (Then P z Q) fuel listed a w → wpAny P .any (l ++ [z]).toArray Q (fuel + 1) (listed.push false) a w := by
  intro fuel
  induction fuel with
  | zero =>
    intro listed a w hs hu _ h
    have hall := unl_zero listed hu
    have hone : ∀ j, j < l.length → ¬ (listed.getD j true = false) := fun j hj e => by
      have h1 := hall j (by omega)
      have hj' : j < listed.size := by omega
      simp [hj'] at e h1
      rw [e] at h1
      cases h1
    have hrz : l.length ∈ Region.ready .any (l ++ [z]).toArray (listed.push false) := by
      rw [mem_ready]
      refine ⟨by simp [← hs], z, by simp, fun e he hb => ?_⟩
      rw [listed_pushF]
      exact hall _ (by have := hze e he hb; omega)
    refine ⟨fun h0 => (by rw [h0] at hrz; cases hrz), fun i hi => ?_⟩
    have hlt := ready_top hi
    have hil : i = l.length := by
      simp at hlt
      rcases Nat.lt_or_ge i l.length with h' | h'
      · have := (mem_ready.1 hi).1
        rw [listed_push listed i true (by omega)] at this
        exact absurd this (hone i h')
      · omega
    subst hil
    have hsz : (l ++ [z]).toArray[l.length]? = some z := by simp
    unfold wpOp
    simp only [hsz, Region.wanted, hz, if_true]
    have hlast : z.wp P a w (fun a w => Q .normal a w) Q := h.2
    refine .inl (Oper.wp_mono (fun a' w' hq => ⟨?_, hq⟩) hlast)
    cases hr : Region.ready .any (l ++ [z]).toArray ((listed.push false).setIfInBounds l.length true) with
    | nil => rfl
    | cons x xs =>
      have hx : x ∈ Region.ready .any (l ++ [z]).toArray ((listed.push false).setIfInBounds l.length true) := by rw [hr]; simp
      have hxt := ready_top hx
      have hx1 := (mem_ready.1 hx).1
      simp at hxt
      by_cases e : x = l.length
      · subst e
        simp [← hs] at hx1
      · rw [getD_set_ne true (fun h' => e h'.symm), listed_push listed x true (by omega)] at hx1
        exact absurd hx1 (hone x (by omega))
  | succ fuel ih =>
    intro listed a w hs hu hcl h
    obtain ⟨i0, hi0, hf0, hmin⟩ := unl_pos listed (by omega)
    have hr0 : i0 ∈ Region.ready .any l.toArray listed := by
      have hsome : l[i0]? = some l[i0] := List.getElem?_eq_getElem (by omega)
      rw [mem_ready]
      refine ⟨hf0, l[i0], by simp, fun e he hb => ?_⟩
      have hlt := (hdep i0 _ hsome).1 e he hb
      have h1 := hmin _ hlt
      have h2 : e.on < listed.size := by omega
      simp [h2] at h1 ⊢
      exact h1
    have hr1 := (ready_lt (z := z) hs (by omega)).2 hr0
    refine ⟨fun h0 => (by rw [h0] at hr1; cases hr1), fun i hi => ?_⟩
    have hlt := ready_top hi
    have hil : i < l.length := by
      simp at hlt
      rcases Nat.lt_or_ge i l.length with h' | h'
      · exact h'
      · have e : i = l.length := by omega
        subst e
        obtain ⟨_, o, ho, hall⟩ := mem_ready.1 hi
        have hsz : (l ++ [z]).toArray[l.length]? = some z := by simp
        rw [hsz] at ho
        cases ho
        obtain ⟨e, he, hb, heq⟩ := hw i0 (by omega)
        have this := hall e he hb
        rw [listed_pushF] at this
        have this : listed.getD i0 false = true := by
          rcases heq with heq | ⟨o, ho, e', he', hb', heq⟩
          · rw [heq] at this; exact this
          · have h1 := hcl e.on o ho this e' he' hb'
            rw [heq] at h1
            exact h1
        simp [hi0] at this hf0
        rw [hf0] at this
        cases this
    have hi' := (ready_lt (z := z) hs hil).1 hi
    have hq := h.2 i hi'
    obtain ⟨hun, o, ho, hrd⟩ := mem_ready.1 hi'
    have ho' : l[i]? = some o := by simpa using ho
    have hset : (listed.push false).setIfInBounds i true = (listed.setIfInBounds i true).push false := by
      apply Array.ext'
      simp [List.set_append_left, hs, hil]
    have hus := unl_set listed i hun
    have hkeep : ∀ j, listed.getD j false = true → (listed.setIfInBounds i true).getD j false = true := fun j hj => by
      by_cases e : i = j
      · subst e
        have : i < listed.size := by omega
        simp [this]
      · rw [getD_set_ne false e]
        exact hj
    have hcl2 : ∀ j o, l[j]? = some o → (listed.setIfInBounds i true).getD j false = true → ∀ e ∈ o.after, Region.binds .any e = true → (listed.setIfInBounds i true).getD e.on false = true := by
      intro j o2 ho2 hj e he hb
      by_cases ej : i = j
      · subst ej
        rw [ho'] at ho2
        cases ho2
        exact hkeep _ (hrd e he hb)
      · rw [getD_set_ne false ej] at hj
        exact hkeep _ (hcl j o2 ho2 hj e he hb)
    unfold wpOp at hq
    rw [ho] at hq
    unfold wpOp
    rw [push_get l z i hil, ho]
    simp only at hq ⊢
    rw [wanted_push o (hdep i o ho').2]
    have hnext : ∀ a' w', wpAny P .any l.toArray (Then P z Q) fuel (listed.setIfInBounds i true) a' w' → wpAny P .any (l ++ [z]).toArray Q (fuel + 1) ((listed.push false).setIfInBounds i true) a' w' := by
      intro a' w' h'
      rw [hset]
      exact ih _ _ _ (by simpa using hs) (by omega) hcl2 h'
    split
    · rename_i hwt
      simp only [hwt, if_true] at hq
      rcases hq with hq | ⟨hq, a', w', hl⟩
      · exact .inl (wp_then hnext hq)
      · exact .inr ⟨hq, a', w', hl⟩
    · rename_i hwt
      simp only [hwt] at hq
      exact hnext _ _ hq

/-- **The last operation waits for all others.** -/
theorem wp_region_then {id : Nat} {a : Act} {w : World} {L : List Oper} (z : Oper) (hm : P.follows .mixedOrders = true) (hL : L.getLast? = some z) (hB : lastB L = true)
    (h : wpAny P .any L.dropLast.toArray (Then P z Q) L.dropLast.length (Array.replicate L.dropLast.length false) a w.drew) : (Code.region id L.toArray true).wp P Q a w := by
  have hne : L = L.dropLast ++ [z] := by
    have hn : L ≠ [] := by intro e; subst e; simp at hL
    have h1 := List.dropLast_concat_getLast hn
    rw [List.getLast?_eq_some_getLast hn] at hL
    rw [Option.some.inj hL] at h1
    exact h1.symm
  obtain ⟨l, hl⟩ : ∃ l, l = L.dropLast := ⟨_, rfl⟩
  unfold lastB at hB
  rw [hL] at hB
  rw [← hl] at hne h hB
  subst hne
  simp only [Bool.and_eq_true, List.all_eq_true, List.mem_range, Region.lexB, Option.isNone_iff_eq_none] at hB
  obtain ⟨⟨⟨hns, hlex⟩, ⟨hzg, hz1⟩, hz2⟩, hdep⟩ := hB
  refine wp_region_any hm ?_
  have hrep : Array.replicate (l ++ [z]).toArray.size false = (Array.replicate l.length false).push false := by
    apply Array.ext'
    simp [List.replicate_succ']
  have hsz : (l ++ [z]).toArray.size = l.length + 1 := by simp
  rw [hrep, hsz]
  refine any_of_pre ?_ hzg ?_ ?_ l.length _ a _ (by simp) ?_ ?_ h
  · intro j o ho
    have hj := (List.getElem?_eq_some_iff.1 ho).1
    have h1 := hdep j hj
    rw [ho] at h1
    simp only [Bool.and_eq_true, Array.all_eq_true_iff_forall_mem, Bool.or_eq_true, Bool.not_eq_true', decide_eq_true_eq] at h1
    refine ⟨fun e he hb => ?_, fun k b hg => ?_⟩
    · rcases h1.1 e he with h2 | h2
      · rw [hb] at h2; cases h2
      · exact h2
    · have h2 := h1.2
      rw [hg] at h2
      simpa using h2
  · intro i hi
    have h1 := hz1 i hi
    rw [Array.any_eq_true] at h1
    obtain ⟨j, hj, h2⟩ := h1
    simp only [Bool.and_eq_true, Bool.or_eq_true, beq_iff_eq] at h2
    refine ⟨z.after[j], Array.getElem_mem hj, h2.1, ?_⟩
    rcases h2.2 with h3 | h3
    · exact .inl h3
    · cases ho : l[z.after[j].on]? with
      | none => rw [ho] at h3; cases h3
      | some o =>
        rw [ho] at h3
        simp only [Array.any_eq_true, Bool.and_eq_true, beq_iff_eq] at h3
        obtain ⟨j', hj', h4⟩ := h3
        exact .inr ⟨o, rfl, o.after[j'], Array.getElem_mem hj', h4.1, h4.2⟩
  · intro e he hb
    rw [Array.all_eq_true_iff_forall_mem] at hz2
    have h1 := hz2 e he
    simp only [Bool.or_eq_true, Bool.not_eq_true', decide_eq_true_eq] at h1
    rcases h1 with h1 | h1
    · rw [hb] at h1; cases h1
    · exact h1
  · unfold unl
    simp
  · intro j o _ hj
    simp [Array.getElem?_replicate] at hj
    split at hj <;> simp at hj
/-- The others held under the condition S. -/
theorem wp_region_held_then {id : Nat} {a : Act} {w : World} {L : List Oper} (S : World → Prop) (z : Oper) (hm : P.follows .mixedOrders = true) (hL : L.getLast? = some z) (hB : lastB L = true)
    (h : wpAnyH P .any L.dropLast.toArray (Then P z Q) S L.dropLast.length (Array.replicate L.dropLast.length false) a w.drew) : (Code.region id L.toArray true).wp P Q a w :=
  wp_region_then z hm hL hB (wpAny_of_held _ _ _ _ h)
/-- One of the others, by its number, taken first. -/
theorem takeL {S : World → Prop} (i : Nat) {oi : Oper} {v : Value} {fuel : Nat} {listed : Array Bool} {a : Act} {w : World} (hi : l[i]? = some oi)
    (hs : Region.noSelect l.toArray = true) (hf : Region.free .any l.toArray listed i = true) (hr : (Region.ready .any l.toArray listed).contains i = true) (hQ : ∀ c a w, Q (.panic c) (a.put oi.dst v) w → Q (.panic c) a w)
    (hw : Region.wanted oi (yielded l.toArray a.tmps) = true) (hS : S w) (hy : ∀ w, S w → (execOp a.eval oi).run P w = .ok (.value v) w)
    (h : wpAnyH P .any l.toArray (Then P z Q) S fuel (listed.setIfInBounds i true) (a.put oi.dst v) w) : wpAnyH P .any l.toArray (Then P z Q) S (fuel + 1) listed a w :=
  wpAnyH_take (by simpa using hi) hs hf hr (then_panic hQ) (.inl ⟨hw, hy⟩) hS h
/-- A call of a Go function that alone may come up. -/
theorem callL {S : World → Prop} (i : Nat) {oi : Oper} {f : FuncId} {vs : Array Value} {fuel : Nat} {listed : Array Bool} {a : Act} {w : World} (hi : l[i]? = some oi) (hr : Region.ready .any l.toArray listed = [i])
    (hw : Region.wanted oi (yielded l.toArray a.tmps) = true) (hop : (execOp a.eval oi).run P w = .ok (.enter f vs) w)
    (hc : Calls P f vs w fun e w' => ∃ v, e = .returned v ∧ S w' ∧ wpAnyH P .any l.toArray (Then P z Q) S fuel (listed.setIfInBounds i true) (a.put oi.dst v) w') : wpAnyH P .any l.toArray (Then P z Q) S (fuel + 1) listed a w := by
  refine wpAnyH_all hr (by simp) ?_
  intro j hj
  simp only [List.mem_singleton] at hj
  subst hj
  have hi' : l.toArray[j]? = some oi := by simpa using hi
  unfold wpOp
  simp only [hi', hw, if_true]
  refine .inl ?_
  unfold Oper.wp
  rw [hop]
  refine Calls.mono hc fun e w' he => ?_
  obtain ⟨v, rfl, h⟩ := he
  exact h
/-- A store that alone may come up. -/
theorem stepL {S : World → Prop} (i : Nat) {oi : Oper} {fuel : Nat} {listed : Array Bool} {a : Act} {w : World} (w' : World) (hi : l[i]? = some oi) (hr : Region.ready .any l.toArray listed = [i])
    (hw : Region.wanted oi (yielded l.toArray a.tmps) = true) (hop : (execOp a.eval oi).run P w = .ok .skip w') (hS : S w')
    (h : wpAnyH P .any l.toArray (Then P z Q) S fuel (listed.setIfInBounds i true) (a.put oi.dst undef) w') : wpAnyH P .any l.toArray (Then P z Q) S (fuel + 1) listed a w := by
  refine wpAnyH_all hr (by simp) ?_
  intro j hj
  simp only [List.mem_singleton] at hj
  subst hj
  have hi' : l.toArray[j]? = some oi := by simpa using hi
  unfold wpOp
  simp only [hi', hw, if_true]
  refine .inl ?_
  unfold Oper.wp
  rw [hop]
  exact ⟨hS, h⟩
/-- A variable that is made, where that alone may come up. -/
theorem newL {S : World → Prop} (i : Nat) {oi : Oper} {fuel : Nat} {listed : Array Bool} {a : Act} {w : World} (w' : World) (v : Value) (hi : l[i]? = some oi) (hr : Region.ready .any l.toArray listed = [i])
    (hw : Region.wanted oi (yielded l.toArray a.tmps) = true) (hop : (execOp a.eval oi).run P w = .ok (.value v) w') (hS : S w')
    (h : wpAnyH P .any l.toArray (Then P z Q) S fuel (listed.setIfInBounds i true) (a.put oi.dst v) w') : wpAnyH P .any l.toArray (Then P z Q) S (fuel + 1) listed a w := by
  refine wpAnyH_all hr (by simp) ?_
  intro j hj
  simp only [List.mem_singleton] at hj
  subst hj
  have hi' : l.toArray[j]? = some oi := by simpa using hi
  unfold wpOp
  simp only [hi', hw, if_true]
  refine .inl ?_
  unfold Oper.wp
  rw [hop]
  exact ⟨hS, h⟩
/-- A call of a Go function or a variable that is made, whichever comes up first. -/
theorem callNewL {S : World → Prop} (i j : Nat) {oi oj : Oper} {f : FuncId} {vs : Array Value} {fuel : Nat} {listed : Array Bool} {a : Act} {w : World} (w' : World) (v : Value) (hi : l[i]? = some oi) (hj : l[j]? = some oj) (hr : Region.ready .any l.toArray listed = [i, j])
    (hwi : Region.wanted oi (yielded l.toArray a.tmps) = true) (hwj : Region.wanted oj (yielded l.toArray a.tmps) = true) (hop : (execOp a.eval oi).run P w = .ok (.enter f vs) w) (hop' : (execOp a.eval oj).run P w = .ok (.value v) w') (hS : S w')
    (hc : Calls P f vs w fun e w' => ∃ v, e = .returned v ∧ S w' ∧ wpAnyH P .any l.toArray (Then P z Q) S fuel (listed.setIfInBounds i true) (a.put oi.dst v) w')
    (h : wpAnyH P .any l.toArray (Then P z Q) S fuel (listed.setIfInBounds j true) (a.put oj.dst v) w') : wpAnyH P .any l.toArray (Then P z Q) S (fuel + 1) listed a w := by
  refine wpAnyH_all hr (by simp) ?_
  intro k hk
  simp only [List.mem_cons, List.not_mem_nil, or_false] at hk
  have hi' : l.toArray[i]? = some oi := by simpa using hi
  have hj' : l.toArray[j]? = some oj := by simpa using hj
  rcases hk with rfl | rfl
  · unfold wpOp
    simp only [hi', hwi, if_true]
    refine .inl ?_
    unfold Oper.wp
    rw [hop]
    refine Calls.mono hc fun e w' he => ?_
    obtain ⟨v, rfl, h⟩ := he
    exact h
  · unfold wpOp
    simp only [hj', hwj, if_true]
    refine .inl ?_
    unfold Oper.wp
    rw [hop']
    exact ⟨hS, h⟩
/-- All others have come up. -/
theorem doneL {S : World → Prop} {fuel : Nat} {listed : Array Bool} {a : Act} {w : World} (hr : Region.ready .any l.toArray listed = []) (h : z.wp P a w (fun a w => Q .normal a w) Q) : wpAnyH P .any l.toArray (Then P z Q) S fuel listed a w :=
  wpAnyH_done hr h fuel
/-- The others quiet in a class of worlds. -/
theorem wp_region_last {C : World → Prop} {id : Nat} {a : Act} {w : World} {L : List Oper} (z : Oper) (hm : P.follows .mixedOrders = true) (hL : L.getLast? = some z) (hB : lastB L = true) (hC : C w.drew)
    (h : wpQuiet P L.dropLast.toArray C (fun a' => ∀ w', C w' → z.wp P a' w' (fun a w => Q .normal a w) Q) L.dropLast a) : (Code.region id L.toArray true).wp P Q a w := by
  refine wp_region_then z hm hL hB (wpAny_of_quiet (C := C) (Q := fun a' => ∀ w', C w' → z.wp P a' w' (fun a w => Q .normal a w) Q) (fun a w' hw' hq => hq w' hw') _ _ _ _ hC ?_)
  unfold lastB at hB
  simp only [Bool.and_eq_true, Region.lexB] at hB
  exact wpAnyQ_lex (P := P) (C := C) (md := .any) hB.1.1.1 L.dropLast 0 (Array.replicate L.dropLast.length false) a (by simp) (by simpa using hB.1.1.2) h
/-- The same, in the class of all worlds above the first one. -/
theorem wp_region_above_last {id : Nat} {a : Act} {w : World} {L : List Oper} (z : Oper) (hm : P.follows .mixedOrders = true) (hL : L.getLast? = some z) (hB : lastB L = true)
    (h : Nonempty (Above w) → wpQuiet P L.dropLast.toArray (fun w' => ∃ k : Above w, w' = k.it) (fun a' => ∀ w', (∃ k : Above w, w' = k.it) → z.wp P a' w' (fun a w => Q .normal a w) Q) L.dropLast a) : (Code.region id L.toArray true).wp P Q a w :=
  wp_region_last (C := fun w' => ∃ k : Above w, w' = k.it) z hm hL hB ⟨⟨w.drew, (Below.refl _ _).drew⟩, rfl⟩ (h (above_some w))
end
end Go.Proofs.Ytflabcmjbhmphaa
