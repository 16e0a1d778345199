/-
  2 texts, one behind the other: XPure, XMem.
-/
import Derived.Test.YtdjobjbkpagnaaaGreatJoin1
import Derived.Test.YtdjobjbkpagnaaaGreatJoin2
import Derived.Test.YtdjobjbkpagnaaaGreatJoin3
import Derived.Deep.LoopGhost
/-
  Tables, columns and projections: when they may be, and what Create, Drop, Add and Remove make of them. Pure mathematics.
-/
namespace Go.Proofs.YtdjobjbkpagnaaaGreat
open Leb

structure Col where
  name : ByteArray
  kind : BitVec 64
  null : Bool
structure Pj where
  name : ByteArray
  cols : List (BitVec 64)
  keys : BitVec 64
structure Tb where
  name : ByteArray
  cols : List Col
  projs : List Pj

/-- Two texts are the same. -/
def eqS (a b : ByteArray) : Bool := decide (a.toList = b.toList)
theorem eqS_iff {a b : ByteArray} : eqS a b = true ↔ a = b := by
  unfold eqS
  rw [decide_eq_true_iff]
  constructor
  · intro h
    rw [ByteArray.toList_eq, ByteArray.toList_eq] at h
    exact ByteArray.ext (Array.toList_inj.1 h)
  · rintro rfl; rfl
theorem eqS_comm (a b : ByteArray) : eqS a b = eqS b a := by
  unfold eqS
  exact decide_eq_decide.2 ⟨Eq.symm, Eq.symm⟩
theorem snoc_ind {α : Type} {P : List α → Prop} (h0 : P []) (h1 : ∀ l x, P l → P (l ++ [x])) : ∀ l, P l := by
  have : ∀ l : List α, P l.reverse := by
    intro l
    induction l with
    | nil => exact h0
    | cons x r ih => rw [List.reverse_cons]; exact h1 _ _ ih
  intro l
  have := this l.reverse
  rwa [List.reverse_reverse] at this

/-- Two of a list are the same. -/
def twR {α : Type} (same : α → α → Bool) : List α → Bool
  | [] => false
  | x :: r => twR same r || r.any fun a => same a x
def tw {α : Type} (same : α → α → Bool) (l : List α) : Bool := twR same l.reverse
theorem tw_nil {α : Type} (same : α → α → Bool) : tw same [] = false := rfl
theorem tw_snoc {α : Type} (same : α → α → Bool) (l : List α) (x : α) : tw same (l ++ [x]) = (tw same l || l.any fun a => same a x) := by
  unfold tw
  rw [List.reverse_append]
  simp [twR]
theorem take_succ_of {α : Type} {l : List α} {k : Nat} {x : α} (h : l[k]? = some x) : l.take (k + 1) = l.take k ++ [x] := by
  rw [List.take_add_one, h]; rfl
theorem tw_take {α : Type} {same : α → α → Bool} {l : List α} {k : Nat} {x : α} (h : l[k]? = some x) : tw same (l.take (k + 1)) = (tw same (l.take k) || (l.take k).any fun a => same a x) := by
  rw [take_succ_of h, tw_snoc]
theorem tw_append {α : Type} (same : α → α → Bool) (a b : List α) (h : tw same (a ++ b) = false) : tw same a = false := by
  revert h
  refine snoc_ind (P := fun b => tw same (a ++ b) = false → tw same a = false) (fun h => by simpa using h) (fun b x ih h => ?_) b
  rw [← List.append_assoc, tw_snoc, Bool.or_eq_false_iff] at h
  exact ih h.1
theorem tw_take_true {α : Type} {same : α → α → Bool} {l : List α} {k : Nat} (h : tw same (l.take k) = true) : tw same l = true := by
  cases e : tw same l with
  | true => rfl
  | false =>
    have := tw_append same (l.take k) (l.drop k) (by rw [List.take_append_drop]; exact e)
    rw [this] at h
    exact h
/-- Pairs, by their places. -/
theorem tw_false_iff {α : Type} {same : α → α → Bool} {l : List α} : tw same l = false ↔ ∀ (i j : Nat) (x y : α), i < j → l[i]? = some x → l[j]? = some y → same x y = false := by
  refine snoc_ind (P := fun l => tw same l = false ↔ ∀ (i j : Nat) (x y : α), i < j → l[i]? = some x → l[j]? = some y → same x y = false) ?_ ?_ l
  · simp [tw_nil]
  · intro l z ih
    rw [tw_snoc, Bool.or_eq_false_iff, ih]
    constructor
    · rintro ⟨h1, h2⟩ i j x y hij hx hy
      by_cases hj : j < l.length
      · rw [List.getElem?_append_left (by omega)] at hx
        rw [List.getElem?_append_left hj] at hy
        exact h1 i j x y hij hx hy
      · have hj2 := (List.getElem?_eq_some_iff.1 hy).1
        rw [List.length_append, List.length_singleton] at hj2
        have hj3 : j = l.length := by omega
        rw [hj3, List.getElem?_append_right (Nat.le_refl _)] at hy
        rw [List.getElem?_append_left (by omega)] at hx
        simp at hy
        subst hy
        have := List.any_eq_false.1 h2 x (List.mem_of_getElem? hx)
        simpa using this
    · intro h
      refine ⟨fun i j x y hij hx hy => h i j x y hij ?_ ?_, ?_⟩
      · rw [List.getElem?_append_left (List.getElem?_eq_some_iff.1 hx).1]; exact hx
      · rw [List.getElem?_append_left (List.getElem?_eq_some_iff.1 hy).1]; exact hy
      · rw [List.any_eq_false]
        intro x hx
        obtain ⟨i, hi⟩ := List.getElem?_of_mem hx
        have hil := (List.getElem?_eq_some_iff.1 hi).1
        have := h i l.length x z hil (by rw [List.getElem?_append_left hil]; exact hi) (by rw [List.getElem?_append_right (Nat.le_refl _)]; simp)
        simpa using this

/-- The number of the first one for which p holds. -/
def idxI {α : Type} (p : α → Bool) (l : List α) : Int := match l.findIdx? p with | some i => (i : Int) | none => -1
theorem idx_hit {α : Type} {p : α → Bool} {l : List α} {k : Nat} {x : α} (h : (l.take k).any p = false) (hx : l[k]? = some x) (hp : p x = true) : idxI p l = (k : Int) := by
  have hk := (List.getElem?_eq_some_iff.1 hx).1
  have : l.findIdx? p = some k := by
    rw [List.findIdx?_eq_some_iff_getElem]
    refine ⟨hk, ?_, fun j hj => ?_⟩
    · rw [(List.getElem?_eq_some_iff.1 hx).2]; exact hp
    · have hm : l[j] ∈ l.take k := by
        rw [List.mem_take_iff_getElem]
        exact ⟨j, by omega, rfl⟩
      have := List.any_eq_false.1 h _ hm
      simpa using this
  unfold idxI
  rw [this]
theorem idx_none {α : Type} {p : α → Bool} {l : List α} (h : l.any p = false) : idxI p l = -1 := by
  have : l.findIdx? p = none := by
    rw [List.findIdx?_eq_none_iff]
    intro x hx
    have := List.any_eq_false.1 h x hx
    simpa using this
  unfold idxI
  rw [this]
theorem idx_any {α : Type} (p : α → Bool) (l : List α) : decide (0 ≤ idxI p l) = l.any p := by
  unfold idxI
  cases e : l.findIdx? p with
  | none =>
    rw [List.findIdx?_eq_none_iff] at e
    have : l.any p = false := by rw [List.any_eq_false]; intro x hx; rw [e x hx]; simp
    rw [this]; rfl
  | some i =>
    obtain ⟨hi, hp, _⟩ := List.findIdx?_eq_some_iff_getElem.1 e
    have : l.any p = true := List.any_eq_true.2 ⟨_, List.getElem_mem hi, hp⟩
    rw [this]
    simp
theorem idx_some {α : Type} {p : α → Bool} {l : List α} (h : 0 ≤ idxI p l) : ∃ (k : Nat) (x : α), idxI p l = k ∧ l[k]? = some x ∧ p x = true := by
  unfold idxI at h ⊢
  cases e : l.findIdx? p with
  | none => rw [e] at h; simp at h
  | some i =>
    obtain ⟨hi, hp, _⟩ := List.findIdx?_eq_some_iff_getElem.1 e
    exact ⟨i, l[i], rfl, List.getElem?_eq_getElem hi, hp⟩
theorem idx_or {α : Type} (p : α → Bool) (l : List α) : idxI p l = -1 ∨ ∃ (k : Nat) (x : α), idxI p l = k ∧ l[k]? = some x ∧ p x = true := by
  by_cases h : 0 ≤ idxI p l
  · exact .inr (idx_some h)
  · left
    have := idx_any p l
    rw [decide_eq_false h] at this
    exact idx_none this.symm
theorem any_take_succ {α : Type} {p : α → Bool} {l : List α} {k : Nat} {x : α} (h : l[k]? = some x) : (l.take (k + 1)).any p = ((l.take k).any p || p x) := by
  rw [take_succ_of h]; simp
theorem all_take_succ {α : Type} {p : α → Bool} {l : List α} {k : Nat} {x : α} (h : l[k]? = some x) : (l.take (k + 1)).all p = ((l.take k).all p && p x) := by
  rw [take_succ_of h]; simp
theorem not_any_not {α : Type} (p : α → Bool) (l : List α) : (!l.any fun x => !p x) = l.all p := by
  induction l with
  | nil => rfl
  | cons x r ih => simp only [List.any_cons, List.all_cons, Bool.not_or, Bool.not_not, ih]

/-- A letter; a byte that may be within a name; a name. -/
def letB (c : UInt8) : Bool := decide (97 ≤ c.toNat ∧ c.toNat ≤ 122)
def inNm (c : UInt8) : Bool := letB c || decide (48 ≤ c.toNat ∧ c.toNat ≤ 57) || decide (c.toNat = 95)
def nameB (s : ByteArray) : Bool := decide (1 ≤ s.size) && decide (s.size ≤ 16) && letB (s.data.toList.getD 0 0) && s.data.toList.all inNm
theorem inNm_iff (c : UInt8) : inNm c = true ↔ letB c = true ∨ (48 ≤ (c.toNat : Int) ∧ (c.toNat : Int) ≤ 57) ∨ (c.toNat : Int) = 95 := by
  unfold inNm
  rw [Bool.or_eq_true, Bool.or_eq_true, decide_eq_true_iff, decide_eq_true_iff, or_assoc]
  constructor
  · rintro (h | h | h)
    · exact .inl h
    · exact .inr (.inl (by omega))
    · exact .inr (.inr (by omega))
  · rintro (h | h | h)
    · exact .inl h
    · exact .inr (.inl (by omega))
    · exact .inr (.inr (by omega))
theorem letB_iff (c : UInt8) : letB c = true ↔ 97 ≤ (c.toNat : Int) ∧ (c.toNat : Int) ≤ 122 := by
  unfold letB
  rw [decide_eq_true_iff]
  omega
theorem name_eq {s : ByteArray} (h1 : 1 ≤ s.size) (h2 : s.size ≤ 16) : nameB s = (letB (s.data.toList.getD 0 0) && s.data.toList.all inNm) := by
  unfold nameB
  rw [decide_eq_true h1, decide_eq_true h2, Bool.true_and, Bool.true_and]
theorem name_short {s : ByteArray} (h : ¬ 1 ≤ s.size) : nameB s = false := by
  unfold nameB
  rw [decide_eq_false h]; rfl
theorem name_long {s : ByteArray} (h : ¬ s.size ≤ 16) : nameB s = false := by
  unfold nameB
  rw [decide_eq_false h, Bool.and_false]; rfl
/-- The first k bytes may stand in a name. -/
def nmTo (s : ByteArray) (k : Nat) : Prop := (s.data.toList.take k).all inNm = true ∧ (1 ≤ k → letB (s.data.toList.getD 0 0) = true)
theorem nm_zero (s : ByteArray) : nmTo s 0 := ⟨by simp, fun h => by omega⟩
theorem nm_next {s : ByteArray} {k : Nat} {c : UInt8} (h : nmTo s k) (hc : s.data.toList[k]? = some c) (hi : inNm c = true) (h0 : k = 0 → letB c = true) : nmTo s (k + 1) := by
  refine ⟨by rw [all_take_succ hc, h.1, hi]; rfl, fun _ => ?_⟩
  by_cases hk : k = 0
  · subst hk
    rw [List.getD_eq_getElem?_getD, hc]
    exact h0 rfl
  · exact h.2 (by omega)
theorem nm_end {s : ByteArray} (h : nmTo s s.size) (h1 : 1 ≤ s.size) (h2 : s.size ≤ 16) : nameB s = true := by
  obtain ⟨h3, h4⟩ := h
  rw [List.take_of_length_le (by simp)] at h3
  rw [name_eq h1 h2, h3, h4 h1]; rfl
theorem nm_bad {s : ByteArray} {k : Nat} {c : UInt8} (hc : s.data.toList[k]? = some c) (h : inNm c = false ∨ (k = 0 ∧ letB c = false)) : nameB s = false := by
  unfold nameB
  rcases h with h | ⟨rfl, h⟩
  · have : s.data.toList.all inNm = false := by
      rw [List.all_eq_false]
      exact ⟨c, List.mem_of_getElem? hc, by rw [h]; simp⟩
    rw [this, Bool.and_false]
  · have : letB (s.data.toList.getD 0 0) = false := by
      rw [List.getD_eq_getElem?_getD, hc]; exact h
    rw [this, Bool.and_false, Bool.false_and]
theorem let_in {c : UInt8} (h : letB c = true) : inNm c = true := by simp [inNm, h]
theorem name_len {s : ByteArray} (h : nameB s = true) : 1 ≤ s.size ∧ s.size ≤ 16 := by
  simp only [nameB, Bool.and_eq_true, decide_eq_true_eq] at h
  exact ⟨h.1.1.1, h.1.1.2⟩

def colOk (c : Col) : Bool := nameB c.name && (decide (c.kind.toInt = 1) || decide (c.kind.toInt = 2))
def sameC (a b : Col) : Bool := eqS a.name b.name
def colsB (l : List Col) : Bool := decide (1 ≤ l.length) && decide (l.length ≤ 8) && l.all colOk && !tw sameC l
def colIn (n : Nat) (c : BitVec 64) : Bool := decide (0 ≤ c.toInt) && decide (c.toInt < (n : Int))
def sameI (a b : BitVec 64) : Bool := decide (a.toInt = b.toInt)
def pjB (n : Nat) (p : Pj) : Bool := nameB p.name && decide (1 ≤ p.cols.length) && decide (p.cols.length ≤ n) && decide (0 ≤ p.keys.toInt) && decide (p.keys.toInt ≤ (p.cols.length : Int)) && p.cols.all (colIn n) && !tw sameI p.cols
/-- A projection has all columns. -/
def hasI (l : List (BitVec 64)) (c : Nat) : Bool := l.any fun x => decide (x.toInt = (c : Int))
def superB (n : Nat) (l : List (BitVec 64)) : Bool := (List.range n).all (hasI l) && decide (l.length = n)
def sameP (a b : Pj) : Bool := eqS a.name b.name
def readB (n : Nat) (l : List Pj) : Bool := l.any fun p => superB n p.cols
def tbB (t : Tb) : Bool := nameB t.name && colsB t.cols && decide (t.projs.length ≤ 6) && t.projs.all (pjB t.cols.length) && readB t.cols.length t.projs && !tw sameP t.projs
def sameT (a b : Tb) : Bool := eqS a.name b.name
def tabsB (l : List Tb) : Bool := decide (l.length ≤ 8) && l.all tbB && !tw sameT l

def findT (l : List Tb) (n : ByteArray) : Int := idxI (fun t => eqS t.name n) l
def findC (l : List Col) (n : ByteArray) : Int := idxI (fun c => eqS c.name n) l
def findP (l : List Pj) (n : ByteArray) : Int := idxI (fun p => eqS p.name n) l
/-- 0, 1 and so on. -/
def nums (n : Nat) : List (BitVec 64) := (List.range n).map (BitVec.ofNat 64)
def superN : ByteArray := str [115, 117, 112, 101, 114]

def createF (l : List Tb) (n : ByteArray) (cs : List Col) : List Tb × Int :=
  if (tabsB l && nameB n && colsB cs) = false then ([], 1)
  else if 0 ≤ findT l n then ([], 251)
  else if l.length = 8 then ([], 4)
  else (l ++ [⟨n, cs, [⟨superN, nums cs.length, 0#64⟩]⟩], 0)
def dropF (l : List Tb) (n : ByteArray) : List Tb × Int :=
  if tabsB l = false then ([], 1)
  else if findT l n < 0 then ([], 3)
  else (l.take (findT l n).toNat ++ l.drop ((findT l n).toNat + 1), 0)
def addAt (l : List Tb) (k : Nat) (t : Tb) (p : Pj) : List Tb × Int :=
  if pjB t.cols.length p = false then ([], 1)
  else if 0 ≤ findP t.projs p.name then ([], 251)
  else if t.projs.length = 6 then ([], 4)
  else (l.set k ⟨t.name, t.cols, t.projs ++ [p]⟩, 0)
def addF (l : List Tb) (n : ByteArray) (p : Pj) : List Tb × Int :=
  if tabsB l = false then ([], 1)
  else match l[(findT l n).toNat]? with
    | some t => if findT l n < 0 then ([], 3) else addAt l (findT l n).toNat t p
    | none => ([], 3)
def remL (t : Tb) (m : ByteArray) : List Pj := t.projs.take (findP t.projs m).toNat ++ t.projs.drop ((findP t.projs m).toNat + 1)
def remAt (l : List Tb) (k : Nat) (t : Tb) (m : ByteArray) : List Tb × Int :=
  if findP t.projs m < 0 then ([], 3)
  else if readB t.cols.length (remL t m) = false then ([], 250)
  else (l.set k ⟨t.name, t.cols, remL t m⟩, 0)
def remF (l : List Tb) (n m : ByteArray) : List Tb × Int :=
  if tabsB l = false then ([], 1)
  else match l[(findT l n).toNat]? with
    | some t => if findT l n < 0 then ([], 3) else remAt l (findT l n).toNat t m
    | none => ([], 3)
end Go.Proofs.YtdjobjbkpagnaaaGreat
/-
  Slices of columns, projections and tables in memory, down to the last number: how they read. No program is spoken of.
-/
namespace Go.Proofs.YtdjobjbkpagnaaaGreat
open Go.RowKit

theorem ret_int {k : IntKind} {a b : Int} (h : a = b) : Ending.returned (.int k a) = .returned (.int k b) := by rw [h]
theorem ret_bool {a b : Bool} (h : a = b) : Ending.returned (.bool a) = .returned (.bool b) := by rw [h]
/-- A slice reads as l; E: which cells an element has, of which there are sz. -/
def SlIs {α : Type} (E : World → α → List Value → Prop) (sz : Nat) (w : World) (v : Value) (l : List α) : Prop :=
  ∃ a cap, v = .slice a l.length cap ∧ l.length ≤ cap ∧ (l ≠ [] → ∃ b off, a = some ⟨b, off, none⟩ ∧ b < w.heap.size ∧
    ∀ (i : Nat) (x : α), l[i]? = some x → ∃ cs : List Value, cs.length = sz ∧ E w x cs ∧ ∀ (j : Nat) (u : Value), cs[j]? = some u → w.cell? ⟨b, off + i * sz + j, none⟩ = some u)
/-- What is told of an element stays when memory is made. -/
def Stays {α : Type} (E : World → α → List Value → Prop) : Prop := ∀ (w w' : World) (x : α) (cs : List Value), E w x cs → Below w.heap.size w w' → E w' x cs
section
variable {α : Type} {E : World → α → List Value → Prop} {sz : Nat} {w w' : World} {v : Value} {l : List α} {a : Option Addr} {n cap : Nat}
theorem SlIs.over (h : SlIs E sz w v l) (hE : Stays E) (k : Below w.heap.size w w') : SlIs E sz w' v l := by
  obtain ⟨a, cap, rfl, hcap, h⟩ := h
  refine ⟨a, cap, rfl, hcap, fun hl => ?_⟩
  obtain ⟨b, off, rfl, hb, hc⟩ := h hl
  refine ⟨b, off, rfl, Nat.lt_of_lt_of_le hb k.size, fun i x hi => ?_⟩
  obtain ⟨cs, h1, h2, h3⟩ := hc i x hi
  exact ⟨cs, h1, hE _ _ _ _ h2 k, fun j u hu => (k.cell (p := ⟨b, off + i * sz + j, none⟩) hb).trans (h3 j u hu)⟩
theorem SlIs.slice (h : SlIs E sz w v l) : ∃ a n cap, v = .slice a n cap ∧ l.length = n ∧ n ≤ cap := by
  obtain ⟨a, cap, rfl, hcap, _⟩ := h
  exact ⟨a, _, cap, rfl, rfl, hcap⟩
theorem SlIs.len (h : SlIs E sz w (.slice a n cap) l) : l.length = n ∧ n ≤ cap := by
  obtain ⟨a, cap, e, hcap, h⟩ := h
  cases e
  exact ⟨rfl, hcap⟩
theorem slIs_nil (E : World → α → List Value → Prop) (sz : Nat) (w : World) (a : Option Addr) (cap : Nat) : SlIs E sz w (.slice a 0 cap) [] := ⟨a, cap, rfl, Nat.zero_le _, fun h => absurd rfl h⟩
theorem SlIs.lies (h : SlIs E sz w (.slice a n cap) l) (hl : l ≠ []) : ∃ b off, a = some ⟨b, off, none⟩ ∧ b < w.heap.size ∧
    ∀ (i : Nat) (x : α), l[i]? = some x → ∃ cs : List Value, cs.length = sz ∧ E w x cs ∧ ∀ (j : Nat) (u : Value), cs[j]? = some u → w.cell? ⟨b, off + i * sz + j, none⟩ = some u := by
  obtain ⟨a, cap, e, hcap, h⟩ := h
  cases e
  exact h hl
/-- The element at k. -/
theorem SlIs.at (h : SlIs E sz w (.slice a n cap) l) {k : Nat} (hk : k < n) : ∃ (x : α) (cs : List Value) (b off : Nat), l[k]? = some x ∧ a = some ⟨b, off, none⟩ ∧ b < w.heap.size ∧ cs.length = sz ∧ E w x cs ∧ ∀ (j : Nat) (u : Value), cs[j]? = some u → w.cell? ⟨b, off + k * sz + j, none⟩ = some u := by
  obtain ⟨hl, _⟩ := h.len
  have hs : l[k]? = some l[k] := List.getElem?_eq_getElem (by omega)
  obtain ⟨b, off, rfl, hb, hall⟩ := h.lies (by rintro rfl; simp at hl; omega)
  obtain ⟨cs, h1, h2, h3⟩ := hall k _ hs
  exact ⟨_, cs, b, off, hs, rfl, hb, h1, h2, h3⟩
theorem SlIs.take (h : SlIs E sz w (.slice a n cap) l) {k : Nat} (hk : k ≤ n) : SlIs E sz w (.slice a k cap) (l.take k) := by
  have hn := h.len
  refine ⟨a, cap, by rw [List.length_take, Nat.min_eq_left (by omega)], by rw [List.length_take]; omega, fun hl => ?_⟩
  have hne : l ≠ [] := by rintro rfl; simp at hl
  obtain ⟨b, off, rfl, hb, hall⟩ := h.lies hne
  refine ⟨b, off, rfl, hb, fun i x hi => ?_⟩
  rw [List.getElem?_take] at hi
  split at hi
  · exact hall i x hi
  · cases hi
end

abbrev colC (c : Col) : List Value := [.string c.name, .int .i64 c.kind.toInt, .bool c.null]
def ColE (_ : World) (c : Col) (cs : List Value) : Prop := cs = colC c
def IntE (_ : World) (x : BitVec 64) (cs : List Value) : Prop := cs = [.int .i64 x.toInt]
def ByE (_ : World) (x : UInt8) (cs : List Value) : Prop := cs = [.int .u8 (x.toNat : Int)]
abbrev IntsIs (w : World) (v : Value) (l : List (BitVec 64)) : Prop := SlIs IntE 1 w v l
abbrev ColsIs (w : World) (v : Value) (l : List Col) : Prop := SlIs ColE 3 w v l
def PjE (w : World) (p : Pj) (cs : List Value) : Prop := ∃ v, cs = [.string p.name, v, .int .i64 p.keys.toInt] ∧ IntsIs w v p.cols
abbrev PjsIs (w : World) (v : Value) (l : List Pj) : Prop := SlIs PjE 3 w v l
def TbE (w : World) (t : Tb) (cs : List Value) : Prop := ∃ vc vp, cs = [.string t.name, vc, vp] ∧ ColsIs w vc t.cols ∧ PjsIs w vp t.projs
abbrev TabsIs (w : World) (v : Value) (l : List Tb) : Prop := SlIs TbE 3 w v l
theorem stays_int : Stays IntE := fun _ _ _ _ h _ => h
theorem stays_by : Stays ByE := fun _ _ _ _ h _ => h
theorem stays_col : Stays ColE := fun _ _ _ _ h _ => h
theorem stays_pj : Stays PjE := fun _ _ _ _ ⟨v, h1, h2⟩ k => ⟨v, h1, h2.over stays_int k⟩
theorem stays_tb : Stays TbE := fun _ _ _ _ ⟨vc, vp, h1, h2, h3⟩ k => ⟨vc, vp, h1, h2.over stays_col k, h3.over stays_pj k⟩

theorem one_col {w : World} {c : Col} {cs : List Value} (h : ColE w c cs) : ∀ u ∈ cs, u.oneCell' = true := by
  have e : cs = colC c := h
  subst e
  intro u hu
  simp only [colC, List.mem_cons, List.not_mem_nil, or_false] at hu
  rcases hu with rfl | rfl | rfl <;> rfl
theorem one_pj {w : World} {c : Pj} {cs : List Value} (h : PjE w c cs) : ∀ u ∈ cs, u.oneCell' = true := by
  obtain ⟨v, rfl, hv⟩ := h
  obtain ⟨a, n, cap, rfl, _⟩ := hv.slice
  intro u hu
  simp only [List.mem_cons, List.not_mem_nil, or_false] at hu
  rcases hu with rfl | rfl | rfl <;> rfl
theorem one_tb {w : World} {c : Tb} {cs : List Value} (h : TbE w c cs) : ∀ u ∈ cs, u.oneCell' = true := by
  obtain ⟨vc, vp, rfl, h1, h2⟩ := h
  obtain ⟨a, n, cap, rfl, _⟩ := h1.slice
  obtain ⟨a, n, cap, rfl, _⟩ := h2.slice
  intro u hu
  simp only [List.mem_cons, List.not_mem_nil, or_false] at hu
  rcases hu with rfl | rfl | rfl <;> rfl
theorem one_three {c0 c1 c2 : Value} (h : ∀ u ∈ [c0, c1, c2], u.oneCell' = true) : #[c0, c1, c2].all (·.oneCell') = true := by
  simp only [List.mem_cons, List.not_mem_nil, or_false, forall_eq_or_imp, forall_eq] at h
  simp [h.1, h.2.1, h.2.2]
theorem IntsIs.reads {w : World} {v : Value} {l : List (BitVec 64)} (h : IntsIs w v l) : ReadsI w v l := by
  obtain ⟨a, cap, rfl, hcap, h⟩ := h
  by_cases hl : l = []
  · subst hl; exact .inl ⟨rfl, _, _, rfl⟩
  · obtain ⟨b, off, rfl, hb, hc⟩ := h hl
    refine .inr ⟨b, off, cap, rfl, hl, hb, fun i hi => ?_⟩
    obtain ⟨cs, _, h2, h3⟩ := hc i l[i] (List.getElem?_eq_getElem hi)
    have e : cs = [.int .i64 (l[i]).toInt] := h2
    have := h3 0 _ (by rw [e]; rfl)
    rw [List.getD_eq_getElem?_getD, List.getElem?_eq_getElem hi]
    simpa using this
theorem ints_of_own {w : World} {B : Nat} {v : Value} {l : List (BitVec 64)} (h : OwnsI w B v l) : IntsIs w v l := by
  rcases h.cell with ⟨g, cap, rfl, _, hg, hcap, hc⟩ | ⟨rfl, rfl⟩
  · refine ⟨some ⟨g, 0, none⟩, cap, rfl, hcap, fun _ => ⟨g, 0, rfl, hg, fun i x hi => ⟨[.int .i64 x.toInt], rfl, rfl, fun j u hu => ?_⟩⟩⟩
    cases j with
    | zero =>
      simp at hu
      subst hu
      have := hc i (List.getElem?_eq_some_iff.1 hi).1
      rw [List.getD_eq_getElem?_getD, hi] at this
      simpa using this
    | succ j => simp at hu
  · exact slIs_nil _ _ _ _ _

/-- Rows of cells, one an element. -/
def RowsE {α : Type} (E : World → α → List Value → Prop) (w : World) (l : List α) (R : List (List Value)) : Prop :=
  R.length = l.length ∧ ∀ (i : Nat) (x : α) (r : List Value), l[i]? = some x → R[i]? = some r → E w x r
theorem slIs_of_srows {α : Type} {E : World → α → List Value → Prop} {sz : Nat} {w : World} {v : Value} {t : TypeId} {R : List (List Value)} {l : List α} (h : SRows w v t sz R) (hE : RowsE E w l R) : SlIs E sz w v l := by
  obtain ⟨hl, hE⟩ := hE
  have hlen := h.rowlen
  rcases h with ⟨rfl, h0⟩ | ⟨g, cap, rfl, hc1, hc2, hrows⟩
  · subst h0
    have : l = [] := List.eq_nil_of_length_eq_zero (by simpa using hl.symm)
    subst this
    exact slIs_nil _ _ _ _ _
  · rw [hl]
    refine ⟨some ⟨g, 0, none⟩, cap, rfl, by omega, fun _ => ⟨g, 0, rfl, hrows.lt, fun i x hi => ?_⟩⟩
    have hil := (List.getElem?_eq_some_iff.1 hi).1
    obtain ⟨r, hr⟩ : ∃ r, R[i]? = some r := ⟨_, List.getElem?_eq_getElem (by omega)⟩
    refine ⟨r, hlen r (List.mem_of_getElem? hr), hE i x r hi hr, fun j u hu => ?_⟩
    have := hrows.range hr j u hu
    simpa using this
/-- The rows that a slice has. -/
theorem SlIs.rows {α : Type} {E : World → α → List Value → Prop} {sz : Nat} {w : World} {a : Option Addr} {n cap : Nat} {l : List α} (h : SlIs E sz w (.slice a n cap) l) :
    ∃ R : List (List Value), RowsE E w l R ∧ (∀ r ∈ R, r.length = sz) ∧ (l ≠ [] → ∃ b off, a = some ⟨b, off, none⟩ ∧ b < w.heap.size ∧ ∀ (i : Nat) (r : List Value), R[i]? = some r → ∀ (j : Nat) (u : Value), r[j]? = some u → w.cell? ⟨b, off + i * sz + j, none⟩ = some u) := by
  by_cases hl : l = []
  · subst hl
    exact ⟨[], ⟨rfl, fun i x r hx => by simp at hx⟩, by simp, fun h => absurd rfl h⟩
  · obtain ⟨b, off, rfl, hb, hc⟩ := h.lies hl
    have key : ∀ m, m ≤ l.length → ∃ R : List (List Value), R.length = m ∧ (∀ r ∈ R, r.length = sz) ∧ ∀ (i : Nat) (r : List Value), R[i]? = some r → (∀ x, l[i]? = some x → E w x r) ∧ ∀ (j : Nat) (u : Value), r[j]? = some u → w.cell? ⟨b, off + i * sz + j, none⟩ = some u := by
      intro m
      induction m with
      | zero => exact fun _ => ⟨[], rfl, by simp, fun i r hr => by simp at hr⟩
      | succ m ih =>
        intro hm
        obtain ⟨R, h1, h2, h3⟩ := ih (by omega)
        have hx : l[m]? = some l[m] := List.getElem?_eq_getElem (by omega)
        obtain ⟨cs, c1, c2, c3⟩ := hc m _ hx
        refine ⟨R ++ [cs], by simp [h1], ?_, ?_⟩
        · intro r hr
          rcases List.mem_append.1 hr with hr | hr
          · exact h2 r hr
          · simp at hr; rw [hr]; exact c1
        · intro i r hr
          by_cases hi : i < R.length
          · rw [List.getElem?_append_left hi] at hr
            exact h3 i r hr
          · have hi2 := (List.getElem?_eq_some_iff.1 hr).1
            rw [List.length_append, List.length_singleton] at hi2
            have hi3 : i = R.length := by omega
            subst hi3
            rw [List.getElem?_append_right (Nat.le_refl _)] at hr
            simp at hr
            subst hr
            rw [h1]
            exact ⟨fun x hx' => by rw [hx] at hx'; cases hx'; exact c2, c3⟩
    obtain ⟨R, h1, h2, h3⟩ := key l.length (Nat.le_refl _)
    exact ⟨R, ⟨h1, fun i x r hx hr => (h3 i r hr).1 x hx⟩, h2, fun _ => ⟨b, off, rfl, hb, fun i r hr => (h3 i r hr).2⟩⟩
end Go.Proofs.YtdjobjbkpagnaaaGreat
