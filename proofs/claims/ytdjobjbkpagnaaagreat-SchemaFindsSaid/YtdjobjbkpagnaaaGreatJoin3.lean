/-
  7 texts, one behind the other: PMem, Last, XSuper, XMay, XClone, XGrowL, XGrow.
-/
import Derived.Test.YtdjobjbkpagnaaaGreatJoin2
import Derived.Deep.Strs
import Derived.Laws.OwnMore
import Derived.Laws.BytesArg
import Derived.WalkKit
import Derived.Deep.Quiet
import Derived.Deep.QuietTactic
import Derived.BigQuiet
import Derived.Below
import Derived.Deep.RegionHeld3
import Derived.Lib.SliceRun
import Derived.Lib.AppendZerosOnto
/-
  Slices of texts: what they own and how they read; slices of numbers and of texts that are made at once and stored into; the string of any bytes of the call's own; a slice of texts that came in.
-/
namespace Go.Proofs.YtdjobjbkpagnaaaGreat
open Go.RowKit

def sv (l : List ByteArray) : List Value := l.map .string
def OwnsS (w : World) (B : Nat) (v : Value) (l : List ByteArray) : Prop := w.ownsRow B 9 1 v l.length (sv l)
theorem OwnsS.below {w w' : World} {B : Nat} {v : Value} {l : List ByteArray} (h : OwnsS w B v l) (hb : Below w.heap.size w w') : OwnsS w' B v l := ownsRow_below h hb
theorem OwnsS.base {w : World} {B B' : Nat} {v : Value} {l : List ByteArray} (h : OwnsS w B v l) (hb : B' ≤ B) : OwnsS w B' v l := ownsRow_base h hb
theorem ownsS_nil (w : World) (B : Nat) : OwnsS w B (.slice none 0 0) [] := World.ownsRow_nil w B _ _
theorem info_text : (Tryz.prog.info? 9).map (fun i => (i.zero, i.size, i.bytes)) = some (some (.string ByteArray.empty), 1, 16) := by kernel_rfl

/-- The slice v reads as the texts l in the world w. -/
def ReadsS (w : World) (v : Value) (l : List ByteArray) : Prop :=
  (l = [] ∧ ∃ a c, v = .slice a 0 c) ∨
  (∃ b off c, v = .slice (some ⟨b, off, none⟩) l.length c ∧ l ≠ [] ∧ b < w.heap.size ∧ ∀ i t, l[i]? = some t → w.cell? ⟨b, off + i, none⟩ = some (.string t))
theorem ReadsS.below {w w' : World} {v : Value} {l : List ByteArray} (h : ReadsS w v l) (hb : Below w.heap.size w w') : ReadsS w' v l := by
  rcases h with h | ⟨b, off, c, hv, hl, hbw, hc⟩
  · exact .inl h
  · exact .inr ⟨b, off, c, hv, hl, Nat.lt_of_lt_of_le hbw hb.size, fun i t hi => (hb.cell (p := ⟨b, off + i, none⟩) hbw).trans (hc i t hi)⟩
theorem add0 (g i : Nat) : (⟨g, 0, none⟩ : Addr).add i = ⟨g, i, none⟩ := by unfold Addr.add; split <;> simp_all
theorem OwnsS.reads {w : World} {B : Nat} {v : Value} {l : List ByteArray} (h : OwnsS w B v l) : ReadsS w v l := by
  have hc := @World.ownsRow.cells _ _ _ _ _ _ _ h
  have hlt := h.lt
  rcases h.2 with ⟨rfl, h0⟩ | ⟨g, cap, cur, rfl, hb, hg, hcap, _⟩
  · exact .inl ⟨List.eq_nil_of_length_eq_zero h0, _, _, rfl⟩
  · by_cases hl : l = []
    · subst hl; exact .inl ⟨rfl, _, _, rfl⟩
    · refine .inr ⟨g, 0, cap, rfl, hl, (hlt g rfl).2, fun i t hi => ?_⟩
      have hx := hc rfl i (.string t) (by simp [sv, hi])
      rw [add0] at hx
      rw [Nat.zero_add]
      exact hx

/-- 'make([]byte, 0, n)'. -/
theorem make_bytes {ops : Array Oper} {rest : List Oper} {o : Oper} {a : Act} {Q : Exit → Act → World → Prop} (hgd : o.guard = none) (l c : Operand) (hop : o.op = Op.makeSlice 108 l c)
    {w : World} {C : Int} {n B : Nat} (hl : a.eval l = .int .i64 0) (hc : a.eval c = .int .i64 C) (hC : C = (n : Int)) (hn : n ≤ 1000000) (hB : B ≤ w.heap.size)
    (h : ∀ v' w', OwnsB w' B v' [] → Below B w w' → wpList Tryz.prog ops Q rest (a.put o.dst v') w') : wpList Tryz.prog ops Q (o :: rest) a w := by
  obtain ⟨i0, hi, hz0, hz1, hz2⟩ := info_parts info_u8
  refine wpList_make_own w hgd l c 108 hop B 5 i0 (.int .u8 0) 1 Tryz.underlying108 hi hz0 hz1 _ _ C n hl hc hC ?_ ?_ hB ?_
  · rw [hz2]; omega
  · unfold maxLen; omega
  · intro w' hown hg
    exact h _ w' hown ((Below.refl B w).grown hg hB (fun k hk => by cases hk))
/-- 'make([]int, n)'. -/
theorem make_ints {ops : Array Oper} {rest : List Oper} {o : Oper} {a : Act} {Q : Exit → Act → World → Prop} (hgd : o.guard = none) (l c : Operand) (hop : o.op = Op.makeSlice 24 l c)
    {w : World} {C : Int} {n B : Nat} (hl : a.eval l = .int .i64 C) (hc : a.eval c = .int .i64 C) (hC : C = (n : Int)) (hn : n ≤ 1000000) (hB : B ≤ w.heap.size)
    (h : ∀ w', OwnsI w' B (.slice (some ⟨w.heap.size, 0, none⟩) n n) (List.replicate n 0#64) → Below B w w' → wpList Tryz.prog ops Q rest (a.put o.dst (.slice (some ⟨w.heap.size, 0, none⟩) n n)) w') : wpList Tryz.prog ops Q (o :: rest) a w := by
  obtain ⟨i0, hi, hz0, hz1, hz2⟩ := info_parts info_i64
  refine wpList_make_full w hgd l c 24 hop B 3 i0 (.int .i64 0) 1 Tryz.underlying24 hi hz0 hz1 _ _ C C n hl hc hC hC ?_ ?_ hB ?_
  · rw [hz2]; omega
  · unfold maxLen; omega
  · intro w' hown hg
    refine h w' ?_ ((Below.refl B w).grown hg hB (fun k hk => by cases hk))
    have e : (madeCells (Value.int IntKind.i64 0).cells (n * 1)).toList = iv (List.replicate n 0#64) := by
      rw [Nat.mul_one, show (Value.int IntKind.i64 0).cells = #[.int .i64 0] from rfl, toList_madeCells_one]
      simp [iv]
    rw [e] at hown
    unfold OwnsI
    rw [List.length_replicate]
    exact hown
/-- A store into such a slice. -/
theorem OwnsI.store {w : World} {B g n cap : Nat} {l : List (BitVec 64)} (h : OwnsI w B (.slice (some ⟨g, 0, none⟩) n cap) l) (hn : n = l.length) (k : Nat) (hk : k < l.length) (x : BitVec 64) :
    w.cell? ⟨g, k, none⟩ = some (.int .i64 (l.getD k 0#64).toInt) ∧ w.frozen? ⟨g, k, none⟩ = false ∧ OwnsI (w.setCell ⟨g, k, none⟩ (.int .i64 x.toInt)) B (.slice (some ⟨g, 0, none⟩) n cap) (l.set k x) ∧ B ≤ g := by
  subst hn
  refine ⟨?_, World.ownsRow.frozenAt h k, ?_, (h.lt g rfl).1⟩
  · rw [World.ownsRow.cellAt h k (by omega)]
    simp [iv, hk]
  · have := (World.ownsRow.stored h k (.int .i64 x.toInt)).1
    unfold OwnsI
    rw [List.length_set]
    have e : (iv l).set k (.int .i64 x.toInt) = iv (l.set k x) := by simp [iv, List.map_set]
    rw [e] at this
    exact this
theorem OwnsS.store {w : World} {B g n cap : Nat} {l : List ByteArray} (h : OwnsS w B (.slice (some ⟨g, 0, none⟩) n cap) l) (hn : n = l.length) (k : Nat) (hk : k < l.length) (x : ByteArray) :
    (∃ t, w.cell? ⟨g, k, none⟩ = some (.string t)) ∧ w.frozen? ⟨g, k, none⟩ = false ∧ OwnsS (w.setCell ⟨g, k, none⟩ (.string x)) B (.slice (some ⟨g, 0, none⟩) n cap) (l.set k x) ∧ B ≤ g := by
  subst hn
  refine ⟨⟨l[k], ?_⟩, World.ownsRow.frozenAt h k, ?_, (h.lt g rfl).1⟩
  · rw [World.ownsRow.cellAt h k (by omega)]
    simp [sv, hk]
  · have := (World.ownsRow.stored h k (.string x)).1
    unfold OwnsS
    rw [List.length_set]
    have e : (sv l).set k (.string x) = sv (l.set k x) := by simp [sv, List.map_set]
    rw [e] at this
    exact this
theorem set_mid {α : Type} (d : List α) (g : Nat) (z x : α) (k : Nat) (hk : d.length = k) : (d ++ List.replicate (g + 1) z).set k x = (d ++ [x]) ++ List.replicate g z := by
  subst hk
  rw [List.set_append_right _ _ (Nat.le_refl _), Nat.sub_self, List.replicate_succ, List.set_cons_zero, List.append_assoc]
  rfl
/-- 'string(s)', s the call's own, of bytes. -/
theorem convert_all {w : World} {B : Nat} {v : Value} {l : List UInt8} (hown : OwnsB w B v l) :
    (convert 108 9 v).run Tryz.prog w = .ok (.string ⟨l.toArray⟩) w := by
  rcases Nat.eq_zero_or_pos l.length with h0 | hp
  · have hl : l = [] := List.eq_nil_of_length_eq_zero h0
    subst hl
    rcases hown.2 with ⟨rfl, _⟩ | ⟨g, cap, cur, rfl, _, _, _⟩
    · exact run_convert_bytes_nil w 108 5 Tryz.underlying108 Tryz.underlying5 _ _ 9 Tryz.underlying9
    · rw [run_convert_bytes_string w _ _ 5 _ _ _ Tryz.underlying108 Tryz.underlying5 Tryz.underlying9]
      have hload : (loadCells ⟨g, 0, none⟩ 0).run Tryz.prog w = .ok (([] : List Int).map (Value.int .u8)).toArray w := by
        have := run_loadCells_list (P := Tryz.prog) w ⟨g, 0, none⟩ [] (by intro j u h; simp at h)
        simpa using this
      have := run_bytesToString (P := Tryz.prog) w ⟨g, 0, none⟩ 0 cap [] hload
      exact this
  · exact convert_own hown hp
end Go.Proofs.YtdjobjbkpagnaaaGreat
/-
  Regions that draw their order, whose last operation waits for all others: where these are quiet in a class of worlds, the walk in the order of the text serves, and the last operation is done in whatever world of the class. No program is spoken of.
-/
namespace Go.Proofs.YtdjobjbkpagnaaaGreat
open Go.RowKit

/-- What the text of the region must be. -/
def lastB (L : List Oper) : Bool :=
  Region.lexB .any L.dropLast.toArray &&
  (match L.getLast? with
    | some z => z.guard.isNone && ((List.range L.dropLast.length).all fun i => z.after.any fun e => Region.binds .any e && (e.on == i || (match L.dropLast[e.on]? with | some o => o.after.any fun e' => Region.binds .any e' && e'.on == i | none => false))) && (z.after.all fun e => !Region.binds .any e || decide (e.on < L.dropLast.length))
    | none => false) &&
  ((List.range L.dropLast.length).all fun j => match L.dropLast[j]? with
    | some o => (o.after.all fun e => !Region.binds .any e || decide (e.on < j)) && (match o.guard with | some (k, _) => decide (k < L.dropLast.length) | none => true)
    | none => true)

section
variable {P : Program} {l : List Oper} {z : Oper} {Q : Exit → Act → World → Prop}

theorem push_get (l : List Oper) (z : Oper) (j : Nat) (hj : j < l.length) : (l ++ [z]).toArray[j]? = l.toArray[j]? := by
  simp [List.getElem?_append_left hj]
theorem yielded_push (l : List Oper) (z : Oper) (t : Array Value) (j : Nat) (hj : j < l.length) : yielded (l ++ [z]).toArray t j = yielded l.toArray t j := by
  unfold yielded
  rw [push_get l z j hj]
theorem wanted_push (o : Oper) (hg : ∀ k b, o.guard = some (k, b) → k < l.length) (t : Array Value) : Region.wanted o (yielded (l ++ [z]).toArray t) = Region.wanted o (yielded l.toArray t) := by
  unfold Region.wanted
  split
  · rfl
  · rename_i k b hk
    rw [yielded_push l z t k (hg k b hk)]
theorem listed_push (a : Array Bool) (j : Nat) (d : Bool) (hj : j < a.size) : (a.push false).getD j d = a.getD j d := by
  simp [Array.getElem?_push, Nat.ne_of_lt hj]
theorem listed_pushF (a : Array Bool) (j : Nat) : (a.push false).getD j false = a.getD j false := by
  by_cases h : j < a.size
  · exact listed_push a j false h
  · by_cases e : j = a.size
    · subst e; simp
    · simp [Array.getElem?_push, e]
/-- How many have not come up. -/
def unl (a : Array Bool) : Nat := a.toList.count false
theorem unl_set (a : Array Bool) (i : Nat) (h : a.getD i true = false) : unl (a.setIfInBounds i true) + 1 = unl a := by
  have hi : i < a.size := by
    rcases Nat.lt_or_ge i a.size with h' | h'
    · exact h'
    · simp [Array.getElem?_eq_none h'] at h
  have h0 : a.toList[i]'(by simpa using hi) = false := by simpa [hi] using h
  unfold unl
  rw [Array.toList_setIfInBounds, List.count_set (by simpa using hi), h0]
  have h1 : false ∈ a.toList := by
    have hm := List.getElem_mem (l := a.toList) (n := i) (by simpa using hi)
    rwa [h0] at hm
  have h2 : 0 < a.toList.count false := List.count_pos_iff.2 h1
  have e1 : (false == false) = true := rfl
  have e2 : (true == false) = false := rfl
  simp only [e1, e2, if_true, Bool.false_eq_true, if_false]
  omega
theorem unl_pos (a : Array Bool) (h : 0 < unl a) : ∃ i, i < a.size ∧ a.getD i true = false ∧ ∀ j, j < i → a.getD j true = true := by
  have hm : false ∈ a.toList := List.count_pos_iff.1 h
  obtain ⟨i, hi, he⟩ := List.getElem_of_mem hm
  have hex : ∃ i, i < a.size ∧ a.getD i true = false := ⟨i, by simpa using hi, by simp at hi; simp [hi]; simpa using he⟩
  obtain ⟨n, hn⟩ : ∃ n, n = a.size := ⟨_, rfl⟩
  have key : ∀ n, (∃ i, i < n ∧ i < a.size ∧ a.getD i true = false) → ∃ i, i < a.size ∧ a.getD i true = false ∧ ∀ j, j < i → a.getD j true = true := by
    intro n
    induction n with
    | zero => rintro ⟨i, hi, _⟩; omega
    | succ n ih =>
      rintro ⟨i, hi, h1, h2⟩
      by_cases hx : ∃ i, i < n ∧ i < a.size ∧ a.getD i true = false
      · exact ih hx
      · refine ⟨i, h1, h2, fun j hj => ?_⟩
        cases hb : a.getD j true with
        | true => rfl
        | false => exact absurd ⟨j, by omega, by omega, hb⟩ hx
  obtain ⟨i, h1, h2⟩ := hex
  exact key (i + 1) ⟨i, by omega, h1, h2⟩
theorem unl_zero (a : Array Bool) (h : unl a = 0) (j : Nat) (hj : j < a.size) : a.getD j false = true := by
  cases hb : a.getD j false with
  | true => rfl
  | false =>
    have : false ∈ a.toList := by
      have h0 : a[j] = false := by simpa [hj] using hb
      rw [← h0]
      exact Array.getElem_mem_toList hj
    have := List.count_pos_iff.2 this
    unfold unl at h
    omega

theorem ready_lt {listed : Array Bool} (hs : listed.size = l.length) {j : Nat} (hj : j < l.length) : j ∈ Region.ready .any (l ++ [z]).toArray (listed.push false) ↔ j ∈ Region.ready .any l.toArray listed := by
  rw [mem_ready, mem_ready, push_get l z j hj, listed_push listed j true (by omega)]
  constructor
  · rintro ⟨h1, o, ho, h2⟩
    exact ⟨h1, o, ho, fun e he hb => by rw [← listed_pushF]; exact h2 e he hb⟩
  · rintro ⟨h1, o, ho, h2⟩
    exact ⟨h1, o, ho, fun e he hb => by rw [listed_pushF]; exact h2 e he hb⟩
theorem ready_top {ops : Array Oper} {listed : Array Bool} {j : Nat} (h : j ∈ Region.ready .any ops listed) : j < ops.size := by
  obtain ⟨_, o, ho, _⟩ := mem_ready.1 h
  exact (Array.getElem?_eq_some_iff.1 ho).1
/-- What is asked behind the others: the last operation. -/
def Then (P : Program) (z : Oper) (Q : Exit → Act → World → Prop) : Exit → Act → World → Prop
  | .normal, a, w => z.wp P a w (fun a w => Q .normal a w) Q
  | e, a, w => Q e a w
theorem then_panic {d : Option Tmp} {v : Value} (hQ : ∀ c a w, Q (.panic c) (a.put d v) w → Q (.panic c) a w) : ∀ c a w, Then P z Q (.panic c) (a.put d v) w → Then P z Q (.panic c) a w := hQ
theorem wp_then {o : Oper} {a : Act} {w : World} {K K' : Act → World → Prop} (h : ∀ a w, K a w → K' a w) (hh : o.wp P a w K (Then P z Q)) : o.wp P a w K' Q := by
  unfold Oper.wp at *
  generalize (execOp a.eval o).run P w = r at *
  cases r with
  | ok n w' =>
    cases n <;> simp only [Oper.upon] at hh ⊢
    case value => exact h _ _ hh
    case skip => exact h _ _ hh
    case defer => exact h _ _ hh
    case enter =>
      refine Calls.mono hh (fun e w'' he => ?_)
      cases e with
      | returned v => exact h _ _ he
      | panicked c => exact he
      | outgrown => exact he
    case row => exact Rows.mono hh (fun _ _ he => h _ _ he)
  | halt x w' => cases x <;> simp only [Oper.upon] at hh ⊢ <;> exact hh
theorem any_of_pre (hdep : ∀ j o, l[j]? = some o → (∀ e ∈ o.after, Region.binds .any e = true → e.on < j) ∧ ∀ k b, o.guard = some (k, b) → k < l.length)
    (hz : z.guard = none) (hw : ∀ i, i < l.length → ∃ e ∈ z.after, Region.binds .any e = true ∧ (e.on = i ∨ ∃ o, l[e.on]? = some o ∧ ∃ e' ∈ o.after, Region.binds .any e' = true ∧ e'.on = i)) (hze : ∀ e ∈ z.after, Region.binds .any e = true → e.on < l.length) :
    ∀ (fuel : Nat) (listed : Array Bool) (a : Act) (w : World), listed.size = l.length → unl listed = fuel → (∀ j o, l[j]? = some o → listed.getD j false = true → ∀ e ∈ o.after, Region.binds .any e = true → listed.getD e.on false = true) →
      wpAny P .any l.toArray (Then P z Q) fuel listed a w → wpAny P .any (l ++ [z]).toArray Q (fuel + 1) (listed.push false) a w := by
  intro fuel
  induction fuel with
  | zero =>
    intro listed a w hs hu _ h
    have hall := unl_zero listed hu
    have hone : ∀ j, j < l.length → ¬ (listed.getD j true = false) := fun j hj e => by
      have h1 := hall j (by omega)
      have hj' : j < listed.size := by omega
      simp [hj'] at e h1
      rw [e] at h1
      cases h1
    have hrz : l.length ∈ Region.ready .any (l ++ [z]).toArray (listed.push false) := by
      rw [mem_ready]
      refine ⟨by simp [← hs], z, by simp, fun e he hb => ?_⟩
      rw [listed_pushF]
      exact hall _ (by have := hze e he hb; omega)
    refine ⟨fun h0 => (by rw [h0] at hrz; cases hrz), fun i hi => ?_⟩
    have hlt := ready_top hi
    have hil : i = l.length := by
      simp at hlt
      rcases Nat.lt_or_ge i l.length with h' | h'
      · have := (mem_ready.1 hi).1
        rw [listed_push listed i true (by omega)] at this
        exact absurd this (hone i h')
      · omega
    subst hil
    have hsz : (l ++ [z]).toArray[l.length]? = some z := by simp
    unfold wpOp
    simp only [hsz, Region.wanted, hz, if_true]
    have hlast : z.wp P a w (fun a w => Q .normal a w) Q := h.2
    refine .inl (Oper.wp_mono (fun a' w' hq => ⟨?_, hq⟩) hlast)
    cases hr : Region.ready .any (l ++ [z]).toArray ((listed.push false).setIfInBounds l.length true) with
    | nil => rfl
    | cons x xs =>
      have hx : x ∈ Region.ready .any (l ++ [z]).toArray ((listed.push false).setIfInBounds l.length true) := by rw [hr]; simp
      have hxt := ready_top hx
      have hx1 := (mem_ready.1 hx).1
      simp at hxt
      by_cases e : x = l.length
      · subst e
        simp [← hs] at hx1
      · rw [getD_set_ne true (fun h' => e h'.symm), listed_push listed x true (by omega)] at hx1
        exact absurd hx1 (hone x (by omega))
  | succ fuel ih =>
    intro listed a w hs hu hcl h
    obtain ⟨i0, hi0, hf0, hmin⟩ := unl_pos listed (by omega)
    have hr0 : i0 ∈ Region.ready .any l.toArray listed := by
      have hsome : l[i0]? = some l[i0] := List.getElem?_eq_getElem (by omega)
      rw [mem_ready]
      refine ⟨hf0, l[i0], by simp, fun e he hb => ?_⟩
      have hlt := (hdep i0 _ hsome).1 e he hb
      have h1 := hmin _ hlt
      have h2 : e.on < listed.size := by omega
      simp [h2] at h1 ⊢
      exact h1
    have hr1 := (ready_lt (z := z) hs (by omega)).2 hr0
    refine ⟨fun h0 => (by rw [h0] at hr1; cases hr1), fun i hi => ?_⟩
    have hlt := ready_top hi
    have hil : i < l.length := by
      simp at hlt
      rcases Nat.lt_or_ge i l.length with h' | h'
      · exact h'
      · have e : i = l.length := by omega
        subst e
        obtain ⟨_, o, ho, hall⟩ := mem_ready.1 hi
        have hsz : (l ++ [z]).toArray[l.length]? = some z := by simp
        rw [hsz] at ho
        cases ho
        obtain ⟨e, he, hb, heq⟩ := hw i0 (by omega)
        have this := hall e he hb
        rw [listed_pushF] at this
        have this : listed.getD i0 false = true := by
          rcases heq with heq | ⟨o, ho, e', he', hb', heq⟩
          · rw [heq] at this; exact this
          · have h1 := hcl e.on o ho this e' he' hb'
            rw [heq] at h1
            exact h1
        simp [hi0] at this hf0
        rw [hf0] at this
        cases this
    have hi' := (ready_lt (z := z) hs hil).1 hi
    have hq := h.2 i hi'
    obtain ⟨hun, o, ho, hrd⟩ := mem_ready.1 hi'
    have ho' : l[i]? = some o := by simpa using ho
    have hset : (listed.push false).setIfInBounds i true = (listed.setIfInBounds i true).push false := by
      apply Array.ext'
      simp [List.set_append_left, hs, hil]
    have hus := unl_set listed i hun
    have hkeep : ∀ j, listed.getD j false = true → (listed.setIfInBounds i true).getD j false = true := fun j hj => by
      by_cases e : i = j
      · subst e
        have : i < listed.size := by omega
        simp [this]
      · rw [getD_set_ne false e]
        exact hj
    have hcl2 : ∀ j o, l[j]? = some o → (listed.setIfInBounds i true).getD j false = true → ∀ e ∈ o.after, Region.binds .any e = true → (listed.setIfInBounds i true).getD e.on false = true := by
      intro j o2 ho2 hj e he hb
      by_cases ej : i = j
      · subst ej
        rw [ho'] at ho2
        cases ho2
        exact hkeep _ (hrd e he hb)
      · rw [getD_set_ne false ej] at hj
        exact hkeep _ (hcl j o2 ho2 hj e he hb)
    unfold wpOp at hq
    rw [ho] at hq
    unfold wpOp
    rw [push_get l z i hil, ho]
    simp only at hq ⊢
    rw [wanted_push o (hdep i o ho').2]
    have hnext : ∀ a' w', wpAny P .any l.toArray (Then P z Q) fuel (listed.setIfInBounds i true) a' w' → wpAny P .any (l ++ [z]).toArray Q (fuel + 1) ((listed.push false).setIfInBounds i true) a' w' := by
      intro a' w' h'
      rw [hset]
      exact ih _ _ _ (by simpa using hs) (by omega) hcl2 h'
    split
    · rename_i hwt
      simp only [hwt, if_true] at hq
      rcases hq with hq | ⟨hq, a', w', hl⟩
      · exact .inl (wp_then hnext hq)
      · exact .inr ⟨hq, a', w', hl⟩
    · rename_i hwt
      simp only [hwt] at hq
      exact hnext _ _ hq

/-- **The last operation waits for all others.** -/
theorem wp_region_then {id : Nat} {a : Act} {w : World} {L : List Oper} (z : Oper) (hm : P.follows .mixedOrders = true) (hL : L.getLast? = some z) (hB : lastB L = true)
    (h : wpAny P .any L.dropLast.toArray (Then P z Q) L.dropLast.length (Array.replicate L.dropLast.length false) a w.drew) : (Code.region id L.toArray true).wp P Q a w := by
  have hne : L = L.dropLast ++ [z] := by
    have hn : L ≠ [] := by intro e; subst e; simp at hL
    have h1 := List.dropLast_concat_getLast hn
    rw [List.getLast?_eq_some_getLast hn] at hL
    rw [Option.some.inj hL] at h1
    exact h1.symm
  obtain ⟨l, hl⟩ : ∃ l, l = L.dropLast := ⟨_, rfl⟩
  unfold lastB at hB
  rw [hL] at hB
  rw [← hl] at hne h hB
  subst hne
  simp only [Bool.and_eq_true, List.all_eq_true, List.mem_range, Region.lexB, Option.isNone_iff_eq_none] at hB
  obtain ⟨⟨⟨hns, hlex⟩, ⟨hzg, hz1⟩, hz2⟩, hdep⟩ := hB
  refine wp_region_any hm ?_
  have hrep : Array.replicate (l ++ [z]).toArray.size false = (Array.replicate l.length false).push false := by
    apply Array.ext'
    simp [List.replicate_succ']
  have hsz : (l ++ [z]).toArray.size = l.length + 1 := by simp
  rw [hrep, hsz]
  refine any_of_pre ?_ hzg ?_ ?_ l.length _ a _ (by simp) ?_ ?_ h
  · intro j o ho
    have hj := (List.getElem?_eq_some_iff.1 ho).1
    have h1 := hdep j hj
    rw [ho] at h1
    simp only [Bool.and_eq_true, Array.all_eq_true_iff_forall_mem, Bool.or_eq_true, Bool.not_eq_true', decide_eq_true_eq] at h1
    refine ⟨fun e he hb => ?_, fun k b hg => ?_⟩
    · rcases h1.1 e he with h2 | h2
      · rw [hb] at h2; cases h2
      · exact h2
    · have h2 := h1.2
      rw [hg] at h2
      simpa using h2
  · intro i hi
    have h1 := hz1 i hi
    rw [Array.any_eq_true] at h1
    obtain ⟨j, hj, h2⟩ := h1
    simp only [Bool.and_eq_true, Bool.or_eq_true, beq_iff_eq] at h2
    refine ⟨z.after[j], Array.getElem_mem hj, h2.1, ?_⟩
    rcases h2.2 with h3 | h3
    · exact .inl h3
    · cases ho : l[z.after[j].on]? with
      | none => rw [ho] at h3; cases h3
      | some o =>
        rw [ho] at h3
        simp only [Array.any_eq_true, Bool.and_eq_true, beq_iff_eq] at h3
        obtain ⟨j', hj', h4⟩ := h3
        exact .inr ⟨o, rfl, o.after[j'], Array.getElem_mem hj', h4.1, h4.2⟩
  · intro e he hb
    rw [Array.all_eq_true_iff_forall_mem] at hz2
    have h1 := hz2 e he
    simp only [Bool.or_eq_true, Bool.not_eq_true', decide_eq_true_eq] at h1
    rcases h1 with h1 | h1
    · rw [hb] at h1; cases h1
    · exact h1
  · unfold unl
    simp
  · intro j o _ hj
    simp [Array.getElem?_replicate] at hj
    split at hj <;> simp at hj
/-- The others held under the condition S. -/
theorem wp_region_held_then {id : Nat} {a : Act} {w : World} {L : List Oper} (S : World → Prop) (z : Oper) (hm : P.follows .mixedOrders = true) (hL : L.getLast? = some z) (hB : lastB L = true)
    (h : wpAnyH P .any L.dropLast.toArray (Then P z Q) S L.dropLast.length (Array.replicate L.dropLast.length false) a w.drew) : (Code.region id L.toArray true).wp P Q a w :=
  wp_region_then z hm hL hB (wpAny_of_held _ _ _ _ h)
/-- One of the others, by its number, taken first. -/
theorem takeL {S : World → Prop} (i : Nat) {oi : Oper} {v : Value} {fuel : Nat} {listed : Array Bool} {a : Act} {w : World} (hi : l[i]? = some oi)
    (hs : Region.noSelect l.toArray = true) (hf : Region.free .any l.toArray listed i = true) (hr : (Region.ready .any l.toArray listed).contains i = true) (hQ : ∀ c a w, Q (.panic c) (a.put oi.dst v) w → Q (.panic c) a w)
    (hw : Region.wanted oi (yielded l.toArray a.tmps) = true) (hS : S w) (hy : ∀ w, S w → (execOp a.eval oi).run P w = .ok (.value v) w)
    (h : wpAnyH P .any l.toArray (Then P z Q) S fuel (listed.setIfInBounds i true) (a.put oi.dst v) w) : wpAnyH P .any l.toArray (Then P z Q) S (fuel + 1) listed a w :=
  wpAnyH_take (by simpa using hi) hs hf hr (then_panic hQ) (.inl ⟨hw, hy⟩) hS h
/-- A call of a Go function that alone may come up. -/
theorem callL {S : World → Prop} (i : Nat) {oi : Oper} {f : FuncId} {vs : Array Value} {fuel : Nat} {listed : Array Bool} {a : Act} {w : World} (hi : l[i]? = some oi) (hr : Region.ready .any l.toArray listed = [i])
    (hw : Region.wanted oi (yielded l.toArray a.tmps) = true) (hop : (execOp a.eval oi).run P w = .ok (.enter f vs) w)
    (hc : Calls P f vs w fun e w' => ∃ v, e = .returned v ∧ S w' ∧ wpAnyH P .any l.toArray (Then P z Q) S fuel (listed.setIfInBounds i true) (a.put oi.dst v) w') : wpAnyH P .any l.toArray (Then P z Q) S (fuel + 1) listed a w := by
  refine wpAnyH_all hr (by simp) ?_
  intro j hj
  simp only [List.mem_singleton] at hj
  subst hj
  have hi' : l.toArray[j]? = some oi := by simpa using hi
  unfold wpOp
  simp only [hi', hw, if_true]
  refine .inl ?_
  unfold Oper.wp
  rw [hop]
  refine Calls.mono hc fun e w' he => ?_
  obtain ⟨v, rfl, h⟩ := he
  exact h
/-- A store that alone may come up. -/
theorem stepL {S : World → Prop} (i : Nat) {oi : Oper} {fuel : Nat} {listed : Array Bool} {a : Act} {w : World} (w' : World) (hi : l[i]? = some oi) (hr : Region.ready .any l.toArray listed = [i])
    (hw : Region.wanted oi (yielded l.toArray a.tmps) = true) (hop : (execOp a.eval oi).run P w = .ok .skip w') (hS : S w')
    (h : wpAnyH P .any l.toArray (Then P z Q) S fuel (listed.setIfInBounds i true) (a.put oi.dst undef) w') : wpAnyH P .any l.toArray (Then P z Q) S (fuel + 1) listed a w := by
  refine wpAnyH_all hr (by simp) ?_
  intro j hj
  simp only [List.mem_singleton] at hj
  subst hj
  have hi' : l.toArray[j]? = some oi := by simpa using hi
  unfold wpOp
  simp only [hi', hw, if_true]
  refine .inl ?_
  unfold Oper.wp
  rw [hop]
  exact ⟨hS, h⟩
/-- A variable that is made, where that alone may come up. -/
theorem newL {S : World → Prop} (i : Nat) {oi : Oper} {fuel : Nat} {listed : Array Bool} {a : Act} {w : World} (w' : World) (v : Value) (hi : l[i]? = some oi) (hr : Region.ready .any l.toArray listed = [i])
    (hw : Region.wanted oi (yielded l.toArray a.tmps) = true) (hop : (execOp a.eval oi).run P w = .ok (.value v) w') (hS : S w')
    (h : wpAnyH P .any l.toArray (Then P z Q) S fuel (listed.setIfInBounds i true) (a.put oi.dst v) w') : wpAnyH P .any l.toArray (Then P z Q) S (fuel + 1) listed a w := by
  refine wpAnyH_all hr (by simp) ?_
  intro j hj
  simp only [List.mem_singleton] at hj
  subst hj
  have hi' : l.toArray[j]? = some oi := by simpa using hi
  unfold wpOp
  simp only [hi', hw, if_true]
  refine .inl ?_
  unfold Oper.wp
  rw [hop]
  exact ⟨hS, h⟩
/-- A call of a Go function or a variable that is made, whichever comes up first. -/
theorem callNewL {S : World → Prop} (i j : Nat) {oi oj : Oper} {f : FuncId} {vs : Array Value} {fuel : Nat} {listed : Array Bool} {a : Act} {w : World} (w' : World) (v : Value) (hi : l[i]? = some oi) (hj : l[j]? = some oj) (hr : Region.ready .any l.toArray listed = [i, j])
    (hwi : Region.wanted oi (yielded l.toArray a.tmps) = true) (hwj : Region.wanted oj (yielded l.toArray a.tmps) = true) (hop : (execOp a.eval oi).run P w = .ok (.enter f vs) w) (hop' : (execOp a.eval oj).run P w = .ok (.value v) w') (hS : S w')
    (hc : Calls P f vs w fun e w' => ∃ v, e = .returned v ∧ S w' ∧ wpAnyH P .any l.toArray (Then P z Q) S fuel (listed.setIfInBounds i true) (a.put oi.dst v) w')
    (h : wpAnyH P .any l.toArray (Then P z Q) S fuel (listed.setIfInBounds j true) (a.put oj.dst v) w') : wpAnyH P .any l.toArray (Then P z Q) S (fuel + 1) listed a w := by
  refine wpAnyH_all hr (by simp) ?_
  intro k hk
  simp only [List.mem_cons, List.not_mem_nil, or_false] at hk
  have hi' : l.toArray[i]? = some oi := by simpa using hi
  have hj' : l.toArray[j]? = some oj := by simpa using hj
  rcases hk with rfl | rfl
  · unfold wpOp
    simp only [hi', hwi, if_true]
    refine .inl ?_
    unfold Oper.wp
    rw [hop]
    refine Calls.mono hc fun e w' he => ?_
    obtain ⟨v, rfl, h⟩ := he
    exact h
  · unfold wpOp
    simp only [hj', hwj, if_true]
    refine .inl ?_
    unfold Oper.wp
    rw [hop']
    exact ⟨hS, h⟩
/-- All others have come up. -/
theorem doneL {S : World → Prop} {fuel : Nat} {listed : Array Bool} {a : Act} {w : World} (hr : Region.ready .any l.toArray listed = []) (h : z.wp P a w (fun a w => Q .normal a w) Q) : wpAnyH P .any l.toArray (Then P z Q) S fuel listed a w :=
  wpAnyH_done hr h fuel
/-- The others quiet in a class of worlds. -/
theorem wp_region_last {C : World → Prop} {id : Nat} {a : Act} {w : World} {L : List Oper} (z : Oper) (hm : P.follows .mixedOrders = true) (hL : L.getLast? = some z) (hB : lastB L = true) (hC : C w.drew)
    (h : wpQuiet P L.dropLast.toArray C (fun a' => ∀ w', C w' → z.wp P a' w' (fun a w => Q .normal a w) Q) L.dropLast a) : (Code.region id L.toArray true).wp P Q a w := by
  refine wp_region_then z hm hL hB (wpAny_of_quiet (C := C) (Q := fun a' => ∀ w', C w' → z.wp P a' w' (fun a w => Q .normal a w) Q) (fun a w' hw' hq => hq w' hw') _ _ _ _ hC ?_)
  unfold lastB at hB
  simp only [Bool.and_eq_true, Region.lexB] at hB
  exact wpAnyQ_lex (P := P) (C := C) (md := .any) hB.1.1.1 L.dropLast 0 (Array.replicate L.dropLast.length false) a (by simp) (by simpa using hB.1.1.2) h
/-- The same, in the class of all worlds above the first one. -/
theorem wp_region_above_last {id : Nat} {a : Act} {w : World} {L : List Oper} (z : Oper) (hm : P.follows .mixedOrders = true) (hL : L.getLast? = some z) (hB : lastB L = true)
    (h : Nonempty (Above w) → wpQuiet P L.dropLast.toArray (fun w' => ∃ k : Above w, w' = k.it) (fun a' => ∀ w', (∃ k : Above w, w' = k.it) → z.wp P a' w' (fun a w => Q .normal a w) Q) L.dropLast a) : (Code.region id L.toArray true).wp P Q a w :=
  wp_region_last (C := fun w' => ∃ k : Above w, w' = k.it) z hm hL hB ⟨⟨w.drew, (Below.refl _ _).drew⟩, rfl⟩ (h (above_some w))
end
end Go.Proofs.YtdjobjbkpagnaaaGreat
/-
  The contracts of slices.Collect and Sorted of numbers, of slices.Equal, of schema's numbers and Super, and of the document's Super.
-/
namespace Go.Proofs.YtdjobjbkpagnaaaGreat
open Go.RowKit Go.Sort Go.Shelf

def ZE (_ : World) (x : Int) (cs : List Value) : Prop := cs = [.int .i64 x]
abbrev ZsIs (w : World) (v : Value) (l : List Int) : Prop := SlIs ZE 1 w v l
theorem stays_z : Stays ZE := fun _ _ _ _ h _ => h
theorem zs_of_ints {w : World} {v : Value} {l : List (BitVec 64)} (h : IntsIs w v l) : ZsIs w v (l.map (·.toInt)) := by
  obtain ⟨a, cap, rfl, hcap, h⟩ := h
  refine ⟨a, cap, by rw [List.length_map], by rw [List.length_map]; exact hcap, fun hl => ?_⟩
  obtain ⟨b, off, rfl, hb, hc⟩ := h (by rintro rfl; exact hl rfl)
  refine ⟨b, off, rfl, hb, fun i x hi => ?_⟩
  rw [List.getElem?_map, Option.map_eq_some_iff] at hi
  obtain ⟨y, hy, rfl⟩ := hi
  exact hc i y hy
theorem flat_one (l : List Int) : (l.map fun x => [Value.int .i64 x]).flatten = l.map (Value.int .i64) := by
  induction l with
  | nil => rfl
  | cons x r ih => rw [List.map_cons, List.flatten_cons, ih]; rfl
theorem zs_of_own {w : World} {B : Nat} {v : Value} {l : List Int} (h : w.ownsRow B 3 1 v l.length (l.map (Value.int .i64))) : ZsIs w v l := by
  have hs : SRows w v 3 1 (l.map fun x => [.int .i64 x]) := srows_of_own h (flat_one l).symm (by simp) (by decide) (by simp)
  refine slIs_of_srows hs ⟨by simp, fun i x r hx hr => ?_⟩
  rw [List.getElem?_map, hx] at hr
  cases hr
  rfl
theorem at1Z {w : World} {a : Option Addr} {n cap : Nat} {l : List Int} (h : ZsIs w (.slice a n cap) l) {k : Nat} (hk : k < n) : ∃ (x : Int) (b off : Nat), l[k]? = some x ∧ a = some ⟨b, off, none⟩ ∧ w.cell? ⟨b, off + k, none⟩ = some (.int .i64 x) := by
  obtain ⟨x, cs, b, off, h1, h2, _, h3, h4, h5⟩ := h.at hk
  have e : cs = [.int .i64 x] := h4
  subst e
  have := h5 0 _ rfl
  rw [Nat.mul_one] at this
  exact ⟨x, b, off, h1, h2, this⟩

/-- Numbers in order. -/
def sortZ (l : List Int) : List Int := l.mergeSort fun x y => decide (x ≤ y)
theorem sort_len (l : List Int) : (sortZ l).length = l.length := List.length_mergeSort _
theorem sort_own {w : World} {B : Nat} {v : Value} {l : List Int} (h : w.ownsRow B 3 1 v l.length (l.map (Value.int .i64))) (hl : l.length ≤ 1000000) (hB : B ≤ w.heap.size) :
    Calls Tryz.prog 80 #[v] w fun e w' => e = .returned (.tuple #[]) ∧ w'.ownsRow B 3 1 v (sortZ l).length ((sortZ l).map (Value.int .i64)) ∧ Below B w w' := by
  rcases h.2 with ⟨rfl, h0⟩ | ⟨g, cap, cur, rfl, hbg, hg, h1, h2, h3, h4⟩
  · have hl0 : l = [] := List.eq_nil_of_length_eq_zero h0
    subst hl0
    exact (Any.slices_Sort_int_none Tryz.lays189 none 0 w).mono fun e w' ⟨e1, e2⟩ => ⟨e1, by rw [e2]; exact ⟨by rw [show sortZ [] = [] by simp [sortZ]]; exact h, Below.refl _ _⟩⟩
  · have hlt := (Array.getElem?_eq_some_iff.1 hg).1
    have hH := holds_of_blockI (ss := l) hg (by rw [Nat.mul_one] at h4; exact h4)
    refine (Any.slices_Sort_int Tryz.lays189 g 0 cap l w hH hlt (by omega)).mono ?_
    rintro e w' ⟨e1, n, os, rfl⟩
    refine ⟨e1, ?_, (Below.refl B w).grown (grownBy_sortedI _) hB (fun k hk => by cases hk; exact hbg)⟩
    have := ownsRow_sortedI (n := n) (os := os) (ss := l) (ts := sortZ l) (sort_len l) hbg hg h1 h2 h3
    rw [sort_len]
    exact this
set_option maxHeartbeats 1000000 in
theorem values_any (a : Option Addr) (n cap : Nat) (w : World) : Calls Tryz.prog 41 #[.slice a n cap] w fun e w' => e = .returned (.func (.func 81) #[] #[.pointer (some ⟨w.heap.size, 0, none⟩)]) ∧ w' = w.alloc (.cells #[.slice a n cap] 24) := by
  go_enter Tryz.func41, Tryz.ntmps41
  go_wp2_with fail
  go_ret
  exact ⟨rfl, rfl⟩
set_option maxHeartbeats 1000000 in
theorem collect_any {w : World} {v : Value} {xs : List (BitVec 64)} (hs : IntsIs w v xs) (hl : xs.length ≤ 1000000) (Bv : Nat) (hBv : w.cell? ⟨Bv, 0, none⟩ = some v) :
    Calls Tryz.prog 79 #[.func (.func 81) #[] #[.pointer (some ⟨Bv, 0, none⟩)]] w fun e w' => (∃ v', e = .returned v' ∧ OwnsI w' w.heap.size v' xs) ∧ Below w.heap.size w w' := by
  have hc := appendSeq_any hs hl Bv hBv
  clear hs hl hBv
  go_enter Tryz.func79, Tryz.ntmps79
  go_wp2_with fail
  refine hc.mono ?_
  rintro e w1 ⟨⟨v', rfl, ho⟩, hb⟩
  have HO : Hid (OwnsI w1 w.heap.size v' xs) := ho
  clear ho
  go_wp2_with fail
  go_ret
  exact ⟨⟨v', rfl, HO.out⟩, hb⟩
set_option maxHeartbeats 1000000 in
theorem sorted_any {w : World} {v : Value} {xs : List (BitVec 64)} (hs : IntsIs w v xs) (hl : xs.length ≤ 1000000) (Bv : Nat) (hBv : w.cell? ⟨Bv, 0, none⟩ = some v) :
    Calls Tryz.prog 40 #[.func (.func 81) #[] #[.pointer (some ⟨Bv, 0, none⟩)]] w fun e w' => (∃ v', e = .returned v' ∧ ZsIs w' v' (sortZ (xs.map (·.toInt)))) ∧ Below w.heap.size w w' := by
  have hc := collect_any hs hl Bv hBv
  have HL : Hid (xs.length ≤ 1000000) := hl
  clear hs hl hBv
  go_enter Tryz.func40, Tryz.ntmps40
  go_wp2_with fail
  refine hc.mono ?_
  rintro e w1 ⟨⟨v', rfl, ho⟩, hb⟩
  have hso := sort_own (w := w1) (B := w.heap.size) (v := v') (l := xs.map (·.toInt)) (by have : w1.ownsRow w.heap.size 3 1 v' xs.length (iv xs) := ho; rw [List.length_map, List.map_map]; exact this) (by rw [List.length_map]; exact HL.out) hb.size
  obtain ⟨va, vc, rfl⟩ : ∃ va vc, v' = .slice va xs.length vc := (own_shape ho).1
  have HB : Hid (Below w.heap.size w w1) := hb
  clear ho hb hc
  go_wp2_with fail
  refine hso.mono ?_
  rintro e w2 ⟨rfl, ho2, hb2⟩
  have HO : Hid (w2.ownsRow w.heap.size 3 1 (.slice va xs.length vc) (sortZ (xs.map (·.toInt))).length ((sortZ (xs.map (·.toInt))).map (Value.int .i64)) ∧ Below w.heap.size w w2) := ⟨ho2, HB.out.trans hb2⟩
  clear ho2 hb2
  go_wp2_with fail
  go_ret
  exact ⟨⟨_, rfl, zs_of_own HO.out.1⟩, HO.out.2⟩

theorem perm_sub : ∀ (R l : List Int), R.Nodup → (∀ x ∈ R, x ∈ l) → l.length ≤ R.length → R.Perm l
  | [], l, _, _, hl => by
    have : l = [] := List.eq_nil_of_length_eq_zero (by simpa using hl)
    subst this; exact List.Perm.refl _
  | r :: R, l, hn, hs, hl => by
    rw [List.nodup_cons] at hn
    have hr : r ∈ l := hs r (by simp)
    have h := perm_sub R (l.erase r) hn.2 (fun x hx => (List.mem_erase_of_ne (by rintro rfl; exact hn.1 hx)).2 (hs x (by simp [hx]))) (by
      rw [List.length_erase_of_mem hr]
      simp only [List.length_cons] at hl
      omega)
    exact (List.Perm.cons r h).trans (List.perm_cons_erase hr).symm
def zran (n : Nat) : List Int := (List.range n).map fun k : Nat => (k : Int)
theorem zran_nodup (n : Nat) : (zran n).Nodup := by
  unfold zran List.Nodup
  rw [List.pairwise_map]
  exact List.pairwise_lt_range.imp fun h e => by omega
theorem zran_le (n : Nat) : (zran n).Pairwise fun x y => x ≤ y := by
  unfold zran
  rw [List.pairwise_map]
  exact List.pairwise_lt_range.imp fun h => by omega
theorem sort_le (l : List Int) : (sortZ l).Pairwise fun x y => x ≤ y := by
  have h := List.pairwise_mergeSort (le := fun x y : Int => decide (x ≤ y)) (fun a b c h1 h2 => by simp at h1 h2 ⊢; omega) (fun a b => by simp; omega) l
  exact h.imp fun h => by simpa using h
theorem sort_perm (l : List Int) : (sortZ l).Perm l := List.mergeSort_perm _ _
theorem hasI_iff {l : List (BitVec 64)} {c : Nat} : hasI l c = true ↔ (c : Int) ∈ l.map (·.toInt) := by
  unfold hasI
  rw [List.any_eq_true, List.mem_map]
  constructor
  · rintro ⟨x, hx, h⟩; exact ⟨x, hx, by simpa using h⟩
  · rintro ⟨x, hx, h⟩; exact ⟨x, hx, by simpa using h⟩
theorem super_sort (n : Nat) (l : List (BitVec 64)) : decide (sortZ (l.map (·.toInt)) = zran n) = superB n l := by
  have hiff : sortZ (l.map (·.toInt)) = zran n ↔ superB n l = true := by
    unfold superB
    rw [Bool.and_eq_true, decide_eq_true_iff, List.all_eq_true]
    constructor
    · intro h
      have hp : (zran n).Perm (l.map (·.toInt)) := h ▸ sort_perm _
      refine ⟨fun c hc => hasI_iff.2 (hp.mem_iff.1 ?_), ?_⟩
      · unfold zran; rw [List.mem_map]; exact ⟨c, hc, rfl⟩
      · have := hp.length_eq
        simp [zran] at this
        exact this.symm
    · rintro ⟨h1, h2⟩
      have hp : (zran n).Perm (l.map (·.toInt)) := perm_sub _ _ (zran_nodup n) (fun x hx => by
        unfold zran at hx
        rw [List.mem_map] at hx
        obtain ⟨c, hc, rfl⟩ := hx
        exact hasI_iff.1 (h1 c hc)) (by simp [zran, h2])
      exact List.Perm.eq_of_pairwise (le := fun x y => x ≤ y) (fun a b _ _ h1 h2 => by omega) (sort_le _) (zran_le n) ((sort_perm _).trans hp.symm)
  rw [Bool.eq_iff_iff, decide_eq_true_iff]
  exact hiff
theorem nums_len (n : Nat) : (nums n).length = n := by simp [nums]
theorem nums_zran {n : Nat} (h : n ≤ 1000000) : (nums n).map (·.toInt) = zran n := by
  unfold nums zran
  rw [List.map_map]
  apply List.map_congr_left
  intro k hk
  rw [List.mem_range] at hk
  exact Wd.toInt_of_small _ (by omega)
theorem nums_snoc (n : Nat) : nums (n + 1) = nums n ++ [BitVec.ofNat 64 n] := by simp [nums, List.range_succ]
theorem nums_set (k g : Nat) (x : BitVec 64) : (nums k ++ List.replicate (g + 1) x).set k (BitVec.ofNat 64 k) = nums (k + 1) ++ List.replicate g x := by
  rw [List.set_append_right _ _ (by rw [nums_len]; exact Nat.le_refl _), nums_len, Nat.sub_self, List.replicate_succ, List.set_cons_zero, nums_snoc, List.append_assoc]
  rfl

set_option maxHeartbeats 1000000 in
theorem numbers_any (a : Option Addr) (m cap : Nat) (hm : m ≤ 1000000) (w : World) :
    Calls Tryz.prog 42 #[.slice a m cap] w fun e w' => (∃ v', e = .returned v' ∧ OwnsI w' w.heap.size v' (nums m)) ∧ Below w.heap.size w w' := by
  have hmI : (m : Int) ≤ 1000000 := by omega
  go_enter Tryz.func42, Tryz.ntmps42
  go_wp2_with (at_make; refine make_ints rfl _ _ rfl rfl rfl rfl hm (Nat.le_refl _) ?_; intro w2 hown2 hb2)
  go_loopg [10] m (fun g s10 wx => ∃ k : Nat, k + g = m ∧ s10 = .int .i64 k ∧ OwnsI wx w.heap.size (.slice (some ⟨w.heap.size, 0, none⟩) m m) (nums k ++ List.replicate g 0#64) ∧ Below w.heap.size w wx)
  case atStart => exact ⟨0, by omega, rfl, by simpa [nums] using hown2, hb2⟩
  case round =>
    obtain ⟨k, hkg, rfl, hown, hb⟩ := hrel
    clear hown2 hb2
    cases gk with
    | zero =>
      have hkI : ¬ (k : Int) < (m : Int) := by omega
      obtain rfl : k = m := by omega
      rw [List.replicate_zero, List.append_nil] at hown
      go_wp2
      go_ret
      exact ⟨⟨_, rfl, hown⟩, hb⟩
    | succ g =>
      have hkI : (k : Int) < (m : Int) := by omega
      have hll : (nums k ++ List.replicate (g + 1) 0#64).length = m := by rw [List.length_append, nums_len, List.length_replicate]; omega
      obtain ⟨hc, hf, hset, hBg⟩ := OwnsI.store hown hll.symm k (by rw [hll]; omega) (BitVec.ofNat 64 k)
      rw [nums_set, Wd.toInt_of_small _ (by omega)] at hset
      obtain ⟨y, hy⟩ : ∃ y, y = ((nums k ++ List.replicate (g + 1) 0#64).getD k 0#64).toInt := ⟨_, rfl⟩
      rw [← hy] at hc
      clear hy hll hown
      go_wp2_with fail
      go_roundg g
      case measure => omega
      case rel => exact ⟨k + 1, by omega, by go_num, hset, hb.setCell (Nat.le_refl _) _⟩

set_option maxRecDepth 4000 in
set_option maxHeartbeats 4000000 in
theorem equal_any {w : World} {v1 v2 : Value} {l1 l2 : List Int} (h1 : ZsIs w v1 l1) (h2 : ZsIs w v2 l2) (hl : l1.length ≤ 1000000) (hl2 : l2.length ≤ 1000000) :
    Calls Tryz.prog 39 #[v1, v2] w fun e w' => e = .returned (.bool (decide (l1 = l2))) ∧ Below w.heap.size w w' := by
  obtain ⟨a1, n1, c1, rfl, hn1, hc1⟩ := h1.slice
  obtain ⟨a2, n2, c2, rfl, hn2, hc2⟩ := h2.slice
  have hn1I : (n1 : Int) ≤ 1000000 := by omega
  have hn2I : (n2 : Int) ≤ 1000000 := by omega
  by_cases hn : n1 = n2
  · subst hn
    have HH : Hid (ZsIs w (.slice a1 n1 c1) l1 ∧ ZsIs w (.slice a2 n1 c2) l2 ∧ l1.length = n1 ∧ l2.length = n1) := ⟨h1, h2, hn1, hn2⟩
    clear h1 h2 hl hl2 hn1 hn2 hc1 hc2 hn2I
    go_enter Tryz.func39, Tryz.ntmps39
    go_wp2_with fail
    go_loopg [13] n1 (fun gg s13 wx => ∃ k : Nat, k + gg = n1 ∧ s13 = .int .i64 k ∧ Hid (l1.take k = l2.take k) ∧ Hid (Below w.heap.size w wx))
    case atStart => exact ⟨0, by omega, rfl, by unfold Hid; rw [List.take_zero, List.take_zero], Below.refl _ _⟩
    case round =>
      obtain ⟨k, hkg, rfl, HN, HB⟩ := hrel
      by_cases hk : k < n1
      · have hkI : (k : Int) < (n1 : Int) := by omega
        obtain ⟨x, b, off, hx, rfl, e1⟩ := at1Z (HH.out.1.over stays_z HB.out) hk
        obtain ⟨y, b2, off2, hy, rfl, e2⟩ := at1Z (HH.out.2.1.over stays_z HB.out) hk
        have hr2 : IntKind.i64.wrap ((k : Int) + 1) = (k : Int) + 1 := by rw [IntKind.wrap_i64]; omega
        have HX : Hid (l1[k]? = some x ∧ l2[k]? = some y) := ⟨hx, hy⟩
        clear hx hy
        by_cases hxy : x = y
        · have hb : (x != y) = false := by simpa using hxy
          have HXY : Hid (x = y) := hxy
          clear hxy
          go_wp2_with fail
          go_quiet (fail)
          go_wp2_with fail
          go_roundg (n1 - (k + 1))
          case measure => clear hr2; omega
          case rel => exact ⟨k + 1, by clear hr2; omega, by go_num, by unfold Hid; rw [take_succ_of HX.out.1, take_succ_of HX.out.2, HN.out, HXY.out], ⟨HB.out.os, HB.out.tape, HB.out.output, HB.out.size, HB.out.block⟩⟩
        · have hb : (x != y) = true := by simpa using hxy
          have HXY : Hid (¬ x = y) := hxy
          clear hxy
          go_wp2_with fail
          go_quiet (fail)
          go_wp2_with fail
          go_ret
          exact ⟨ret_bool (by
            symm
            rw [decide_eq_false_iff_not]
            rintro rfl
            have := HX.out.1.symm.trans HX.out.2
            exact HXY.out (Option.some.inj this)), ⟨HB.out.os, HB.out.tape, HB.out.output, HB.out.size, HB.out.block⟩⟩
      · have hkI : ¬ (k : Int) < (n1 : Int) := by omega
        obtain rfl : k = n1 := by omega
        go_wp2_with fail
        go_ret
        exact ⟨ret_bool (by
          symm
          rw [decide_eq_true_iff]
          have := HN.out
          rwa [List.take_of_length_le (by rw [HH.out.2.2.1]; exact Nat.le_refl _), List.take_of_length_le (by rw [HH.out.2.2.2]; exact Nat.le_refl _)] at this), HB.out⟩
  · have hnb : ((n1 : Int) != (n2 : Int)) = true := by simp; omega
    have HN : Hid (¬ l1 = l2) := by rintro rfl; exact hn (hn1.symm.trans hn2)
    clear h1 h2 hl hl2 hn1 hn2 hc1 hc2 hn
    go_enter Tryz.func39, Tryz.ntmps39
    go_wp2_with fail
    go_ret
    exact ⟨ret_bool (decide_eq_false HN.out).symm, Below.refl _ _⟩

set_option maxRecDepth 4000 in
set_option maxHeartbeats 4000000 in
theorem super_any {w : World} {t : Tb} {p : Pj} {c0 c1 c2 d0 d1 d2 : Value} (ht : TbE w t [c0, c1, c2]) (hp : PjE w p [d0, d1, d2]) (hn : t.cols.length ≤ 1000000) (hm : p.cols.length ≤ 1000000) :
    Calls Tryz.prog 14 #[.agg #[c0, c1, c2], .agg #[d0, d1, d2]] w fun e w' => e = .returned (.bool (superB t.cols.length p.cols)) ∧ Below w.heap.size w w' := by
  obtain ⟨vc, vp, et, hC, hP⟩ := ht
  obtain ⟨vi, ep, hI⟩ := hp
  simp only [List.cons.injEq, and_true] at et ep
  obtain ⟨rfl, rfl, rfl⟩ := et
  obtain ⟨rfl, rfl, rfl⟩ := ep
  obtain ⟨a, n, cap, rfl, hna, hca⟩ := hC.slice
  obtain ⟨a2, m, cap2, rfl, hma, hca2⟩ := hI.slice
  obtain ⟨a3, n3, cap3, rfl, _⟩ := hP.slice
  rw [hna] at hn ⊢
  rw [hma] at hm
  have hz := super_sort n p.cols
  have hb0 := below2 w (.cells #[.string t.name, .slice a n cap, .slice a3 n3 cap3] 41) (.cells #[.string p.name, .slice a2 m cap2, .int .i64 p.keys.toInt] 26)
  have B1 := box_old w #[.string t.name, .slice a n cap, .slice a3 n3 cap3] 41 (.cells #[.string p.name, .slice a2 m cap2, .int .i64 p.keys.toInt] 26)
  have B2 := box_new (w.alloc (.cells #[.string t.name, .slice a n cap, .slice a3 n3 cap3] 41)) #[.string p.name, .slice a2 m cap2, .int .i64 p.keys.toInt] 26
  rw [World.size_alloc] at B2
  obtain ⟨w0, hw0⟩ : ∃ w0, w0 = (w.alloc (.cells #[.string t.name, .slice a n cap, .slice a3 n3 cap3] 41)).alloc (.cells #[.string p.name, .slice a2 m cap2, .int .i64 p.keys.toInt] 26) := ⟨_, rfl⟩
  rw [← hw0] at hb0 B1 B2
  have H0 : Hid (Below w.heap.size w w0 ∧ Box w0 w.heap.size 41 #[.string t.name, .slice a n cap, .slice a3 n3 cap3] ∧ Box w0 (w.heap.size + 1) 26 #[.string p.name, .slice a2 m cap2, .int .i64 p.keys.toInt]) := ⟨hb0, B1, B2⟩
  have HI : Hid (IntsIs w0 (.slice a2 m cap2) p.cols ∧ p.cols.length = m ∧ m ≤ 1000000 ∧ n ≤ 1000000) := ⟨hI.over stays_int hb0, hma, hm, hn⟩
  have HZ : Hid (decide (sortZ (p.cols.map (·.toInt)) = zran n) = superB n p.cols) := hz
  obtain ⟨tn, htn⟩ : ∃ x, x = t.name := ⟨_, rfl⟩
  obtain ⟨pn, hpn⟩ : ∃ x, x = p.name := ⟨_, rfl⟩
  obtain ⟨pk, hpk⟩ : ∃ x, x = p.keys.toInt := ⟨_, rfl⟩
  rw [← htn, ← hpn, ← hpk] at hw0 H0
  rw [← htn, ← hpn, ← hpk]
  have HW : Hid (w0 = (w.alloc (.cells #[.string tn, .slice a n cap, .slice a3 n3 cap3] 41)).alloc (.cells #[.string pn, .slice a2 m cap2, .int .i64 pk] 26)) := hw0
  clear hC hP hI hna hma hca hca2 hn hm hz hb0 B1 B2 hw0 htn hpn hpk
  go_enter Tryz.func14, Tryz.ntmps14
  go_wp2_with fail
  rw [← HW.out]
  refine wp_region_held_then (fun w' : World => w'.cell? ⟨w.heap.size, 1, none⟩ = some (.slice a n cap) ∧ w'.cell? ⟨w.heap.size + 1, 1, none⟩ = some (.slice a2 m cap2)) _ (by kernel_rfl) rfl (by kernel_rfl) ?_
  have hHeld : (fun w' : World => w'.cell? ⟨w.heap.size, 1, none⟩ = some (.slice a n cap) ∧ w'.cell? ⟨w.heap.size + 1, 1, none⟩ = some (.slice a2 m cap2)) w0.drew := ⟨H0.out.2.1.cell 1 _ rfl, H0.out.2.2.cell 1 _ rfl⟩
  dsimp only [List.dropLast, List.length, List.getLast]
  ((refine takeL 0 (v := ?_) rfl (by kernel_rfl) (by kernel_rfl) (by kernel_rfl) (fun _ _ _ h => h) (by rfl) hHeld ?_ ?_; rotate_left; focus (intro w hSw; (try dsimp only at hSw); go_simp <;> with_reducible rfl); (try simp only [Act.put, List.setIfInBounds_toArray, List.set_cons_zero, List.set_cons_succ])); (refine takeL 1 (v := ?_) rfl (by kernel_rfl) (by kernel_rfl) (by kernel_rfl) (fun _ _ _ h => h) (by rfl) hHeld ?_ ?_; rotate_left; focus (intro w hSw; (try dsimp only at hSw); go_simp <;> with_reducible rfl); (try simp only [Act.put, List.setIfInBounds_toArray, List.set_cons_zero, List.set_cons_succ])); (refine takeL 4 (v := ?_) rfl (by kernel_rfl) (by kernel_rfl) (by kernel_rfl) (fun _ _ _ h => h) (by rfl) hHeld ?_ ?_; rotate_left; focus (intro w hSw; (try dsimp only at hSw); go_simp <;> with_reducible rfl); (try simp only [Act.put, List.setIfInBounds_toArray, List.set_cons_zero, List.set_cons_succ])); (refine takeL 5 (v := ?_) rfl (by kernel_rfl) (by kernel_rfl) (by kernel_rfl) (fun _ _ _ h => h) (by rfl) hHeld ?_ ?_; rotate_left; focus (intro w hSw; (try dsimp only at hSw); go_simp <;> with_reducible rfl); (try simp only [Act.put, List.setIfInBounds_toArray, List.set_cons_zero, List.set_cons_succ])))
  dsimp only [Act.put]
  simp only [List.setIfInBounds_toArray, List.set_cons_zero, List.set_cons_succ]
  refine callL 2 (f := 41) (vs := #[.slice a2 m cap2]) rfl (by kernel_rfl) (by rfl) (by go_simp) ?_
  refine (values_any a2 m cap2 _).mono ?_
  rintro e w1 ⟨rfl, hw1⟩
  have b1 : Below w0.heap.size w0 w1 := by rw [hw1]; exact ((Below.refl _ w0).drew).alloc (Nat.le_refl _) _
  have hB1 : w1.cell? ⟨w0.drew.heap.size, 0, none⟩ = some (.slice a2 m cap2) := by rw [hw1]; exact (box_new w0.drew #[.slice a2 m cap2] 24).cell 0 _ rfl
  have H1 : Hid (Below w0.heap.size w0 w1) := b1
  have hHeld1 : (fun w' : World => w'.cell? ⟨w.heap.size, 1, none⟩ = some (.slice a n cap) ∧ w'.cell? ⟨w.heap.size + 1, 1, none⟩ = some (.slice a2 m cap2)) w1 := ⟨(H0.out.2.1.over b1).cell 1 _ rfl, (H0.out.2.2.over b1).cell 1 _ rfl⟩
  have cs := sorted_any (HI.out.1.over stays_int b1) (by rw [HI.out.2.1]; exact HI.out.2.2.1) _ hB1
  obtain ⟨Bv, hBv⟩ : ∃ Bv, Bv = w0.drew.heap.size := ⟨_, rfl⟩
  rw [← hBv] at cs ⊢
  clear hw1 b1 hB1 hBv hHeld
  refine ⟨_, rfl, hHeld1, ?_⟩
  try dsimp only [Act.put]
  try simp only [List.setIfInBounds_toArray, List.set_cons_zero, List.set_cons_succ]
  refine callL 3 (f := 40) (vs := #[.func (.func 81) #[] #[.pointer (some ⟨Bv, 0, none⟩)]]) rfl (by kernel_rfl) (by rfl) (by go_simp) ?_
  refine cs.mono ?_
  rintro e w2 ⟨⟨v2, rfl, hv2⟩, b2⟩
  have b02 := H1.out.trans (b2.mono H1.out.size)
  have H2 : Hid (Below w0.heap.size w0 w2 ∧ ZsIs w2 v2 (sortZ (p.cols.map (·.toInt)))) := ⟨b02, hv2⟩
  have hHeld2 : (fun w' : World => w'.cell? ⟨w.heap.size, 1, none⟩ = some (.slice a n cap) ∧ w'.cell? ⟨w.heap.size + 1, 1, none⟩ = some (.slice a2 m cap2)) w2 := ⟨(H0.out.2.1.over b02).cell 1 _ rfl, (H0.out.2.2.over b02).cell 1 _ rfl⟩
  obtain ⟨a4, n4, cap4, rfl, _⟩ := hv2.slice
  clear cs b2 b02 hHeld1 hv2 H1
  refine ⟨_, rfl, hHeld2, ?_⟩
  try dsimp only [Act.put]
  try simp only [List.setIfInBounds_toArray, List.set_cons_zero, List.set_cons_succ]
  refine callL 6 (f := 42) (vs := #[.slice a n cap]) rfl (by kernel_rfl) (by rfl) (by go_simp) ?_
  refine (numbers_any a n cap HI.out.2.2.2 _).mono ?_
  rintro e w3 ⟨⟨v3, rfl, hv3⟩, b3⟩
  have b03 := H2.out.1.trans (b3.mono H2.out.1.size)
  have hzs := zs_of_ints (ints_of_own hv3)
  rw [nums_zran HI.out.2.2.2] at hzs
  have ce := equal_any (H2.out.2.over stays_z b3) hzs (by rw [sort_len, List.length_map, HI.out.2.1]; exact HI.out.2.2.1) (by simp [zran]; exact HI.out.2.2.2)
  rw [HZ.out] at ce
  have H3 : Hid (Below w0.heap.size w0 w3) := b03
  have hHeld3 : (fun w' : World => w'.cell? ⟨w.heap.size, 1, none⟩ = some (.slice a n cap) ∧ w'.cell? ⟨w.heap.size + 1, 1, none⟩ = some (.slice a2 m cap2)) w3 := ⟨(H0.out.2.1.over b03).cell 1 _ rfl, (H0.out.2.2.over b03).cell 1 _ rfl⟩
  obtain ⟨⟨a5, cap5, rfl⟩, _⟩ := own_shape hv3
  obtain ⟨r, hr⟩ : ∃ r, r = superB n p.cols := ⟨_, rfl⟩
  rw [← hr] at ce
  have HR : Hid (r = superB n p.cols) := hr
  clear hr
  clear b3 b03 hHeld2 hv3 H2 hzs
  refine ⟨_, rfl, hHeld3, ?_⟩
  try dsimp only [Act.put]
  try simp only [List.setIfInBounds_toArray, List.set_cons_zero, List.set_cons_succ]
  refine callL 7 (f := 39) (vs := #[.slice a4 n4 cap4, .slice a5 (nums n).length cap5]) rfl (by kernel_rfl) (by rfl) (by go_simp) ?_
  refine ce.mono ?_
  rintro e w4 ⟨rfl, b4⟩
  have b04 := H3.out.trans (b4.mono H3.out.size)
  have H4 : Hid (Below w.heap.size w w4) := H0.out.1.trans (b04.mono H0.out.1.size)
  have hHeld4 : (fun w' : World => w'.cell? ⟨w.heap.size, 1, none⟩ = some (.slice a n cap) ∧ w'.cell? ⟨w.heap.size + 1, 1, none⟩ = some (.slice a2 m cap2)) w4 := ⟨(H0.out.2.1.over b04).cell 1 _ rfl, (H0.out.2.2.over b04).cell 1 _ rfl⟩
  clear ce b4 b04 hHeld3 H3
  refine ⟨_, rfl, hHeld4, ?_⟩
  refine doneL (by kernel_rfl) ?_
  try dsimp only [Act.put]
  unfold Oper.wp
  clear hHeld4
  go_simp
  go_wp2_with fail
  go_ret
  exact ⟨ret_bool HR.out, H4.out⟩

theorem all_range_succ (f : Nat → Bool) (n : Nat) : (List.range (n + 1)).all f = ((List.range n).all f && f n) := by rw [List.range_succ]; simp
theorem all_range_false {f : Nat → Bool} {n c : Nat} (hc : c < n) (h : f c = false) : (List.range n).all f = false := by
  rw [List.all_eq_false]
  exact ⟨c, List.mem_range.2 hc, by rw [h]; simp⟩
set_option maxRecDepth 4000 in
set_option maxHeartbeats 4000000 in
theorem refSuper_any {w : World} {t : Tb} {p : Pj} {c0 c1 c2 d0 d1 d2 : Value} (ht : TbE w t [c0, c1, c2]) (hp : PjE w p [d0, d1, d2]) (hn : t.cols.length ≤ 1000000) (hm : p.cols.length ≤ 1000000) :
    Calls Tryz.prog 23 #[.agg #[c0, c1, c2], .agg #[d0, d1, d2]] w fun e w' => e = .returned (.bool (superB t.cols.length p.cols)) ∧ Below w.heap.size w w' := by
  obtain ⟨vc, vp, et, hC, hP⟩ := ht
  obtain ⟨vi, ep, hI⟩ := hp
  simp only [List.cons.injEq, and_true] at et ep
  obtain ⟨rfl, rfl, rfl⟩ := et
  obtain ⟨rfl, rfl, rfl⟩ := ep
  obtain ⟨a, n, cap, rfl, hna, hca⟩ := hC.slice
  obtain ⟨a2, m, cap2, rfl, hma, hca2⟩ := hI.slice
  obtain ⟨a3, n3, cap3, rfl, _⟩ := hP.slice
  rw [hna] at hn ⊢
  rw [hma] at hm
  have hb0 := below2 w (.cells #[.string t.name, .slice a n cap, .slice a3 n3 cap3] 41) (.cells #[.string p.name, .slice a2 m cap2, .int .i64 p.keys.toInt] 26)
  have B1 := box_old w #[.string t.name, .slice a n cap, .slice a3 n3 cap3] 41 (.cells #[.string p.name, .slice a2 m cap2, .int .i64 p.keys.toInt] 26)
  have B2 := box_new (w.alloc (.cells #[.string t.name, .slice a n cap, .slice a3 n3 cap3] 41)) #[.string p.name, .slice a2 m cap2, .int .i64 p.keys.toInt] 26
  rw [World.size_alloc] at B2
  have H0 : Hid (Unit → Below w.heap.size w _ ∧ Box _ w.heap.size 41 #[.string t.name, .slice a n cap, .slice a3 n3 cap3] ∧ Box _ (w.heap.size + 1) 26 #[.string p.name, .slice a2 m cap2, .int .i64 p.keys.toInt]) := fun _ => ⟨hb0, B1, B2⟩
  have HI : Hid (IntsIs w (.slice a2 m cap2) p.cols ∧ p.cols.length = m) := ⟨hI, hma⟩
  have hnI : (n : Int) ≤ 1000000 := by omega
  have hmI : (m : Int) ≤ 1000000 := by omega
  clear hC hP hI hna hma hca hca2 hb0 B1 B2
  go_enter Tryz.func23, Tryz.ntmps23
  go_wp2_with fail
  go_loopg [5] n (fun gg s5 wx => ∃ c : Nat, c + gg = n ∧ s5 = .int .i64 c ∧ Hid ((List.range c).all (hasI p.cols) = true) ∧ Hid (Below w.heap.size w wx ∧ Box wx w.heap.size 41 #[.string t.name, .slice a n cap, .slice a3 n3 cap3] ∧ Box wx (w.heap.size + 1) 26 #[.string p.name, .slice a2 m cap2, .int .i64 p.keys.toInt]))
  case atStart => exact ⟨0, by omega, rfl, by unfold Hid; simp, H0.out ()⟩
  case round =>
    obtain ⟨c, hcg, rfl, HN, HB⟩ := hrel
    have e1 := HB.out.2.1.cell 1 _ rfl
    have e2 := HB.out.2.2.cell 1 _ rfl
    by_cases hc : c < n
    · have hcI : (c : Int) < (n : Int) := by omega
      have hr2 : IntKind.i64.wrap ((c : Int) + 1) = (c : Int) + 1 := by rw [IntKind.wrap_i64]; omega
      go_wp2_with fail
      go_loopg [6, 7] m (fun gg s6 s7 wx => ∃ i : Nat, i + gg = m ∧ s7 = .int .i64 i ∧ s6 = .bool (hasI (p.cols.take i) c) ∧ wx = wr)
      case atStart => exact ⟨0, by omega, rfl, rfl, rfl⟩
      case round =>
        obtain ⟨i, hig, rfl, rfl, hw⟩ := hrel
        subst hw
        by_cases hi : i < m
        · have hiI : (i : Int) < (m : Int) := by omega
          have hr3 : IntKind.i64.wrap ((i : Int) + 1) = (i : Int) + 1 := by rw [IntKind.wrap_i64]; omega
          obtain ⟨x, b, off, hx, rfl, f0⟩ := at1I (HI.out.1.over stays_int HB.out.1) hi
          have HS : Hid (hasI (p.cols.take (i + 1)) c = (hasI (p.cols.take i) c || decide (x.toInt = (c : Int)))) := by unfold Hid hasI; exact any_take_succ hx
          generalize hasI (p.cols.take i) c = q at *
          clear hx
          cases q with
          | true =>
            go_wp2_with fail
            go_roundg (m - (i + 1))
            case measure => clear hr2 hr3; omega
            case rel => exact ⟨i + 1, by clear hr2 hr3; omega, by go_num, by rw [HS.out]; rfl, rfl⟩
          | false =>
            rw [Bool.false_or] at HS
            obtain ⟨q, hq⟩ : ∃ q, (x.toInt == (c : Int)) = q := ⟨_, rfl⟩
            have HQ : Hid (decide (x.toInt = (c : Int)) = q) := by unfold Hid; rw [← hq, Bool.eq_iff_iff]; simp
            go_wp2_with fail
            go_roundg (m - (i + 1))
            case measure => clear hr2 hr3; omega
            case rel => exact ⟨i + 1, by clear hr2 hr3; omega, by go_num, by rw [HS.out, HQ.out], rfl⟩
        · have hiI : ¬ (i : Int) < (m : Int) := by omega
          obtain rfl : i = m := by omega
          rw [List.take_of_length_le (by rw [HI.out.2]; exact Nat.le_refl _)]
          obtain ⟨q, hq⟩ : ∃ q, q = hasI p.cols c := ⟨_, rfl⟩
          rw [← hq]
          have HQ : Hid (q = hasI p.cols c) := hq
          clear hq
          cases q with
          | true =>
            go_wp2_with fail
            go_roundg (n - (c + 1))
            case measure => clear hr2; omega
            case rel => exact ⟨c + 1, by clear hr2; omega, by go_num, by unfold Hid; rw [all_range_succ, HN.out, ← HQ.out]; rfl, HB⟩
          | false =>
            go_wp2_with fail
            go_ret
            exact ⟨ret_bool (by unfold superB; rw [all_range_false hc HQ.out.symm]; rfl), HB.out.1⟩
    · have hcI : ¬ (c : Int) < (n : Int) := by omega
      obtain rfl : c = n := by omega
      have HE : Hid (superB c p.cols = decide (m = c)) := by unfold Hid superB; rw [HN.out, HI.out.2]; rfl
      obtain ⟨q, hq⟩ : ∃ q, ((m : Int) == (c : Int)) = q := ⟨_, rfl⟩
      have HQ : Hid (decide (m = c) = q) := by unfold Hid; rw [← hq, Bool.eq_iff_iff]; simp; omega
      go_wp2_with fail
      go_ret
      exact ⟨ret_bool (by rw [HE.out, HQ.out]), HB.out.1⟩
end Go.Proofs.YtdjobjbkpagnaaaGreat
/-
  The contracts of schema's mayBeColumn, mayBeColumns, mayBeOf, canBeRead, mayBe and Check, and of the closures that they give.
-/
namespace Go.Proofs.YtdjobjbkpagnaaaGreat
open Go.RowKit Go.Shelf

/-- Of few bytes, of few parts. -/
def litC (c : Col) : Prop := c.name.size ≤ 1000
def litP (p : Pj) : Prop := p.name.size ≤ 1000 ∧ p.cols.length ≤ 100000
def litT (t : Tb) : Prop := t.name.size ≤ 1000 ∧ t.cols.length ≤ 1000 ∧ t.projs.length ≤ 1000 ∧ (∀ c ∈ t.cols, litC c) ∧ (∀ p ∈ t.projs, litP p)
def litL (l : List Tb) : Prop := l.length ≤ 1000 ∧ ∀ t ∈ l, litT t

theorem eqS_beq (a b : ByteArray) : (a.toList == b.toList) = eqS a b := by unfold eqS; rw [Bool.eq_iff_iff]; simp
set_option maxHeartbeats 1000000 in
theorem mayCol_any (c : Col) (hc : litC c) (w : World) : Calls Tryz.prog 102 #[.agg #[.string c.name, .int .i64 c.kind.toInt, .bool c.null]] w fun e w' => e = .returned (.bool (colOk c)) ∧ Below w.heap.size w w' := by
  have b1 := below1 w (.cells #[.string c.name, .int .i64 c.kind.toInt, .bool c.null] 53)
  have hn := fun W => name_any c.name (by unfold litC at hc; unfold maxLen; omega) W
  have HB : Hid (Below w.heap.size w (w.alloc (.cells #[.string c.name, .int .i64 c.kind.toInt, .bool c.null] 53))) := b1
  have B1 := box_new w #[.string c.name, .int .i64 c.kind.toInt, .bool c.null] 53
  have HX : Hid (Box (w.alloc (.cells #[.string c.name, .int .i64 c.kind.toInt, .bool c.null] 53)) w.heap.size 53 #[.string c.name, .int .i64 c.kind.toInt, .bool c.null]) := B1
  have HE : Hid (colOk c = (nameB c.name && (decide (c.kind.toInt = 1) || decide (c.kind.toInt = 2)))) := rfl
  obtain ⟨n, k, u⟩ := c
  simp only at hn HB HX HE ⊢
  obtain ⟨t, ht⟩ : ∃ t, t = nameB n := ⟨_, rfl⟩
  rw [← ht] at hn HE
  obtain ⟨k1, hk1⟩ : ∃ k1, k1 = k.toInt := ⟨_, rfl⟩
  rw [← hk1] at HB HX HE ⊢
  clear hc b1 B1 ht hk1
  cases t with
  | false =>
    go_enter Tryz.func102, Tryz.ntmps102
    go_wp2_with fail
    refine (hn _).mono ?_
    rintro e w1 ⟨rfl, hb⟩
    go_wp2_with fail
    go_ret
    exact ⟨ret_bool (by rw [HE.out]; rfl), HB.out.trans (hb.mono HB.out.size)⟩
  | true =>
    by_cases h1 : k1 = 1
    · subst h1
      go_enter Tryz.func102, Tryz.ntmps102
      go_wp2_with fail
      refine (hn _).mono ?_
      rintro e w1 ⟨rfl, hb⟩
      have c1 := (HX.out.over hb).cell 1 _ rfl
      go_wp2_with fail
      go_ret
      exact ⟨ret_bool (by rw [HE.out]; rfl), HB.out.trans (hb.mono HB.out.size)⟩
    · have h1b : (k1 == 1) = false := by simpa using h1
      obtain ⟨q, hq⟩ : ∃ q, (k1 == 2) = q := ⟨_, rfl⟩
      have HQ : Hid (decide (k1 = 2) = q ∧ decide (k1 = 1) = false) := ⟨by rw [← hq, Bool.eq_iff_iff]; simp, by simpa using h1⟩
      clear h1
      go_enter Tryz.func102, Tryz.ntmps102
      go_wp2_with fail
      refine (hn _).mono ?_
      rintro e w1 ⟨rfl, hb⟩
      have c1 := (HX.out.over hb).cell 1 _ rfl
      go_wp2_with fail
      go_ret
      exact ⟨ret_bool (by rw [HE.out, HQ.out.1, HQ.out.2]; rfl), HB.out.trans (hb.mono HB.out.size)⟩
set_option maxHeartbeats 1000000 in
theorem sameC_any (a b : Col) (w : World) : Calls Tryz.prog 104 #[.agg #[.string a.name, .int .i64 a.kind.toInt, .bool a.null], .agg #[.string b.name, .int .i64 b.kind.toInt, .bool b.null]] w fun e w' => e = .returned (.bool (sameC a b)) ∧ Below w.heap.size w w' := by
  have b1 := below2 w (.cells #[.string a.name, .int .i64 a.kind.toInt, .bool a.null] 53) (.cells #[.string b.name, .int .i64 b.kind.toInt, .bool b.null] 53)
  go_enter Tryz.func104, Tryz.ntmps104
  go_wp2_with fail
  go_ret
  exact ⟨ret_bool (eqS_beq _ _), b1⟩
theorem fn_mayCol {l : List Col} (hl : ∀ c ∈ l, litC c) (w : World) : FnC 102 #[] w l colOk := fun W x c0 c1 c2 _ hx hE => by
  have e : [c0, c1, c2] = colC x := hE
  simp only [colC, List.cons.injEq, and_true] at e
  obtain ⟨rfl, rfl, rfl⟩ := e
  exact mayCol_any x (hl x hx) W
theorem fs_sameC (l : List Col) (w : World) : FsC 104 #[] w l sameC := fun W x y c0 c1 c2 d0 d1 d2 _ _ _ hE hE2 => by
  have e : [c0, c1, c2] = colC x := hE
  have e2 : [d0, d1, d2] = colC y := hE2
  simp only [colC, List.cons.injEq, and_true] at e e2
  obtain ⟨rfl, rfl, rfl⟩ := e
  obtain ⟨rfl, rfl, rfl⟩ := e2
  exact sameC_any x y W
set_option maxHeartbeats 1000000 in
theorem mayCols_any {w : World} {v : Value} {l : List Col} (h : ColsIs w v l) (hl : l.length ≤ 1000000) (hc : ∀ c ∈ l, litC c) :
    Calls Tryz.prog 57 #[v] w fun e w' => e = .returned (.bool (colsB l)) ∧ Below w.heap.size w w' := by
  have ca := allC_any h hl 102 #[] colOk (enters_of Tryz.func102 (by kernel_rfl) rfl) (fn_mayCol hc w)
  have ct := fun W (hW : Below w.heap.size w W) => twC_any (h.over stays_col hW) hl 104 #[] sameC (enters_of Tryz.func104 (by kernel_rfl) rfl) (fs_sameC l W)
  obtain ⟨a, n, cap, rfl, hn, _⟩ := h.slice
  have HE : Hid (colsB l = (decide (1 ≤ n) && decide (n ≤ 8) && l.all colOk && !tw sameC l)) := by unfold Hid colsB; rw [hn]
  obtain ⟨p, hp⟩ : ∃ p, p = l.all colOk := ⟨_, rfl⟩
  obtain ⟨q, hq⟩ : ∃ q, q = tw sameC l := ⟨_, rfl⟩
  rw [← hp, ← hq] at HE
  rw [← hp] at ca
  rw [← hq] at ct
  have hnI : (n : Int) ≤ 1000000 := by omega
  clear h hl hc hn hp hq
  by_cases h1 : 1 ≤ (n : Int)
  · have d1 : decide (1 ≤ n) = true := by simp; omega
    by_cases h2 : (n : Int) ≤ 8
    · have d2 : decide (n ≤ 8) = true := by simp; omega
      rw [d1, d2] at HE
      clear d1 d2
      cases p with
      | false =>
        go_enter Tryz.func57, Tryz.ntmps57
        go_wp2_with fail
        refine ca.mono ?_
        rintro e w1 ⟨rfl, hb⟩
        go_wp2_with fail
        go_ret
        exact ⟨ret_bool (by rw [HE.out]; rfl), hb⟩
      | true =>
        go_enter Tryz.func57, Tryz.ntmps57
        go_wp2_with fail
        refine ca.mono ?_
        rintro e w1 ⟨rfl, hb⟩
        have ct1 := ct w1 hb
        clear ct ca
        go_wp2_with fail
        refine ct1.mono ?_
        rintro e w2 ⟨rfl, hb2⟩
        go_wp2_with fail
        go_ret
        exact ⟨ret_bool (by rw [HE.out]; rfl), hb.trans (hb2.mono hb.size)⟩
    · have d2 : decide (n ≤ 8) = false := by simp; omega
      rw [d1, d2] at HE
      go_enter Tryz.func57, Tryz.ntmps57
      go_wp2_with fail
      go_ret
      exact ⟨ret_bool (by rw [HE.out]; rfl), Below.refl _ _⟩
  · have d1 : decide (1 ≤ n) = false := by simp; omega
    rw [d1] at HE
    go_enter Tryz.func57, Tryz.ntmps57
    go_wp2_with fail
    go_ret
    exact ⟨ret_bool (by rw [HE.out]; rfl), Below.refl _ _⟩

set_option maxHeartbeats 1000000 in
theorem colIn_any (x : BitVec 64) (B n : Nat) (a : Option Addr) (cap : Nat) (W : World) (hB : W.cell? ⟨B, 1, none⟩ = some (.slice a n cap)) :
    Calls Tryz.prog 110 #[.int .i64 x.toInt, .pointer (some ⟨B, 0, none⟩)] W fun e w' => e = .returned (.bool (colIn n x)) ∧ Below W.heap.size W w' := by
  obtain ⟨z, hz⟩ : ∃ z, z = x.toInt := ⟨_, rfl⟩
  have HE : Hid (colIn n x = (decide (0 ≤ z) && decide (z < (n : Int)))) := by unfold Hid colIn; rw [hz]
  rw [← hz]
  clear hz
  by_cases h0 : 0 ≤ z
  · have d0 : decide (0 ≤ z) = true := by simpa using h0
    rw [d0] at HE
    by_cases h1 : z < (n : Int)
    all_goals
      go_enter Tryz.func110, Tryz.ntmps110
      go_wp2_with fail
      go_ret
      exact ⟨ret_bool (by rw [HE.out]; simp [h1]), Below.refl _ _⟩
  · have d0 : decide (0 ≤ z) = false := by simpa using h0
    rw [d0] at HE
    go_enter Tryz.func110, Tryz.ntmps110
    go_wp2_with fail
    go_ret
    exact ⟨ret_bool (by rw [HE.out]; rfl), Below.refl _ _⟩
set_option maxHeartbeats 1000000 in
theorem sameI_any (x y : BitVec 64) (W : World) : Calls Tryz.prog 112 #[.int .i64 x.toInt, .int .i64 y.toInt] W fun e w' => e = .returned (.bool (sameI x y)) ∧ Below W.heap.size W w' := by
  have HE : Hid ((x.toInt == y.toInt) = sameI x y) := by unfold Hid sameI; rw [Bool.eq_iff_iff]; simp only [beq_iff_eq, decide_eq_true_eq]
  go_enter Tryz.func112, Tryz.ntmps112
  go_wp2_with fail
  go_ret
  exact ⟨ret_bool HE.out, Below.refl _ _⟩
set_option maxRecDepth 4000 in
set_option maxHeartbeats 4000000 in
theorem mayOf_any {w : World} {t : Tb} {p : Pj} {c0 c1 c2 d0 d1 d2 : Value} (ht : TbE w t [c0, c1, c2]) (hp : PjE w p [d0, d1, d2]) (hn : t.cols.length ≤ 1000000) (hm : litP p) :
    Calls Tryz.prog 60 #[.agg #[c0, c1, c2], .agg #[d0, d1, d2]] w fun e w' => e = .returned (.bool (pjB t.cols.length p)) ∧ Below w.heap.size w w' := by
  obtain ⟨vc, vp, et, hC, hP⟩ := ht
  obtain ⟨vi, ep, hI⟩ := hp
  simp only [List.cons.injEq, and_true] at et ep
  obtain ⟨rfl, rfl, rfl⟩ := et
  obtain ⟨rfl, rfl, rfl⟩ := ep
  obtain ⟨a, n, cap, rfl, hna, hca⟩ := hC.slice
  obtain ⟨a2, m, cap2, rfl, hma, hca2⟩ := hI.slice
  obtain ⟨a3, n3, cap3, rfl, _⟩ := hP.slice
  rw [hna] at hn ⊢
  have hm2 := hm.2
  rw [hma] at hm2
  have hb0 := below2 w (.cells #[.string t.name, .slice a n cap, .slice a3 n3 cap3] 41) (.cells #[.string p.name, .slice a2 m cap2, .int .i64 p.keys.toInt] 26)
  have B1 := box_old w #[.string t.name, .slice a n cap, .slice a3 n3 cap3] 41 (.cells #[.string p.name, .slice a2 m cap2, .int .i64 p.keys.toInt] 26)
  have B2 := box_new (w.alloc (.cells #[.string t.name, .slice a n cap, .slice a3 n3 cap3] 41)) #[.string p.name, .slice a2 m cap2, .int .i64 p.keys.toInt] 26
  rw [World.size_alloc] at B2
  have hn0 := fun W (_ : Below w.heap.size w W) => name_any p.name (by have := hm.1; unfold maxLen; omega) W
  have HE : Hid (pjB n p = (nameB p.name && decide (1 ≤ m) && decide (m ≤ n) && decide (0 ≤ p.keys.toInt) && decide (p.keys.toInt ≤ (m : Int)) && p.cols.all (colIn n) && !tw sameI p.cols)) := by unfold Hid pjB; rw [hma]
  have ca := fun W (hW : Below w.heap.size w W) (B : Nat) (hB : W.cell? ⟨B, 1, none⟩ = some (.slice a n cap)) => allI_any (hI.over stays_int hW) (by rw [hma]; omega) 110 #[.pointer (some ⟨B, 0, none⟩)] (colIn n) (enters_of Tryz.func110 (by kernel_rfl) rfl) (fun W2 x hW2 _ => colIn_any x B n a cap W2 ((hW2.cell (p := ⟨B, 1, none⟩) (World.block_lt_of_cell? W _ hB)).trans hB))
  have ct := fun W (hW : Below w.heap.size w W) => twI_any (hI.over stays_int hW) (by rw [hma]; omega) 112 #[] sameI (enters_of Tryz.func112 (by kernel_rfl) rfl) (fun W2 x y _ _ _ => sameI_any x y W2)
  obtain ⟨tn, htn⟩ : ∃ x, x = t.name := ⟨_, rfl⟩
  obtain ⟨pn, hpn⟩ : ∃ x, x = p.name := ⟨_, rfl⟩
  obtain ⟨pk, hpk⟩ : ∃ x, x = p.keys.toInt := ⟨_, rfl⟩
  rw [← htn, ← hpn, ← hpk] at hb0 B1 B2
  rw [← hpn] at hn0
  rw [← hpn, ← hpk] at HE
  rw [← htn, ← hpn, ← hpk]
  have HB : Hid (Below w.heap.size w _) := hb0
  have HX : Hid (Box _ w.heap.size 41 #[.string tn, .slice a n cap, .slice a3 n3 cap3] ∧ Box _ (w.heap.size + 1) 26 #[.string pn, .slice a2 m cap2, .int .i64 pk]) := ⟨B1, B2⟩
  obtain ⟨q1, hq1⟩ : ∃ q, q = nameB pn := ⟨_, rfl⟩
  obtain ⟨q2, hq2⟩ : ∃ q, q = p.cols.all (colIn n) := ⟨_, rfl⟩
  obtain ⟨q3, hq3⟩ : ∃ q, q = tw sameI p.cols := ⟨_, rfl⟩
  rw [← hq1, ← hq2, ← hq3] at HE
  rw [← hq1] at hn0
  rw [← hq2] at ca
  rw [← hq3] at ct
  have hnI : (n : Int) ≤ 1000000 := by omega
  have hmI : (m : Int) ≤ 1000000 := by omega
  have hn := hn0
  have HCA : Hid (∀ W, Below w.heap.size w W → ∀ B : Nat, W.cell? ⟨B, 1, none⟩ = some (.slice a n cap) → Calls Tryz.prog 109 #[.slice a2 m cap2, .func (.func 110) #[] #[.pointer (some ⟨B, 0, none⟩)]] W fun e w' => e = .returned (.bool q2) ∧ Below W.heap.size W w') := ca
  have HCT : Hid (∀ W, Below w.heap.size w W → Calls Tryz.prog 111 #[.slice a2 m cap2, .func (.func 112) #[] #[]] W fun e w' => e = .returned (.bool q3) ∧ Below W.heap.size W w') := ct
  clear hC hP hI hna hma hca hca2 hb0 B1 B2 htn hpn hpk hq1 hq2 hq3 ca ct hm hm2 hn0
  cases q1 with
  | false =>
    go_enter Tryz.func60, Tryz.ntmps60
    go_wp2_with fail
    refine (hn _ HB.out).mono ?_
    rintro e w1 ⟨rfl, hb⟩
    have hw1 := HB.out.trans (hb.mono HB.out.size)
    have p1 := (HX.out.2.over hb).cell 1 _ rfl
    have p2 := (HX.out.2.over hb).cell 2 _ rfl
    have t1 := (HX.out.1.over hb).cell 1 _ rfl
    clear hn
    go_wp2_with fail
    go_ret
    exact ⟨ret_bool (by rw [HE.out]; rfl), hw1⟩
  | true =>
    by_cases h1 : (m : Int) < 1
    · have e1 : decide (1 ≤ m) = false := by simp; omega
      rw [e1] at HE
      go_enter Tryz.func60, Tryz.ntmps60
      go_wp2_with fail
      refine (hn _ HB.out).mono ?_
      rintro e w1 ⟨rfl, hb⟩
      have hw1 := HB.out.trans (hb.mono HB.out.size)
      have p1 := (HX.out.2.over hb).cell 1 _ rfl
      have p2 := (HX.out.2.over hb).cell 2 _ rfl
      have t1 := (HX.out.1.over hb).cell 1 _ rfl
      clear hn
      go_wp2_with fail
      go_ret
      exact ⟨ret_bool (by rw [HE.out]; rfl), hw1⟩
    · have e1 : decide (1 ≤ m) = true := by simp; omega
      by_cases h2 : (n : Int) < (m : Int)
      · have e2 : decide (m ≤ n) = false := by simp; omega
        rw [e1, e2] at HE
        clear e1 e2
        go_enter Tryz.func60, Tryz.ntmps60
        go_wp2_with fail
        refine (hn _ HB.out).mono ?_
        rintro e w1 ⟨rfl, hb⟩
        have hw1 := HB.out.trans (hb.mono HB.out.size)
        have p1 := (HX.out.2.over hb).cell 1 _ rfl
        have p2 := (HX.out.2.over hb).cell 2 _ rfl
        have t1 := (HX.out.1.over hb).cell 1 _ rfl
        clear hn
        go_wp2_with fail
        go_ret
        exact ⟨ret_bool (by rw [HE.out]; rfl), hw1⟩
      · have e2 : decide (m ≤ n) = true := by simp; omega
        by_cases h3 : pk < 0
        · have e3 : decide (0 ≤ pk) = false := by simp; omega
          rw [e1, e2, e3] at HE
          clear e1 e2 e3
          go_enter Tryz.func60, Tryz.ntmps60
          go_wp2_with fail
          refine (hn _ HB.out).mono ?_
          rintro e w1 ⟨rfl, hb⟩
          have hw1 := HB.out.trans (hb.mono HB.out.size)
          have p1 := (HX.out.2.over hb).cell 1 _ rfl
          have p2 := (HX.out.2.over hb).cell 2 _ rfl
          have t1 := (HX.out.1.over hb).cell 1 _ rfl
          clear hn
          go_wp2_with fail
          go_ret
          exact ⟨ret_bool (by rw [HE.out]; rfl), hw1⟩
        · have e3 : decide (0 ≤ pk) = true := by simp; omega
          by_cases h4 : (m : Int) < pk
          · have e4 : decide (pk ≤ (m : Int)) = false := by simp; omega
            rw [e1, e2, e3, e4] at HE
            clear e1 e2 e3 e4
            go_enter Tryz.func60, Tryz.ntmps60
            go_wp2_with fail
            refine (hn _ HB.out).mono ?_
            rintro e w1 ⟨rfl, hb⟩
            have hw1 := HB.out.trans (hb.mono HB.out.size)
            have p1 := (HX.out.2.over hb).cell 1 _ rfl
            have p2 := (HX.out.2.over hb).cell 2 _ rfl
            have t1 := (HX.out.1.over hb).cell 1 _ rfl
            clear hn
            go_wp2_with fail
            go_ret
            exact ⟨ret_bool (by rw [HE.out]; rfl), hw1⟩
          · have e4 : decide (pk ≤ (m : Int)) = true := by simp; omega
            rw [e1, e2, e3, e4] at HE
            clear e1 e2 e3 e4
            cases q2 with
            | false =>
              go_enter Tryz.func60, Tryz.ntmps60
              go_wp2_with fail
              refine (hn _ HB.out).mono ?_
              rintro e w1 ⟨rfl, hb⟩
              have hw1 := HB.out.trans (hb.mono HB.out.size)
              have p1 := (HX.out.2.over hb).cell 1 _ rfl
              have p2 := (HX.out.2.over hb).cell 2 _ rfl
              have t1 := (HX.out.1.over hb).cell 1 _ rfl
              clear hn
              go_wp2_with fail
              refine (HCA.out _ hw1 _ t1).mono ?_
              rintro e w2 ⟨rfl, hb2⟩
              have hw2 := hw1.trans (hb2.mono hw1.size)
              go_wp2_with fail
              go_ret
              exact ⟨ret_bool (by rw [HE.out]; rfl), hw2⟩
            | true =>
              go_enter Tryz.func60, Tryz.ntmps60
              go_wp2_with fail
              refine (hn _ HB.out).mono ?_
              rintro e w1 ⟨rfl, hb⟩
              have hw1 := HB.out.trans (hb.mono HB.out.size)
              have p1 := (HX.out.2.over hb).cell 1 _ rfl
              have p2 := (HX.out.2.over hb).cell 2 _ rfl
              have t1 := (HX.out.1.over hb).cell 1 _ rfl
              clear hn
              go_wp2_with fail
              refine (HCA.out _ hw1 _ t1).mono ?_
              rintro e w2 ⟨rfl, hb2⟩
              have hw2 := hw1.trans (hb2.mono hw1.size)
              have hb12 := hb.trans (hb2.mono hb.size)
              clear p1 p2 t1
              have p1 := (HX.out.2.over hb12).cell 1 _ rfl
              go_wp2_with fail
              refine (HCT.out _ hw2).mono ?_
              rintro e w3 ⟨rfl, hb3⟩
              have hw3 := hw2.trans (hb3.mono hw2.size)
              go_wp2_with fail
              go_ret
              exact ⟨ret_bool (by rw [HE.out]; rfl), hw3⟩
end Go.Proofs.YtdjobjbkpagnaaaGreat
/-
  The contracts of slices.Clone of tables, columns, projections and numbers.
-/
namespace Go.Proofs.YtdjobjbkpagnaaaGreat
open Go.RowKit Go.Shelf

/-- A new list with the same elements. -/
def CloneAns {α : Type} (E : World → α → List Value → Prop) (sz : Nat) (t : TypeId) (w : World) (l : List α) (e : Ending) (w' : World) : Prop :=
  (∃ v' R, e = .returned v' ∧ SRows w' v' t sz R ∧ RowsE E w l R ∧ ∀ k, v'.ownBlock = some k → w.heap.size ≤ k) ∧ Below w.heap.size w w'
theorem add_off (b o j : Nat) : (⟨b, o, none⟩ : Addr).add j = ⟨b, o + j, none⟩ := by unfold Addr.add; split <;> simp_all
theorem flat_cells {w : World} {b off sz : Nat} (hsz : 0 < sz) {R : List (List Value)} (hR : ∀ r ∈ R, r.length = sz) (h : ∀ (i : Nat) (r : List Value), R[i]? = some r → ∀ (j : Nat) (u : Value), r[j]? = some u → w.cell? ⟨b, off + i * sz + j, none⟩ = some u) (j : Nat) (u : Value) (hu : R.flatten[j]? = some u) : w.cell? ((⟨b, off, none⟩ : Addr).add j) = some u := by
  rw [flatten_at hsz R hR] at hu
  cases hr : R[j / sz]? with
  | none => rw [hr] at hu; simp at hu
  | some r =>
    rw [hr] at hu
    have := h _ r hr (j % sz) u hu
    rw [add_off]
    rw [show off + j = off + j / sz * sz + j % sz by rw [Nat.add_assoc, Nat.div_add_mod']]
    exact this
theorem rowsE_over {α : Type} {E : World → α → List Value → Prop} (hE : Stays E) {w w' : World} {l : List α} {R : List (List Value)} (h : RowsE E w l R) (k : Below w.heap.size w w') : RowsE E w' l R := ⟨h.1, fun i x r hx hr => hE _ _ _ _ (h.2 i x r hx hr) k⟩
theorem srows_empty (w : World) (t : TypeId) (sz : Nat) : SRows (w.alloc (.cells #[] t)) (.slice (some ⟨w.heap.size, 0, none⟩) 0 0) t sz [] :=
  .inr ⟨w.heap.size, 0, rfl, Nat.le_refl _, Nat.zero_le _, #[], heap_alloc_last w _, by simp, by simp, by simp, fun i r hr => by simp at hr⟩
/-- A slice that is something has rows at its address. -/
theorem slIs_from {α : Type} {E : World → α → List Value → Prop} {sz : Nat} (hsz : 0 < sz) {w : World} {ad : Addr} {n cap : Nat} {l : List α} (h : SlIs E sz w (.slice (some ad) n cap) l) :
    ∃ R : List (List Value), RowsE E w l R ∧ (∀ r ∈ R, r.length = sz) ∧ R.length = n ∧ ∀ W, Below w.heap.size w W → ∀ (j : Nat) (u : Value), R.flatten[j]? = some u → W.cell? (ad.add j) = some u := by
  obtain ⟨R, h1, h2, h3⟩ := h.rows
  refine ⟨R, h1, h2, by rw [h1.1]; exact h.len.1, fun W hW j u hu => ?_⟩
  by_cases hl : l = []
  · subst hl
    have : R = [] := List.eq_nil_of_length_eq_zero h1.1
    subst this
    simp at hu
  · obtain ⟨b, off, e, hb, hc⟩ := h3 hl
    cases e
    exact flat_cells hsz h2 (fun i r hr j u hu => (hW.cell (p := ⟨b, off + i * sz + j, none⟩) hb).trans (hc i r hr j u hu)) j u hu
theorem slIs_none {α : Type} {E : World → α → List Value → Prop} {sz : Nat} {w : World} {n cap : Nat} {l : List α} (h : SlIs E sz w (.slice none n cap) l) : l = [] ∧ n = 0 := by
  have hn := h.len
  by_cases hl : l = []
  · subst hl; exact ⟨rfl, by simpa using hn.1.symm⟩
  · obtain ⟨b, off, e, _⟩ := h.lies hl
    cases e
theorem infos_tb : (Tryz.prog.info? 41).map (fun i => (i.zero, i.size, i.bytes)) = some (some (.agg #[.string ⟨#[]⟩, .slice none 0 0, .slice none 0 0]), 3, 64) := by kernel_rfl
set_option maxRecDepth 4000 in
set_option maxHeartbeats 2000000 in
theorem cloneT_gen {α : Type} {E : World → α → List Value → Prop} {w : World} {v : Value} {l : List α} (h : SlIs E 3 w v l) (ho1 : ∀ x cs, E w x cs → ∀ u ∈ cs, u.oneCell' = true) (hl : l.length ≤ 1000000) :
    Calls Tryz.prog 105 #[v] w (CloneAns E 3 41 w l) := by
  obtain ⟨a, n, cap, rfl, hn, hcap⟩ := h.slice
  have q0 : ∀ (w : World) (a : Option Addr) (n c n' c' : Nat), (binOp .eql 22 (.slice a n c) (.slice none n' c')).run Tryz.prog w = .ok (.bool a.isNone) w := fun w a n c n' c' => Lib.run_eql_slice_nil w _ _ a n c n' c' Tryz.underlying22
  cases a with
  | none =>
    obtain ⟨rfl, rfl⟩ := slIs_none h
    clear h hl hn ho1
    go_enter Tryz.func105, Tryz.ntmps105
    go_wp2_with fail
    go_ret
    exact ⟨⟨_, [], rfl, srows_nil _ _ _, ⟨rfl, fun i x r hx => by simp at hx⟩, fun k hk => by simp [Value.ownBlock] at hk⟩, Below.refl _ _⟩
  | some ad =>
    obtain ⟨R, hRE, hRl, hRn, hRc⟩ := slIs_from (by decide) h
    obtain ⟨i0, hi, hz0, hz1, hz2⟩ := info_parts infos_tb
    have hb0 := below1 w (.cells #[] 41)
    have hone : ∀ r ∈ R, ∀ c ∈ r, c.oneCell' = true := fun r hr => by
      obtain ⟨i, hi⟩ := List.getElem?_of_mem hr
      have hil := (List.getElem?_eq_some_iff.1 hi).1
      have hx : l[i]? = some (l[i]'(by rw [← hRE.1]; exact hil)) := List.getElem?_eq_getElem _
      exact ho1 _ _ (hRE.2 i _ r hx hi)
    have HX : Hid (Below w.heap.size w (w.alloc (.cells #[] 41)) ∧ RowsE E w l R) := ⟨hb0, hRE⟩
    have hc := hRc _ hb0
    have hv := srows_empty w 41 3
    have hm : n ≤ 1000000 := by omega
    have HH : Hid ((∀ r ∈ R, r.length = 3) ∧ R.length = n ∧ (∀ r ∈ R, ∀ c ∈ r, c.oneCell' = true) ∧ n ≤ 1000000 ∧ SRows (w.alloc (.cells #[] 41)) (.slice (some ⟨w.heap.size, 0, none⟩) 0 0) 41 3 [] ∧ (∀ (j : Nat) (u : Value), R.flatten[j]? = some u → (w.alloc (.cells #[] 41)).cell? (ad.add j) = some u) ∧ Tryz.prog.info? 41 = some i0 ∧ i0.zero = some (.agg #[.string ⟨#[]⟩, .slice none 0 0, .slice none 0 0]) ∧ i0.size = 3 ∧ i0.bytes = 64) := ⟨hRl, hRn, hone, hm, hv, hc, hi, hz0, hz1, hz2⟩
    clear h hl hn ho1 hRE hRl hRn hRc hone hb0 hc hv hm hi hz0 hz1 hz2
    go_enter Tryz.func105, Tryz.ntmps105
    go_wp2_with (at_builtin; refine append_any rfl (.tmp 5) (.tmp 6) 22 41 i0 (.agg #[.string ⟨#[]⟩, .slice none 0 0, .slice none 0 0]) 3 64 rfl Tryz.underlying22 HH.out.2.2.2.2.2.2.1 HH.out.2.2.2.2.2.2.2.1 HH.out.2.2.2.2.2.2.2.2.1 HH.out.2.2.2.2.2.2.2.2.2 rfl (by decide) (by decide) rfl rfl HH.out.2.2.2.2.1 HH.out.2.1 HH.out.1 HH.out.2.2.2.2.2.1 HH.out.2.2.1 n (Nat.zero_add n) R rfl HH.out.2.2.2.1 ?_; intro va vc w1 hs hwh hk)
    go_ret
    have hb : Below w.heap.size w w1 := HX.out.1.trans (hk.out.below (fun k hk => by have e : some w.heap.size = some k := hk; cases e; exact Nat.le_refl _) (by simp))
    refine ⟨⟨_, R, rfl, hs.out, HX.out.2, fun k hk => ?_⟩, hb⟩
    rcases hwh.out k hk with h1 | h1
    · have e : some w.heap.size = some k := h1; cases e; exact Nat.le_refl _
    · simp at h1; omega
theorem cloneT_any {w : World} {v : Value} {l : List Tb} (h : SlIs TbE 3 w v l) (hl : l.length ≤ 1000000) :
    Calls Tryz.prog 105 #[v] w (CloneAns TbE 3 41 w l) := cloneT_gen h (fun _ _ h => one_tb h) hl
theorem infos_col : (Tryz.prog.info? 53).map (fun i => (i.zero, i.size, i.bytes)) = some (some (.agg #[.string ⟨#[]⟩, .int .i64 0, .bool false]), 3, 32) := by kernel_rfl
set_option maxRecDepth 4000 in
set_option maxHeartbeats 2000000 in
theorem cloneC_gen {α : Type} {E : World → α → List Value → Prop} {w : World} {v : Value} {l : List α} (h : SlIs E 3 w v l) (ho1 : ∀ x cs, E w x cs → ∀ u ∈ cs, u.oneCell' = true) (hl : l.length ≤ 1000000) :
    Calls Tryz.prog 106 #[v] w (CloneAns E 3 53 w l) := by
  obtain ⟨a, n, cap, rfl, hn, hcap⟩ := h.slice
  have q0 : ∀ (w : World) (a : Option Addr) (n c n' c' : Nat), (binOp .eql 23 (.slice a n c) (.slice none n' c')).run Tryz.prog w = .ok (.bool a.isNone) w := fun w a n c n' c' => Lib.run_eql_slice_nil w _ _ a n c n' c' Tryz.underlying23
  cases a with
  | none =>
    obtain ⟨rfl, rfl⟩ := slIs_none h
    clear h hl hn ho1
    go_enter Tryz.func106, Tryz.ntmps106
    go_wp2_with fail
    go_ret
    exact ⟨⟨_, [], rfl, srows_nil _ _ _, ⟨rfl, fun i x r hx => by simp at hx⟩, fun k hk => by simp [Value.ownBlock] at hk⟩, Below.refl _ _⟩
  | some ad =>
    obtain ⟨R, hRE, hRl, hRn, hRc⟩ := slIs_from (by decide) h
    obtain ⟨i0, hi, hz0, hz1, hz2⟩ := info_parts infos_col
    have hb0 := below1 w (.cells #[] 53)
    have hone : ∀ r ∈ R, ∀ c ∈ r, c.oneCell' = true := fun r hr => by
      obtain ⟨i, hi⟩ := List.getElem?_of_mem hr
      have hil := (List.getElem?_eq_some_iff.1 hi).1
      have hx : l[i]? = some (l[i]'(by rw [← hRE.1]; exact hil)) := List.getElem?_eq_getElem _
      exact ho1 _ _ (hRE.2 i _ r hx hi)
    have HX : Hid (Below w.heap.size w (w.alloc (.cells #[] 53)) ∧ RowsE E w l R) := ⟨hb0, hRE⟩
    have hc := hRc _ hb0
    have hv := srows_empty w 53 3
    have hm : n ≤ 1000000 := by omega
    have HH : Hid ((∀ r ∈ R, r.length = 3) ∧ R.length = n ∧ (∀ r ∈ R, ∀ c ∈ r, c.oneCell' = true) ∧ n ≤ 1000000 ∧ SRows (w.alloc (.cells #[] 53)) (.slice (some ⟨w.heap.size, 0, none⟩) 0 0) 53 3 [] ∧ (∀ (j : Nat) (u : Value), R.flatten[j]? = some u → (w.alloc (.cells #[] 53)).cell? (ad.add j) = some u) ∧ Tryz.prog.info? 53 = some i0 ∧ i0.zero = some (.agg #[.string ⟨#[]⟩, .int .i64 0, .bool false]) ∧ i0.size = 3 ∧ i0.bytes = 32) := ⟨hRl, hRn, hone, hm, hv, hc, hi, hz0, hz1, hz2⟩
    clear h hl hn ho1 hRE hRl hRn hRc hone hb0 hc hv hm hi hz0 hz1 hz2
    go_enter Tryz.func106, Tryz.ntmps106
    go_wp2_with (at_builtin; refine append_any rfl (.tmp 5) (.tmp 6) 23 53 i0 (.agg #[.string ⟨#[]⟩, .int .i64 0, .bool false]) 3 32 rfl Tryz.underlying23 HH.out.2.2.2.2.2.2.1 HH.out.2.2.2.2.2.2.2.1 HH.out.2.2.2.2.2.2.2.2.1 HH.out.2.2.2.2.2.2.2.2.2 rfl (by decide) (by decide) rfl rfl HH.out.2.2.2.2.1 HH.out.2.1 HH.out.1 HH.out.2.2.2.2.2.1 HH.out.2.2.1 n (Nat.zero_add n) R rfl HH.out.2.2.2.1 ?_; intro va vc w1 hs hwh hk)
    go_ret
    have hb : Below w.heap.size w w1 := HX.out.1.trans (hk.out.below (fun k hk => by have e : some w.heap.size = some k := hk; cases e; exact Nat.le_refl _) (by simp))
    refine ⟨⟨_, R, rfl, hs.out, HX.out.2, fun k hk => ?_⟩, hb⟩
    rcases hwh.out k hk with h1 | h1
    · have e : some w.heap.size = some k := h1; cases e; exact Nat.le_refl _
    · simp at h1; omega
theorem cloneC_any {w : World} {v : Value} {l : List Col} (h : SlIs ColE 3 w v l) (hl : l.length ≤ 1000000) :
    Calls Tryz.prog 106 #[v] w (CloneAns ColE 3 53 w l) := cloneC_gen h (fun _ _ h => one_col h) hl
theorem infos_pj : (Tryz.prog.info? 26).map (fun i => (i.zero, i.size, i.bytes)) = some (some (.agg #[.string ⟨#[]⟩, .slice none 0 0, .int .i64 0]), 3, 48) := by kernel_rfl
set_option maxRecDepth 4000 in
set_option maxHeartbeats 2000000 in
theorem cloneP_gen {α : Type} {E : World → α → List Value → Prop} {w : World} {v : Value} {l : List α} (h : SlIs E 3 w v l) (ho1 : ∀ x cs, E w x cs → ∀ u ∈ cs, u.oneCell' = true) (hl : l.length ≤ 1000000) :
    Calls Tryz.prog 107 #[v] w (CloneAns E 3 26 w l) := by
  obtain ⟨a, n, cap, rfl, hn, hcap⟩ := h.slice
  have q0 : ∀ (w : World) (a : Option Addr) (n c n' c' : Nat), (binOp .eql 39 (.slice a n c) (.slice none n' c')).run Tryz.prog w = .ok (.bool a.isNone) w := fun w a n c n' c' => Lib.run_eql_slice_nil w _ _ a n c n' c' Tryz.underlying39
  cases a with
  | none =>
    obtain ⟨rfl, rfl⟩ := slIs_none h
    clear h hl hn ho1
    go_enter Tryz.func107, Tryz.ntmps107
    go_wp2_with fail
    go_ret
    exact ⟨⟨_, [], rfl, srows_nil _ _ _, ⟨rfl, fun i x r hx => by simp at hx⟩, fun k hk => by simp [Value.ownBlock] at hk⟩, Below.refl _ _⟩
  | some ad =>
    obtain ⟨R, hRE, hRl, hRn, hRc⟩ := slIs_from (by decide) h
    obtain ⟨i0, hi, hz0, hz1, hz2⟩ := info_parts infos_pj
    have hb0 := below1 w (.cells #[] 26)
    have hone : ∀ r ∈ R, ∀ c ∈ r, c.oneCell' = true := fun r hr => by
      obtain ⟨i, hi⟩ := List.getElem?_of_mem hr
      have hil := (List.getElem?_eq_some_iff.1 hi).1
      have hx : l[i]? = some (l[i]'(by rw [← hRE.1]; exact hil)) := List.getElem?_eq_getElem _
      exact ho1 _ _ (hRE.2 i _ r hx hi)
    have HX : Hid (Below w.heap.size w (w.alloc (.cells #[] 26)) ∧ RowsE E w l R) := ⟨hb0, hRE⟩
    have hc := hRc _ hb0
    have hv := srows_empty w 26 3
    have hm : n ≤ 1000000 := by omega
    have HH : Hid ((∀ r ∈ R, r.length = 3) ∧ R.length = n ∧ (∀ r ∈ R, ∀ c ∈ r, c.oneCell' = true) ∧ n ≤ 1000000 ∧ SRows (w.alloc (.cells #[] 26)) (.slice (some ⟨w.heap.size, 0, none⟩) 0 0) 26 3 [] ∧ (∀ (j : Nat) (u : Value), R.flatten[j]? = some u → (w.alloc (.cells #[] 26)).cell? (ad.add j) = some u) ∧ Tryz.prog.info? 26 = some i0 ∧ i0.zero = some (.agg #[.string ⟨#[]⟩, .slice none 0 0, .int .i64 0]) ∧ i0.size = 3 ∧ i0.bytes = 48) := ⟨hRl, hRn, hone, hm, hv, hc, hi, hz0, hz1, hz2⟩
    clear h hl hn ho1 hRE hRl hRn hRc hone hb0 hc hv hm hi hz0 hz1 hz2
    go_enter Tryz.func107, Tryz.ntmps107
    go_wp2_with (at_builtin; refine append_any rfl (.tmp 5) (.tmp 6) 39 26 i0 (.agg #[.string ⟨#[]⟩, .slice none 0 0, .int .i64 0]) 3 48 rfl Tryz.underlying39 HH.out.2.2.2.2.2.2.1 HH.out.2.2.2.2.2.2.2.1 HH.out.2.2.2.2.2.2.2.2.1 HH.out.2.2.2.2.2.2.2.2.2 rfl (by decide) (by decide) rfl rfl HH.out.2.2.2.2.1 HH.out.2.1 HH.out.1 HH.out.2.2.2.2.2.1 HH.out.2.2.1 n (Nat.zero_add n) R rfl HH.out.2.2.2.1 ?_; intro va vc w1 hs hwh hk)
    go_ret
    have hb : Below w.heap.size w w1 := HX.out.1.trans (hk.out.below (fun k hk => by have e : some w.heap.size = some k := hk; cases e; exact Nat.le_refl _) (by simp))
    refine ⟨⟨_, R, rfl, hs.out, HX.out.2, fun k hk => ?_⟩, hb⟩
    rcases hwh.out k hk with h1 | h1
    · have e : some w.heap.size = some k := h1; cases e; exact Nat.le_refl _
    · simp at h1; omega
theorem cloneP_any {w : World} {v : Value} {l : List Pj} (h : SlIs PjE 3 w v l) (hl : l.length ≤ 1000000) :
    Calls Tryz.prog 107 #[v] w (CloneAns PjE 3 26 w l) := cloneP_gen h (fun _ _ h => one_pj h) hl
theorem infos_int : (Tryz.prog.info? 3).map (fun i => (i.zero, i.size, i.bytes)) = some (some (.int .i64 0), 1, 8) := by kernel_rfl
theorem one_int {w : World} {c : BitVec 64} {cs : List Value} (h : IntE w c cs) : ∀ u ∈ cs, u.oneCell' = true := by
  have e : cs = [.int .i64 c.toInt] := h
  subst e
  simp [Value.oneCell']
set_option maxRecDepth 4000 in
set_option maxHeartbeats 2000000 in
theorem cloneI_gen {α : Type} {E : World → α → List Value → Prop} {w : World} {v : Value} {l : List α} (h : SlIs E 1 w v l) (ho1 : ∀ x cs, E w x cs → ∀ u ∈ cs, u.oneCell' = true) (hl : l.length ≤ 1000000) :
    Calls Tryz.prog 108 #[v] w (CloneAns E 1 3 w l) := by
  obtain ⟨a, n, cap, rfl, hn, hcap⟩ := h.slice
  have q0 : ∀ (w : World) (a : Option Addr) (n c n' c' : Nat), (binOp .eql 24 (.slice a n c) (.slice none n' c')).run Tryz.prog w = .ok (.bool a.isNone) w := fun w a n c n' c' => Lib.run_eql_slice_nil w _ _ a n c n' c' Tryz.underlying24
  cases a with
  | none =>
    obtain ⟨rfl, rfl⟩ := slIs_none h
    clear h hl hn ho1
    go_enter Tryz.func108, Tryz.ntmps108
    go_wp2_with fail
    go_ret
    exact ⟨⟨_, [], rfl, srows_nil _ _ _, ⟨rfl, fun i x r hx => by simp at hx⟩, fun k hk => by simp [Value.ownBlock] at hk⟩, Below.refl _ _⟩
  | some ad =>
    obtain ⟨R, hRE, hRl, hRn, hRc⟩ := slIs_from (by decide) h
    obtain ⟨i0, hi, hz0, hz1, hz2⟩ := info_parts infos_int
    have hb0 := below1 w (.cells #[] 3)
    have hone : ∀ r ∈ R, ∀ c ∈ r, c.oneCell' = true := fun r hr => by
      obtain ⟨i, hi⟩ := List.getElem?_of_mem hr
      have hil := (List.getElem?_eq_some_iff.1 hi).1
      have hx : l[i]? = some (l[i]'(by rw [← hRE.1]; exact hil)) := List.getElem?_eq_getElem _
      exact ho1 _ _ (hRE.2 i _ r hx hi)
    have HX : Hid (Below w.heap.size w (w.alloc (.cells #[] 3)) ∧ RowsE E w l R) := ⟨hb0, hRE⟩
    have hc := hRc _ hb0
    have hv := srows_empty w 3 1
    have hm : n ≤ 1000000 := by omega
    have HH : Hid ((∀ r ∈ R, r.length = 1) ∧ R.length = n ∧ (∀ r ∈ R, ∀ c ∈ r, c.oneCell' = true) ∧ n ≤ 1000000 ∧ SRows (w.alloc (.cells #[] 3)) (.slice (some ⟨w.heap.size, 0, none⟩) 0 0) 3 1 [] ∧ (∀ (j : Nat) (u : Value), R.flatten[j]? = some u → (w.alloc (.cells #[] 3)).cell? (ad.add j) = some u) ∧ Tryz.prog.info? 3 = some i0 ∧ i0.zero = some (.int .i64 0) ∧ i0.size = 1 ∧ i0.bytes = 8) := ⟨hRl, hRn, hone, hm, hv, hc, hi, hz0, hz1, hz2⟩
    clear h hl hn ho1 hRE hRl hRn hRc hone hb0 hc hv hm hi hz0 hz1 hz2
    go_enter Tryz.func108, Tryz.ntmps108
    go_wp2_with (at_builtin; refine append_any rfl (.tmp 5) (.tmp 6) 24 3 i0 (.int .i64 0) 1 8 rfl Tryz.underlying24 HH.out.2.2.2.2.2.2.1 HH.out.2.2.2.2.2.2.2.1 HH.out.2.2.2.2.2.2.2.2.1 HH.out.2.2.2.2.2.2.2.2.2 rfl (by decide) (by decide) rfl rfl HH.out.2.2.2.2.1 HH.out.2.1 HH.out.1 HH.out.2.2.2.2.2.1 HH.out.2.2.1 n (Nat.zero_add n) R rfl HH.out.2.2.2.1 ?_; intro va vc w1 hs hwh hk)
    go_ret
    have hb : Below w.heap.size w w1 := HX.out.1.trans (hk.out.below (fun k hk => by have e : some w.heap.size = some k := hk; cases e; exact Nat.le_refl _) (by simp))
    refine ⟨⟨_, R, rfl, hs.out, HX.out.2, fun k hk => ?_⟩, hb⟩
    rcases hwh.out k hk with h1 | h1
    · have e : some w.heap.size = some k := h1; cases e; exact Nat.le_refl _
    · simp at h1; omega
theorem cloneI_any {w : World} {v : Value} {l : List (BitVec 64)} (h : SlIs IntE 1 w v l) (hl : l.length ≤ 1000000) :
    Calls Tryz.prog 108 #[v] w (CloneAns IntE 1 3 w l) := cloneI_gen h (fun _ _ h => one_int h) hl
end Go.Proofs.YtdjobjbkpagnaaaGreat
/-
  append to a full slice that is not the call's own; 'append(nil, make(S, k)...)'. No program is spoken of.
-/
namespace Go.Proofs.YtdjobjbkpagnaaaGreat
open Go.RowKit Go.Shelf

theorem rows_of_flat {w : World} {b : Nat} {t : TypeId} {tot sz : Nat} {R : List (List Value)} (hsz : 0 < sz) {cur : Array Value} {tail : List Value} (hb : w.heap[b]? = some (.cells cur t (0, 0))) (hs : cur.size = tot) (hc : cur.toList = R.flatten ++ tail) (hR : ∀ r ∈ R, r.length = sz) : Rows w b t tot sz R := by
  have hl := length_flat R hR
  refine ⟨cur, hb, hs, ?_, hR, ?_⟩
  · have := congrArg List.length hc
    rw [List.length_append, hl, Array.length_toList] at this
    omega
  · intro i r hr j v hv
    have hi : i < R.length := (List.getElem?_eq_some_iff.1 hr).1
    have hj : j < sz := by
      have := hR r (List.mem_of_getElem? hr)
      have := (List.getElem?_eq_some_iff.1 hv).1
      omega
    have hk : i * sz + j < R.flatten.length := by
      rw [hl]
      have : (i + 1) * sz ≤ R.length * sz := Nat.mul_le_mul_right _ hi
      rw [Nat.add_mul] at this
      omega
    rw [← Array.getElem?_toList, hc, List.getElem?_append_left hk, flatten_at hsz R hR]
    have d1 : (i * sz + j) / sz = i := by rw [Nat.mul_comm, Nat.mul_add_div hsz, Nat.div_eq_of_lt hj]; rfl
    have d2 : (i * sz + j) % sz = j := by rw [Nat.mul_comm, Nat.mul_add_mod, Nat.mod_eq_of_lt hj]
    rw [d1, d2, hr]
    exact hv
/-- 'append(s[:len(s):len(s)], x)': a new block. -/
theorem run_full {P : Program} {α : Type} {E : World → α → List Value → Prop} {sz : Nat} (w0 w : World) (T ty e : TypeId) (i : TypeInfo) (z : Value) (bytes : Nat) (hT : P.underlying T = some (.slice e)) (hi : P.info? e = some i) (hz : i.zero = some z) (hsize : i.size = sz) (hby : i.bytes = bytes) (hzs : z.cells.size = sz) (hsz : 0 < sz) (hbl : bytes ≤ 200)
    {a : Option Addr} {n : Nat} {l : List α} (h : SlIs E sz w0 (.slice a n n) l) (hb0 : Below w0.heap.size w0 w) (hn : n ≤ 999999) (ad : Addr) (c : Nat) (x : α) (r : List Value) (hr : r.length = sz) (hx : E w0 x r) (hnews : ∀ j v, r[j]? = some v → w.cell? (ad.add j) = some v) (h1 : ∀ u ∈ r, u.oneCell' = true) :
    ∃ g vc w' R, (Builtin.append_ #[T, T] ty #[.slice a n n, .slice (some ad) 1 c]).run P w = .ok (.slice (some ⟨g, 0, none⟩) (n + 1) vc) w' ∧ SRows w' (.slice (some ⟨g, 0, none⟩) (n + 1) vc) e sz R ∧ RowsE E w0 (l ++ [x]) R ∧ w.heap.size ≤ g ∧ Below w.heap.size w w' := by
  have hb2 : (n + 1) * bytes ≤ 1000000 * 200 := Nat.mul_le_mul (by omega) hbl
  have hrow : ∀ (R : List (List Value)), RowsE E w0 l R → RowsE E w0 (l ++ [x]) (R ++ [r]) := by
    intro R hR
    refine ⟨by simp [hR.1], fun k y s hy hs => ?_⟩
    by_cases hk : k < l.length
    · rw [List.getElem?_append_left hk] at hy
      rw [List.getElem?_append_left (by rw [hR.1]; exact hk)] at hs
      exact hR.2 k y s hy hs
    · have hk2 := (List.getElem?_eq_some_iff.1 hy).1
      rw [List.length_append, List.length_singleton] at hk2
      have hk3 : k = l.length := by omega
      subst hk3
      rw [List.getElem?_append_right (Nat.le_refl _)] at hy
      rw [List.getElem?_append_right (by rw [hR.1]; exact Nat.le_refl _), hR.1] at hs
      simp at hy hs
      subst hy hs
      exact hx
  cases a with
  | none =>
    obtain ⟨rfl, rfl⟩ := slIs_none h
    have hown := World.ownsRow_nil w w.heap.size e sz
    obtain ⟨v', w', h2, h3, h4, _⟩ := run_append_own (P := P) w w.heap.size T ty e i z sz bytes hT hi hz hsize hby hzs hsz _ 0 [] hown ad 1 c r (by rw [hr]; omega) hnews h1 (by unfold maxLen; omega) (by omega) (Nat.le_refl _)
    have hb : Below w.heap.size w w' := (Below.refl _ w).grown h4 (Nat.le_refl _) (fun k hk => by simp [Value.ownBlock] at hk)
    rcases h3.2 with ⟨_, h0⟩ | ⟨g, cap, cur, rfl, hg, h5⟩
    · simp at h0
    · exact ⟨g, cap, w', [r], h2, srows_of_own h3 (by simp) (by simp [hr]) hsz (by simp), hrow [] ⟨rfl, fun k y s hy => by simp at hy⟩, hg, hb⟩
  | some b =>
    obtain ⟨R, hRE, hRl, hRn, hRc⟩ := slIs_from hsz h
    subst hsize
    have hfl := length_flat R hRl
    rw [hRn] at hfl
    have h2 := run_append_grow (P := P) w T ty e i z hT hi hz b n n R.flatten hfl (fun j v hv => hRc w hb0 j v hv) ad 1 c r (by rw [hr]; omega) hnews (by omega) (by omega) (growslice_fits (by omega) (by rw [hby]; omega))
    have hb : Below w.heap.size w (w.drew.alloc (.cells (R.flatten.toArray ++ r.toArray ++ Builtin.zeroCells z.cells (grownCap w (n + 1) n e - (n + 1))) e)) := ((Below.refl _ w).drew).alloc (Nat.le_refl _) _
    have hge := grownCap_ge w (n + 1) n e
    have hcm := grownCap_le_maxLen w (n + 1) n e (by unfold maxLen; omega)
    refine ⟨w.heap.size, _, _, R ++ [r], h2, ?_, hrow R hRE, Nat.le_refl _, hb⟩
    refine .inr ⟨w.heap.size, grownCap w (n + 1) n e, by simp [hRn], by simp [hRn]; exact hge, hcm, ?_⟩
    refine rows_of_flat hsz (heap_alloc_last w.drew _) ?_ (tail := (Builtin.zeroCells z.cells (grownCap w (n + 1) n e - (n + 1))).toList) (by simp) (by
      intro s hs
      rcases List.mem_append.1 hs with hs | hs
      · exact hRl s hs
      · simp at hs; rw [hs]; exact hr)
    simp only [Array.size_append, List.size_toArray, size_zeroCells, hzs, hfl, hr]
    have : (n + 1) * i.size + (grownCap w (n + 1) n e - (n + 1)) * i.size = grownCap w (n + 1) n e * i.size := by rw [← Nat.add_mul]; congr 1; omega
    rw [← this, Nat.add_mul]
    omega
section
variable {P : Program} {ops : Array Oper} {rest : List Oper} {o : Oper} {a : Act} {w : World} {Q : Exit → Act → World → Prop}
/-- 'append(nil, make(S, k)...)'. -/
theorem append_zeros_nil (hgd : o.guard = none) (s x : Operand) (T Tn e : TypeId) (i : TypeInfo) (z : Value) (sz bytes : Nat) (ho : o.op = .call { callee := .builtin .append, args := #[s, x], argTypes := #[T, Tn] })
    (hT : P.underlying T = some (.slice e)) (hTn : P.underlying Tn = some (.int .i64)) (hi : P.info? e = some i) (hz : i.zero = some z) (hsize : i.size = sz) (hby : i.bytes = bytes) (hzs : z.cells.size = sz) (hsz : 0 < sz) (hbl : bytes ≤ 200)
    (hs : a.eval s = .slice none 0 0) (k : Nat) (hx : a.eval x = .int .i64 k) (hk : 0 < k) (hl : k ≤ 1000000)
    (h : ∀ cap' w', Hid (SRows w' (.slice (some ⟨w.heap.size, 0, none⟩) 0 cap') e sz []) → Hid (k ≤ cap') → Hid (Below w.heap.size w w') → wpList P ops Q rest (a.put o.dst (.slice (some ⟨w.heap.size, 0, none⟩) k cap')) w') :
    wpList P ops Q (o :: rest) a w := by
  subst hsize hby
  have hkb : k * i.bytes ≤ 1000000 * 200 := Nat.mul_le_mul hl hbl
  have hr := Lib.run_append_grow_zeros (P := P) w T Tn o.type e i z .i64 .i64 hT hTn hi hz none 0 0 [] (by simpa using run_firstCells_none (P := P) (w := w.drew) i.size 0 0 0) k hk hsz (by omega) (by omega) (by omega) (growslice_fits (by omega) (by rw [Nat.zero_add]; omega))
  have hge := grownCap_ge w (0 + k) 0 e
  have hcm := grownCap_le_maxLen w (0 + k) 0 e (by unfold maxLen; omega)
  refine wpList_plain hgd fun K hK => ?_
  unfold Oper.wp execOp
  simp only [ho, resolve, invoke, builtin, Sem.run_bind, Sem.run_pure, Result.andThen_ok, List.map_toArray, List.map_cons, List.map_nil, hs, hx, hr]
  rw [Nat.zero_add] at hge hcm ⊢
  refine hK _ _ (h _ _ (show SRows _ _ _ _ _ from ?_) (show _ ≤ _ from hge) (show Below _ _ _ from ((Below.refl _ w).drew).alloc (Nat.le_refl _) _))
  refine .inr ⟨w.heap.size, _, rfl, Nat.zero_le _, hcm, ?_⟩
  refine rows_of_flat hsz (heap_alloc_last w.drew _) ?_ (tail := (([] : List Value).toArray ++ Builtin.zeroCells z.cells k ++ Builtin.zeroCells z.cells (grownCap w k 0 e - k)).toList) (by simp) (by simp)
  simp only [Array.size_append, List.size_toArray, size_zeroCells, hzs, List.length_nil, Nat.zero_add]
  rw [← Nat.add_mul]
  congr 1
  omega
end
end Go.Proofs.YtdjobjbkpagnaaaGreat
/-
  The contracts of slices.Grow of nil, of slices.Concat of two, and of schema's grown, without and with.
-/
namespace Go.Proofs.YtdjobjbkpagnaaaGreat
open Go.RowKit Go.Shelf

theorem rowsE_append {α : Type} {E : World → α → List Value → Prop} {w : World} {l1 l2 : List α} {R1 R2 : List (List Value)} (h1 : RowsE E w l1 R1) (h2 : RowsE E w l2 R2) : RowsE E w (l1 ++ l2) (R1 ++ R2) := by
  refine ⟨by simp [h1.1, h2.1], fun i x r hx hr => ?_⟩
  by_cases hi : i < l1.length
  · rw [List.getElem?_append_left hi] at hx
    rw [List.getElem?_append_left (by rw [h1.1]; exact hi)] at hr
    exact h1.2 i x r hx hr
  · rw [List.getElem?_append_right (by omega)] at hx
    rw [List.getElem?_append_right (by rw [h1.1]; omega), h1.1] at hr
    exact h2.2 _ x r hx hr
theorem rowsE_one {α : Type} {E : World → α → List Value → Prop} {w : World} {l : List α} {R : List (List Value)} (h : RowsE E w l R) (hone : ∀ (x : α) (cs : List Value), E w x cs → ∀ u ∈ cs, u.oneCell' = true) : ∀ r ∈ R, ∀ c ∈ r, c.oneCell' = true := fun r hr => by
  obtain ⟨i, hi⟩ := List.getElem?_of_mem hr
  have hil := (List.getElem?_eq_some_iff.1 hi).1
  have hx : l[i]? = some (l[i]'(by rw [← h.1]; exact hil)) := List.getElem?_eq_getElem _
  exact hone _ _ (h.2 i _ r hx hi)
set_option maxRecDepth 4000 in
set_option maxHeartbeats 2000000 in
theorem growT_any (k : Nat) (hk : k ≤ 1000000) (w : World) :
    Calls Tryz.prog 142 #[.slice none 0 0, .int .i64 (k : Int)] w fun e w' => (∃ v', e = .returned v' ∧ SRows w' v' 41 3 [] ∧ ∀ b, v'.ownBlock = some b → w.heap.size ≤ b) ∧ Below w.heap.size w w' := by
  have hkI : (k : Int) ≤ 1000000 := by omega
  have hk0 : ¬ (k : Int) < 0 := by omega
  by_cases h0 : 0 < k
  · have h0I : 0 < (k : Int) := by omega
    obtain ⟨i0, hi, hz0, hz1, hz2⟩ := info_parts infos_tb
    have HI : Hid (Tryz.prog.info? 41 = some i0 ∧ i0.zero = some (.agg #[.string ⟨#[]⟩, .slice none 0 0, .slice none 0 0]) ∧ i0.size = 3 ∧ i0.bytes = 64 ∧ 0 < k ∧ k ≤ 1000000) := ⟨hi, hz0, hz1, hz2, h0, hk⟩
    clear hi hz0 hz1 hz2 h0 hk
    go_enter Tryz.func142, Tryz.ntmps142
    go_wp2_with (at_builtin; refine append_zeros_nil rfl (.tmp 20) (.tmp 21) 22 3 41 i0 (.agg #[.string ⟨#[]⟩, .slice none 0 0, .slice none 0 0]) 3 64 rfl Tryz.underlying22 Tryz.underlying3 HI.out.1 HI.out.2.1 HI.out.2.2.1 HI.out.2.2.2.1 rfl (by decide) (by decide) rfl k rfl HI.out.2.2.2.2.1 HI.out.2.2.2.2.2 ?_; intro cap' w1 hs hc hb)
    go_ret
    exact ⟨⟨_, rfl, hs.out, fun b hb => by have e : some w.heap.size = some b := hb; cases e; exact Nat.le_refl _⟩, hb.out⟩
  · have h0I : ¬ 0 < (k : Int) := by omega
    obtain rfl : k = 0 := by omega
    go_enter Tryz.func142, Tryz.ntmps142
    go_wp2_with fail
    go_ret
    exact ⟨⟨_, rfl, srows_nil _ _ _, fun b hb => by simp [Value.ownBlock] at hb⟩, Below.refl _ _⟩
set_option maxRecDepth 4000 in
set_option maxHeartbeats 4000000 in
theorem concatT_gen {α : Type} {E : World → α → List Value → Prop} {w0 w : World} (hb0 : Below w0.heap.size w0 w) (ho : ∀ x cs, E w0 x cs → ∀ u ∈ cs, u.oneCell' = true) {B : Nat} {ad1 ad2 : Addr} {n1 n2 c1 c2 : Nat} {l1 l2 : List α} (hB1 : w.cell? ⟨B, 0, none⟩ = some (.slice (some ad1) n1 c1)) (hB2 : w.cell? ⟨B, 1, none⟩ = some (.slice (some ad2) n2 c2)) (h1 : SlIs E 3 w0 (.slice (some ad1) n1 c1) l1) (h2 : SlIs E 3 w0 (.slice (some ad2) n2 c2) l2) (hn1 : n1 ≤ 1000) (hn2 : n2 ≤ 1000) :
    Calls Tryz.prog 118 #[.slice (some ⟨B, 0, none⟩) 2 2] w (CloneAns E 3 41 w0 (l1 ++ l2)) := by
  obtain ⟨R1, hE1, hl1, hr1, hc1⟩ := slIs_from (by decide) h1
  obtain ⟨R2, hE2, hl2, hr2, hc2⟩ := slIs_from (by decide) h2
  have ho1 := rowsE_one hE1 ho
  have ho2 := rowsE_one hE2 ho
  obtain ⟨i0, hi, hz0, hz1, hz2⟩ := info_parts infos_tb
  have HI : Hid (Tryz.prog.info? 41 = some i0 ∧ i0.zero = some (.agg #[.string ⟨#[]⟩, .slice none 0 0, .slice none 0 0]) ∧ i0.size = 3 ∧ i0.bytes = 64) := ⟨hi, hz0, hz1, hz2⟩
  have HR : Hid (RowsE E w0 l1 R1 ∧ RowsE E w0 l2 R2) := ⟨hE1, hE2⟩
  have H1 : Hid ((∀ r ∈ R1, r.length = 3) ∧ R1.length = n1 ∧ (∀ W, Below w0.heap.size w0 W → ∀ (j : Nat) (u : Value), R1.flatten[j]? = some u → W.cell? (ad1.add j) = some u) ∧ (∀ r ∈ R1, ∀ c ∈ r, c.oneCell' = true)) := ⟨hl1, hr1, hc1, ho1⟩
  have H2 : Hid ((∀ r ∈ R2, r.length = 3) ∧ R2.length = n2 ∧ (∀ W, Below w0.heap.size w0 W → ∀ (j : Nat) (u : Value), R2.flatten[j]? = some u → W.cell? (ad2.add j) = some u) ∧ (∀ r ∈ R2, ∀ c ∈ r, c.oneCell' = true)) := ⟨hl2, hr2, hc2, ho2⟩
  have hlt := World.block_lt_of_cell? w _ hB1
  have HB : Hid (w.cell? ⟨B, 0, none⟩ = some (.slice (some ad1) n1 c1) ∧ w.cell? ⟨B, 1, none⟩ = some (.slice (some ad2) n2 c2) ∧ B < w.heap.size) := ⟨hB1, hB2, hlt⟩
  have H0 : Hid (Below w0.heap.size w0 w) := hb0
  have hn1I : (n1 : Int) ≤ 1000 := by omega
  have hn2I : (n2 : Int) ≤ 1000 := by omega
  clear hb0 ho h1 h2 hE1 hE2 hl1 hl2 hr1 hr2 hc1 hc2 ho1 ho2 hi hz0 hz1 hz2 hlt hB1 hB2
  go_enter Tryz.func118, Tryz.ntmps118
  go_wp2_with fail
  go_loopg [3, 11] 2 (fun gg s3 s11 wx => ∃ k : Nat, k + gg = 2 ∧ s11 = .int .i64 k ∧ s3 = .int .i64 (if k = 0 then 0 else if k = 1 then (n1 : Int) else (n1 : Int) + (n2 : Int)) ∧ wx = w)
  case atStart => exact ⟨0, by omega, rfl, rfl, rfl⟩
  case round =>
    obtain ⟨k, hkg, rfl, rfl, hw⟩ := hrel
    subst hw
    have hk3 : k = 0 ∨ k = 1 ∨ k = 2 := by omega
    rcases hk3 with rfl | rfl | rfl
    · have c0 := HB.out.1
      have hnn : ¬ (n1 : Int) < 0 := by omega
      simp only [if_true]
      go_wp2_with fail
      go_roundg 1
      case measure => omega
      case rel => exact ⟨1, by omega, rfl, by simp, rfl⟩
    · have c1 := HB.out.2.1
      have hnn : ¬ (n1 : Int) + (n2 : Int) < 0 := by omega
      simp only [Nat.one_ne_zero, if_false, if_true]
      go_wp2_with fail
      go_roundg 0
      case measure => omega
      case rel => exact ⟨2, by omega, rfl, by simp, rfl⟩
    · have cg := growT_any (n1 + n2) (by omega) wr
      rw [show ((n1 + n2 : Nat) : Int) = (n1 : Int) + (n2 : Int) by omega] at cg
      simp only [show (2 : Nat) ≠ 0 by decide, show (2 : Nat) ≠ 1 by decide, if_false]
      go_wp2_with fail
      refine cg.mono ?_
      rintro e w1 ⟨⟨v1, rfl, hs1, ho1⟩, hb1⟩
      have HV1 : Hid (SRows w1 v1 41 3 [] ∧ (∀ b, v1.ownBlock = some b → wr.heap.size ≤ b) ∧ Below wr.heap.size wr w1) := ⟨hs1, ho1, hb1⟩
      obtain ⟨a1, q1, rfl⟩ : ∃ a q, v1 = .slice a 0 q := by rcases hs1 with ⟨rfl, _⟩ | ⟨g, cap, rfl, _⟩ <;> exact ⟨_, _, rfl⟩
      clear cg hs1 ho1 hb1
      go_wp2_with fail
      go_loopg [6, 27] 2 (fun gg s6 s27 wx => ∃ (k : Nat) (a : Option Addr) (q : Nat), k + gg = 2 ∧ s27 = .int .i64 k ∧ s6 = .slice a (if k = 0 then 0 else if k = 1 then n1 else n1 + n2) q ∧ Hid (SRows wx (.slice a (if k = 0 then 0 else if k = 1 then n1 else n1 + n2) q) 41 3 (if k = 0 then [] else if k = 1 then R1 else R1 ++ R2) ∧ (∀ b, (Value.slice a (if k = 0 then 0 else if k = 1 then n1 else n1 + n2) q).ownBlock = some b → wr.heap.size ≤ b) ∧ Below wr.heap.size wr wx))
      case atStart => exact ⟨0, a1, q1, by omega, rfl, rfl, HV1⟩
      case round =>
        clear HV1
        obtain ⟨k, a, q, hkg, rfl, rfl, HV⟩ := hrel
        have hk3 : k = 0 ∨ k = 1 ∨ k = 2 := by omega
        rcases hk3 with rfl | rfl | rfl
        · simp only [if_true] at HV ⊢
          have c0 : wr.cell? ⟨B, 0, none⟩ = some (.slice (some ad1) n1 c1) := (HV.out.2.2.cell (p := ⟨B, 0, none⟩) HB.out.2.2).trans HB.out.1
          have hNe := H1.out.2.2.1 _ (H0.out.trans (HV.out.2.2.mono H0.out.size))
          have HNE : Hid (∀ (j : Nat) (u : Value), R1.flatten[j]? = some u → wr.cell? (ad1.add j) = some u) := hNe
          clear hNe
          go_wp2_with (at_builtin; refine append_any rfl (.tmp 31) (.tmp 32) 22 41 i0 (.agg #[.string ⟨#[]⟩, .slice none 0 0, .slice none 0 0]) 3 64 rfl Tryz.underlying22 HI.out.1 HI.out.2.1 HI.out.2.2.1 HI.out.2.2.2 rfl (by decide) (by decide) rfl rfl HV.out.1 H1.out.2.1 H1.out.1 HNE.out H1.out.2.2.2 n1 (Nat.zero_add n1) R1 rfl (by omega) ?_; intro va vc w2 hs hwh hk)
          go_roundg 1
          case measure => omega
          case rel =>
            refine ⟨1, va, vc, by omega, rfl, rfl, hs.out, fun b hb => ?_, ?_⟩
            · rcases hwh.out b hb with h | h
              · exact HV.out.2.1 b h
              · have := HV.out.2.2.size; omega
            · exact HV.out.2.2.trans (hk.out.below (fun x hx => HV.out.2.1 x hx) HV.out.2.2.size)
        · simp only [Nat.one_ne_zero, if_false, if_true] at HV ⊢
          have c0 : wr.cell? ⟨B, 1, none⟩ = some (.slice (some ad2) n2 c2) := (HV.out.2.2.cell (p := ⟨B, 1, none⟩) HB.out.2.2).trans HB.out.2.1
          have hNe := H2.out.2.2.1 _ (H0.out.trans (HV.out.2.2.mono H0.out.size))
          have HNE : Hid (∀ (j : Nat) (u : Value), R2.flatten[j]? = some u → wr.cell? (ad2.add j) = some u) := hNe
          have HSZ : Hid (R1.length + n2 = n1 + n2) := by unfold Hid; rw [H1.out.2.1]
          clear hNe
          go_wp2_with (at_builtin; refine append_any rfl (.tmp 31) (.tmp 32) 22 41 i0 (.agg #[.string ⟨#[]⟩, .slice none 0 0, .slice none 0 0]) 3 64 rfl Tryz.underlying22 HI.out.1 HI.out.2.1 HI.out.2.2.1 HI.out.2.2.2 rfl (by decide) (by decide) rfl rfl HV.out.1 H2.out.2.1 H2.out.1 HNE.out H2.out.2.2.2 (n1 + n2) HSZ.out (R1 ++ R2) rfl (by omega) ?_; intro va vc w2 hs hwh hk)
          go_roundg 0
          case measure => omega
          case rel =>
            refine ⟨2, va, vc, by omega, rfl, rfl, hs.out, fun b hb => ?_, ?_⟩
            · rcases hwh.out b hb with h | h
              · exact HV.out.2.1 b h
              · have := HV.out.2.2.size; omega
            · exact HV.out.2.2.trans (hk.out.below (fun x hx => HV.out.2.1 x hx) HV.out.2.2.size)
        · simp only [show (2 : Nat) ≠ 0 by decide, show (2 : Nat) ≠ 1 by decide, if_false] at HV ⊢
          go_wp2_with fail
          go_ret
          exact ⟨⟨_, _, rfl, HV.out.1, rowsE_append HR.out.1 HR.out.2, fun b hb => Nat.le_trans H0.out.size (HV.out.2.1 b hb)⟩, H0.out.trans (HV.out.2.2.mono H0.out.size)⟩
set_option maxRecDepth 4000 in
set_option maxHeartbeats 2000000 in
theorem growP_any (k : Nat) (hk : k ≤ 1000000) (w : World) :
    Calls Tryz.prog 141 #[.slice none 0 0, .int .i64 (k : Int)] w fun e w' => (∃ v', e = .returned v' ∧ SRows w' v' 26 3 [] ∧ ∀ b, v'.ownBlock = some b → w.heap.size ≤ b) ∧ Below w.heap.size w w' := by
  have hkI : (k : Int) ≤ 1000000 := by omega
  have hk0 : ¬ (k : Int) < 0 := by omega
  by_cases h0 : 0 < k
  · have h0I : 0 < (k : Int) := by omega
    obtain ⟨i0, hi, hz0, hz1, hz2⟩ := info_parts infos_pj
    have HI : Hid (Tryz.prog.info? 26 = some i0 ∧ i0.zero = some (.agg #[.string ⟨#[]⟩, .slice none 0 0, .int .i64 0]) ∧ i0.size = 3 ∧ i0.bytes = 48 ∧ 0 < k ∧ k ≤ 1000000) := ⟨hi, hz0, hz1, hz2, h0, hk⟩
    clear hi hz0 hz1 hz2 h0 hk
    go_enter Tryz.func141, Tryz.ntmps141
    go_wp2_with (at_builtin; refine append_zeros_nil rfl (.tmp 20) (.tmp 21) 39 3 26 i0 (.agg #[.string ⟨#[]⟩, .slice none 0 0, .int .i64 0]) 3 48 rfl Tryz.underlying39 Tryz.underlying3 HI.out.1 HI.out.2.1 HI.out.2.2.1 HI.out.2.2.2.1 rfl (by decide) (by decide) rfl k rfl HI.out.2.2.2.2.1 HI.out.2.2.2.2.2 ?_; intro cap' w1 hs hc hb)
    go_ret
    exact ⟨⟨_, rfl, hs.out, fun b hb => by have e : some w.heap.size = some b := hb; cases e; exact Nat.le_refl _⟩, hb.out⟩
  · have h0I : ¬ 0 < (k : Int) := by omega
    obtain rfl : k = 0 := by omega
    go_enter Tryz.func141, Tryz.ntmps141
    go_wp2_with fail
    go_ret
    exact ⟨⟨_, rfl, srows_nil _ _ _, fun b hb => by simp [Value.ownBlock] at hb⟩, Below.refl _ _⟩
set_option maxRecDepth 4000 in
set_option maxHeartbeats 4000000 in
theorem concatP_gen {α : Type} {E : World → α → List Value → Prop} {w0 w : World} (hb0 : Below w0.heap.size w0 w) (ho : ∀ x cs, E w0 x cs → ∀ u ∈ cs, u.oneCell' = true) {B : Nat} {ad1 ad2 : Addr} {n1 n2 c1 c2 : Nat} {l1 l2 : List α} (hB1 : w.cell? ⟨B, 0, none⟩ = some (.slice (some ad1) n1 c1)) (hB2 : w.cell? ⟨B, 1, none⟩ = some (.slice (some ad2) n2 c2)) (h1 : SlIs E 3 w0 (.slice (some ad1) n1 c1) l1) (h2 : SlIs E 3 w0 (.slice (some ad2) n2 c2) l2) (hn1 : n1 ≤ 1000) (hn2 : n2 ≤ 1000) :
    Calls Tryz.prog 115 #[.slice (some ⟨B, 0, none⟩) 2 2] w (CloneAns E 3 26 w0 (l1 ++ l2)) := by
  obtain ⟨R1, hE1, hl1, hr1, hc1⟩ := slIs_from (by decide) h1
  obtain ⟨R2, hE2, hl2, hr2, hc2⟩ := slIs_from (by decide) h2
  have ho1 := rowsE_one hE1 ho
  have ho2 := rowsE_one hE2 ho
  obtain ⟨i0, hi, hz0, hz1, hz2⟩ := info_parts infos_pj
  have HI : Hid (Tryz.prog.info? 26 = some i0 ∧ i0.zero = some (.agg #[.string ⟨#[]⟩, .slice none 0 0, .int .i64 0]) ∧ i0.size = 3 ∧ i0.bytes = 48) := ⟨hi, hz0, hz1, hz2⟩
  have HR : Hid (RowsE E w0 l1 R1 ∧ RowsE E w0 l2 R2) := ⟨hE1, hE2⟩
  have H1 : Hid ((∀ r ∈ R1, r.length = 3) ∧ R1.length = n1 ∧ (∀ W, Below w0.heap.size w0 W → ∀ (j : Nat) (u : Value), R1.flatten[j]? = some u → W.cell? (ad1.add j) = some u) ∧ (∀ r ∈ R1, ∀ c ∈ r, c.oneCell' = true)) := ⟨hl1, hr1, hc1, ho1⟩
  have H2 : Hid ((∀ r ∈ R2, r.length = 3) ∧ R2.length = n2 ∧ (∀ W, Below w0.heap.size w0 W → ∀ (j : Nat) (u : Value), R2.flatten[j]? = some u → W.cell? (ad2.add j) = some u) ∧ (∀ r ∈ R2, ∀ c ∈ r, c.oneCell' = true)) := ⟨hl2, hr2, hc2, ho2⟩
  have hlt := World.block_lt_of_cell? w _ hB1
  have HB : Hid (w.cell? ⟨B, 0, none⟩ = some (.slice (some ad1) n1 c1) ∧ w.cell? ⟨B, 1, none⟩ = some (.slice (some ad2) n2 c2) ∧ B < w.heap.size) := ⟨hB1, hB2, hlt⟩
  have H0 : Hid (Below w0.heap.size w0 w) := hb0
  have hn1I : (n1 : Int) ≤ 1000 := by omega
  have hn2I : (n2 : Int) ≤ 1000 := by omega
  clear hb0 ho h1 h2 hE1 hE2 hl1 hl2 hr1 hr2 hc1 hc2 ho1 ho2 hi hz0 hz1 hz2 hlt hB1 hB2
  go_enter Tryz.func115, Tryz.ntmps115
  go_wp2_with fail
  go_loopg [3, 11] 2 (fun gg s3 s11 wx => ∃ k : Nat, k + gg = 2 ∧ s11 = .int .i64 k ∧ s3 = .int .i64 (if k = 0 then 0 else if k = 1 then (n1 : Int) else (n1 : Int) + (n2 : Int)) ∧ wx = w)
  case atStart => exact ⟨0, by omega, rfl, rfl, rfl⟩
  case round =>
    obtain ⟨k, hkg, rfl, rfl, hw⟩ := hrel
    subst hw
    have hk3 : k = 0 ∨ k = 1 ∨ k = 2 := by omega
    rcases hk3 with rfl | rfl | rfl
    · have c0 := HB.out.1
      have hnn : ¬ (n1 : Int) < 0 := by omega
      simp only [if_true]
      go_wp2_with fail
      go_roundg 1
      case measure => omega
      case rel => exact ⟨1, by omega, rfl, by simp, rfl⟩
    · have c1 := HB.out.2.1
      have hnn : ¬ (n1 : Int) + (n2 : Int) < 0 := by omega
      simp only [Nat.one_ne_zero, if_false, if_true]
      go_wp2_with fail
      go_roundg 0
      case measure => omega
      case rel => exact ⟨2, by omega, rfl, by simp, rfl⟩
    · have cg := growP_any (n1 + n2) (by omega) wr
      rw [show ((n1 + n2 : Nat) : Int) = (n1 : Int) + (n2 : Int) by omega] at cg
      simp only [show (2 : Nat) ≠ 0 by decide, show (2 : Nat) ≠ 1 by decide, if_false]
      go_wp2_with fail
      refine cg.mono ?_
      rintro e w1 ⟨⟨v1, rfl, hs1, ho1⟩, hb1⟩
      have HV1 : Hid (SRows w1 v1 26 3 [] ∧ (∀ b, v1.ownBlock = some b → wr.heap.size ≤ b) ∧ Below wr.heap.size wr w1) := ⟨hs1, ho1, hb1⟩
      obtain ⟨a1, q1, rfl⟩ : ∃ a q, v1 = .slice a 0 q := by rcases hs1 with ⟨rfl, _⟩ | ⟨g, cap, rfl, _⟩ <;> exact ⟨_, _, rfl⟩
      clear cg hs1 ho1 hb1
      go_wp2_with fail
      go_loopg [6, 27] 2 (fun gg s6 s27 wx => ∃ (k : Nat) (a : Option Addr) (q : Nat), k + gg = 2 ∧ s27 = .int .i64 k ∧ s6 = .slice a (if k = 0 then 0 else if k = 1 then n1 else n1 + n2) q ∧ Hid (SRows wx (.slice a (if k = 0 then 0 else if k = 1 then n1 else n1 + n2) q) 26 3 (if k = 0 then [] else if k = 1 then R1 else R1 ++ R2) ∧ (∀ b, (Value.slice a (if k = 0 then 0 else if k = 1 then n1 else n1 + n2) q).ownBlock = some b → wr.heap.size ≤ b) ∧ Below wr.heap.size wr wx))
      case atStart => exact ⟨0, a1, q1, by omega, rfl, rfl, HV1⟩
      case round =>
        clear HV1
        obtain ⟨k, a, q, hkg, rfl, rfl, HV⟩ := hrel
        have hk3 : k = 0 ∨ k = 1 ∨ k = 2 := by omega
        rcases hk3 with rfl | rfl | rfl
        · simp only [if_true] at HV ⊢
          have c0 : wr.cell? ⟨B, 0, none⟩ = some (.slice (some ad1) n1 c1) := (HV.out.2.2.cell (p := ⟨B, 0, none⟩) HB.out.2.2).trans HB.out.1
          have hNe := H1.out.2.2.1 _ (H0.out.trans (HV.out.2.2.mono H0.out.size))
          have HNE : Hid (∀ (j : Nat) (u : Value), R1.flatten[j]? = some u → wr.cell? (ad1.add j) = some u) := hNe
          clear hNe
          go_wp2_with (at_builtin; refine append_any rfl (.tmp 31) (.tmp 32) 39 26 i0 (.agg #[.string ⟨#[]⟩, .slice none 0 0, .int .i64 0]) 3 48 rfl Tryz.underlying39 HI.out.1 HI.out.2.1 HI.out.2.2.1 HI.out.2.2.2 rfl (by decide) (by decide) rfl rfl HV.out.1 H1.out.2.1 H1.out.1 HNE.out H1.out.2.2.2 n1 (Nat.zero_add n1) R1 rfl (by omega) ?_; intro va vc w2 hs hwh hk)
          go_roundg 1
          case measure => omega
          case rel =>
            refine ⟨1, va, vc, by omega, rfl, rfl, hs.out, fun b hb => ?_, ?_⟩
            · rcases hwh.out b hb with h | h
              · exact HV.out.2.1 b h
              · have := HV.out.2.2.size; omega
            · exact HV.out.2.2.trans (hk.out.below (fun x hx => HV.out.2.1 x hx) HV.out.2.2.size)
        · simp only [Nat.one_ne_zero, if_false, if_true] at HV ⊢
          have c0 : wr.cell? ⟨B, 1, none⟩ = some (.slice (some ad2) n2 c2) := (HV.out.2.2.cell (p := ⟨B, 1, none⟩) HB.out.2.2).trans HB.out.2.1
          have hNe := H2.out.2.2.1 _ (H0.out.trans (HV.out.2.2.mono H0.out.size))
          have HNE : Hid (∀ (j : Nat) (u : Value), R2.flatten[j]? = some u → wr.cell? (ad2.add j) = some u) := hNe
          have HSZ : Hid (R1.length + n2 = n1 + n2) := by unfold Hid; rw [H1.out.2.1]
          clear hNe
          go_wp2_with (at_builtin; refine append_any rfl (.tmp 31) (.tmp 32) 39 26 i0 (.agg #[.string ⟨#[]⟩, .slice none 0 0, .int .i64 0]) 3 48 rfl Tryz.underlying39 HI.out.1 HI.out.2.1 HI.out.2.2.1 HI.out.2.2.2 rfl (by decide) (by decide) rfl rfl HV.out.1 H2.out.2.1 H2.out.1 HNE.out H2.out.2.2.2 (n1 + n2) HSZ.out (R1 ++ R2) rfl (by omega) ?_; intro va vc w2 hs hwh hk)
          go_roundg 0
          case measure => omega
          case rel =>
            refine ⟨2, va, vc, by omega, rfl, rfl, hs.out, fun b hb => ?_, ?_⟩
            · rcases hwh.out b hb with h | h
              · exact HV.out.2.1 b h
              · have := HV.out.2.2.size; omega
            · exact HV.out.2.2.trans (hk.out.below (fun x hx => HV.out.2.1 x hx) HV.out.2.2.size)
        · simp only [show (2 : Nat) ≠ 0 by decide, show (2 : Nat) ≠ 1 by decide, if_false] at HV ⊢
          go_wp2_with fail
          go_ret
          exact ⟨⟨_, _, rfl, HV.out.1, rowsE_append HR.out.1 HR.out.2, fun b hb => Nat.le_trans H0.out.size (HV.out.2.1 b hb)⟩, H0.out.trans (HV.out.2.2.mono H0.out.size)⟩
end Go.Proofs.YtdjobjbkpagnaaaGreat
