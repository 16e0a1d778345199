/-
  9 texts, one behind the other: Last, Pair, KRows, KFits, KOpen, YBlank, YShown, YWalkC, WLexBlanks.
-/
import Derived.WalkKit
import Derived.Deep.Quiet
import Derived.Deep.QuietTactic
import Derived.BigQuiet
import Derived.Below
import Derived.Deep.RegionHeld3
import Derived.Test.YtoccbfgcmaahcaaDoorJoin1
import Derived.Test.YtoccbfgcmaahcaaDoorJoin2
import Derived.Deep.RegionWith
import Derived.Lib.SmallJoins
import Derived.Deep.Slices
import Derived.ChangeArms
import Derived.Test.YtoccbfgcmaahcaaDoorJoin3
/-
  Regions that draw their order, whose last operation waits for all others: where these are quiet in a class of worlds, the walk in the order of the text serves, and the last operation is done in whatever world of the class. No program is spoken of.
-/
namespace Go.Proofs.YtoccbfgcmaahcaaDoor
open Go.RowKit

/-- What the text of the region must be. -/
def lastB (L : List Oper) : Bool :=
  Region.lexB .any L.dropLast.toArray &&
  (match L.getLast? with
    | some z => z.guard.isNone && ((List.range L.dropLast.length).all fun i => z.after.any fun e => Region.binds .any e && (e.on == i || (match L.dropLast[e.on]? with | some o => o.after.any fun e' => Region.binds .any e' && e'.on == i | none => false))) && (z.after.all fun e => !Region.binds .any e || decide (e.on < L.dropLast.length))
    | none => false) &&
  ((List.range L.dropLast.length).all fun j => match L.dropLast[j]? with
    | some o => (o.after.all fun e => !Region.binds .any e || decide (e.on < j)) && (match o.guard with | some (k, _) => decide (k < L.dropLast.length) | none => true)
    | none => true)

section
variable {P : Program} {l : List Oper} {z : Oper} {Q : Exit → Act → World → Prop}

theorem push_get (l : List Oper) (z : Oper) (j : Nat) (hj : j < l.length) : (l ++ [z]).toArray[j]? = l.toArray[j]? := by
  simp [List.getElem?_append_left hj]
theorem yielded_push (l : List Oper) (z : Oper) (t : Array Value) (j : Nat) (hj : j < l.length) : yielded (l ++ [z]).toArray t j = yielded l.toArray t j := by
  unfold yielded
  rw [push_get l z j hj]
theorem wanted_push (o : Oper) (hg : ∀ k b, o.guard = some (k, b) → k < l.length) (t : Array Value) : Region.wanted o (yielded (l ++ [z]).toArray t) = Region.wanted o (yielded l.toArray t) := by
  unfold Region.wanted
  split
  · rfl
  · rename_i k b hk
    rw [yielded_push l z t k (hg k b hk)]
theorem listed_push (a : Array Bool) (j : Nat) (d : Bool) (hj : j < a.size) : (a.push false).getD j d = a.getD j d := by
  simp [Array.getElem?_push, Nat.ne_of_lt hj]
theorem listed_pushF (a : Array Bool) (j : Nat) : (a.push false).getD j false = a.getD j false := by
  by_cases h : j < a.size
  · exact listed_push a j false h
  · by_cases e : j = a.size
    · subst e; simp
    · simp [Array.getElem?_push, e]
/-- How many have not come up. -/
def unl (a : Array Bool) : Nat := a.toList.count false
theorem unl_set (a : Array Bool) (i : Nat) (h : a.getD i true = false) : unl (a.setIfInBounds i true) + 1 = unl a := by
  have hi : i < a.size := by
    rcases Nat.lt_or_ge i a.size with h' | h'
    · exact h'
    · simp [Array.getElem?_eq_none h'] at h
  have h0 : a.toList[i]'(by simpa using hi) = false := by simpa [hi] using h
  unfold unl
  rw [Array.toList_setIfInBounds, List.count_set (by simpa using hi), h0]
  have h1 : false ∈ a.toList := by
    have hm := List.getElem_mem (l := a.toList) (n := i) (by simpa using hi)
    rwa [h0] at hm
  have h2 : 0 < a.toList.count false := List.count_pos_iff.2 h1
  have e1 : (false == false) = true := rfl
  have e2 : (true == false) = false := rfl
  simp only [e1, e2, if_true, Bool.false_eq_true, if_false]
  omega
theorem unl_pos (a : Array Bool) (h : 0 < unl a) : ∃ i, i < a.size ∧ a.getD i true = false ∧ ∀ j, j < i → a.getD j true = true := by
  have hm : false ∈ a.toList := List.count_pos_iff.1 h
  obtain ⟨i, hi, he⟩ := List.getElem_of_mem hm
  have hex : ∃ i, i < a.size ∧ a.getD i true = false := ⟨i, by simpa using hi, by simp at hi; simp [hi]; simpa using he⟩
  obtain ⟨n, hn⟩ : ∃ n, n = a.size := ⟨_, rfl⟩
  have key : ∀ n, (∃ i, i < n ∧ i < a.size ∧ a.getD i true = false) → ∃ i, i < a.size ∧ a.getD i true = false ∧ ∀ j, j < i → a.getD j true = true := by
    intro n
    induction n with
    | zero => rintro ⟨i, hi, _⟩; omega
    | succ n ih =>
      rintro ⟨i, hi, h1, h2⟩
      by_cases hx : ∃ i, i < n ∧ i < a.size ∧ a.getD i true = false
      · exact ih hx
      · refine ⟨i, h1, h2, fun j hj => ?_⟩
        cases hb : a.getD j true with
        | true => rfl
        | false => exact absurd ⟨j, by omega, by omega, hb⟩ hx
  obtain ⟨i, h1, h2⟩ := hex
  exact key (i + 1) ⟨i, by omega, h1, h2⟩
theorem unl_zero (a : Array Bool) (h : unl a = 0) (j : Nat) (hj : j < a.size) : a.getD j false = true := by
  cases hb : a.getD j false with
  | true => rfl
  | false =>
    have : false ∈ a.toList := by
      have h0 : a[j] = false := by simpa [hj] using hb
      rw [← h0]
      exact Array.getElem_mem_toList hj
    have := List.count_pos_iff.2 this
    unfold unl at h
    omega

theorem ready_lt {listed : Array Bool} (hs : listed.size = l.length) {j : Nat} (hj : j < l.length) : j ∈ Region.ready .any (l ++ [z]).toArray (listed.push false) ↔ j ∈ Region.ready .any l.toArray listed := by
  rw [mem_ready, mem_ready, push_get l z j hj, listed_push listed j true (by omega)]
  constructor
  · rintro ⟨h1, o, ho, h2⟩
    exact ⟨h1, o, ho, fun e he hb => by rw [← listed_pushF]; exact h2 e he hb⟩
  · rintro ⟨h1, o, ho, h2⟩
    exact ⟨h1, o, ho, fun e he hb => by rw [listed_pushF]; exact h2 e he hb⟩
theorem ready_top {ops : Array Oper} {listed : Array Bool} {j : Nat} (h : j ∈ Region.ready .any ops listed) : j < ops.size := by
  obtain ⟨_, o, ho, _⟩ := mem_ready.1 h
  exact (Array.getElem?_eq_some_iff.1 ho).1
/-- What is asked behind the others: the last operation. -/
def Then (P : Program) (z : Oper) (Q : Exit → Act → World → Prop) : Exit → Act → World → Prop
  | .normal, a, w => z.wp P a w (fun a w => Q .normal a w) Q
  | e, a, w => Q e a w
theorem then_panic {d : Option Tmp} {v : Value} (hQ : ∀ c a w, Q (.panic c) (a.put d v) w → Q (.panic c) a w) : ∀ c a w, Then P z Q (.panic c) (a.put d v) w → Then P z Q (.panic c) a w := hQ
theorem wp_then {o : Oper} {a : Act} {w : World} {K K' : Act → World → Prop} (h : ∀ a w, K a w → K' a w) (hh : o.wp P a w K (Then P z Q)) : o.wp P a w K' Q := by
  unfold Oper.wp at *
  generalize (execOp a.eval o).run P w = r at *
  cases r with
  | ok n w' =>
    cases n <;> simp only [Oper.upon] at hh ⊢
    case value => exact h _ _ hh
    case skip => exact h _ _ hh
    case defer => exact h _ _ hh
    case enter =>
      refine Calls.mono hh (fun e w'' he => ?_)
      cases e with
      | returned v => exact h _ _ he
      | panicked c => exact he
      | outgrown => exact he
    case row => exact Rows.mono hh (fun _ _ he => h _ _ he)
  | halt x w' => cases x <;> simp only [Oper.upon] at hh ⊢ <;> exact hh
theorem any_of_pre (hdep : ∀ j o, l[j]? = some o → (∀ e ∈ o.after, Region.binds .any e = true → e.on < j) ∧ ∀ k b, o.guard = some (k, b) → k < l.length)
    (hz : z.guard = none) (hw : ∀ i, i < l.length → ∃ e ∈ z.after, Region.binds .any e = true ∧ (e.on = i ∨ ∃ o, l[e.on]? = some o ∧ ∃ e' ∈ o.after, Region.binds .any e' = true ∧ e'.on = i)) (hze : ∀ e ∈ z.after, Region.binds .any e = true → e.on < l.length) :
    ∀ (fuel : Nat) (listed : Array Bool) (a : Act) (w : World), listed.size = l.length → unl listed = fuel → (∀ j o, l[j]? = some o → listed.getD j false = true → ∀ e ∈ o.after, Region.binds .any e = true → listed.getD e.on false = true) →
      wpAny P .any l.toArray (Then P z Q) fuel listed a w → wpAny P .any (l ++ [z]).toArray Q (fuel + 1) (listed.push false) a w := by
  intro fuel
  induction fuel with
  | zero =>
    intro listed a w hs hu _ h
    have hall := unl_zero listed hu
    have hone : ∀ j, j < l.length → ¬ (listed.getD j true = false) := fun j hj e => by
      have h1 := hall j (by omega)
      have hj' : j < listed.size := by omega
      simp [hj'] at e h1
      rw [e] at h1
      cases h1
    have hrz : l.length ∈ Region.ready .any (l ++ [z]).toArray (listed.push false) := by
      rw [mem_ready]
      refine ⟨by simp [← hs], z, by simp, fun e he hb => ?_⟩
      rw [listed_pushF]
      exact hall _ (by have := hze e he hb; omega)
    refine ⟨fun h0 => (by rw [h0] at hrz; cases hrz), fun i hi => ?_⟩
    have hlt := ready_top hi
    have hil : i = l.length := by
      simp at hlt
      rcases Nat.lt_or_ge i l.length with h' | h'
      · have := (mem_ready.1 hi).1
        rw [listed_push listed i true (by omega)] at this
        exact absurd this (hone i h')
      · omega
    subst hil
    have hsz : (l ++ [z]).toArray[l.length]? = some z := by simp
    unfold wpOp
    simp only [hsz, Region.wanted, hz, if_true]
    have hlast : z.wp P a w (fun a w => Q .normal a w) Q := h.2
    refine .inl (Oper.wp_mono (fun a' w' hq => ⟨?_, hq⟩) hlast)
    cases hr : Region.ready .any (l ++ [z]).toArray ((listed.push false).setIfInBounds l.length true) with
    | nil => rfl
    | cons x xs =>
      have hx : x ∈ Region.ready .any (l ++ [z]).toArray ((listed.push false).setIfInBounds l.length true) := by rw [hr]; simp
      have hxt := ready_top hx
      have hx1 := (mem_ready.1 hx).1
      simp at hxt
      by_cases e : x = l.length
      · subst e
        simp [← hs] at hx1
      · rw [getD_set_ne true (fun h' => e h'.symm), listed_push listed x true (by omega)] at hx1
        exact absurd hx1 (hone x (by omega))
  | succ fuel ih =>
    intro listed a w hs hu hcl h
    obtain ⟨i0, hi0, hf0, hmin⟩ := unl_pos listed (by omega)
    have hr0 : i0 ∈ Region.ready .any l.toArray listed := by
      have hsome : l[i0]? = some l[i0] := List.getElem?_eq_getElem (by omega)
      rw [mem_ready]
      refine ⟨hf0, l[i0], by simp, fun e he hb => ?_⟩
      have hlt := (hdep i0 _ hsome).1 e he hb
      have h1 := hmin _ hlt
      have h2 : e.on < listed.size := by omega
      simp [h2] at h1 ⊢
      exact h1
    have hr1 := (ready_lt (z := z) hs (by omega)).2 hr0
    refine ⟨fun h0 => (by rw [h0] at hr1; cases hr1), fun i hi => ?_⟩
    have hlt := ready_top hi
    have hil : i < l.length := by
      simp at hlt
      rcases Nat.lt_or_ge i l.length with h' | h'
      · exact h'
      · have e : i = l.length := by omega
        subst e
        obtain ⟨_, o, ho, hall⟩ := mem_ready.1 hi
        have hsz : (l ++ [z]).toArray[l.length]? = some z := by simp
        rw [hsz] at ho
        cases ho
        obtain ⟨e, he, hb, heq⟩ := hw i0 (by omega)
        have this := hall e he hb
        rw [listed_pushF] at this
        have this : listed.getD i0 false = true := by
          rcases heq with heq | ⟨o, ho, e', he', hb', heq⟩
          · rw [heq] at this; exact this
          · have h1 := hcl e.on o ho this e' he' hb'
            rw [heq] at h1
            exact h1
        simp [hi0] at this hf0
        rw [hf0] at this
        cases this
    have hi' := (ready_lt (z := z) hs hil).1 hi
    have hq := h.2 i hi'
    obtain ⟨hun, o, ho, hrd⟩ := mem_ready.1 hi'
    have ho' : l[i]? = some o := by simpa using ho
    have hset : (listed.push false).setIfInBounds i true = (listed.setIfInBounds i true).push false := by
      apply Array.ext'
      simp [List.set_append_left, hs, hil]
    have hus := unl_set listed i hun
    have hkeep : ∀ j, listed.getD j false = true → (listed.setIfInBounds i true).getD j false = true := fun j hj => by
      by_cases e : i = j
      · subst e
        have : i < listed.size := by omega
        simp [this]
      · rw [getD_set_ne false e]
        exact hj
    have hcl2 : ∀ j o, l[j]? = some o → (listed.setIfInBounds i true).getD j false = true → ∀ e ∈ o.after, Region.binds .any e = true → (listed.setIfInBounds i true).getD e.on false = true := by
      intro j o2 ho2 hj e he hb
      by_cases ej : i = j
      · subst ej
        rw [ho'] at ho2
        cases ho2
        exact hkeep _ (hrd e he hb)
      · rw [getD_set_ne false ej] at hj
        exact hkeep _ (hcl j o2 ho2 hj e he hb)
    unfold wpOp at hq
    rw [ho] at hq
    unfold wpOp
    rw [push_get l z i hil, ho]
    simp only at hq ⊢
    rw [wanted_push o (hdep i o ho').2]
    have hnext : ∀ a' w', wpAny P .any l.toArray (Then P z Q) fuel (listed.setIfInBounds i true) a' w' → wpAny P .any (l ++ [z]).toArray Q (fuel + 1) ((listed.push false).setIfInBounds i true) a' w' := by
      intro a' w' h'
      rw [hset]
      exact ih _ _ _ (by simpa using hs) (by omega) hcl2 h'
    split
    · rename_i hwt
      simp only [hwt, if_true] at hq
      rcases hq with hq | ⟨hq, a', w', hl⟩
      · exact .inl (wp_then hnext hq)
      · exact .inr ⟨hq, a', w', hl⟩
    · rename_i hwt
      simp only [hwt] at hq
      exact hnext _ _ hq

/-- **The last operation waits for all others.** -/
theorem wp_region_then {id : Nat} {a : Act} {w : World} {L : List Oper} (z : Oper) (hm : P.follows .mixedOrders = true) (hL : L.getLast? = some z) (hB : lastB L = true)
    (h : wpAny P .any L.dropLast.toArray (Then P z Q) L.dropLast.length (Array.replicate L.dropLast.length false) a w.drew) : (Code.region id L.toArray true).wp P Q a w := by
  have hne : L = L.dropLast ++ [z] := by
    have hn : L ≠ [] := by intro e; subst e; simp at hL
    have h1 := List.dropLast_concat_getLast hn
    rw [List.getLast?_eq_some_getLast hn] at hL
    rw [Option.some.inj hL] at h1
    exact h1.symm
  obtain ⟨l, hl⟩ : ∃ l, l = L.dropLast := ⟨_, rfl⟩
  unfold lastB at hB
  rw [hL] at hB
  rw [← hl] at hne h hB
  subst hne
  simp only [Bool.and_eq_true, List.all_eq_true, List.mem_range, Region.lexB, Option.isNone_iff_eq_none] at hB
  obtain ⟨⟨⟨hns, hlex⟩, ⟨hzg, hz1⟩, hz2⟩, hdep⟩ := hB
  refine wp_region_any hm ?_
  have hrep : Array.replicate (l ++ [z]).toArray.size false = (Array.replicate l.length false).push false := by
    apply Array.ext'
    simp [List.replicate_succ']
  have hsz : (l ++ [z]).toArray.size = l.length + 1 := by simp
  rw [hrep, hsz]
  refine any_of_pre ?_ hzg ?_ ?_ l.length _ a _ (by simp) ?_ ?_ h
  · intro j o ho
    have hj := (List.getElem?_eq_some_iff.1 ho).1
    have h1 := hdep j hj
    rw [ho] at h1
    simp only [Bool.and_eq_true, Array.all_eq_true_iff_forall_mem, Bool.or_eq_true, Bool.not_eq_true', decide_eq_true_eq] at h1
    refine ⟨fun e he hb => ?_, fun k b hg => ?_⟩
    · rcases h1.1 e he with h2 | h2
      · rw [hb] at h2; cases h2
      · exact h2
    · have h2 := h1.2
      rw [hg] at h2
      simpa using h2
  · intro i hi
    have h1 := hz1 i hi
    rw [Array.any_eq_true] at h1
    obtain ⟨j, hj, h2⟩ := h1
    simp only [Bool.and_eq_true, Bool.or_eq_true, beq_iff_eq] at h2
    refine ⟨z.after[j], Array.getElem_mem hj, h2.1, ?_⟩
    rcases h2.2 with h3 | h3
    · exact .inl h3
    · cases ho : l[z.after[j].on]? with
      | none => rw [ho] at h3; cases h3
      | some o =>
        rw [ho] at h3
        simp only [Array.any_eq_true, Bool.and_eq_true, beq_iff_eq] at h3
        obtain ⟨j', hj', h4⟩ := h3
        exact .inr ⟨o, rfl, o.after[j'], Array.getElem_mem hj', h4.1, h4.2⟩
  · intro e he hb
    rw [Array.all_eq_true_iff_forall_mem] at hz2
    have h1 := hz2 e he
    simp only [Bool.or_eq_true, Bool.not_eq_true', decide_eq_true_eq] at h1
    rcases h1 with h1 | h1
    · rw [hb] at h1; cases h1
    · exact h1
  · unfold unl
    simp
  · intro j o _ hj
    simp [Array.getElem?_replicate] at hj
    split at hj <;> simp at hj
/-- The others held under the condition S. -/
theorem wp_region_held_then {id : Nat} {a : Act} {w : World} {L : List Oper} (S : World → Prop) (z : Oper) (hm : P.follows .mixedOrders = true) (hL : L.getLast? = some z) (hB : lastB L = true)
    (h : wpAnyH P .any L.dropLast.toArray (Then P z Q) S L.dropLast.length (Array.replicate L.dropLast.length false) a w.drew) : (Code.region id L.toArray true).wp P Q a w :=
  wp_region_then z hm hL hB (wpAny_of_held _ _ _ _ h)
/-- One of the others, by its number, taken first. -/
theorem takeL {S : World → Prop} (i : Nat) {oi : Oper} {v : Value} {fuel : Nat} {listed : Array Bool} {a : Act} {w : World} (hi : l[i]? = some oi)
    (hs : Region.noSelect l.toArray = true) (hf : Region.free .any l.toArray listed i = true) (hr : (Region.ready .any l.toArray listed).contains i = true) (hQ : ∀ c a w, Q (.panic c) (a.put oi.dst v) w → Q (.panic c) a w)
    (hw : Region.wanted oi (yielded l.toArray a.tmps) = true) (hS : S w) (hy : ∀ w, S w → (execOp a.eval oi).run P w = .ok (.value v) w)
    (h : wpAnyH P .any l.toArray (Then P z Q) S fuel (listed.setIfInBounds i true) (a.put oi.dst v) w) : wpAnyH P .any l.toArray (Then P z Q) S (fuel + 1) listed a w :=
  wpAnyH_take (by simpa using hi) hs hf hr (then_panic hQ) (.inl ⟨hw, hy⟩) hS h
/-- A call of a Go function that alone may come up. -/
theorem callL {S : World → Prop} (i : Nat) {oi : Oper} {f : FuncId} {vs : Array Value} {fuel : Nat} {listed : Array Bool} {a : Act} {w : World} (hi : l[i]? = some oi) (hr : Region.ready .any l.toArray listed = [i])
    (hw : Region.wanted oi (yielded l.toArray a.tmps) = true) (hop : (execOp a.eval oi).run P w = .ok (.enter f vs) w)
    (hc : Calls P f vs w fun e w' => ∃ v, e = .returned v ∧ S w' ∧ wpAnyH P .any l.toArray (Then P z Q) S fuel (listed.setIfInBounds i true) (a.put oi.dst v) w') : wpAnyH P .any l.toArray (Then P z Q) S (fuel + 1) listed a w := by
  refine wpAnyH_all hr (by simp) ?_
  intro j hj
  simp only [List.mem_singleton] at hj
  subst hj
  have hi' : l.toArray[j]? = some oi := by simpa using hi
  unfold wpOp
  simp only [hi', hw, if_true]
  refine .inl ?_
  unfold Oper.wp
  rw [hop]
  refine Calls.mono hc fun e w' he => ?_
  obtain ⟨v, rfl, h⟩ := he
  exact h
/-- A store that alone may come up. -/
theorem stepL {S : World → Prop} (i : Nat) {oi : Oper} {fuel : Nat} {listed : Array Bool} {a : Act} {w : World} (w' : World) (hi : l[i]? = some oi) (hr : Region.ready .any l.toArray listed = [i])
    (hw : Region.wanted oi (yielded l.toArray a.tmps) = true) (hop : (execOp a.eval oi).run P w = .ok .skip w') (hS : S w')
    (h : wpAnyH P .any l.toArray (Then P z Q) S fuel (listed.setIfInBounds i true) (a.put oi.dst undef) w') : wpAnyH P .any l.toArray (Then P z Q) S (fuel + 1) listed a w := by
  refine wpAnyH_all hr (by simp) ?_
  intro j hj
  simp only [List.mem_singleton] at hj
  subst hj
  have hi' : l.toArray[j]? = some oi := by simpa using hi
  unfold wpOp
  simp only [hi', hw, if_true]
  refine .inl ?_
  unfold Oper.wp
  rw [hop]
  exact ⟨hS, h⟩
/-- A variable that is made, where that alone may come up. -/
theorem newL {S : World → Prop} (i : Nat) {oi : Oper} {fuel : Nat} {listed : Array Bool} {a : Act} {w : World} (w' : World) (v : Value) (hi : l[i]? = some oi) (hr : Region.ready .any l.toArray listed = [i])
    (hw : Region.wanted oi (yielded l.toArray a.tmps) = true) (hop : (execOp a.eval oi).run P w = .ok (.value v) w') (hS : S w')
    (h : wpAnyH P .any l.toArray (Then P z Q) S fuel (listed.setIfInBounds i true) (a.put oi.dst v) w') : wpAnyH P .any l.toArray (Then P z Q) S (fuel + 1) listed a w := by
  refine wpAnyH_all hr (by simp) ?_
  intro j hj
  simp only [List.mem_singleton] at hj
  subst hj
  have hi' : l.toArray[j]? = some oi := by simpa using hi
  unfold wpOp
  simp only [hi', hw, if_true]
  refine .inl ?_
  unfold Oper.wp
  rw [hop]
  exact ⟨hS, h⟩
/-- A call of a Go function or a variable that is made, whichever comes up first. -/
theorem callNewL {S : World → Prop} (i j : Nat) {oi oj : Oper} {f : FuncId} {vs : Array Value} {fuel : Nat} {listed : Array Bool} {a : Act} {w : World} (w' : World) (v : Value) (hi : l[i]? = some oi) (hj : l[j]? = some oj) (hr : Region.ready .any l.toArray listed = [i, j])
    (hwi : Region.wanted oi (yielded l.toArray a.tmps) = true) (hwj : Region.wanted oj (yielded l.toArray a.tmps) = true) (hop : (execOp a.eval oi).run P w = .ok (.enter f vs) w) (hop' : (execOp a.eval oj).run P w = .ok (.value v) w') (hS : S w')
    (hc : Calls P f vs w fun e w' => ∃ v, e = .returned v ∧ S w' ∧ wpAnyH P .any l.toArray (Then P z Q) S fuel (listed.setIfInBounds i true) (a.put oi.dst v) w')
    (h : wpAnyH P .any l.toArray (Then P z Q) S fuel (listed.setIfInBounds j true) (a.put oj.dst v) w') : wpAnyH P .any l.toArray (Then P z Q) S (fuel + 1) listed a w := by
  refine wpAnyH_all hr (by simp) ?_
  intro k hk
  simp only [List.mem_cons, List.not_mem_nil, or_false] at hk
  have hi' : l.toArray[i]? = some oi := by simpa using hi
  have hj' : l.toArray[j]? = some oj := by simpa using hj
  rcases hk with rfl | rfl
  · unfold wpOp
    simp only [hi', hwi, if_true]
    refine .inl ?_
    unfold Oper.wp
    rw [hop]
    refine Calls.mono hc fun e w' he => ?_
    obtain ⟨v, rfl, h⟩ := he
    exact h
  · unfold wpOp
    simp only [hj', hwj, if_true]
    refine .inl ?_
    unfold Oper.wp
    rw [hop']
    exact ⟨hS, h⟩
/-- All others have come up. -/
theorem doneL {S : World → Prop} {fuel : Nat} {listed : Array Bool} {a : Act} {w : World} (hr : Region.ready .any l.toArray listed = []) (h : z.wp P a w (fun a w => Q .normal a w) Q) : wpAnyH P .any l.toArray (Then P z Q) S fuel listed a w :=
  wpAnyH_done hr h fuel
/-- The others quiet in a class of worlds. -/
theorem wp_region_last {C : World → Prop} {id : Nat} {a : Act} {w : World} {L : List Oper} (z : Oper) (hm : P.follows .mixedOrders = true) (hL : L.getLast? = some z) (hB : lastB L = true) (hC : C w.drew)
    (h : wpQuiet P L.dropLast.toArray C (fun a' => ∀ w', C w' → z.wp P a' w' (fun a w => Q .normal a w) Q) L.dropLast a) : (Code.region id L.toArray true).wp P Q a w := by
  refine wp_region_then z hm hL hB (wpAny_of_quiet (C := C) (Q := fun a' => ∀ w', C w' → z.wp P a' w' (fun a w => Q .normal a w) Q) (fun a w' hw' hq => hq w' hw') _ _ _ _ hC ?_)
  unfold lastB at hB
  simp only [Bool.and_eq_true, Region.lexB] at hB
  exact wpAnyQ_lex (P := P) (C := C) (md := .any) hB.1.1.1 L.dropLast 0 (Array.replicate L.dropLast.length false) a (by simp) (by simpa using hB.1.1.2) h
/-- The same, in the class of all worlds above the first one. -/
theorem wp_region_above_last {id : Nat} {a : Act} {w : World} {L : List Oper} (z : Oper) (hm : P.follows .mixedOrders = true) (hL : L.getLast? = some z) (hB : lastB L = true)
    (h : Nonempty (Above w) → wpQuiet P L.dropLast.toArray (fun w' => ∃ k : Above w, w' = k.it) (fun a' => ∀ w', (∃ k : Above w, w' = k.it) → z.wp P a' w' (fun a w => Q .normal a w) Q) L.dropLast a) : (Code.region id L.toArray true).wp P Q a w :=
  wp_region_last (C := fun w' => ∃ k : Above w, w' = k.it) z hm hL hB ⟨⟨w.drew, (Below.refl _ _).drew⟩, rfl⟩ (h (above_some w))
end
end Go.Proofs.YtoccbfgcmaahcaaDoor
/-
  Regions that draw their order, of the form 'x, y := f(..), g(..)' with variables of several cells: two calls, two new variables, two stores, in whatever order they come up. No program is spoken of.
-/
namespace Go.Proofs.YtoccbfgcmaahcaaDoor
open Go.RowKit

section
variable {P : Program} {l : List Oper} {z : Oper} {Q : Exit → Act → World → Prop} {S : World → Prop}

/-- A relation that each operation keeps, whichever comes up. -/
theorem anyH_inv (R : Array Bool → Act → World → Prop)
    (step : ∀ listed a w, R listed a w → ∀ i ∈ Region.ready .any l.toArray listed, wpOp P l.toArray (Then P z Q) i (fun a' w' => S w' ∧ R (listed.setIfInBounds i true) a' w') a w)
    (fin : ∀ listed a w, R listed a w → Region.ready .any l.toArray listed = [] → Then P z Q .normal a w) :
    ∀ (fuel : Nat) (listed : Array Bool) (a : Act) (w : World), unl listed ≤ fuel → R listed a w → wpAnyH P .any l.toArray (Then P z Q) S fuel listed a w := by
  intro fuel
  induction fuel with
  | zero =>
    intro listed a w hu hR
    have hr : Region.ready .any l.toArray listed = [] := by
      rw [List.eq_nil_iff_forall_not_mem]
      intro i hi
      obtain ⟨h1, _⟩ := mem_ready.1 hi
      have := unl_set listed i h1
      omega
    exact ⟨hr, fin _ _ _ hR hr⟩
  | succ fuel ih =>
    intro listed a w hu hR
    refine ⟨fun hr => fin _ _ _ hR hr, fun i hi => ?_⟩
    have h1 := (mem_ready.1 hi).1
    have h2 := unl_set listed i h1
    exact wpOp_mono (fun a' w' h' => ⟨h'.1, ih _ _ _ (by omega) h'.2⟩) (step listed a w hR i hi)

theorem opCall {K : Act → World → Prop} {i : Nat} {oi : Oper} {f : FuncId} {vs : Array Value} {a : Act} {w : World} (hi : l[i]? = some oi) (hg : oi.guard = none)
    (hop : (execOp a.eval oi).run P w = .ok (.enter f vs) w) (hc : Calls P f vs w fun e w' => ∃ v, e = .returned v ∧ K (a.put oi.dst v) w') : wpOp P l.toArray Q i K a w := by
  have hi' : l.toArray[i]? = some oi := by simpa using hi
  have hw : Region.wanted oi (yielded l.toArray a.tmps) = true := by unfold Region.wanted; rw [hg]
  unfold wpOp
  simp only [hi', hw, if_true]
  refine .inl ?_
  unfold Oper.wp
  rw [hop]
  refine Calls.mono hc fun e w' he => ?_
  obtain ⟨v, rfl, h⟩ := he
  exact h
theorem opNew {K : Act → World → Prop} {i : Nat} {oi : Oper} {a : Act} {w w' : World} {v : Value} (hi : l[i]? = some oi) (hg : oi.guard = none)
    (hop : (execOp a.eval oi).run P w = .ok (.value v) w') (h : K (a.put oi.dst v) w') : wpOp P l.toArray Q i K a w := by
  have hi' : l.toArray[i]? = some oi := by simpa using hi
  have hw : Region.wanted oi (yielded l.toArray a.tmps) = true := by unfold Region.wanted; rw [hg]
  unfold wpOp
  simp only [hi', hw, if_true]
  refine .inl ?_
  unfold Oper.wp
  rw [hop]
  exact h
theorem opWp {K : Act → World → Prop} {i : Nat} {oi : Oper} {a : Act} {w : World} (hi : l[i]? = some oi) (hg : oi.guard = none) (h : oi.wp P a w K Q) : wpOp P l.toArray Q i K a w := by
  have hi' : l.toArray[i]? = some oi := by simpa using hi
  have hw : Region.wanted oi (yielded l.toArray a.tmps) = true := by unfold Region.wanted; rw [hg]
  unfold wpOp
  simp only [hi', hw, if_true]
  exact .inl h

/-- How far such a region has come. -/
def PairSt (w0 : World) (T : Value → Value → Value → Value → Act) (L : Bool → Bool → Bool → Bool → Bool → Array Bool) (c1 c2 z1 z2 : Array Value) (t1 t2 : TypeId) (listed : Array Bool) (a : Act) (w : World) : Prop :=
  ∃ (b1 b2 m1 m2 e : Bool) (v1 v2 p q : Value), listed = L b1 b2 m1 m2 e ∧ a = T v1 v2 p q ∧ Below w0.heap.size w0 w ∧ (b1 = true → v1 = .agg c1) ∧ (b2 = true → v2 = .agg c2) ∧
    (m1 = true → ∃ g, p = .pointer (some ⟨g, 0, none⟩) ∧ w0.heap.size ≤ g ∧ Box w g t1 (if e = true then c1 else z1)) ∧ (m2 = true → ∃ g, q = .pointer (some ⟨g, 0, none⟩) ∧ w0.heap.size ≤ g ∧ Box w g t2 z2) ∧ (m1 = true → m2 = true → p ≠ q) ∧ (e = true → m1 = true)

/-- Two calls (i1, i2), two new variables (j1, j2), a store (k) and the last store. -/
theorem pairL {w0 : World} (T : Value → Value → Value → Value → Act) (L : Bool → Bool → Bool → Bool → Bool → Array Bool) (c1 c2 z1 z2 : Array Value) (t1 t2 ty1 : TypeId)
    (i1 i2 j1 j2 k : Nat) {o1 o2 n1 n2 s1 : Oper} {f1 f2 : FuncId} {vs1 vs2 : Array Value}
    (hi1 : l[i1]? = some o1) (hi2 : l[i2]? = some o2) (hj1 : l[j1]? = some n1) (hj2 : l[j2]? = some n2) (hk : l[k]? = some s1)
    (g1 : o1.guard = none) (g2 : o2.guard = none) (g3 : n1.guard = none) (g4 : n2.guard = none) (g5 : s1.guard = none)
    (put1 : ∀ v1 v2 p q x, (T v1 v2 p q).put o1.dst x = T x v2 p q) (put2 : ∀ v1 v2 p q x, (T v1 v2 p q).put o2.dst x = T v1 x p q) (put3 : ∀ v1 v2 p q x, (T v1 v2 p q).put n1.dst x = T v1 v2 x q) (put4 : ∀ v1 v2 p q x, (T v1 v2 p q).put n2.dst x = T v1 v2 p x) (put5 : ∀ v1 v2 p q, (T v1 v2 p q).put s1.dst undef = T v1 v2 p q)
    (set1 : ∀ b1 b2 m1 m2 e, (L b1 b2 m1 m2 e).setIfInBounds i1 true = L true b2 m1 m2 e) (set2 : ∀ b1 b2 m1 m2 e, (L b1 b2 m1 m2 e).setIfInBounds i2 true = L b1 true m1 m2 e) (set3 : ∀ b1 b2 m1 m2 e, (L b1 b2 m1 m2 e).setIfInBounds j1 true = L b1 b2 true m2 e) (set4 : ∀ b1 b2 m1 m2 e, (L b1 b2 m1 m2 e).setIfInBounds j2 true = L b1 b2 m1 true e) (set5 : ∀ b1 b2 m1 m2 e, (L b1 b2 m1 m2 e).setIfInBounds k true = L b1 b2 m1 m2 true)
    (rdy : ∀ b1 b2 m1 m2 e, ((Region.ready .any l.toArray (L b1 b2 m1 m2 e)).all fun i => (i == i1 && !b1) || (i == i2 && !b2) || (i == j1 && !m1) || (i == j2 && !m2) || (i == k && (b1 && (m1 && !e)))) = true)
    (dne : ∀ b1 b2 m1 m2 e, ((Region.ready .any l.toArray (L b1 b2 m1 m2 e)).isEmpty = true → (b1 && (b2 && (m1 && (m2 && e)))) = true))
    (hop1 : ∀ v1 v2 p q w, (execOp (T v1 v2 p q).eval o1).run P w = .ok (.enter f1 vs1) w) (hop2 : ∀ v1 v2 p q w, (execOp (T v1 v2 p q).eval o2).run P w = .ok (.enter f2 vs2) w)
    (hop3 : ∀ v1 v2 p q w, (execOp (T v1 v2 p q).eval n1).run P w = .ok (.value (.pointer (some ⟨w.heap.size, 0, none⟩))) (w.alloc (.cells z1 t1))) (hop4 : ∀ v1 v2 p q w, (execOp (T v1 v2 p q).eval n2).run P w = .ok (.value (.pointer (some ⟨w.heap.size, 0, none⟩))) (w.alloc (.cells z2 t2)))
    (x1 y1 : Operand) (ho5 : s1.op = .store ty1 x1 y1) (hx5 : ∀ v1 v2 p q, (T v1 v2 p q).eval x1 = p) (hy5 : ∀ v1 v2 p q, (T v1 v2 p q).eval y1 = v1) (hi5 : (P.info? ty1).map (·.size) = some c1.size) (hz5 : z1.size = c1.size) (hone : c1.all (·.oneCell') = true)
    (hS : ∀ w, Below w0.heap.size w0 w → S w)
    (call1 : ∀ w, Below w0.heap.size w0 w → Calls P f1 vs1 w fun e w' => e = .returned (.agg c1) ∧ Below w.heap.size w w') (call2 : ∀ w, Below w0.heap.size w0 w → Calls P f2 vs2 w fun e w' => e = .returned (.agg c2) ∧ Below w.heap.size w w')
    (fin : ∀ g g' w, g ≠ g' → w0.heap.size ≤ g → w0.heap.size ≤ g' → Box w g t1 c1 → Box w g' t2 z2 → Below w0.heap.size w0 w → z.wp P (T (.agg c1) (.agg c2) (.pointer (some ⟨g, 0, none⟩)) (.pointer (some ⟨g', 0, none⟩))) w (fun a w => Q .normal a w) Q)
    {v1 v2 p q : Value} {w : World} {fuel : Nat} {listed : Array Bool} (hl : listed = L false false false false false) (hw : Below w0.heap.size w0 w) (hu : unl (L false false false false false) ≤ fuel) :
    wpAnyH P .any l.toArray (Then P z Q) S fuel listed (T v1 v2 p q) w := by
  subst hl
  refine anyH_inv (PairSt w0 T L c1 c2 z1 z2 t1 t2) ?_ ?_ fuel _ _ _ hu ⟨false, false, false, false, false, v1, v2, p, q, rfl, rfl, hw, fun h => (by cases h), fun h => (by cases h), fun h => (by cases h), fun h => (by cases h), fun h => (by cases h), fun h => (by cases h)⟩
  · clear hu hw
    rintro listed a w ⟨b1, b2, m1, m2, e, v1, v2, p, q, rfl, rfl, hb, hv1, hv2, hp, hq, hpq, hem⟩ i hi
    have hr := List.all_eq_true.1 (rdy b1 b2 m1 m2 e) i hi
    have bel : ∀ w', Below w.heap.size w w' → Below w0.heap.size w0 w' := fun w' h => hb.trans (h.mono hb.size)
    simp only [Bool.or_eq_true, Bool.and_eq_true, beq_iff_eq, Bool.not_eq_true'] at hr
    rcases hr with (((⟨rfl, h1⟩ | ⟨rfl, h1⟩) | ⟨rfl, h1⟩) | ⟨rfl, h1⟩) | ⟨rfl, h1, h2, h3⟩
    · refine opCall hi1 g1 (hop1 ..) ((call1 w hb).mono ?_)
      rintro er w' ⟨rfl, hb'⟩
      refine ⟨_, rfl, hS _ (bel _ hb'), ?_⟩
      rw [put1, set1]
      exact ⟨true, b2, m1, m2, e, _, _, _, _, rfl, rfl, bel _ hb', fun _ => rfl, hv2, fun h => by obtain ⟨g, h1, h2, h3⟩ := hp h; exact ⟨g, h1, h2, h3.over hb'⟩, fun h => by obtain ⟨g, h1, h2, h3⟩ := hq h; exact ⟨g, h1, h2, h3.over hb'⟩, hpq, hem⟩
    · refine opCall hi2 g2 (hop2 ..) ((call2 w hb).mono ?_)
      rintro er w' ⟨rfl, hb'⟩
      refine ⟨_, rfl, hS _ (bel _ hb'), ?_⟩
      rw [put2, set2]
      exact ⟨b1, true, m1, m2, e, _, _, _, _, rfl, rfl, bel _ hb', hv1, fun _ => rfl, fun h => by obtain ⟨g, h1, h2, h3⟩ := hp h; exact ⟨g, h1, h2, h3.over hb'⟩, fun h => by obtain ⟨g, h1, h2, h3⟩ := hq h; exact ⟨g, h1, h2, h3.over hb'⟩, hpq, hem⟩
    · have hb' := below1 w (.cells z1 t1)
      refine opNew hj1 g3 (hop3 ..) ?_
      refine ⟨hS _ (bel _ hb'), ?_⟩
      rw [put3, set3]
      have he : e = false := by
        cases e with
        | false => rfl
        | true => rw [hem rfl] at h1; cases h1
      subst he
      refine ⟨b1, b2, true, m2, false, _, _, _, _, rfl, rfl, bel _ hb', hv1, hv2, fun _ => ⟨_, rfl, hb.size, box_new _ _ _⟩, fun h => by obtain ⟨g, h1, h2, h3⟩ := hq h; exact ⟨g, h1, h2, h3.over hb'⟩, fun _ h => ?_, fun _ => rfl⟩
      obtain ⟨g, rfl, _, h3⟩ := hq h
      have := h3.lt
      intro e
      injection e with e
      injection e with e
      injection e with e
      omega
    · have hb' := below1 w (.cells z2 t2)
      refine opNew hj2 g4 (hop4 ..) ?_
      refine ⟨hS _ (bel _ hb'), ?_⟩
      rw [put4, set4]
      refine ⟨b1, b2, m1, true, e, _, _, _, _, rfl, rfl, bel _ hb', hv1, hv2, fun h => by obtain ⟨g, h1, h2, h3⟩ := hp h; exact ⟨g, h1, h2, h3.over hb'⟩, fun _ => ⟨_, rfl, hb.size, box_new _ _ _⟩, fun h _ => ?_, hem⟩
      obtain ⟨g, rfl, _, h3⟩ := hp h
      have := h3.lt
      intro e
      injection e with e
      injection e with e
      injection e with e
      omega
    · obtain ⟨g, rfl, hg, hbx⟩ := hp h2
      subst h3
      obtain rfl := hv1 h1
      refine opWp hk g5 (wp_store_row ty1 x1 y1 ho5 g c1 (hx5 ..) (hy5 ..) t1 z1 hbx hi5 hz5 hone ?_)
      have hb' : Below w0.heap.size w0 (w.setRow g c1) := below_setRow hb hg c1
      refine ⟨hS _ hb', ?_⟩
      rw [put5, set5]
      refine ⟨b1, b2, m1, m2, true, _, _, _, _, rfl, rfl, hb', fun _ => rfl, hv2, fun _ => ⟨g, rfl, hg, hbx.setRow c1⟩, fun h => ?_, hpq, fun _ => h2⟩
      obtain ⟨g', rfl, h4, h5⟩ := hq h
      exact ⟨g', rfl, h4, h5.rowOther (fun e => hpq h2 h (by rw [e])) c1⟩
  · rintro listed a w ⟨b1, b2, m1, m2, e, v1, v2, p, q, rfl, rfl, hb, hv1, hv2, hp, hq, hpq, hem⟩ hr
    have hd := dne b1 b2 m1 m2 e (by rw [hr]; rfl)
    simp only [Bool.and_eq_true] at hd
    obtain ⟨h1, h2, h3, h4, h5⟩ := hd
    obtain ⟨g, rfl, hg, hbx⟩ := hp h3
    obtain ⟨g', rfl, hg', hbx'⟩ := hq h4
    obtain rfl := hv1 h1
    obtain rfl := hv2 h2
    rw [if_pos h5] at hbx
    exact fin g g' w (fun e => hpq h3 h4 (by rw [e])) hg hg' hbx hbx' hb
end
end Go.Proofs.YtoccbfgcmaahcaaDoor
/-
  Rows in order: the contracts of CompareRows, package cell's and the document's.
-/
namespace Go.Proofs.YtoccbfgcmaahcaaDoor
open Go.RowKit

/-- Which of two rows stands first, by some columns. -/
def cmpR (a b : List Cl) : List (Int × Bool) → Int
  | [] => 0
  | (k, d) :: r => if cmpC (atC a k) (atC b k) = 0 then cmpR a b r else if d = true then - cmpC (atC a k) (atC b k) else cmpC (atC a k) (atC b k)
theorem cmpR_flip (a b : List Cl) : ∀ ks, cmpR b a ks = - cmpR a b ks
  | [] => rfl
  | (k, d) :: r => by
    have ih := cmpR_flip a b r
    have h := cmpC_flip (atC a k) (atC b k)
    simp only [cmpR]
    rw [h]
    (repeat' split) <;> omega
/-- Columns to order by that came in. -/
def SortsIs (w : World) (v : Value) (ks : List (Int × Bool)) : Prop :=
  ∃ a cap, v = .slice a ks.length cap ∧ (ks ≠ [] → ∃ b off, a = some ⟨b, off, none⟩ ∧ b < w.heap.size ∧ ∀ i (x : Int × Bool), ks[i]? = some x → w.cell? ⟨b, off + i * 2, none⟩ = some (.int .i64 x.1) ∧ w.cell? ⟨b, off + i * 2 + 1, none⟩ = some (.bool x.2) ∧ x.1 < 9223372036854775808)
theorem drop_cons {α : Type} {l : List α} {i : Nat} {x : α} (h : l[i]? = some x) : l.drop i = x :: l.drop (i + 1) := by
  obtain ⟨h1, h2⟩ := List.getElem?_eq_some_iff.1 h
  rw [List.drop_eq_getElem_cons h1, h2]

end Go.Proofs.YtoccbfgcmaahcaaDoor
/-
  Whether rows fit columns: the contracts of package cell's fits and Fits, of slices.EqualFunc as Fits calls it, and of the document's Fits.
-/
namespace Go.Proofs.YtoccbfgcmaahcaaDoor
open Go.RowKit

structure Col where
  nm : ByteArray
  kind : Int
  nul : Bool
abbrev colv (q : Col) : Value := .agg #[.string q.nm, .int .i64 q.kind, .bool q.nul]
/-- May a cell stand in a column? -/
def fitC (c : Cl) (q : Col) : Bool := mayC c && (if c.k = 0 then q.nul else c.k == q.kind)
def fitsR : List Cl → List Col → Bool
  | [], [] => true
  | c :: r, q :: qs => fitC c q && fitsR r qs
  | [], _ :: _ => false
  | _ :: _, [] => false
theorem fitsR_len : ∀ (r : List Cl) (qs : List Col), r.length ≠ qs.length → fitsR r qs = false
  | [], [], h => absurd rfl h
  | c :: r, q :: qs, h => by
    have := fitsR_len r qs (fun e => h (by simp [e]))
    simp [fitsR, this]
  | [], _ :: _, _ => rfl
  | _ :: _, [], _ => rfl
theorem fitsR_step {r : List Cl} {qs : List Col} {i : Nat} {c : Cl} {q : Col} (hc : r[i]? = some c) (hq : qs[i]? = some q) : fitsR (r.drop i) (qs.drop i) = (fitC c q && fitsR (r.drop (i + 1)) (qs.drop (i + 1))) := by
  rw [drop_cons hc, drop_cons hq]; rfl
theorem may_zero {c : Cl} (h : mayC c = true) (hk : c.k = 0) : c.n = 0 ∧ c.s.toList.isEmpty = true := by
  unfold mayC at h
  rw [hk] at h
  rw [emp_size]
  simpa using h

/-- Columns in memory. -/
def ColsIs (w : World) (v : Value) (qs : List Col) : Prop :=
  ∃ a cap, v = .slice a qs.length cap ∧ (qs ≠ [] → ∃ b off, a = some ⟨b, off, none⟩ ∧ b < w.heap.size ∧ ∀ i (q : Col), qs[i]? = some q → w.cell? ⟨b, off + i * 3, none⟩ = some (.string q.nm) ∧ w.cell? ⟨b, off + i * 3 + 1, none⟩ = some (.int .i64 q.kind) ∧ w.cell? ⟨b, off + i * 3 + 2, none⟩ = some (.bool q.nul))
theorem ColsIs.below {w w' : World} {v : Value} {qs : List Col} (h : ColsIs w v qs) (k : Below w.heap.size w w') : ColsIs w' v qs := by
  obtain ⟨a, cap, rfl, h⟩ := h
  refine ⟨a, cap, rfl, fun hr => ?_⟩
  obtain ⟨b, off, rfl, hb, hc⟩ := h hr
  refine ⟨b, off, rfl, Nat.lt_of_lt_of_le hb k.size, fun i q hi => ?_⟩
  obtain ⟨x0, x1, x2⟩ := hc i q hi
  exact ⟨(k.cell (p := ⟨b, off + i * 3, none⟩) hb).trans x0, (k.cell (p := ⟨b, off + i * 3 + 1, none⟩) hb).trans x1, (k.cell (p := ⟨b, off + i * 3 + 2, none⟩) hb).trans x2⟩

end Go.Proofs.YtoccbfgcmaahcaaDoor
/-
  Cells, rows of cells, columns and orders that came in as arguments: what their cells are.
-/
namespace Go.Proofs.YtoccbfgcmaahcaaDoor
open Go.RowKit

theorem int_range (n : Int) (h : (Lit.int .i64 n).wf = true) : -9223372036854775808 ≤ n ∧ n ≤ 9223372036854775807 := by
  obtain ⟨x, rfl⟩ := Wd.word_of n h
  have h1 := BitVec.toInt_lt (x := x)
  have h2 := BitVec.le_toInt (x := x)
  omega
set_option maxRecDepth 100000 in
/-- A cell that came in. -/
theorem cell_of {H : Type} {enc : TypeId × Value → H} {W : World} {base b0 : Nat} {sp : Nat → Bool} {hd : Bool} {r : Reach} {v : Value} {d : DataW H} {p : List MemPlace}
    (hv : Value.okWide Tryd.prog W r b0 42 v) (h : DataW.Trod enc Tryd.prog W base sp hd 42 v d p) : ∃ c : Cl, v = cv c ∧ okC c := by
  obtain ⟨v0, v1, v2, y0, y1, y2, n, rfl, _, _, h0, h1, h2⟩ := Go.Joins.open_agg3 Tryd.underlying42 (by kernel_rfl) (by kernel_rfl) hv h
  obtain ⟨k, e0, _, w0⟩ := DataW.trod_int Tryd.underlying3 h0
  obtain ⟨m, e1, _, w1⟩ := DataW.trod_int Tryd.underlying3 h1
  obtain ⟨s, e2, _, w2⟩ := DataW.trod_string Tryd.underlying9 h2
  simp only [List.cons.injEq, and_true] at e0 e1 e2
  subst e0 e1 e2
  exact ⟨⟨k, m, s⟩, rfl, int_range m w1⟩
/-- A list of what there is at each place. -/
theorem list_of {α : Type} {Q : Nat → α → Prop} : ∀ n : Nat, (∀ i, i < n → ∃ c, Q i c) → ∃ r : List α, r.length = n ∧ ∀ i c, r[i]? = some c → Q i c
  | 0, _ => ⟨[], rfl, fun i c h => by simp at h⟩
  | n + 1, h => by
    obtain ⟨r, hl, hr⟩ := list_of n fun i hi => h i (by omega)
    obtain ⟨c, hc⟩ := h n (by omega)
    refine ⟨r ++ [c], by simp [hl], fun i x hx => ?_⟩
    by_cases hi : i < n
    · rw [List.getElem?_append_left (by omega)] at hx
      exact hr i x hx
    · have hlt := (List.getElem?_eq_some_iff.1 hx).1
      rw [List.length_append, List.length_singleton] at hlt
      obtain rfl : i = n := by omega
      rw [List.getElem?_append_right (by omega), hl, Nat.sub_self] at hx
      simp at hx
      subst hx
      exact hc
set_option maxRecDepth 100000 in
/-- Structs of three cells that came in as a slice: where they lie, and how each reads. -/
theorem three_of {H : Type} {enc : TypeId × Value → H} {W : World} {base : Nat} {hd : Bool} {fuel : Nat} {a : Option Addr} {len cap : Nat} {x : DataW H × List MemPlace} {T e t0 t1 t2 : TypeId} {f0 f1 f2 : Field}
    (hT : Tryd.prog.underlying T = some (.slice e)) (he : Tryd.prog.underlying e = some (.struct #[f0, f1, f2])) (hc : Tryd.prog.cellsOf e = 3) (g0 : f0.type = t0 ∧ f0.offset = 0) (g1 : f1.type = t1 ∧ f1.offset = 1) (g2 : f2.type = t2 ∧ f2.offset = 2)
    (d0 : Tryd.prog.cellsOf t0 = 1) (d1 : Tryd.prog.cellsOf t1 = 1) (d2 : Tryd.prog.cellsOf t2 = 1)
    (h : DataW.trod enc Tryd.prog W base (fun _ => true) hd fuel T [.slice a len cap] = some x) :
    len ≤ maxLen ∧ (0 < len → ∃ b off, a = some ⟨b, off, none⟩ ∧ b < W.heap.size ∧ ∀ i, i < len → ∃ v0 v1 v2 k y0 y1 y2, W.cell? ⟨b, off + i * 3, none⟩ = some v0 ∧ W.cell? ⟨b, off + i * 3 + 1, none⟩ = some v1 ∧ W.cell? ⟨b, off + i * 3 + 2, none⟩ = some v2 ∧
      DataW.trod enc Tryd.prog W base (fun _ => true) hd k t0 [v0] = some y0 ∧ DataW.trod enc Tryd.prog W base (fun _ => true) hd k t1 [v1] = some y1 ∧ DataW.trod enc Tryd.prog W base (fun _ => true) hd k t2 [v2] = some y2) := by
  rcases Go.Deep.open_slice hT h with ⟨h0, _⟩ | ⟨ad, ln, cp, m, n, D, Pl, hv, _, hl, hm, hmm, _, hx⟩
  · simp at h0
    obtain ⟨rfl, rfl, rfl⟩ := h0
    exact ⟨Nat.zero_le _, fun h => by omega⟩
  · simp at hv
    obtain ⟨rfl, rfl, rfl⟩ := hv
    refine ⟨Nat.le_trans hl hm, fun hpos => ?_⟩
    obtain ⟨b, off, spot⟩ := ad
    have hspot : spot = none := by
      obtain ⟨cs0, h10, _⟩ := hx 0 (by rw [hmm]; split <;> omega)
      rw [hc] at h10
      obtain ⟨_, hlen0, hcell0⟩ := World.cells?_some h10
      have q := hcell0 0 (by omega)
      rw [List.getElem?_eq_getElem (by omega)] at q
      have := World.cell?_spot q
      simpa [Addr.add] using this
    subst hspot
    have hadd : ∀ t : Nat, (⟨b, off, none⟩ : Addr).add t = ⟨b, off + t, none⟩ := fun t => by unfold Addr.add; split <;> simp_all
    have key : ∀ i, i < len → ∃ v0 v1 v2 k y0 y1 y2, W.cell? ⟨b, off + i * 3, none⟩ = some v0 ∧ W.cell? ⟨b, off + i * 3 + 1, none⟩ = some v1 ∧ W.cell? ⟨b, off + i * 3 + 2, none⟩ = some v2 ∧
      DataW.trod enc Tryd.prog W base (fun _ => true) hd k t0 [v0] = some y0 ∧ DataW.trod enc Tryd.prog W base (fun _ => true) hd k t1 [v1] = some y1 ∧ DataW.trod enc Tryd.prog W base (fun _ => true) hd k t2 [v2] = some y2 := by
      intro i hi
      have him : i < m := by rw [hmm]; split <;> omega
      obtain ⟨cs', h1, h2⟩ := hx i him
      rw [hc] at h1
      obtain ⟨_, hlen, hcell⟩ := World.cells?_some h1
      obtain ⟨xs, k, hk, hxy, _, hxl, hf⟩ := DataW.trod_struct he h2
      match cs', hlen with
      | [v0, v1, v2], _ =>
        have p0 := hf 0 f0 rfl
        have p1 := hf 1 f1 rfl
        have p2 := hf 2 f2 rfl
        rw [g0.1, g0.2, d0] at p0
        rw [g1.1, g1.2, d1] at p1
        rw [g2.1, g2.2, d2] at p2
        have hx3 : xs.length = 3 := hxl
        match xs, hx3 with
        | [y0, y1, y2], _ =>
          have q0 := hcell 0 (by omega)
          have q1 := hcell 1 (by omega)
          have q2 := hcell 2 (by omega)
          simp only [List.getElem?_cons_zero, List.getElem?_cons_succ, Go.Deep.add_add] at q0 q1 q2
          rw [hadd] at q0 q1 q2
          exact ⟨v0, v1, v2, k, y0, y1, y2, by simpa using q0, by simpa [Nat.add_assoc] using q1, by simpa [Nat.add_assoc] using q2, p0, p1, p2⟩
    obtain ⟨v0, _, _, _, _, _, _, hb0, _⟩ := key 0 hpos
    exact ⟨b, off, rfl, World.block_lt_of_cell? W _ hb0, key⟩
set_option maxRecDepth 100000 in
/-- Structs of two cells that came in as a slice: where they lie, and how each reads. -/
theorem two_of {H : Type} {enc : TypeId × Value → H} {W : World} {base : Nat} {hd : Bool} {fuel : Nat} {a : Option Addr} {len cap : Nat} {x : DataW H × List MemPlace} {T e t0 t1 : TypeId} {f0 f1 : Field}
    (hT : Tryd.prog.underlying T = some (.slice e)) (he : Tryd.prog.underlying e = some (.struct #[f0, f1])) (hc : Tryd.prog.cellsOf e = 2) (g0 : f0.type = t0 ∧ f0.offset = 0) (g1 : f1.type = t1 ∧ f1.offset = 1)
    (d0 : Tryd.prog.cellsOf t0 = 1) (d1 : Tryd.prog.cellsOf t1 = 1)
    (h : DataW.trod enc Tryd.prog W base (fun _ => true) hd fuel T [.slice a len cap] = some x) :
    len ≤ maxLen ∧ (0 < len → ∃ b off, a = some ⟨b, off, none⟩ ∧ b < W.heap.size ∧ ∀ i, i < len → ∃ v0 v1 k y0 y1, W.cell? ⟨b, off + i * 2, none⟩ = some v0 ∧ W.cell? ⟨b, off + i * 2 + 1, none⟩ = some v1 ∧
      DataW.trod enc Tryd.prog W base (fun _ => true) hd k t0 [v0] = some y0 ∧ DataW.trod enc Tryd.prog W base (fun _ => true) hd k t1 [v1] = some y1) := by
  rcases Go.Deep.open_slice hT h with ⟨h0, _⟩ | ⟨ad, ln, cp, m, n, D, Pl, hv, _, hl, hm, hmm, _, hx⟩
  · simp at h0
    obtain ⟨rfl, rfl, rfl⟩ := h0
    exact ⟨Nat.zero_le _, fun h => by omega⟩
  · simp at hv
    obtain ⟨rfl, rfl, rfl⟩ := hv
    refine ⟨Nat.le_trans hl hm, fun hpos => ?_⟩
    obtain ⟨b, off, spot⟩ := ad
    have hspot : spot = none := by
      obtain ⟨cs0, h10, _⟩ := hx 0 (by rw [hmm]; split <;> omega)
      rw [hc] at h10
      obtain ⟨_, hlen0, hcell0⟩ := World.cells?_some h10
      have q := hcell0 0 (by omega)
      rw [List.getElem?_eq_getElem (by omega)] at q
      have := World.cell?_spot q
      simpa [Addr.add] using this
    subst hspot
    have hadd : ∀ t : Nat, (⟨b, off, none⟩ : Addr).add t = ⟨b, off + t, none⟩ := fun t => by unfold Addr.add; split <;> simp_all
    have key : ∀ i, i < len → ∃ v0 v1 k y0 y1, W.cell? ⟨b, off + i * 2, none⟩ = some v0 ∧ W.cell? ⟨b, off + i * 2 + 1, none⟩ = some v1 ∧
      DataW.trod enc Tryd.prog W base (fun _ => true) hd k t0 [v0] = some y0 ∧ DataW.trod enc Tryd.prog W base (fun _ => true) hd k t1 [v1] = some y1 := by
      intro i hi
      have him : i < m := by rw [hmm]; split <;> omega
      obtain ⟨cs', h1, h2⟩ := hx i him
      rw [hc] at h1
      obtain ⟨_, hlen, hcell⟩ := World.cells?_some h1
      obtain ⟨xs, k, hk, hxy, _, hxl, hf⟩ := DataW.trod_struct he h2
      match cs', hlen with
      | [v0, v1], _ =>
        have p0 := hf 0 f0 rfl
        have p1 := hf 1 f1 rfl
        rw [g0.1, g0.2, d0] at p0
        rw [g1.1, g1.2, d1] at p1
        have hx3 : xs.length = 2 := hxl
        match xs, hx3 with
        | [y0, y1], _ =>
          have q0 := hcell 0 (by omega)
          have q1 := hcell 1 (by omega)
          simp only [List.getElem?_cons_zero, List.getElem?_cons_succ, Go.Deep.add_add] at q0 q1
          rw [hadd] at q0 q1
          exact ⟨v0, v1, k, y0, y1, by simpa using q0, by simpa [Nat.add_assoc] using q1, p0, p1⟩
    obtain ⟨v0, _, _, _, _, hb0, _⟩ := key 0 hpos
    exact ⟨b, off, rfl, World.block_lt_of_cell? W _ hb0, key⟩
end Go.Proofs.YtoccbfgcmaahcaaDoor
/-
  Tokens as text with blanks behind each, chosen by its number; how long that is. No program is spoken of.
-/
namespace Go.Proofs.YtoccbfgcmaahcaaDoor
open Go.RowKit

/-- The blanks that stand behind a token, by its number. -/
def kd (bl : BitVec 64) (i : Nat) : Nat := (((bl.sshiftRight (2 * (i % 16))) &&& 3#64).toNat)
theorem kd_lt (bl : BitVec 64) (i : Nat) : kd bl i < 4 := by
  unfold kd
  have h : ((bl.sshiftRight (2 * (i % 16))) &&& 3#64).toNat ≤ 3 := by
    rw [BitVec.toNat_and]
    exact Nat.and_le_right
  omega
def kdL : Nat → List UInt8
  | 0 => [32]
  | 1 => [10]
  | 2 => [9]
  | _ => [13, 10]
theorem kdL_facts (k : Nat) : kdL k ≠ [] ∧ (kdL k).length ≤ 2 ∧ ∀ c ∈ kdL k, bkB c = true := by
  match k with
  | 0 => exact ⟨by decide, by decide, by decide⟩
  | 1 => exact ⟨by decide, by decide, by decide⟩
  | 2 => exact ⟨by decide, by decide, by decide⟩
  | _ + 3 => exact ⟨by simp [kdL], by simp [kdL], by simp only [kdL]; decide⟩
/-- Tokens as text, from the i-th on, with blanks behind each by its number. -/
def jnP (f : Nat → List UInt8) : Nat → List Tk → List UInt8
  | _, [] => []
  | i, t :: r => shownL t ++ (f i ++ jnP f (i + 1) r)
theorem jnP_snoc (f : Nat → List UInt8) (t : Tk) : ∀ (l : List Tk) (i : Nat), jnP f i (l ++ [t]) = jnP f i l ++ (shownL t ++ f (i + l.length))
  | [], i => by simp [jnP]
  | u :: l, i => by
    have := jnP_snoc f t l (i + 1)
    simp only [List.cons_append, jnP, this, List.append_assoc, List.length_cons]
    rw [show i + 1 + l.length = i + (l.length + 1) by omega]
theorem jnP_take (f : Nat → List UInt8) {l : List Tk} {i : Nat} {t : Tk} (h : l[i]? = some t) : jnP f 0 (l.take (i + 1)) = jnP f 0 (l.take i) ++ (shownL t ++ f i) := by
  have hi := (List.getElem?_eq_some_iff.1 h).1
  rw [List.take_add_one, h]
  have := jnP_snoc f t (l.take i) 0
  simp only [Option.toList_some]
  rw [this, List.length_take, Nat.min_eq_left (Nat.le_of_lt hi), Nat.zero_add]
def prs (f : Nat → List UInt8) : Nat → List Tk → List (Tk × List UInt8)
  | _, [] => []
  | i, t :: r => (t, f i) :: prs f (i + 1) r
theorem prs_join (f : Nat → List UInt8) : ∀ (l : List Tk) (i : Nat), joinL (prs f i l) = jnP f i l
  | [], _ => rfl
  | t :: l, i => by simp only [prs, joinL, jnP, prs_join f l (i + 1)]
theorem prs_fst (f : Nat → List UInt8) : ∀ (l : List Tk) (i : Nat), (prs f i l).map (fun x => x.1) = l
  | [], _ => rfl
  | t :: l, i => by simp only [prs, List.map_cons, prs_fst f l (i + 1)]
theorem prs_mem (f : Nat → List UInt8) : ∀ (l : List Tk) (i : Nat) (x : Tk × List UInt8), x ∈ prs f i l → x.1 ∈ l ∧ ∃ j, x.2 = f j
  | [], _, x, h => by simp [prs] at h
  | t :: l, i, x, h => by
    simp only [prs, List.mem_cons] at h
    rcases h with rfl | h
    · exact ⟨by simp, i, rfl⟩
    · have := prs_mem f l (i + 1) x h
      exact ⟨by simp [this.1], this.2⟩
theorem jnP_len (f : Nat → List UInt8) (hf : ∀ i, (f i).length ≤ 2) : ∀ (l : List Tk) (i : Nat), (∀ t ∈ l, (shownL t).length ≤ 300) → (jnP f i l).length ≤ 302 * l.length
  | [], _, _ => by simp [jnP]
  | t :: l, i, h => by
    have h1 := h t (by simp)
    have h2 := jnP_len f hf l (i + 1) (fun u hu => h u (by simp [hu]))
    have h3 := hf i
    simp only [jnP, List.length_append, List.length_cons]
    omega
theorem ch_len (L : List UInt8) : ∀ (y : List Tk) (p : Nat) (t : Tk), Ch L p y → t ∈ y → (t.k = 1 ∨ t.k = 4) → t.s.length ≤ L.length
  | [], _, _, _, h, _ => by simp at h
  | u :: y, p, t, hc, h, hk => by
    obtain ⟨_, n, _, h2, h3, h4⟩ := hc
    rcases List.mem_cons.1 h with rfl | h
    · have := (h3 hk).2; omega
    · exact ch_len L y (u.p + n) t h4 h hk
theorem dblB_len : ∀ s : List UInt8, (dbl s).length ≤ 2 * s.length
  | [] => by simp [dbl]
  | c :: s => by
    have := dblB_len s
    rw [dbl_cons, List.length_append, List.length_cons]
    split <;> simp <;> omega
theorem shown_len {L : List UInt8} {y : List Tk} {p : Nat} {t : Tk} (hL : L.length ≤ 200) (hc : Ch L p y) (h : t ∈ y) (ho : TkOk t) : (shownL t).length ≤ 300 := by
  have hcl := ch_len L y p t hc h
  unfold shownL
  rcases ho with h | h | h | h
  · rw [if_neg (by rw [h.1]; decide), if_neg (by rw [h.1]; decide)]
    have := hcl (.inl h.1); omega
  · rw [if_pos h.1]
    have := Lib.itoa_length_le t.n h.2.2.1 h.2.2.2; omega
  · rw [if_neg (by rw [h.1]; decide), if_pos h.1]
    have := dblB_len t.s
    simp only [List.length_cons, List.length_append, List.length_nil]
    omega
  · rw [if_neg (by rw [h.1]; decide), if_neg (by rw [h.1]; decide)]
    have := hcl (.inr h.1); omega
theorem shown_end (p : Nat) : shownL ⟨0, [], 0, p⟩ = [] := rfl
/-- All of it is told again. -/
theorem blanks_back (f : Nat → List UInt8) (hf : ∀ i, f i ≠ [] ∧ (f i).length ≤ 2 ∧ ∀ c ∈ f i, bkB c = true) {y : List Tk} (hy : ∀ t ∈ y, TkOk t) (p : Nat) :
    (toksP (jnP f 0 (y ++ [⟨0, [], 0, p⟩])) 0).2 = none ∧ (toksP (jnP f 0 (y ++ [⟨0, [], 0, p⟩])) 0).1.map ksn = (y ++ [(⟨0, [], 0, p⟩ : Tk)]).map ksn := by
  have e : jnP f 0 (y ++ [⟨0, [], 0, p⟩]) = joinL (prs f 0 y) ++ f y.length := by
    rw [jnP_snoc, prs_join, shown_end, Nat.zero_add]; rfl
  rw [e]
  have := join_back (prs f 0 y) (f y.length) 0 (fun x hx => by
    obtain ⟨h1, j, h2⟩ := prs_mem f y 0 x hx
    rw [h2]
    exact ⟨hy _ h1, (hf j).1, (hf j).2.2⟩) (hf _).2.2
  refine ⟨this.1, ?_⟩
  rw [this.2, List.map_append, show (fun x : Tk × List UInt8 => ksn x.1) = ksn ∘ (fun x => x.1) from rfl, ← List.map_map, prs_fst]
  rfl
end Go.Proofs.YtoccbfgcmaahcaaDoor
/-
  The contract of law 29's shown: a token as text.
-/
namespace Go.Proofs.YtoccbfgcmaahcaaDoor
open Go.RowKit

def tkV (t : Tk) : Array Value := #[.int .i64 t.k, .string (str t.s), .int .i64 t.n, .int .i64 t.p]
set_option maxHeartbeats 4000000 in
set_option maxRecDepth 4000 in
theorem lawShown_any (t : Tk) (hok : TkOk t ∨ (t.k = 0 ∧ t.s = [])) (w : World) :
    Calls Tryd.prog 12 #[.agg (tkV t)] w fun e w' => e = .returned (.string (str (shownL t))) ∧ Below w.heap.size w w' := by
  have bx := box_new w (tkV t) 32
  have c0 := bx.cell 0 _ rfl
  have c1 := bx.cell 1 _ rfl
  have c2 := bx.cell 2 _ rfl
  have hk : t.k = 2 ∨ t.k = 3 ∨ ((t.k == 2) = false ∧ (t.k == 3) = false) := by
    by_cases h2 : t.k = 2
    · exact .inl h2
    · by_cases h3 : t.k = 3
      · exact .inr (.inl h3)
      · exact .inr (.inr ⟨by simpa using h2, by simpa using h3⟩)
  rcases hk with h2 | h3 | ⟨h2, h3⟩
  · have hr : -9223372036854775808 ≤ t.n ∧ t.n ≤ 9223372036854775807 := by
      rcases hok with (h | h | h | h) | h
      · rw [h2] at h; exact absurd h.1 (by decide)
      · exact h.2.2
      · rw [h2] at h; exact absurd h.1 (by decide)
      · rw [h2] at h; exact absurd h.1 (by decide)
      · rw [h2] at h; exact absurd h.1 (by decide)
    have hsh : ∀ W, Calls Tryd.prog 18 #[.agg #[.int .i64 1, .int .i64 t.n, .string ⟨#[]⟩]] W fun e w' => e = .returned (.string (str (shownL t))) ∧ Below W.heap.size W w' := fun W => by
      have := refShow_any ⟨1, t.n, ⟨#[]⟩⟩ W ⟨hr.1, hr.2⟩ (by show (0 : Nat) ≤ 100000; decide)
      have e : showL ⟨1, t.n, ⟨#[]⟩⟩ = shownL t := by unfold shownL; rw [if_pos h2]; simp [showL]
      rw [e] at this
      exact this
    unfold tkV at *
    rw [h2] at *
    clear hok hr
    go_enter Tryd.func12, Tryd.ntmps12
    go_wp2_with (go_at_call 18; refine (hsh _).mono ?_; rintro e w1 ⟨rfl, hb1⟩)
    go_ret
    exact ⟨rfl, (below1 _ _).trans (hb1.mono (by simp))⟩
  · have hr : t.s.length ≤ 32 := by
      rcases hok with (h | h | h | h) | h
      · rw [h3] at h; exact absurd h.1 (by decide)
      · rw [h3] at h; exact absurd h.1 (by decide)
      · exact h.2.2
      · rw [h3] at h; exact absurd h.1 (by decide)
      · rw [h3] at h; exact absurd h.1 (by decide)
    have hsh : ∀ W, Calls Tryd.prog 18 #[.agg #[.int .i64 2, .int .i64 0, .string (str t.s)]] W fun e w' => e = .returned (.string (str (shownL t))) ∧ Below W.heap.size W w' := fun W => by
      have := refShow_any ⟨2, 0, str t.s⟩ W ⟨(show -9223372036854775808 ≤ (0 : Int) by decide), (show (0 : Int) ≤ 9223372036854775807 by decide)⟩ (by show (str t.s).size ≤ 100000; rw [str_size]; omega)
      have e : showL ⟨2, 0, str t.s⟩ = shownL t := by unfold shownL; rw [if_neg (by rw [h3]; decide), if_pos h3]; simp [showL, str]
      rw [e] at this
      exact this
    unfold tkV at *
    rw [h3] at *
    clear hok hr
    go_enter Tryd.func12, Tryd.ntmps12
    go_wp2_with (go_at_call 18; refine (hsh _).mono ?_; rintro e w1 ⟨rfl, hb1⟩)
    go_ret
    exact ⟨rfl, (below1 _ _).trans (hb1.mono (by simp))⟩
  · have e : shownL t = t.s := by
      unfold shownL; rw [if_neg (by simpa using h2), if_neg (by simpa using h3)]
    have HE : Hid (shownL t = t.s) := e
    unfold tkV at *
    clear hok e
    go_enter Tryd.func12, Tryd.ntmps12
    go_wp2_with fail
    go_ret
    exact ⟨by rw [HE.out]; rfl, below1 _ _⟩
end Go.Proofs.YtoccbfgcmaahcaaDoor
/-
  The walk of law 29's LexBlanks, over contracts of lex: tokens with blanks between are the same tokens.
-/
namespace Go.Proofs.YtoccbfgcmaahcaaDoor
open Go.RowKit

theorem above_cell {w : World} {a : Addr} {v : Value} (h : w.cell? a = some v) (k : Above w) : k.it.cell? a = some v := (k.is.cell (p := a) (World.block_lt_of_cell? w a h)).trans h
theorem and15 (i : Nat) (h : i < 9223372036854775808) : bits .and .i64 (i : Int) 15 = ((i % 16 : Nat) : Int) := by
  rw [← Wd.toInt_of_small i h, show (15 : Int) = (15#64).toInt by decide, Wd.i64_and, BitVec.toInt_eq_toNat_bmod, BitVec.toNat_and, BitVec.toNat_ofNat, Nat.mod_eq_of_lt (by omega)]
  have e : i &&& (15#64).toNat = i % 16 := Nat.and_two_pow_sub_one_eq_mod i 4
  rw [e, Int.bmod_def]
  omega
theorem and3 (y : BitVec 64) : bits .and .i64 y.toInt 3 = ((y &&& 3#64).toNat : Int) := by
  have h : (y &&& 3#64).toNat ≤ 3 := by rw [BitVec.toNat_and]; exact Nat.and_le_right
  rw [show (3 : Int) = (3#64).toInt by decide, Wd.i64_and, BitVec.toInt_eq_toNat_bmod, Int.bmod_def]
  omega
def kdV : Array Value := #[.string ⟨#[32]⟩, .string ⟨#[10]⟩, .string ⟨#[9]⟩, .string ⟨#[13, 10]⟩]
theorem kdV_at {k : Nat} (h : k < 4) : kdV[k]? = some (.string (str (kdL k))) := by
  match k, h with
  | 0, _ => rfl
  | 1, _ => rfl
  | 2, _ => rfl
  | 3, _ => rfl
/-- How the text's tokens, told again, are. -/
theorem again_at {a b : List Tk} (h : a.map ksn = b.map ksn) {i : Nat} {t : Tk} (hi : b[i]? = some t) : ∃ u, a[i]? = some u ∧ u.k = t.k ∧ u.s = t.s ∧ u.n = t.n := by
  have h1 : (a.map ksn)[i]? = some (ksn t) := by rw [h, List.getElem?_map, hi]; rfl
  rw [List.getElem?_map] at h1
  cases e : a[i]? with
  | none => rw [e] at h1; cases h1
  | some u =>
    rw [e] at h1
    have h2 := Option.some.inj h1
    unfold ksn at h2
    simp only [Prod.mk.injEq] at h2
    exact ⟨u, rfl, h2⟩

set_option maxHeartbeats 8000000 in
set_option maxRecDepth 4000 in
theorem walkLexBlanksH (hT : LexT) (hK : LexK) (s : ByteArray) (bl : BitVec 64) (w : World) (hE : Env w) :
    Calls Tryd.prog 4 #[.string s, .int .i64 bl.toInt] w fun e w' => e = .returned (.bool true) ∧ Below w.heap.size w w' := by
  have HA : Hid (∀ W, Below w.heap.size w W → Calls Tryd.prog 6 #[] W fun e w' => e = .returned (.bool true) ∧ Below W.heap.size W w') := fun W hW => awake29_any hT hK (hE.below hW)
  have HT : Hid (∀ (t : ByteArray) W, t.size ≤ 100000 → Below w.heap.size w W → Calls Tryd.prog 7 #[.string t] W (TokAns W t.data.toList)) := fun t W ht hW => hT t W ht (hE.below hW)
  by_cases hl : (200 : Int) < (s.size : Int)
  · clear hE hT hK
    go_enter Tryd.func4, Tryd.ntmps4
    go_wp2_with fail
    refine (HA.out _ (Below.refl _ _)).mono ?_
    rintro e w1 ⟨rfl, hb1⟩
    go_wp2_with fail
    go_ret
    exact ⟨rfl, hb1⟩
  · have h1 := hT s w (by omega) hE
    clear hT hK
    unfold TokAns at h1
    by_cases hz : (tokensA s.data.toList).2.2 = 0
    · obtain ⟨y, hy, hok, hch, hyl⟩ := tokens_all hz
      obtain ⟨L, hL⟩ : ∃ L, L = s.data.toList := ⟨_, rfl⟩
      have hLs : L.length = s.size := by rw [hL]; exact (Lib.size_eq s).symm
      rw [← hL] at hy hch hyl h1 hz
      rw [hy, hz] at h1
      obtain ⟨m, hm⟩ : ∃ m, m = y.length := ⟨_, rfl⟩
      obtain ⟨X, hX⟩ : ∃ X, X = (tokensA L).2.1 := ⟨_, rfl⟩
      obtain ⟨zs, hzs⟩ : ∃ zs, zs = y ++ [(⟨0, [], 0, L.length⟩ : Tk)] := ⟨_, rfl⟩
      rw [← hX, ← hzs] at h1
      have hzl : zs.length = m + 1 := by rw [hzs, hm]; simp
      have HY : Hid (zs = y ++ [⟨0, [], 0, L.length⟩] ∧ (∀ t ∈ y, TkOk t) ∧ zs.length = m + 1 ∧ ∀ t ∈ zs, (TkOk t ∨ (t.k = 0 ∧ t.s = [])) ∧ (shownL t).length ≤ 300) := by
        refine ⟨hzs, hok, hzl, fun t ht => ?_⟩
        rw [hzs] at ht
        rcases List.mem_append.1 ht with h | h
        · exact ⟨.inl (hok t h), shown_len (by omega) hch h (hok t h)⟩
        · rw [List.mem_singleton] at h; subst h
          exact ⟨.inr ⟨rfl, rfl⟩, by rw [shown_end]; simp⟩
      have hm200 : m ≤ 200 := by omega
      clear hy hok hch hyl hL hX hz hE hm hLs hzs
      go_enter Tryd.func4, Tryd.ntmps4
      go_wp2_with fail
      refine h1.mono ?_
      rintro e w1 ⟨⟨v1, rfl, ho1⟩, hb1⟩
      clear h1
      have HB1 : Hid (Below w.heap.size w w1) := hb1
      obtain ⟨a, n, cap, rfl, hn, hcap⟩ := ho1.1.slice
      have hn2 : n = m + 1 := by omega
      subst hn2
      have HO1 : Hid (TkIs w1 (.slice a (m + 1) cap) zs) := ho1.1
      have BK0 : Hid (Box (w1.alloc (.cells kdV 9)) w1.heap.size 9 kdV) := box_new w1 kdV 9
      have BL0 : Hid (Below w1.heap.size w1 (w1.alloc (.cells kdV 9))) := below1 _ _
      clear hb1 ho1 hn hcap hzl
      go_wp2_with fail
      go_loopg [8, 10] (m + 1) (fun gg s8 s10 wx => ∃ (i : Nat) (tb : ByteArray), i + gg = m + 1 ∧ s10 = .int .i64 i ∧ s8 = .string tb ∧ Hid (Below w1.heap.size w1 wx) ∧ Hid (Box wx w1.heap.size 9 kdV) ∧ Hid (tb.data.toList = jnP (fun i => kdL (kd bl i)) 0 (zs.take i)) ∧ tb.size ≤ 302 * i)
      case atStart => exact ⟨0, ⟨#[]⟩, by omega, rfl, rfl, BL0.out, BK0.out, by unfold Hid; rw [List.take_zero]; rfl, Nat.le_refl 0⟩
      case round =>
        clear BK0 BL0
        obtain ⟨i, tb, hig, rfl, rfl, HB, HV, HTB, htbs⟩ := hrel
        have HG : Hid (i + gk = m + 1) := hig
        by_cases hi : i < m + 1
        · have hiI : (i : Int) < (m : Int) + 1 := by omega
          obtain ⟨t, hit⟩ : ∃ t, zs[i]? = some t := ⟨_, List.getElem?_eq_getElem (by have := HY.out.2.2.1; omega)⟩
          obtain ⟨g, rfl, _, p0, p1, p2, p3⟩ := (HO1.out.over HB.out).at hit
          have htz := HY.out.2.2.2 t (List.mem_of_getElem? hit)
          obtain ⟨sb, hsb⟩ : ∃ sb, sb = str (shownL t) := ⟨_, rfl⟩
          have hsh : ∀ W, Calls Tryd.prog 12 #[.agg #[.int .i64 t.k, .string (str t.s), .int .i64 t.n, .int .i64 t.p]] W fun e w' => e = .returned (.string sb) ∧ Below W.heap.size W w' := fun W => by rw [hsb]; exact lawShown_any t htz.1 W
          have hsbs : sb.size ≤ 300 := by rw [hsb, str_size]; exact htz.2
          obtain ⟨k, hk⟩ : ∃ k, k = kd bl i := ⟨_, rfl⟩
          have hk4 : k < 4 := by rw [hk]; exact kd_lt bl i
          obtain ⟨kb, hkb⟩ : ∃ kb, kb = str (kdL k) := ⟨_, rfl⟩
          have hkbs : kb.size ≤ 2 := by rw [hkb, str_size]; exact (kdL_facts k).2.1
          have pk : wr.cell? ⟨w1.heap.size, k, none⟩ = some (.string kb) := by rw [hkb]; exact HV.out.cell k _ (kdV_at hk4)
          have HT2 : Hid ((tb ++ sb ++ kb).data.toList = jnP (fun i => kdL (kd bl i)) 0 (zs.take (i + 1))) := by
            unfold Hid
            rw [jnP_take (fun i => kdL (kd bl i)) hit, Go.Joins.data_append, Go.Joins.data_append, HTB.out, hsb, hkb, ← hk, List.append_assoc]
            rfl
          have hts : (tb ++ sb ++ kb).size ≤ 302 * (i + 1) := by simp only [ByteArray.size_append]; omega
          obtain ⟨j, hj⟩ : ∃ j, j = i % 16 := ⟨_, rfl⟩
          have hj16 : j < 16 := by omega
          have hA : bits .and .i64 (i : Int) 15 = (j : Int) := by rw [hj]; exact and15 i (by omega)
          have hM : wrap64 (2 * (j : Int)) = 2 * (j : Int) := by unfold wrap64; omega
          have hS : bits .and .i64 (bl.toInt / 2 ^ (2 * j)) 3 = (k : Int) := by rw [Wd.i64_shr, and3, hk, hj]; rfl
          have hr2 : IntKind.i64.wrap ((i : Int) + 1) = (i : Int) + 1 := by rw [IntKind.wrap_i64]; omega
          have hszI : (tb.size : Int) + (sb.size : Int) ≤ 200000 := by omega
          have hsz : tb.size + sb.size ≤ 200000 := by omega
          have hsz2 : tb.size + sb.size + kb.size ≤ 200000 := by omega
          have HKK : Hid (k < 4) := hk4
          clear hsb hk hkb hj htz hit hig
          go_wp2_with fail
          refine wp_region_above (by kernel_rfl) (by kernel_rfl) ?_
          intro hne
          have a0 := fun k : Above wr => above_cell p0 k
          have a1 := fun k : Above wr => above_cell p1 k
          have a2 := fun k : Above wr => above_cell p2 k
          have a3 := fun k : Above wr => above_cell p3 k
          have a4 := fun k : Above wr => above_cell pk k
          repeat (go_big_quiet_step ((go_at_call 12; exact above_of (hsh _))))
          refine wpQuiet_nil ?_
          rintro _ ⟨kq, rfl⟩
          have hbq := kq.is
          have HB2 : Hid (Below w1.heap.size w1 kq.it) := HB.out.trans (hbq.mono HB.out.size)
          have HV2 : Hid (Box kq.it w1.heap.size 9 kdV) := HV.out.over hbq
          clear hbq a0 a1 a2 a3 a4 p0 p1 p2 p3 pk hA hM hS
          go_wp2_with fail
          go_roundg (m + 1 - (i + 1))
          case measure => clear hr2; have := HG.out; omega
          case rel => exact ⟨i + 1, tb ++ sb ++ kb, by clear hr2; have := HG.out; omega, by go_num, rfl, HB2, HV2, HT2, hts⟩
        · have hiI : ¬ (i : Int) < (m : Int) + 1 := by omega
          have him : i = m + 1 := by omega
          have HTB2 : Hid (tb.data.toList = jnP (fun i => kdL (kd bl i)) 0 zs ∧ tb.size ≤ 100000) := by
            refine ⟨?_, by omega⟩
            rw [HTB.out, him, List.take_of_length_le (by have := HY.out.2.2.1; omega)]
          have HBB : Hid (Below w.heap.size w wr) := HB1.out.trans (HB.out.mono HB1.out.size)
          clear HTB htbs hig
          by_cases hbig : 1024 < tb.size
          · have hbI : (1024 : Int) < (tb.size : Int) := by omega
            go_wp2_with fail
            refine (HA.out _ HBB.out).mono ?_
            rintro e w3 ⟨rfl, hb3⟩
            go_wp2_with fail
            go_ret
            exact ⟨rfl, HBB.out.trans (hb3.mono HBB.out.size)⟩
          · have hbI : ¬ (1024 : Int) < (tb.size : Int) := by omega
            have hbk := blanks_back (fun i => kdL (kd bl i)) (fun i => kdL_facts _) HY.out.2.1 L.length
            rw [← HY.out.1, ← HTB2.out.1] at hbk
            obtain ⟨zs2, hz2⟩ : ∃ zs2, zs2 = (toksP tb.data.toList 0).1 := ⟨_, rfl⟩
            have htk : tokensA tb.data.toList = (zs2, 0, 0) := tokens_yes (by rw [← Lib.size_eq]; omega) (by rw [hz2, ← hbk.1])
            have hmp : zs2.map ksn = zs.map ksn := by rw [hz2]; exact hbk.2
            have hl2 : zs2.length = m + 1 := by
              have := congrArg List.length hmp
              rw [List.length_map, List.length_map] at this
              rw [this]; exact HY.out.2.2.1
            have hcall := HT.out tb wr HTB2.out.2 HBB.out
            unfold TokAns at hcall
            rw [htk] at hcall
            have HMP : Hid (zs2.map ksn = zs.map ksn ∧ zs2.length = m + 1) := ⟨hmp, hl2⟩
            clear hbk hz2 htk hmp
            go_wp2_with fail
            refine hcall.mono ?_
            rintro e w2 ⟨⟨v2, rfl, ho2⟩, hb2⟩
            clear hcall
            obtain ⟨a2, n2, cap2, rfl, hn2, hcap2⟩ := ho2.1.slice
            have hn3 : n2 = m + 1 := by omega
            subst hn3
            have HO2 : Hid (TkIs w2 (.slice a2 (m + 1) cap2) zs2) := ho2.1
            have HO3 : Hid (TkIs w2 (.slice a (m + 1) cap) zs) := HO1.out.over (HB.out.trans (hb2.mono HB.out.size))
            have HB3 : Hid (Below w.heap.size w w2) := HBB.out.trans (hb2.mono HBB.out.size)
            clear ho2 hn2 hcap2 hb2 hl2 HB HV HTB2 HBB
            go_wp2_with fail
            go_loopg [14] (m + 1) (fun gg s14 wx => ∃ j : Nat, j + gg = m + 1 ∧ s14 = .int .i64 j ∧ Hid (Below w2.heap.size w2 wx))
            case atStart => exact ⟨0, by omega, rfl, Below.refl _ _⟩
            case round =>
              obtain ⟨j, hjg, rfl, HBj⟩ := hrel
              have HGj : Hid (j + gk = m + 1) := hjg
              by_cases hj : j < m + 1
              · have hjI : (j : Int) < (m : Int) + 1 := by omega
                obtain ⟨t, hit⟩ : ∃ t, zs[j]? = some t := ⟨_, List.getElem?_eq_getElem (by have := HY.out.2.2.1; omega)⟩
                obtain ⟨u, hiu, e1, e2, e3⟩ := again_at HMP.out.1 hit
                obtain ⟨g1, rfl, _, p0, p1, p2, p3⟩ := (HO3.out.over HBj.out).at hit
                obtain ⟨g2, rfl, _, q0, q1, q2, q3⟩ := (HO2.out.over HBj.out).at hiu
                rw [e1] at q0
                rw [e2] at q1
                rw [e3] at q2
                have hr2 : IntKind.i64.wrap ((j : Int) + 1) = (j : Int) + 1 := by rw [IntKind.wrap_i64]; omega
                obtain ⟨tb2, htb⟩ : ∃ tb2, tb2 = str t.s := ⟨_, rfl⟩
                obtain ⟨tk, htk⟩ : ∃ tk, tk = t.k := ⟨_, rfl⟩
                obtain ⟨tn, htn⟩ : ∃ tn, tn = t.n := ⟨_, rfl⟩
                rw [← htk] at p0 q0
                rw [← htb] at p1 q1
                rw [← htn] at p2 q2
                clear hit hiu htb htk htn e1 e2 e3 p3 q3 hjg
                go_wp2_with fail
                go_quiet (fail)
                go_wp2_with fail
                go_roundg (m + 1 - (j + 1))
                case measure => clear hr2; have := HGj.out; omega
                case rel => exact ⟨j + 1, by clear hr2; have := HGj.out; omega, by go_num, below_drewN2 HBj.out _⟩
              · have hjI : ¬ (j : Int) < (m : Int) + 1 := by omega
                go_wp2_with fail
                refine (HA.out _ (HB3.out.trans (HBj.out.mono HB3.out.size))).mono ?_
                rintro e w3 ⟨rfl, hb3⟩
                go_wp2_with fail
                go_ret
                exact ⟨rfl, (HB3.out.trans (HBj.out.mono HB3.out.size)).trans (hb3.mono (HB3.out.trans (HBj.out.mono HB3.out.size)).size)⟩
    · obtain ⟨Y, hY⟩ : ∃ Y, Y = (tokensA s.data.toList).2.2 := ⟨_, rfl⟩
      rw [← hY] at hz h1
      have hzb : (Y != 0) = true := by simpa using hz
      clear hY hE
      go_enter Tryd.func4, Tryd.ntmps4
      go_wp2_with fail
      refine h1.mono ?_
      rintro e w1 ⟨⟨v1, rfl, ho1⟩, hb1⟩
      clear h1 ho1
      go_wp2_with fail
      refine (HA.out _ hb1).mono ?_
      rintro e w2 ⟨rfl, hb2⟩
      go_wp2_with fail
      go_ret
      exact ⟨rfl, hb1.trans (hb2.mono hb1.size)⟩
end Go.Proofs.YtoccbfgcmaahcaaDoor
/-
  The walk of law 29's LexBlanks, over package lex as it is.
-/
namespace Go.Proofs.YtoccbfgcmaahcaaDoor
open Go.RowKit

theorem walkLexBlanks (s : ByteArray) (_hs : s.size ≤ maxLen) (n : Int) (hn : (Lit.int .i64 n).wf = true) (w : World) (hE : Env w) :
    Calls Tryd.prog 4 #[.string s, .int .i64 n] w fun e w' => e = .returned (.bool true) ∧ Below w.heap.size w w' := by
  obtain ⟨x, rfl⟩ := Wd.word_of n hn
  exact walkLexBlanksH lexTokens_any lexKeyword_any s x w hE
end Go.Proofs.YtoccbfgcmaahcaaDoor
