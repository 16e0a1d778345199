/-
  6 texts, one behind the other: Last, Pair, KRows, KFits, KOpen, WLexPlaces.
-/
import Derived.WalkKit
import Derived.Deep.Quiet
import Derived.Deep.QuietTactic
import Derived.BigQuiet
import Derived.Below
import Derived.Deep.RegionHeld3
import Derived.Test.YtoccbfgcmaahcaaDoorJoin1
import Derived.Test.YtoccbfgcmaahcaaDoorJoin2
import Derived.Deep.RegionWith
import Derived.Lib.SmallJoins
import Derived.Deep.Slices
import Derived.ChangeArms
import Derived.Test.YtoccbfgcmaahcaaDoorJoin3
/-
  Regions that draw their order, whose last operation waits for all others: where these are quiet in a class of worlds, the walk in the order of the text serves, and the last operation is done in whatever world of the class. No program is spoken of.
-/
namespace Go.Proofs.YtoccbfgcmaahcaaDoor
open Go.RowKit

/-- What the text of the region must be. -/
def lastB (L : List Oper) : Bool :=
  Region.lexB .any L.dropLast.toArray &&
  (match L.getLast? with
    | some z => z.guard.isNone && ((List.range L.dropLast.length).all fun i => z.after.any fun e => Region.binds .any e && (e.on == i || (match L.dropLast[e.on]? with | some o => o.after.any fun e' => Region.binds .any e' && e'.on == i | none => false))) && (z.after.all fun e => !Region.binds .any e || decide (e.on < L.dropLast.length))
    | none => false) &&
  ((List.range L.dropLast.length).all fun j => match L.dropLast[j]? with
    | some o => (o.after.all fun e => !Region.binds .any e || decide (e.on < j)) && (match o.guard with | some (k, _) => decide (k < L.dropLast.length) | none => true)
    | none => true)

section
variable {P : Program} {l : List Oper} {z : Oper} {Q : Exit → Act → World → Prop}

theorem push_get (l : List Oper) (z : Oper) (j : Nat) (hj : j < l.length) : (l ++ [z]).toArray[j]? = l.toArray[j]? := by
  simp [List.getElem?_append_left hj]
theorem yielded_push (l : List Oper) (z : Oper) (t : Array Value) (j : Nat) (hj : j < l.length) : yielded (l ++ [z]).toArray t j = yielded l.toArray t j := by
  unfold yielded
  rw [push_get l z j hj]
theorem wanted_push (o : Oper) (hg : ∀ k b, o.guard = some (k, b) → k < l.length) (t : Array Value) : Region.wanted o (yielded (l ++ [z]).toArray t) = Region.wanted o (yielded l.toArray t) := by
  unfold Region.wanted
  split
  · rfl
  · rename_i k b hk
    rw [yielded_push l z t k (hg k b hk)]
theorem listed_push (a : Array Bool) (j : Nat) (d : Bool) (hj : j < a.size) : (a.push false).getD j d = a.getD j d := by
  simp [Array.getElem?_push, Nat.ne_of_lt hj]
theorem listed_pushF (a : Array Bool) (j : Nat) : (a.push false).getD j false = a.getD j false := by
  by_cases h : j < a.size
  · exact listed_push a j false h
  · by_cases e : j = a.size
    · subst e; simp
    · simp [Array.getElem?_push, e]
/-- How many have not come up. -/
def unl (a : Array Bool) : Nat := a.toList.count false
theorem unl_set (a : Array Bool) (i : Nat) (h : a.getD i true = false) : unl (a.setIfInBounds i true) + 1 = unl a := by
  have hi : i < a.size := by
    rcases Nat.lt_or_ge i a.size with h' | h'
    · exact h'
    · simp [Array.getElem?_eq_none h'] at h
  have h0 : a.toList[i]'(by simpa using hi) = false := by simpa [hi] using h
  unfold unl
  rw [Array.toList_setIfInBounds, List.count_set (by simpa using hi), h0]
  have h1 : false ∈ a.toList := by
    have hm := List.getElem_mem (l := a.toList) (n := i) (by simpa using hi)
    rwa [h0] at hm
  have h2 : 0 < a.toList.count false := List.count_pos_iff.2 h1
  have e1 : (false == false) = true := rfl
  have e2 : (true == false) = false := rfl
  simp only [e1, e2, if_true, Bool.false_eq_true, if_false]
  omega
theorem unl_pos (a : Array Bool) (h : 0 < unl a) : ∃ i, i < a.size ∧ a.getD i true = false ∧ ∀ j, j < i → a.getD j true = true := by
  have hm : false ∈ a.toList := List.count_pos_iff.1 h
  obtain ⟨i, hi, he⟩ := List.getElem_of_mem hm
  have hex : ∃ i, i < a.size ∧ a.getD i true = false := ⟨i, by simpa using hi, by simp at hi; simp [hi]; simpa using he⟩
  obtain ⟨n, hn⟩ : ∃ n, n = a.size := ⟨_, rfl⟩
  have key : ∀ n, (∃ i, i < n ∧ i < a.size ∧ a.getD i true = false) → ∃ i, i < a.size ∧ a.getD i true = false ∧ ∀ j, j < i → a.getD j true = true := by
    intro n
    induction n with
    | zero => rintro ⟨i, hi, _⟩; omega
    | succ n ih =>
      rintro ⟨i, hi, h1, h2⟩
      by_cases hx : ∃ i, i < n ∧ i < a.size ∧ a.getD i true = false
      · exact ih hx
      · refine ⟨i, h1, h2, fun j hj => ?_⟩
        cases hb : a.getD j true with
        | true => rfl
        | false => exact absurd ⟨j, by omega, by omega, hb⟩ hx
  obtain ⟨i, h1, h2⟩ := hex
  exact key (i + 1) ⟨i, by omega, h1, h2⟩
theorem unl_zero (a : Array Bool) (h : unl a = 0) (j : Nat) (hj : j < a.size) : a.getD j false = true := by
  cases hb : a.getD j false with
  | true => rfl
  | false =>
    have : false ∈ a.toList := by
      have h0 : a[j] = false := by simpa [hj] using hb
      rw [← h0]
      exact Array.getElem_mem_toList hj
    have := List.count_pos_iff.2 this
    unfold unl at h
    omega

theorem ready_lt {listed : Array Bool} (hs : listed.size = l.length) {j : Nat} (hj : j < l.length) : j ∈ Region.ready .any (l ++ [z]).toArray (listed.push false) ↔ j ∈ Region.ready .any l.toArray listed := by
  rw [mem_ready, mem_ready, push_get l z j hj, listed_push listed j true (by omega)]
  constructor
  · rintro ⟨h1, o, ho, h2⟩
    exact ⟨h1, o, ho, fun e he hb => by rw [← listed_pushF]; exact h2 e he hb⟩
  · rintro ⟨h1, o, ho, h2⟩
    exact ⟨h1, o, ho, fun e he hb => by rw [listed_pushF]; exact h2 e he hb⟩
theorem ready_top {ops : Array Oper} {listed : Array Bool} {j : Nat} (h : j ∈ Region.ready .any ops listed) : j < ops.size := by
  obtain ⟨_, o, ho, _⟩ := mem_ready.1 h
  exact (Array.getElem?_eq_some_iff.1 ho).1
/-- What is asked behind the others: the last operation. -/
def Then (P : Program) (z : Oper) (Q : Exit → Act → World → Prop) : Exit → Act → World → Prop
  | .normal, a, w => z.wp P a w (fun a w => Q .normal a w) Q
  | e, a, w => Q e a w
theorem then_panic {d : Option Tmp} {v : Value} (hQ : ∀ c a w, Q (.panic c) (a.put d v) w → Q (.panic c) a w) : ∀ c a w, Then P z Q (.panic c) (a.put d v) w → Then P z Q (.panic c) a w := hQ
theorem wp_then {o : Oper} {a : Act} {w : World} {K K' : Act → World → Prop} (h : ∀ a w, K a w → K' a w) (hh : o.wp P a w K (Then P z Q)) : o.wp P a w K' Q := by
  unfold Oper.wp at *
  generalize (execOp a.eval o).run P w = r at *
  cases r with
  | ok n w' =>
    cases n <;> simp only [Oper.upon] at hh ⊢
    case value => exact h _ _ hh
    case skip => exact h _ _ hh
    case defer => exact h _ _ hh
    case enter =>
      refine Calls.mono hh (fun e w'' he => ?_)
      cases e with
      | returned v => exact h _ _ he
      | panicked c => exact he
      | outgrown => exact he
    case row => exact Rows.mono hh (fun _ _ he => h _ _ he)
  | halt x w' => cases x <;> simp only [Oper.upon] at hh ⊢ <;> exact hh
theorem any_of_pre (hdep : ∀ j o, l[j]? = some o → (∀ e ∈ o.after, Region.binds .any e = true → e.on < j) ∧ ∀ k b, o.guard = some (k, b) → k < l.length)
    (hz : z.guard = none) (hw : ∀ i, i < l.length → ∃ e ∈ z.after, Region.binds .any e = true ∧ (e.on = i ∨ ∃ o, l[e.on]? = some o ∧ ∃ e' ∈ o.after, Region.binds .any e' = true ∧ e'.on = i)) (hze : ∀ e ∈ z.after, Region.binds .any e = true → e.on < l.length) :
    ∀ (fuel : Nat) (listed : Array Bool) (a : Act) (w : World), listed.size = l.length → unl listed = fuel → (∀ j o, l[j]? = some o → listed.getD j false = true → ∀ e ∈ o.after, Region.binds .any e = true → listed.getD e.on false = true) →
      wpAny P .any l.toArray (Then P z Q) fuel listed a w → wpAny P .any (l ++ [z]).toArray Q (fuel + 1) (listed.push false) a w := by
  intro fuel
  induction fuel with
  | zero =>
    intro listed a w hs hu _ h
    have hall := unl_zero listed hu
    have hone : ∀ j, j < l.length → ¬ (listed.getD j true = false) := fun j hj e => by
      have h1 := hall j (by omega)
      have hj' : j < listed.size := by omega
      simp [hj'] at e h1
      rw [e] at h1
      cases h1
    have hrz : l.length ∈ Region.ready .any (l ++ [z]).toArray (listed.push false) := by
      rw [mem_ready]
      refine ⟨by simp [← hs], z, by simp, fun e he hb => ?_⟩
      rw [listed_pushF]
      exact hall _ (by have := hze e he hb; omega)
    refine ⟨fun h0 => (by rw [h0] at hrz; cases hrz), fun i hi => ?_⟩
    have hlt := ready_top hi
    have hil : i = l.length := by
      simp at hlt
      rcases Nat.lt_or_ge i l.length with h' | h'
      · have := (mem_ready.1 hi).1
        rw [listed_push listed i true (by omega)] at this
        exact absurd this (hone i h')
      · omega
    subst hil
    have hsz : (l ++ [z]).toArray[l.length]? = some z := by simp
    unfold wpOp
    simp only [hsz, Region.wanted, hz, if_true]
    have hlast : z.wp P a w (fun a w => Q .normal a w) Q := h.2
    refine .inl (Oper.wp_mono (fun a' w' hq => ⟨?_, hq⟩) hlast)
    cases hr : Region.ready .any (l ++ [z]).toArray ((listed.push false).setIfInBounds l.length true) with
    | nil => rfl
    | cons x xs =>
      have hx : x ∈ Region.ready .any (l ++ [z]).toArray ((listed.push false).setIfInBounds l.length true) := by rw [hr]; simp
      have hxt := ready_top hx
      have hx1 := (mem_ready.1 hx).1
      simp at hxt
      by_cases e : x = l.length
      · subst e
        simp [← hs] at hx1
      · rw [getD_set_ne true (fun h' => e h'.symm), listed_push listed x true (by omega)] at hx1
        exact absurd hx1 (hone x (by omega))
  | succ fuel ih =>
    intro listed a w hs hu hcl h
    obtain ⟨i0, hi0, hf0, hmin⟩ := unl_pos listed (by omega)
    have hr0 : i0 ∈ Region.ready .any l.toArray listed := by
      have hsome : l[i0]? = some l[i0] := List.getElem?_eq_getElem (by omega)
      rw [mem_ready]
      refine ⟨hf0, l[i0], by simp, fun e he hb => ?_⟩
      have hlt := (hdep i0 _ hsome).1 e he hb
      have h1 := hmin _ hlt
      have h2 : e.on < listed.size := by omega
      simp [h2] at h1 ⊢
      exact h1
    have hr1 := (ready_lt (z := z) hs (by omega)).2 hr0
    refine ⟨fun h0 => (by rw [h0] at hr1; cases hr1), fun i hi => ?_⟩
    have hlt := ready_top hi
    have hil : i < l.length := by
      simp at hlt
      rcases Nat.lt_or_ge i l.length with h' | h'
      · exact h'
      · have e : i = l.length := by omega
        subst e
        obtain ⟨_, o, ho, hall⟩ := mem_ready.1 hi
        have hsz : (l ++ [z]).toArray[l.length]? = some z := by simp
        rw [hsz] at ho
        cases ho
        obtain ⟨e, he, hb, heq⟩ := hw i0 (by omega)
        have this := hall e he hb
        rw [listed_pushF] at this
        have this : listed.getD i0 false = true := by
          rcases heq with heq | ⟨o, ho, e', he', hb', heq⟩
          · rw [heq] at this; exact this
          · have h1 := hcl e.on o ho this e' he' hb'
            rw [heq] at h1
            exact h1
        simp [hi0] at this hf0
        rw [hf0] at this
        cases this
    have hi' := (ready_lt (z := z) hs hil).1 hi
    have hq := h.2 i hi'
    obtain ⟨hun, o, ho, hrd⟩ := mem_ready.1 hi'
    have ho' : l[i]? = some o := by simpa using ho
    have hset : (listed.push false).setIfInBounds i true = (listed.setIfInBounds i true).push false := by
      apply Array.ext'
      simp [List.set_append_left, hs, hil]
    have hus := unl_set listed i hun
    have hkeep : ∀ j, listed.getD j false = true → (listed.setIfInBounds i true).getD j false = true := fun j hj => by
      by_cases e : i = j
      · subst e
        have : i < listed.size := by omega
        simp [this]
      · rw [getD_set_ne false e]
        exact hj
    have hcl2 : ∀ j o, l[j]? = some o → (listed.setIfInBounds i true).getD j false = true → ∀ e ∈ o.after, Region.binds .any e = true → (listed.setIfInBounds i true).getD e.on false = true := by
      intro j o2 ho2 hj e he hb
      by_cases ej : i = j
      · subst ej
        rw [ho'] at ho2
        cases ho2
        exact hkeep _ (hrd e he hb)
      · rw [getD_set_ne false ej] at hj
        exact hkeep _ (hcl j o2 ho2 hj e he hb)
    unfold wpOp at hq
    rw [ho] at hq
    unfold wpOp
    rw [push_get l z i hil, ho]
    simp only at hq ⊢
    rw [wanted_push o (hdep i o ho').2]
    have hnext : ∀ a' w', wpAny P .any l.toArray (Then P z Q) fuel (listed.setIfInBounds i true) a' w' → wpAny P .any (l ++ [z]).toArray Q (fuel + 1) ((listed.push false).setIfInBounds i true) a' w' := by
      intro a' w' h'
      rw [hset]
      exact ih _ _ _ (by simpa using hs) (by omega) hcl2 h'
    split
    · rename_i hwt
      simp only [hwt, if_true] at hq
      rcases hq with hq | ⟨hq, a', w', hl⟩
      · exact .inl (wp_then hnext hq)
      · exact .inr ⟨hq, a', w', hl⟩
    · rename_i hwt
      simp only [hwt] at hq
      exact hnext _ _ hq

/-- **The last operation waits for all others.** -/
theorem wp_region_then {id : Nat} {a : Act} {w : World} {L : List Oper} (z : Oper) (hm : P.follows .mixedOrders = true) (hL : L.getLast? = some z) (hB : lastB L = true)
    (h : wpAny P .any L.dropLast.toArray (Then P z Q) L.dropLast.length (Array.replicate L.dropLast.length false) a w.drew) : (Code.region id L.toArray true).wp P Q a w := by
  have hne : L = L.dropLast ++ [z] := by
    have hn : L ≠ [] := by intro e; subst e; simp at hL
    have h1 := List.dropLast_concat_getLast hn
    rw [List.getLast?_eq_some_getLast hn] at hL
    rw [Option.some.inj hL] at h1
    exact h1.symm
  obtain ⟨l, hl⟩ : ∃ l, l = L.dropLast := ⟨_, rfl⟩
  unfold lastB at hB
  rw [hL] at hB
  rw [← hl] at hne h hB
  subst hne
  simp only [Bool.and_eq_true, List.all_eq_true, List.mem_range, Region.lexB, Option.isNone_iff_eq_none] at hB
  obtain ⟨⟨⟨hns, hlex⟩, ⟨hzg, hz1⟩, hz2⟩, hdep⟩ := hB
  refine wp_region_any hm ?_
  have hrep : Array.replicate (l ++ [z]).toArray.size false = (Array.replicate l.length false).push false := by
    apply Array.ext'
    simp [List.replicate_succ']
  have hsz : (l ++ [z]).toArray.size = l.length + 1 := by simp
  rw [hrep, hsz]
  refine any_of_pre ?_ hzg ?_ ?_ l.length _ a _ (by simp) ?_ ?_ h
  · intro j o ho
    have hj := (List.getElem?_eq_some_iff.1 ho).1
    have h1 := hdep j hj
    rw [ho] at h1
    simp only [Bool.and_eq_true, Array.all_eq_true_iff_forall_mem, Bool.or_eq_true, Bool.not_eq_true', decide_eq_true_eq] at h1
    refine ⟨fun e he hb => ?_, fun k b hg => ?_⟩
    · rcases h1.1 e he with h2 | h2
      · rw [hb] at h2; cases h2
      · exact h2
    · have h2 := h1.2
      rw [hg] at h2
      simpa using h2
  · intro i hi
    have h1 := hz1 i hi
    rw [Array.any_eq_true] at h1
    obtain ⟨j, hj, h2⟩ := h1
    simp only [Bool.and_eq_true, Bool.or_eq_true, beq_iff_eq] at h2
    refine ⟨z.after[j], Array.getElem_mem hj, h2.1, ?_⟩
    rcases h2.2 with h3 | h3
    · exact .inl h3
    · cases ho : l[z.after[j].on]? with
      | none => rw [ho] at h3; cases h3
      | some o =>
        rw [ho] at h3
        simp only [Array.any_eq_true, Bool.and_eq_true, beq_iff_eq] at h3
        obtain ⟨j', hj', h4⟩ := h3
        exact .inr ⟨o, rfl, o.after[j'], Array.getElem_mem hj', h4.1, h4.2⟩
  · intro e he hb
    rw [Array.all_eq_true_iff_forall_mem] at hz2
    have h1 := hz2 e he
    simp only [Bool.or_eq_true, Bool.not_eq_true', decide_eq_true_eq] at h1
    rcases h1 with h1 | h1
    · rw [hb] at h1; cases h1
    · exact h1
  · unfold unl
    simp
  · intro j o _ hj
    simp [Array.getElem?_replicate] at hj
    split at hj <;> simp at hj
/-- The others held under the condition S. -/
theorem wp_region_held_then {id : Nat} {a : Act} {w : World} {L : List Oper} (S : World → Prop) (z : Oper) (hm : P.follows .mixedOrders = true) (hL : L.getLast? = some z) (hB : lastB L = true)
    (h : wpAnyH P .any L.dropLast.toArray (Then P z Q) S L.dropLast.length (Array.replicate L.dropLast.length false) a w.drew) : (Code.region id L.toArray true).wp P Q a w :=
  wp_region_then z hm hL hB (wpAny_of_held _ _ _ _ h)
/-- One of the others, by its number, taken first. -/
theorem takeL {S : World → Prop} (i : Nat) {oi : Oper} {v : Value} {fuel : Nat} {listed : Array Bool} {a : Act} {w : World} (hi : l[i]? = some oi)
    (hs : Region.noSelect l.toArray = true) (hf : Region.free .any l.toArray listed i = true) (hr : (Region.ready .any l.toArray listed).contains i = true) (hQ : ∀ c a w, Q (.panic c) (a.put oi.dst v) w → Q (.panic c) a w)
    (hw : Region.wanted oi (yielded l.toArray a.tmps) = true) (hS : S w) (hy : ∀ w, S w → (execOp a.eval oi).run P w = .ok (.value v) w)
    (h : wpAnyH P .any l.toArray (Then P z Q) S fuel (listed.setIfInBounds i true) (a.put oi.dst v) w) : wpAnyH P .any l.toArray (Then P z Q) S (fuel + 1) listed a w :=
  wpAnyH_take (by simpa using hi) hs hf hr (then_panic hQ) (.inl ⟨hw, hy⟩) hS h
/-- A call of a Go function that alone may come up. -/
theorem callL {S : World → Prop} (i : Nat) {oi : Oper} {f : FuncId} {vs : Array Value} {fuel : Nat} {listed : Array Bool} {a : Act} {w : World} (hi : l[i]? = some oi) (hr : Region.ready .any l.toArray listed = [i])
    (hw : Region.wanted oi (yielded l.toArray a.tmps) = true) (hop : (execOp a.eval oi).run P w = .ok (.enter f vs) w)
    (hc : Calls P f vs w fun e w' => ∃ v, e = .returned v ∧ S w' ∧ wpAnyH P .any l.toArray (Then P z Q) S fuel (listed.setIfInBounds i true) (a.put oi.dst v) w') : wpAnyH P .any l.toArray (Then P z Q) S (fuel + 1) listed a w := by
  refine wpAnyH_all hr (by simp) ?_
  intro j hj
  simp only [List.mem_singleton] at hj
  subst hj
  have hi' : l.toArray[j]? = some oi := by simpa using hi
  unfold wpOp
  simp only [hi', hw, if_true]
  refine .inl ?_
  unfold Oper.wp
  rw [hop]
  refine Calls.mono hc fun e w' he => ?_
  obtain ⟨v, rfl, h⟩ := he
  exact h
/-- A store that alone may come up. -/
theorem stepL {S : World → Prop} (i : Nat) {oi : Oper} {fuel : Nat} {listed : Array Bool} {a : Act} {w : World} (w' : World) (hi : l[i]? = some oi) (hr : Region.ready .any l.toArray listed = [i])
    (hw : Region.wanted oi (yielded l.toArray a.tmps) = true) (hop : (execOp a.eval oi).run P w = .ok .skip w') (hS : S w')
    (h : wpAnyH P .any l.toArray (Then P z Q) S fuel (listed.setIfInBounds i true) (a.put oi.dst undef) w') : wpAnyH P .any l.toArray (Then P z Q) S (fuel + 1) listed a w := by
  refine wpAnyH_all hr (by simp) ?_
  intro j hj
  simp only [List.mem_singleton] at hj
  subst hj
  have hi' : l.toArray[j]? = some oi := by simpa using hi
  unfold wpOp
  simp only [hi', hw, if_true]
  refine .inl ?_
  unfold Oper.wp
  rw [hop]
  exact ⟨hS, h⟩
/-- A variable that is made, where that alone may come up. -/
theorem newL {S : World → Prop} (i : Nat) {oi : Oper} {fuel : Nat} {listed : Array Bool} {a : Act} {w : World} (w' : World) (v : Value) (hi : l[i]? = some oi) (hr : Region.ready .any l.toArray listed = [i])
    (hw : Region.wanted oi (yielded l.toArray a.tmps) = true) (hop : (execOp a.eval oi).run P w = .ok (.value v) w') (hS : S w')
    (h : wpAnyH P .any l.toArray (Then P z Q) S fuel (listed.setIfInBounds i true) (a.put oi.dst v) w') : wpAnyH P .any l.toArray (Then P z Q) S (fuel + 1) listed a w := by
  refine wpAnyH_all hr (by simp) ?_
  intro j hj
  simp only [List.mem_singleton] at hj
  subst hj
  have hi' : l.toArray[j]? = some oi := by simpa using hi
  unfold wpOp
  simp only [hi', hw, if_true]
  refine .inl ?_
  unfold Oper.wp
  rw [hop]
  exact ⟨hS, h⟩
/-- A call of a Go function or a variable that is made, whichever comes up first. -/
theorem callNewL {S : World → Prop} (i j : Nat) {oi oj : Oper} {f : FuncId} {vs : Array Value} {fuel : Nat} {listed : Array Bool} {a : Act} {w : World} (w' : World) (v : Value) (hi : l[i]? = some oi) (hj : l[j]? = some oj) (hr : Region.ready .any l.toArray listed = [i, j])
    (hwi : Region.wanted oi (yielded l.toArray a.tmps) = true) (hwj : Region.wanted oj (yielded l.toArray a.tmps) = true) (hop : (execOp a.eval oi).run P w = .ok (.enter f vs) w) (hop' : (execOp a.eval oj).run P w = .ok (.value v) w') (hS : S w')
    (hc : Calls P f vs w fun e w' => ∃ v, e = .returned v ∧ S w' ∧ wpAnyH P .any l.toArray (Then P z Q) S fuel (listed.setIfInBounds i true) (a.put oi.dst v) w')
    (h : wpAnyH P .any l.toArray (Then P z Q) S fuel (listed.setIfInBounds j true) (a.put oj.dst v) w') : wpAnyH P .any l.toArray (Then P z Q) S (fuel + 1) listed a w := by
  refine wpAnyH_all hr (by simp) ?_
  intro k hk
  simp only [List.mem_cons, List.not_mem_nil, or_false] at hk
  have hi' : l.toArray[i]? = some oi := by simpa using hi
  have hj' : l.toArray[j]? = some oj := by simpa using hj
  rcases hk with rfl | rfl
  · unfold wpOp
    simp only [hi', hwi, if_true]
    refine .inl ?_
    unfold Oper.wp
    rw [hop]
    refine Calls.mono hc fun e w' he => ?_
    obtain ⟨v, rfl, h⟩ := he
    exact h
  · unfold wpOp
    simp only [hj', hwj, if_true]
    refine .inl ?_
    unfold Oper.wp
    rw [hop']
    exact ⟨hS, h⟩
/-- All others have come up. -/
theorem doneL {S : World → Prop} {fuel : Nat} {listed : Array Bool} {a : Act} {w : World} (hr : Region.ready .any l.toArray listed = []) (h : z.wp P a w (fun a w => Q .normal a w) Q) : wpAnyH P .any l.toArray (Then P z Q) S fuel listed a w :=
  wpAnyH_done hr h fuel
/-- The others quiet in a class of worlds. -/
theorem wp_region_last {C : World → Prop} {id : Nat} {a : Act} {w : World} {L : List Oper} (z : Oper) (hm : P.follows .mixedOrders = true) (hL : L.getLast? = some z) (hB : lastB L = true) (hC : C w.drew)
    (h : wpQuiet P L.dropLast.toArray C (fun a' => ∀ w', C w' → z.wp P a' w' (fun a w => Q .normal a w) Q) L.dropLast a) : (Code.region id L.toArray true).wp P Q a w := by
  refine wp_region_then z hm hL hB (wpAny_of_quiet (C := C) (Q := fun a' => ∀ w', C w' → z.wp P a' w' (fun a w => Q .normal a w) Q) (fun a w' hw' hq => hq w' hw') _ _ _ _ hC ?_)
  unfold lastB at hB
  simp only [Bool.and_eq_true, Region.lexB] at hB
  exact wpAnyQ_lex (P := P) (C := C) (md := .any) hB.1.1.1 L.dropLast 0 (Array.replicate L.dropLast.length false) a (by simp) (by simpa using hB.1.1.2) h
/-- The same, in the class of all worlds above the first one. -/
theorem wp_region_above_last {id : Nat} {a : Act} {w : World} {L : List Oper} (z : Oper) (hm : P.follows .mixedOrders = true) (hL : L.getLast? = some z) (hB : lastB L = true)
    (h : Nonempty (Above w) → wpQuiet P L.dropLast.toArray (fun w' => ∃ k : Above w, w' = k.it) (fun a' => ∀ w', (∃ k : Above w, w' = k.it) → z.wp P a' w' (fun a w => Q .normal a w) Q) L.dropLast a) : (Code.region id L.toArray true).wp P Q a w :=
  wp_region_last (C := fun w' => ∃ k : Above w, w' = k.it) z hm hL hB ⟨⟨w.drew, (Below.refl _ _).drew⟩, rfl⟩ (h (above_some w))
end
end Go.Proofs.YtoccbfgcmaahcaaDoor
/-
  Regions that draw their order, of the form 'x, y := f(..), g(..)' with variables of several cells: two calls, two new variables, two stores, in whatever order they come up. No program is spoken of.
-/
namespace Go.Proofs.YtoccbfgcmaahcaaDoor
open Go.RowKit

section
variable {P : Program} {l : List Oper} {z : Oper} {Q : Exit → Act → World → Prop} {S : World → Prop}

/-- A relation that each operation keeps, whichever comes up. -/
theorem anyH_inv (R : Array Bool → Act → World → Prop)
    (step : ∀ listed a w, R listed a w → ∀ i ∈ Region.ready .any l.toArray listed, wpOp P l.toArray (Then P z Q) i (fun a' w' => S w' ∧ R (listed.setIfInBounds i true) a' w') a w)
    (fin : ∀ listed a w, R listed a w → Region.ready .any l.toArray listed = [] → Then P z Q .normal a w) :
    ∀ (fuel : Nat) (listed : Array Bool) (a : Act) (w : World), unl listed ≤ fuel → R listed a w → wpAnyH P .any l.toArray (Then P z Q) S fuel listed a w := by
  intro fuel
  induction fuel with
  | zero =>
    intro listed a w hu hR
    have hr : Region.ready .any l.toArray listed = [] := by
      rw [List.eq_nil_iff_forall_not_mem]
      intro i hi
      obtain ⟨h1, _⟩ := mem_ready.1 hi
      have := unl_set listed i h1
      omega
    exact ⟨hr, fin _ _ _ hR hr⟩
  | succ fuel ih =>
    intro listed a w hu hR
    refine ⟨fun hr => fin _ _ _ hR hr, fun i hi => ?_⟩
    have h1 := (mem_ready.1 hi).1
    have h2 := unl_set listed i h1
    exact wpOp_mono (fun a' w' h' => ⟨h'.1, ih _ _ _ (by omega) h'.2⟩) (step listed a w hR i hi)

theorem opCall {K : Act → World → Prop} {i : Nat} {oi : Oper} {f : FuncId} {vs : Array Value} {a : Act} {w : World} (hi : l[i]? = some oi) (hg : oi.guard = none)
    (hop : (execOp a.eval oi).run P w = .ok (.enter f vs) w) (hc : Calls P f vs w fun e w' => ∃ v, e = .returned v ∧ K (a.put oi.dst v) w') : wpOp P l.toArray Q i K a w := by
  have hi' : l.toArray[i]? = some oi := by simpa using hi
  have hw : Region.wanted oi (yielded l.toArray a.tmps) = true := by unfold Region.wanted; rw [hg]
  unfold wpOp
  simp only [hi', hw, if_true]
  refine .inl ?_
  unfold Oper.wp
  rw [hop]
  refine Calls.mono hc fun e w' he => ?_
  obtain ⟨v, rfl, h⟩ := he
  exact h
theorem opNew {K : Act → World → Prop} {i : Nat} {oi : Oper} {a : Act} {w w' : World} {v : Value} (hi : l[i]? = some oi) (hg : oi.guard = none)
    (hop : (execOp a.eval oi).run P w = .ok (.value v) w') (h : K (a.put oi.dst v) w') : wpOp P l.toArray Q i K a w := by
  have hi' : l.toArray[i]? = some oi := by simpa using hi
  have hw : Region.wanted oi (yielded l.toArray a.tmps) = true := by unfold Region.wanted; rw [hg]
  unfold wpOp
  simp only [hi', hw, if_true]
  refine .inl ?_
  unfold Oper.wp
  rw [hop]
  exact h
theorem opWp {K : Act → World → Prop} {i : Nat} {oi : Oper} {a : Act} {w : World} (hi : l[i]? = some oi) (hg : oi.guard = none) (h : oi.wp P a w K Q) : wpOp P l.toArray Q i K a w := by
  have hi' : l.toArray[i]? = some oi := by simpa using hi
  have hw : Region.wanted oi (yielded l.toArray a.tmps) = true := by unfold Region.wanted; rw [hg]
  unfold wpOp
  simp only [hi', hw, if_true]
  exact .inl h

/-- How far such a region has come. -/
def PairSt (w0 : World) (T : Value → Value → Value → Value → Act) (L : Bool → Bool → Bool → Bool → Bool → Array Bool) (c1 c2 z1 z2 : Array Value) (t1 t2 : TypeId) (listed : Array Bool) (a : Act) (w : World) : Prop :=
  ∃ (b1 b2 m1 m2 e : Bool) (v1 v2 p q : Value), listed = L b1 b2 m1 m2 e ∧ a = T v1 v2 p q ∧ Below w0.heap.size w0 w ∧ (b1 = true → v1 = .agg c1) ∧ (b2 = true → v2 = .agg c2) ∧
    (m1 = true → ∃ g, p = .pointer (some ⟨g, 0, none⟩) ∧ w0.heap.size ≤ g ∧ Box w g t1 (if e = true then c1 else z1)) ∧ (m2 = true → ∃ g, q = .pointer (some ⟨g, 0, none⟩) ∧ w0.heap.size ≤ g ∧ Box w g t2 z2) ∧ (m1 = true → m2 = true → p ≠ q) ∧ (e = true → m1 = true)

/-- Two calls (i1, i2), two new variables (j1, j2), a store (k) and the last store. -/
theorem pairL {w0 : World} (T : Value → Value → Value → Value → Act) (L : Bool → Bool → Bool → Bool → Bool → Array Bool) (c1 c2 z1 z2 : Array Value) (t1 t2 ty1 : TypeId)
    (i1 i2 j1 j2 k : Nat) {o1 o2 n1 n2 s1 : Oper} {f1 f2 : FuncId} {vs1 vs2 : Array Value}
    (hi1 : l[i1]? = some o1) (hi2 : l[i2]? = some o2) (hj1 : l[j1]? = some n1) (hj2 : l[j2]? = some n2) (hk : l[k]? = some s1)
    (g1 : o1.guard = none) (g2 : o2.guard = none) (g3 : n1.guard = none) (g4 : n2.guard = none) (g5 : s1.guard = none)
    (put1 : ∀ v1 v2 p q x, (T v1 v2 p q).put o1.dst x = T x v2 p q) (put2 : ∀ v1 v2 p q x, (T v1 v2 p q).put o2.dst x = T v1 x p q) (put3 : ∀ v1 v2 p q x, (T v1 v2 p q).put n1.dst x = T v1 v2 x q) (put4 : ∀ v1 v2 p q x, (T v1 v2 p q).put n2.dst x = T v1 v2 p x) (put5 : ∀ v1 v2 p q, (T v1 v2 p q).put s1.dst undef = T v1 v2 p q)
    (set1 : ∀ b1 b2 m1 m2 e, (L b1 b2 m1 m2 e).setIfInBounds i1 true = L true b2 m1 m2 e) (set2 : ∀ b1 b2 m1 m2 e, (L b1 b2 m1 m2 e).setIfInBounds i2 true = L b1 true m1 m2 e) (set3 : ∀ b1 b2 m1 m2 e, (L b1 b2 m1 m2 e).setIfInBounds j1 true = L b1 b2 true m2 e) (set4 : ∀ b1 b2 m1 m2 e, (L b1 b2 m1 m2 e).setIfInBounds j2 true = L b1 b2 m1 true e) (set5 : ∀ b1 b2 m1 m2 e, (L b1 b2 m1 m2 e).setIfInBounds k true = L b1 b2 m1 m2 true)
    (rdy : ∀ b1 b2 m1 m2 e, ((Region.ready .any l.toArray (L b1 b2 m1 m2 e)).all fun i => (i == i1 && !b1) || (i == i2 && !b2) || (i == j1 && !m1) || (i == j2 && !m2) || (i == k && (b1 && (m1 && !e)))) = true)
    (dne : ∀ b1 b2 m1 m2 e, ((Region.ready .any l.toArray (L b1 b2 m1 m2 e)).isEmpty = true → (b1 && (b2 && (m1 && (m2 && e)))) = true))
    (hop1 : ∀ v1 v2 p q w, (execOp (T v1 v2 p q).eval o1).run P w = .ok (.enter f1 vs1) w) (hop2 : ∀ v1 v2 p q w, (execOp (T v1 v2 p q).eval o2).run P w = .ok (.enter f2 vs2) w)
    (hop3 : ∀ v1 v2 p q w, (execOp (T v1 v2 p q).eval n1).run P w = .ok (.value (.pointer (some ⟨w.heap.size, 0, none⟩))) (w.alloc (.cells z1 t1))) (hop4 : ∀ v1 v2 p q w, (execOp (T v1 v2 p q).eval n2).run P w = .ok (.value (.pointer (some ⟨w.heap.size, 0, none⟩))) (w.alloc (.cells z2 t2)))
    (x1 y1 : Operand) (ho5 : s1.op = .store ty1 x1 y1) (hx5 : ∀ v1 v2 p q, (T v1 v2 p q).eval x1 = p) (hy5 : ∀ v1 v2 p q, (T v1 v2 p q).eval y1 = v1) (hi5 : (P.info? ty1).map (·.size) = some c1.size) (hz5 : z1.size = c1.size) (hone : c1.all (·.oneCell') = true)
    (hS : ∀ w, Below w0.heap.size w0 w → S w)
    (call1 : ∀ w, Below w0.heap.size w0 w → Calls P f1 vs1 w fun e w' => e = .returned (.agg c1) ∧ Below w.heap.size w w') (call2 : ∀ w, Below w0.heap.size w0 w → Calls P f2 vs2 w fun e w' => e = .returned (.agg c2) ∧ Below w.heap.size w w')
    (fin : ∀ g g' w, g ≠ g' → w0.heap.size ≤ g → w0.heap.size ≤ g' → Box w g t1 c1 → Box w g' t2 z2 → Below w0.heap.size w0 w → z.wp P (T (.agg c1) (.agg c2) (.pointer (some ⟨g, 0, none⟩)) (.pointer (some ⟨g', 0, none⟩))) w (fun a w => Q .normal a w) Q)
    {v1 v2 p q : Value} {w : World} {fuel : Nat} {listed : Array Bool} (hl : listed = L false false false false false) (hw : Below w0.heap.size w0 w) (hu : unl (L false false false false false) ≤ fuel) :
    wpAnyH P .any l.toArray (Then P z Q) S fuel listed (T v1 v2 p q) w := by
  subst hl
  refine anyH_inv (PairSt w0 T L c1 c2 z1 z2 t1 t2) ?_ ?_ fuel _ _ _ hu ⟨false, false, false, false, false, v1, v2, p, q, rfl, rfl, hw, fun h => (by cases h), fun h => (by cases h), fun h => (by cases h), fun h => (by cases h), fun h => (by cases h), fun h => (by cases h)⟩
  · clear hu hw
    rintro listed a w ⟨b1, b2, m1, m2, e, v1, v2, p, q, rfl, rfl, hb, hv1, hv2, hp, hq, hpq, hem⟩ i hi
    have hr := List.all_eq_true.1 (rdy b1 b2 m1 m2 e) i hi
    have bel : ∀ w', Below w.heap.size w w' → Below w0.heap.size w0 w' := fun w' h => hb.trans (h.mono hb.size)
    simp only [Bool.or_eq_true, Bool.and_eq_true, beq_iff_eq, Bool.not_eq_true'] at hr
    rcases hr with (((⟨rfl, h1⟩ | ⟨rfl, h1⟩) | ⟨rfl, h1⟩) | ⟨rfl, h1⟩) | ⟨rfl, h1, h2, h3⟩
    · refine opCall hi1 g1 (hop1 ..) ((call1 w hb).mono ?_)
      rintro er w' ⟨rfl, hb'⟩
      refine ⟨_, rfl, hS _ (bel _ hb'), ?_⟩
      rw [put1, set1]
      exact ⟨true, b2, m1, m2, e, _, _, _, _, rfl, rfl, bel _ hb', fun _ => rfl, hv2, fun h => by obtain ⟨g, h1, h2, h3⟩ := hp h; exact ⟨g, h1, h2, h3.over hb'⟩, fun h => by obtain ⟨g, h1, h2, h3⟩ := hq h; exact ⟨g, h1, h2, h3.over hb'⟩, hpq, hem⟩
    · refine opCall hi2 g2 (hop2 ..) ((call2 w hb).mono ?_)
      rintro er w' ⟨rfl, hb'⟩
      refine ⟨_, rfl, hS _ (bel _ hb'), ?_⟩
      rw [put2, set2]
      exact ⟨b1, true, m1, m2, e, _, _, _, _, rfl, rfl, bel _ hb', hv1, fun _ => rfl, fun h => by obtain ⟨g, h1, h2, h3⟩ := hp h; exact ⟨g, h1, h2, h3.over hb'⟩, fun h => by obtain ⟨g, h1, h2, h3⟩ := hq h; exact ⟨g, h1, h2, h3.over hb'⟩, hpq, hem⟩
    · have hb' := below1 w (.cells z1 t1)
      refine opNew hj1 g3 (hop3 ..) ?_
      refine ⟨hS _ (bel _ hb'), ?_⟩
      rw [put3, set3]
      have he : e = false := by
        cases e with
        | false => rfl
        | true => rw [hem rfl] at h1; cases h1
      subst he
      refine ⟨b1, b2, true, m2, false, _, _, _, _, rfl, rfl, bel _ hb', hv1, hv2, fun _ => ⟨_, rfl, hb.size, box_new _ _ _⟩, fun h => by obtain ⟨g, h1, h2, h3⟩ := hq h; exact ⟨g, h1, h2, h3.over hb'⟩, fun _ h => ?_, fun _ => rfl⟩
      obtain ⟨g, rfl, _, h3⟩ := hq h
      have := h3.lt
      intro e
      injection e with e
      injection e with e
      injection e with e
      omega
    · have hb' := below1 w (.cells z2 t2)
      refine opNew hj2 g4 (hop4 ..) ?_
      refine ⟨hS _ (bel _ hb'), ?_⟩
      rw [put4, set4]
      refine ⟨b1, b2, m1, true, e, _, _, _, _, rfl, rfl, bel _ hb', hv1, hv2, fun h => by obtain ⟨g, h1, h2, h3⟩ := hp h; exact ⟨g, h1, h2, h3.over hb'⟩, fun _ => ⟨_, rfl, hb.size, box_new _ _ _⟩, fun h _ => ?_, hem⟩
      obtain ⟨g, rfl, _, h3⟩ := hp h
      have := h3.lt
      intro e
      injection e with e
      injection e with e
      injection e with e
      omega
    · obtain ⟨g, rfl, hg, hbx⟩ := hp h2
      subst h3
      obtain rfl := hv1 h1
      refine opWp hk g5 (wp_store_row ty1 x1 y1 ho5 g c1 (hx5 ..) (hy5 ..) t1 z1 hbx hi5 hz5 hone ?_)
      have hb' : Below w0.heap.size w0 (w.setRow g c1) := below_setRow hb hg c1
      refine ⟨hS _ hb', ?_⟩
      rw [put5, set5]
      refine ⟨b1, b2, m1, m2, true, _, _, _, _, rfl, rfl, hb', fun _ => rfl, hv2, fun _ => ⟨g, rfl, hg, hbx.setRow c1⟩, fun h => ?_, hpq, fun _ => h2⟩
      obtain ⟨g', rfl, h4, h5⟩ := hq h
      exact ⟨g', rfl, h4, h5.rowOther (fun e => hpq h2 h (by rw [e])) c1⟩
  · rintro listed a w ⟨b1, b2, m1, m2, e, v1, v2, p, q, rfl, rfl, hb, hv1, hv2, hp, hq, hpq, hem⟩ hr
    have hd := dne b1 b2 m1 m2 e (by rw [hr]; rfl)
    simp only [Bool.and_eq_true] at hd
    obtain ⟨h1, h2, h3, h4, h5⟩ := hd
    obtain ⟨g, rfl, hg, hbx⟩ := hp h3
    obtain ⟨g', rfl, hg', hbx'⟩ := hq h4
    obtain rfl := hv1 h1
    obtain rfl := hv2 h2
    rw [if_pos h5] at hbx
    exact fin g g' w (fun e => hpq h3 h4 (by rw [e])) hg hg' hbx hbx' hb
end
end Go.Proofs.YtoccbfgcmaahcaaDoor
/-
  Rows in order: the contracts of CompareRows, package cell's and the document's.
-/
namespace Go.Proofs.YtoccbfgcmaahcaaDoor
open Go.RowKit

/-- Which of two rows stands first, by some columns. -/
def cmpR (a b : List Cl) : List (Int × Bool) → Int
  | [] => 0
  | (k, d) :: r => if cmpC (atC a k) (atC b k) = 0 then cmpR a b r else if d = true then - cmpC (atC a k) (atC b k) else cmpC (atC a k) (atC b k)
theorem cmpR_flip (a b : List Cl) : ∀ ks, cmpR b a ks = - cmpR a b ks
  | [] => rfl
  | (k, d) :: r => by
    have ih := cmpR_flip a b r
    have h := cmpC_flip (atC a k) (atC b k)
    simp only [cmpR]
    rw [h]
    (repeat' split) <;> omega
/-- Columns to order by that came in. -/
def SortsIs (w : World) (v : Value) (ks : List (Int × Bool)) : Prop :=
  ∃ a cap, v = .slice a ks.length cap ∧ (ks ≠ [] → ∃ b off, a = some ⟨b, off, none⟩ ∧ b < w.heap.size ∧ ∀ i (x : Int × Bool), ks[i]? = some x → w.cell? ⟨b, off + i * 2, none⟩ = some (.int .i64 x.1) ∧ w.cell? ⟨b, off + i * 2 + 1, none⟩ = some (.bool x.2) ∧ x.1 < 9223372036854775808)
theorem drop_cons {α : Type} {l : List α} {i : Nat} {x : α} (h : l[i]? = some x) : l.drop i = x :: l.drop (i + 1) := by
  obtain ⟨h1, h2⟩ := List.getElem?_eq_some_iff.1 h
  rw [List.drop_eq_getElem_cons h1, h2]

end Go.Proofs.YtoccbfgcmaahcaaDoor
/-
  Whether rows fit columns: the contracts of package cell's fits and Fits, of slices.EqualFunc as Fits calls it, and of the document's Fits.
-/
namespace Go.Proofs.YtoccbfgcmaahcaaDoor
open Go.RowKit

structure Col where
  nm : ByteArray
  kind : Int
  nul : Bool
abbrev colv (q : Col) : Value := .agg #[.string q.nm, .int .i64 q.kind, .bool q.nul]
/-- May a cell stand in a column? -/
def fitC (c : Cl) (q : Col) : Bool := mayC c && (if c.k = 0 then q.nul else c.k == q.kind)
def fitsR : List Cl → List Col → Bool
  | [], [] => true
  | c :: r, q :: qs => fitC c q && fitsR r qs
  | [], _ :: _ => false
  | _ :: _, [] => false
theorem fitsR_len : ∀ (r : List Cl) (qs : List Col), r.length ≠ qs.length → fitsR r qs = false
  | [], [], h => absurd rfl h
  | c :: r, q :: qs, h => by
    have := fitsR_len r qs (fun e => h (by simp [e]))
    simp [fitsR, this]
  | [], _ :: _, _ => rfl
  | _ :: _, [], _ => rfl
theorem fitsR_step {r : List Cl} {qs : List Col} {i : Nat} {c : Cl} {q : Col} (hc : r[i]? = some c) (hq : qs[i]? = some q) : fitsR (r.drop i) (qs.drop i) = (fitC c q && fitsR (r.drop (i + 1)) (qs.drop (i + 1))) := by
  rw [drop_cons hc, drop_cons hq]; rfl
theorem may_zero {c : Cl} (h : mayC c = true) (hk : c.k = 0) : c.n = 0 ∧ c.s.toList.isEmpty = true := by
  unfold mayC at h
  rw [hk] at h
  rw [emp_size]
  simpa using h

/-- Columns in memory. -/
def ColsIs (w : World) (v : Value) (qs : List Col) : Prop :=
  ∃ a cap, v = .slice a qs.length cap ∧ (qs ≠ [] → ∃ b off, a = some ⟨b, off, none⟩ ∧ b < w.heap.size ∧ ∀ i (q : Col), qs[i]? = some q → w.cell? ⟨b, off + i * 3, none⟩ = some (.string q.nm) ∧ w.cell? ⟨b, off + i * 3 + 1, none⟩ = some (.int .i64 q.kind) ∧ w.cell? ⟨b, off + i * 3 + 2, none⟩ = some (.bool q.nul))
theorem ColsIs.below {w w' : World} {v : Value} {qs : List Col} (h : ColsIs w v qs) (k : Below w.heap.size w w') : ColsIs w' v qs := by
  obtain ⟨a, cap, rfl, h⟩ := h
  refine ⟨a, cap, rfl, fun hr => ?_⟩
  obtain ⟨b, off, rfl, hb, hc⟩ := h hr
  refine ⟨b, off, rfl, Nat.lt_of_lt_of_le hb k.size, fun i q hi => ?_⟩
  obtain ⟨x0, x1, x2⟩ := hc i q hi
  exact ⟨(k.cell (p := ⟨b, off + i * 3, none⟩) hb).trans x0, (k.cell (p := ⟨b, off + i * 3 + 1, none⟩) hb).trans x1, (k.cell (p := ⟨b, off + i * 3 + 2, none⟩) hb).trans x2⟩

end Go.Proofs.YtoccbfgcmaahcaaDoor
/-
  Cells, rows of cells, columns and orders that came in as arguments: what their cells are.
-/
namespace Go.Proofs.YtoccbfgcmaahcaaDoor
open Go.RowKit

theorem int_range (n : Int) (h : (Lit.int .i64 n).wf = true) : -9223372036854775808 ≤ n ∧ n ≤ 9223372036854775807 := by
  obtain ⟨x, rfl⟩ := Wd.word_of n h
  have h1 := BitVec.toInt_lt (x := x)
  have h2 := BitVec.le_toInt (x := x)
  omega
set_option maxRecDepth 100000 in
/-- A cell that came in. -/
theorem cell_of {H : Type} {enc : TypeId × Value → H} {W : World} {base b0 : Nat} {sp : Nat → Bool} {hd : Bool} {r : Reach} {v : Value} {d : DataW H} {p : List MemPlace}
    (hv : Value.okWide Tryd.prog W r b0 42 v) (h : DataW.Trod enc Tryd.prog W base sp hd 42 v d p) : ∃ c : Cl, v = cv c ∧ okC c := by
  obtain ⟨v0, v1, v2, y0, y1, y2, n, rfl, _, _, h0, h1, h2⟩ := Go.Joins.open_agg3 Tryd.underlying42 (by kernel_rfl) (by kernel_rfl) hv h
  obtain ⟨k, e0, _, w0⟩ := DataW.trod_int Tryd.underlying3 h0
  obtain ⟨m, e1, _, w1⟩ := DataW.trod_int Tryd.underlying3 h1
  obtain ⟨s, e2, _, w2⟩ := DataW.trod_string Tryd.underlying9 h2
  simp only [List.cons.injEq, and_true] at e0 e1 e2
  subst e0 e1 e2
  exact ⟨⟨k, m, s⟩, rfl, int_range m w1⟩
/-- A list of what there is at each place. -/
theorem list_of {α : Type} {Q : Nat → α → Prop} : ∀ n : Nat, (∀ i, i < n → ∃ c, Q i c) → ∃ r : List α, r.length = n ∧ ∀ i c, r[i]? = some c → Q i c
  | 0, _ => ⟨[], rfl, fun i c h => by simp at h⟩
  | n + 1, h => by
    obtain ⟨r, hl, hr⟩ := list_of n fun i hi => h i (by omega)
    obtain ⟨c, hc⟩ := h n (by omega)
    refine ⟨r ++ [c], by simp [hl], fun i x hx => ?_⟩
    by_cases hi : i < n
    · rw [List.getElem?_append_left (by omega)] at hx
      exact hr i x hx
    · have hlt := (List.getElem?_eq_some_iff.1 hx).1
      rw [List.length_append, List.length_singleton] at hlt
      obtain rfl : i = n := by omega
      rw [List.getElem?_append_right (by omega), hl, Nat.sub_self] at hx
      simp at hx
      subst hx
      exact hc
set_option maxRecDepth 100000 in
/-- Structs of three cells that came in as a slice: where they lie, and how each reads. -/
theorem three_of {H : Type} {enc : TypeId × Value → H} {W : World} {base : Nat} {hd : Bool} {fuel : Nat} {a : Option Addr} {len cap : Nat} {x : DataW H × List MemPlace} {T e t0 t1 t2 : TypeId} {f0 f1 f2 : Field}
    (hT : Tryd.prog.underlying T = some (.slice e)) (he : Tryd.prog.underlying e = some (.struct #[f0, f1, f2])) (hc : Tryd.prog.cellsOf e = 3) (g0 : f0.type = t0 ∧ f0.offset = 0) (g1 : f1.type = t1 ∧ f1.offset = 1) (g2 : f2.type = t2 ∧ f2.offset = 2)
    (d0 : Tryd.prog.cellsOf t0 = 1) (d1 : Tryd.prog.cellsOf t1 = 1) (d2 : Tryd.prog.cellsOf t2 = 1)
    (h : DataW.trod enc Tryd.prog W base (fun _ => true) hd fuel T [.slice a len cap] = some x) :
    len ≤ maxLen ∧ (0 < len → ∃ b off, a = some ⟨b, off, none⟩ ∧ b < W.heap.size ∧ ∀ i, i < len → ∃ v0 v1 v2 k y0 y1 y2, W.cell? ⟨b, off + i * 3, none⟩ = some v0 ∧ W.cell? ⟨b, off + i * 3 + 1, none⟩ = some v1 ∧ W.cell? ⟨b, off + i * 3 + 2, none⟩ = some v2 ∧
      DataW.trod enc Tryd.prog W base (fun _ => true) hd k t0 [v0] = some y0 ∧ DataW.trod enc Tryd.prog W base (fun _ => true) hd k t1 [v1] = some y1 ∧ DataW.trod enc Tryd.prog W base (fun _ => true) hd k t2 [v2] = some y2) := by
  rcases Go.Deep.open_slice hT h with ⟨h0, _⟩ | ⟨ad, ln, cp, m, n, D, Pl, hv, _, hl, hm, hmm, _, hx⟩
  · simp at h0
    obtain ⟨rfl, rfl, rfl⟩ := h0
    exact ⟨Nat.zero_le _, fun h => by omega⟩
  · simp at hv
    obtain ⟨rfl, rfl, rfl⟩ := hv
    refine ⟨Nat.le_trans hl hm, fun hpos => ?_⟩
    obtain ⟨b, off, spot⟩ := ad
    have hspot : spot = none := by
      obtain ⟨cs0, h10, _⟩ := hx 0 (by rw [hmm]; split <;> omega)
      rw [hc] at h10
      obtain ⟨_, hlen0, hcell0⟩ := World.cells?_some h10
      have q := hcell0 0 (by omega)
      rw [List.getElem?_eq_getElem (by omega)] at q
      have := World.cell?_spot q
      simpa [Addr.add] using this
    subst hspot
    have hadd : ∀ t : Nat, (⟨b, off, none⟩ : Addr).add t = ⟨b, off + t, none⟩ := fun t => by unfold Addr.add; split <;> simp_all
    have key : ∀ i, i < len → ∃ v0 v1 v2 k y0 y1 y2, W.cell? ⟨b, off + i * 3, none⟩ = some v0 ∧ W.cell? ⟨b, off + i * 3 + 1, none⟩ = some v1 ∧ W.cell? ⟨b, off + i * 3 + 2, none⟩ = some v2 ∧
      DataW.trod enc Tryd.prog W base (fun _ => true) hd k t0 [v0] = some y0 ∧ DataW.trod enc Tryd.prog W base (fun _ => true) hd k t1 [v1] = some y1 ∧ DataW.trod enc Tryd.prog W base (fun _ => true) hd k t2 [v2] = some y2 := by
      intro i hi
      have him : i < m := by rw [hmm]; split <;> omega
      obtain ⟨cs', h1, h2⟩ := hx i him
      rw [hc] at h1
      obtain ⟨_, hlen, hcell⟩ := World.cells?_some h1
      obtain ⟨xs, k, hk, hxy, _, hxl, hf⟩ := DataW.trod_struct he h2
      match cs', hlen with
      | [v0, v1, v2], _ =>
        have p0 := hf 0 f0 rfl
        have p1 := hf 1 f1 rfl
        have p2 := hf 2 f2 rfl
        rw [g0.1, g0.2, d0] at p0
        rw [g1.1, g1.2, d1] at p1
        rw [g2.1, g2.2, d2] at p2
        have hx3 : xs.length = 3 := hxl
        match xs, hx3 with
        | [y0, y1, y2], _ =>
          have q0 := hcell 0 (by omega)
          have q1 := hcell 1 (by omega)
          have q2 := hcell 2 (by omega)
          simp only [List.getElem?_cons_zero, List.getElem?_cons_succ, Go.Deep.add_add] at q0 q1 q2
          rw [hadd] at q0 q1 q2
          exact ⟨v0, v1, v2, k, y0, y1, y2, by simpa using q0, by simpa [Nat.add_assoc] using q1, by simpa [Nat.add_assoc] using q2, p0, p1, p2⟩
    obtain ⟨v0, _, _, _, _, _, _, hb0, _⟩ := key 0 hpos
    exact ⟨b, off, rfl, World.block_lt_of_cell? W _ hb0, key⟩
set_option maxRecDepth 100000 in
/-- Structs of two cells that came in as a slice: where they lie, and how each reads. -/
theorem two_of {H : Type} {enc : TypeId × Value → H} {W : World} {base : Nat} {hd : Bool} {fuel : Nat} {a : Option Addr} {len cap : Nat} {x : DataW H × List MemPlace} {T e t0 t1 : TypeId} {f0 f1 : Field}
    (hT : Tryd.prog.underlying T = some (.slice e)) (he : Tryd.prog.underlying e = some (.struct #[f0, f1])) (hc : Tryd.prog.cellsOf e = 2) (g0 : f0.type = t0 ∧ f0.offset = 0) (g1 : f1.type = t1 ∧ f1.offset = 1)
    (d0 : Tryd.prog.cellsOf t0 = 1) (d1 : Tryd.prog.cellsOf t1 = 1)
    (h : DataW.trod enc Tryd.prog W base (fun _ => true) hd fuel T [.slice a len cap] = some x) :
    len ≤ maxLen ∧ (0 < len → ∃ b off, a = some ⟨b, off, none⟩ ∧ b < W.heap.size ∧ ∀ i, i < len → ∃ v0 v1 k y0 y1, W.cell? ⟨b, off + i * 2, none⟩ = some v0 ∧ W.cell? ⟨b, off + i * 2 + 1, none⟩ = some v1 ∧
      DataW.trod enc Tryd.prog W base (fun _ => true) hd k t0 [v0] = some y0 ∧ DataW.trod enc Tryd.prog W base (fun _ => true) hd k t1 [v1] = some y1) := by
  rcases Go.Deep.open_slice hT h with ⟨h0, _⟩ | ⟨ad, ln, cp, m, n, D, Pl, hv, _, hl, hm, hmm, _, hx⟩
  · simp at h0
    obtain ⟨rfl, rfl, rfl⟩ := h0
    exact ⟨Nat.zero_le _, fun h => by omega⟩
  · simp at hv
    obtain ⟨rfl, rfl, rfl⟩ := hv
    refine ⟨Nat.le_trans hl hm, fun hpos => ?_⟩
    obtain ⟨b, off, spot⟩ := ad
    have hspot : spot = none := by
      obtain ⟨cs0, h10, _⟩ := hx 0 (by rw [hmm]; split <;> omega)
      rw [hc] at h10
      obtain ⟨_, hlen0, hcell0⟩ := World.cells?_some h10
      have q := hcell0 0 (by omega)
      rw [List.getElem?_eq_getElem (by omega)] at q
      have := World.cell?_spot q
      simpa [Addr.add] using this
    subst hspot
    have hadd : ∀ t : Nat, (⟨b, off, none⟩ : Addr).add t = ⟨b, off + t, none⟩ := fun t => by unfold Addr.add; split <;> simp_all
    have key : ∀ i, i < len → ∃ v0 v1 k y0 y1, W.cell? ⟨b, off + i * 2, none⟩ = some v0 ∧ W.cell? ⟨b, off + i * 2 + 1, none⟩ = some v1 ∧
      DataW.trod enc Tryd.prog W base (fun _ => true) hd k t0 [v0] = some y0 ∧ DataW.trod enc Tryd.prog W base (fun _ => true) hd k t1 [v1] = some y1 := by
      intro i hi
      have him : i < m := by rw [hmm]; split <;> omega
      obtain ⟨cs', h1, h2⟩ := hx i him
      rw [hc] at h1
      obtain ⟨_, hlen, hcell⟩ := World.cells?_some h1
      obtain ⟨xs, k, hk, hxy, _, hxl, hf⟩ := DataW.trod_struct he h2
      match cs', hlen with
      | [v0, v1], _ =>
        have p0 := hf 0 f0 rfl
        have p1 := hf 1 f1 rfl
        rw [g0.1, g0.2, d0] at p0
        rw [g1.1, g1.2, d1] at p1
        have hx3 : xs.length = 2 := hxl
        match xs, hx3 with
        | [y0, y1], _ =>
          have q0 := hcell 0 (by omega)
          have q1 := hcell 1 (by omega)
          simp only [List.getElem?_cons_zero, List.getElem?_cons_succ, Go.Deep.add_add] at q0 q1
          rw [hadd] at q0 q1
          exact ⟨v0, v1, k, y0, y1, by simpa using q0, by simpa [Nat.add_assoc] using q1, p0, p1⟩
    obtain ⟨v0, _, _, _, _, hb0, _⟩ := key 0 hpos
    exact ⟨b, off, rfl, World.block_lt_of_cell? W _ hb0, key⟩
end Go.Proofs.YtoccbfgcmaahcaaDoor
/-
  The walk of law 29's LexPlaces, over package lex as it is.
-/
namespace Go.Proofs.YtoccbfgcmaahcaaDoor
open Go.RowKit

theorem walkLexPlaces (s : ByteArray) (_hs : s.size ≤ maxLen) (w : World) (hE : Env w) :
    Calls Tryd.prog 5 #[.string s] w fun e w' => e = .returned (.bool true) ∧ Below w.heap.size w w' :=
  walkLexPlacesH lexTokens_any lexKeyword_any s w hE
end Go.Proofs.YtoccbfgcmaahcaaDoor
