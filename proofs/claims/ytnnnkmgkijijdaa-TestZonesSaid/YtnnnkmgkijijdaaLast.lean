/-
  Regions that draw their order, whose last operation waits for all others: where these are quiet in a class of worlds, the walk in the order of the text serves, and the last operation is done in whatever world of the class. No program is spoken of.
-/
import Derived.WalkKit
import Derived.Deep.Quiet
import Derived.Deep.QuietTactic
import Derived.BigQuiet
import Derived.Below
import Derived.Deep.RegionHeld3
import Derived.Test.YtnnnkmgkijijdaaCalm
namespace Go.Proofs.Ytnnnkmgkijijdaa
open Go.RowKit

/-- What the text of the region must be. -/
def lastB (L : List Oper) : Bool :=
  Region.lexB .any L.dropLast.toArray &&
  (match L.getLast? with
    | some z => z.guard.isNone && ((List.range L.dropLast.length).all fun i => z.after.any fun e => Region.binds .any e && (e.on == i || (match L.dropLast[e.on]? with | some o => o.after.any fun e' => Region.binds .any e' && e'.on == i | none => false))) && (z.after.all fun e => !Region.binds .any e || decide (e.on < L.dropLast.length))
    | none => false) &&
  ((List.range L.dropLast.length).all fun j => match L.dropLast[j]? with
    | some o => (o.after.all fun e => !Region.binds .any e || decide (e.on < j)) && (match o.guard with | some (k, _) => decide (k < L.dropLast.length) | none => true)
    | none => true)

section
variable {P : Program} {l : List Oper} {z : Oper} {Q : Exit → Act → World → Prop}

theorem push_get (l : List Oper) (z : Oper) (j : Nat) (hj : j < l.length) : (l ++ [z]).toArray[j]? = l.toArray[j]? := by
  simp [List.getElem?_append_left hj]
theorem yielded_push (l : List Oper) (z : Oper) (t : Array Value) (j : Nat) (hj : j < l.length) : yielded (l ++ [z]).toArray t j = yielded l.toArray t j := by
  unfold yielded
  rw [push_get l z j hj]
theorem wanted_push (o : Oper) (hg : ∀ k b, o.guard = some (k, b) → k < l.length) (t : Array Value) : Region.wanted o (yielded (l ++ [z]).toArray t) = Region.wanted o (yielded l.toArray t) := by
  unfold Region.wanted
  split
  · rfl
  · rename_i k b hk
    rw [yielded_push l z t k (hg k b hk)]
theorem listed_push (a : Array Bool) (j : Nat) (d : Bool) (hj : j < a.size) : (a.push false).getD j d = a.getD j d := by
  simp [Array.getElem?_push, Nat.ne_of_lt hj]
theorem listed_pushF (a : Array Bool) (j : Nat) : (a.push false).getD j false = a.getD j false := by
  by_cases h : j < a.size
  · exact listed_push a j false h
  · by_cases e : j = a.size
    · subst e; simp
    · simp [Array.getElem?_push, e]
/-- How many have not come up. -/
def unl (a : Array Bool) : Nat := a.toList.count false
theorem unl_set (a : Array Bool) (i : Nat) (h : a.getD i true = false) : unl (a.setIfInBounds i true) + 1 = unl a := by
  have hi : i < a.size := by
    rcases Nat.lt_or_ge i a.size with h' | h'
    · exact h'
    · simp [Array.getElem?_eq_none h'] at h
  have h0 : a.toList[i]'(by simpa using hi) = false := by simpa [hi] using h
  unfold unl
  rw [Array.toList_setIfInBounds, List.count_set (by simpa using hi), h0]
  have h1 : false ∈ a.toList := by
    have hm := List.getElem_mem (l := a.toList) (n := i) (by simpa using hi)
    rwa [h0] at hm
  have h2 : 0 < a.toList.count false := List.count_pos_iff.2 h1
  have e1 : (false == false) = true := rfl
  have e2 : (true == false) = false := rfl
  simp only [e1, e2, if_true, Bool.false_eq_true, if_false]
  omega
theorem unl_pos (a : Array Bool) (h : 0 < unl a) : ∃ i, i < a.size ∧ a.getD i true = false ∧ ∀ j, j < i → a.getD j true = true := by
  have hm : false ∈ a.toList := List.count_pos_iff.1 h
  obtain ⟨i, hi, he⟩ := List.getElem_of_mem hm
  have hex : ∃ i, i < a.size ∧ a.getD i true = false := ⟨i, by simpa using hi, by simp at hi; simp [hi]; simpa using he⟩
  obtain ⟨n, hn⟩ : ∃ n, n = a.size := ⟨_, rfl⟩
  have key : ∀ n, (∃ i, i < n ∧ i < a.size ∧ a.getD i true = false) → ∃ i, i < a.size ∧ a.getD i true = false ∧ ∀ j, j < i → a.getD j true = true := by
    intro n
    induction n with
    | zero => rintro ⟨i, hi, _⟩; omega
    | succ n ih =>
      rintro ⟨i, hi, h1, h2⟩
      by_cases hx : ∃ i, i < n ∧ i < a.size ∧ a.getD i true = false
      · exact ih hx
      · refine ⟨i, h1, h2, fun j hj => ?_⟩
        cases hb : a.getD j true with
        | true => rfl
        | false => exact absurd ⟨j, by omega, by omega, hb⟩ hx
  obtain ⟨i, h1, h2⟩ := hex
  exact key (i + 1) ⟨i, by omega, h1, h2⟩
theorem unl_zero (a : Array Bool) (h : unl a = 0) (j : Nat) (hj : j < a.size) : a.getD j false = true := by
  cases hb : a.getD j false with
  | true => rfl
  | false =>
    have : false ∈ a.toList := by
      have h0 : a[j] = false := by simpa [hj] using hb
      rw [← h0]
      exact Array.getElem_mem_toList hj
    have := List.count_pos_iff.2 this
    unfold unl at h
    omega

theorem ready_lt {listed : Array Bool} (hs : listed.size = l.length) {j : Nat} (hj : j < l.length) : j ∈ Region.ready .any (l ++ [z]).toArray (listed.push false) ↔ j ∈ Region.ready .any l.toArray listed := by
  rw [mem_ready, mem_ready, push_get l z j hj, listed_push listed j true (by omega)]
  constructor
  · rintro ⟨h1, o, ho, h2⟩
    exact ⟨h1, o, ho, fun e he hb => by rw [← listed_pushF]; exact h2 e he hb⟩
  · rintro ⟨h1, o, ho, h2⟩
    exact ⟨h1, o, ho, fun e he hb => by rw [listed_pushF]; exact h2 e he hb⟩
theorem ready_top {ops : Array Oper} {listed : Array Bool} {j : Nat} (h : j ∈ Region.ready .any ops listed) : j < ops.size := by
  obtain ⟨_, o, ho, _⟩ := mem_ready.1 h
  exact (Array.getElem?_eq_some_iff.1 ho).1
/-- What is asked behind the others: the last operation. -/
def Then (P : Program) (z : Oper) (Q : Exit → Act → World → Prop) : Exit → Act → World → Prop
  | .normal, a, w => z.wp P a w (fun a w => Q .normal a w) Q
  | e, a, w => Q e a w
theorem then_panic {d : Option Tmp} {v : Value} (hQ : ∀ c a w, Q (.panic c) (a.put d v) w → Q (.panic c) a w) : ∀ c a w, Then P z Q (.panic c) (a.put d v) w → Then P z Q (.panic c) a w := hQ
theorem wp_then {o : Oper} {a : Act} {w : World} {K K' : Act → World → Prop} (h : ∀ a w, K a w → K' a w) (hh : o.wp P a w K (Then P z Q)) : o.wp P a w K' Q := by
  unfold Oper.wp at *
  generalize (execOp a.eval o).run P w = r at *
  cases r with
  | ok n w' =>
    cases n <;> simp only [Oper.upon] at hh ⊢
    case value => exact h _ _ hh
    case skip => exact h _ _ hh
    case defer => exact h _ _ hh
    case enter =>
      refine Calls.mono hh (fun e w'' he => ?_)
      cases e with
      | returned v => exact h _ _ he
      | panicked c => exact he
      | outgrown => exact he
    case row => exact Rows.mono hh (fun _ _ he => h _ _ he)
  | halt x w' => cases x <;> simp only [Oper.upon] at hh ⊢ <;> exact hh
theorem any_of_pre (hdep : ∀ j o, l[j]? = some o → (∀ e ∈ o.after, Region.binds .any e = true → e.on < j) ∧ ∀ k b, o.guard = some (k, b) → k < l.length)
    (hz : z.guard = none) (hw : ∀ i, i < l.length → ∃ e ∈ z.after, Region.binds .any e = true ∧ (e.on = i ∨ ∃ o, l[e.on]? = some o ∧ ∃ e' ∈ o.after, Region.binds .any e' = true ∧ e'.on = i)) (hze : ∀ e ∈ z.after, Region.binds .any e = true → e.on < l.length) :
    ∀ (fuel : Nat) (listed : Array Bool) (a : Act) (w : World), listed.size = l.length → unl listed = fuel → (∀ j o, l[j]? = some o → listed.getD j false = true → ∀ e ∈ o.after, Region.binds .any e = true → listed.getD e.on false = true) →
      wpAny P .any l.toArray (Then P z Q) fuel listed a w → wpAny P .any (l ++ [z]).toArray Q (fuel + 1) (listed.push false) a w := by
  intro fuel
  induction fuel with
  | zero =>
    intro listed a w hs hu _ h
    have hall := unl_zero listed hu
    have hone : ∀ j, j < l.length → ¬ (listed.getD j true = false) := fun j hj e => by
      have h1 := hall j (by omega)
      have hj' : j < listed.size := by omega
      simp [hj'] at e h1
      rw [e] at h1
      cases h1
    have hrz : l.length ∈ Region.ready .any (l ++ [z]).toArray (listed.push false) := by
      rw [mem_ready]
      refine ⟨by simp [← hs], z, by simp, fun e he hb => ?_⟩
      rw [listed_pushF]
      exact hall _ (by have := hze e he hb; omega)
    refine ⟨fun h0 => (by rw [h0] at hrz; cases hrz), fun i hi => ?_⟩
    have hlt := ready_top hi
    have hil : i = l.length := by
      simp at hlt
      rcases Nat.lt_or_ge i l.length with h' | h'
      · have := (mem_ready.1 hi).1
        rw [listed_push listed i true (by omega)] at this
        exact absurd this (hone i h')
      · omega
    subst hil
    have hsz : (l ++ [z]).toArray[l.length]? = some z := by simp
    unfold wpOp
    simp only [hsz, Region.wanted, hz, if_true]
    have hlast : z.wp P a w (fun a w => Q .normal a w) Q := h.2
    refine .inl (Oper.wp_mono (fun a' w' hq => ⟨?_, hq⟩) hlast)
    cases hr : Region.ready .any (l ++ [z]).toArray ((listed.push false).setIfInBounds l.length true) with
    | nil => rfl
    | cons x xs =>
      have hx : x ∈ Region.ready .any (l ++ [z]).toArray ((listed.push false).setIfInBounds l.length true) := by rw [hr]; simp
      have hxt := ready_top hx
      have hx1 := (mem_ready.1 hx).1
      simp at hxt
      by_cases e : x = l.length
      · subst e
        simp [← hs] at hx1
      · rw [getD_set_ne true (fun h' => e h'.symm), listed_push listed x true (by omega)] at hx1
        exact absurd hx1 (hone x (by omega))
  | succ fuel ih =>
    intro listed a w hs hu hcl h
    obtain ⟨i0, hi0, hf0, hmin⟩ := unl_pos listed (by omega)
    have hr0 : i0 ∈ Region.ready .any l.toArray listed := by
      have hsome : l[i0]? = some l[i0] := List.getElem?_eq_getElem (by omega)
      rw [mem_ready]
      refine ⟨hf0, l[i0], by simp, fun e he hb => ?_⟩
      have hlt := (hdep i0 _ hsome).1 e he hb
      have h1 := hmin _ hlt
      have h2 : e.on < listed.size := by omega
      simp [h2] at h1 ⊢
      exact h1
    have hr1 := (ready_lt (z := z) hs (by omega)).2 hr0
    refine ⟨fun h0 => (by rw [h0] at hr1; cases hr1), fun i hi => ?_⟩
    have hlt := ready_top hi
    have hil : i < l.length := by
      simp at hlt
      rcases Nat.lt_or_ge i l.length with h' | h'
      · exact h'
      · have e : i = l.length := by omega
        subst e
        obtain ⟨_, o, ho, hall⟩ := mem_ready.1 hi
        have hsz : (l ++ [z]).toArray[l.length]? = some z := by simp
        rw [hsz] at ho
        cases ho
        obtain ⟨e, he, hb, heq⟩ := hw i0 (by omega)
        have this := hall e he hb
        rw [listed_pushF] at this
        have this : listed.getD i0 false = true := by
          rcases heq with heq | ⟨o, ho, e', he', hb', heq⟩
          · rw [heq] at this; exact this
          · have h1 := hcl e.on o ho this e' he' hb'
            rw [heq] at h1
            exact h1
        simp [hi0] at this hf0
        rw [hf0] at this
        cases this
    have hi' := (ready_lt (z := z) hs hil).1 hi
    have hq := h.2 i hi'
    obtain ⟨hun, o, ho, hrd⟩ := mem_ready.1 hi'
    have ho' : l[i]? = some o := by simpa using ho
    have hset : (listed.push false).setIfInBounds i true = (listed.setIfInBounds i true).push false := by
      apply Array.ext'
      simp [List.set_append_left, hs, hil]
    have hus := unl_set listed i hun
    have hkeep : ∀ j, listed.getD j false = true → (listed.setIfInBounds i true).getD j false = true := fun j hj => by
      by_cases e : i = j
      · subst e
        have : i < listed.size := by omega
        simp [this]
      · rw [getD_set_ne false e]
        exact hj
    have hcl2 : ∀ j o, l[j]? = some o → (listed.setIfInBounds i true).getD j false = true → ∀ e ∈ o.after, Region.binds .any e = true → (listed.setIfInBounds i true).getD e.on false = true := by
      intro j o2 ho2 hj e he hb
      by_cases ej : i = j
      · subst ej
        rw [ho'] at ho2
        cases ho2
        exact hkeep _ (hrd e he hb)
      · rw [getD_set_ne false ej] at hj
        exact hkeep _ (hcl j o2 ho2 hj e he hb)
    unfold wpOp at hq
    rw [ho] at hq
    unfold wpOp
    rw [push_get l z i hil, ho]
    simp only at hq ⊢
    rw [wanted_push o (hdep i o ho').2]
    have hnext : ∀ a' w', wpAny P .any l.toArray (Then P z Q) fuel (listed.setIfInBounds i true) a' w' → wpAny P .any (l ++ [z]).toArray Q (fuel + 1) ((listed.push false).setIfInBounds i true) a' w' := by
      intro a' w' h'
      rw [hset]
      exact ih _ _ _ (by simpa using hs) (by omega) hcl2 h'
    split
    · rename_i hwt
      simp only [hwt, if_true] at hq
      rcases hq with hq | ⟨hq, a', w', hl⟩
      · exact .inl (wp_then hnext hq)
      · exact .inr ⟨hq, a', w', hl⟩
    · rename_i hwt
      simp only [hwt] at hq
      exact hnext _ _ hq

/-- **The last operation waits for all others.** -/
theorem wp_region_then {id : Nat} {a : Act} {w : World} {L : List Oper} (z : Oper) (hm : P.follows .mixedOrders = true) (hL : L.getLast? = some z) (hB : lastB L = true)
    (h : wpAny P .any L.dropLast.toArray (Then P z Q) L.dropLast.length (Array.replicate L.dropLast.length false) a w.drew) : (Code.region id L.toArray true).wp P Q a w := by
  have hne : L = L.dropLast ++ [z] := by
    have hn : L ≠ [] := by intro e; subst e; simp at hL
    have h1 := List.dropLast_concat_getLast hn
    rw [List.getLast?_eq_some_getLast hn] at hL
    rw [Option.some.inj hL] at h1
    exact h1.symm
  obtain ⟨l, hl⟩ : ∃ l, l = L.dropLast := ⟨_, rfl⟩
  unfold lastB at hB
  rw [hL] at hB
  rw [← hl] at hne h hB
  subst hne
  simp only [Bool.and_eq_true, List.all_eq_true, List.mem_range, Region.lexB, Option.isNone_iff_eq_none] at hB
  obtain ⟨⟨⟨hns, hlex⟩, ⟨hzg, hz1⟩, hz2⟩, hdep⟩ := hB
  refine wp_region_any hm ?_
  have hrep : Array.replicate (l ++ [z]).toArray.size false = (Array.replicate l.length false).push false := by
    apply Array.ext'
    simp [List.replicate_succ']
  have hsz : (l ++ [z]).toArray.size = l.length + 1 := by simp
  rw [hrep, hsz]
  refine any_of_pre ?_ hzg ?_ ?_ l.length _ a _ (by simp) ?_ ?_ h
  · intro j o ho
    have hj := (List.getElem?_eq_some_iff.1 ho).1
    have h1 := hdep j hj
    rw [ho] at h1
    simp only [Bool.and_eq_true, Array.all_eq_true_iff_forall_mem, Bool.or_eq_true, Bool.not_eq_true', decide_eq_true_eq] at h1
    refine ⟨fun e he hb => ?_, fun k b hg => ?_⟩
    · rcases h1.1 e he with h2 | h2
      · rw [hb] at h2; cases h2
      · exact h2
    · have h2 := h1.2
      rw [hg] at h2
      simpa using h2
  · intro i hi
    have h1 := hz1 i hi
    rw [Array.any_eq_true] at h1
    obtain ⟨j, hj, h2⟩ := h1
    simp only [Bool.and_eq_true, Bool.or_eq_true, beq_iff_eq] at h2
    refine ⟨z.after[j], Array.getElem_mem hj, h2.1, ?_⟩
    rcases h2.2 with h3 | h3
    · exact .inl h3
    · cases ho : l[z.after[j].on]? with
      | none => rw [ho] at h3; cases h3
      | some o =>
        rw [ho] at h3
        simp only [Array.any_eq_true, Bool.and_eq_true, beq_iff_eq] at h3
        obtain ⟨j', hj', h4⟩ := h3
        exact .inr ⟨o, rfl, o.after[j'], Array.getElem_mem hj', h4.1, h4.2⟩
  · intro e he hb
    rw [Array.all_eq_true_iff_forall_mem] at hz2
    have h1 := hz2 e he
    simp only [Bool.or_eq_true, Bool.not_eq_true', decide_eq_true_eq] at h1
    rcases h1 with h1 | h1
    · rw [hb] at h1; cases h1
    · exact h1
  · unfold unl
    simp
  · intro j o _ hj
    simp [Array.getElem?_replicate] at hj
    split at hj <;> simp at hj
/-- The others held under the condition S. -/
theorem wp_region_held_then {id : Nat} {a : Act} {w : World} {L : List Oper} (S : World → Prop) (z : Oper) (hm : P.follows .mixedOrders = true) (hL : L.getLast? = some z) (hB : lastB L = true)
    (h : wpAnyH P .any L.dropLast.toArray (Then P z Q) S L.dropLast.length (Array.replicate L.dropLast.length false) a w.drew) : (Code.region id L.toArray true).wp P Q a w :=
  wp_region_then z hm hL hB (wpAny_of_held _ _ _ _ h)
/-- One of the others, by its number, taken first. -/
theorem takeL {S : World → Prop} (i : Nat) {oi : Oper} {v : Value} {fuel : Nat} {listed : Array Bool} {a : Act} {w : World} (hi : l[i]? = some oi)
    (hs : Region.noSelect l.toArray = true) (hf : Region.free .any l.toArray listed i = true) (hr : (Region.ready .any l.toArray listed).contains i = true) (hQ : ∀ c a w, Q (.panic c) (a.put oi.dst v) w → Q (.panic c) a w)
    (hw : Region.wanted oi (yielded l.toArray a.tmps) = true) (hS : S w) (hy : ∀ w, S w → (execOp a.eval oi).run P w = .ok (.value v) w)
    (h : wpAnyH P .any l.toArray (Then P z Q) S fuel (listed.setIfInBounds i true) (a.put oi.dst v) w) : wpAnyH P .any l.toArray (Then P z Q) S (fuel + 1) listed a w :=
  wpAnyH_take (by simpa using hi) hs hf hr (then_panic hQ) (.inl ⟨hw, hy⟩) hS h
/-- A call of a Go function that alone may come up. -/
theorem callL {S : World → Prop} (i : Nat) {oi : Oper} {f : FuncId} {vs : Array Value} {fuel : Nat} {listed : Array Bool} {a : Act} {w : World} (hi : l[i]? = some oi) (hr : Region.ready .any l.toArray listed = [i])
    (hw : Region.wanted oi (yielded l.toArray a.tmps) = true) (hop : (execOp a.eval oi).run P w = .ok (.enter f vs) w)
    (hc : Calls P f vs w fun e w' => ∃ v, e = .returned v ∧ S w' ∧ wpAnyH P .any l.toArray (Then P z Q) S fuel (listed.setIfInBounds i true) (a.put oi.dst v) w') : wpAnyH P .any l.toArray (Then P z Q) S (fuel + 1) listed a w := by
  refine wpAnyH_all hr (by simp) ?_
  intro j hj
  simp only [List.mem_singleton] at hj
  subst hj
  have hi' : l.toArray[j]? = some oi := by simpa using hi
  unfold wpOp
  simp only [hi', hw, if_true]
  refine .inl ?_
  unfold Oper.wp
  rw [hop]
  refine Calls.mono hc fun e w' he => ?_
  obtain ⟨v, rfl, h⟩ := he
  exact h
/-- A store that alone may come up. -/
theorem stepL {S : World → Prop} (i : Nat) {oi : Oper} {fuel : Nat} {listed : Array Bool} {a : Act} {w : World} (w' : World) (hi : l[i]? = some oi) (hr : Region.ready .any l.toArray listed = [i])
    (hw : Region.wanted oi (yielded l.toArray a.tmps) = true) (hop : (execOp a.eval oi).run P w = .ok .skip w') (hS : S w')
    (h : wpAnyH P .any l.toArray (Then P z Q) S fuel (listed.setIfInBounds i true) (a.put oi.dst undef) w') : wpAnyH P .any l.toArray (Then P z Q) S (fuel + 1) listed a w := by
  refine wpAnyH_all hr (by simp) ?_
  intro j hj
  simp only [List.mem_singleton] at hj
  subst hj
  have hi' : l.toArray[j]? = some oi := by simpa using hi
  unfold wpOp
  simp only [hi', hw, if_true]
  refine .inl ?_
  unfold Oper.wp
  rw [hop]
  exact ⟨hS, h⟩
/-- A variable that is made, where that alone may come up. -/
theorem newL {S : World → Prop} (i : Nat) {oi : Oper} {fuel : Nat} {listed : Array Bool} {a : Act} {w : World} (w' : World) (v : Value) (hi : l[i]? = some oi) (hr : Region.ready .any l.toArray listed = [i])
    (hw : Region.wanted oi (yielded l.toArray a.tmps) = true) (hop : (execOp a.eval oi).run P w = .ok (.value v) w') (hS : S w')
    (h : wpAnyH P .any l.toArray (Then P z Q) S fuel (listed.setIfInBounds i true) (a.put oi.dst v) w') : wpAnyH P .any l.toArray (Then P z Q) S (fuel + 1) listed a w := by
  refine wpAnyH_all hr (by simp) ?_
  intro j hj
  simp only [List.mem_singleton] at hj
  subst hj
  have hi' : l.toArray[j]? = some oi := by simpa using hi
  unfold wpOp
  simp only [hi', hw, if_true]
  refine .inl ?_
  unfold Oper.wp
  rw [hop]
  exact ⟨hS, h⟩
/-- A call of a Go function or a variable that is made, whichever comes up first. -/
theorem callNewL {S : World → Prop} (i j : Nat) {oi oj : Oper} {f : FuncId} {vs : Array Value} {fuel : Nat} {listed : Array Bool} {a : Act} {w : World} (w' : World) (v : Value) (hi : l[i]? = some oi) (hj : l[j]? = some oj) (hr : Region.ready .any l.toArray listed = [i, j])
    (hwi : Region.wanted oi (yielded l.toArray a.tmps) = true) (hwj : Region.wanted oj (yielded l.toArray a.tmps) = true) (hop : (execOp a.eval oi).run P w = .ok (.enter f vs) w) (hop' : (execOp a.eval oj).run P w = .ok (.value v) w') (hS : S w')
    (hc : Calls P f vs w fun e w' => ∃ v, e = .returned v ∧ S w' ∧ wpAnyH P .any l.toArray (Then P z Q) S fuel (listed.setIfInBounds i true) (a.put oi.dst v) w')
    (h : wpAnyH P .any l.toArray (Then P z Q) S fuel (listed.setIfInBounds j true) (a.put oj.dst v) w') : wpAnyH P .any l.toArray (Then P z Q) S (fuel + 1) listed a w := by
  refine wpAnyH_all hr (by simp) ?_
  intro k hk
  simp only [List.mem_cons, List.not_mem_nil, or_false] at hk
  have hi' : l.toArray[i]? = some oi := by simpa using hi
  have hj' : l.toArray[j]? = some oj := by simpa using hj
  rcases hk with rfl | rfl
  · unfold wpOp
    simp only [hi', hwi, if_true]
    refine .inl ?_
    unfold Oper.wp
    rw [hop]
    refine Calls.mono hc fun e w' he => ?_
    obtain ⟨v, rfl, h⟩ := he
    exact h
  · unfold wpOp
    simp only [hj', hwj, if_true]
    refine .inl ?_
    unfold Oper.wp
    rw [hop']
    exact ⟨hS, h⟩
/-- All others have come up. -/
theorem doneL {S : World → Prop} {fuel : Nat} {listed : Array Bool} {a : Act} {w : World} (hr : Region.ready .any l.toArray listed = []) (h : z.wp P a w (fun a w => Q .normal a w) Q) : wpAnyH P .any l.toArray (Then P z Q) S fuel listed a w :=
  wpAnyH_done hr h fuel
/-- The others quiet in a class of worlds. -/
theorem wp_region_last {C : World → Prop} {id : Nat} {a : Act} {w : World} {L : List Oper} (z : Oper) (hm : P.follows .mixedOrders = true) (hL : L.getLast? = some z) (hB : lastB L = true) (hC : C w.drew)
    (h : wpQuiet P L.dropLast.toArray C (fun a' => ∀ w', C w' → z.wp P a' w' (fun a w => Q .normal a w) Q) L.dropLast a) : (Code.region id L.toArray true).wp P Q a w := by
  refine wp_region_then z hm hL hB (wpAny_of_quiet (C := C) (Q := fun a' => ∀ w', C w' → z.wp P a' w' (fun a w => Q .normal a w) Q) (fun a w' hw' hq => hq w' hw') _ _ _ _ hC ?_)
  unfold lastB at hB
  simp only [Bool.and_eq_true, Region.lexB] at hB
  exact wpAnyQ_lex (P := P) (C := C) (md := .any) hB.1.1.1 L.dropLast 0 (Array.replicate L.dropLast.length false) a (by simp) (by simpa using hB.1.1.2) h
/-- The same, in the class of all worlds above the first one. -/
theorem wp_region_above_last {id : Nat} {a : Act} {w : World} {L : List Oper} (z : Oper) (hm : P.follows .mixedOrders = true) (hL : L.getLast? = some z) (hB : lastB L = true)
    (h : Nonempty (Above w) → wpQuiet P L.dropLast.toArray (fun w' => ∃ k : Above w, w' = k.it) (fun a' => ∀ w', (∃ k : Above w, w' = k.it) → z.wp P a' w' (fun a w => Q .normal a w) Q) L.dropLast a) : (Code.region id L.toArray true).wp P Q a w :=
  wp_region_last (C := fun w' => ∃ k : Above w, w' = k.it) z hm hL hB ⟨⟨w.drew, (Below.refl _ _).drew⟩, rfl⟩ (h (above_some w))
end
end Go.Proofs.Ytnnnkmgkijijdaa
