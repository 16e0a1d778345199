/-
  Regions that draw their order, of the form 'x, y := f(..), g(..)' with variables of several cells: two calls, two new variables, two stores, in whatever order they come up. No program is spoken of.
-/
import Derived.Test.YtjkkkdehmgfmeaaDoorLast
import Derived.Test.YtjkkkdehmgfmeaaDoorBox
namespace Go.Proofs.YtjkkkdehmgfmeaaDoor
open Go.RowKit

section
variable {P : Program} {l : List Oper} {z : Oper} {Q : Exit → Act → World → Prop} {S : World → Prop}

/-- A relation that each operation keeps, whichever comes up. -/
theorem anyH_inv (R : Array Bool → Act → World → Prop)
    (step : ∀ listed a w, R listed a w → ∀ i ∈ Region.ready .any l.toArray listed, wpOp P l.toArray (Then P z Q) i (fun a' w' => S w' ∧ R (listed.setIfInBounds i true) a' w') a w)
    (fin : ∀ listed a w, R listed a w → Region.ready .any l.toArray listed = [] → Then P z Q .normal a w) :
    ∀ (fuel : Nat) (listed : Array Bool) (a : Act) (w : World), unl listed ≤ fuel → R listed a w → wpAnyH P .any l.toArray (Then P z Q) S fuel listed a w := by
  intro fuel
  induction fuel with
  | zero =>
    intro listed a w hu hR
    have hr : Region.ready .any l.toArray listed = [] := by
      rw [List.eq_nil_iff_forall_not_mem]
      intro i hi
      obtain ⟨h1, _⟩ := mem_ready.1 hi
      have := unl_set listed i h1
      omega
    exact ⟨hr, fin _ _ _ hR hr⟩
  | succ fuel ih =>
    intro listed a w hu hR
    refine ⟨fun hr => fin _ _ _ hR hr, fun i hi => ?_⟩
    have h1 := (mem_ready.1 hi).1
    have h2 := unl_set listed i h1
    exact wpOp_mono (fun a' w' h' => ⟨h'.1, ih _ _ _ (by omega) h'.2⟩) (step listed a w hR i hi)

theorem opCall {K : Act → World → Prop} {i : Nat} {oi : Oper} {f : FuncId} {vs : Array Value} {a : Act} {w : World} (hi : l[i]? = some oi) (hg : oi.guard = none)
    (hop : (execOp a.eval oi).run P w = .ok (.enter f vs) w) (hc : Calls P f vs w fun e w' => ∃ v, e = .returned v ∧ K (a.put oi.dst v) w') : wpOp P l.toArray Q i K a w := by
  have hi' : l.toArray[i]? = some oi := by simpa using hi
  have hw : Region.wanted oi (yielded l.toArray a.tmps) = true := by unfold Region.wanted; rw [hg]
  unfold wpOp
  simp only [hi', hw, if_true]
  refine .inl ?_
  unfold Oper.wp
  rw [hop]
  refine Calls.mono hc fun e w' he => ?_
  obtain ⟨v, rfl, h⟩ := he
  exact h
theorem opNew {K : Act → World → Prop} {i : Nat} {oi : Oper} {a : Act} {w w' : World} {v : Value} (hi : l[i]? = some oi) (hg : oi.guard = none)
    (hop : (execOp a.eval oi).run P w = .ok (.value v) w') (h : K (a.put oi.dst v) w') : wpOp P l.toArray Q i K a w := by
  have hi' : l.toArray[i]? = some oi := by simpa using hi
  have hw : Region.wanted oi (yielded l.toArray a.tmps) = true := by unfold Region.wanted; rw [hg]
  unfold wpOp
  simp only [hi', hw, if_true]
  refine .inl ?_
  unfold Oper.wp
  rw [hop]
  exact h
theorem opWp {K : Act → World → Prop} {i : Nat} {oi : Oper} {a : Act} {w : World} (hi : l[i]? = some oi) (hg : oi.guard = none) (h : oi.wp P a w K Q) : wpOp P l.toArray Q i K a w := by
  have hi' : l.toArray[i]? = some oi := by simpa using hi
  have hw : Region.wanted oi (yielded l.toArray a.tmps) = true := by unfold Region.wanted; rw [hg]
  unfold wpOp
  simp only [hi', hw, if_true]
  exact .inl h

/-- How far such a region has come. -/
def PairSt (w0 : World) (T : Value → Value → Value → Value → Act) (L : Bool → Bool → Bool → Bool → Bool → Array Bool) (c1 c2 z1 z2 : Array Value) (t1 t2 : TypeId) (listed : Array Bool) (a : Act) (w : World) : Prop :=
  ∃ (b1 b2 m1 m2 e : Bool) (v1 v2 p q : Value), listed = L b1 b2 m1 m2 e ∧ a = T v1 v2 p q ∧ Below w0.heap.size w0 w ∧ (b1 = true → v1 = .agg c1) ∧ (b2 = true → v2 = .agg c2) ∧
    (m1 = true → ∃ g, p = .pointer (some ⟨g, 0, none⟩) ∧ w0.heap.size ≤ g ∧ Box w g t1 (if e = true then c1 else z1)) ∧ (m2 = true → ∃ g, q = .pointer (some ⟨g, 0, none⟩) ∧ w0.heap.size ≤ g ∧ Box w g t2 z2) ∧ (m1 = true → m2 = true → p ≠ q) ∧ (e = true → m1 = true)

/-- Two calls (i1, i2), two new variables (j1, j2), a store (k) and the last store. -/
theorem pairL {w0 : World} (T : Value → Value → Value → Value → Act) (L : Bool → Bool → Bool → Bool → Bool → Array Bool) (c1 c2 z1 z2 : Array Value) (t1 t2 ty1 : TypeId)
    (i1 i2 j1 j2 k : Nat) {o1 o2 n1 n2 s1 : Oper} {f1 f2 : FuncId} {vs1 vs2 : Array Value}
    (hi1 : l[i1]? = some o1) (hi2 : l[i2]? = some o2) (hj1 : l[j1]? = some n1) (hj2 : l[j2]? = some n2) (hk : l[k]? = some s1)
    (g1 : o1.guard = none) (g2 : o2.guard = none) (g3 : n1.guard = none) (g4 : n2.guard = none) (g5 : s1.guard = none)
    (put1 : ∀ v1 v2 p q x, (T v1 v2 p q).put o1.dst x = T x v2 p q) (put2 : ∀ v1 v2 p q x, (T v1 v2 p q).put o2.dst x = T v1 x p q) (put3 : ∀ v1 v2 p q x, (T v1 v2 p q).put n1.dst x = T v1 v2 x q) (put4 : ∀ v1 v2 p q x, (T v1 v2 p q).put n2.dst x = T v1 v2 p x) (put5 : ∀ v1 v2 p q, (T v1 v2 p q).put s1.dst undef = T v1 v2 p q)
    (set1 : ∀ b1 b2 m1 m2 e, (L b1 b2 m1 m2 e).setIfInBounds i1 true = L true b2 m1 m2 e) (set2 : ∀ b1 b2 m1 m2 e, (L b1 b2 m1 m2 e).setIfInBounds i2 true = L b1 true m1 m2 e) (set3 : ∀ b1 b2 m1 m2 e, (L b1 b2 m1 m2 e).setIfInBounds j1 true = L b1 b2 true m2 e) (set4 : ∀ b1 b2 m1 m2 e, (L b1 b2 m1 m2 e).setIfInBounds j2 true = L b1 b2 m1 true e) (set5 : ∀ b1 b2 m1 m2 e, (L b1 b2 m1 m2 e).setIfInBounds k true = L b1 b2 m1 m2 true)
    (rdy : ∀ b1 b2 m1 m2 e, ((Region.ready .any l.toArray (L b1 b2 m1 m2 e)).all fun i => (i == i1 && !b1) || (i == i2 && !b2) || (i == j1 && !m1) || (i == j2 && !m2) || (i == k && (b1 && (m1 && !e)))) = true)
    (dne : ∀ b1 b2 m1 m2 e, ((Region.ready .any l.toArray (L b1 b2 m1 m2 e)).isEmpty = true → (b1 && (b2 && (m1 && (m2 && e)))) = true))
    (hop1 : ∀ v1 v2 p q w, (execOp (T v1 v2 p q).eval o1).run P w = .ok (.enter f1 vs1) w) (hop2 : ∀ v1 v2 p q w, (execOp (T v1 v2 p q).eval o2).run P w = .ok (.enter f2 vs2) w)
    (hop3 : ∀ v1 v2 p q w, (execOp (T v1 v2 p q).eval n1).run P w = .ok (.value (.pointer (some ⟨w.heap.size, 0, none⟩))) (w.alloc (.cells z1 t1))) (hop4 : ∀ v1 v2 p q w, (execOp (T v1 v2 p q).eval n2).run P w = .ok (.value (.pointer (some ⟨w.heap.size, 0, none⟩))) (w.alloc (.cells z2 t2)))
    (x1 y1 : Operand) (ho5 : s1.op = .store ty1 x1 y1) (hx5 : ∀ v1 v2 p q, (T v1 v2 p q).eval x1 = p) (hy5 : ∀ v1 v2 p q, (T v1 v2 p q).eval y1 = v1) (hi5 : (P.info? ty1).map (·.size) = some c1.size) (hz5 : z1.size = c1.size) (hone : c1.all (·.oneCell') = true)
    (hS : ∀ w, Below w0.heap.size w0 w → S w)
    (call1 : ∀ w, Below w0.heap.size w0 w → Calls P f1 vs1 w fun e w' => e = .returned (.agg c1) ∧ Below w.heap.size w w') (call2 : ∀ w, Below w0.heap.size w0 w → Calls P f2 vs2 w fun e w' => e = .returned (.agg c2) ∧ Below w.heap.size w w')
    (fin : ∀ g g' w, g ≠ g' → w0.heap.size ≤ g → w0.heap.size ≤ g' → Box w g t1 c1 → Box w g' t2 z2 → Below w0.heap.size w0 w → z.wp P (T (.agg c1) (.agg c2) (.pointer (some ⟨g, 0, none⟩)) (.pointer (some ⟨g', 0, none⟩))) w (fun a w => Q .normal a w) Q)
    {v1 v2 p q : Value} {w : World} {fuel : Nat} {listed : Array Bool} (hl : listed = L false false false false false) (hw : Below w0.heap.size w0 w) (hu : unl (L false false false false false) ≤ fuel) :
    wpAnyH P .any l.toArray (Then P z Q) S fuel listed (T v1 v2 p q) w := by
  subst hl
  refine anyH_inv (PairSt w0 T L c1 c2 z1 z2 t1 t2) ?_ ?_ fuel _ _ _ hu ⟨false, false, false, false, false, v1, v2, p, q, rfl, rfl, hw, fun h => (by cases h), fun h => (by cases h), fun h => (by cases h), fun h => (by cases h), fun h => (by cases h), fun h => (by cases h)⟩
  · clear hu hw
    rintro listed a w ⟨b1, b2, m1, m2, e, v1, v2, p, q, rfl, rfl, hb, hv1, hv2, hp, hq, hpq, hem⟩ i hi
    have hr := List.all_eq_true.1 (rdy b1 b2 m1 m2 e) i hi
    have bel : ∀ w', Below w.heap.size w w' → Below w0.heap.size w0 w' := fun w' h => hb.trans (h.mono hb.size)
    simp only [Bool.or_eq_true, Bool.and_eq_true, beq_iff_eq, Bool.not_eq_true'] at hr
    rcases hr with (((⟨rfl, h1⟩ | ⟨rfl, h1⟩) | ⟨rfl, h1⟩) | ⟨rfl, h1⟩) | ⟨rfl, h1, h2, h3⟩
    · refine opCall hi1 g1 (hop1 ..) ((call1 w hb).mono ?_)
      rintro er w' ⟨rfl, hb'⟩
      refine ⟨_, rfl, hS _ (bel _ hb'), ?_⟩
      rw [put1, set1]
      exact ⟨true, b2, m1, m2, e, _, _, _, _, rfl, rfl, bel _ hb', fun _ => rfl, hv2, fun h => by obtain ⟨g, h1, h2, h3⟩ := hp h; exact ⟨g, h1, h2, h3.over hb'⟩, fun h => by obtain ⟨g, h1, h2, h3⟩ := hq h; exact ⟨g, h1, h2, h3.over hb'⟩, hpq, hem⟩
    · refine opCall hi2 g2 (hop2 ..) ((call2 w hb).mono ?_)
      rintro er w' ⟨rfl, hb'⟩
      refine ⟨_, rfl, hS _ (bel _ hb'), ?_⟩
      rw [put2, set2]
      exact ⟨b1, true, m1, m2, e, _, _, _, _, rfl, rfl, bel _ hb', hv1, fun _ => rfl, fun h => by obtain ⟨g, h1, h2, h3⟩ := hp h; exact ⟨g, h1, h2, h3.over hb'⟩, fun h => by obtain ⟨g, h1, h2, h3⟩ := hq h; exact ⟨g, h1, h2, h3.over hb'⟩, hpq, hem⟩
    · have hb' := below1 w (.cells z1 t1)
      refine opNew hj1 g3 (hop3 ..) ?_
      refine ⟨hS _ (bel _ hb'), ?_⟩
      rw [put3, set3]
      have he : e = false := by
        cases e with
        | false => rfl
        | true => rw [hem rfl] at h1; cases h1
      subst he
      refine ⟨b1, b2, true, m2, false, _, _, _, _, rfl, rfl, bel _ hb', hv1, hv2, fun _ => ⟨_, rfl, hb.size, box_new _ _ _⟩, fun h => by obtain ⟨g, h1, h2, h3⟩ := hq h; exact ⟨g, h1, h2, h3.over hb'⟩, fun _ h => ?_, fun _ => rfl⟩
      obtain ⟨g, rfl, _, h3⟩ := hq h
      have := h3.lt
      intro e
      injection e with e
      injection e with e
      injection e with e
      omega
    · have hb' := below1 w (.cells z2 t2)
      refine opNew hj2 g4 (hop4 ..) ?_
      refine ⟨hS _ (bel _ hb'), ?_⟩
      rw [put4, set4]
      refine ⟨b1, b2, m1, true, e, _, _, _, _, rfl, rfl, bel _ hb', hv1, hv2, fun h => by obtain ⟨g, h1, h2, h3⟩ := hp h; exact ⟨g, h1, h2, h3.over hb'⟩, fun _ => ⟨_, rfl, hb.size, box_new _ _ _⟩, fun h _ => ?_, hem⟩
      obtain ⟨g, rfl, _, h3⟩ := hp h
      have := h3.lt
      intro e
      injection e with e
      injection e with e
      injection e with e
      omega
    · obtain ⟨g, rfl, hg, hbx⟩ := hp h2
      subst h3
      obtain rfl := hv1 h1
      refine opWp hk g5 (wp_store_row ty1 x1 y1 ho5 g c1 (hx5 ..) (hy5 ..) t1 z1 hbx hi5 hz5 hone ?_)
      have hb' : Below w0.heap.size w0 (w.setRow g c1) := below_setRow hb hg c1
      refine ⟨hS _ hb', ?_⟩
      rw [put5, set5]
      refine ⟨b1, b2, m1, m2, true, _, _, _, _, rfl, rfl, hb', fun _ => rfl, hv2, fun _ => ⟨g, rfl, hg, hbx.setRow c1⟩, fun h => ?_, hpq, fun _ => h2⟩
      obtain ⟨g', rfl, h4, h5⟩ := hq h
      exact ⟨g', rfl, h4, h5.rowOther (fun e => hpq h2 h (by rw [e])) c1⟩
  · rintro listed a w ⟨b1, b2, m1, m2, e, v1, v2, p, q, rfl, rfl, hb, hv1, hv2, hp, hq, hpq, hem⟩ hr
    have hd := dne b1 b2 m1 m2 e (by rw [hr]; rfl)
    simp only [Bool.and_eq_true] at hd
    obtain ⟨h1, h2, h3, h4, h5⟩ := hd
    obtain ⟨g, rfl, hg, hbx⟩ := hp h3
    obtain ⟨g', rfl, hg', hbx'⟩ := hq h4
    obtain rfl := hv1 h1
    obtain rfl := hv2 h2
    rw [if_pos h5] at hbx
    exact fin g g' w (fun e => hpq h3 h4 (by rw [e])) hg hg' hbx hbx' hb
end
end Go.Proofs.YtjkkkdehmgfmeaaDoor
