/-
  Slices of rows (elements of any number of cells): append of one to another, a store into one, what they read as. No program is spoken of.
-/
import Derived.Test.YtnnnkmgkijijdaaDMem
import Derived.Laws.OwnMore
import Derived.Deep.WholeRow
namespace Go.Proofs.Ytnnnkmgkijijdaa
open Go.RowKit

theorem srows_own_base {w : World} {v : Value} {t : TypeId} {sz : Nat} {R : List (List Value)} (h : SRows w v t sz R) (hsz : 0 < sz) {B : Nat} (hB : ∀ k, v.ownBlock = some k → B ≤ k) : w.ownsRow B t sz v R.length R.flatten := by
  obtain ⟨h1, h2⟩ := h.own hsz
  refine ⟨h1, ?_⟩
  rcases h2 with h2 | ⟨g, cap, cur, rfl, _, h3⟩
  · exact .inl h2
  · exact .inr ⟨g, cap, cur, rfl, hB g rfl, h3⟩
theorem own_shape {w : World} {B : Nat} {e : TypeId} {size : Nat} {v : Value} {n : Nat} {xs : List Value} (h : w.ownsRow B e size v n xs) : (∃ va vc, v = .slice va n vc) ∧ ∀ k, v.ownBlock = some k → B ≤ k := by
  refine ⟨?_, fun k hk => (h.lt k hk).1⟩
  rcases h.2 with ⟨rfl, rfl⟩ | ⟨g, cap, cur, rfl, _⟩
  · exact ⟨_, _, rfl⟩
  · exact ⟨_, _, rfl⟩
theorem srows_new (w : World) (r : List Value) (t : TypeId) {sz : Nat} (hr : r.length = sz) : SRows (w.alloc (.cells r.toArray t)) (.slice (some ⟨w.heap.size, 0, none⟩) 1 1) t sz [r] := by
  refine .inr ⟨w.heap.size, 1, rfl, Nat.le_refl _, by unfold maxLen; omega, r.toArray, heap_alloc_last w _, by simp [hr], by simp, by simp [hr], ?_⟩
  intro i x hx j v hv
  cases i with
  | zero => simp at hx; subst hx; simpa using hv
  | succ i => simp at hx

theorem noOwn (B : Nat) : ∀ k, (Value.slice none 0 0).ownBlock = some k → B ≤ k := by intro k hk; simp [Value.ownBlock] at hk

section
variable {P : Program} {ops : Array Oper} {rest : List Oper} {o : Oper} {a : Act} {w : World} {Q : Exit → Act → World → Prop}
/-- 'append(v, u...)', v the call's own. -/
theorem append_rows (hgd : o.guard = none) (s x : Operand) (T e : TypeId) (i : TypeInfo) (z : Value) (sz bytes : Nat) (ho : o.op = .call { callee := .builtin .append, args := #[s, x], argTypes := #[T, T] })
    (hT : P.underlying T = some (.slice e)) (hi : P.info? e = some i) (hz : i.zero = some z) (hsize : i.size = sz) (hby : i.bytes = bytes) (hzs : z.cells.size = sz) (hsz : 0 < sz) (hbl : bytes ≤ 200)
    {B : Nat} {v u : Value} {R1 R2 : List (List Value)} (hs : a.eval s = v) (hx : a.eval x = u) (hv : SRows w v e sz R1) (hu : SRows w u e sz R2) (hvB : ∀ k, v.ownBlock = some k → B ≤ k) (hB : B ≤ w.heap.size)
    (h1 : ∀ r ∈ R2, ∀ c ∈ r, c.oneCell' = true) (m : Nat) (hm : R1.length + R2.length = m) (R : List (List Value)) (hR : R1 ++ R2 = R) (hl : m ≤ 1000000)
    (h : ∀ va vc w', SRows w' (.slice va m vc) e sz R → (∀ k, (Value.slice va m vc).ownBlock = some k → B ≤ k) → Below B w w' → wpList P ops Q rest (a.put o.dst (.slice va m vc)) w') :
    wpList P ops Q (o :: rest) a w := by
  subst hm hR
  have hown := srows_own_base hv hsz hvB
  have hlens : ∀ r ∈ R1 ++ R2, r.length = sz := fun r hr => by
    rcases List.mem_append.1 hr with hr | hr
    · exact hv.rowlen r hr
    · exact hu.rowlen r hr
  rcases hu with ⟨rfl, rfl⟩ | ⟨g, cap, rfl, hc1, hc2, hrows⟩
  · have hrun := run_append_owned_none (P := P) w B T (o.type) e i sz hT hi v R1.length _ hown
    obtain ⟨⟨va, vc, rfl⟩, hvb⟩ := own_shape hown
    simp only [List.append_nil, List.length_nil, Nat.add_zero] at h
    refine wpList_plain hgd fun K hK => ?_
    unfold Oper.wp execOp
    simp only [ho, resolve, invoke, builtin, Sem.run_bind, Sem.run_pure, Result.andThen_ok, List.map_toArray, List.map_cons, List.map_nil, hs, hx, hrun]
    exact hK _ _ (h va vc w hv hvB (Below.refl _ _))
  · have hus : SRows w (.slice (some ⟨g, 0, none⟩) R2.length cap) e sz R2 := .inr ⟨g, cap, rfl, hc1, hc2, hrows⟩
    have hnews : ∀ j u, R2.flatten[j]? = some u → w.cell? ((⟨g, 0, none⟩ : Addr).add j) = some u := (hus.own hsz).cells rfl
    refine wpList_append_own w hgd s x T ho B e i z sz bytes hT hi hz hsize hby hzs hsz v R1.length R1.flatten hs hown ⟨g, 0, none⟩ R2.length cap R2.flatten hx (length_flat R2 hus.rowlen) hnews ?_ ?_ ?_ hB ?_
    · intro u hu
      obtain ⟨r, hr, hur⟩ := List.mem_flatten.1 hu
      exact h1 r hr u hur
    · unfold maxLen; omega
    · have : (R1.length + R2.length) * bytes ≤ 1000000 * 200 := Nat.mul_le_mul hl hbl
      omega
    · intro v' w' hown' hgrow _
      obtain ⟨⟨va, vc, rfl⟩, hvb⟩ := own_shape hown'
      refine h va vc w' (srows_of_own hown' (by rw [List.flatten_append]) hlens hsz (by simp)) hvb ?_
      exact (Below.refl B w).grown hgrow hB fun k hk => hvB k hk
end
end Go.Proofs.Ytnnnkmgkijijdaa
