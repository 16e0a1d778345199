/-
  'append(v, u...)' of rows, v the call's own or nil, u any part of a row: where the result lies, what it turns. No program is spoken of.
-/
import Derived.Test.YtjnobdgigeejnaaERow
namespace Go.Proofs.Ytjnobdgigeejnaa
open Go.RowKit

section
variable {P : Program} {ops : Array Oper} {rest : List Oper} {o : Oper} {a : Act} {w : World} {Q : Exit → Act → World → Prop}
theorem append_any (hgd : o.guard = none) (s x : Operand) (T e : TypeId) (i : TypeInfo) (z : Value) (sz bytes : Nat) (ho : o.op = .call { callee := .builtin .append, args := #[s, x], argTypes := #[T, T] })
    (hT : P.underlying T = some (.slice e)) (hi : P.info? e = some i) (hz : i.zero = some z) (hsize : i.size = sz) (hby : i.bytes = bytes) (hzs : z.cells.size = sz) (hsz : 0 < sz) (hbl : bytes ≤ 200)
    {v : Value} {ad : Addr} {m2 c2 : Nat} {R1 R2 : List (List Value)} (hs : a.eval s = v) (hx : a.eval x = .slice (some ad) m2 c2) (hv : SRows w v e sz R1) (hl2 : R2.length = m2) (hr2 : ∀ r ∈ R2, r.length = sz)
    (hnews : ∀ (j : Nat) u, R2.flatten[j]? = some u → w.cell? (ad.add j) = some u) (h1 : ∀ r ∈ R2, ∀ c ∈ r, c.oneCell' = true) (m : Nat) (hm : R1.length + m2 = m) (R : List (List Value)) (hR : R1 ++ R2 = R) (hl : m ≤ 1000000)
    (h : ∀ va vc w', Hid (SRows w' (.slice va m vc) e sz R) → Hid (∀ k, (Value.slice va m vc).ownBlock = some k → v.ownBlock = some k ∨ w.heap.size ≤ k) → Hid (Kept (fun x => v.ownBlock = some x) w w') → wpList P ops Q rest (a.put o.dst (.slice va m vc)) w') :
    wpList P ops Q (o :: rest) a w := by
  subst hm hR hl2
  have hlens : ∀ r ∈ R1 ++ R2, r.length = sz := fun r hr => by
    rcases List.mem_append.1 hr with hr | hr
    · exact hv.rowlen r hr
    · exact hr2 r hr
  have hone : ∀ u ∈ R2.flatten, u.oneCell' = true := by
    intro u hu
    obtain ⟨r, hr, hur⟩ := List.mem_flatten.1 hu
    exact h1 r hr u hur
  have h63 : R1.length + R2.length ≤ maxLen := by unfold maxLen; omega
  have hbytes : (R1.length + R2.length) * bytes ≤ 140737488355328 := by
    have : (R1.length + R2.length) * bytes ≤ 1000000 * 200 := Nat.mul_le_mul hl hbl
    omega
  have hown := srows_own_base hv hsz (B := 0) (fun _ _ => Nat.zero_le _)
  obtain ⟨v', w', hr, hown', hgrow, _⟩ := run_append_own (P := P) w 0 T o.type e i z sz bytes hT hi hz hsize hby hzs hsz _ R1.length R1.flatten hown ad R2.length c2 R2.flatten (length_flat R2 hr2) hnews hone h63 hbytes (Nat.zero_le _)
  obtain ⟨⟨va, vc, rfl⟩, _⟩ := own_shape hown'
  have hwhere : ∀ k, (Value.slice va (R1.length + R2.length) vc).ownBlock = some k → v.ownBlock = some k ∨ w.heap.size ≤ k := by
    rcases hv with ⟨rfl, rfl⟩ | ⟨g, cap, rfl, hc1, hc2, cur, hg, hcur, _⟩
    · have hown2 := srows_own_base (w := w) (v := .slice none 0 0) (t := e) (sz := sz) (R := []) (.inl ⟨rfl, rfl⟩) hsz (B := w.heap.size) (noOwn _)
      obtain ⟨v2, w2, hr2', hown2', _, _⟩ := run_append_own (P := P) w w.heap.size T o.type e i z sz bytes hT hi hz hsize hby hzs hsz _ 0 [] hown2 ad R2.length c2 R2.flatten (length_flat R2 hr2) hnews hone (by simpa using h63) (by simpa using hbytes) (Nat.le_refl _)
      rw [hr2'] at hr
      simp only [Result.ok.injEq] at hr
      rw [hr.1] at hown2'
      intro k hk
      exact .inr ((own_shape hown2').2 k hk)
    · subst hsize
      subst hby
      by_cases hroom : R1.length + R2.length ≤ cap
      · have hfit : R1.length * i.size + R2.flatten.length ≤ cur.size := by
          rw [length_flat R2 hr2, hcur, ← Nat.add_mul]
          exact Nat.mul_le_mul_right _ hroom
        have hr3 := run_append_room (P := P) w T o.type e i hT hi g R1.length cap cur hg ad R2.length c2 R2.flatten (length_flat R2 hr2) hnews hone hroom hfit
        rw [hr3] at hr
        simp only [Result.ok.injEq, Value.slice.injEq] at hr
        obtain ⟨⟨rfl, _, rfl⟩, _⟩ := hr
        intro k hk
        exact .inl hk
      · have hr3 := run_append_grow (P := P) w T o.type e i z hT hi hz ⟨g, 0, none⟩ R1.length cap R1.flatten hown.1 (hown.cells (g := g) rfl) ad R2.length c2 R2.flatten (length_flat R2 hr2) hnews (by omega) (by unfold maxLen at h63; omega) (growslice_fits (by omega) hbytes)
        rw [hr3] at hr
        simp only [Result.ok.injEq, Value.slice.injEq] at hr
        obtain ⟨⟨rfl, _, rfl⟩, _⟩ := hr
        intro k hk
        simp [Value.ownBlock] at hk
        exact .inr (by omega)
  refine wpList_plain hgd fun K hK => ?_
  unfold Oper.wp execOp
  simp only [ho, resolve, invoke, builtin, Sem.run_bind, Sem.run_pure, Result.andThen_ok, List.map_toArray, List.map_cons, List.map_nil, hs, hx, hr]
  refine hK _ _ (h va vc w' (show SRows _ _ _ _ _ from srows_of_own hown' (by rw [List.flatten_append]) hlens hsz (by simp)) (show ∀ _, _ from hwhere) (show Kept _ _ _ from (Kept.refl _ w).grown hgrow (fun k hk => .inl hk)))
end
end Go.Proofs.Ytjnobdgigeejnaa
