/-
  'append(v, u...)' of cells, v the call's own or nil, u cells that came in.
-/
import Derived.Test.YtnnnkmgkijijdaaTRow
namespace Go.Proofs.Ytnnnkmgkijijdaa
open Go.RowKit

abbrev c3 (c : Cl) : List Value := [.int .i64 c.k, .int .i64 c.n, .string c.s]
theorem info_cell : (Try.prog.info? 23).map (fun i => (i.zero, i.size, i.bytes)) = some (some (.agg #[.int .i64 0, .int .i64 0, .string ⟨#[]⟩]), 3, 32) := by kernel_rfl
theorem c3_len (l : List Cl) : ∀ r ∈ l.map c3, r.length = 3 := by
  intro r hr
  obtain ⟨c, _, rfl⟩ := List.mem_map.1 hr
  rfl
theorem c3_one (l : List Cl) : ∀ u ∈ (l.map c3).flatten, u.oneCell' = true := by
  intro u hu
  obtain ⟨r, hr, hur⟩ := List.mem_flatten.1 hu
  obtain ⟨c, _, rfl⟩ := List.mem_map.1 hr
  simp only [c3, List.mem_cons, List.not_mem_nil, or_false] at hur
  rcases hur with rfl | rfl | rfl <;> rfl
theorem row_of_srows {w : World} {v : Value} {l : List Cl} (h : SRows w v 23 3 (l.map c3)) : RowIs w v l := by
  rcases h with ⟨rfl, h0⟩ | ⟨g, cap, rfl, hc1, hc2, hrows⟩
  · have : l = [] := by simpa using h0
    subst this
    exact ⟨none, 0, rfl, fun h => absurd rfl h⟩
  · refine ⟨some ⟨g, 0, none⟩, cap, by rw [List.length_map], fun _ => ⟨g, 0, rfl, hrows.lt, fun i c hi => ?_⟩⟩
    have hr := hrows.range (i := i) (r := c3 c) (by rw [List.getElem?_map, hi]; rfl)
    have h0 := hr 0 _ rfl
    have h1 := hr 1 _ rfl
    have h2 := hr 2 _ rfl
    rw [Nat.zero_add]
    exact ⟨h0, h1, h2⟩
theorem row_news {w : World} {b off : Nat} {l : List Cl} (h : ∀ (i : Nat) (c : Cl), l[i]? = some c → CellAt w b (off + i * 3) c) : ∀ (j : Nat) u, (l.map c3).flatten[j]? = some u → w.cell? ((⟨b, off, none⟩ : Addr).add j) = some u := by
  intro j u hu
  rw [flatten_at (by decide) _ (c3_len l), List.getElem?_map] at hu
  rw [Addr.add_mid]
  cases hc : l[j / 3]? with
  | none => rw [hc] at hu; simp at hu
  | some c =>
    rw [hc] at hu
    simp only [Option.map_some, Option.bind_some] at hu
    have hx := h _ c hc
    have hj : j % 3 = 0 ∨ j % 3 = 1 ∨ j % 3 = 2 := by omega
    rcases hj with e | e | e
    · rw [e] at hu
      simp at hu
      subst hu
      rw [show off + j = off + j / 3 * 3 by omega]
      exact hx.c0
    · rw [e] at hu
      simp at hu
      subst hu
      rw [show off + j = off + j / 3 * 3 + 1 by omega]
      exact hx.c1
    · rw [e] at hu
      simp at hu
      subst hu
      rw [show off + j = off + j / 3 * 3 + 2 by omega]
      exact hx.c2

section
variable {ops : Array Oper} {rest : List Oper} {o : Oper} {a : Act} {w : World} {Q : Exit → Act → World → Prop}
theorem append_row (hgd : o.guard = none) (s x : Operand) (ho : o.op = .call { callee := .builtin .append, args := #[s, x], argTypes := #[31, 31] })
    {B : Nat} {v : Value} {ad : Option Addr} {m2 c2 : Nat} {l1 l2 : List Cl} (hs : a.eval s = v) (hx : a.eval x = .slice ad m2 c2) (hv : SRows w v 23 3 (l1.map c3)) (hvB : ∀ k, v.ownBlock = some k → B ≤ k) (hB : B ≤ w.heap.size)
    (hr : RowIs w (.slice ad m2 c2) l2) (hn : ad = none → m2 = 0 ∧ c2 = 0) (m : Nat) (hm : l1.length + l2.length = m) (hl : m ≤ 1000)
    (h : ∀ va vc w', Hid (SRows w' (.slice va m vc) 23 3 ((l1 ++ l2).map c3)) → Hid (∀ k, (Value.slice va m vc).ownBlock = some k → B ≤ k) → Hid (Below B w w') → wpList Try.prog ops Q rest (a.put o.dst (.slice va m vc)) w') :
    wpList Try.prog ops Q (o :: rest) a w := by
  subst hm
  obtain ⟨i, hi, hz, hsize, hby⟩ : ∃ i, Try.prog.info? 23 = some i ∧ i.zero = some (.agg #[.int .i64 0, .int .i64 0, .string ⟨#[]⟩]) ∧ i.size = 3 ∧ i.bytes = 32 := by
    have := info_cell
    cases hq : Try.prog.info? 23 with
    | none => rw [hq] at this; cases this
    | some i =>
      rw [hq] at this
      simp only [Option.map_some, Option.some.injEq, Prod.mk.injEq] at this
      exact ⟨i, rfl, this⟩
  have hlens : ∀ r ∈ (l1 ++ l2).map c3, r.length = 3 := c3_len _
  have hown := srows_own_base hv (by decide) hvB
  rw [List.length_map] at hown
  obtain ⟨ad', cap', e, hc⟩ := hr
  injection e with e1 e2 e3
  subst e1 e2 e3
  cases ad with
  | none =>
    obtain ⟨h0, rfl⟩ := hn rfl
    have : l2 = [] := List.length_eq_zero_iff.1 h0
    subst this
    have hrun := run_append_owned_none (P := Try.prog) w B 31 (o.type) 23 i 3 Try.underlying31 hi v l1.length _ hown
    obtain ⟨⟨va, vc, rfl⟩, hvb⟩ := own_shape hown
    simp only [List.append_nil, List.length_nil, Nat.add_zero] at h
    refine wpList_plain hgd fun K hK => ?_
    unfold Oper.wp execOp
    simp only [ho, resolve, invoke, builtin, Sem.run_bind, Sem.run_pure, Result.andThen_ok, List.map_toArray, List.map_cons, List.map_nil, hs, hx, List.length_nil, hrun]
    exact hK _ _ (h va vc w (show SRows _ _ _ _ _ from hv) (show ∀ _, _ from hvB) (show Below _ _ _ from Below.refl _ _))
  | some ad =>
    have hnews : ∀ (j : Nat) u, (l2.map c3).flatten[j]? = some u → w.cell? (ad.add j) = some u := by
      by_cases h2 : l2 = []
      · subst h2
        intro j u hu
        simp at hu
      · obtain ⟨b, off, e, _, hall⟩ := hc h2
        obtain rfl := Option.some.inj e
        exact row_news hall
    refine wpList_append_own w hgd s x 31 ho B 23 i _ 3 32 Try.underlying31 hi hz hsize hby rfl (by decide) v l1.length (l1.map c3).flatten hs hown ad l2.length _ (l2.map c3).flatten hx (by rw [length_flat _ (c3_len l2), List.length_map]) hnews (c3_one l2) ?_ ?_ hB ?_
    · unfold maxLen; omega
    · omega
    · intro v' w' hown' hgrow _
      obtain ⟨⟨va, vc, rfl⟩, hvb⟩ := own_shape hown'
      refine h va vc w' (show SRows _ _ _ _ _ from srows_of_own hown' (by rw [List.map_append, List.flatten_append]) hlens (by decide) (by simp)) (show ∀ _, _ from hvb) (show Below _ _ _ from ?_)
      exact (Below.refl B w).grown hgrow hB fun k hk => hvB k hk
end
end Go.Proofs.Ytnnnkmgkijijdaa
