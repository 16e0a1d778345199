/-
  3 texts, one behind the other: ERow, EApp, PMem.
-/
import Derived.Test.YtdjobjbkpagnaaaGreatJoin2
import Derived.Lib.AppendZerosOnto
import Derived.Laws.IdiomCopy
import Derived.Lib.Overlaps
import Derived.Deep.RegionLaw
import Derived.Test.YtdjobjbkpagnaaaGreatJoin1
import Derived.Deep.Strs
import Derived.Laws.OwnMore
import Derived.Laws.BytesArg
/-
  Rows in one block, all of them: what a copy of some over others leaves, what a slice of them reads; copy, append, append of zeros as laws. No program is spoken of.
-/
namespace Go.Proofs.YtdjobjbkpagnaaaGreat
open Go.RowKit

/-- V laid over L from place p on. -/
def spl {α : Type} (L : List α) (p : Nat) (V : List α) : List α := L.take p ++ (V ++ L.drop (p + V.length))
section
variable {α : Type} {L V X : List α} {p i : Nat}
theorem spl_len (h : p + V.length ≤ L.length) : (spl L p V).length = L.length := by simp [spl]; omega
theorem spl_at (h : p + V.length ≤ L.length) (k : Nat) : (spl L p V)[k]? = if k < p then L[k]? else if k < p + V.length then V[k - p]? else L[k]? := by
  unfold spl
  by_cases h1 : k < p
  · rw [if_pos h1, List.getElem?_append_left (by rw [List.length_take]; omega), List.getElem?_take, if_pos h1]
  · rw [if_neg h1, List.getElem?_append_right (by rw [List.length_take]; omega), List.length_take, Nat.min_eq_left (by omega)]
    by_cases h2 : k < p + V.length
    · rw [if_pos h2, List.getElem?_append_left (by omega)]
    · rw [if_neg h2, List.getElem?_append_right (by omega), List.getElem?_drop]
      congr 1
      omega
/-- Both copies, the first one first. -/
theorem spl_two (h : i + V.length + X.length ≤ L.length) : (spl (spl L i V) (i + V.length) X).take (i + V.length + X.length) = L.take i ++ (V ++ X) := by
  have h1 : i + V.length ≤ L.length := by omega
  have h2 : i + V.length + X.length ≤ (spl L i V).length := by rw [spl_len h1]; exact h
  apply List.ext_getElem?
  intro k
  rw [List.getElem?_take, spl_at h2, spl_at h1]
  by_cases k1 : k < i
  · rw [if_pos (by omega), if_pos (by omega), if_pos k1, List.getElem?_append_left (by rw [List.length_take]; omega), List.getElem?_take, if_pos k1]
  · rw [List.getElem?_append_right (by rw [List.length_take]; omega), List.length_take, Nat.min_eq_left (by omega)]
    by_cases k2 : k < i + V.length
    · rw [if_pos (by omega), if_pos (by omega), if_neg k1, if_pos k2, List.getElem?_append_left (by omega)]
    · rw [List.getElem?_append_right (by omega)]
      by_cases k3 : k < i + V.length + X.length
      · rw [if_pos k3, if_neg k2, if_pos k3]
        congr 1
        omega
      · rw [if_neg k3, List.getElem?_eq_none (by omega)]
theorem spl_swap (h : i + V.length + X.length ≤ L.length) : spl (spl L (i + V.length) X) i V = spl (spl L i V) (i + V.length) X := by
  have h1 : i + V.length ≤ L.length := by omega
  have h2 : i + V.length + X.length ≤ (spl L i V).length := by rw [spl_len h1]; exact h
  have h3 : i + V.length ≤ (spl L (i + V.length) X).length := by rw [spl_len h]; omega
  apply List.ext_getElem?
  intro k
  rw [spl_at h2, spl_at h3, spl_at h1, spl_at h]
  by_cases k1 : k < i
  · rw [if_pos k1, if_pos (by omega), if_pos (by omega), if_pos k1]
  · by_cases k2 : k < i + V.length
    · rw [if_neg k1, if_pos k2, if_pos k2, if_neg k1, if_pos k2]
    · by_cases k3 : k < i + V.length + X.length
      · simp only [if_neg k1, if_neg k2, if_pos k3]
      · simp only [if_neg k1, if_neg k2, if_neg k3]
end

section
variable {w w' : World} {b : Nat} {t : TypeId} {tot sz : Nat} {R F V X : List (List Value)}
theorem Rows.lens (h : Rows w b t tot sz R) : ∀ r ∈ R, r.length = sz := h.choose_spec.2.2.2.1
theorem Rows.bound (h : Rows w b t tot sz R) : R.length * sz ≤ tot := h.choose_spec.2.2.1
theorem Rows.spl (h : Rows w b t tot sz R) {p : Nat} (hsz : 0 < sz) (hp : p + V.length ≤ R.length) (hV : ∀ r ∈ V, r.length = sz) : Rows (w.setCells b (p * sz) V.flatten) b t tot sz (spl R p V) := by
  obtain ⟨cur, h1, h2, h3, h4, h5⟩ := h
  have hfl := length_flat V hV
  have hle : (p + V.length) * sz ≤ R.length * sz := Nat.mul_le_mul_right _ hp
  rw [Nat.add_mul] at hle
  obtain ⟨cur', g1, g2, g3, g4⟩ := heap_setCells b t V.flatten (p * sz) w cur h1 (by rw [hfl]; omega)
  have hlen : ∀ r ∈ Go.Proofs.YtdjobjbkpagnaaaGreat.spl R p V, r.length = sz := by
    intro r hr
    unfold Go.Proofs.YtdjobjbkpagnaaaGreat.spl at hr
    rcases List.mem_append.1 hr with hr | hr
    · exact h4 r (List.mem_of_mem_take hr)
    · rcases List.mem_append.1 hr with hr | hr
      · exact hV r hr
      · exact h4 r (List.mem_of_mem_drop hr)
  refine ⟨cur', g1, by omega, by rw [spl_len hp]; exact h3, hlen, ?_⟩
  intro i r hr j v hv
  have hj : j < sz := by
    have := hlen r (List.mem_of_getElem? hr)
    have := (List.getElem?_eq_some_iff.1 hv).1
    omega
  rw [spl_at hp] at hr
  have out : ∀ (_ : R[i]? = some r), (i < p ∨ p + V.length ≤ i) → cur'[i * sz + j]? = some v := by
    intro hr hi
    rw [g3 _ ?_]
    · exact h5 i r hr j v hv
    · rw [hfl]
      rcases hi with hi | hi
      · left
        have : (i + 1) * sz ≤ p * sz := Nat.mul_le_mul_right _ hi
        rw [Nat.add_mul] at this
        omega
      · right
        have : (p + V.length) * sz ≤ i * sz := Nat.mul_le_mul_right _ hi
        rw [Nat.add_mul] at this
        omega
  split at hr
  · exact out hr (.inl (by assumption))
  · rename_i hi1
    split at hr
    · rename_i hi2
      have e : i * sz + j = p * sz + ((i - p) * sz + j) := by
        rw [← Nat.add_assoc, ← Nat.add_mul]
        congr 2
        omega
      rw [e]
      refine g4 _ v ?_
      rw [flatten_at hsz V hV]
      have d1 : ((i - p) * sz + j) / sz = i - p := by rw [Nat.mul_comm, Nat.mul_add_div hsz, Nat.div_eq_of_lt hj]; rfl
      have d2 : ((i - p) * sz + j) % sz = j := by rw [Nat.mul_comm, Nat.mul_add_mod, Nat.mod_eq_of_lt hj]
      rw [d1, d2, hr]
      exact hv
    · exact out hr (.inr (by omega))
/-- All rows of the block. -/
theorem Rows.full {cap : Nat} (h : Rows w b t (cap * sz) sz R) (hc : R.length ≤ cap) : ∃ F : List (List Value), F.length = cap ∧ Rows w b t (cap * sz) sz F ∧ F.take R.length = R := by
  obtain ⟨cur, h1, h2, h3, h4, h5⟩ := h
  have fit : ∀ i, i < cap → i * sz + sz ≤ cur.size := fun i hi => by
    have : (i + 1) * sz ≤ cap * sz := Nat.mul_le_mul_right _ hi
    rw [Nat.add_mul] at this
    omega
  have hrow : ∀ i, i < cap → ((List.range cap).map fun i => (cur.toList.drop (i * sz)).take sz)[i]? = some ((cur.toList.drop (i * sz)).take sz) := fun i hi => by
    rw [List.getElem?_map, List.getElem?_range hi]
    rfl
  refine ⟨(List.range cap).map fun i => (cur.toList.drop (i * sz)).take sz, by simp, ⟨cur, h1, h2, by simp, ?_, ?_⟩, ?_⟩
  · intro r hr
    simp only [List.mem_map, List.mem_range] at hr
    obtain ⟨i, hi, rfl⟩ := hr
    have := fit i hi
    rw [List.length_take, List.length_drop, Array.length_toList]
    omega
  · intro i r hr j v hv
    have hi : i < cap := by
      have := (List.getElem?_eq_some_iff.1 hr).1
      simpa using this
    rw [hrow i hi] at hr
    simp only [Option.some.injEq] at hr
    subst hr
    rw [List.getElem?_take] at hv
    split at hv
    · rw [List.getElem?_drop, Array.getElem?_toList] at hv
      exact hv
    · cases hv
  · apply List.ext_getElem?
    intro i
    rw [List.getElem?_take]
    split
    · rename_i hi
      rw [hrow i (by omega), List.getElem?_eq_getElem hi]
      congr 1
      have hl := h4 _ (List.getElem_mem hi)
      apply List.ext_getElem?
      intro j
      rw [List.getElem?_take]
      split
      · rename_i hj
        rw [List.getElem?_drop, Array.getElem?_toList, List.getElem?_eq_getElem (by omega)]
        exact h5 i _ (List.getElem?_eq_getElem hi) j _ (List.getElem?_eq_getElem (by omega))
      · rw [List.getElem?_eq_none (by omega)]
    · rw [List.getElem?_eq_none (by omega)]
/-- What a part of the rows reads as. -/
theorem Rows.read (h : Rows w b t tot sz F) (hsz : 0 < sz) {p : Nat} (hX : ∀ k r, X[k]? = some r → F[p + k]? = some r) (hl : ∀ r ∈ X, r.length = sz) :
    ∀ j v, X.flatten[j]? = some v → w.cell? ((⟨b, p * sz, Option.none⟩ : Addr).add j) = some v := by
  intro j v hv
  rw [flatten_at hsz X hl] at hv
  cases hx : X[j / sz]? with
  | none => rw [hx] at hv; simp at hv
  | some r =>
    rw [hx] at hv
    simp only [Option.bind_some] at hv
    have := h.range (hX _ r hx) (j % sz) v hv
    have e : (⟨b, p * sz, Option.none⟩ : Addr).add j = ⟨b, (p + j / sz) * sz + j % sz, Option.none⟩ := by
      rw [Addr.add_lit, Nat.add_mul, Nat.add_assoc, Nat.div_add_mod']
    rw [e]
    exact this
end
section
variable {P : Program} {ops : Array Oper} {rest : List Oper} {o : Oper} {a : Act} {w : World} {Q : Exit → Act → World → Prop} {K : Act → World → Prop} {E : Prop}
theorem run_copy_rows (w : World) (dT sT ty elem : TypeId) (sz : Nat) (hu : P.underlying dT = some (.slice elem)) (hs : (P.info? elem).map (·.size) = some sz)
    (dp sp : Option Addr) (dLen dCap sLen sCap : Nat) {b p tot : Nat} {t : TypeId} {F X : List (List Value)} (hF : Rows w b t tot sz F) (hX : X.length = Nat.min sLen dLen) (hd : p + X.length ≤ F.length) (hl : ∀ r ∈ X, r.length = sz) (h1 : ∀ r ∈ X, ∀ c ∈ r, c.oneCell' = true)
    (hpos : 0 < X.length → dp = some ⟨b, p * sz, none⟩ ∧ ∃ ad, sp = some ad ∧ ∀ j v, X.flatten[j]? = some v → w.cell? (ad.add j) = some v) :
    (Builtin.copy_ #[dT, sT] ty #[.slice dp dLen dCap, .slice sp sLen sCap]).run P w = .ok (goInt X.length) (w.setCells b (p * sz) X.flatten) := by
  have hfl := length_flat X hl
  cases hq : P.info? elem with
  | none => simp [hq] at hs
  | some i =>
    have hi : i.size = sz := by simpa [hq] using hs
    by_cases h0 : X.length = 0
    · obtain rfl : X = [] := List.eq_nil_of_length_eq_zero h0
      have hn : Nat.min sLen dLen = 0 := by simpa using hX.symm
      have hl0 : ∀ (x : Addr), (loadCells x 0).run P w = .ok #[] w := fun x => by simpa using run_loadCells_list (P := P) w x [] (by simp)
      cases dp <;> cases sp <;> simp [Builtin.copy_, run_underlying hu, Builtin.lenOf, Builtin.firstCells, sizeOf, typeInfo, hq, hn, storeCells, hl0, World.setCells]
    · obtain ⟨rfl, ad, rfl, hsrc⟩ := hpos (by omega)
      have hbd := hF.bound
      have hle : (p + X.length) * sz ≤ F.length * sz := Nat.mul_le_mul_right _ hd
      rw [Nat.add_mul] at hle
      have hth : w.there b (p * sz) (X.length * sz) := hF.there_at (by omega)
      have hld := run_loadCells_list (P := P) w ad X.flatten hsrc
      rw [hfl] at hld
      have hst := run_storeCells_cells (P := P) b (p * sz) X.flatten 0 w (fun j hj => by simpa using (hth j (by omega)).1) (fun j hj => by simpa using (hth j (by omega)).2) (fun v hv => by
        obtain ⟨r, hr, hvr⟩ := List.mem_flatten.1 hv
        exact h1 r hr v hvr)
      simp only [Nat.add_zero] at hst
      simp [Builtin.copy_, run_underlying hu, Builtin.lenOf, Builtin.firstCells, sizeOf, typeInfo, hq, hi, ← hX, hld, hst]
theorem copy_rows (hgd : o.guard = none) (d s : Operand) (dT sT elem : TypeId) (sz : Nat) (ho : o.op = .call { callee := .builtin .copy, args := #[d, s], argTypes := #[dT, sT] })
    (hu : P.underlying dT = some (.slice elem)) (hs : (P.info? elem).map (·.size) = some sz) (hsz : 0 < sz) {b p tot : Nat} {t : TypeId} {F : List (List Value)} (X : List (List Value)) (hF : Hid (Rows w b t tot sz F)) (hd : p + X.length ≤ F.length)
    (dp sp : Option Addr) (dLen dCap sLen sCap : Nat) (hdv : a.eval d = .slice dp dLen dCap) (hsv : a.eval s = .slice sp sLen sCap) (hX : X.length = Nat.min sLen dLen) (hl : ∀ r ∈ X, r.length = sz) (h1 : ∀ r ∈ X, ∀ c ∈ r, c.oneCell' = true)
    (hpos : 0 < X.length → dp = some ⟨b, p * sz, none⟩ ∧ ∃ ad, sp = some ad ∧ ∀ j v, X.flatten[j]? = some v → w.cell? (ad.add j) = some v)
    (h : ∀ w', Hid (Rows w' b t tot sz (spl F p X)) → Hid (Kept (fun x => x = b) w w') → wpList P ops Q rest (a.put o.dst (goInt X.length)) w') : wpList P ops Q (o :: rest) a w := by
  refine wpList_plain hgd fun K hK => ?_
  have hr := run_copy_rows (P := P) w dT sT o.type elem sz hu hs dp sp dLen dCap sLen sCap hF.out hX hd hl h1 hpos
  unfold Oper.wp execOp
  simp only [ho, resolve, invoke, builtin, Sem.run_bind, Sem.run_pure, Result.andThen_ok, List.map_toArray, List.map_cons, List.map_nil, hdv, hsv, hr]
  exact hK _ _ (h _ (show Rows _ _ _ _ _ _ from hF.out.spl hsz hd hl) (show Kept _ _ _ from Kept.setCells (F := fun x => x = b) (.inl rfl) _ _ _ (Kept.refl _ _)))
theorem step_copy_rows (hgd : o.guard = none) (d s : Operand) (dT sT elem : TypeId) (sz : Nat) (ho : o.op = .call { callee := .builtin .copy, args := #[d, s], argTypes := #[dT, sT] })
    (hu : P.underlying dT = some (.slice elem)) (hs : (P.info? elem).map (·.size) = some sz) (hsz : 0 < sz) {b p tot : Nat} {t : TypeId} {F : List (List Value)} (X : List (List Value)) (hF : Hid (Rows w b t tot sz F)) (hd : p + X.length ≤ F.length)
    (dp sp : Option Addr) (dLen dCap sLen sCap : Nat) (hdv : a.eval d = .slice dp dLen dCap) (hsv : a.eval s = .slice sp sLen sCap) (hX : X.length = Nat.min sLen dLen) (hl : ∀ r ∈ X, r.length = sz) (h1 : ∀ r ∈ X, ∀ c ∈ r, c.oneCell' = true)
    (hpos : 0 < X.length → dp = some ⟨b, p * sz, none⟩ ∧ ∃ ad, sp = some ad ∧ ∀ j v, X.flatten[j]? = some v → w.cell? (ad.add j) = some v)
    (h : ∀ w', Hid (Rows w' b t tot sz (spl F p X)) → Hid (Kept (fun x => x = b) w w') → K (a.put o.dst (goInt X.length)) w') : if Region.wanted o (yielded ops a.tmps) = true then Oper.wp P o a w K Q else E := by
  have hw : Region.wanted o (yielded ops a.tmps) = true := by simp [Region.wanted, hgd]
  rw [if_pos hw]
  have hr := run_copy_rows (P := P) w dT sT o.type elem sz hu hs dp sp dLen dCap sLen sCap hF.out hX hd hl h1 hpos
  unfold Oper.wp execOp
  simp only [ho, resolve, invoke, builtin, Sem.run_bind, Sem.run_pure, Result.andThen_ok, List.map_toArray, List.map_cons, List.map_nil, hdv, hsv, hr]
  exact h _ (show Rows _ _ _ _ _ _ from hF.out.spl hsz hd hl) (show Kept _ _ _ from Kept.setCells (F := fun x => x = b) (.inl rfl) _ _ _ (Kept.refl _ _))

/-- 'append(s, u...)', s in a block: it stays there, or lies in a new one. -/
theorem append_rowsK (hgd : o.guard = none) (s x : Operand) (T e : TypeId) (i : TypeInfo) (z : Value) (sz bytes : Nat) (ho : o.op = .call { callee := .builtin .append, args := #[s, x], argTypes := #[T, T] })
    (hT : P.underlying T = some (.slice e)) (hi : P.info? e = some i) (hz : i.zero = some z) (hsize : i.size = sz) (hby : i.bytes = bytes) (hzs : z.cells.size = sz) (hsz : 0 < sz) (hbl : bytes ≤ 200)
    {g n cap : Nat} {u : Value} {R1 R2 : List (List Value)} (hs : a.eval s = .slice (some ⟨g, 0, none⟩) n cap) (hx : a.eval x = u) (hv : SRows w (.slice (some ⟨g, 0, none⟩) n cap) e sz R1) (hu : SRows w u e sz R2) (hn : R1.length = n)
    (h1 : ∀ r ∈ R2, ∀ c ∈ r, c.oneCell' = true) (m : Nat) (hm : n + R2.length = m) (R : List (List Value)) (hR : R1 ++ R2 = R) (hl : m ≤ 1000000)
    (h : ∀ g' cap' w', Hid (SRows w' (.slice (some ⟨g', 0, none⟩) m cap') e sz R) → Hid (g' = g ∧ cap' = cap ∨ w.heap.size ≤ g' ∧ cap < m) → Hid (Kept (fun x => x = g) w w') → wpList P ops Q rest (a.put o.dst (.slice (some ⟨g', 0, none⟩) m cap')) w') :
    wpList P ops Q (o :: rest) a w := by
  subst hm hR hn
  have hown := srows_own_base hv hsz (B := 0) (fun _ _ => Nat.zero_le _)
  have hlens : ∀ r ∈ R1 ++ R2, r.length = sz := fun r hr => by
    rcases List.mem_append.1 hr with hr | hr
    · exact hv.rowlen r hr
    · exact hu.rowlen r hr
  rcases hu with ⟨rfl, rfl⟩ | ⟨g2, cap2, rfl, hc1, hc2, hrows⟩
  · have hrun := run_append_owned_none (P := P) w 0 T (o.type) e i sz hT hi _ R1.length _ hown
    simp only [List.append_nil, List.length_nil, Nat.add_zero] at h
    refine wpList_plain hgd fun K hK => ?_
    unfold Oper.wp execOp
    simp only [ho, resolve, invoke, builtin, Sem.run_bind, Sem.run_pure, Result.andThen_ok, List.map_toArray, List.map_cons, List.map_nil, hs, hx, hrun]
    exact hK _ _ (h g cap w (show SRows _ _ _ _ _ from hv) (show _ ∨ _ from .inl ⟨rfl, rfl⟩) (show Kept _ _ _ from Kept.refl _ _))
  · have hus : SRows w (.slice (some ⟨g2, 0, none⟩) R2.length cap2) e sz R2 := .inr ⟨g2, cap2, rfl, hc1, hc2, hrows⟩
    have hnews : ∀ j u, R2.flatten[j]? = some u → w.cell? ((⟨g2, 0, none⟩ : Addr).add j) = some u := (hus.own hsz).cells rfl
    have hone : ∀ u ∈ R2.flatten, u.oneCell' = true := by
      intro u hu
      obtain ⟨r, hr, hur⟩ := List.mem_flatten.1 hu
      exact h1 r hr u hur
    have h63 : R1.length + R2.length ≤ maxLen := by unfold maxLen; omega
    have hbytes : (R1.length + R2.length) * bytes ≤ 140737488355328 := by
      have : (R1.length + R2.length) * bytes ≤ 1000000 * 200 := Nat.mul_le_mul hl hbl
      omega
    obtain ⟨v', w', hr, hown', hgrow, _⟩ := run_append_own (P := P) w 0 T o.type e i z sz bytes hT hi hz hsize hby hzs hsz _ R1.length R1.flatten hown ⟨g2, 0, none⟩ R2.length cap2 R2.flatten (length_flat R2 hus.rowlen) hnews hone h63 hbytes (Nat.zero_le _)
    obtain ⟨cap', cur, hv2, hc, hcl, hg, hcur⟩ : ∃ cap' cur, (Value.slice (some ⟨g, 0, none⟩) R1.length cap : Value) = .slice (some ⟨g, 0, none⟩) R1.length cap' ∧ R1.length ≤ cap' ∧ cap' ≤ maxLen ∧ w.heap[g]? = some (.cells cur e (0, 0)) ∧ cur.size = cap' * sz := by
      rcases hv with ⟨hq, _⟩ | ⟨g', cap', hq, q1, q2, cur, q3, q4, _⟩
      · simp at hq
      · simp only [Value.slice.injEq, Option.some.injEq, Addr.mk.injEq, and_true] at hq
        obtain ⟨rfl, _, rfl⟩ := hq
        exact ⟨cap, cur, rfl, q1, q2, q3, q4⟩
    simp only [Value.slice.injEq, true_and] at hv2
    subst hv2
    have hwhere : ∃ g' cap', v' = .slice (some ⟨g', 0, none⟩) (R1.length + R2.length) cap' ∧ (g' = g ∧ cap' = cap ∨ w.heap.size ≤ g' ∧ cap < R1.length + R2.length) := by
      subst hsize
      subst hby
      by_cases hroom : R1.length + R2.length ≤ cap
      · have hfit : R1.length * i.size + R2.flatten.length ≤ cur.size := by
          rw [length_flat R2 hus.rowlen, hcur, ← Nat.add_mul]
          exact Nat.mul_le_mul_right _ hroom
        have hr2 := run_append_room (P := P) w T o.type e i hT hi g R1.length cap cur hg ⟨g2, 0, none⟩ R2.length cap2 R2.flatten (length_flat R2 hus.rowlen) hnews hone hroom hfit
        rw [hr2] at hr
        simp only [Result.ok.injEq] at hr
        exact ⟨g, cap, hr.1.symm, .inl ⟨rfl, rfl⟩⟩
      · have hr2 := run_append_grow (P := P) w T o.type e i z hT hi hz ⟨g, 0, none⟩ R1.length cap R1.flatten hown.1 (hown.cells (g := g) rfl) ⟨g2, 0, none⟩ R2.length cap2 R2.flatten (length_flat R2 hus.rowlen) hnews (by omega) (by unfold maxLen at h63; omega) (growslice_fits (by omega) hbytes)
        rw [hr2] at hr
        simp only [Result.ok.injEq] at hr
        exact ⟨w.heap.size, _, hr.1.symm, .inr ⟨Nat.le_refl _, by omega⟩⟩
    obtain ⟨g', cap', rfl, hgg⟩ := hwhere
    refine wpList_plain hgd fun K hK => ?_
    unfold Oper.wp execOp
    simp only [ho, resolve, invoke, builtin, Sem.run_bind, Sem.run_pure, Result.andThen_ok, List.map_toArray, List.map_cons, List.map_nil, hs, hx, hr]
    refine hK _ _ (h g' cap' w' (show SRows _ _ _ _ _ from srows_of_own hown' (by rw [List.flatten_append]) hlens hsz (by simp)) (show _ ∨ _ from hgg) (show Kept _ _ _ from (Kept.refl _ w).grown hgrow ?_))
    intro k hk
    simp [Value.ownBlock] at hk
    exact .inl hk.symm
/-- 'append(s, make(S, k)...)' without room: a new block of the old rows and others. -/
theorem append_zerosK (hgd : o.guard = none) (s x : Operand) (T Tn e : TypeId) (i : TypeInfo) (z : Value) (sz bytes : Nat) (ho : o.op = .call { callee := .builtin .append, args := #[s, x], argTypes := #[T, Tn] })
    (hT : P.underlying T = some (.slice e)) (hTn : P.underlying Tn = some (.int .i64)) (hi : P.info? e = some i) (hz : i.zero = some z) (hsize : i.size = sz) (hby : i.bytes = bytes) (hzs : z.cells.size = sz) (hsz : 0 < sz) (hbl : bytes ≤ 200)
    {g n cap : Nat} {R1 : List (List Value)} (hs : a.eval s = .slice (some ⟨g, 0, none⟩) n cap) (k : Nat) (hx : a.eval x = .int .i64 k) (hv : SRows w (.slice (some ⟨g, 0, none⟩) n cap) e sz R1) (hn : R1.length = n) (hk : 0 < k) (hno : cap < n + k)
    (m : Nat) (hm : n + k = m) (hl : m ≤ 1000000)
    (h : ∀ cap' w' F, Hid (Rows w' w.heap.size e (cap' * sz) sz F) → Hid (F.length = cap' ∧ F.take n = R1 ∧ m ≤ cap' ∧ cap' ≤ maxLen) → Hid (Kept (fun _ => False) w w') → wpList P ops Q rest (a.put o.dst (.slice (some ⟨w.heap.size, 0, none⟩) m cap')) w') :
    wpList P ops Q (o :: rest) a w := by
  subst hm hn hsize hby
  have hown := srows_own_base hv hsz (B := 0) (fun _ _ => Nat.zero_le _)
  have holds : ∀ j u, R1.flatten[j]? = some u → w.drew.cell? ((⟨g, 0, none⟩ : Addr).add j) = some u := hown.cells (g := g) rfl
  have hold := run_firstCells_some (P := P) w.drew i.size R1.length ⟨g, 0, none⟩ R1.length cap R1.flatten hown.1 holds
  have hkb : k * i.bytes ≤ 1000000 * 200 := Nat.mul_le_mul (by omega) hbl
  have hsb : (R1.length + k) * i.bytes ≤ 1000000 * 200 := Nat.mul_le_mul hl hbl
  have hr := Lib.run_append_grow_zeros (P := P) w T Tn o.type e i z .i64 .i64 hT hTn hi hz (some ⟨g, 0, none⟩) R1.length cap R1.flatten hold k hk hsz hno (by omega) (by omega) (growslice_fits (by omega) (by omega))
  have hge := grownCap_ge w (R1.length + k) cap e
  have hcm := grownCap_le_maxLen w (R1.length + k) cap e (by unfold maxLen; omega)
  obtain ⟨G, hG⟩ : ∃ G, G = grownCap w (R1.length + k) cap e := ⟨_, rfl⟩
  rw [← hG] at hr hge hcm
  have hrows : Rows (w.drew.alloc (.cells (R1.flatten.toArray ++ Builtin.zeroCells z.cells k ++ Builtin.zeroCells z.cells (G - (R1.length + k))) e)) w.heap.size e (G * i.size) i.size R1 := by
    refine ⟨_, heap_alloc_last w.drew _, ?_, Nat.mul_le_mul_right _ (by omega), hv.rowlen, ?_⟩
    · simp only [Array.size_append, List.size_toArray, size_zeroCells, hzs, length_flat R1 hv.rowlen, ← Nat.add_mul]
      congr 1
      omega
    · intro q r hq j v hj
      have hlen : j < i.size := by
        have := hv.rowlen r (List.mem_of_getElem? hq)
        have := (List.getElem?_eq_some_iff.1 hj).1
        omega
      have hq' : q < R1.length := (List.getElem?_eq_some_iff.1 hq).1
      have hb : q * i.size + j < R1.flatten.length := by
        rw [length_flat R1 hv.rowlen]
        have : (q + 1) * i.size ≤ R1.length * i.size := Nat.mul_le_mul_right _ hq'
        rw [Nat.add_mul] at this
        omega
      rw [Array.getElem?_append_left (by simp only [Array.size_append, List.size_toArray]; omega), Array.getElem?_append_left (by simpa using hb), List.getElem?_toArray, flatten_at hsz R1 hv.rowlen]
      have d1 : (q * i.size + j) / i.size = q := by rw [Nat.mul_comm, Nat.mul_add_div hsz, Nat.div_eq_of_lt hlen]; rfl
      have d2 : (q * i.size + j) % i.size = j := by rw [Nat.mul_comm, Nat.mul_add_mod, Nat.mod_eq_of_lt hlen]
      rw [d1, d2, hq]
      exact hj
  obtain ⟨F, hF1, hF2, hF3⟩ := hrows.full (by omega)
  refine wpList_plain hgd fun K hK => ?_
  unfold Oper.wp execOp
  simp only [ho, resolve, invoke, builtin, Sem.run_bind, Sem.run_pure, Result.andThen_ok, List.map_toArray, List.map_cons, List.map_nil, hs, hx, hr]
  exact hK _ _ (h G _ F (show Rows _ _ _ _ _ _ from hF2) (show _ ∧ _ from ⟨hF1, hF3, hge, hcm⟩) (show Kept _ _ _ from (Kept.refl _ w).drew.alloc _))
/-- 'clear(s)', s in a block: what stands ahead of it stays. -/
theorem clear_rows (hgd : o.guard = none) (x : Operand) (T e : TypeId) (z : Array Value) (sz : Nat) (ho : o.op = .call { callee := .builtin .clear, args := #[x], argTypes := #[T] })
    (hT : P.underlying T = some (.slice e)) (hv : ∀ w, (zeroValue e).run P w = .ok (.agg z) w) (hz : z.size = sz) (hsz : 0 < sz) (h1 : z.all (·.oneCell') = true)
    {b q tot : Nat} {t : TypeId} {F : List (List Value)} (hF : Hid (Rows w b t tot sz F)) (p : Option Addr) (n c : Nat) (hx : a.eval x = .slice p n c) (hp : 0 < n → p = some ⟨b, q * sz, none⟩) (hd : q + n ≤ F.length)
    (h : ∀ w', Hid (Rows w' b t tot sz (F.take q)) → Hid (Kept (fun x => x = b) w w') → wpList P ops Q rest (a.put o.dst (.tuple #[])) w') : wpList P ops Q (o :: rest) a w := by
  refine wpList_plain hgd fun K hK => ?_
  cases n with
  | zero =>
    have hr : (Builtin.clear_ #[T] o.type #[.slice p 0 c]).run P w = .ok (.tuple #[]) w := by
      cases p <;> simp [Builtin.clear_, run_underlying hT]
    unfold Oper.wp execOp
    simp only [ho, resolve, invoke, builtin, Sem.run_bind, Sem.run_pure, Result.andThen_ok, List.map_toArray, List.map_cons, List.map_nil, hx, hr]
    exact hK _ _ (h w (show Rows _ _ _ _ _ _ from hF.out.take q) (show Kept _ _ _ from Kept.refl _ _))
  | succ n =>
    obtain rfl := hp (by omega)
    have hbd := hF.out.bound
    have hle : (q + (n + 1)) * sz ≤ F.length * sz := Nat.mul_le_mul_right _ hd
    rw [Nat.add_mul] at hle
    have hth : w.there b (q * sz) ((n + 1) * sz) := hF.out.there_at (by omega)
    have hlen : (Builtin.zeroCells z (n + 1)).toList.length = (n + 1) * sz := by simp [Builtin.zeroCells, hz]
    have hst := run_storeCells_cells (P := P) b (q * sz) (Builtin.zeroCells z (n + 1)).toList 0 w (fun j hj => by simpa using (hth j (by omega)).1) (fun j hj => by simpa using (hth j (by omega)).2) (fun v hv' => by
      simp [Builtin.zeroCells] at hv'
      obtain ⟨i, _, rfl⟩ := hv'
      have hlt : i % z.size < z.size := Nat.mod_lt _ (by omega)
      rw [getElem!_pos z _ hlt]
      rw [Array.all_eq_true] at h1
      exact h1 _ hlt)
    simp only [Nat.add_zero] at hst
    have hcl : (Value.agg z).cells = z := rfl
    have hr : (Builtin.clear_ #[T] o.type #[.slice (some ⟨b, q * sz, none⟩) (n + 1) c]).run P w = .ok (.tuple #[]) (w.setCells b (q * sz) (Builtin.zeroCells z (n + 1)).toList) := by
      simp [Builtin.clear_, run_underlying hT, hv, hcl, hst]
    unfold Oper.wp execOp
    simp only [ho, resolve, invoke, builtin, Sem.run_bind, Sem.run_pure, Result.andThen_ok, List.map_toArray, List.map_cons, List.map_nil, hx, hr]
    have hlt : (F.take q).length = q := by rw [List.length_take]; omega
    exact hK _ _ (h _ (show Rows _ _ _ _ _ _ from (hF.out.take q).behind _ (by rw [hlt]; exact Nat.le_refl _) (by rw [hlen]; omega)) (show Kept _ _ _ from Kept.setCells (F := fun x => x = b) (.inl rfl) _ _ _ (Kept.refl _ _)))
end
end Go.Proofs.YtdjobjbkpagnaaaGreat
/-
  'append(v, u...)' of rows, v the call's own or nil, u any part of a row: where the result lies, what it turns. No program is spoken of.
-/
namespace Go.Proofs.YtdjobjbkpagnaaaGreat
open Go.RowKit

section
variable {P : Program} {ops : Array Oper} {rest : List Oper} {o : Oper} {a : Act} {w : World} {Q : Exit → Act → World → Prop}
theorem append_any (hgd : o.guard = none) (s x : Operand) (T e : TypeId) (i : TypeInfo) (z : Value) (sz bytes : Nat) (ho : o.op = .call { callee := .builtin .append, args := #[s, x], argTypes := #[T, T] })
    (hT : P.underlying T = some (.slice e)) (hi : P.info? e = some i) (hz : i.zero = some z) (hsize : i.size = sz) (hby : i.bytes = bytes) (hzs : z.cells.size = sz) (hsz : 0 < sz) (hbl : bytes ≤ 200)
    {v : Value} {ad : Addr} {m2 c2 : Nat} {R1 R2 : List (List Value)} (hs : a.eval s = v) (hx : a.eval x = .slice (some ad) m2 c2) (hv : SRows w v e sz R1) (hl2 : R2.length = m2) (hr2 : ∀ r ∈ R2, r.length = sz)
    (hnews : ∀ (j : Nat) u, R2.flatten[j]? = some u → w.cell? (ad.add j) = some u) (h1 : ∀ r ∈ R2, ∀ c ∈ r, c.oneCell' = true) (m : Nat) (hm : R1.length + m2 = m) (R : List (List Value)) (hR : R1 ++ R2 = R) (hl : m ≤ 1000000)
    (h : ∀ va vc w', Hid (SRows w' (.slice va m vc) e sz R) → Hid (∀ k, (Value.slice va m vc).ownBlock = some k → v.ownBlock = some k ∨ w.heap.size ≤ k) → Hid (Kept (fun x => v.ownBlock = some x) w w') → wpList P ops Q rest (a.put o.dst (.slice va m vc)) w') :
    wpList P ops Q (o :: rest) a w := by
  subst hm hR hl2
  have hlens : ∀ r ∈ R1 ++ R2, r.length = sz := fun r hr => by
    rcases List.mem_append.1 hr with hr | hr
    · exact hv.rowlen r hr
    · exact hr2 r hr
  have hone : ∀ u ∈ R2.flatten, u.oneCell' = true := by
    intro u hu
    obtain ⟨r, hr, hur⟩ := List.mem_flatten.1 hu
    exact h1 r hr u hur
  have h63 : R1.length + R2.length ≤ maxLen := by unfold maxLen; omega
  have hbytes : (R1.length + R2.length) * bytes ≤ 140737488355328 := by
    have : (R1.length + R2.length) * bytes ≤ 1000000 * 200 := Nat.mul_le_mul hl hbl
    omega
  have hown := srows_own_base hv hsz (B := 0) (fun _ _ => Nat.zero_le _)
  obtain ⟨v', w', hr, hown', hgrow, _⟩ := run_append_own (P := P) w 0 T o.type e i z sz bytes hT hi hz hsize hby hzs hsz _ R1.length R1.flatten hown ad R2.length c2 R2.flatten (length_flat R2 hr2) hnews hone h63 hbytes (Nat.zero_le _)
  obtain ⟨⟨va, vc, rfl⟩, _⟩ := own_shape hown'
  have hwhere : ∀ k, (Value.slice va (R1.length + R2.length) vc).ownBlock = some k → v.ownBlock = some k ∨ w.heap.size ≤ k := by
    rcases hv with ⟨rfl, rfl⟩ | ⟨g, cap, rfl, hc1, hc2, cur, hg, hcur, _⟩
    · have hown2 := srows_own_base (w := w) (v := .slice none 0 0) (t := e) (sz := sz) (R := []) (.inl ⟨rfl, rfl⟩) hsz (B := w.heap.size) (noOwn _)
      obtain ⟨v2, w2, hr2', hown2', _, _⟩ := run_append_own (P := P) w w.heap.size T o.type e i z sz bytes hT hi hz hsize hby hzs hsz _ 0 [] hown2 ad R2.length c2 R2.flatten (length_flat R2 hr2) hnews hone (by simpa using h63) (by simpa using hbytes) (Nat.le_refl _)
      rw [hr2'] at hr
      simp only [Result.ok.injEq] at hr
      rw [hr.1] at hown2'
      intro k hk
      exact .inr ((own_shape hown2').2 k hk)
    · subst hsize
      subst hby
      by_cases hroom : R1.length + R2.length ≤ cap
      · have hfit : R1.length * i.size + R2.flatten.length ≤ cur.size := by
          rw [length_flat R2 hr2, hcur, ← Nat.add_mul]
          exact Nat.mul_le_mul_right _ hroom
        have hr3 := run_append_room (P := P) w T o.type e i hT hi g R1.length cap cur hg ad R2.length c2 R2.flatten (length_flat R2 hr2) hnews hone hroom hfit
        rw [hr3] at hr
        simp only [Result.ok.injEq, Value.slice.injEq] at hr
        obtain ⟨⟨rfl, _, rfl⟩, _⟩ := hr
        intro k hk
        exact .inl hk
      · have hr3 := run_append_grow (P := P) w T o.type e i z hT hi hz ⟨g, 0, none⟩ R1.length cap R1.flatten hown.1 (hown.cells (g := g) rfl) ad R2.length c2 R2.flatten (length_flat R2 hr2) hnews (by omega) (by unfold maxLen at h63; omega) (growslice_fits (by omega) hbytes)
        rw [hr3] at hr
        simp only [Result.ok.injEq, Value.slice.injEq] at hr
        obtain ⟨⟨rfl, _, rfl⟩, _⟩ := hr
        intro k hk
        simp [Value.ownBlock] at hk
        exact .inr (by omega)
  refine wpList_plain hgd fun K hK => ?_
  unfold Oper.wp execOp
  simp only [ho, resolve, invoke, builtin, Sem.run_bind, Sem.run_pure, Result.andThen_ok, List.map_toArray, List.map_cons, List.map_nil, hs, hx, hr]
  refine hK _ _ (h va vc w' (show SRows _ _ _ _ _ from srows_of_own hown' (by rw [List.flatten_append]) hlens hsz (by simp)) (show ∀ _, _ from hwhere) (show Kept _ _ _ from (Kept.refl _ w).grown hgrow (fun k hk => .inl hk)))
end
end Go.Proofs.YtdjobjbkpagnaaaGreat
/-
  Slices of texts: what they own and how they read; slices of numbers and of texts that are made at once and stored into; the string of any bytes of the call's own; a slice of texts that came in.
-/
namespace Go.Proofs.YtdjobjbkpagnaaaGreat
open Go.RowKit

def sv (l : List ByteArray) : List Value := l.map .string
def OwnsS (w : World) (B : Nat) (v : Value) (l : List ByteArray) : Prop := w.ownsRow B 9 1 v l.length (sv l)
theorem OwnsS.below {w w' : World} {B : Nat} {v : Value} {l : List ByteArray} (h : OwnsS w B v l) (hb : Below w.heap.size w w') : OwnsS w' B v l := ownsRow_below h hb
theorem OwnsS.base {w : World} {B B' : Nat} {v : Value} {l : List ByteArray} (h : OwnsS w B v l) (hb : B' ≤ B) : OwnsS w B' v l := ownsRow_base h hb
theorem ownsS_nil (w : World) (B : Nat) : OwnsS w B (.slice none 0 0) [] := World.ownsRow_nil w B _ _
theorem info_text : (Tryz.prog.info? 9).map (fun i => (i.zero, i.size, i.bytes)) = some (some (.string ByteArray.empty), 1, 16) := by kernel_rfl

/-- The slice v reads as the texts l in the world w. -/
def ReadsS (w : World) (v : Value) (l : List ByteArray) : Prop :=
  (l = [] ∧ ∃ a c, v = .slice a 0 c) ∨
  (∃ b off c, v = .slice (some ⟨b, off, none⟩) l.length c ∧ l ≠ [] ∧ b < w.heap.size ∧ ∀ i t, l[i]? = some t → w.cell? ⟨b, off + i, none⟩ = some (.string t))
theorem ReadsS.below {w w' : World} {v : Value} {l : List ByteArray} (h : ReadsS w v l) (hb : Below w.heap.size w w') : ReadsS w' v l := by
  rcases h with h | ⟨b, off, c, hv, hl, hbw, hc⟩
  · exact .inl h
  · exact .inr ⟨b, off, c, hv, hl, Nat.lt_of_lt_of_le hbw hb.size, fun i t hi => (hb.cell (p := ⟨b, off + i, none⟩) hbw).trans (hc i t hi)⟩
theorem add0 (g i : Nat) : (⟨g, 0, none⟩ : Addr).add i = ⟨g, i, none⟩ := by unfold Addr.add; split <;> simp_all
theorem OwnsS.reads {w : World} {B : Nat} {v : Value} {l : List ByteArray} (h : OwnsS w B v l) : ReadsS w v l := by
  have hc := @World.ownsRow.cells _ _ _ _ _ _ _ h
  have hlt := h.lt
  rcases h.2 with ⟨rfl, h0⟩ | ⟨g, cap, cur, rfl, hb, hg, hcap, _⟩
  · exact .inl ⟨List.eq_nil_of_length_eq_zero h0, _, _, rfl⟩
  · by_cases hl : l = []
    · subst hl; exact .inl ⟨rfl, _, _, rfl⟩
    · refine .inr ⟨g, 0, cap, rfl, hl, (hlt g rfl).2, fun i t hi => ?_⟩
      have hx := hc rfl i (.string t) (by simp [sv, hi])
      rw [add0] at hx
      rw [Nat.zero_add]
      exact hx

/-- 'make([]byte, 0, n)'. -/
theorem make_bytes {ops : Array Oper} {rest : List Oper} {o : Oper} {a : Act} {Q : Exit → Act → World → Prop} (hgd : o.guard = none) (l c : Operand) (hop : o.op = Op.makeSlice 108 l c)
    {w : World} {C : Int} {n B : Nat} (hl : a.eval l = .int .i64 0) (hc : a.eval c = .int .i64 C) (hC : C = (n : Int)) (hn : n ≤ 1000000) (hB : B ≤ w.heap.size)
    (h : ∀ v' w', OwnsB w' B v' [] → Below B w w' → wpList Tryz.prog ops Q rest (a.put o.dst v') w') : wpList Tryz.prog ops Q (o :: rest) a w := by
  obtain ⟨i0, hi, hz0, hz1, hz2⟩ := info_parts info_u8
  refine wpList_make_own w hgd l c 108 hop B 5 i0 (.int .u8 0) 1 Tryz.underlying108 hi hz0 hz1 _ _ C n hl hc hC ?_ ?_ hB ?_
  · rw [hz2]; omega
  · unfold maxLen; omega
  · intro w' hown hg
    exact h _ w' hown ((Below.refl B w).grown hg hB (fun k hk => by cases hk))
/-- 'make([]int, n)'. -/
theorem make_ints {ops : Array Oper} {rest : List Oper} {o : Oper} {a : Act} {Q : Exit → Act → World → Prop} (hgd : o.guard = none) (l c : Operand) (hop : o.op = Op.makeSlice 24 l c)
    {w : World} {C : Int} {n B : Nat} (hl : a.eval l = .int .i64 C) (hc : a.eval c = .int .i64 C) (hC : C = (n : Int)) (hn : n ≤ 1000000) (hB : B ≤ w.heap.size)
    (h : ∀ w', OwnsI w' B (.slice (some ⟨w.heap.size, 0, none⟩) n n) (List.replicate n 0#64) → Below B w w' → wpList Tryz.prog ops Q rest (a.put o.dst (.slice (some ⟨w.heap.size, 0, none⟩) n n)) w') : wpList Tryz.prog ops Q (o :: rest) a w := by
  obtain ⟨i0, hi, hz0, hz1, hz2⟩ := info_parts info_i64
  refine wpList_make_full w hgd l c 24 hop B 3 i0 (.int .i64 0) 1 Tryz.underlying24 hi hz0 hz1 _ _ C C n hl hc hC hC ?_ ?_ hB ?_
  · rw [hz2]; omega
  · unfold maxLen; omega
  · intro w' hown hg
    refine h w' ?_ ((Below.refl B w).grown hg hB (fun k hk => by cases hk))
    have e : (madeCells (Value.int IntKind.i64 0).cells (n * 1)).toList = iv (List.replicate n 0#64) := by
      rw [Nat.mul_one, show (Value.int IntKind.i64 0).cells = #[.int .i64 0] from rfl, toList_madeCells_one]
      simp [iv]
    rw [e] at hown
    unfold OwnsI
    rw [List.length_replicate]
    exact hown
/-- A store into such a slice. -/
theorem OwnsI.store {w : World} {B g n cap : Nat} {l : List (BitVec 64)} (h : OwnsI w B (.slice (some ⟨g, 0, none⟩) n cap) l) (hn : n = l.length) (k : Nat) (hk : k < l.length) (x : BitVec 64) :
    w.cell? ⟨g, k, none⟩ = some (.int .i64 (l.getD k 0#64).toInt) ∧ w.frozen? ⟨g, k, none⟩ = false ∧ OwnsI (w.setCell ⟨g, k, none⟩ (.int .i64 x.toInt)) B (.slice (some ⟨g, 0, none⟩) n cap) (l.set k x) ∧ B ≤ g := by
  subst hn
  refine ⟨?_, World.ownsRow.frozenAt h k, ?_, (h.lt g rfl).1⟩
  · rw [World.ownsRow.cellAt h k (by omega)]
    simp [iv, hk]
  · have := (World.ownsRow.stored h k (.int .i64 x.toInt)).1
    unfold OwnsI
    rw [List.length_set]
    have e : (iv l).set k (.int .i64 x.toInt) = iv (l.set k x) := by simp [iv, List.map_set]
    rw [e] at this
    exact this
theorem OwnsS.store {w : World} {B g n cap : Nat} {l : List ByteArray} (h : OwnsS w B (.slice (some ⟨g, 0, none⟩) n cap) l) (hn : n = l.length) (k : Nat) (hk : k < l.length) (x : ByteArray) :
    (∃ t, w.cell? ⟨g, k, none⟩ = some (.string t)) ∧ w.frozen? ⟨g, k, none⟩ = false ∧ OwnsS (w.setCell ⟨g, k, none⟩ (.string x)) B (.slice (some ⟨g, 0, none⟩) n cap) (l.set k x) ∧ B ≤ g := by
  subst hn
  refine ⟨⟨l[k], ?_⟩, World.ownsRow.frozenAt h k, ?_, (h.lt g rfl).1⟩
  · rw [World.ownsRow.cellAt h k (by omega)]
    simp [sv, hk]
  · have := (World.ownsRow.stored h k (.string x)).1
    unfold OwnsS
    rw [List.length_set]
    have e : (sv l).set k (.string x) = sv (l.set k x) := by simp [sv, List.map_set]
    rw [e] at this
    exact this
theorem set_mid {α : Type} (d : List α) (g : Nat) (z x : α) (k : Nat) (hk : d.length = k) : (d ++ List.replicate (g + 1) z).set k x = (d ++ [x]) ++ List.replicate g z := by
  subst hk
  rw [List.set_append_right _ _ (Nat.le_refl _), Nat.sub_self, List.replicate_succ, List.set_cons_zero, List.append_assoc]
  rfl
/-- 'string(s)', s the call's own, of bytes. -/
theorem convert_all {w : World} {B : Nat} {v : Value} {l : List UInt8} (hown : OwnsB w B v l) :
    (convert 108 9 v).run Tryz.prog w = .ok (.string ⟨l.toArray⟩) w := by
  rcases Nat.eq_zero_or_pos l.length with h0 | hp
  · have hl : l = [] := List.eq_nil_of_length_eq_zero h0
    subst hl
    rcases hown.2 with ⟨rfl, _⟩ | ⟨g, cap, cur, rfl, _, _, _⟩
    · exact run_convert_bytes_nil w 108 5 Tryz.underlying108 Tryz.underlying5 _ _ 9 Tryz.underlying9
    · rw [run_convert_bytes_string w _ _ 5 _ _ _ Tryz.underlying108 Tryz.underlying5 Tryz.underlying9]
      have hload : (loadCells ⟨g, 0, none⟩ 0).run Tryz.prog w = .ok (([] : List Int).map (Value.int .u8)).toArray w := by
        have := run_loadCells_list (P := Tryz.prog) w ⟨g, 0, none⟩ [] (by intro j u h; simp at h)
        simpa using this
      have := run_bytesToString (P := Tryz.prog) w ⟨g, 0, none⟩ 0 cap [] hload
      exact this
  · exact convert_own hown hp
end Go.Proofs.YtdjobjbkpagnaaaGreat
