/-
  4 texts, one behind the other: ERow, EApp, MXPure, MXMem.
-/
import Derived.Test.YtflabcmjbhmphaaJoin2
import Derived.Lib.AppendZerosOnto
import Derived.Laws.IdiomCopy
import Derived.Lib.Overlaps
import Derived.Deep.RegionLaw
import Derived.WalkKit
import Derived.Deep.LoopGhost
/-
  Rows in one block, all of them: what a copy of some over others leaves, what a slice of them reads; copy, append, append of zeros as laws. No program is spoken of.
-/
namespace Go.Proofs.Ytflabcmjbhmphaa
open Go.RowKit

/-- V laid over L from place p on. -/
def spl {α : Type} (L : List α) (p : Nat) (V : List α) : List α := L.take p ++ (V ++ L.drop (p + V.length))
section
variable {α : Type} {L V X : List α} {p i : Nat}
theorem spl_len (h : p + V.length ≤ L.length) : (spl L p V).length = L.length := by simp [spl]; omega
theorem spl_at (h : p + V.length ≤ L.length) (k : Nat) : (spl L p V)[k]? = if k < p then L[k]? else if k < p + V.length then V[k - p]? else L[k]? := by
  unfold spl
  by_cases h1 : k < p
  · rw [if_pos h1, List.getElem?_append_left (by rw [List.length_take]; omega), List.getElem?_take, if_pos h1]
  · rw [if_neg h1, List.getElem?_append_right (by rw [List.length_take]; omega), List.length_take, Nat.min_eq_left (by omega)]
    by_cases h2 : k < p + V.length
    · rw [if_pos h2, List.getElem?_append_left (by omega)]
    · rw [if_neg h2, List.getElem?_append_right (by omega), List.getElem?_drop]
      congr 1
      omega
/-- Both copies, the first one first. -/
theorem spl_two (h : i + V.length + X.length ≤ L.length) : (spl (spl L i V) (i + V.length) X).take (i + V.length + X.length) = L.take i ++ (V ++ X) := by
  have h1 : i + V.length ≤ L.length := by omega
  have h2 : i + V.length + X.length ≤ (spl L i V).length := by rw [spl_len h1]; exact h
  apply List.ext_getElem?
  intro k
  rw [List.getElem?_take, spl_at h2, spl_at h1]
  by_cases k1 : k < i
  · rw [if_pos (by omega), if_pos (by omega), if_pos k1, List.getElem?_append_left (by rw [List.length_take]; omega), List.getElem?_take, if_pos k1]
  · rw [List.getElem?_append_right (by rw [List.length_take]; omega), List.length_take, Nat.min_eq_left (by omega)]
    by_cases k2 : k < i + V.length
    · rw [if_pos (by omega), if_pos (by omega), if_neg k1, if_pos k2, List.getElem?_append_left (by omega)]
    · rw [List.getElem?_append_right (by omega)]
      by_cases k3 : k < i + V.length + X.length
      · rw [if_pos k3, if_neg k2, if_pos k3]
        congr 1
        omega
      · rw [if_neg k3, List.getElem?_eq_none (by omega)]
theorem spl_swap (h : i + V.length + X.length ≤ L.length) : spl (spl L (i + V.length) X) i V = spl (spl L i V) (i + V.length) X := by
  have h1 : i + V.length ≤ L.length := by omega
  have h2 : i + V.length + X.length ≤ (spl L i V).length := by rw [spl_len h1]; exact h
  have h3 : i + V.length ≤ (spl L (i + V.length) X).length := by rw [spl_len h]; omega
  apply List.ext_getElem?
  intro k
  rw [spl_at h2, spl_at h3, spl_at h1, spl_at h]
  by_cases k1 : k < i
  · rw [if_pos k1, if_pos (by omega), if_pos (by omega), if_pos k1]
  · by_cases k2 : k < i + V.length
    · rw [if_neg k1, if_pos k2, if_pos k2, if_neg k1, if_pos k2]
    · by_cases k3 : k < i + V.length + X.length
      · simp only [if_neg k1, if_neg k2, if_pos k3]
      · simp only [if_neg k1, if_neg k2, if_neg k3]
end

section
variable {w w' : World} {b : Nat} {t : TypeId} {tot sz : Nat} {R F V X : List (List Value)}
theorem Rows.lens (h : Rows w b t tot sz R) : ∀ r ∈ R, r.length = sz := h.choose_spec.2.2.2.1
theorem Rows.bound (h : Rows w b t tot sz R) : R.length * sz ≤ tot := h.choose_spec.2.2.1
theorem Rows.spl (h : Rows w b t tot sz R) {p : Nat} (hsz : 0 < sz) (hp : p + V.length ≤ R.length) (hV : ∀ r ∈ V, r.length = sz) : Rows (w.setCells b (p * sz) V.flatten) b t tot sz (spl R p V) := by
  obtain ⟨cur, h1, h2, h3, h4, h5⟩ := h
  have hfl := length_flat V hV
  have hle : (p + V.length) * sz ≤ R.length * sz := Nat.mul_le_mul_right _ hp
  rw [Nat.add_mul] at hle
  obtain ⟨cur', g1, g2, g3, g4⟩ := heap_setCells b t V.flatten (p * sz) w cur h1 (by rw [hfl]; omega)
  have hlen : ∀ r ∈ Go.Proofs.Ytflabcmjbhmphaa.spl R p V, r.length = sz := by
    intro r hr
    unfold Go.Proofs.Ytflabcmjbhmphaa.spl at hr
    rcases List.mem_append.1 hr with hr | hr
    · exact h4 r (List.mem_of_mem_take hr)
    · rcases List.mem_append.1 hr with hr | hr
      · exact hV r hr
      · exact h4 r (List.mem_of_mem_drop hr)
  refine ⟨cur', g1, by omega, by rw [spl_len hp]; exact h3, hlen, ?_⟩
  intro i r hr j v hv
  have hj : j < sz := by
    have := hlen r (List.mem_of_getElem? hr)
    have := (List.getElem?_eq_some_iff.1 hv).1
    omega
  rw [spl_at hp] at hr
  have out : ∀ (_ : R[i]? = some r), (i < p ∨ p + V.length ≤ i) → cur'[i * sz + j]? = some v := by
    intro hr hi
    rw [g3 _ ?_]
    · exact h5 i r hr j v hv
    · rw [hfl]
      rcases hi with hi | hi
      · left
        have : (i + 1) * sz ≤ p * sz := Nat.mul_le_mul_right _ hi
        rw [Nat.add_mul] at this
        omega
      · right
        have : (p + V.length) * sz ≤ i * sz := Nat.mul_le_mul_right _ hi
        rw [Nat.add_mul] at this
        omega
  split at hr
  · exact out hr (.inl (by assumption))
  · rename_i hi1
    split at hr
    · rename_i hi2
      have e : i * sz + j = p * sz + ((i - p) * sz + j) := by
        rw [← Nat.add_assoc, ← Nat.add_mul]
        congr 2
        omega
      rw [e]
      refine g4 _ v ?_
      rw [flatten_at hsz V hV]
      have d1 : ((i - p) * sz + j) / sz = i - p := by rw [Nat.mul_comm, Nat.mul_add_div hsz, Nat.div_eq_of_lt hj]; rfl
      have d2 : ((i - p) * sz + j) % sz = j := by rw [Nat.mul_comm, Nat.mul_add_mod, Nat.mod_eq_of_lt hj]
      rw [d1, d2, hr]
      exact hv
    · exact out hr (.inr (by omega))
/-- All rows of the block. -/
theorem Rows.full {cap : Nat} (h : Rows w b t (cap * sz) sz R) (hc : R.length ≤ cap) : ∃ F : List (List Value), F.length = cap ∧ Rows w b t (cap * sz) sz F ∧ F.take R.length = R := by
  obtain ⟨cur, h1, h2, h3, h4, h5⟩ := h
  have fit : ∀ i, i < cap → i * sz + sz ≤ cur.size := fun i hi => by
    have : (i + 1) * sz ≤ cap * sz := Nat.mul_le_mul_right _ hi
    rw [Nat.add_mul] at this
    omega
  have hrow : ∀ i, i < cap → ((List.range cap).map fun i => (cur.toList.drop (i * sz)).take sz)[i]? = some ((cur.toList.drop (i * sz)).take sz) := fun i hi => by
    rw [List.getElem?_map, List.getElem?_range hi]
    rfl
  refine ⟨(List.range cap).map fun i => (cur.toList.drop (i * sz)).take sz, by simp, ⟨cur, h1, h2, by simp, ?_, ?_⟩, ?_⟩
  · intro r hr
    simp only [List.mem_map, List.mem_range] at hr
    obtain ⟨i, hi, rfl⟩ := hr
    have := fit i hi
    rw [List.length_take, List.length_drop, Array.length_toList]
    omega
  · intro i r hr j v hv
    have hi : i < cap := by
      have := (List.getElem?_eq_some_iff.1 hr).1
      simpa using this
    rw [hrow i hi] at hr
    simp only [Option.some.injEq] at hr
    subst hr
    rw [List.getElem?_take] at hv
    split at hv
    · rw [List.getElem?_drop, Array.getElem?_toList] at hv
      exact hv
    · cases hv
  · apply List.ext_getElem?
    intro i
    rw [List.getElem?_take]
    split
    · rename_i hi
      rw [hrow i (by omega), List.getElem?_eq_getElem hi]
      congr 1
      have hl := h4 _ (List.getElem_mem hi)
      apply List.ext_getElem?
      intro j
      rw [List.getElem?_take]
      split
      · rename_i hj
        rw [List.getElem?_drop, Array.getElem?_toList, List.getElem?_eq_getElem (by omega)]
        exact h5 i _ (List.getElem?_eq_getElem hi) j _ (List.getElem?_eq_getElem (by omega))
      · rw [List.getElem?_eq_none (by omega)]
    · rw [List.getElem?_eq_none (by omega)]
/-- What a part of the rows reads as. -/
theorem Rows.read (h : Rows w b t tot sz F) (hsz : 0 < sz) {p : Nat} (hX : ∀ k r, X[k]? = some r → F[p + k]? = some r) (hl : ∀ r ∈ X, r.length = sz) :
    ∀ j v, X.flatten[j]? = some v → w.cell? ((⟨b, p * sz, Option.none⟩ : Addr).add j) = some v := by
  intro j v hv
  rw [flatten_at hsz X hl] at hv
  cases hx : X[j / sz]? with
  | none => rw [hx] at hv; simp at hv
  | some r =>
    rw [hx] at hv
    simp only [Option.bind_some] at hv
    have := h.range (hX _ r hx) (j % sz) v hv
    have e : (⟨b, p * sz, Option.none⟩ : Addr).add j = ⟨b, (p + j / sz) * sz + j % sz, Option.none⟩ := by
      rw [Addr.add_lit, Nat.add_mul, Nat.add_assoc, Nat.div_add_mod']
    rw [e]
    exact this
end
section
variable {P : Program} {ops : Array Oper} {rest : List Oper} {o : Oper} {a : Act} {w : World} {Q : Exit → Act → World → Prop} {K : Act → World → Prop} {E : Prop}
theorem run_copy_rows (w : World) (dT sT ty elem : TypeId) (sz : Nat) (hu : P.underlying dT = some (.slice elem)) (hs : (P.info? elem).map (·.size) = some sz)
    (dp sp : Option Addr) (dLen dCap sLen sCap : Nat) {b p tot : Nat} {t : TypeId} {F X : List (List Value)} (hF : Rows w b t tot sz F) (hX : X.length = Nat.min sLen dLen) (hd : p + X.length ≤ F.length) (hl : ∀ r ∈ X, r.length = sz) (h1 : ∀ r ∈ X, ∀ c ∈ r, c.oneCell' = true)
    (hpos : 0 < X.length → dp = some ⟨b, p * sz, none⟩ ∧ ∃ ad, sp = some ad ∧ ∀ j v, X.flatten[j]? = some v → w.cell? (ad.add j) = some v) :
    (Builtin.copy_ #[dT, sT] ty #[.slice dp dLen dCap, .slice sp sLen sCap]).run P w = .ok (goInt X.length) (w.setCells b (p * sz) X.flatten) := by
  have hfl := length_flat X hl
  cases hq : P.info? elem with
  | none => simp [hq] at hs
  | some i =>
    have hi : i.size = sz := by simpa [hq] using hs
    by_cases h0 : X.length = 0
    · obtain rfl : X = [] := List.eq_nil_of_length_eq_zero h0
      have hn : Nat.min sLen dLen = 0 := by simpa using hX.symm
      have hl0 : ∀ (x : Addr), (loadCells x 0).run P w = .ok #[] w := fun x => by simpa using run_loadCells_list (P := P) w x [] (by simp)
      cases dp <;> cases sp <;> simp [Builtin.copy_, run_underlying hu, Builtin.lenOf, Builtin.firstCells, sizeOf, typeInfo, hq, hn, storeCells, hl0, World.setCells]
    · obtain ⟨rfl, ad, rfl, hsrc⟩ := hpos (by omega)
      have hbd := hF.bound
      have hle : (p + X.length) * sz ≤ F.length * sz := Nat.mul_le_mul_right _ hd
      rw [Nat.add_mul] at hle
      have hth : w.there b (p * sz) (X.length * sz) := hF.there_at (by omega)
      have hld := run_loadCells_list (P := P) w ad X.flatten hsrc
      rw [hfl] at hld
      have hst := run_storeCells_cells (P := P) b (p * sz) X.flatten 0 w (fun j hj => by simpa using (hth j (by omega)).1) (fun j hj => by simpa using (hth j (by omega)).2) (fun v hv => by
        obtain ⟨r, hr, hvr⟩ := List.mem_flatten.1 hv
        exact h1 r hr v hvr)
      simp only [Nat.add_zero] at hst
      simp [Builtin.copy_, run_underlying hu, Builtin.lenOf, Builtin.firstCells, sizeOf, typeInfo, hq, hi, ← hX, hld, hst]
theorem copy_rows (hgd : o.guard = none) (d s : Operand) (dT sT elem : TypeId) (sz : Nat) (ho : o.op = .call { callee := .builtin .copy, args := #[d, s], argTypes := #[dT, sT] })
    (hu : P.underlying dT = some (.slice elem)) (hs : (P.info? elem).map (·.size) = some sz) (hsz : 0 < sz) {b p tot : Nat} {t : TypeId} {F : List (List Value)} (X : List (List Value)) (hF : Hid (Rows w b t tot sz F)) (hd : p + X.length ≤ F.length)
    (dp sp : Option Addr) (dLen dCap sLen sCap : Nat) (hdv : a.eval d = .slice dp dLen dCap) (hsv : a.eval s = .slice sp sLen sCap) (hX : X.length = Nat.min sLen dLen) (hl : ∀ r ∈ X, r.length = sz) (h1 : ∀ r ∈ X, ∀ c ∈ r, c.oneCell' = true)
    (hpos : 0 < X.length → dp = some ⟨b, p * sz, none⟩ ∧ ∃ ad, sp = some ad ∧ ∀ j v, X.flatten[j]? = some v → w.cell? (ad.add j) = some v)
    (h : ∀ w', Hid (Rows w' b t tot sz (spl F p X)) → Hid (Kept (fun x => x = b) w w') → wpList P ops Q rest (a.put o.dst (goInt X.length)) w') : wpList P ops Q (o :: rest) a w := by
  refine wpList_plain hgd fun K hK => ?_
  have hr := run_copy_rows (P := P) w dT sT o.type elem sz hu hs dp sp dLen dCap sLen sCap hF.out hX hd hl h1 hpos
  unfold Oper.wp execOp
  simp only [ho, resolve, invoke, builtin, Sem.run_bind, Sem.run_pure, Result.andThen_ok, List.map_toArray, List.map_cons, List.map_nil, hdv, hsv, hr]
  exact hK _ _ (h _ (show Rows _ _ _ _ _ _ from hF.out.spl hsz hd hl) (show Kept _ _ _ from Kept.setCells (F := fun x => x = b) (.inl rfl) _ _ _ (Kept.refl _ _)))
theorem step_copy_rows (hgd : o.guard = none) (d s : Operand) (dT sT elem : TypeId) (sz : Nat) (ho : o.op = .call { callee := .builtin .copy, args := #[d, s], argTypes := #[dT, sT] })
    (hu : P.underlying dT = some (.slice elem)) (hs : (P.info? elem).map (·.size) = some sz) (hsz : 0 < sz) {b p tot : Nat} {t : TypeId} {F : List (List Value)} (X : List (List Value)) (hF : Hid (Rows w b t tot sz F)) (hd : p + X.length ≤ F.length)
    (dp sp : Option Addr) (dLen dCap sLen sCap : Nat) (hdv : a.eval d = .slice dp dLen dCap) (hsv : a.eval s = .slice sp sLen sCap) (hX : X.length = Nat.min sLen dLen) (hl : ∀ r ∈ X, r.length = sz) (h1 : ∀ r ∈ X, ∀ c ∈ r, c.oneCell' = true)
    (hpos : 0 < X.length → dp = some ⟨b, p * sz, none⟩ ∧ ∃ ad, sp = some ad ∧ ∀ j v, X.flatten[j]? = some v → w.cell? (ad.add j) = some v)
    (h : ∀ w', Hid (Rows w' b t tot sz (spl F p X)) → Hid (Kept (fun x => x = b) w w') → K (a.put o.dst (goInt X.length)) w') : if Region.wanted o (yielded ops a.tmps) = true then Oper.wp P o a w K Q else E := by
  have hw : Region.wanted o (yielded ops a.tmps) = true := by simp [Region.wanted, hgd]
  rw [if_pos hw]
  have hr := run_copy_rows (P := P) w dT sT o.type elem sz hu hs dp sp dLen dCap sLen sCap hF.out hX hd hl h1 hpos
  unfold Oper.wp execOp
  simp only [ho, resolve, invoke, builtin, Sem.run_bind, Sem.run_pure, Result.andThen_ok, List.map_toArray, List.map_cons, List.map_nil, hdv, hsv, hr]
  exact h _ (show Rows _ _ _ _ _ _ from hF.out.spl hsz hd hl) (show Kept _ _ _ from Kept.setCells (F := fun x => x = b) (.inl rfl) _ _ _ (Kept.refl _ _))

/-- 'append(s, u...)', s in a block: it stays there, or lies in a new one. -/
theorem append_rowsK (hgd : o.guard = none) (s x : Operand) (T e : TypeId) (i : TypeInfo) (z : Value) (sz bytes : Nat) (ho : o.op = .call { callee := .builtin .append, args := #[s, x], argTypes := #[T, T] })
    (hT : P.underlying T = some (.slice e)) (hi : P.info? e = some i) (hz : i.zero = some z) (hsize : i.size = sz) (hby : i.bytes = bytes) (hzs : z.cells.size = sz) (hsz : 0 < sz) (hbl : bytes ≤ 200)
    {g n cap : Nat} {u : Value} {R1 R2 : List (List Value)} (hs : a.eval s = .slice (some ⟨g, 0, none⟩) n cap) (hx : a.eval x = u) (hv : SRows w (.slice (some ⟨g, 0, none⟩) n cap) e sz R1) (hu : SRows w u e sz R2) (hn : R1.length = n)
    (h1 : ∀ r ∈ R2, ∀ c ∈ r, c.oneCell' = true) (m : Nat) (hm : n + R2.length = m) (R : List (List Value)) (hR : R1 ++ R2 = R) (hl : m ≤ 1000000)
    (h : ∀ g' cap' w', Hid (SRows w' (.slice (some ⟨g', 0, none⟩) m cap') e sz R) → Hid (g' = g ∧ cap' = cap ∨ w.heap.size ≤ g' ∧ cap < m) → Hid (Kept (fun x => x = g) w w') → wpList P ops Q rest (a.put o.dst (.slice (some ⟨g', 0, none⟩) m cap')) w') :
    wpList P ops Q (o :: rest) a w := by
  subst hm hR hn
  have hown := srows_own_base hv hsz (B := 0) (fun _ _ => Nat.zero_le _)
  have hlens : ∀ r ∈ R1 ++ R2, r.length = sz := fun r hr => by
    rcases List.mem_append.1 hr with hr | hr
    · exact hv.rowlen r hr
    · exact hu.rowlen r hr
  rcases hu with ⟨rfl, rfl⟩ | ⟨g2, cap2, rfl, hc1, hc2, hrows⟩
  · have hrun := run_append_owned_none (P := P) w 0 T (o.type) e i sz hT hi _ R1.length _ hown
    simp only [List.append_nil, List.length_nil, Nat.add_zero] at h
    refine wpList_plain hgd fun K hK => ?_
    unfold Oper.wp execOp
    simp only [ho, resolve, invoke, builtin, Sem.run_bind, Sem.run_pure, Result.andThen_ok, List.map_toArray, List.map_cons, List.map_nil, hs, hx, hrun]
    exact hK _ _ (h g cap w (show SRows _ _ _ _ _ from hv) (show _ ∨ _ from .inl ⟨rfl, rfl⟩) (show Kept _ _ _ from Kept.refl _ _))
  · have hus : SRows w (.slice (some ⟨g2, 0, none⟩) R2.length cap2) e sz R2 := .inr ⟨g2, cap2, rfl, hc1, hc2, hrows⟩
    have hnews : ∀ j u, R2.flatten[j]? = some u → w.cell? ((⟨g2, 0, none⟩ : Addr).add j) = some u := (hus.own hsz).cells rfl
    have hone : ∀ u ∈ R2.flatten, u.oneCell' = true := by
      intro u hu
      obtain ⟨r, hr, hur⟩ := List.mem_flatten.1 hu
      exact h1 r hr u hur
    have h63 : R1.length + R2.length ≤ maxLen := by unfold maxLen; omega
    have hbytes : (R1.length + R2.length) * bytes ≤ 140737488355328 := by
      have : (R1.length + R2.length) * bytes ≤ 1000000 * 200 := Nat.mul_le_mul hl hbl
      omega
    obtain ⟨v', w', hr, hown', hgrow, _⟩ := run_append_own (P := P) w 0 T o.type e i z sz bytes hT hi hz hsize hby hzs hsz _ R1.length R1.flatten hown ⟨g2, 0, none⟩ R2.length cap2 R2.flatten (length_flat R2 hus.rowlen) hnews hone h63 hbytes (Nat.zero_le _)
    obtain ⟨cap', cur, hv2, hc, hcl, hg, hcur⟩ : ∃ cap' cur, (Value.slice (some ⟨g, 0, none⟩) R1.length cap : Value) = .slice (some ⟨g, 0, none⟩) R1.length cap' ∧ R1.length ≤ cap' ∧ cap' ≤ maxLen ∧ w.heap[g]? = some (.cells cur e (0, 0)) ∧ cur.size = cap' * sz := by
      rcases hv with ⟨hq, _⟩ | ⟨g', cap', hq, q1, q2, cur, q3, q4, _⟩
      · simp at hq
      · simp only [Value.slice.injEq, Option.some.injEq, Addr.mk.injEq, and_true] at hq
        obtain ⟨rfl, _, rfl⟩ := hq
        exact ⟨cap, cur, rfl, q1, q2, q3, q4⟩
    simp only [Value.slice.injEq, true_and] at hv2
    subst hv2
    have hwhere : ∃ g' cap', v' = .slice (some ⟨g', 0, none⟩) (R1.length + R2.length) cap' ∧ (g' = g ∧ cap' = cap ∨ w.heap.size ≤ g' ∧ cap < R1.length + R2.length) := by
      subst hsize
      subst hby
      by_cases hroom : R1.length + R2.length ≤ cap
      · have hfit : R1.length * i.size + R2.flatten.length ≤ cur.size := by
          rw [length_flat R2 hus.rowlen, hcur, ← Nat.add_mul]
          exact Nat.mul_le_mul_right _ hroom
        have hr2 := run_append_room (P := P) w T o.type e i hT hi g R1.length cap cur hg ⟨g2, 0, none⟩ R2.length cap2 R2.flatten (length_flat R2 hus.rowlen) hnews hone hroom hfit
        rw [hr2] at hr
        simp only [Result.ok.injEq] at hr
        exact ⟨g, cap, hr.1.symm, .inl ⟨rfl, rfl⟩⟩
      · have hr2 := run_append_grow (P := P) w T o.type e i z hT hi hz ⟨g, 0, none⟩ R1.length cap R1.flatten hown.1 (hown.cells (g := g) rfl) ⟨g2, 0, none⟩ R2.length cap2 R2.flatten (length_flat R2 hus.rowlen) hnews (by omega) (by unfold maxLen at h63; omega) (growslice_fits (by omega) hbytes)
        rw [hr2] at hr
        simp only [Result.ok.injEq] at hr
        exact ⟨w.heap.size, _, hr.1.symm, .inr ⟨Nat.le_refl _, by omega⟩⟩
    obtain ⟨g', cap', rfl, hgg⟩ := hwhere
    refine wpList_plain hgd fun K hK => ?_
    unfold Oper.wp execOp
    simp only [ho, resolve, invoke, builtin, Sem.run_bind, Sem.run_pure, Result.andThen_ok, List.map_toArray, List.map_cons, List.map_nil, hs, hx, hr]
    refine hK _ _ (h g' cap' w' (show SRows _ _ _ _ _ from srows_of_own hown' (by rw [List.flatten_append]) hlens hsz (by simp)) (show _ ∨ _ from hgg) (show Kept _ _ _ from (Kept.refl _ w).grown hgrow ?_))
    intro k hk
    simp [Value.ownBlock] at hk
    exact .inl hk.symm
/-- 'append(s, make(S, k)...)' without room: a new block of the old rows and others. -/
theorem append_zerosK (hgd : o.guard = none) (s x : Operand) (T Tn e : TypeId) (i : TypeInfo) (z : Value) (sz bytes : Nat) (ho : o.op = .call { callee := .builtin .append, args := #[s, x], argTypes := #[T, Tn] })
    (hT : P.underlying T = some (.slice e)) (hTn : P.underlying Tn = some (.int .i64)) (hi : P.info? e = some i) (hz : i.zero = some z) (hsize : i.size = sz) (hby : i.bytes = bytes) (hzs : z.cells.size = sz) (hsz : 0 < sz) (hbl : bytes ≤ 200)
    {g n cap : Nat} {R1 : List (List Value)} (hs : a.eval s = .slice (some ⟨g, 0, none⟩) n cap) (k : Nat) (hx : a.eval x = .int .i64 k) (hv : SRows w (.slice (some ⟨g, 0, none⟩) n cap) e sz R1) (hn : R1.length = n) (hk : 0 < k) (hno : cap < n + k)
    (m : Nat) (hm : n + k = m) (hl : m ≤ 1000000)
    (h : ∀ cap' w' F, Hid (Rows w' w.heap.size e (cap' * sz) sz F) → Hid (F.length = cap' ∧ F.take n = R1 ∧ m ≤ cap' ∧ cap' ≤ maxLen) → Hid (Kept (fun _ => False) w w') → wpList P ops Q rest (a.put o.dst (.slice (some ⟨w.heap.size, 0, none⟩) m cap')) w') :
    wpList P ops Q (o :: rest) a w := by
  subst hm hn hsize hby
  have hown := srows_own_base hv hsz (B := 0) (fun _ _ => Nat.zero_le _)
  have holds : ∀ j u, R1.flatten[j]? = some u → w.drew.cell? ((⟨g, 0, none⟩ : Addr).add j) = some u := hown.cells (g := g) rfl
  have hold := run_firstCells_some (P := P) w.drew i.size R1.length ⟨g, 0, none⟩ R1.length cap R1.flatten hown.1 holds
  have hkb : k * i.bytes ≤ 1000000 * 200 := Nat.mul_le_mul (by omega) hbl
  have hsb : (R1.length + k) * i.bytes ≤ 1000000 * 200 := Nat.mul_le_mul hl hbl
  have hr := Lib.run_append_grow_zeros (P := P) w T Tn o.type e i z .i64 .i64 hT hTn hi hz (some ⟨g, 0, none⟩) R1.length cap R1.flatten hold k hk hsz hno (by omega) (by omega) (growslice_fits (by omega) (by omega))
  have hge := grownCap_ge w (R1.length + k) cap e
  have hcm := grownCap_le_maxLen w (R1.length + k) cap e (by unfold maxLen; omega)
  obtain ⟨G, hG⟩ : ∃ G, G = grownCap w (R1.length + k) cap e := ⟨_, rfl⟩
  rw [← hG] at hr hge hcm
  have hrows : Rows (w.drew.alloc (.cells (R1.flatten.toArray ++ Builtin.zeroCells z.cells k ++ Builtin.zeroCells z.cells (G - (R1.length + k))) e)) w.heap.size e (G * i.size) i.size R1 := by
    refine ⟨_, heap_alloc_last w.drew _, ?_, Nat.mul_le_mul_right _ (by omega), hv.rowlen, ?_⟩
    · simp only [Array.size_append, List.size_toArray, size_zeroCells, hzs, length_flat R1 hv.rowlen, ← Nat.add_mul]
      congr 1
      omega
    · intro q r hq j v hj
      have hlen : j < i.size := by
        have := hv.rowlen r (List.mem_of_getElem? hq)
        have := (List.getElem?_eq_some_iff.1 hj).1
        omega
      have hq' : q < R1.length := (List.getElem?_eq_some_iff.1 hq).1
      have hb : q * i.size + j < R1.flatten.length := by
        rw [length_flat R1 hv.rowlen]
        have : (q + 1) * i.size ≤ R1.length * i.size := Nat.mul_le_mul_right _ hq'
        rw [Nat.add_mul] at this
        omega
      rw [Array.getElem?_append_left (by simp only [Array.size_append, List.size_toArray]; omega), Array.getElem?_append_left (by simpa using hb), List.getElem?_toArray, flatten_at hsz R1 hv.rowlen]
      have d1 : (q * i.size + j) / i.size = q := by rw [Nat.mul_comm, Nat.mul_add_div hsz, Nat.div_eq_of_lt hlen]; rfl
      have d2 : (q * i.size + j) % i.size = j := by rw [Nat.mul_comm, Nat.mul_add_mod, Nat.mod_eq_of_lt hlen]
      rw [d1, d2, hq]
      exact hj
  obtain ⟨F, hF1, hF2, hF3⟩ := hrows.full (by omega)
  refine wpList_plain hgd fun K hK => ?_
  unfold Oper.wp execOp
  simp only [ho, resolve, invoke, builtin, Sem.run_bind, Sem.run_pure, Result.andThen_ok, List.map_toArray, List.map_cons, List.map_nil, hs, hx, hr]
  exact hK _ _ (h G _ F (show Rows _ _ _ _ _ _ from hF2) (show _ ∧ _ from ⟨hF1, hF3, hge, hcm⟩) (show Kept _ _ _ from (Kept.refl _ w).drew.alloc _))
/-- 'clear(s)', s in a block: what stands ahead of it stays. -/
theorem clear_rows (hgd : o.guard = none) (x : Operand) (T e : TypeId) (z : Array Value) (sz : Nat) (ho : o.op = .call { callee := .builtin .clear, args := #[x], argTypes := #[T] })
    (hT : P.underlying T = some (.slice e)) (hv : ∀ w, (zeroValue e).run P w = .ok (.agg z) w) (hz : z.size = sz) (hsz : 0 < sz) (h1 : z.all (·.oneCell') = true)
    {b q tot : Nat} {t : TypeId} {F : List (List Value)} (hF : Hid (Rows w b t tot sz F)) (p : Option Addr) (n c : Nat) (hx : a.eval x = .slice p n c) (hp : 0 < n → p = some ⟨b, q * sz, none⟩) (hd : q + n ≤ F.length)
    (h : ∀ w', Hid (Rows w' b t tot sz (F.take q)) → Hid (Kept (fun x => x = b) w w') → wpList P ops Q rest (a.put o.dst (.tuple #[])) w') : wpList P ops Q (o :: rest) a w := by
  refine wpList_plain hgd fun K hK => ?_
  cases n with
  | zero =>
    have hr : (Builtin.clear_ #[T] o.type #[.slice p 0 c]).run P w = .ok (.tuple #[]) w := by
      cases p <;> simp [Builtin.clear_, run_underlying hT]
    unfold Oper.wp execOp
    simp only [ho, resolve, invoke, builtin, Sem.run_bind, Sem.run_pure, Result.andThen_ok, List.map_toArray, List.map_cons, List.map_nil, hx, hr]
    exact hK _ _ (h w (show Rows _ _ _ _ _ _ from hF.out.take q) (show Kept _ _ _ from Kept.refl _ _))
  | succ n =>
    obtain rfl := hp (by omega)
    have hbd := hF.out.bound
    have hle : (q + (n + 1)) * sz ≤ F.length * sz := Nat.mul_le_mul_right _ hd
    rw [Nat.add_mul] at hle
    have hth : w.there b (q * sz) ((n + 1) * sz) := hF.out.there_at (by omega)
    have hlen : (Builtin.zeroCells z (n + 1)).toList.length = (n + 1) * sz := by simp [Builtin.zeroCells, hz]
    have hst := run_storeCells_cells (P := P) b (q * sz) (Builtin.zeroCells z (n + 1)).toList 0 w (fun j hj => by simpa using (hth j (by omega)).1) (fun j hj => by simpa using (hth j (by omega)).2) (fun v hv' => by
      simp [Builtin.zeroCells] at hv'
      obtain ⟨i, _, rfl⟩ := hv'
      have hlt : i % z.size < z.size := Nat.mod_lt _ (by omega)
      rw [getElem!_pos z _ hlt]
      rw [Array.all_eq_true] at h1
      exact h1 _ hlt)
    simp only [Nat.add_zero] at hst
    have hcl : (Value.agg z).cells = z := rfl
    have hr : (Builtin.clear_ #[T] o.type #[.slice (some ⟨b, q * sz, none⟩) (n + 1) c]).run P w = .ok (.tuple #[]) (w.setCells b (q * sz) (Builtin.zeroCells z (n + 1)).toList) := by
      simp [Builtin.clear_, run_underlying hT, hv, hcl, hst]
    unfold Oper.wp execOp
    simp only [ho, resolve, invoke, builtin, Sem.run_bind, Sem.run_pure, Result.andThen_ok, List.map_toArray, List.map_cons, List.map_nil, hx, hr]
    have hlt : (F.take q).length = q := by rw [List.length_take]; omega
    exact hK _ _ (h _ (show Rows _ _ _ _ _ _ from (hF.out.take q).behind _ (by rw [hlt]; exact Nat.le_refl _) (by rw [hlen]; omega)) (show Kept _ _ _ from Kept.setCells (F := fun x => x = b) (.inl rfl) _ _ _ (Kept.refl _ _)))
end
end Go.Proofs.Ytflabcmjbhmphaa
/-
  'append(v, u...)' of rows, v the call's own or nil, u any part of a row: where the result lies, what it turns. No program is spoken of.
-/
namespace Go.Proofs.Ytflabcmjbhmphaa
open Go.RowKit

section
variable {P : Program} {ops : Array Oper} {rest : List Oper} {o : Oper} {a : Act} {w : World} {Q : Exit → Act → World → Prop}
theorem append_any (hgd : o.guard = none) (s x : Operand) (T e : TypeId) (i : TypeInfo) (z : Value) (sz bytes : Nat) (ho : o.op = .call { callee := .builtin .append, args := #[s, x], argTypes := #[T, T] })
    (hT : P.underlying T = some (.slice e)) (hi : P.info? e = some i) (hz : i.zero = some z) (hsize : i.size = sz) (hby : i.bytes = bytes) (hzs : z.cells.size = sz) (hsz : 0 < sz) (hbl : bytes ≤ 200)
    {v : Value} {ad : Addr} {m2 c2 : Nat} {R1 R2 : List (List Value)} (hs : a.eval s = v) (hx : a.eval x = .slice (some ad) m2 c2) (hv : SRows w v e sz R1) (hl2 : R2.length = m2) (hr2 : ∀ r ∈ R2, r.length = sz)
    (hnews : ∀ (j : Nat) u, R2.flatten[j]? = some u → w.cell? (ad.add j) = some u) (h1 : ∀ r ∈ R2, ∀ c ∈ r, c.oneCell' = true) (m : Nat) (hm : R1.length + m2 = m) (R : List (List Value)) (hR : R1 ++ R2 = R) (hl : m ≤ 1000000)
    (h : ∀ va vc w', Hid (SRows w' (.slice va m vc) e sz R) → Hid (∀ k, (Value.slice va m vc).ownBlock = some k → v.ownBlock = some k ∨ w.heap.size ≤ k) → Hid (Kept (fun x => v.ownBlock = some x) w w') → wpList P ops Q rest (a.put o.dst (.slice va m vc)) w') :
    wpList P ops Q (o :: rest) a w := by
  subst hm hR hl2
  have hlens : ∀ r ∈ R1 ++ R2, r.length = sz := fun r hr => by
    rcases List.mem_append.1 hr with hr | hr
    · exact hv.rowlen r hr
    · exact hr2 r hr
  have hone : ∀ u ∈ R2.flatten, u.oneCell' = true := by
    intro u hu
    obtain ⟨r, hr, hur⟩ := List.mem_flatten.1 hu
    exact h1 r hr u hur
  have h63 : R1.length + R2.length ≤ maxLen := by unfold maxLen; omega
  have hbytes : (R1.length + R2.length) * bytes ≤ 140737488355328 := by
    have : (R1.length + R2.length) * bytes ≤ 1000000 * 200 := Nat.mul_le_mul hl hbl
    omega
  have hown := srows_own_base hv hsz (B := 0) (fun _ _ => Nat.zero_le _)
  obtain ⟨v', w', hr, hown', hgrow, _⟩ := run_append_own (P := P) w 0 T o.type e i z sz bytes hT hi hz hsize hby hzs hsz _ R1.length R1.flatten hown ad R2.length c2 R2.flatten (length_flat R2 hr2) hnews hone h63 hbytes (Nat.zero_le _)
  obtain ⟨⟨va, vc, rfl⟩, _⟩ := own_shape hown'
  have hwhere : ∀ k, (Value.slice va (R1.length + R2.length) vc).ownBlock = some k → v.ownBlock = some k ∨ w.heap.size ≤ k := by
    rcases hv with ⟨rfl, rfl⟩ | ⟨g, cap, rfl, hc1, hc2, cur, hg, hcur, _⟩
    · have hown2 := srows_own_base (w := w) (v := .slice none 0 0) (t := e) (sz := sz) (R := []) (.inl ⟨rfl, rfl⟩) hsz (B := w.heap.size) (noOwn _)
      obtain ⟨v2, w2, hr2', hown2', _, _⟩ := run_append_own (P := P) w w.heap.size T o.type e i z sz bytes hT hi hz hsize hby hzs hsz _ 0 [] hown2 ad R2.length c2 R2.flatten (length_flat R2 hr2) hnews hone (by simpa using h63) (by simpa using hbytes) (Nat.le_refl _)
      rw [hr2'] at hr
      simp only [Result.ok.injEq] at hr
      rw [hr.1] at hown2'
      intro k hk
      exact .inr ((own_shape hown2').2 k hk)
    · subst hsize
      subst hby
      by_cases hroom : R1.length + R2.length ≤ cap
      · have hfit : R1.length * i.size + R2.flatten.length ≤ cur.size := by
          rw [length_flat R2 hr2, hcur, ← Nat.add_mul]
          exact Nat.mul_le_mul_right _ hroom
        have hr3 := run_append_room (P := P) w T o.type e i hT hi g R1.length cap cur hg ad R2.length c2 R2.flatten (length_flat R2 hr2) hnews hone hroom hfit
        rw [hr3] at hr
        simp only [Result.ok.injEq, Value.slice.injEq] at hr
        obtain ⟨⟨rfl, _, rfl⟩, _⟩ := hr
        intro k hk
        exact .inl hk
      · have hr3 := run_append_grow (P := P) w T o.type e i z hT hi hz ⟨g, 0, none⟩ R1.length cap R1.flatten hown.1 (hown.cells (g := g) rfl) ad R2.length c2 R2.flatten (length_flat R2 hr2) hnews (by omega) (by unfold maxLen at h63; omega) (growslice_fits (by omega) hbytes)
        rw [hr3] at hr
        simp only [Result.ok.injEq, Value.slice.injEq] at hr
        obtain ⟨⟨rfl, _, rfl⟩, _⟩ := hr
        intro k hk
        simp [Value.ownBlock] at hk
        exact .inr (by omega)
  refine wpList_plain hgd fun K hK => ?_
  unfold Oper.wp execOp
  simp only [ho, resolve, invoke, builtin, Sem.run_bind, Sem.run_pure, Result.andThen_ok, List.map_toArray, List.map_cons, List.map_nil, hs, hx, hr]
  refine hK _ _ (h va vc w' (show SRows _ _ _ _ _ from srows_of_own hown' (by rw [List.flatten_append]) hlens hsz (by simp)) (show ∀ _, _ from hwhere) (show Kept _ _ _ from (Kept.refl _ w).grown hgrow (fun k hk => .inl hk)))
end
end Go.Proofs.Ytflabcmjbhmphaa
/-
  Tables, columns and projections, as they are read. Pure mathematics.
-/
namespace Go.Proofs.Ytflabcmjbhmphaa

structure Col where
  name : ByteArray
  kind : BitVec 64
  null : Bool
structure Pj where
  name : ByteArray
  cols : List (BitVec 64)
  keys : BitVec 64
structure Tb where
  name : ByteArray
  cols : List Col
  projs : List Pj
end Go.Proofs.Ytflabcmjbhmphaa
/-
  Slices of columns, projections and tables in memory, down to the last number: how they read. No program is spoken of.
-/
namespace Go.Proofs.Ytflabcmjbhmphaa
open Go.RowKit

theorem ret_int {k : IntKind} {a b : Int} (h : a = b) : Ending.returned (.int k a) = .returned (.int k b) := by rw [h]
theorem ret_bool {a b : Bool} (h : a = b) : Ending.returned (.bool a) = .returned (.bool b) := by rw [h]
/-- A slice reads as l; E: which cells an element has, of which there are sz. -/
def SlIs {α : Type} (E : World → α → List Value → Prop) (sz : Nat) (w : World) (v : Value) (l : List α) : Prop :=
  ∃ a cap, v = .slice a l.length cap ∧ l.length ≤ cap ∧ (l ≠ [] → ∃ b off, a = some ⟨b, off, none⟩ ∧ b < w.heap.size ∧
    ∀ (i : Nat) (x : α), l[i]? = some x → ∃ cs : List Value, cs.length = sz ∧ E w x cs ∧ ∀ (j : Nat) (u : Value), cs[j]? = some u → w.cell? ⟨b, off + i * sz + j, none⟩ = some u)
/-- What is told of an element stays when memory is made. -/
def Stays {α : Type} (E : World → α → List Value → Prop) : Prop := ∀ (w w' : World) (x : α) (cs : List Value), E w x cs → Below w.heap.size w w' → E w' x cs
section
variable {α : Type} {E : World → α → List Value → Prop} {sz : Nat} {w w' : World} {v : Value} {l : List α} {a : Option Addr} {n cap : Nat}
theorem SlIs.over (h : SlIs E sz w v l) (hE : Stays E) (k : Below w.heap.size w w') : SlIs E sz w' v l := by
  obtain ⟨a, cap, rfl, hcap, h⟩ := h
  refine ⟨a, cap, rfl, hcap, fun hl => ?_⟩
  obtain ⟨b, off, rfl, hb, hc⟩ := h hl
  refine ⟨b, off, rfl, Nat.lt_of_lt_of_le hb k.size, fun i x hi => ?_⟩
  obtain ⟨cs, h1, h2, h3⟩ := hc i x hi
  exact ⟨cs, h1, hE _ _ _ _ h2 k, fun j u hu => (k.cell (p := ⟨b, off + i * sz + j, none⟩) hb).trans (h3 j u hu)⟩
theorem SlIs.slice (h : SlIs E sz w v l) : ∃ a n cap, v = .slice a n cap ∧ l.length = n ∧ n ≤ cap := by
  obtain ⟨a, cap, rfl, hcap, _⟩ := h
  exact ⟨a, _, cap, rfl, rfl, hcap⟩
theorem SlIs.len (h : SlIs E sz w (.slice a n cap) l) : l.length = n ∧ n ≤ cap := by
  obtain ⟨a, cap, e, hcap, h⟩ := h
  cases e
  exact ⟨rfl, hcap⟩
theorem slIs_nil (E : World → α → List Value → Prop) (sz : Nat) (w : World) (a : Option Addr) (cap : Nat) : SlIs E sz w (.slice a 0 cap) [] := ⟨a, cap, rfl, Nat.zero_le _, fun h => absurd rfl h⟩
theorem SlIs.lies (h : SlIs E sz w (.slice a n cap) l) (hl : l ≠ []) : ∃ b off, a = some ⟨b, off, none⟩ ∧ b < w.heap.size ∧
    ∀ (i : Nat) (x : α), l[i]? = some x → ∃ cs : List Value, cs.length = sz ∧ E w x cs ∧ ∀ (j : Nat) (u : Value), cs[j]? = some u → w.cell? ⟨b, off + i * sz + j, none⟩ = some u := by
  obtain ⟨a, cap, e, hcap, h⟩ := h
  cases e
  exact h hl
/-- The element at k. -/
theorem SlIs.at (h : SlIs E sz w (.slice a n cap) l) {k : Nat} (hk : k < n) : ∃ (x : α) (cs : List Value) (b off : Nat), l[k]? = some x ∧ a = some ⟨b, off, none⟩ ∧ b < w.heap.size ∧ cs.length = sz ∧ E w x cs ∧ ∀ (j : Nat) (u : Value), cs[j]? = some u → w.cell? ⟨b, off + k * sz + j, none⟩ = some u := by
  obtain ⟨hl, _⟩ := h.len
  have hs : l[k]? = some l[k] := List.getElem?_eq_getElem (by omega)
  obtain ⟨b, off, rfl, hb, hall⟩ := h.lies (by rintro rfl; simp at hl; omega)
  obtain ⟨cs, h1, h2, h3⟩ := hall k _ hs
  exact ⟨_, cs, b, off, hs, rfl, hb, h1, h2, h3⟩
theorem SlIs.take (h : SlIs E sz w (.slice a n cap) l) {k : Nat} (hk : k ≤ n) : SlIs E sz w (.slice a k cap) (l.take k) := by
  have hn := h.len
  refine ⟨a, cap, by rw [List.length_take, Nat.min_eq_left (by omega)], by rw [List.length_take]; omega, fun hl => ?_⟩
  have hne : l ≠ [] := by rintro rfl; simp at hl
  obtain ⟨b, off, rfl, hb, hall⟩ := h.lies hne
  refine ⟨b, off, rfl, hb, fun i x hi => ?_⟩
  rw [List.getElem?_take] at hi
  split at hi
  · exact hall i x hi
  · cases hi
end

abbrev colC (c : Col) : List Value := [.string c.name, .int .i64 c.kind.toInt, .bool c.null]
def ColE (_ : World) (c : Col) (cs : List Value) : Prop := cs = colC c
def IntE (_ : World) (x : BitVec 64) (cs : List Value) : Prop := cs = [.int .i64 x.toInt]
def ByE (_ : World) (x : UInt8) (cs : List Value) : Prop := cs = [.int .u8 (x.toNat : Int)]
abbrev IntsIs (w : World) (v : Value) (l : List (BitVec 64)) : Prop := SlIs IntE 1 w v l
abbrev ColsIs (w : World) (v : Value) (l : List Col) : Prop := SlIs ColE 3 w v l
def PjE (w : World) (p : Pj) (cs : List Value) : Prop := ∃ v, cs = [.string p.name, v, .int .i64 p.keys.toInt] ∧ IntsIs w v p.cols
abbrev PjsIs (w : World) (v : Value) (l : List Pj) : Prop := SlIs PjE 3 w v l
def TbE (w : World) (t : Tb) (cs : List Value) : Prop := ∃ vc vp, cs = [.string t.name, vc, vp] ∧ ColsIs w vc t.cols ∧ PjsIs w vp t.projs
abbrev TabsIs (w : World) (v : Value) (l : List Tb) : Prop := SlIs TbE 3 w v l
theorem stays_int : Stays IntE := fun _ _ _ _ h _ => h
theorem stays_by : Stays ByE := fun _ _ _ _ h _ => h
theorem stays_col : Stays ColE := fun _ _ _ _ h _ => h
theorem stays_pj : Stays PjE := fun _ _ _ _ ⟨v, h1, h2⟩ k => ⟨v, h1, h2.over stays_int k⟩
theorem stays_tb : Stays TbE := fun _ _ _ _ ⟨vc, vp, h1, h2, h3⟩ k => ⟨vc, vp, h1, h2.over stays_col k, h3.over stays_pj k⟩

theorem one_col {w : World} {c : Col} {cs : List Value} (h : ColE w c cs) : ∀ u ∈ cs, u.oneCell' = true := by
  have e : cs = colC c := h
  subst e
  intro u hu
  simp only [colC, List.mem_cons, List.not_mem_nil, or_false] at hu
  rcases hu with rfl | rfl | rfl <;> rfl
theorem one_pj {w : World} {c : Pj} {cs : List Value} (h : PjE w c cs) : ∀ u ∈ cs, u.oneCell' = true := by
  obtain ⟨v, rfl, hv⟩ := h
  obtain ⟨a, n, cap, rfl, _⟩ := hv.slice
  intro u hu
  simp only [List.mem_cons, List.not_mem_nil, or_false] at hu
  rcases hu with rfl | rfl | rfl <;> rfl
theorem one_tb {w : World} {c : Tb} {cs : List Value} (h : TbE w c cs) : ∀ u ∈ cs, u.oneCell' = true := by
  obtain ⟨vc, vp, rfl, h1, h2⟩ := h
  obtain ⟨a, n, cap, rfl, _⟩ := h1.slice
  obtain ⟨a, n, cap, rfl, _⟩ := h2.slice
  intro u hu
  simp only [List.mem_cons, List.not_mem_nil, or_false] at hu
  rcases hu with rfl | rfl | rfl <;> rfl
theorem one_three {c0 c1 c2 : Value} (h : ∀ u ∈ [c0, c1, c2], u.oneCell' = true) : #[c0, c1, c2].all (·.oneCell') = true := by
  simp only [List.mem_cons, List.not_mem_nil, or_false, forall_eq_or_imp, forall_eq] at h
  simp [h.1, h.2.1, h.2.2]
theorem IntsIs.reads {w : World} {v : Value} {l : List (BitVec 64)} (h : IntsIs w v l) : ReadsI w v l := by
  obtain ⟨a, cap, rfl, hcap, h⟩ := h
  by_cases hl : l = []
  · subst hl; exact .inl ⟨rfl, _, _, rfl⟩
  · obtain ⟨b, off, rfl, hb, hc⟩ := h hl
    refine .inr ⟨b, off, cap, rfl, hl, hb, fun i hi => ?_⟩
    obtain ⟨cs, _, h2, h3⟩ := hc i l[i] (List.getElem?_eq_getElem hi)
    have e : cs = [.int .i64 (l[i]).toInt] := h2
    have := h3 0 _ (by rw [e]; rfl)
    rw [List.getD_eq_getElem?_getD, List.getElem?_eq_getElem hi]
    simpa using this
theorem ints_of_own {w : World} {B : Nat} {v : Value} {l : List (BitVec 64)} (h : OwnsI w B v l) : IntsIs w v l := by
  rcases h.cell with ⟨g, cap, rfl, _, hg, hcap, hc⟩ | ⟨rfl, rfl⟩
  · refine ⟨some ⟨g, 0, none⟩, cap, rfl, hcap, fun _ => ⟨g, 0, rfl, hg, fun i x hi => ⟨[.int .i64 x.toInt], rfl, rfl, fun j u hu => ?_⟩⟩⟩
    cases j with
    | zero =>
      simp at hu
      subst hu
      have := hc i (List.getElem?_eq_some_iff.1 hi).1
      rw [List.getD_eq_getElem?_getD, hi] at this
      simpa using this
    | succ j => simp at hu
  · exact slIs_nil _ _ _ _ _

/-- Rows of cells, one an element. -/
def RowsE {α : Type} (E : World → α → List Value → Prop) (w : World) (l : List α) (R : List (List Value)) : Prop :=
  R.length = l.length ∧ ∀ (i : Nat) (x : α) (r : List Value), l[i]? = some x → R[i]? = some r → E w x r
theorem slIs_of_srows {α : Type} {E : World → α → List Value → Prop} {sz : Nat} {w : World} {v : Value} {t : TypeId} {R : List (List Value)} {l : List α} (h : SRows w v t sz R) (hE : RowsE E w l R) : SlIs E sz w v l := by
  obtain ⟨hl, hE⟩ := hE
  have hlen := h.rowlen
  rcases h with ⟨rfl, h0⟩ | ⟨g, cap, rfl, hc1, hc2, hrows⟩
  · subst h0
    have : l = [] := List.eq_nil_of_length_eq_zero (by simpa using hl.symm)
    subst this
    exact slIs_nil _ _ _ _ _
  · rw [hl]
    refine ⟨some ⟨g, 0, none⟩, cap, rfl, by omega, fun _ => ⟨g, 0, rfl, hrows.lt, fun i x hi => ?_⟩⟩
    have hil := (List.getElem?_eq_some_iff.1 hi).1
    obtain ⟨r, hr⟩ : ∃ r, R[i]? = some r := ⟨_, List.getElem?_eq_getElem (by omega)⟩
    refine ⟨r, hlen r (List.mem_of_getElem? hr), hE i x r hi hr, fun j u hu => ?_⟩
    have := hrows.range hr j u hu
    simpa using this
/-- The rows that a slice has. -/
theorem SlIs.rows {α : Type} {E : World → α → List Value → Prop} {sz : Nat} {w : World} {a : Option Addr} {n cap : Nat} {l : List α} (h : SlIs E sz w (.slice a n cap) l) :
    ∃ R : List (List Value), RowsE E w l R ∧ (∀ r ∈ R, r.length = sz) ∧ (l ≠ [] → ∃ b off, a = some ⟨b, off, none⟩ ∧ b < w.heap.size ∧ ∀ (i : Nat) (r : List Value), R[i]? = some r → ∀ (j : Nat) (u : Value), r[j]? = some u → w.cell? ⟨b, off + i * sz + j, none⟩ = some u) := by
  by_cases hl : l = []
  · subst hl
    exact ⟨[], ⟨rfl, fun i x r hx => by simp at hx⟩, by simp, fun h => absurd rfl h⟩
  · obtain ⟨b, off, rfl, hb, hc⟩ := h.lies hl
    have key : ∀ m, m ≤ l.length → ∃ R : List (List Value), R.length = m ∧ (∀ r ∈ R, r.length = sz) ∧ ∀ (i : Nat) (r : List Value), R[i]? = some r → (∀ x, l[i]? = some x → E w x r) ∧ ∀ (j : Nat) (u : Value), r[j]? = some u → w.cell? ⟨b, off + i * sz + j, none⟩ = some u := by
      intro m
      induction m with
      | zero => exact fun _ => ⟨[], rfl, by simp, fun i r hr => by simp at hr⟩
      | succ m ih =>
        intro hm
        obtain ⟨R, h1, h2, h3⟩ := ih (by omega)
        have hx : l[m]? = some l[m] := List.getElem?_eq_getElem (by omega)
        obtain ⟨cs, c1, c2, c3⟩ := hc m _ hx
        refine ⟨R ++ [cs], by simp [h1], ?_, ?_⟩
        · intro r hr
          rcases List.mem_append.1 hr with hr | hr
          · exact h2 r hr
          · simp at hr; rw [hr]; exact c1
        · intro i r hr
          by_cases hi : i < R.length
          · rw [List.getElem?_append_left hi] at hr
            exact h3 i r hr
          · have hi2 := (List.getElem?_eq_some_iff.1 hr).1
            rw [List.length_append, List.length_singleton] at hi2
            have hi3 : i = R.length := by omega
            subst hi3
            rw [List.getElem?_append_right (Nat.le_refl _)] at hr
            simp at hr
            subst hr
            rw [h1]
            exact ⟨fun x hx' => by rw [hx] at hx'; cases hx'; exact c2, c3⟩
    obtain ⟨R, h1, h2, h3⟩ := key l.length (Nat.le_refl _)
    exact ⟨R, ⟨h1, fun i x r hx hr => (h3 i r hr).1 x hx⟩, h2, fun _ => ⟨b, off, rfl, hb, fun i r hr => (h3 i r hr).2⟩⟩
end Go.Proofs.Ytflabcmjbhmphaa
