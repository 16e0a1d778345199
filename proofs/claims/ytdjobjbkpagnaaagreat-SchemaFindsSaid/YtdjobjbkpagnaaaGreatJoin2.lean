/-
  14 texts, one behind the other: ERow, EApp, Calm, VSame, XMem, XIdxT, XIdxC, XIdxP, XIdxB, BRow, XName, XIdxI, XIter, VRow.
-/
import Derived.Test.YtdjobjbkpagnaaaGreatJoin1
import Derived.Lib.AppendZerosOnto
import Derived.Laws.IdiomCopy
import Derived.Lib.Overlaps
import Derived.Deep.RegionLaw
import Derived.WalkKit
import Derived.Deep.Quiet
import Derived.Deep.QuietTactic
import Derived.BigQuiet
import Derived.Below
import Derived.Deep.LoopGhost
import Derived.RangeFuncIn
import Derived.Shelf.Abstract
import Derived.Test.YtdjobjbkpagnaaaGreatRows
import Derived.WalkSpells
import Derived.WalkLawsBesides
import Derived.Laws.BytesString
import Derived.Laws.Cells
import Derived.Laws.IdiomStrings
import Derived.OwnWalk
import Derived.Deep.WholeRow
import Derived.Test.YtdjobjbkpagnaaaGreatShelf
import Derived.Sort.OwnSortedInts
import Derived.RangeFuncNested
import Derived.RangeFuncBound
import Derived.RangeFuncCalls
import Derived.RangeFuncLeaves
import Derived.RangeFuncBox
import Derived.Shelf.RegionOpen
import Derived.OwnWalkIn
import Derived.TacticsInMore
import Derived.LoopNIn
import Derived.LoopIn
/-
  Rows in one block, all of them: what a copy of some over others leaves, what a slice of them reads; copy, append, append of zeros as laws. No program is spoken of.
-/
namespace Go.Proofs.YtdjobjbkpagnaaaGreat
open Go.RowKit

/-- V laid over L from place p on. -/
def spl {α : Type} (L : List α) (p : Nat) (V : List α) : List α := L.take p ++ (V ++ L.drop (p + V.length))
section
variable {α : Type} {L V X : List α} {p i : Nat}
theorem spl_len (h : p + V.length ≤ L.length) : (spl L p V).length = L.length := by simp [spl]; omega
theorem spl_at (h : p + V.length ≤ L.length) (k : Nat) : (spl L p V)[k]? = if k < p then L[k]? else if k < p + V.length then V[k - p]? else L[k]? := by
  unfold spl
  by_cases h1 : k < p
  · rw [if_pos h1, List.getElem?_append_left (by rw [List.length_take]; omega), List.getElem?_take, if_pos h1]
  · rw [if_neg h1, List.getElem?_append_right (by rw [List.length_take]; omega), List.length_take, Nat.min_eq_left (by omega)]
    by_cases h2 : k < p + V.length
    · rw [if_pos h2, List.getElem?_append_left (by omega)]
    · rw [if_neg h2, List.getElem?_append_right (by omega), List.getElem?_drop]
      congr 1
      omega
/-- Both copies, the first one first. -/
theorem spl_two (h : i + V.length + X.length ≤ L.length) : (spl (spl L i V) (i + V.length) X).take (i + V.length + X.length) = L.take i ++ (V ++ X) := by
  have h1 : i + V.length ≤ L.length := by omega
  have h2 : i + V.length + X.length ≤ (spl L i V).length := by rw [spl_len h1]; exact h
  apply List.ext_getElem?
  intro k
  rw [List.getElem?_take, spl_at h2, spl_at h1]
  by_cases k1 : k < i
  · rw [if_pos (by omega), if_pos (by omega), if_pos k1, List.getElem?_append_left (by rw [List.length_take]; omega), List.getElem?_take, if_pos k1]
  · rw [List.getElem?_append_right (by rw [List.length_take]; omega), List.length_take, Nat.min_eq_left (by omega)]
    by_cases k2 : k < i + V.length
    · rw [if_pos (by omega), if_pos (by omega), if_neg k1, if_pos k2, List.getElem?_append_left (by omega)]
    · rw [List.getElem?_append_right (by omega)]
      by_cases k3 : k < i + V.length + X.length
      · rw [if_pos k3, if_neg k2, if_pos k3]
        congr 1
        omega
      · rw [if_neg k3, List.getElem?_eq_none (by omega)]
theorem spl_swap (h : i + V.length + X.length ≤ L.length) : spl (spl L (i + V.length) X) i V = spl (spl L i V) (i + V.length) X := by
  have h1 : i + V.length ≤ L.length := by omega
  have h2 : i + V.length + X.length ≤ (spl L i V).length := by rw [spl_len h1]; exact h
  have h3 : i + V.length ≤ (spl L (i + V.length) X).length := by rw [spl_len h]; omega
  apply List.ext_getElem?
  intro k
  rw [spl_at h2, spl_at h3, spl_at h1, spl_at h]
  by_cases k1 : k < i
  · rw [if_pos k1, if_pos (by omega), if_pos (by omega), if_pos k1]
  · by_cases k2 : k < i + V.length
    · rw [if_neg k1, if_pos k2, if_pos k2, if_neg k1, if_pos k2]
    · by_cases k3 : k < i + V.length + X.length
      · simp only [if_neg k1, if_neg k2, if_pos k3]
      · simp only [if_neg k1, if_neg k2, if_neg k3]
end

section
variable {w w' : World} {b : Nat} {t : TypeId} {tot sz : Nat} {R F V X : List (List Value)}
theorem Rows.lens (h : Rows w b t tot sz R) : ∀ r ∈ R, r.length = sz := h.choose_spec.2.2.2.1
theorem Rows.bound (h : Rows w b t tot sz R) : R.length * sz ≤ tot := h.choose_spec.2.2.1
theorem Rows.spl (h : Rows w b t tot sz R) {p : Nat} (hsz : 0 < sz) (hp : p + V.length ≤ R.length) (hV : ∀ r ∈ V, r.length = sz) : Rows (w.setCells b (p * sz) V.flatten) b t tot sz (spl R p V) := by
  obtain ⟨cur, h1, h2, h3, h4, h5⟩ := h
  have hfl := length_flat V hV
  have hle : (p + V.length) * sz ≤ R.length * sz := Nat.mul_le_mul_right _ hp
  rw [Nat.add_mul] at hle
  obtain ⟨cur', g1, g2, g3, g4⟩ := heap_setCells b t V.flatten (p * sz) w cur h1 (by rw [hfl]; omega)
  have hlen : ∀ r ∈ Go.Proofs.YtdjobjbkpagnaaaGreat.spl R p V, r.length = sz := by
    intro r hr
    unfold Go.Proofs.YtdjobjbkpagnaaaGreat.spl at hr
    rcases List.mem_append.1 hr with hr | hr
    · exact h4 r (List.mem_of_mem_take hr)
    · rcases List.mem_append.1 hr with hr | hr
      · exact hV r hr
      · exact h4 r (List.mem_of_mem_drop hr)
  refine ⟨cur', g1, by omega, by rw [spl_len hp]; exact h3, hlen, ?_⟩
  intro i r hr j v hv
  have hj : j < sz := by
    have := hlen r (List.mem_of_getElem? hr)
    have := (List.getElem?_eq_some_iff.1 hv).1
    omega
  rw [spl_at hp] at hr
  have out : ∀ (_ : R[i]? = some r), (i < p ∨ p + V.length ≤ i) → cur'[i * sz + j]? = some v := by
    intro hr hi
    rw [g3 _ ?_]
    · exact h5 i r hr j v hv
    · rw [hfl]
      rcases hi with hi | hi
      · left
        have : (i + 1) * sz ≤ p * sz := Nat.mul_le_mul_right _ hi
        rw [Nat.add_mul] at this
        omega
      · right
        have : (p + V.length) * sz ≤ i * sz := Nat.mul_le_mul_right _ hi
        rw [Nat.add_mul] at this
        omega
  split at hr
  · exact out hr (.inl (by assumption))
  · rename_i hi1
    split at hr
    · rename_i hi2
      have e : i * sz + j = p * sz + ((i - p) * sz + j) := by
        rw [← Nat.add_assoc, ← Nat.add_mul]
        congr 2
        omega
      rw [e]
      refine g4 _ v ?_
      rw [flatten_at hsz V hV]
      have d1 : ((i - p) * sz + j) / sz = i - p := by rw [Nat.mul_comm, Nat.mul_add_div hsz, Nat.div_eq_of_lt hj]; rfl
      have d2 : ((i - p) * sz + j) % sz = j := by rw [Nat.mul_comm, Nat.mul_add_mod, Nat.mod_eq_of_lt hj]
      rw [d1, d2, hr]
      exact hv
    · exact out hr (.inr (by omega))
/-- All rows of the block. -/
theorem Rows.full {cap : Nat} (h : Rows w b t (cap * sz) sz R) (hc : R.length ≤ cap) : ∃ F : List (List Value), F.length = cap ∧ Rows w b t (cap * sz) sz F ∧ F.take R.length = R := by
  obtain ⟨cur, h1, h2, h3, h4, h5⟩ := h
  have fit : ∀ i, i < cap → i * sz + sz ≤ cur.size := fun i hi => by
    have : (i + 1) * sz ≤ cap * sz := Nat.mul_le_mul_right _ hi
    rw [Nat.add_mul] at this
    omega
  have hrow : ∀ i, i < cap → ((List.range cap).map fun i => (cur.toList.drop (i * sz)).take sz)[i]? = some ((cur.toList.drop (i * sz)).take sz) := fun i hi => by
    rw [List.getElem?_map, List.getElem?_range hi]
    rfl
  refine ⟨(List.range cap).map fun i => (cur.toList.drop (i * sz)).take sz, by simp, ⟨cur, h1, h2, by simp, ?_, ?_⟩, ?_⟩
  · intro r hr
    simp only [List.mem_map, List.mem_range] at hr
    obtain ⟨i, hi, rfl⟩ := hr
    have := fit i hi
    rw [List.length_take, List.length_drop, Array.length_toList]
    omega
  · intro i r hr j v hv
    have hi : i < cap := by
      have := (List.getElem?_eq_some_iff.1 hr).1
      simpa using this
    rw [hrow i hi] at hr
    simp only [Option.some.injEq] at hr
    subst hr
    rw [List.getElem?_take] at hv
    split at hv
    · rw [List.getElem?_drop, Array.getElem?_toList] at hv
      exact hv
    · cases hv
  · apply List.ext_getElem?
    intro i
    rw [List.getElem?_take]
    split
    · rename_i hi
      rw [hrow i (by omega), List.getElem?_eq_getElem hi]
      congr 1
      have hl := h4 _ (List.getElem_mem hi)
      apply List.ext_getElem?
      intro j
      rw [List.getElem?_take]
      split
      · rename_i hj
        rw [List.getElem?_drop, Array.getElem?_toList, List.getElem?_eq_getElem (by omega)]
        exact h5 i _ (List.getElem?_eq_getElem hi) j _ (List.getElem?_eq_getElem (by omega))
      · rw [List.getElem?_eq_none (by omega)]
    · rw [List.getElem?_eq_none (by omega)]
/-- What a part of the rows reads as. -/
theorem Rows.read (h : Rows w b t tot sz F) (hsz : 0 < sz) {p : Nat} (hX : ∀ k r, X[k]? = some r → F[p + k]? = some r) (hl : ∀ r ∈ X, r.length = sz) :
    ∀ j v, X.flatten[j]? = some v → w.cell? ((⟨b, p * sz, Option.none⟩ : Addr).add j) = some v := by
  intro j v hv
  rw [flatten_at hsz X hl] at hv
  cases hx : X[j / sz]? with
  | none => rw [hx] at hv; simp at hv
  | some r =>
    rw [hx] at hv
    simp only [Option.bind_some] at hv
    have := h.range (hX _ r hx) (j % sz) v hv
    have e : (⟨b, p * sz, Option.none⟩ : Addr).add j = ⟨b, (p + j / sz) * sz + j % sz, Option.none⟩ := by
      rw [Addr.add_lit, Nat.add_mul, Nat.add_assoc, Nat.div_add_mod']
    rw [e]
    exact this
end
section
variable {P : Program} {ops : Array Oper} {rest : List Oper} {o : Oper} {a : Act} {w : World} {Q : Exit → Act → World → Prop} {K : Act → World → Prop} {E : Prop}
theorem run_copy_rows (w : World) (dT sT ty elem : TypeId) (sz : Nat) (hu : P.underlying dT = some (.slice elem)) (hs : (P.info? elem).map (·.size) = some sz)
    (dp sp : Option Addr) (dLen dCap sLen sCap : Nat) {b p tot : Nat} {t : TypeId} {F X : List (List Value)} (hF : Rows w b t tot sz F) (hX : X.length = Nat.min sLen dLen) (hd : p + X.length ≤ F.length) (hl : ∀ r ∈ X, r.length = sz) (h1 : ∀ r ∈ X, ∀ c ∈ r, c.oneCell' = true)
    (hpos : 0 < X.length → dp = some ⟨b, p * sz, none⟩ ∧ ∃ ad, sp = some ad ∧ ∀ j v, X.flatten[j]? = some v → w.cell? (ad.add j) = some v) :
    (Builtin.copy_ #[dT, sT] ty #[.slice dp dLen dCap, .slice sp sLen sCap]).run P w = .ok (goInt X.length) (w.setCells b (p * sz) X.flatten) := by
  have hfl := length_flat X hl
  cases hq : P.info? elem with
  | none => simp [hq] at hs
  | some i =>
    have hi : i.size = sz := by simpa [hq] using hs
    by_cases h0 : X.length = 0
    · obtain rfl : X = [] := List.eq_nil_of_length_eq_zero h0
      have hn : Nat.min sLen dLen = 0 := by simpa using hX.symm
      have hl0 : ∀ (x : Addr), (loadCells x 0).run P w = .ok #[] w := fun x => by simpa using run_loadCells_list (P := P) w x [] (by simp)
      cases dp <;> cases sp <;> simp [Builtin.copy_, run_underlying hu, Builtin.lenOf, Builtin.firstCells, sizeOf, typeInfo, hq, hn, storeCells, hl0, World.setCells]
    · obtain ⟨rfl, ad, rfl, hsrc⟩ := hpos (by omega)
      have hbd := hF.bound
      have hle : (p + X.length) * sz ≤ F.length * sz := Nat.mul_le_mul_right _ hd
      rw [Nat.add_mul] at hle
      have hth : w.there b (p * sz) (X.length * sz) := hF.there_at (by omega)
      have hld := run_loadCells_list (P := P) w ad X.flatten hsrc
      rw [hfl] at hld
      have hst := run_storeCells_cells (P := P) b (p * sz) X.flatten 0 w (fun j hj => by simpa using (hth j (by omega)).1) (fun j hj => by simpa using (hth j (by omega)).2) (fun v hv => by
        obtain ⟨r, hr, hvr⟩ := List.mem_flatten.1 hv
        exact h1 r hr v hvr)
      simp only [Nat.add_zero] at hst
      simp [Builtin.copy_, run_underlying hu, Builtin.lenOf, Builtin.firstCells, sizeOf, typeInfo, hq, hi, ← hX, hld, hst]
theorem copy_rows (hgd : o.guard = none) (d s : Operand) (dT sT elem : TypeId) (sz : Nat) (ho : o.op = .call { callee := .builtin .copy, args := #[d, s], argTypes := #[dT, sT] })
    (hu : P.underlying dT = some (.slice elem)) (hs : (P.info? elem).map (·.size) = some sz) (hsz : 0 < sz) {b p tot : Nat} {t : TypeId} {F : List (List Value)} (X : List (List Value)) (hF : Hid (Rows w b t tot sz F)) (hd : p + X.length ≤ F.length)
    (dp sp : Option Addr) (dLen dCap sLen sCap : Nat) (hdv : a.eval d = .slice dp dLen dCap) (hsv : a.eval s = .slice sp sLen sCap) (hX : X.length = Nat.min sLen dLen) (hl : ∀ r ∈ X, r.length = sz) (h1 : ∀ r ∈ X, ∀ c ∈ r, c.oneCell' = true)
    (hpos : 0 < X.length → dp = some ⟨b, p * sz, none⟩ ∧ ∃ ad, sp = some ad ∧ ∀ j v, X.flatten[j]? = some v → w.cell? (ad.add j) = some v)
    (h : ∀ w', Hid (Rows w' b t tot sz (spl F p X)) → Hid (Kept (fun x => x = b) w w') → wpList P ops Q rest (a.put o.dst (goInt X.length)) w') : wpList P ops Q (o :: rest) a w := by
  refine wpList_plain hgd fun K hK => ?_
  have hr := run_copy_rows (P := P) w dT sT o.type elem sz hu hs dp sp dLen dCap sLen sCap hF.out hX hd hl h1 hpos
  unfold Oper.wp execOp
  simp only [ho, resolve, invoke, builtin, Sem.run_bind, Sem.run_pure, Result.andThen_ok, List.map_toArray, List.map_cons, List.map_nil, hdv, hsv, hr]
  exact hK _ _ (h _ (show Rows _ _ _ _ _ _ from hF.out.spl hsz hd hl) (show Kept _ _ _ from Kept.setCells (F := fun x => x = b) (.inl rfl) _ _ _ (Kept.refl _ _)))
theorem step_copy_rows (hgd : o.guard = none) (d s : Operand) (dT sT elem : TypeId) (sz : Nat) (ho : o.op = .call { callee := .builtin .copy, args := #[d, s], argTypes := #[dT, sT] })
    (hu : P.underlying dT = some (.slice elem)) (hs : (P.info? elem).map (·.size) = some sz) (hsz : 0 < sz) {b p tot : Nat} {t : TypeId} {F : List (List Value)} (X : List (List Value)) (hF : Hid (Rows w b t tot sz F)) (hd : p + X.length ≤ F.length)
    (dp sp : Option Addr) (dLen dCap sLen sCap : Nat) (hdv : a.eval d = .slice dp dLen dCap) (hsv : a.eval s = .slice sp sLen sCap) (hX : X.length = Nat.min sLen dLen) (hl : ∀ r ∈ X, r.length = sz) (h1 : ∀ r ∈ X, ∀ c ∈ r, c.oneCell' = true)
    (hpos : 0 < X.length → dp = some ⟨b, p * sz, none⟩ ∧ ∃ ad, sp = some ad ∧ ∀ j v, X.flatten[j]? = some v → w.cell? (ad.add j) = some v)
    (h : ∀ w', Hid (Rows w' b t tot sz (spl F p X)) → Hid (Kept (fun x => x = b) w w') → K (a.put o.dst (goInt X.length)) w') : if Region.wanted o (yielded ops a.tmps) = true then Oper.wp P o a w K Q else E := by
  have hw : Region.wanted o (yielded ops a.tmps) = true := by simp [Region.wanted, hgd]
  rw [if_pos hw]
  have hr := run_copy_rows (P := P) w dT sT o.type elem sz hu hs dp sp dLen dCap sLen sCap hF.out hX hd hl h1 hpos
  unfold Oper.wp execOp
  simp only [ho, resolve, invoke, builtin, Sem.run_bind, Sem.run_pure, Result.andThen_ok, List.map_toArray, List.map_cons, List.map_nil, hdv, hsv, hr]
  exact h _ (show Rows _ _ _ _ _ _ from hF.out.spl hsz hd hl) (show Kept _ _ _ from Kept.setCells (F := fun x => x = b) (.inl rfl) _ _ _ (Kept.refl _ _))

/-- 'append(s, u...)', s in a block: it stays there, or lies in a new one. -/
theorem append_rowsK (hgd : o.guard = none) (s x : Operand) (T e : TypeId) (i : TypeInfo) (z : Value) (sz bytes : Nat) (ho : o.op = .call { callee := .builtin .append, args := #[s, x], argTypes := #[T, T] })
    (hT : P.underlying T = some (.slice e)) (hi : P.info? e = some i) (hz : i.zero = some z) (hsize : i.size = sz) (hby : i.bytes = bytes) (hzs : z.cells.size = sz) (hsz : 0 < sz) (hbl : bytes ≤ 200)
    {g n cap : Nat} {u : Value} {R1 R2 : List (List Value)} (hs : a.eval s = .slice (some ⟨g, 0, none⟩) n cap) (hx : a.eval x = u) (hv : SRows w (.slice (some ⟨g, 0, none⟩) n cap) e sz R1) (hu : SRows w u e sz R2) (hn : R1.length = n)
    (h1 : ∀ r ∈ R2, ∀ c ∈ r, c.oneCell' = true) (m : Nat) (hm : n + R2.length = m) (R : List (List Value)) (hR : R1 ++ R2 = R) (hl : m ≤ 1000000)
    (h : ∀ g' cap' w', Hid (SRows w' (.slice (some ⟨g', 0, none⟩) m cap') e sz R) → Hid (g' = g ∧ cap' = cap ∨ w.heap.size ≤ g' ∧ cap < m) → Hid (Kept (fun x => x = g) w w') → wpList P ops Q rest (a.put o.dst (.slice (some ⟨g', 0, none⟩) m cap')) w') :
    wpList P ops Q (o :: rest) a w := by
  subst hm hR hn
  have hown := srows_own_base hv hsz (B := 0) (fun _ _ => Nat.zero_le _)
  have hlens : ∀ r ∈ R1 ++ R2, r.length = sz := fun r hr => by
    rcases List.mem_append.1 hr with hr | hr
    · exact hv.rowlen r hr
    · exact hu.rowlen r hr
  rcases hu with ⟨rfl, rfl⟩ | ⟨g2, cap2, rfl, hc1, hc2, hrows⟩
  · have hrun := run_append_owned_none (P := P) w 0 T (o.type) e i sz hT hi _ R1.length _ hown
    simp only [List.append_nil, List.length_nil, Nat.add_zero] at h
    refine wpList_plain hgd fun K hK => ?_
    unfold Oper.wp execOp
    simp only [ho, resolve, invoke, builtin, Sem.run_bind, Sem.run_pure, Result.andThen_ok, List.map_toArray, List.map_cons, List.map_nil, hs, hx, hrun]
    exact hK _ _ (h g cap w (show SRows _ _ _ _ _ from hv) (show _ ∨ _ from .inl ⟨rfl, rfl⟩) (show Kept _ _ _ from Kept.refl _ _))
  · have hus : SRows w (.slice (some ⟨g2, 0, none⟩) R2.length cap2) e sz R2 := .inr ⟨g2, cap2, rfl, hc1, hc2, hrows⟩
    have hnews : ∀ j u, R2.flatten[j]? = some u → w.cell? ((⟨g2, 0, none⟩ : Addr).add j) = some u := (hus.own hsz).cells rfl
    have hone : ∀ u ∈ R2.flatten, u.oneCell' = true := by
      intro u hu
      obtain ⟨r, hr, hur⟩ := List.mem_flatten.1 hu
      exact h1 r hr u hur
    have h63 : R1.length + R2.length ≤ maxLen := by unfold maxLen; omega
    have hbytes : (R1.length + R2.length) * bytes ≤ 140737488355328 := by
      have : (R1.length + R2.length) * bytes ≤ 1000000 * 200 := Nat.mul_le_mul hl hbl
      omega
    obtain ⟨v', w', hr, hown', hgrow, _⟩ := run_append_own (P := P) w 0 T o.type e i z sz bytes hT hi hz hsize hby hzs hsz _ R1.length R1.flatten hown ⟨g2, 0, none⟩ R2.length cap2 R2.flatten (length_flat R2 hus.rowlen) hnews hone h63 hbytes (Nat.zero_le _)
    obtain ⟨cap', cur, hv2, hc, hcl, hg, hcur⟩ : ∃ cap' cur, (Value.slice (some ⟨g, 0, none⟩) R1.length cap : Value) = .slice (some ⟨g, 0, none⟩) R1.length cap' ∧ R1.length ≤ cap' ∧ cap' ≤ maxLen ∧ w.heap[g]? = some (.cells cur e (0, 0)) ∧ cur.size = cap' * sz := by
      rcases hv with ⟨hq, _⟩ | ⟨g', cap', hq, q1, q2, cur, q3, q4, _⟩
      · simp at hq
      · simp only [Value.slice.injEq, Option.some.injEq, Addr.mk.injEq, and_true] at hq
        obtain ⟨rfl, _, rfl⟩ := hq
        exact ⟨cap, cur, rfl, q1, q2, q3, q4⟩
    simp only [Value.slice.injEq, true_and] at hv2
    subst hv2
    have hwhere : ∃ g' cap', v' = .slice (some ⟨g', 0, none⟩) (R1.length + R2.length) cap' ∧ (g' = g ∧ cap' = cap ∨ w.heap.size ≤ g' ∧ cap < R1.length + R2.length) := by
      subst hsize
      subst hby
      by_cases hroom : R1.length + R2.length ≤ cap
      · have hfit : R1.length * i.size + R2.flatten.length ≤ cur.size := by
          rw [length_flat R2 hus.rowlen, hcur, ← Nat.add_mul]
          exact Nat.mul_le_mul_right _ hroom
        have hr2 := run_append_room (P := P) w T o.type e i hT hi g R1.length cap cur hg ⟨g2, 0, none⟩ R2.length cap2 R2.flatten (length_flat R2 hus.rowlen) hnews hone hroom hfit
        rw [hr2] at hr
        simp only [Result.ok.injEq] at hr
        exact ⟨g, cap, hr.1.symm, .inl ⟨rfl, rfl⟩⟩
      · have hr2 := run_append_grow (P := P) w T o.type e i z hT hi hz ⟨g, 0, none⟩ R1.length cap R1.flatten hown.1 (hown.cells (g := g) rfl) ⟨g2, 0, none⟩ R2.length cap2 R2.flatten (length_flat R2 hus.rowlen) hnews (by omega) (by unfold maxLen at h63; omega) (growslice_fits (by omega) hbytes)
        rw [hr2] at hr
        simp only [Result.ok.injEq] at hr
        exact ⟨w.heap.size, _, hr.1.symm, .inr ⟨Nat.le_refl _, by omega⟩⟩
    obtain ⟨g', cap', rfl, hgg⟩ := hwhere
    refine wpList_plain hgd fun K hK => ?_
    unfold Oper.wp execOp
    simp only [ho, resolve, invoke, builtin, Sem.run_bind, Sem.run_pure, Result.andThen_ok, List.map_toArray, List.map_cons, List.map_nil, hs, hx, hr]
    refine hK _ _ (h g' cap' w' (show SRows _ _ _ _ _ from srows_of_own hown' (by rw [List.flatten_append]) hlens hsz (by simp)) (show _ ∨ _ from hgg) (show Kept _ _ _ from (Kept.refl _ w).grown hgrow ?_))
    intro k hk
    simp [Value.ownBlock] at hk
    exact .inl hk.symm
/-- 'append(s, make(S, k)...)' without room: a new block of the old rows and others. -/
theorem append_zerosK (hgd : o.guard = none) (s x : Operand) (T Tn e : TypeId) (i : TypeInfo) (z : Value) (sz bytes : Nat) (ho : o.op = .call { callee := .builtin .append, args := #[s, x], argTypes := #[T, Tn] })
    (hT : P.underlying T = some (.slice e)) (hTn : P.underlying Tn = some (.int .i64)) (hi : P.info? e = some i) (hz : i.zero = some z) (hsize : i.size = sz) (hby : i.bytes = bytes) (hzs : z.cells.size = sz) (hsz : 0 < sz) (hbl : bytes ≤ 200)
    {g n cap : Nat} {R1 : List (List Value)} (hs : a.eval s = .slice (some ⟨g, 0, none⟩) n cap) (k : Nat) (hx : a.eval x = .int .i64 k) (hv : SRows w (.slice (some ⟨g, 0, none⟩) n cap) e sz R1) (hn : R1.length = n) (hk : 0 < k) (hno : cap < n + k)
    (m : Nat) (hm : n + k = m) (hl : m ≤ 1000000)
    (h : ∀ cap' w' F, Hid (Rows w' w.heap.size e (cap' * sz) sz F) → Hid (F.length = cap' ∧ F.take n = R1 ∧ m ≤ cap' ∧ cap' ≤ maxLen) → Hid (Kept (fun _ => False) w w') → wpList P ops Q rest (a.put o.dst (.slice (some ⟨w.heap.size, 0, none⟩) m cap')) w') :
    wpList P ops Q (o :: rest) a w := by
  subst hm hn hsize hby
  have hown := srows_own_base hv hsz (B := 0) (fun _ _ => Nat.zero_le _)
  have holds : ∀ j u, R1.flatten[j]? = some u → w.drew.cell? ((⟨g, 0, none⟩ : Addr).add j) = some u := hown.cells (g := g) rfl
  have hold := run_firstCells_some (P := P) w.drew i.size R1.length ⟨g, 0, none⟩ R1.length cap R1.flatten hown.1 holds
  have hkb : k * i.bytes ≤ 1000000 * 200 := Nat.mul_le_mul (by omega) hbl
  have hsb : (R1.length + k) * i.bytes ≤ 1000000 * 200 := Nat.mul_le_mul hl hbl
  have hr := Lib.run_append_grow_zeros (P := P) w T Tn o.type e i z .i64 .i64 hT hTn hi hz (some ⟨g, 0, none⟩) R1.length cap R1.flatten hold k hk hsz hno (by omega) (by omega) (growslice_fits (by omega) (by omega))
  have hge := grownCap_ge w (R1.length + k) cap e
  have hcm := grownCap_le_maxLen w (R1.length + k) cap e (by unfold maxLen; omega)
  obtain ⟨G, hG⟩ : ∃ G, G = grownCap w (R1.length + k) cap e := ⟨_, rfl⟩
  rw [← hG] at hr hge hcm
  have hrows : Rows (w.drew.alloc (.cells (R1.flatten.toArray ++ Builtin.zeroCells z.cells k ++ Builtin.zeroCells z.cells (G - (R1.length + k))) e)) w.heap.size e (G * i.size) i.size R1 := by
    refine ⟨_, heap_alloc_last w.drew _, ?_, Nat.mul_le_mul_right _ (by omega), hv.rowlen, ?_⟩
    · simp only [Array.size_append, List.size_toArray, size_zeroCells, hzs, length_flat R1 hv.rowlen, ← Nat.add_mul]
      congr 1
      omega
    · intro q r hq j v hj
      have hlen : j < i.size := by
        have := hv.rowlen r (List.mem_of_getElem? hq)
        have := (List.getElem?_eq_some_iff.1 hj).1
        omega
      have hq' : q < R1.length := (List.getElem?_eq_some_iff.1 hq).1
      have hb : q * i.size + j < R1.flatten.length := by
        rw [length_flat R1 hv.rowlen]
        have : (q + 1) * i.size ≤ R1.length * i.size := Nat.mul_le_mul_right _ hq'
        rw [Nat.add_mul] at this
        omega
      rw [Array.getElem?_append_left (by simp only [Array.size_append, List.size_toArray]; omega), Array.getElem?_append_left (by simpa using hb), List.getElem?_toArray, flatten_at hsz R1 hv.rowlen]
      have d1 : (q * i.size + j) / i.size = q := by rw [Nat.mul_comm, Nat.mul_add_div hsz, Nat.div_eq_of_lt hlen]; rfl
      have d2 : (q * i.size + j) % i.size = j := by rw [Nat.mul_comm, Nat.mul_add_mod, Nat.mod_eq_of_lt hlen]
      rw [d1, d2, hq]
      exact hj
  obtain ⟨F, hF1, hF2, hF3⟩ := hrows.full (by omega)
  refine wpList_plain hgd fun K hK => ?_
  unfold Oper.wp execOp
  simp only [ho, resolve, invoke, builtin, Sem.run_bind, Sem.run_pure, Result.andThen_ok, List.map_toArray, List.map_cons, List.map_nil, hs, hx, hr]
  exact hK _ _ (h G _ F (show Rows _ _ _ _ _ _ from hF2) (show _ ∧ _ from ⟨hF1, hF3, hge, hcm⟩) (show Kept _ _ _ from (Kept.refl _ w).drew.alloc _))
/-- 'clear(s)', s in a block: what stands ahead of it stays. -/
theorem clear_rows (hgd : o.guard = none) (x : Operand) (T e : TypeId) (z : Array Value) (sz : Nat) (ho : o.op = .call { callee := .builtin .clear, args := #[x], argTypes := #[T] })
    (hT : P.underlying T = some (.slice e)) (hv : ∀ w, (zeroValue e).run P w = .ok (.agg z) w) (hz : z.size = sz) (hsz : 0 < sz) (h1 : z.all (·.oneCell') = true)
    {b q tot : Nat} {t : TypeId} {F : List (List Value)} (hF : Hid (Rows w b t tot sz F)) (p : Option Addr) (n c : Nat) (hx : a.eval x = .slice p n c) (hp : 0 < n → p = some ⟨b, q * sz, none⟩) (hd : q + n ≤ F.length)
    (h : ∀ w', Hid (Rows w' b t tot sz (F.take q)) → Hid (Kept (fun x => x = b) w w') → wpList P ops Q rest (a.put o.dst (.tuple #[])) w') : wpList P ops Q (o :: rest) a w := by
  refine wpList_plain hgd fun K hK => ?_
  cases n with
  | zero =>
    have hr : (Builtin.clear_ #[T] o.type #[.slice p 0 c]).run P w = .ok (.tuple #[]) w := by
      cases p <;> simp [Builtin.clear_, run_underlying hT]
    unfold Oper.wp execOp
    simp only [ho, resolve, invoke, builtin, Sem.run_bind, Sem.run_pure, Result.andThen_ok, List.map_toArray, List.map_cons, List.map_nil, hx, hr]
    exact hK _ _ (h w (show Rows _ _ _ _ _ _ from hF.out.take q) (show Kept _ _ _ from Kept.refl _ _))
  | succ n =>
    obtain rfl := hp (by omega)
    have hbd := hF.out.bound
    have hle : (q + (n + 1)) * sz ≤ F.length * sz := Nat.mul_le_mul_right _ hd
    rw [Nat.add_mul] at hle
    have hth : w.there b (q * sz) ((n + 1) * sz) := hF.out.there_at (by omega)
    have hlen : (Builtin.zeroCells z (n + 1)).toList.length = (n + 1) * sz := by simp [Builtin.zeroCells, hz]
    have hst := run_storeCells_cells (P := P) b (q * sz) (Builtin.zeroCells z (n + 1)).toList 0 w (fun j hj => by simpa using (hth j (by omega)).1) (fun j hj => by simpa using (hth j (by omega)).2) (fun v hv' => by
      simp [Builtin.zeroCells] at hv'
      obtain ⟨i, _, rfl⟩ := hv'
      have hlt : i % z.size < z.size := Nat.mod_lt _ (by omega)
      rw [getElem!_pos z _ hlt]
      rw [Array.all_eq_true] at h1
      exact h1 _ hlt)
    simp only [Nat.add_zero] at hst
    have hcl : (Value.agg z).cells = z := rfl
    have hr : (Builtin.clear_ #[T] o.type #[.slice (some ⟨b, q * sz, none⟩) (n + 1) c]).run P w = .ok (.tuple #[]) (w.setCells b (q * sz) (Builtin.zeroCells z (n + 1)).toList) := by
      simp [Builtin.clear_, run_underlying hT, hv, hcl, hst]
    unfold Oper.wp execOp
    simp only [ho, resolve, invoke, builtin, Sem.run_bind, Sem.run_pure, Result.andThen_ok, List.map_toArray, List.map_cons, List.map_nil, hx, hr]
    have hlt : (F.take q).length = q := by rw [List.length_take]; omega
    exact hK _ _ (h _ (show Rows _ _ _ _ _ _ from (hF.out.take q).behind _ (by rw [hlt]; exact Nat.le_refl _) (by rw [hlen]; omega)) (show Kept _ _ _ from Kept.setCells (F := fun x => x = b) (.inl rfl) _ _ _ (Kept.refl _ _)))
end
end Go.Proofs.YtdjobjbkpagnaaaGreat
/-
  'append(v, u...)' of rows, v the call's own or nil, u any part of a row: where the result lies, what it turns. No program is spoken of.
-/
namespace Go.Proofs.YtdjobjbkpagnaaaGreat
open Go.RowKit

section
variable {P : Program} {ops : Array Oper} {rest : List Oper} {o : Oper} {a : Act} {w : World} {Q : Exit → Act → World → Prop}
theorem append_any (hgd : o.guard = none) (s x : Operand) (T e : TypeId) (i : TypeInfo) (z : Value) (sz bytes : Nat) (ho : o.op = .call { callee := .builtin .append, args := #[s, x], argTypes := #[T, T] })
    (hT : P.underlying T = some (.slice e)) (hi : P.info? e = some i) (hz : i.zero = some z) (hsize : i.size = sz) (hby : i.bytes = bytes) (hzs : z.cells.size = sz) (hsz : 0 < sz) (hbl : bytes ≤ 200)
    {v : Value} {ad : Addr} {m2 c2 : Nat} {R1 R2 : List (List Value)} (hs : a.eval s = v) (hx : a.eval x = .slice (some ad) m2 c2) (hv : SRows w v e sz R1) (hl2 : R2.length = m2) (hr2 : ∀ r ∈ R2, r.length = sz)
    (hnews : ∀ (j : Nat) u, R2.flatten[j]? = some u → w.cell? (ad.add j) = some u) (h1 : ∀ r ∈ R2, ∀ c ∈ r, c.oneCell' = true) (m : Nat) (hm : R1.length + m2 = m) (R : List (List Value)) (hR : R1 ++ R2 = R) (hl : m ≤ 1000000)
    (h : ∀ va vc w', Hid (SRows w' (.slice va m vc) e sz R) → Hid (∀ k, (Value.slice va m vc).ownBlock = some k → v.ownBlock = some k ∨ w.heap.size ≤ k) → Hid (Kept (fun x => v.ownBlock = some x) w w') → wpList P ops Q rest (a.put o.dst (.slice va m vc)) w') :
    wpList P ops Q (o :: rest) a w := by
  subst hm hR hl2
  have hlens : ∀ r ∈ R1 ++ R2, r.length = sz := fun r hr => by
    rcases List.mem_append.1 hr with hr | hr
    · exact hv.rowlen r hr
    · exact hr2 r hr
  have hone : ∀ u ∈ R2.flatten, u.oneCell' = true := by
    intro u hu
    obtain ⟨r, hr, hur⟩ := List.mem_flatten.1 hu
    exact h1 r hr u hur
  have h63 : R1.length + R2.length ≤ maxLen := by unfold maxLen; omega
  have hbytes : (R1.length + R2.length) * bytes ≤ 140737488355328 := by
    have : (R1.length + R2.length) * bytes ≤ 1000000 * 200 := Nat.mul_le_mul hl hbl
    omega
  have hown := srows_own_base hv hsz (B := 0) (fun _ _ => Nat.zero_le _)
  obtain ⟨v', w', hr, hown', hgrow, _⟩ := run_append_own (P := P) w 0 T o.type e i z sz bytes hT hi hz hsize hby hzs hsz _ R1.length R1.flatten hown ad R2.length c2 R2.flatten (length_flat R2 hr2) hnews hone h63 hbytes (Nat.zero_le _)
  obtain ⟨⟨va, vc, rfl⟩, _⟩ := own_shape hown'
  have hwhere : ∀ k, (Value.slice va (R1.length + R2.length) vc).ownBlock = some k → v.ownBlock = some k ∨ w.heap.size ≤ k := by
    rcases hv with ⟨rfl, rfl⟩ | ⟨g, cap, rfl, hc1, hc2, cur, hg, hcur, _⟩
    · have hown2 := srows_own_base (w := w) (v := .slice none 0 0) (t := e) (sz := sz) (R := []) (.inl ⟨rfl, rfl⟩) hsz (B := w.heap.size) (noOwn _)
      obtain ⟨v2, w2, hr2', hown2', _, _⟩ := run_append_own (P := P) w w.heap.size T o.type e i z sz bytes hT hi hz hsize hby hzs hsz _ 0 [] hown2 ad R2.length c2 R2.flatten (length_flat R2 hr2) hnews hone (by simpa using h63) (by simpa using hbytes) (Nat.le_refl _)
      rw [hr2'] at hr
      simp only [Result.ok.injEq] at hr
      rw [hr.1] at hown2'
      intro k hk
      exact .inr ((own_shape hown2').2 k hk)
    · subst hsize
      subst hby
      by_cases hroom : R1.length + R2.length ≤ cap
      · have hfit : R1.length * i.size + R2.flatten.length ≤ cur.size := by
          rw [length_flat R2 hr2, hcur, ← Nat.add_mul]
          exact Nat.mul_le_mul_right _ hroom
        have hr3 := run_append_room (P := P) w T o.type e i hT hi g R1.length cap cur hg ad R2.length c2 R2.flatten (length_flat R2 hr2) hnews hone hroom hfit
        rw [hr3] at hr
        simp only [Result.ok.injEq, Value.slice.injEq] at hr
        obtain ⟨⟨rfl, _, rfl⟩, _⟩ := hr
        intro k hk
        exact .inl hk
      · have hr3 := run_append_grow (P := P) w T o.type e i z hT hi hz ⟨g, 0, none⟩ R1.length cap R1.flatten hown.1 (hown.cells (g := g) rfl) ad R2.length c2 R2.flatten (length_flat R2 hr2) hnews (by omega) (by unfold maxLen at h63; omega) (growslice_fits (by omega) hbytes)
        rw [hr3] at hr
        simp only [Result.ok.injEq, Value.slice.injEq] at hr
        obtain ⟨⟨rfl, _, rfl⟩, _⟩ := hr
        intro k hk
        simp [Value.ownBlock] at hk
        exact .inr (by omega)
  refine wpList_plain hgd fun K hK => ?_
  unfold Oper.wp execOp
  simp only [ho, resolve, invoke, builtin, Sem.run_bind, Sem.run_pure, Result.andThen_ok, List.map_toArray, List.map_cons, List.map_nil, hs, hx, hr]
  refine hK _ _ (h va vc w' (show SRows _ _ _ _ _ from srows_of_own hown' (by rw [List.flatten_append]) hlens hsz (by simp)) (show ∀ _, _ from hwhere) (show Kept _ _ _ from (Kept.refl _ w).grown hgrow (fun k hk => .inl hk)))
end
end Go.Proofs.YtdjobjbkpagnaaaGreat
/-
  Regions that draw their order and hold calls that make memory and turn nothing old: the walk in the order of the text serves, over all worlds above the first one. No program is spoken of.
-/
namespace Go.Proofs.YtdjobjbkpagnaaaGreat
open Go.RowKit

/-- A world above w: below w's heap all is as it was. -/
structure Above (w : World) where
  it : World
  is : Below w.heap.size w it
theorem above_some (w : World) : Nonempty (Above w) := ⟨⟨w, Below.refl _ _⟩⟩
/-- A callee that makes memory and turns nothing old. -/
theorem above_of {P : Program} {f : FuncId} {args : Array Value} {w : World} {k : Above w} {v : Value}
    (h : Calls P f args k.it fun e w' => e = .returned v ∧ Below k.it.heap.size k.it w') : Calls P f args k.it fun e w'' => e = .returned v ∧ ∃ k' : Above w, w'' = k'.it :=
  h.mono fun _ w'' ⟨he, hb⟩ => ⟨he, ⟨w'', k.is.trans (hb.mono k.is.size)⟩, rfl⟩
/-- A callee that only computes. -/
theorem above_same {P : Program} {f : FuncId} {args : Array Value} {w : World} {k : Above w} {v : Value}
    (h : Calls P f args k.it fun e w' => e = .returned v ∧ w' = k.it) : Calls P f args k.it fun e w'' => e = .returned v ∧ ∃ k' : Above w, w'' = k'.it :=
  h.mono fun _ _ ⟨he, hb⟩ => ⟨he, k, hb⟩
/-- A callee that only reads, and draws. -/
theorem above_drew {P : Program} {f : FuncId} {args : Array Value} {w : World} {k : Above w} {v : Value}
    (h : Calls P f args k.it fun e w' => e = .returned v ∧ ∃ n, w' = k.it.drewN n) : Calls P f args k.it fun e w'' => e = .returned v ∧ ∃ k' : Above w, w'' = k'.it :=
  h.mono fun _ w'' ⟨he, n, hb⟩ => ⟨he, ⟨w'', by
    rw [hb]
    exact ⟨k.is.os, k.is.tape, k.is.output, k.is.size, k.is.block⟩⟩, rfl⟩
theorem wp_region_above {P : Program} {id : Nat} {Q : Exit → Act → World → Prop} {a : Act} {w : World} {l : List Oper} (hm : P.follows .mixedOrders = true) (hB : Region.lexB .any l.toArray = true)
    (h : Nonempty (Above w) → wpQuiet P l.toArray (fun w' => ∃ k : Above w, w' = k.it) (fun a' => ∀ w', (∃ k : Above w, w' = k.it) → Q .normal a' w') l a) : (Code.region id l.toArray true).wp P Q a w :=
  wp_region_quiet (C := fun w' => ∃ k : Above w, w' = k.it) hm hB ⟨⟨w.drew, (Below.refl _ _).drew⟩, rfl⟩ (by simpa using h (above_some w))
end Go.Proofs.YtdjobjbkpagnaaaGreat
/-
  Slices of ints that are read; the contract of package peristyleref01's Same, where both are the same numbers.
-/
namespace Go.Proofs.YtdjobjbkpagnaaaGreat
open Go.RowKit

/-- The slice v reads as the words l in the world w. -/
def ReadsI (w : World) (v : Value) (l : List (BitVec 64)) : Prop :=
  (l = [] ∧ ∃ a c, v = .slice a 0 c) ∨
  (∃ b off c, v = .slice (some ⟨b, off, none⟩) l.length c ∧ l ≠ [] ∧ b < w.heap.size ∧ ∀ i, i < l.length → w.cell? ⟨b, off + i, none⟩ = some (.int .i64 (l.getD i 0#64).toInt))
theorem ReadsI.below {w w' : World} {v : Value} {l : List (BitVec 64)} (h : ReadsI w v l) (hb : Below w.heap.size w w') : ReadsI w' v l := by
  rcases h with h | ⟨b, off, c, hv, hl, hbw, hc⟩
  · exact .inl h
  · exact .inr ⟨b, off, c, hv, hl, Nat.lt_of_lt_of_le hbw hb.size, fun i hi => (hb.cell (p := ⟨b, off + i, none⟩) hbw).trans (hc i hi)⟩
theorem OwnsI.reads {w : World} {B : Nat} {v : Value} {l : List (BitVec 64)} (h : OwnsI w B v l) : ReadsI w v l := by
  rcases h.cell with ⟨g, cap, rfl, _, hg, _, hc⟩ | ⟨rfl, rfl⟩
  · by_cases hl : l = []
    · subst hl; exact .inl ⟨rfl, _, _, rfl⟩
    · exact .inr ⟨g, 0, cap, rfl, hl, hg, fun i hi => by simpa using hc i hi⟩
  · exact .inl ⟨rfl, _, _, rfl⟩

end Go.Proofs.YtdjobjbkpagnaaaGreat
/-
  Slices of columns, projections and tables in memory, down to the last number: how they read. No program is spoken of.
-/
namespace Go.Proofs.YtdjobjbkpagnaaaGreat
open Go.RowKit

theorem ret_int {k : IntKind} {a b : Int} (h : a = b) : Ending.returned (.int k a) = .returned (.int k b) := by rw [h]
theorem ret_bool {a b : Bool} (h : a = b) : Ending.returned (.bool a) = .returned (.bool b) := by rw [h]
/-- A slice reads as l; E: which cells an element has, of which there are sz. -/
def SlIs {α : Type} (E : World → α → List Value → Prop) (sz : Nat) (w : World) (v : Value) (l : List α) : Prop :=
  ∃ a cap, v = .slice a l.length cap ∧ l.length ≤ cap ∧ (l ≠ [] → ∃ b off, a = some ⟨b, off, none⟩ ∧ b < w.heap.size ∧
    ∀ (i : Nat) (x : α), l[i]? = some x → ∃ cs : List Value, cs.length = sz ∧ E w x cs ∧ ∀ (j : Nat) (u : Value), cs[j]? = some u → w.cell? ⟨b, off + i * sz + j, none⟩ = some u)
/-- What is told of an element stays when memory is made. -/
def Stays {α : Type} (E : World → α → List Value → Prop) : Prop := ∀ (w w' : World) (x : α) (cs : List Value), E w x cs → Below w.heap.size w w' → E w' x cs
section
variable {α : Type} {E : World → α → List Value → Prop} {sz : Nat} {w w' : World} {v : Value} {l : List α} {a : Option Addr} {n cap : Nat}
theorem SlIs.over (h : SlIs E sz w v l) (hE : Stays E) (k : Below w.heap.size w w') : SlIs E sz w' v l := by
  obtain ⟨a, cap, rfl, hcap, h⟩ := h
  refine ⟨a, cap, rfl, hcap, fun hl => ?_⟩
  obtain ⟨b, off, rfl, hb, hc⟩ := h hl
  refine ⟨b, off, rfl, Nat.lt_of_lt_of_le hb k.size, fun i x hi => ?_⟩
  obtain ⟨cs, h1, h2, h3⟩ := hc i x hi
  exact ⟨cs, h1, hE _ _ _ _ h2 k, fun j u hu => (k.cell (p := ⟨b, off + i * sz + j, none⟩) hb).trans (h3 j u hu)⟩
theorem SlIs.slice (h : SlIs E sz w v l) : ∃ a n cap, v = .slice a n cap ∧ l.length = n ∧ n ≤ cap := by
  obtain ⟨a, cap, rfl, hcap, _⟩ := h
  exact ⟨a, _, cap, rfl, rfl, hcap⟩
theorem SlIs.len (h : SlIs E sz w (.slice a n cap) l) : l.length = n ∧ n ≤ cap := by
  obtain ⟨a, cap, e, hcap, h⟩ := h
  cases e
  exact ⟨rfl, hcap⟩
theorem slIs_nil (E : World → α → List Value → Prop) (sz : Nat) (w : World) (a : Option Addr) (cap : Nat) : SlIs E sz w (.slice a 0 cap) [] := ⟨a, cap, rfl, Nat.zero_le _, fun h => absurd rfl h⟩
theorem SlIs.lies (h : SlIs E sz w (.slice a n cap) l) (hl : l ≠ []) : ∃ b off, a = some ⟨b, off, none⟩ ∧ b < w.heap.size ∧
    ∀ (i : Nat) (x : α), l[i]? = some x → ∃ cs : List Value, cs.length = sz ∧ E w x cs ∧ ∀ (j : Nat) (u : Value), cs[j]? = some u → w.cell? ⟨b, off + i * sz + j, none⟩ = some u := by
  obtain ⟨a, cap, e, hcap, h⟩ := h
  cases e
  exact h hl
/-- The element at k. -/
theorem SlIs.at (h : SlIs E sz w (.slice a n cap) l) {k : Nat} (hk : k < n) : ∃ (x : α) (cs : List Value) (b off : Nat), l[k]? = some x ∧ a = some ⟨b, off, none⟩ ∧ b < w.heap.size ∧ cs.length = sz ∧ E w x cs ∧ ∀ (j : Nat) (u : Value), cs[j]? = some u → w.cell? ⟨b, off + k * sz + j, none⟩ = some u := by
  obtain ⟨hl, _⟩ := h.len
  have hs : l[k]? = some l[k] := List.getElem?_eq_getElem (by omega)
  obtain ⟨b, off, rfl, hb, hall⟩ := h.lies (by rintro rfl; simp at hl; omega)
  obtain ⟨cs, h1, h2, h3⟩ := hall k _ hs
  exact ⟨_, cs, b, off, hs, rfl, hb, h1, h2, h3⟩
theorem SlIs.take (h : SlIs E sz w (.slice a n cap) l) {k : Nat} (hk : k ≤ n) : SlIs E sz w (.slice a k cap) (l.take k) := by
  have hn := h.len
  refine ⟨a, cap, by rw [List.length_take, Nat.min_eq_left (by omega)], by rw [List.length_take]; omega, fun hl => ?_⟩
  have hne : l ≠ [] := by rintro rfl; simp at hl
  obtain ⟨b, off, rfl, hb, hall⟩ := h.lies hne
  refine ⟨b, off, rfl, hb, fun i x hi => ?_⟩
  rw [List.getElem?_take] at hi
  split at hi
  · exact hall i x hi
  · cases hi
end

abbrev colC (c : Col) : List Value := [.string c.name, .int .i64 c.kind.toInt, .bool c.null]
def ColE (_ : World) (c : Col) (cs : List Value) : Prop := cs = colC c
def IntE (_ : World) (x : BitVec 64) (cs : List Value) : Prop := cs = [.int .i64 x.toInt]
def ByE (_ : World) (x : UInt8) (cs : List Value) : Prop := cs = [.int .u8 (x.toNat : Int)]
abbrev IntsIs (w : World) (v : Value) (l : List (BitVec 64)) : Prop := SlIs IntE 1 w v l
abbrev ColsIs (w : World) (v : Value) (l : List Col) : Prop := SlIs ColE 3 w v l
def PjE (w : World) (p : Pj) (cs : List Value) : Prop := ∃ v, cs = [.string p.name, v, .int .i64 p.keys.toInt] ∧ IntsIs w v p.cols
abbrev PjsIs (w : World) (v : Value) (l : List Pj) : Prop := SlIs PjE 3 w v l
def TbE (w : World) (t : Tb) (cs : List Value) : Prop := ∃ vc vp, cs = [.string t.name, vc, vp] ∧ ColsIs w vc t.cols ∧ PjsIs w vp t.projs
abbrev TabsIs (w : World) (v : Value) (l : List Tb) : Prop := SlIs TbE 3 w v l
theorem stays_int : Stays IntE := fun _ _ _ _ h _ => h
theorem stays_by : Stays ByE := fun _ _ _ _ h _ => h
theorem stays_col : Stays ColE := fun _ _ _ _ h _ => h
theorem stays_pj : Stays PjE := fun _ _ _ _ ⟨v, h1, h2⟩ k => ⟨v, h1, h2.over stays_int k⟩
theorem stays_tb : Stays TbE := fun _ _ _ _ ⟨vc, vp, h1, h2, h3⟩ k => ⟨vc, vp, h1, h2.over stays_col k, h3.over stays_pj k⟩

theorem one_col {w : World} {c : Col} {cs : List Value} (h : ColE w c cs) : ∀ u ∈ cs, u.oneCell' = true := by
  have e : cs = colC c := h
  subst e
  intro u hu
  simp only [colC, List.mem_cons, List.not_mem_nil, or_false] at hu
  rcases hu with rfl | rfl | rfl <;> rfl
theorem one_pj {w : World} {c : Pj} {cs : List Value} (h : PjE w c cs) : ∀ u ∈ cs, u.oneCell' = true := by
  obtain ⟨v, rfl, hv⟩ := h
  obtain ⟨a, n, cap, rfl, _⟩ := hv.slice
  intro u hu
  simp only [List.mem_cons, List.not_mem_nil, or_false] at hu
  rcases hu with rfl | rfl | rfl <;> rfl
theorem one_tb {w : World} {c : Tb} {cs : List Value} (h : TbE w c cs) : ∀ u ∈ cs, u.oneCell' = true := by
  obtain ⟨vc, vp, rfl, h1, h2⟩ := h
  obtain ⟨a, n, cap, rfl, _⟩ := h1.slice
  obtain ⟨a, n, cap, rfl, _⟩ := h2.slice
  intro u hu
  simp only [List.mem_cons, List.not_mem_nil, or_false] at hu
  rcases hu with rfl | rfl | rfl <;> rfl
theorem one_three {c0 c1 c2 : Value} (h : ∀ u ∈ [c0, c1, c2], u.oneCell' = true) : #[c0, c1, c2].all (·.oneCell') = true := by
  simp only [List.mem_cons, List.not_mem_nil, or_false, forall_eq_or_imp, forall_eq] at h
  simp [h.1, h.2.1, h.2.2]
theorem IntsIs.reads {w : World} {v : Value} {l : List (BitVec 64)} (h : IntsIs w v l) : ReadsI w v l := by
  obtain ⟨a, cap, rfl, hcap, h⟩ := h
  by_cases hl : l = []
  · subst hl; exact .inl ⟨rfl, _, _, rfl⟩
  · obtain ⟨b, off, rfl, hb, hc⟩ := h hl
    refine .inr ⟨b, off, cap, rfl, hl, hb, fun i hi => ?_⟩
    obtain ⟨cs, _, h2, h3⟩ := hc i l[i] (List.getElem?_eq_getElem hi)
    have e : cs = [.int .i64 (l[i]).toInt] := h2
    have := h3 0 _ (by rw [e]; rfl)
    rw [List.getD_eq_getElem?_getD, List.getElem?_eq_getElem hi]
    simpa using this
theorem ints_of_own {w : World} {B : Nat} {v : Value} {l : List (BitVec 64)} (h : OwnsI w B v l) : IntsIs w v l := by
  rcases h.cell with ⟨g, cap, rfl, _, hg, hcap, hc⟩ | ⟨rfl, rfl⟩
  · refine ⟨some ⟨g, 0, none⟩, cap, rfl, hcap, fun _ => ⟨g, 0, rfl, hg, fun i x hi => ⟨[.int .i64 x.toInt], rfl, rfl, fun j u hu => ?_⟩⟩⟩
    cases j with
    | zero =>
      simp at hu
      subst hu
      have := hc i (List.getElem?_eq_some_iff.1 hi).1
      rw [List.getD_eq_getElem?_getD, hi] at this
      simpa using this
    | succ j => simp at hu
  · exact slIs_nil _ _ _ _ _

/-- Rows of cells, one an element. -/
def RowsE {α : Type} (E : World → α → List Value → Prop) (w : World) (l : List α) (R : List (List Value)) : Prop :=
  R.length = l.length ∧ ∀ (i : Nat) (x : α) (r : List Value), l[i]? = some x → R[i]? = some r → E w x r
theorem slIs_of_srows {α : Type} {E : World → α → List Value → Prop} {sz : Nat} {w : World} {v : Value} {t : TypeId} {R : List (List Value)} {l : List α} (h : SRows w v t sz R) (hE : RowsE E w l R) : SlIs E sz w v l := by
  obtain ⟨hl, hE⟩ := hE
  have hlen := h.rowlen
  rcases h with ⟨rfl, h0⟩ | ⟨g, cap, rfl, hc1, hc2, hrows⟩
  · subst h0
    have : l = [] := List.eq_nil_of_length_eq_zero (by simpa using hl.symm)
    subst this
    exact slIs_nil _ _ _ _ _
  · rw [hl]
    refine ⟨some ⟨g, 0, none⟩, cap, rfl, by omega, fun _ => ⟨g, 0, rfl, hrows.lt, fun i x hi => ?_⟩⟩
    have hil := (List.getElem?_eq_some_iff.1 hi).1
    obtain ⟨r, hr⟩ : ∃ r, R[i]? = some r := ⟨_, List.getElem?_eq_getElem (by omega)⟩
    refine ⟨r, hlen r (List.mem_of_getElem? hr), hE i x r hi hr, fun j u hu => ?_⟩
    have := hrows.range hr j u hu
    simpa using this
/-- The rows that a slice has. -/
theorem SlIs.rows {α : Type} {E : World → α → List Value → Prop} {sz : Nat} {w : World} {a : Option Addr} {n cap : Nat} {l : List α} (h : SlIs E sz w (.slice a n cap) l) :
    ∃ R : List (List Value), RowsE E w l R ∧ (∀ r ∈ R, r.length = sz) ∧ (l ≠ [] → ∃ b off, a = some ⟨b, off, none⟩ ∧ b < w.heap.size ∧ ∀ (i : Nat) (r : List Value), R[i]? = some r → ∀ (j : Nat) (u : Value), r[j]? = some u → w.cell? ⟨b, off + i * sz + j, none⟩ = some u) := by
  by_cases hl : l = []
  · subst hl
    exact ⟨[], ⟨rfl, fun i x r hx => by simp at hx⟩, by simp, fun h => absurd rfl h⟩
  · obtain ⟨b, off, rfl, hb, hc⟩ := h.lies hl
    have key : ∀ m, m ≤ l.length → ∃ R : List (List Value), R.length = m ∧ (∀ r ∈ R, r.length = sz) ∧ ∀ (i : Nat) (r : List Value), R[i]? = some r → (∀ x, l[i]? = some x → E w x r) ∧ ∀ (j : Nat) (u : Value), r[j]? = some u → w.cell? ⟨b, off + i * sz + j, none⟩ = some u := by
      intro m
      induction m with
      | zero => exact fun _ => ⟨[], rfl, by simp, fun i r hr => by simp at hr⟩
      | succ m ih =>
        intro hm
        obtain ⟨R, h1, h2, h3⟩ := ih (by omega)
        have hx : l[m]? = some l[m] := List.getElem?_eq_getElem (by omega)
        obtain ⟨cs, c1, c2, c3⟩ := hc m _ hx
        refine ⟨R ++ [cs], by simp [h1], ?_, ?_⟩
        · intro r hr
          rcases List.mem_append.1 hr with hr | hr
          · exact h2 r hr
          · simp at hr; rw [hr]; exact c1
        · intro i r hr
          by_cases hi : i < R.length
          · rw [List.getElem?_append_left hi] at hr
            exact h3 i r hr
          · have hi2 := (List.getElem?_eq_some_iff.1 hr).1
            rw [List.length_append, List.length_singleton] at hi2
            have hi3 : i = R.length := by omega
            subst hi3
            rw [List.getElem?_append_right (Nat.le_refl _)] at hr
            simp at hr
            subst hr
            rw [h1]
            exact ⟨fun x hx' => by rw [hx] at hx'; cases hx'; exact c2, c3⟩
    obtain ⟨R, h1, h2, h3⟩ := key l.length (Nat.le_refl _)
    exact ⟨R, ⟨h1, fun i x r hx hr => (h3 i r hr).1 x hx⟩, h2, fun _ => ⟨b, off, rfl, hb, fun i r hr => (h3 i r hr).2⟩⟩
end Go.Proofs.YtdjobjbkpagnaaaGreat
/-
  The contracts of slices.IndexFunc and ContainsFunc over a slice of tables, of schema's allHold and hasTwice of them, with whatever function is given.
-/
namespace Go.Proofs.YtdjobjbkpagnaaaGreat
open Go.RowKit Go.Shelf

/-- A function value that tells p of each of l. -/
def FnT (g : Nat) (caps : Array Value) (w : World) (l : List Tb) (p : Tb → Bool) : Prop :=
  ∀ (W : World) (x : Tb) (c0 c1 c2 : Value), Below w.heap.size w W → x ∈ l → TbE W x [c0, c1, c2] → Calls Tryz.prog g (#[.agg #[c0, c1, c2]] ++ caps) W fun e w' => e = .returned (.bool (p x)) ∧ Below W.heap.size W w'
theorem size_tb : (Tryz.prog.info? 41).map (·.size) = some 3 := by kernel_rfl
/-- The three cells of the element at k. -/
theorem at3T {w : World} {a : Option Addr} {n cap : Nat} {l : List Tb} (h : SlIs TbE 3 w (.slice a n cap) l) {k : Nat} (hk : k < n) : ∃ (x : Tb) (c0 c1 c2 : Value) (b off : Nat), l[k]? = some x ∧ a = some ⟨b, off, none⟩ ∧ TbE w x [c0, c1, c2] ∧ w.cell? ⟨b, off + k * 3, none⟩ = some c0 ∧ w.cell? ⟨b, off + k * 3 + 1, none⟩ = some c1 ∧ w.cell? ⟨b, off + k * 3 + 2, none⟩ = some c2 := by
  obtain ⟨x, cs, b, off, h1, h2, _, h3, h4, h5⟩ := h.at hk
  obtain ⟨c0, c1, c2, rfl⟩ : ∃ c0 c1 c2, cs = [c0, c1, c2] := by
    match cs, h3 with
    | [c0, c1, c2], _ => exact ⟨c0, c1, c2, rfl⟩
  exact ⟨x, c0, c1, c2, b, off, h1, h2, h4, h5 0 _ rfl, h5 1 _ rfl, h5 2 _ rfl⟩
set_option maxRecDepth 4000 in
set_option maxHeartbeats 4000000 in
theorem idxT_any {w : World} {v : Value} {l : List Tb} (h : SlIs TbE 3 w v l) (hl : l.length ≤ 1000000) (g : Nat) (caps : Array Value) (p : Tb → Bool) (eg : ∀ args w, (callFunc g args).run Tryz.prog w = .ok (.enter g args) w) (hf : FnT g caps w l p) :
    Calls Tryz.prog 43 #[v, .func (.func g) #[] caps] w fun e w' => e = .returned (.int .i64 (idxI p l)) ∧ Below w.heap.size w w' := by
  obtain ⟨a, n, cap, rfl, hn, hcap⟩ := h.slice
  have hn1 : (n : Int) ≤ 1000000 := by omega
  have HH : Hid (SlIs TbE 3 w (.slice a n cap) l ∧ l.length = n ∧ FnT g caps w l p) := ⟨h, hn, hf⟩
  clear h hl hn hf
  go_enter Tryz.func43, Tryz.ntmps43
  go_wp2_with fail
  go_loopg [8] n (fun gg s8 wx => ∃ k : Nat, k + gg = n ∧ s8 = .int .i64 k ∧ Hid ((l.take k).any p = false) ∧ Hid (Below w.heap.size w wx))
  case atStart => exact ⟨0, by omega, rfl, by unfold Hid; rw [List.take_zero]; rfl, Below.refl _ _⟩
  case round =>
    obtain ⟨k, hkg, rfl, HN, HB⟩ := hrel
    by_cases hk : k < n
    · have hkI : (k : Int) < (n : Int) := by omega
      obtain ⟨x, d0, d1, d2, b, off, hs, rfl, hE, c0, c1, c2⟩ := at3T (HH.out.1.over stays_tb HB.out) hk
      have hr2 : IntKind.i64.wrap ((k : Int) + 1) = (k : Int) + 1 := by rw [IntKind.wrap_i64]; omega
      have hcall := HH.out.2.2 wr x d0 d1 d2 HB.out (List.mem_of_getElem? hs) hE
      have HS : Hid (l[k]? = some x ∧ (l.take (k + 1)).any p = ((l.take k).any p || p x)) := ⟨hs, any_take_succ hs⟩
      obtain ⟨t, ht⟩ : ∃ t, t = p x := ⟨_, rfl⟩
      rw [← ht] at hcall HS
      have HT : Hid (t = p x) := ht
      clear hE hs ht
      go_wp2_with fail
      refine hcall.mono ?_
      rintro e w1 ⟨rfl, hb1⟩
      have HB1 : Hid (Below w.heap.size w w1) := HB.out.trans (hb1.mono HB.out.size)
      clear hb1 hcall c0 c1 c2
      cases t with
      | true =>
        go_wp2_with fail
        go_ret
        exact ⟨ret_int (idx_hit HN.out HS.out.1 HT.out.symm).symm, HB1.out⟩
      | false =>
        go_wp2_with fail
        go_roundg (n - (k + 1))
        case measure => clear hr2; omega
        case rel => exact ⟨k + 1, by clear hr2; omega, by go_num, by unfold Hid; rw [HS.out.2, HN.out]; rfl, HB1⟩
    · have hkI : ¬ (k : Int) < (n : Int) := by omega
      obtain rfl : k = n := by omega
      go_wp2_with fail
      go_ret
      exact ⟨ret_int (by have := HN.out; rw [List.take_of_length_le (by rw [HH.out.2.1]; exact Nat.le_refl _)] at this; rw [idx_none this]), HB.out⟩
set_option maxHeartbeats 1000000 in
theorem hasT_any {w : World} {v : Value} {l : List Tb} (h : SlIs TbE 3 w v l) (hl : l.length ≤ 1000000) (g : Nat) (caps : Array Value) (p : Tb → Bool) (eg : ∀ args w, (callFunc g args).run Tryz.prog w = .ok (.enter g args) w) (hf : FnT g caps w l p) :
    Calls Tryz.prog 72 #[v, .func (.func g) #[] caps] w fun e w' => e = .returned (.bool (l.any p)) ∧ Below w.heap.size w w' := by
  have hc := idxT_any h hl g caps p eg hf
  have hz := idx_any p l
  obtain ⟨a, n, cap, rfl, hn, hcap⟩ := h.slice
  generalize idxI p l = z at *
  generalize l.any p = t at *
  have HZ : Hid (decide (0 ≤ z) = t) := hz
  clear h hl hn hf hz
  go_enter Tryz.func72, Tryz.ntmps72
  go_wp2_with fail
  refine hc.mono ?_
  rintro e w1 ⟨rfl, hb1⟩
  go_wp2_with fail
  go_ret
  exact ⟨ret_bool HZ.out, hb1⟩
set_option maxHeartbeats 1000000 in
theorem all1T_any {w : World} {l : List Tb} {p : Tb → Bool} (g : Nat) (caps : Array Value) (eg : ∀ args w, (callFunc g args).run Tryz.prog w = .ok (.enter g args) w) (hf : FnT g caps w l p) (B : Nat) (hB : w.cell? ⟨B, 0, none⟩ = some (.func (.func g) #[] caps)) :
    FnT 73 #[.pointer (some ⟨B, 0, none⟩)] w l (fun x => !p x) := by
  intro W x c0 c1 c2 hW hx hE
  have hlt := World.block_lt_of_cell? w _ hB
  have hB2 := (hW.cell (p := ⟨B, 0, none⟩) hlt).trans hB
  have b1 := below1 W (.cells #[c0, c1, c2] 41)
  have hB3 := (b1.cell (p := ⟨B, 0, none⟩) (Nat.lt_of_lt_of_le hlt hW.size)).trans hB2
  have hc := hf _ x c0 c1 c2 (hW.trans (b1.mono hW.size)) hx (stays_tb _ _ _ _ hE b1)
  show Calls _ _ _ _ fun e w' => e = .returned (.bool (!p x)) ∧ Below W.heap.size W w'
  generalize p x = t at *
  have HB : Hid (Below W.heap.size W (W.alloc (.cells #[c0, c1, c2] 41))) := b1
  clear hB hB2 hE hlt b1 hf
  go_enter Tryz.func73, Tryz.ntmps73
  go_wp2_with fail
  refine hc.mono ?_
  rintro e w1 ⟨rfl, hb1⟩
  go_wp2_with fail
  go_ret
  exact ⟨rfl, HB.out.trans (hb1.mono HB.out.size)⟩
set_option maxHeartbeats 1000000 in
theorem allT_any {w : World} {v : Value} {l : List Tb} (h : SlIs TbE 3 w v l) (hl : l.length ≤ 1000000) (g : Nat) (caps : Array Value) (p : Tb → Bool) (eg : ∀ args w, (callFunc g args).run Tryz.prog w = .ok (.enter g args) w) (hf : FnT g caps w l p) :
    Calls Tryz.prog 34 #[v, .func (.func g) #[] caps] w fun e w' => e = .returned (.bool (l.all p)) ∧ Below w.heap.size w w' := by
  have hb0 := below1 w (.cells #[.func (.func g) #[] caps] 62)
  have bx := box_new w #[.func (.func g) #[] caps] 62
  have hc := hasT_any (h.over stays_tb hb0) hl 73 #[.pointer (some ⟨w.heap.size, 0, none⟩)] (fun x => !p x) (enters_of Tryz.func73 (by kernel_rfl) rfl) (all1T_any g caps eg (fun W x c0 c1 c2 hW hx hE => hf W x c0 c1 c2 (hb0.trans (hW.mono hb0.size)) hx hE) w.heap.size (bx.cell 0 _ rfl))
  have hz := not_any_not p l
  obtain ⟨a, n, cap, rfl, hn, hcap⟩ := h.slice
  generalize l.all p = s at *
  generalize (l.any fun x => !p x) = t at *
  have HZ : Hid ((!t) = s) := hz
  have HB : Hid (Below w.heap.size w (w.alloc (.cells #[.func (.func g) #[] caps] 62))) := hb0
  clear h hl hn hf hz hb0 bx
  go_enter Tryz.func34, Tryz.ntmps34
  go_wp2_with fail
  refine hc.mono ?_
  rintro e w1 ⟨rfl, hb1⟩
  go_wp2_with fail
  go_ret
  exact ⟨ret_bool HZ.out, HB.out.trans (hb1.mono HB.out.size)⟩

/-- A function value that tells of each two of l. -/
def FsT (g : Nat) (caps : Array Value) (w : World) (l : List Tb) (q : Tb → Tb → Bool) : Prop :=
  ∀ (W : World) (x y : Tb) (c0 c1 c2 d0 d1 d2 : Value), Below w.heap.size w W → x ∈ l → y ∈ l → TbE W x [c0, c1, c2] → TbE W y [d0, d1, d2] → Calls Tryz.prog g (#[.agg #[c0, c1, c2], .agg #[d0, d1, d2]] ++ caps) W fun e w' => e = .returned (.bool (q x y)) ∧ Below W.heap.size W w'
set_option maxHeartbeats 1000000 in
theorem tw1T_any {w : World} {l : List Tb} {q : Tb → Tb → Bool} (g : Nat) (caps : Array Value) (eg : ∀ args w, (callFunc g args).run Tryz.prog w = .ok (.enter g args) w) (hf : FsT g caps w l q) (B1 B2 : Nat) (hB1 : w.cell? ⟨B1, 0, none⟩ = some (.func (.func g) #[] caps))
    {y : Tb} {d0 d1 d2 : Value} (hy : y ∈ l) (hE2 : TbE w y [d0, d1, d2]) (e0 : w.cell? ⟨B2, 0, none⟩ = some d0) (e1 : w.cell? ⟨B2, 1, none⟩ = some d1) (e2 : w.cell? ⟨B2, 2, none⟩ = some d2) :
    FnT 78 #[.pointer (some ⟨B1, 0, none⟩), .pointer (some ⟨B2, 0, none⟩)] w l (fun x => q x y) := by
  intro W x c0 c1 c2 hW hx hE
  have b1 := below1 W (.cells #[c0, c1, c2] 41)
  have hWb := hW.trans (b1.mono hW.size)
  have hB3 := (hWb.cell (p := ⟨B1, 0, none⟩) (World.block_lt_of_cell? w _ hB1)).trans hB1
  have f0 := (hWb.cell (p := ⟨B2, 0, none⟩) (World.block_lt_of_cell? w _ e0)).trans e0
  have f1 := (hWb.cell (p := ⟨B2, 1, none⟩) (World.block_lt_of_cell? w _ e1)).trans e1
  have f2 := (hWb.cell (p := ⟨B2, 2, none⟩) (World.block_lt_of_cell? w _ e2)).trans e2
  have hc := hf _ x y c0 c1 c2 d0 d1 d2 hWb hx hy (stays_tb _ _ _ _ hE b1) (stays_tb _ _ _ _ hE2 hWb)
  show Calls _ _ _ _ fun e w' => e = .returned (.bool (q x y)) ∧ Below W.heap.size W w'
  generalize q x y = t at *
  have HB : Hid (Below W.heap.size W (W.alloc (.cells #[c0, c1, c2] 41))) := b1
  clear hB1 e0 e1 e2 hE hE2 b1 hf hWb
  go_enter Tryz.func78, Tryz.ntmps78
  go_wp2_with fail
  refine hc.mono ?_
  rintro e w1 ⟨rfl, hb1⟩
  go_wp2_with fail
  go_ret
  exact ⟨rfl, HB.out.trans (hb1.mono HB.out.size)⟩
set_option maxRecDepth 4000 in
set_option maxHeartbeats 4000000 in
theorem twT_any {w : World} {v : Value} {l : List Tb} (h : SlIs TbE 3 w v l) (hl : l.length ≤ 1000000) (g : Nat) (caps : Array Value) (q : Tb → Tb → Bool) (eg : ∀ args w, (callFunc g args).run Tryz.prog w = .ok (.enter g args) w) (hf : FsT g caps w l q) :
    Calls Tryz.prog 36 #[v, .func (.func g) #[] caps] w fun e w' => e = .returned (.bool (tw q l)) ∧ Below w.heap.size w w' := by
  have hb0 := below1 w (.cells #[.func (.func g) #[] caps] 60)
  have bx := box_new w #[.func (.func g) #[] caps] 60
  obtain ⟨a, n, cap, rfl, hn, hcap⟩ := h.slice
  have hn1 : (n : Int) ≤ 1000000 := by omega
  have HH : Hid (SlIs TbE 3 w (.slice a n cap) l ∧ l.length = n ∧ n ≤ cap ∧ FsT g caps w l q) := ⟨h, hn, hcap, hf⟩
  have H0 : Hid (Unit → Below w.heap.size w _ ∧ Box _ w.heap.size 60 #[.func (.func g) #[] caps]) := fun _ => ⟨hb0, bx⟩
  have hcapI : (n : Int) ≤ (cap : Int) := by omega
  clear h hl hn hf hb0 bx
  go_enter Tryz.func36, Tryz.ntmps36
  go_wp2_with fail
  go_loopg [9] n (fun gg s9 wx => ∃ k : Nat, k + gg = n ∧ s9 = .int .i64 k ∧ Hid (tw q (l.take k) = false) ∧ Hid (Below w.heap.size w wx ∧ Box wx w.heap.size 60 #[.func (.func g) #[] caps]))
  case atStart => exact ⟨0, by omega, rfl, by unfold Hid; rw [List.take_zero]; rfl, H0.out ()⟩
  case round =>
    obtain ⟨k, hkg, rfl, HN, HB⟩ := hrel
    by_cases hk : k < n
    · have hkI : (k : Int) < (n : Int) := by omega
      have hkC : (k : Int) ≤ (cap : Int) := by omega
      have hS := HH.out.1.over stays_tb HB.out.1
      obtain ⟨x, d0, d1, d2, b, off, hs, rfl, hE, c0, c1, c2⟩ := at3T hS hk
      have hr2 : IntKind.i64.wrap ((k : Int) + 1) = (k : Int) + 1 := by rw [IntKind.wrap_i64]; omega
      have HS : Hid (tw q (l.take (k + 1)) = (tw q (l.take k) || (l.take k).any fun y => q y x)) := tw_take hs
      obtain ⟨t, ht⟩ : ∃ t, t = (l.take k).any fun y => q y x := ⟨_, rfl⟩
      rw [← ht] at HS
      have hone := one_three (one_tb hE)
      have HB2 : Hid (∀ z, Below w.heap.size w ((wr.alloc (.cells z 41)).setRow wr.heap.size #[d0, d1, d2]) ∧ Box ((wr.alloc (.cells z 41)).setRow wr.heap.size #[d0, d1, d2]) w.heap.size 60 #[.func (.func g) #[] caps] ∧
          Calls Tryz.prog 72 #[.slice (some ⟨b, off, none⟩) k cap, .func (.func 78) #[] #[.pointer (some ⟨w.heap.size, 0, none⟩), .pointer (some ⟨wr.heap.size, 0, none⟩)]] ((wr.alloc (.cells z 41)).setRow wr.heap.size #[d0, d1, d2]) fun e w' => e = .returned (.bool t) ∧ Below ((wr.alloc (.cells z 41)).setRow wr.heap.size #[d0, d1, d2]).heap.size ((wr.alloc (.cells z 41)).setRow wr.heap.size #[d0, d1, d2]) w') := by
        intro z
        have b1 : Below wr.heap.size wr ((wr.alloc (.cells z 41)).setRow wr.heap.size #[d0, d1, d2]) := below_setRow (below1 wr _) (Nat.le_refl _) _
        have B1 : Box ((wr.alloc (.cells z 41)).setRow wr.heap.size #[d0, d1, d2]) wr.heap.size 41 #[d0, d1, d2] := (box_new wr z 41).setRow _
        have hwb := HB.out.1.trans (b1.mono HB.out.1.size)
        have hcl := tw1T_any (w := (wr.alloc (.cells z 41)).setRow wr.heap.size #[d0, d1, d2]) (l := l) (q := q) g caps eg (fun W x y c0 c1 c2 d0 d1 d2 hW hx hy hE1 hE2 => HH.out.2.2.2 W x y c0 c1 c2 d0 d1 d2 (hwb.trans (hW.mono hwb.size)) hx hy hE1 hE2) w.heap.size wr.heap.size ((HB.out.2.over b1).cell 0 _ rfl) (List.mem_of_getElem? hs) (stays_tb _ _ _ _ hE b1) (B1.cell 0 _ rfl) (B1.cell 1 _ rfl) (B1.cell 2 _ rfl)
        have hcall := hasT_any ((hS.over stays_tb b1).take (Nat.le_of_lt hk)) (by have := HH.out.2.1; rw [List.length_take]; omega) _ _ (fun y => q y x) (enters_of Tryz.func78 (by kernel_rfl) rfl) (fun W y c0 c1 c2 hW hy hE => hcl W y c0 c1 c2 hW (List.mem_of_mem_take hy) hE)
        rw [← ht] at hcall
        exact ⟨hwb, HB.out.2.over b1, hcall⟩
      have HZ : Hid (∀ z, Box (wr.alloc (.cells z 41)) wr.heap.size 41 z) := fun z => box_new wr z _
      clear hE hs ht hS
      go_wp2_with (refine wpList_store_row rfl 41 _ _ rfl wr.heap.size #[d0, d1, d2] rfl rfl 41 _ (HZ.out _) size_tb rfl hone ?_)
      refine (HB2.out _).2.2.mono ?_
      rintro e w1 ⟨rfl, hb1⟩
      have HB1 : Hid (Below w.heap.size w w1 ∧ Box w1 w.heap.size 60 #[.func (.func g) #[] caps]) := ⟨(HB2.out _).1.trans (hb1.mono (HB2.out _).1.size), (HB2.out _).2.1.over hb1⟩
      clear hb1 c0 c1 c2 HB2
      cases t with
      | true =>
        go_wp2_with fail
        go_ret
        exact ⟨ret_bool (tw_take_true (k := k + 1) (by rw [HS.out]; simp)).symm, HB1.out.1⟩
      | false =>
        go_wp2_with fail
        go_roundg (n - (k + 1))
        case measure => clear hr2; omega
        case rel => exact ⟨k + 1, by clear hr2; omega, by go_num, by unfold Hid; rw [HS.out, HN.out]; rfl, HB1⟩
    · have hkI : ¬ (k : Int) < (n : Int) := by omega
      obtain rfl : k = n := by omega
      go_wp2_with fail
      go_ret
      exact ⟨ret_bool (by have := HN.out; rw [List.take_of_length_le (by rw [HH.out.2.1]; exact Nat.le_refl _)] at this; exact this.symm), HB.out.1⟩
end Go.Proofs.YtdjobjbkpagnaaaGreat
/-
  The contracts of slices.IndexFunc and ContainsFunc over a slice of columns, of schema's allHold and hasTwice of them, with whatever function is given.
-/
namespace Go.Proofs.YtdjobjbkpagnaaaGreat
open Go.RowKit Go.Shelf

/-- A function value that tells p of each of l. -/
def FnC (g : Nat) (caps : Array Value) (w : World) (l : List Col) (p : Col → Bool) : Prop :=
  ∀ (W : World) (x : Col) (c0 c1 c2 : Value), Below w.heap.size w W → x ∈ l → ColE W x [c0, c1, c2] → Calls Tryz.prog g (#[.agg #[c0, c1, c2]] ++ caps) W fun e w' => e = .returned (.bool (p x)) ∧ Below W.heap.size W w'
theorem size_col : (Tryz.prog.info? 53).map (·.size) = some 3 := by kernel_rfl
/-- The three cells of the element at k. -/
theorem at3C {w : World} {a : Option Addr} {n cap : Nat} {l : List Col} (h : SlIs ColE 3 w (.slice a n cap) l) {k : Nat} (hk : k < n) : ∃ (x : Col) (c0 c1 c2 : Value) (b off : Nat), l[k]? = some x ∧ a = some ⟨b, off, none⟩ ∧ ColE w x [c0, c1, c2] ∧ w.cell? ⟨b, off + k * 3, none⟩ = some c0 ∧ w.cell? ⟨b, off + k * 3 + 1, none⟩ = some c1 ∧ w.cell? ⟨b, off + k * 3 + 2, none⟩ = some c2 := by
  obtain ⟨x, cs, b, off, h1, h2, _, h3, h4, h5⟩ := h.at hk
  obtain ⟨c0, c1, c2, rfl⟩ : ∃ c0 c1 c2, cs = [c0, c1, c2] := by
    match cs, h3 with
    | [c0, c1, c2], _ => exact ⟨c0, c1, c2, rfl⟩
  exact ⟨x, c0, c1, c2, b, off, h1, h2, h4, h5 0 _ rfl, h5 1 _ rfl, h5 2 _ rfl⟩
set_option maxRecDepth 4000 in
set_option maxHeartbeats 4000000 in
theorem idxC_any {w : World} {v : Value} {l : List Col} (h : SlIs ColE 3 w v l) (hl : l.length ≤ 1000000) (g : Nat) (caps : Array Value) (p : Col → Bool) (eg : ∀ args w, (callFunc g args).run Tryz.prog w = .ok (.enter g args) w) (hf : FnC g caps w l p) :
    Calls Tryz.prog 54 #[v, .func (.func g) #[] caps] w fun e w' => e = .returned (.int .i64 (idxI p l)) ∧ Below w.heap.size w w' := by
  obtain ⟨a, n, cap, rfl, hn, hcap⟩ := h.slice
  have hn1 : (n : Int) ≤ 1000000 := by omega
  have HH : Hid (SlIs ColE 3 w (.slice a n cap) l ∧ l.length = n ∧ FnC g caps w l p) := ⟨h, hn, hf⟩
  clear h hl hn hf
  go_enter Tryz.func54, Tryz.ntmps54
  go_wp2_with fail
  go_loopg [8] n (fun gg s8 wx => ∃ k : Nat, k + gg = n ∧ s8 = .int .i64 k ∧ Hid ((l.take k).any p = false) ∧ Hid (Below w.heap.size w wx))
  case atStart => exact ⟨0, by omega, rfl, by unfold Hid; rw [List.take_zero]; rfl, Below.refl _ _⟩
  case round =>
    obtain ⟨k, hkg, rfl, HN, HB⟩ := hrel
    by_cases hk : k < n
    · have hkI : (k : Int) < (n : Int) := by omega
      obtain ⟨x, d0, d1, d2, b, off, hs, rfl, hE, c0, c1, c2⟩ := at3C (HH.out.1.over stays_col HB.out) hk
      have hr2 : IntKind.i64.wrap ((k : Int) + 1) = (k : Int) + 1 := by rw [IntKind.wrap_i64]; omega
      have hcall := HH.out.2.2 wr x d0 d1 d2 HB.out (List.mem_of_getElem? hs) hE
      have HS : Hid (l[k]? = some x ∧ (l.take (k + 1)).any p = ((l.take k).any p || p x)) := ⟨hs, any_take_succ hs⟩
      obtain ⟨t, ht⟩ : ∃ t, t = p x := ⟨_, rfl⟩
      rw [← ht] at hcall HS
      have HT : Hid (t = p x) := ht
      clear hE hs ht
      go_wp2_with fail
      refine hcall.mono ?_
      rintro e w1 ⟨rfl, hb1⟩
      have HB1 : Hid (Below w.heap.size w w1) := HB.out.trans (hb1.mono HB.out.size)
      clear hb1 hcall c0 c1 c2
      cases t with
      | true =>
        go_wp2_with fail
        go_ret
        exact ⟨ret_int (idx_hit HN.out HS.out.1 HT.out.symm).symm, HB1.out⟩
      | false =>
        go_wp2_with fail
        go_roundg (n - (k + 1))
        case measure => clear hr2; omega
        case rel => exact ⟨k + 1, by clear hr2; omega, by go_num, by unfold Hid; rw [HS.out.2, HN.out]; rfl, HB1⟩
    · have hkI : ¬ (k : Int) < (n : Int) := by omega
      obtain rfl : k = n := by omega
      go_wp2_with fail
      go_ret
      exact ⟨ret_int (by have := HN.out; rw [List.take_of_length_le (by rw [HH.out.2.1]; exact Nat.le_refl _)] at this; rw [idx_none this]), HB.out⟩
set_option maxHeartbeats 1000000 in
theorem hasC_any {w : World} {v : Value} {l : List Col} (h : SlIs ColE 3 w v l) (hl : l.length ≤ 1000000) (g : Nat) (caps : Array Value) (p : Col → Bool) (eg : ∀ args w, (callFunc g args).run Tryz.prog w = .ok (.enter g args) w) (hf : FnC g caps w l p) :
    Calls Tryz.prog 135 #[v, .func (.func g) #[] caps] w fun e w' => e = .returned (.bool (l.any p)) ∧ Below w.heap.size w w' := by
  have hc := idxC_any h hl g caps p eg hf
  have hz := idx_any p l
  obtain ⟨a, n, cap, rfl, hn, hcap⟩ := h.slice
  generalize idxI p l = z at *
  generalize l.any p = t at *
  have HZ : Hid (decide (0 ≤ z) = t) := hz
  clear h hl hn hf hz
  go_enter Tryz.func135, Tryz.ntmps135
  go_wp2_with fail
  refine hc.mono ?_
  rintro e w1 ⟨rfl, hb1⟩
  go_wp2_with fail
  go_ret
  exact ⟨ret_bool HZ.out, hb1⟩
set_option maxHeartbeats 1000000 in
theorem all1C_any {w : World} {l : List Col} {p : Col → Bool} (g : Nat) (caps : Array Value) (eg : ∀ args w, (callFunc g args).run Tryz.prog w = .ok (.enter g args) w) (hf : FnC g caps w l p) (B : Nat) (hB : w.cell? ⟨B, 0, none⟩ = some (.func (.func g) #[] caps)) :
    FnC 136 #[.pointer (some ⟨B, 0, none⟩)] w l (fun x => !p x) := by
  intro W x c0 c1 c2 hW hx hE
  have hlt := World.block_lt_of_cell? w _ hB
  have hB2 := (hW.cell (p := ⟨B, 0, none⟩) hlt).trans hB
  have b1 := below1 W (.cells #[c0, c1, c2] 53)
  have hB3 := (b1.cell (p := ⟨B, 0, none⟩) (Nat.lt_of_lt_of_le hlt hW.size)).trans hB2
  have hc := hf _ x c0 c1 c2 (hW.trans (b1.mono hW.size)) hx (stays_col _ _ _ _ hE b1)
  show Calls _ _ _ _ fun e w' => e = .returned (.bool (!p x)) ∧ Below W.heap.size W w'
  generalize p x = t at *
  have HB : Hid (Below W.heap.size W (W.alloc (.cells #[c0, c1, c2] 53))) := b1
  clear hB hB2 hE hlt b1 hf
  go_enter Tryz.func136, Tryz.ntmps136
  go_wp2_with fail
  refine hc.mono ?_
  rintro e w1 ⟨rfl, hb1⟩
  go_wp2_with fail
  go_ret
  exact ⟨rfl, HB.out.trans (hb1.mono HB.out.size)⟩
set_option maxHeartbeats 1000000 in
theorem allC_any {w : World} {v : Value} {l : List Col} (h : SlIs ColE 3 w v l) (hl : l.length ≤ 1000000) (g : Nat) (caps : Array Value) (p : Col → Bool) (eg : ∀ args w, (callFunc g args).run Tryz.prog w = .ok (.enter g args) w) (hf : FnC g caps w l p) :
    Calls Tryz.prog 101 #[v, .func (.func g) #[] caps] w fun e w' => e = .returned (.bool (l.all p)) ∧ Below w.heap.size w w' := by
  have hb0 := below1 w (.cells #[.func (.func g) #[] caps] 87)
  have bx := box_new w #[.func (.func g) #[] caps] 87
  have hc := hasC_any (h.over stays_col hb0) hl 136 #[.pointer (some ⟨w.heap.size, 0, none⟩)] (fun x => !p x) (enters_of Tryz.func136 (by kernel_rfl) rfl) (all1C_any g caps eg (fun W x c0 c1 c2 hW hx hE => hf W x c0 c1 c2 (hb0.trans (hW.mono hb0.size)) hx hE) w.heap.size (bx.cell 0 _ rfl))
  have hz := not_any_not p l
  obtain ⟨a, n, cap, rfl, hn, hcap⟩ := h.slice
  generalize l.all p = s at *
  generalize (l.any fun x => !p x) = t at *
  have HZ : Hid ((!t) = s) := hz
  have HB : Hid (Below w.heap.size w (w.alloc (.cells #[.func (.func g) #[] caps] 87))) := hb0
  clear h hl hn hf hz hb0 bx
  go_enter Tryz.func101, Tryz.ntmps101
  go_wp2_with fail
  refine hc.mono ?_
  rintro e w1 ⟨rfl, hb1⟩
  go_wp2_with fail
  go_ret
  exact ⟨ret_bool HZ.out, HB.out.trans (hb1.mono HB.out.size)⟩

/-- A function value that tells of each two of l. -/
def FsC (g : Nat) (caps : Array Value) (w : World) (l : List Col) (q : Col → Col → Bool) : Prop :=
  ∀ (W : World) (x y : Col) (c0 c1 c2 d0 d1 d2 : Value), Below w.heap.size w W → x ∈ l → y ∈ l → ColE W x [c0, c1, c2] → ColE W y [d0, d1, d2] → Calls Tryz.prog g (#[.agg #[c0, c1, c2], .agg #[d0, d1, d2]] ++ caps) W fun e w' => e = .returned (.bool (q x y)) ∧ Below W.heap.size W w'
set_option maxHeartbeats 1000000 in
theorem tw1C_any {w : World} {l : List Col} {q : Col → Col → Bool} (g : Nat) (caps : Array Value) (eg : ∀ args w, (callFunc g args).run Tryz.prog w = .ok (.enter g args) w) (hf : FsC g caps w l q) (B1 B2 : Nat) (hB1 : w.cell? ⟨B1, 0, none⟩ = some (.func (.func g) #[] caps))
    {y : Col} {d0 d1 d2 : Value} (hy : y ∈ l) (hE2 : ColE w y [d0, d1, d2]) (e0 : w.cell? ⟨B2, 0, none⟩ = some d0) (e1 : w.cell? ⟨B2, 1, none⟩ = some d1) (e2 : w.cell? ⟨B2, 2, none⟩ = some d2) :
    FnC 137 #[.pointer (some ⟨B1, 0, none⟩), .pointer (some ⟨B2, 0, none⟩)] w l (fun x => q x y) := by
  intro W x c0 c1 c2 hW hx hE
  have b1 := below1 W (.cells #[c0, c1, c2] 53)
  have hWb := hW.trans (b1.mono hW.size)
  have hB3 := (hWb.cell (p := ⟨B1, 0, none⟩) (World.block_lt_of_cell? w _ hB1)).trans hB1
  have f0 := (hWb.cell (p := ⟨B2, 0, none⟩) (World.block_lt_of_cell? w _ e0)).trans e0
  have f1 := (hWb.cell (p := ⟨B2, 1, none⟩) (World.block_lt_of_cell? w _ e1)).trans e1
  have f2 := (hWb.cell (p := ⟨B2, 2, none⟩) (World.block_lt_of_cell? w _ e2)).trans e2
  have hc := hf _ x y c0 c1 c2 d0 d1 d2 hWb hx hy (stays_col _ _ _ _ hE b1) (stays_col _ _ _ _ hE2 hWb)
  show Calls _ _ _ _ fun e w' => e = .returned (.bool (q x y)) ∧ Below W.heap.size W w'
  generalize q x y = t at *
  have HB : Hid (Below W.heap.size W (W.alloc (.cells #[c0, c1, c2] 53))) := b1
  clear hB1 e0 e1 e2 hE hE2 b1 hf hWb
  go_enter Tryz.func137, Tryz.ntmps137
  go_wp2_with fail
  refine hc.mono ?_
  rintro e w1 ⟨rfl, hb1⟩
  go_wp2_with fail
  go_ret
  exact ⟨rfl, HB.out.trans (hb1.mono HB.out.size)⟩
set_option maxRecDepth 4000 in
set_option maxHeartbeats 4000000 in
theorem twC_any {w : World} {v : Value} {l : List Col} (h : SlIs ColE 3 w v l) (hl : l.length ≤ 1000000) (g : Nat) (caps : Array Value) (q : Col → Col → Bool) (eg : ∀ args w, (callFunc g args).run Tryz.prog w = .ok (.enter g args) w) (hf : FsC g caps w l q) :
    Calls Tryz.prog 103 #[v, .func (.func g) #[] caps] w fun e w' => e = .returned (.bool (tw q l)) ∧ Below w.heap.size w w' := by
  have hb0 := below1 w (.cells #[.func (.func g) #[] caps] 121)
  have bx := box_new w #[.func (.func g) #[] caps] 121
  obtain ⟨a, n, cap, rfl, hn, hcap⟩ := h.slice
  have hn1 : (n : Int) ≤ 1000000 := by omega
  have HH : Hid (SlIs ColE 3 w (.slice a n cap) l ∧ l.length = n ∧ n ≤ cap ∧ FsC g caps w l q) := ⟨h, hn, hcap, hf⟩
  have H0 : Hid (Unit → Below w.heap.size w _ ∧ Box _ w.heap.size 121 #[.func (.func g) #[] caps]) := fun _ => ⟨hb0, bx⟩
  have hcapI : (n : Int) ≤ (cap : Int) := by omega
  clear h hl hn hf hb0 bx
  go_enter Tryz.func103, Tryz.ntmps103
  go_wp2_with fail
  go_loopg [9] n (fun gg s9 wx => ∃ k : Nat, k + gg = n ∧ s9 = .int .i64 k ∧ Hid (tw q (l.take k) = false) ∧ Hid (Below w.heap.size w wx ∧ Box wx w.heap.size 121 #[.func (.func g) #[] caps]))
  case atStart => exact ⟨0, by omega, rfl, by unfold Hid; rw [List.take_zero]; rfl, H0.out ()⟩
  case round =>
    obtain ⟨k, hkg, rfl, HN, HB⟩ := hrel
    by_cases hk : k < n
    · have hkI : (k : Int) < (n : Int) := by omega
      have hkC : (k : Int) ≤ (cap : Int) := by omega
      have hS := HH.out.1.over stays_col HB.out.1
      obtain ⟨x, d0, d1, d2, b, off, hs, rfl, hE, c0, c1, c2⟩ := at3C hS hk
      have hr2 : IntKind.i64.wrap ((k : Int) + 1) = (k : Int) + 1 := by rw [IntKind.wrap_i64]; omega
      have HS : Hid (tw q (l.take (k + 1)) = (tw q (l.take k) || (l.take k).any fun y => q y x)) := tw_take hs
      obtain ⟨t, ht⟩ : ∃ t, t = (l.take k).any fun y => q y x := ⟨_, rfl⟩
      rw [← ht] at HS
      have hone := one_three (one_col hE)
      have HB2 : Hid (∀ z, Below w.heap.size w ((wr.alloc (.cells z 53)).setRow wr.heap.size #[d0, d1, d2]) ∧ Box ((wr.alloc (.cells z 53)).setRow wr.heap.size #[d0, d1, d2]) w.heap.size 121 #[.func (.func g) #[] caps] ∧
          Calls Tryz.prog 135 #[.slice (some ⟨b, off, none⟩) k cap, .func (.func 137) #[] #[.pointer (some ⟨w.heap.size, 0, none⟩), .pointer (some ⟨wr.heap.size, 0, none⟩)]] ((wr.alloc (.cells z 53)).setRow wr.heap.size #[d0, d1, d2]) fun e w' => e = .returned (.bool t) ∧ Below ((wr.alloc (.cells z 53)).setRow wr.heap.size #[d0, d1, d2]).heap.size ((wr.alloc (.cells z 53)).setRow wr.heap.size #[d0, d1, d2]) w') := by
        intro z
        have b1 : Below wr.heap.size wr ((wr.alloc (.cells z 53)).setRow wr.heap.size #[d0, d1, d2]) := below_setRow (below1 wr _) (Nat.le_refl _) _
        have B1 : Box ((wr.alloc (.cells z 53)).setRow wr.heap.size #[d0, d1, d2]) wr.heap.size 53 #[d0, d1, d2] := (box_new wr z 53).setRow _
        have hwb := HB.out.1.trans (b1.mono HB.out.1.size)
        have hcl := tw1C_any (w := (wr.alloc (.cells z 53)).setRow wr.heap.size #[d0, d1, d2]) (l := l) (q := q) g caps eg (fun W x y c0 c1 c2 d0 d1 d2 hW hx hy hE1 hE2 => HH.out.2.2.2 W x y c0 c1 c2 d0 d1 d2 (hwb.trans (hW.mono hwb.size)) hx hy hE1 hE2) w.heap.size wr.heap.size ((HB.out.2.over b1).cell 0 _ rfl) (List.mem_of_getElem? hs) (stays_col _ _ _ _ hE b1) (B1.cell 0 _ rfl) (B1.cell 1 _ rfl) (B1.cell 2 _ rfl)
        have hcall := hasC_any ((hS.over stays_col b1).take (Nat.le_of_lt hk)) (by have := HH.out.2.1; rw [List.length_take]; omega) _ _ (fun y => q y x) (enters_of Tryz.func137 (by kernel_rfl) rfl) (fun W y c0 c1 c2 hW hy hE => hcl W y c0 c1 c2 hW (List.mem_of_mem_take hy) hE)
        rw [← ht] at hcall
        exact ⟨hwb, HB.out.2.over b1, hcall⟩
      have HZ : Hid (∀ z, Box (wr.alloc (.cells z 53)) wr.heap.size 53 z) := fun z => box_new wr z _
      clear hE hs ht hS
      go_wp2_with (refine wpList_store_row rfl 53 _ _ rfl wr.heap.size #[d0, d1, d2] rfl rfl 53 _ (HZ.out _) size_col rfl hone ?_)
      refine (HB2.out _).2.2.mono ?_
      rintro e w1 ⟨rfl, hb1⟩
      have HB1 : Hid (Below w.heap.size w w1 ∧ Box w1 w.heap.size 121 #[.func (.func g) #[] caps]) := ⟨(HB2.out _).1.trans (hb1.mono (HB2.out _).1.size), (HB2.out _).2.1.over hb1⟩
      clear hb1 c0 c1 c2 HB2
      cases t with
      | true =>
        go_wp2_with fail
        go_ret
        exact ⟨ret_bool (tw_take_true (k := k + 1) (by rw [HS.out]; simp)).symm, HB1.out.1⟩
      | false =>
        go_wp2_with fail
        go_roundg (n - (k + 1))
        case measure => clear hr2; omega
        case rel => exact ⟨k + 1, by clear hr2; omega, by go_num, by unfold Hid; rw [HS.out, HN.out]; rfl, HB1⟩
    · have hkI : ¬ (k : Int) < (n : Int) := by omega
      obtain rfl : k = n := by omega
      go_wp2_with fail
      go_ret
      exact ⟨ret_bool (by have := HN.out; rw [List.take_of_length_le (by rw [HH.out.2.1]; exact Nat.le_refl _)] at this; exact this.symm), HB.out.1⟩
end Go.Proofs.YtdjobjbkpagnaaaGreat
/-
  The contracts of slices.IndexFunc and ContainsFunc over a slice of projections, of schema's allHold and hasTwice of them, with whatever function is given.
-/
namespace Go.Proofs.YtdjobjbkpagnaaaGreat
open Go.RowKit Go.Shelf

/-- A function value that tells p of each of l. -/
def FnP (g : Nat) (caps : Array Value) (w : World) (l : List Pj) (p : Pj → Bool) : Prop :=
  ∀ (W : World) (x : Pj) (c0 c1 c2 : Value), Below w.heap.size w W → x ∈ l → PjE W x [c0, c1, c2] → Calls Tryz.prog g (#[.agg #[c0, c1, c2]] ++ caps) W fun e w' => e = .returned (.bool (p x)) ∧ Below W.heap.size W w'
theorem size_pj : (Tryz.prog.info? 26).map (·.size) = some 3 := by kernel_rfl
/-- The three cells of the element at k. -/
theorem at3P {w : World} {a : Option Addr} {n cap : Nat} {l : List Pj} (h : SlIs PjE 3 w (.slice a n cap) l) {k : Nat} (hk : k < n) : ∃ (x : Pj) (c0 c1 c2 : Value) (b off : Nat), l[k]? = some x ∧ a = some ⟨b, off, none⟩ ∧ PjE w x [c0, c1, c2] ∧ w.cell? ⟨b, off + k * 3, none⟩ = some c0 ∧ w.cell? ⟨b, off + k * 3 + 1, none⟩ = some c1 ∧ w.cell? ⟨b, off + k * 3 + 2, none⟩ = some c2 := by
  obtain ⟨x, cs, b, off, h1, h2, _, h3, h4, h5⟩ := h.at hk
  obtain ⟨c0, c1, c2, rfl⟩ : ∃ c0 c1 c2, cs = [c0, c1, c2] := by
    match cs, h3 with
    | [c0, c1, c2], _ => exact ⟨c0, c1, c2, rfl⟩
  exact ⟨x, c0, c1, c2, b, off, h1, h2, h4, h5 0 _ rfl, h5 1 _ rfl, h5 2 _ rfl⟩
set_option maxRecDepth 4000 in
set_option maxHeartbeats 4000000 in
theorem idxP_any {w : World} {v : Value} {l : List Pj} (h : SlIs PjE 3 w v l) (hl : l.length ≤ 1000000) (g : Nat) (caps : Array Value) (p : Pj → Bool) (eg : ∀ args w, (callFunc g args).run Tryz.prog w = .ok (.enter g args) w) (hf : FnP g caps w l p) :
    Calls Tryz.prog 113 #[v, .func (.func g) #[] caps] w fun e w' => e = .returned (.int .i64 (idxI p l)) ∧ Below w.heap.size w w' := by
  obtain ⟨a, n, cap, rfl, hn, hcap⟩ := h.slice
  have hn1 : (n : Int) ≤ 1000000 := by omega
  have HH : Hid (SlIs PjE 3 w (.slice a n cap) l ∧ l.length = n ∧ FnP g caps w l p) := ⟨h, hn, hf⟩
  clear h hl hn hf
  go_enter Tryz.func113, Tryz.ntmps113
  go_wp2_with fail
  go_loopg [8] n (fun gg s8 wx => ∃ k : Nat, k + gg = n ∧ s8 = .int .i64 k ∧ Hid ((l.take k).any p = false) ∧ Hid (Below w.heap.size w wx))
  case atStart => exact ⟨0, by omega, rfl, by unfold Hid; rw [List.take_zero]; rfl, Below.refl _ _⟩
  case round =>
    obtain ⟨k, hkg, rfl, HN, HB⟩ := hrel
    by_cases hk : k < n
    · have hkI : (k : Int) < (n : Int) := by omega
      obtain ⟨x, d0, d1, d2, b, off, hs, rfl, hE, c0, c1, c2⟩ := at3P (HH.out.1.over stays_pj HB.out) hk
      have hr2 : IntKind.i64.wrap ((k : Int) + 1) = (k : Int) + 1 := by rw [IntKind.wrap_i64]; omega
      have hcall := HH.out.2.2 wr x d0 d1 d2 HB.out (List.mem_of_getElem? hs) hE
      have HS : Hid (l[k]? = some x ∧ (l.take (k + 1)).any p = ((l.take k).any p || p x)) := ⟨hs, any_take_succ hs⟩
      obtain ⟨t, ht⟩ : ∃ t, t = p x := ⟨_, rfl⟩
      rw [← ht] at hcall HS
      have HT : Hid (t = p x) := ht
      clear hE hs ht
      go_wp2_with fail
      refine hcall.mono ?_
      rintro e w1 ⟨rfl, hb1⟩
      have HB1 : Hid (Below w.heap.size w w1) := HB.out.trans (hb1.mono HB.out.size)
      clear hb1 hcall c0 c1 c2
      cases t with
      | true =>
        go_wp2_with fail
        go_ret
        exact ⟨ret_int (idx_hit HN.out HS.out.1 HT.out.symm).symm, HB1.out⟩
      | false =>
        go_wp2_with fail
        go_roundg (n - (k + 1))
        case measure => clear hr2; omega
        case rel => exact ⟨k + 1, by clear hr2; omega, by go_num, by unfold Hid; rw [HS.out.2, HN.out]; rfl, HB1⟩
    · have hkI : ¬ (k : Int) < (n : Int) := by omega
      obtain rfl : k = n := by omega
      go_wp2_with fail
      go_ret
      exact ⟨ret_int (by have := HN.out; rw [List.take_of_length_le (by rw [HH.out.2.1]; exact Nat.le_refl _)] at this; rw [idx_none this]), HB.out⟩
set_option maxHeartbeats 1000000 in
theorem hasP_any {w : World} {v : Value} {l : List Pj} (h : SlIs PjE 3 w v l) (hl : l.length ≤ 1000000) (g : Nat) (caps : Array Value) (p : Pj → Bool) (eg : ∀ args w, (callFunc g args).run Tryz.prog w = .ok (.enter g args) w) (hf : FnP g caps w l p) :
    Calls Tryz.prog 116 #[v, .func (.func g) #[] caps] w fun e w' => e = .returned (.bool (l.any p)) ∧ Below w.heap.size w w' := by
  have hc := idxP_any h hl g caps p eg hf
  have hz := idx_any p l
  obtain ⟨a, n, cap, rfl, hn, hcap⟩ := h.slice
  generalize idxI p l = z at *
  generalize l.any p = t at *
  have HZ : Hid (decide (0 ≤ z) = t) := hz
  clear h hl hn hf hz
  go_enter Tryz.func116, Tryz.ntmps116
  go_wp2_with fail
  refine hc.mono ?_
  rintro e w1 ⟨rfl, hb1⟩
  go_wp2_with fail
  go_ret
  exact ⟨ret_bool HZ.out, hb1⟩
set_option maxHeartbeats 1000000 in
theorem all1P_any {w : World} {l : List Pj} {p : Pj → Bool} (g : Nat) (caps : Array Value) (eg : ∀ args w, (callFunc g args).run Tryz.prog w = .ok (.enter g args) w) (hf : FnP g caps w l p) (B : Nat) (hB : w.cell? ⟨B, 0, none⟩ = some (.func (.func g) #[] caps)) :
    FnP 119 #[.pointer (some ⟨B, 0, none⟩)] w l (fun x => !p x) := by
  intro W x c0 c1 c2 hW hx hE
  have hlt := World.block_lt_of_cell? w _ hB
  have hB2 := (hW.cell (p := ⟨B, 0, none⟩) hlt).trans hB
  have b1 := below1 W (.cells #[c0, c1, c2] 26)
  have hB3 := (b1.cell (p := ⟨B, 0, none⟩) (Nat.lt_of_lt_of_le hlt hW.size)).trans hB2
  have hc := hf _ x c0 c1 c2 (hW.trans (b1.mono hW.size)) hx (stays_pj _ _ _ _ hE b1)
  show Calls _ _ _ _ fun e w' => e = .returned (.bool (!p x)) ∧ Below W.heap.size W w'
  generalize p x = t at *
  have HB : Hid (Below W.heap.size W (W.alloc (.cells #[c0, c1, c2] 26))) := b1
  clear hB hB2 hE hlt b1 hf
  go_enter Tryz.func119, Tryz.ntmps119
  go_wp2_with fail
  refine hc.mono ?_
  rintro e w1 ⟨rfl, hb1⟩
  go_wp2_with fail
  go_ret
  exact ⟨rfl, HB.out.trans (hb1.mono HB.out.size)⟩
set_option maxHeartbeats 1000000 in
theorem allP_any {w : World} {v : Value} {l : List Pj} (h : SlIs PjE 3 w v l) (hl : l.length ≤ 1000000) (g : Nat) (caps : Array Value) (p : Pj → Bool) (eg : ∀ args w, (callFunc g args).run Tryz.prog w = .ok (.enter g args) w) (hf : FnP g caps w l p) :
    Calls Tryz.prog 74 #[v, .func (.func g) #[] caps] w fun e w' => e = .returned (.bool (l.all p)) ∧ Below w.heap.size w w' := by
  have hb0 := below1 w (.cells #[.func (.func g) #[] caps] 99)
  have bx := box_new w #[.func (.func g) #[] caps] 99
  have hc := hasP_any (h.over stays_pj hb0) hl 119 #[.pointer (some ⟨w.heap.size, 0, none⟩)] (fun x => !p x) (enters_of Tryz.func119 (by kernel_rfl) rfl) (all1P_any g caps eg (fun W x c0 c1 c2 hW hx hE => hf W x c0 c1 c2 (hb0.trans (hW.mono hb0.size)) hx hE) w.heap.size (bx.cell 0 _ rfl))
  have hz := not_any_not p l
  obtain ⟨a, n, cap, rfl, hn, hcap⟩ := h.slice
  generalize l.all p = s at *
  generalize (l.any fun x => !p x) = t at *
  have HZ : Hid ((!t) = s) := hz
  have HB : Hid (Below w.heap.size w (w.alloc (.cells #[.func (.func g) #[] caps] 99))) := hb0
  clear h hl hn hf hz hb0 bx
  go_enter Tryz.func74, Tryz.ntmps74
  go_wp2_with fail
  refine hc.mono ?_
  rintro e w1 ⟨rfl, hb1⟩
  go_wp2_with fail
  go_ret
  exact ⟨ret_bool HZ.out, HB.out.trans (hb1.mono HB.out.size)⟩

/-- A function value that tells of each two of l. -/
def FsP (g : Nat) (caps : Array Value) (w : World) (l : List Pj) (q : Pj → Pj → Bool) : Prop :=
  ∀ (W : World) (x y : Pj) (c0 c1 c2 d0 d1 d2 : Value), Below w.heap.size w W → x ∈ l → y ∈ l → PjE W x [c0, c1, c2] → PjE W y [d0, d1, d2] → Calls Tryz.prog g (#[.agg #[c0, c1, c2], .agg #[d0, d1, d2]] ++ caps) W fun e w' => e = .returned (.bool (q x y)) ∧ Below W.heap.size W w'
set_option maxHeartbeats 1000000 in
theorem tw1P_any {w : World} {l : List Pj} {q : Pj → Pj → Bool} (g : Nat) (caps : Array Value) (eg : ∀ args w, (callFunc g args).run Tryz.prog w = .ok (.enter g args) w) (hf : FsP g caps w l q) (B1 B2 : Nat) (hB1 : w.cell? ⟨B1, 0, none⟩ = some (.func (.func g) #[] caps))
    {y : Pj} {d0 d1 d2 : Value} (hy : y ∈ l) (hE2 : PjE w y [d0, d1, d2]) (e0 : w.cell? ⟨B2, 0, none⟩ = some d0) (e1 : w.cell? ⟨B2, 1, none⟩ = some d1) (e2 : w.cell? ⟨B2, 2, none⟩ = some d2) :
    FnP 120 #[.pointer (some ⟨B1, 0, none⟩), .pointer (some ⟨B2, 0, none⟩)] w l (fun x => q x y) := by
  intro W x c0 c1 c2 hW hx hE
  have b1 := below1 W (.cells #[c0, c1, c2] 26)
  have hWb := hW.trans (b1.mono hW.size)
  have hB3 := (hWb.cell (p := ⟨B1, 0, none⟩) (World.block_lt_of_cell? w _ hB1)).trans hB1
  have f0 := (hWb.cell (p := ⟨B2, 0, none⟩) (World.block_lt_of_cell? w _ e0)).trans e0
  have f1 := (hWb.cell (p := ⟨B2, 1, none⟩) (World.block_lt_of_cell? w _ e1)).trans e1
  have f2 := (hWb.cell (p := ⟨B2, 2, none⟩) (World.block_lt_of_cell? w _ e2)).trans e2
  have hc := hf _ x y c0 c1 c2 d0 d1 d2 hWb hx hy (stays_pj _ _ _ _ hE b1) (stays_pj _ _ _ _ hE2 hWb)
  show Calls _ _ _ _ fun e w' => e = .returned (.bool (q x y)) ∧ Below W.heap.size W w'
  generalize q x y = t at *
  have HB : Hid (Below W.heap.size W (W.alloc (.cells #[c0, c1, c2] 26))) := b1
  clear hB1 e0 e1 e2 hE hE2 b1 hf hWb
  go_enter Tryz.func120, Tryz.ntmps120
  go_wp2_with fail
  refine hc.mono ?_
  rintro e w1 ⟨rfl, hb1⟩
  go_wp2_with fail
  go_ret
  exact ⟨rfl, HB.out.trans (hb1.mono HB.out.size)⟩
set_option maxRecDepth 4000 in
set_option maxHeartbeats 4000000 in
theorem twP_any {w : World} {v : Value} {l : List Pj} (h : SlIs PjE 3 w v l) (hl : l.length ≤ 1000000) (g : Nat) (caps : Array Value) (q : Pj → Pj → Bool) (eg : ∀ args w, (callFunc g args).run Tryz.prog w = .ok (.enter g args) w) (hf : FsP g caps w l q) :
    Calls Tryz.prog 76 #[v, .func (.func g) #[] caps] w fun e w' => e = .returned (.bool (tw q l)) ∧ Below w.heap.size w w' := by
  have hb0 := below1 w (.cells #[.func (.func g) #[] caps] 101)
  have bx := box_new w #[.func (.func g) #[] caps] 101
  obtain ⟨a, n, cap, rfl, hn, hcap⟩ := h.slice
  have hn1 : (n : Int) ≤ 1000000 := by omega
  have HH : Hid (SlIs PjE 3 w (.slice a n cap) l ∧ l.length = n ∧ n ≤ cap ∧ FsP g caps w l q) := ⟨h, hn, hcap, hf⟩
  have H0 : Hid (Unit → Below w.heap.size w _ ∧ Box _ w.heap.size 101 #[.func (.func g) #[] caps]) := fun _ => ⟨hb0, bx⟩
  have hcapI : (n : Int) ≤ (cap : Int) := by omega
  clear h hl hn hf hb0 bx
  go_enter Tryz.func76, Tryz.ntmps76
  go_wp2_with fail
  go_loopg [9] n (fun gg s9 wx => ∃ k : Nat, k + gg = n ∧ s9 = .int .i64 k ∧ Hid (tw q (l.take k) = false) ∧ Hid (Below w.heap.size w wx ∧ Box wx w.heap.size 101 #[.func (.func g) #[] caps]))
  case atStart => exact ⟨0, by omega, rfl, by unfold Hid; rw [List.take_zero]; rfl, H0.out ()⟩
  case round =>
    obtain ⟨k, hkg, rfl, HN, HB⟩ := hrel
    by_cases hk : k < n
    · have hkI : (k : Int) < (n : Int) := by omega
      have hkC : (k : Int) ≤ (cap : Int) := by omega
      have hS := HH.out.1.over stays_pj HB.out.1
      obtain ⟨x, d0, d1, d2, b, off, hs, rfl, hE, c0, c1, c2⟩ := at3P hS hk
      have hr2 : IntKind.i64.wrap ((k : Int) + 1) = (k : Int) + 1 := by rw [IntKind.wrap_i64]; omega
      have HS : Hid (tw q (l.take (k + 1)) = (tw q (l.take k) || (l.take k).any fun y => q y x)) := tw_take hs
      obtain ⟨t, ht⟩ : ∃ t, t = (l.take k).any fun y => q y x := ⟨_, rfl⟩
      rw [← ht] at HS
      have hone := one_three (one_pj hE)
      have HB2 : Hid (∀ z, Below w.heap.size w ((wr.alloc (.cells z 26)).setRow wr.heap.size #[d0, d1, d2]) ∧ Box ((wr.alloc (.cells z 26)).setRow wr.heap.size #[d0, d1, d2]) w.heap.size 101 #[.func (.func g) #[] caps] ∧
          Calls Tryz.prog 116 #[.slice (some ⟨b, off, none⟩) k cap, .func (.func 120) #[] #[.pointer (some ⟨w.heap.size, 0, none⟩), .pointer (some ⟨wr.heap.size, 0, none⟩)]] ((wr.alloc (.cells z 26)).setRow wr.heap.size #[d0, d1, d2]) fun e w' => e = .returned (.bool t) ∧ Below ((wr.alloc (.cells z 26)).setRow wr.heap.size #[d0, d1, d2]).heap.size ((wr.alloc (.cells z 26)).setRow wr.heap.size #[d0, d1, d2]) w') := by
        intro z
        have b1 : Below wr.heap.size wr ((wr.alloc (.cells z 26)).setRow wr.heap.size #[d0, d1, d2]) := below_setRow (below1 wr _) (Nat.le_refl _) _
        have B1 : Box ((wr.alloc (.cells z 26)).setRow wr.heap.size #[d0, d1, d2]) wr.heap.size 26 #[d0, d1, d2] := (box_new wr z 26).setRow _
        have hwb := HB.out.1.trans (b1.mono HB.out.1.size)
        have hcl := tw1P_any (w := (wr.alloc (.cells z 26)).setRow wr.heap.size #[d0, d1, d2]) (l := l) (q := q) g caps eg (fun W x y c0 c1 c2 d0 d1 d2 hW hx hy hE1 hE2 => HH.out.2.2.2 W x y c0 c1 c2 d0 d1 d2 (hwb.trans (hW.mono hwb.size)) hx hy hE1 hE2) w.heap.size wr.heap.size ((HB.out.2.over b1).cell 0 _ rfl) (List.mem_of_getElem? hs) (stays_pj _ _ _ _ hE b1) (B1.cell 0 _ rfl) (B1.cell 1 _ rfl) (B1.cell 2 _ rfl)
        have hcall := hasP_any ((hS.over stays_pj b1).take (Nat.le_of_lt hk)) (by have := HH.out.2.1; rw [List.length_take]; omega) _ _ (fun y => q y x) (enters_of Tryz.func120 (by kernel_rfl) rfl) (fun W y c0 c1 c2 hW hy hE => hcl W y c0 c1 c2 hW (List.mem_of_mem_take hy) hE)
        rw [← ht] at hcall
        exact ⟨hwb, HB.out.2.over b1, hcall⟩
      have HZ : Hid (∀ z, Box (wr.alloc (.cells z 26)) wr.heap.size 26 z) := fun z => box_new wr z _
      clear hE hs ht hS
      go_wp2_with (refine wpList_store_row rfl 26 _ _ rfl wr.heap.size #[d0, d1, d2] rfl rfl 26 _ (HZ.out _) size_pj rfl hone ?_)
      refine (HB2.out _).2.2.mono ?_
      rintro e w1 ⟨rfl, hb1⟩
      have HB1 : Hid (Below w.heap.size w w1 ∧ Box w1 w.heap.size 101 #[.func (.func g) #[] caps]) := ⟨(HB2.out _).1.trans (hb1.mono (HB2.out _).1.size), (HB2.out _).2.1.over hb1⟩
      clear hb1 c0 c1 c2 HB2
      cases t with
      | true =>
        go_wp2_with fail
        go_ret
        exact ⟨ret_bool (tw_take_true (k := k + 1) (by rw [HS.out]; simp)).symm, HB1.out.1⟩
      | false =>
        go_wp2_with fail
        go_roundg (n - (k + 1))
        case measure => clear hr2; omega
        case rel => exact ⟨k + 1, by clear hr2; omega, by go_num, by unfold Hid; rw [HS.out, HN.out]; rfl, HB1⟩
    · have hkI : ¬ (k : Int) < (n : Int) := by omega
      obtain rfl : k = n := by omega
      go_wp2_with fail
      go_ret
      exact ⟨ret_bool (by have := HN.out; rw [List.take_of_length_le (by rw [HH.out.2.1]; exact Nat.le_refl _)] at this; exact this.symm), HB.out.1⟩
end Go.Proofs.YtdjobjbkpagnaaaGreat
/-
  The contracts of slices.IndexFunc and ContainsFunc over a slice of bytes, of schema's allHold (and hasTwice) of them, with whatever function is given.
-/
namespace Go.Proofs.YtdjobjbkpagnaaaGreat
open Go.RowKit Go.Shelf

/-- A function value that tells p of each of l. -/
def FnB (g : Nat) (caps : Array Value) (w : World) (l : List UInt8) (p : UInt8 → Bool) : Prop :=
  ∀ (W : World) (x : UInt8), Below w.heap.size w W → x ∈ l → Calls Tryz.prog g (#[.int .u8 (x.toNat : Int)] ++ caps) W fun e w' => e = .returned (.bool (p x)) ∧ Below W.heap.size W w'
theorem at1B {w : World} {a : Option Addr} {n cap : Nat} {l : List UInt8} (h : SlIs ByE 1 w (.slice a n cap) l) {k : Nat} (hk : k < n) : ∃ (x : UInt8) (b off : Nat), l[k]? = some x ∧ a = some ⟨b, off, none⟩ ∧ w.cell? ⟨b, off + k, none⟩ = some (.int .u8 (x.toNat : Int)) := by
  obtain ⟨x, cs, b, off, h1, h2, _, h3, h4, h5⟩ := h.at hk
  have e : cs = [.int .u8 (x.toNat : Int)] := h4
  subst e
  have := h5 0 _ rfl
  rw [Nat.mul_one] at this
  exact ⟨x, b, off, h1, h2, this⟩
set_option maxRecDepth 4000 in
set_option maxHeartbeats 4000000 in
theorem idxB_any {w : World} {v : Value} {l : List UInt8} (h : SlIs ByE 1 w v l) (hl : l.length ≤ 1000000) (g : Nat) (caps : Array Value) (p : UInt8 → Bool) (eg : ∀ args w, (callFunc g args).run Tryz.prog w = .ok (.enter g args) w) (hf : FnB g caps w l p) :
    Calls Tryz.prog 158 #[v, .func (.func g) #[] caps] w fun e w' => e = .returned (.int .i64 (idxI p l)) ∧ Below w.heap.size w w' := by
  obtain ⟨a, n, cap, rfl, hn, hcap⟩ := h.slice
  have hn1 : (n : Int) ≤ 1000000 := by omega
  have HH : Hid (SlIs ByE 1 w (.slice a n cap) l ∧ l.length = n ∧ FnB g caps w l p) := ⟨h, hn, hf⟩
  clear h hl hn hf
  go_enter Tryz.func158, Tryz.ntmps158
  go_wp2_with fail
  go_loopg [8] n (fun gg s8 wx => ∃ k : Nat, k + gg = n ∧ s8 = .int .i64 k ∧ Hid ((l.take k).any p = false) ∧ Hid (Below w.heap.size w wx))
  case atStart => exact ⟨0, by omega, rfl, by unfold Hid; rw [List.take_zero]; rfl, Below.refl _ _⟩
  case round =>
    obtain ⟨k, hkg, rfl, HN, HB⟩ := hrel
    by_cases hk : k < n
    · have hkI : (k : Int) < (n : Int) := by omega
      obtain ⟨x, b, off, hs, rfl, c0⟩ := at1B (HH.out.1.over stays_by HB.out) hk
      have hr2 : IntKind.i64.wrap ((k : Int) + 1) = (k : Int) + 1 := by rw [IntKind.wrap_i64]; omega
      have hcall := HH.out.2.2 wr x HB.out (List.mem_of_getElem? hs)
      have HS : Hid (l[k]? = some x ∧ (l.take (k + 1)).any p = ((l.take k).any p || p x)) := ⟨hs, any_take_succ hs⟩
      obtain ⟨t, ht⟩ : ∃ t, t = p x := ⟨_, rfl⟩
      rw [← ht] at hcall HS
      have HT : Hid (t = p x) := ht
      clear hs ht
      go_wp2_with fail
      refine hcall.mono ?_
      rintro e w1 ⟨rfl, hb1⟩
      have HB1 : Hid (Below w.heap.size w w1) := HB.out.trans (hb1.mono HB.out.size)
      clear hb1 hcall c0
      cases t with
      | true =>
        go_wp2_with fail
        go_ret
        exact ⟨ret_int (idx_hit HN.out HS.out.1 HT.out.symm).symm, HB1.out⟩
      | false =>
        go_wp2_with fail
        go_roundg (n - (k + 1))
        case measure => clear hr2; omega
        case rel => exact ⟨k + 1, by clear hr2; omega, by go_num, by unfold Hid; rw [HS.out.2, HN.out]; rfl, HB1⟩
    · have hkI : ¬ (k : Int) < (n : Int) := by omega
      obtain rfl : k = n := by omega
      go_wp2_with fail
      go_ret
      exact ⟨ret_int (by have := HN.out; rw [List.take_of_length_le (by rw [HH.out.2.1]; exact Nat.le_refl _)] at this; rw [idx_none this]), HB.out⟩
set_option maxHeartbeats 1000000 in
theorem hasB_any {w : World} {v : Value} {l : List UInt8} (h : SlIs ByE 1 w v l) (hl : l.length ≤ 1000000) (g : Nat) (caps : Array Value) (p : UInt8 → Bool) (eg : ∀ args w, (callFunc g args).run Tryz.prog w = .ok (.enter g args) w) (hf : FnB g caps w l p) :
    Calls Tryz.prog 133 #[v, .func (.func g) #[] caps] w fun e w' => e = .returned (.bool (l.any p)) ∧ Below w.heap.size w w' := by
  have hc := idxB_any h hl g caps p eg hf
  have hz := idx_any p l
  obtain ⟨a, n, cap, rfl, hn, hcap⟩ := h.slice
  generalize idxI p l = z at *
  generalize l.any p = t at *
  have HZ : Hid (decide (0 ≤ z) = t) := hz
  clear h hl hn hf hz
  go_enter Tryz.func133, Tryz.ntmps133
  go_wp2_with fail
  refine hc.mono ?_
  rintro e w1 ⟨rfl, hb1⟩
  go_wp2_with fail
  go_ret
  exact ⟨ret_bool HZ.out, hb1⟩
set_option maxHeartbeats 1000000 in
theorem all1B_any {w : World} {l : List UInt8} {p : UInt8 → Bool} (g : Nat) (caps : Array Value) (eg : ∀ args w, (callFunc g args).run Tryz.prog w = .ok (.enter g args) w) (hf : FnB g caps w l p) (B : Nat) (hB : w.cell? ⟨B, 0, none⟩ = some (.func (.func g) #[] caps)) :
    FnB 134 #[.pointer (some ⟨B, 0, none⟩)] w l (fun x => !p x) := by
  intro W x hW hx
  have hB2 := (hW.cell (p := ⟨B, 0, none⟩) (World.block_lt_of_cell? w _ hB)).trans hB
  have hc := hf _ x hW hx
  show Calls _ _ _ _ fun e w' => e = .returned (.bool (!p x)) ∧ Below W.heap.size W w'
  generalize p x = t at *
  clear hB hf
  go_enter Tryz.func134, Tryz.ntmps134
  go_wp2_with fail
  refine hc.mono ?_
  rintro e w1 ⟨rfl, hb1⟩
  go_wp2_with fail
  go_ret
  exact ⟨rfl, hb1⟩
set_option maxHeartbeats 1000000 in
theorem allB_any {w : World} {v : Value} {l : List UInt8} (h : SlIs ByE 1 w v l) (hl : l.length ≤ 1000000) (g : Nat) (caps : Array Value) (p : UInt8 → Bool) (eg : ∀ args w, (callFunc g args).run Tryz.prog w = .ok (.enter g args) w) (hf : FnB g caps w l p) :
    Calls Tryz.prog 99 #[v, .func (.func g) #[] caps] w fun e w' => e = .returned (.bool (l.all p)) ∧ Below w.heap.size w w' := by
  have hb0 := below1 w (.cells #[.func (.func g) #[] caps] 117)
  have bx := box_new w #[.func (.func g) #[] caps] 117
  have hc := hasB_any (h.over stays_by hb0) hl 134 #[.pointer (some ⟨w.heap.size, 0, none⟩)] (fun x => !p x) (enters_of Tryz.func134 (by kernel_rfl) rfl) (all1B_any g caps eg (fun W x hW hx => hf W x (hb0.trans (hW.mono hb0.size)) hx) w.heap.size (bx.cell 0 _ rfl))
  have hz := not_any_not p l
  obtain ⟨a, n, cap, rfl, hn, hcap⟩ := h.slice
  generalize l.all p = s at *
  generalize (l.any fun x => !p x) = t at *
  have HZ : Hid ((!t) = s) := hz
  have HB : Hid (Below w.heap.size w (w.alloc (.cells #[.func (.func g) #[] caps] 117))) := hb0
  clear h hl hn hf hz hb0 bx
  go_enter Tryz.func99, Tryz.ntmps99
  go_wp2_with fail
  refine hc.mono ?_
  rintro e w1 ⟨rfl, hb1⟩
  go_wp2_with fail
  go_ret
  exact ⟨ret_bool HZ.out, HB.out.trans (hb1.mono HB.out.size)⟩
end Go.Proofs.YtdjobjbkpagnaaaGreat
/-
  Bytes in a block of the call's own, to be turned in place: what a cell is, what a store makes of them, the string of them.
-/
namespace Go.Proofs.YtdjobjbkpagnaaaGreat
open Go.RowKit

/-- The text of a list of bytes. -/
def strB (l : List UInt8) : ByteArray := ⟨l.toArray⟩
theorem strB_size (l : List UInt8) : (strB l).size = l.length := rfl
theorem strB_list (l : List UInt8) : (strB l).data.toList = l := by simp [strB]
theorem strB_toList (l : List UInt8) : (strB l).toList = l := by
  rw [ByteArray.toList_eq]; exact strB_list l
theorem strB_of (s : ByteArray) : strB s.data.toList = s := by
  apply ByteArray.ext; simp [strB]

/-- In the world w the block b begins with the bytes l, and they may be turned. -/
def RowB (w : World) (b : Nat) (l : List UInt8) : Prop :=
  ∃ (c : Array Value) (t : TypeId) (fr : Nat × Nat), w.heap[b]? = some (.cells c t fr) ∧ (∀ i, i < l.length → c[i]? = some (.int .u8 ((l.getD i 0).toNat : Int))) ∧ (fr.2 ≤ fr.1 ∨ l.length ≤ fr.1)
theorem RowB.cell {w : World} {b : Nat} {l : List UInt8} (h : RowB w b l) (k : Nat) (hk : k < l.length) : w.cell? ⟨b, k, none⟩ = some (.int .u8 ((l.getD k 0).toNat : Int)) := by
  obtain ⟨c, t, fr, hb, hc, _⟩ := h
  rw [cell_of_row w b k c t fr hb]; exact hc k hk
theorem RowB.frozen {w : World} {b : Nat} {l : List UInt8} (h : RowB w b l) (k : Nat) (hk : k < l.length) : w.frozen? ⟨b, k, none⟩ = false := by
  obtain ⟨c, t, fr, hb, _, hf⟩ := h
  simp only [World.frozen?, hb]
  rcases hf with hf | hf
  · simp; omega
  · simp; omega
theorem RowB.set {w : World} {b : Nat} {l : List UInt8} (h : RowB w b l) (k : Nat) (hk : k < l.length) (x : UInt8) : RowB (w.setCell ⟨b, k, none⟩ (.int .u8 (x.toNat : Int))) b (l.set k x) := by
  obtain ⟨c, t, fr, hb, hc, hf⟩ := h
  have hck : k < c.size := (Array.getElem?_eq_some_iff.1 (hc k hk)).1
  refine ⟨c.setIfInBounds k (.int .u8 (x.toNat : Int)), t, fr, ?_, ?_, by simpa using hf⟩
  · simp [World.setCell, Array.getElem?_modify, hb]
  · intro i hi
    rw [List.length_set] at hi
    rw [Array.getElem?_setIfInBounds]
    by_cases e : k = i
    · subst e
      simp [hck, hk]
    · rw [if_neg e, hc i hi]
      simp [List.getD_eq_getElem?_getD, e]
theorem RowB.below {w w' : World} {b B : Nat} {l : List UInt8} (h : RowB w b l) (hb : Below B w w') (hB : b < B) : RowB w' b l := by
  obtain ⟨c, t, fr, h1, h2⟩ := h
  exact ⟨c, t, fr, by rw [hb.block b hB]; exact h1, h2⟩
theorem RowB.lt {w : World} {b : Nat} {l : List UInt8} (h : RowB w b l) : b < w.heap.size := by
  obtain ⟨c, t, fr, h1, _⟩ := h
  exact (Array.getElem?_eq_some_iff.1 h1).1
theorem RowB.drew {w : World} {b : Nat} {l : List UInt8} (h : RowB w b l) : RowB w.drew b l := h
theorem rowB_new (w : World) (c : Array Value) (t : TypeId) (l : List UInt8) (h : ∀ i, i < l.length → c[i]? = some (.int .u8 ((l.getD i 0).toNat : Int))) : RowB (w.alloc (.cells c t)) w.heap.size l :=
  ⟨c, t, (0, 0), heap_alloc_last w _, h, .inl (Nat.le_refl _)⟩
/-- 'string(b)' of such bytes. -/
theorem RowB.text {w : World} {b : Nat} {l : List UInt8} (h : RowB w b l) (cap : Nat) :
    (convert 108 9 (.slice (some ⟨b, 0, none⟩) l.length cap)).run Tryz.prog w = .ok (.string (strB l)) w := by
  refine run_convert_bytes_back w _ _ 5 _ cap l Tryz.underlying108 Tryz.underlying5 Tryz.underlying9 ?_
  intro j hj
  have hadd : (⟨b, 0, none⟩ : Addr).add j = ⟨b, j, none⟩ := by unfold Addr.add; split <;> simp_all
  rw [hadd, h.cell j hj]
  simp [hj]
/-- '[]byte(s)'. -/
theorem bytes_of (s : ByteArray) (w : World) :
    ∃ cap w', (convert 9 108 (.string s)).run Tryz.prog w = .ok (.slice (some ⟨w.heap.size, 0, none⟩) s.size cap) w' ∧ RowB w' w.heap.size s.data.toList ∧ Below w.heap.size w w' := by
  refine ⟨_, _, run_bytes_of_string w _ _ 5 s Tryz.underlying9 Tryz.underlying108 Tryz.underlying5, ?_, ?_⟩
  · refine ⟨_, _, _, heap_alloc_last w.drew _, ?_, .inr ?_⟩
    · intro i hi
      have hi2 : i < s.data.size := by simpa using hi
      unfold bytesRow
      rw [Array.getElem?_append_left (by simpa using hi2), Array.getElem?_map, Array.getElem?_eq_getElem hi2, List.getD_eq_getElem?_getD, Array.getElem?_toList, Array.getElem?_eq_getElem hi2]
      rfl
    · simp [bytesRow]
  · exact ((Below.refl _ _).drew).alloc (Nat.le_refl _) _
theorem infoB_u8 : (Tryz.prog.info? 5).map (fun i => (i.zero, i.size, i.bytes)) = some (some (.int .u8 0), 1, 1) := by kernel_rfl
/-- 'make([]byte, n)'. -/
theorem make_u8 {ops : Array Oper} {rest : List Oper} {o : Oper} {a : Act} {Q : Exit → Act → World → Prop} (hgd : o.guard = none) (l c : Operand) (hop : o.op = Op.makeSlice 108 l c)
    {w : World} {C : Int} {n : Nat} (hl : a.eval l = .int .i64 C) (hc : a.eval c = .int .i64 C) (hC : C = (n : Int)) (hn : n ≤ 1000000)
    (h : ∀ w', RowB w' w.heap.size (List.replicate n 0) → Below w.heap.size w w' → wpList Tryz.prog ops Q rest (a.put o.dst (.slice (some ⟨w.heap.size, 0, none⟩) n n)) w') : wpList Tryz.prog ops Q (o :: rest) a w := by
  obtain ⟨i0, hi, hz0, hz1, hz2⟩ := info_parts infoB_u8
  refine wpList_plain hgd fun K hK' => ?_
  have hr := run_make (P := Tryz.prog) w 108 5 i0 (.int .u8 0) Tryz.underlying108 hi hz0 .i64 .i64 n n (by omega) (Int.le_refl _) (by rw [hz2]; omega) (by omega)
  subst hC
  unfold Oper.wp
  simp [execOp, hop, hl, hc, hr, Result.andThen]
  refine hK' _ _ (h _ ?_ ?_)
  · refine rowB_new _ _ _ _ ?_
    intro i hi
    rw [List.length_replicate] at hi
    rw [hz1, Nat.mul_one]
    have e : (Value.int IntKind.u8 0).cells = #[.int .u8 0] := rfl
    rw [e]
    simp [madeCells, hi, Nat.mod_one]
  · exact (Below.refl _ _).alloc (Nat.le_refl _) _
end Go.Proofs.YtdjobjbkpagnaaaGreat
/-
  The contracts of schema's isLetter, mayBeInName and isName, and of the document's Name.
-/
namespace Go.Proofs.YtdjobjbkpagnaaaGreat
open Go.RowKit Go.Shelf

set_option maxHeartbeats 1000000 in
theorem letter_any (c : UInt8) (w : World) : Calls Tryz.prog 98 #[.int .u8 (c.toNat : Int)] w fun e w' => e = .returned (.bool (letB c)) ∧ w' = w := by
  by_cases h1 : 97 ≤ (c.toNat : Int)
  · by_cases h2 : (c.toNat : Int) ≤ 122
    all_goals
      go_enter Tryz.func98, Tryz.ntmps98
      go_wp2_with fail
      go_ret
      exact ⟨ret_bool (by simp [letB]; omega), rfl⟩
  · go_enter Tryz.func98, Tryz.ntmps98
    go_wp2_with fail
    go_ret
    exact ⟨ret_bool (by simp [letB]; omega), rfl⟩
set_option maxHeartbeats 1000000 in
theorem inName_any (c : UInt8) (w : World) : Calls Tryz.prog 100 #[.int .u8 (c.toNat : Int)] w fun e w' => e = .returned (.bool (inNm c)) ∧ w' = w := by
  have hl := letter_any c
  cases ht : letB c with
  | true =>
    rw [ht] at hl
    go_enter Tryz.func100, Tryz.ntmps100
    go_wp2_with fail
    refine (hl _).mono ?_
    rintro e w1 ⟨rfl, hw⟩
    replace hw := hw.symm
    subst hw
    go_wp2_with fail
    go_ret
    exact ⟨ret_bool (by simp [inNm, ht]), rfl⟩
  | false =>
    rw [ht] at hl
    have HT : Hid (letB c = false) := ht
    clear ht
    by_cases h1 : 48 ≤ (c.toNat : Int)
    · by_cases h2 : (c.toNat : Int) ≤ 57
      · go_enter Tryz.func100, Tryz.ntmps100
        go_wp2_with fail
        refine (hl _).mono ?_
        rintro e w1 ⟨rfl, hw⟩
        replace hw := hw.symm
        subst hw
        go_wp2_with fail
        go_ret
        exact ⟨ret_bool (by simp [inNm, HT.out]; omega), rfl⟩
      · by_cases h3 : (c.toNat : Int) = 95
        · have h3b : ((c.toNat : Int) == 95) = true := by simpa using h3
          have H3 : Hid ((c.toNat : Int) = 95) := h3
          clear h3
          go_enter Tryz.func100, Tryz.ntmps100
          go_wp2_with fail
          refine (hl _).mono ?_
          rintro e w1 ⟨rfl, hw⟩
          replace hw := hw.symm
          subst hw
          go_wp2_with fail
          go_ret
          exact ⟨ret_bool ((inNm_iff c).2 (.inr (.inr H3.out))).symm, rfl⟩
        · have h3b : ((c.toNat : Int) == 95) = false := by simpa using h3
          have H3 : Hid (¬ (c.toNat : Int) = 95) := h3
          clear h3
          go_enter Tryz.func100, Tryz.ntmps100
          go_wp2_with fail
          refine (hl _).mono ?_
          rintro e w1 ⟨rfl, hw⟩
          replace hw := hw.symm
          subst hw
          go_wp2_with fail
          go_ret
          exact ⟨ret_bool (by have := H3.out; rw [Bool.eq_iff_iff, inNm_iff, HT.out]; simp only [Bool.false_eq_true, false_or, decide_eq_true_eq]; omega), rfl⟩
    · by_cases h3 : (c.toNat : Int) = 95
      · omega
      · have h3b : ((c.toNat : Int) == 95) = false := by simpa using h3
        have H3 : Hid _ := h3
        clear h3
        go_enter Tryz.func100, Tryz.ntmps100
        go_wp2_with fail
        refine (hl _).mono ?_
        rintro e w1 ⟨rfl, hw⟩
        replace hw := hw.symm
        subst hw
        go_wp2_with fail
        go_ret
        exact ⟨ret_bool (by have := H3.out; rw [Bool.eq_iff_iff, inNm_iff, HT.out]; simp only [Bool.false_eq_true, false_or, false_iff]; omega), rfl⟩

theorem by_slice {w : World} {b cap : Nat} {l : List UInt8} (h : RowB w b l) (hc : l.length ≤ cap) : SlIs ByE 1 w (.slice (some ⟨b, 0, none⟩) l.length cap) l := by
  refine ⟨_, cap, rfl, hc, fun _ => ⟨b, 0, rfl, h.lt, fun i x hi => ⟨[.int .u8 (x.toNat : Int)], rfl, rfl, fun j u hu => ?_⟩⟩⟩
  cases j with
  | zero =>
    simp at hu
    subst hu
    have := h.cell i (List.getElem?_eq_some_iff.1 hi).1
    rw [List.getD_eq_getElem?_getD, hi] at this
    simpa using this
  | succ j => simp at hu
/-- '[]byte(s)' as a slice that reads as its bytes. -/
theorem bytes_by (s : ByteArray) (w : World) :
    ∃ cap w', (convert 9 108 (.string s)).run Tryz.prog w = .ok (.slice (some ⟨w.heap.size, 0, none⟩) s.size cap) w' ∧ SlIs ByE 1 w' (.slice (some ⟨w.heap.size, 0, none⟩) s.size cap) s.data.toList ∧ Below w.heap.size w w' := by
  obtain ⟨cap, w', h1, h2, h3⟩ := bytes_of s w
  have h4 := run_bytes_of_string (P := Tryz.prog) w _ _ 5 s Tryz.underlying9 Tryz.underlying108 Tryz.underlying5
  rw [h4] at h1
  simp only [Result.ok.injEq, Value.slice.injEq] at h1
  have hc : s.size ≤ cap := by rw [← h1.1.2.2]; exact grownCap_ge w s.size 0 _
  refine ⟨cap, w', ?_, ?_, h3⟩
  · rw [h4, h1.1.2.2, ← h1.2, h1.1.2.2]
  · have := by_slice h2 (cap := cap) (by simpa using hc)
    simpa using this
set_option maxRecDepth 4000 in
set_option maxHeartbeats 1000000 in
theorem name_any (s : ByteArray) (hs : s.size ≤ maxLen) (w : World) : Calls Tryz.prog 56 #[.string s] w fun e w' => e = .returned (.bool (nameB s)) ∧ Below w.heap.size w w' := by
  unfold maxLen at hs
  have hsI : (s.size : Int) ≤ 9223372036854775807 := by omega
  by_cases h1 : (1 : Int) ≤ (s.size : Int)
  · by_cases h2 : (s.size : Int) ≤ 16
    · have hl := letter_any s[0]
      have e0 : s.data.toList.getD 0 0 = s[0] := getD_data s 0 (by omega)
      cases ht : letB s[0] with
      | true =>
        rw [ht] at hl
        obtain ⟨cap, w', hcv, hS, hb⟩ := bytes_by s w
        have hall := allB_any hS (by simp; omega) 100 #[] inNm (enters_of Tryz.func100 (by kernel_rfl) rfl) (fun W x _ _ => (inName_any x W).mono fun e w' ⟨h1, h2⟩ => ⟨h1, h2 ▸ Below.refl _ _⟩)
        have hn : nameB s = s.data.toList.all inNm := by rw [name_eq (by omega) (by omega), e0, ht, Bool.true_and]
        rw [hn]
        generalize s.data.toList.all inNm = t at *
        have HB : Hid (Below w.heap.size w w') := hb
        clear hS ht e0 hn hb
        go_enter Tryz.func56, Tryz.ntmps56
        go_wp2_with fail
        refine (hl _).mono ?_
        rintro e w1 ⟨rfl, hw⟩
        replace hw := hw.symm
        subst hw
        go_wp2_with fail
        refine hall.mono ?_
        rintro e w2 ⟨rfl, hb2⟩
        go_wp2_with fail
        go_ret
        exact ⟨rfl, HB.out.trans (hb2.mono HB.out.size)⟩
      | false =>
        rw [ht] at hl
        have hn : nameB s = false := by rw [name_eq (by omega) (by omega), e0, ht, Bool.false_and]
        rw [hn]
        clear ht e0 hn
        go_enter Tryz.func56, Tryz.ntmps56
        go_wp2_with fail
        refine (hl _).mono ?_
        rintro e w1 ⟨rfl, hw⟩
        replace hw := hw.symm
        subst hw
        go_wp2_with fail
        go_ret
        exact ⟨rfl, Below.refl _ _⟩
    · have hn : nameB s = false := name_long (by omega)
      rw [hn]
      clear hn
      go_enter Tryz.func56, Tryz.ntmps56
      go_wp2_with fail
      go_ret
      exact ⟨rfl, Below.refl _ _⟩
  · have hn : nameB s = false := name_short (by omega)
    rw [hn]
    clear hn
    go_enter Tryz.func56, Tryz.ntmps56
    go_wp2_with fail
    go_ret
    exact ⟨rfl, Below.refl _ _⟩

set_option maxRecDepth 4000 in
set_option maxHeartbeats 4000000 in
theorem refName_any (s : ByteArray) (hs : s.size ≤ maxLen) (w : World) : Calls Tryz.prog 66 #[.string s] w fun e w' => e = .returned (.bool (nameB s)) ∧ w' = w := by
  unfold maxLen at hs
  have hsI : (s.size : Int) ≤ 9223372036854775807 := by omega
  by_cases h1 : (s.size : Int) < 1
  · have hn : nameB s = false := name_short (by omega)
    rw [hn]
    clear hn
    go_enter Tryz.func66, Tryz.ntmps66
    go_wp2_with fail
    go_ret
    exact ⟨rfl, rfl⟩
  · by_cases h2 : 16 < (s.size : Int)
    · have hn : nameB s = false := name_long (by omega)
      rw [hn]
      clear hn
      go_enter Tryz.func66, Tryz.ntmps66
      go_wp2_with fail
      go_ret
      exact ⟨rfl, rfl⟩
    · go_enter Tryz.func66, Tryz.ntmps66
      go_wp2_with fail
      go_loopg [3] s.size (fun gg s3 wx => ∃ k : Nat, k + gg = s.size ∧ s3 = .int .i64 k ∧ Hid (nmTo s k) ∧ wx = w)
      case atStart => exact ⟨0, by omega, rfl, nm_zero s, rfl⟩
      case round =>
        obtain ⟨k, hkg, rfl, HN, rfl⟩ := hrel
        by_cases hk : k < s.size
        · have hkI : (k : Int) < (s.size : Int) := by omega
          have hr2 : IntKind.i64.wrap ((k : Int) + 1) = (k : Int) + 1 := by rw [IntKind.wrap_i64]; omega
          have hx : s.data.toList[k]? = some s[k] := by rw [Array.getElem?_toList]; exact Array.getElem?_eq_getElem hk
          obtain ⟨c, hc⟩ : ∃ c : UInt8, c = s[k] := ⟨_, rfl⟩
          have HC : Hid (s.data.toList[k]? = some c ∧ 1 ≤ s.size ∧ s.size ≤ 16) := ⟨by rw [hc]; exact hx, by omega, by omega⟩
          clear hx
          by_cases a1 : 97 ≤ (s[k].toNat : Int)
          · by_cases a2 : (s[k].toNat : Int) ≤ 122
            · go_wp2_with fail
              go_roundg (s.size - (k + 1))
              case measure => clear hr2; omega
              case rel =>
                have hlet : letB c = true := by rw [letB_iff, hc]; exact ⟨a1, a2⟩
                exact ⟨k + 1, by clear hr2; omega, by go_num, nm_next HN.out HC.out.1 (let_in hlet) (fun _ => hlet), rfl⟩
            · have hlet : letB c = false := by rw [Bool.eq_false_iff]; intro h; rw [letB_iff, hc] at h; exact a2 h.2
              have HL : Hid (letB c = false) := hlet
              clear hlet
              by_cases k0 : k = 0
              · subst k0
                have k0b : (((0 : Nat) : Int) == 0) = true := rfl
                go_wp2_with fail
                go_ret
                exact ⟨ret_bool (nm_bad HC.out.1 (.inr ⟨rfl, HL.out⟩)).symm, rfl⟩
              · have k0b : ((k : Int) == 0) = false := by simpa using k0
                have k1 : 0 < (k : Int) := by omega
                have go_on : Hid (inNm c = true → nmTo s (k + 1)) := fun h => nm_next HN.out HC.out.1 h (fun h0 => absurd h0 k0)
                have bad : Hid (inNm c = false → nameB s = false) := fun h => nm_bad HC.out.1 (.inl h)
                have ci : Hid (inNm c = true ↔ (48 ≤ (s[k].toNat : Int) ∧ (s[k].toNat : Int) ≤ 57) ∨ (s[k].toNat : Int) = 95) := by
                  have := inNm_iff c
                  rw [HL.out, hc] at this
                  unfold Hid
                  rw [hc, this]
                  simp only [Bool.false_eq_true, false_or]
                by_cases a3 : (s[k].toNat : Int) = 95
                · have a3b : ((s[k].toNat : Int) != 95) = false := by simpa using a3
                  have A3 : Hid ((s[k].toNat : Int) = 95) := a3
                  clear a3
                  go_wp2_with fail
                  go_roundg (s.size - (k + 1))
                  case measure => clear hr2; omega
                  case rel => exact ⟨k + 1, by clear hr2; omega, by go_num, go_on.out (ci.out.2 (.inr A3.out)), rfl⟩
                · have a3b : ((s[k].toNat : Int) != 95) = true := by simpa using a3
                  have A3 : Hid (¬ (s[k].toNat : Int) = 95) := a3
                  clear a3
                  by_cases a4 : (s[k].toNat : Int) < 48
                  · go_wp2_with fail
                    go_ret
                    exact ⟨ret_bool (bad.out (by rw [Bool.eq_false_iff]; intro h; have := ci.out.1 h; have := A3.out; omega)).symm, rfl⟩
                  · by_cases a5 : 57 < (s[k].toNat : Int)
                    · go_wp2_with fail
                      go_ret
                      exact ⟨ret_bool (bad.out (by rw [Bool.eq_false_iff]; intro h; have := ci.out.1 h; have := A3.out; omega)).symm, rfl⟩
                    · go_wp2_with fail
                      go_roundg (s.size - (k + 1))
                      case measure => clear hr2; omega
                      case rel => exact ⟨k + 1, by clear hr2; omega, by go_num, go_on.out (ci.out.2 (.inl (by omega))), rfl⟩
          · have hlet : letB c = false := by rw [Bool.eq_false_iff]; intro h; rw [letB_iff, hc] at h; exact a1 h.1
            have HL : Hid (letB c = false) := hlet
            clear hlet
            by_cases k0 : k = 0
            · subst k0
              have k0b : (((0 : Nat) : Int) == 0) = true := rfl
              go_wp2_with fail
              go_ret
              exact ⟨ret_bool (nm_bad HC.out.1 (.inr ⟨rfl, HL.out⟩)).symm, rfl⟩
            · have k0b : ((k : Int) == 0) = false := by simpa using k0
              have k1 : 0 < (k : Int) := by omega
              have go_on : Hid (inNm c = true → nmTo s (k + 1)) := fun h => nm_next HN.out HC.out.1 h (fun h0 => absurd h0 k0)
              have bad : Hid (inNm c = false → nameB s = false) := fun h => nm_bad HC.out.1 (.inl h)
              have ci : Hid (inNm c = true ↔ (48 ≤ (s[k].toNat : Int) ∧ (s[k].toNat : Int) ≤ 57) ∨ (s[k].toNat : Int) = 95) := by
                have := inNm_iff c
                rw [HL.out, hc] at this
                unfold Hid
                rw [hc, this]
                simp only [Bool.false_eq_true, false_or]
              by_cases a3 : (s[k].toNat : Int) = 95
              · have a3b : ((s[k].toNat : Int) != 95) = false := by simpa using a3
                have A3 : Hid ((s[k].toNat : Int) = 95) := a3
                clear a3
                go_wp2_with fail
                go_roundg (s.size - (k + 1))
                case measure => clear hr2; omega
                case rel => exact ⟨k + 1, by clear hr2; omega, by go_num, go_on.out (ci.out.2 (.inr A3.out)), rfl⟩
              · have a3b : ((s[k].toNat : Int) != 95) = true := by simpa using a3
                have A3 : Hid (¬ (s[k].toNat : Int) = 95) := a3
                clear a3
                by_cases a4 : (s[k].toNat : Int) < 48
                · go_wp2_with fail
                  go_ret
                  exact ⟨ret_bool (bad.out (by rw [Bool.eq_false_iff]; intro h; have := ci.out.1 h; have := A3.out; omega)).symm, rfl⟩
                · by_cases a5 : 57 < (s[k].toNat : Int)
                  · go_wp2_with fail
                    go_ret
                    exact ⟨ret_bool (bad.out (by rw [Bool.eq_false_iff]; intro h; have := ci.out.1 h; have := A3.out; omega)).symm, rfl⟩
                  · go_wp2_with fail
                    go_roundg (s.size - (k + 1))
                    case measure => clear hr2; omega
                    case rel => exact ⟨k + 1, by clear hr2; omega, by go_num, go_on.out (ci.out.2 (.inl (by omega))), rfl⟩
        · have hkI : ¬ (k : Int) < (s.size : Int) := by omega
          obtain rfl : k = s.size := by omega
          go_wp2_with fail
          go_ret
          exact ⟨ret_bool (nm_end HN.out (by omega) (by omega)).symm, rfl⟩
end Go.Proofs.YtdjobjbkpagnaaaGreat
/-
  The contracts of slices.IndexFunc and ContainsFunc over a slice of ints, of schema's allHold (and hasTwice) of them, with whatever function is given.
-/
namespace Go.Proofs.YtdjobjbkpagnaaaGreat
open Go.RowKit Go.Shelf

/-- A function value that tells p of each of l. -/
def FnI (g : Nat) (caps : Array Value) (w : World) (l : List (BitVec 64)) (p : (BitVec 64) → Bool) : Prop :=
  ∀ (W : World) (x : (BitVec 64)), Below w.heap.size w W → x ∈ l → Calls Tryz.prog g (#[.int .i64 x.toInt] ++ caps) W fun e w' => e = .returned (.bool (p x)) ∧ Below W.heap.size W w'
theorem at1I {w : World} {a : Option Addr} {n cap : Nat} {l : List (BitVec 64)} (h : SlIs IntE 1 w (.slice a n cap) l) {k : Nat} (hk : k < n) : ∃ (x : (BitVec 64)) (b off : Nat), l[k]? = some x ∧ a = some ⟨b, off, none⟩ ∧ w.cell? ⟨b, off + k, none⟩ = some (.int .i64 x.toInt) := by
  obtain ⟨x, cs, b, off, h1, h2, _, h3, h4, h5⟩ := h.at hk
  have e : cs = [.int .i64 x.toInt] := h4
  subst e
  have := h5 0 _ rfl
  rw [Nat.mul_one] at this
  exact ⟨x, b, off, h1, h2, this⟩
set_option maxRecDepth 4000 in
set_option maxHeartbeats 4000000 in
theorem idxI_any {w : World} {v : Value} {l : List (BitVec 64)} (h : SlIs IntE 1 w v l) (hl : l.length ≤ 1000000) (g : Nat) (caps : Array Value) (p : (BitVec 64) → Bool) (eg : ∀ args w, (callFunc g args).run Tryz.prog w = .ok (.enter g args) w) (hf : FnI g caps w l p) :
    Calls Tryz.prog 159 #[v, .func (.func g) #[] caps] w fun e w' => e = .returned (.int .i64 (idxI p l)) ∧ Below w.heap.size w w' := by
  obtain ⟨a, n, cap, rfl, hn, hcap⟩ := h.slice
  have hn1 : (n : Int) ≤ 1000000 := by omega
  have HH : Hid (SlIs IntE 1 w (.slice a n cap) l ∧ l.length = n ∧ FnI g caps w l p) := ⟨h, hn, hf⟩
  clear h hl hn hf
  go_enter Tryz.func159, Tryz.ntmps159
  go_wp2_with fail
  go_loopg [8] n (fun gg s8 wx => ∃ k : Nat, k + gg = n ∧ s8 = .int .i64 k ∧ Hid ((l.take k).any p = false) ∧ Hid (Below w.heap.size w wx))
  case atStart => exact ⟨0, by omega, rfl, by unfold Hid; rw [List.take_zero]; rfl, Below.refl _ _⟩
  case round =>
    obtain ⟨k, hkg, rfl, HN, HB⟩ := hrel
    by_cases hk : k < n
    · have hkI : (k : Int) < (n : Int) := by omega
      obtain ⟨x, b, off, hs, rfl, c0⟩ := at1I (HH.out.1.over stays_int HB.out) hk
      have hr2 : IntKind.i64.wrap ((k : Int) + 1) = (k : Int) + 1 := by rw [IntKind.wrap_i64]; omega
      have hcall := HH.out.2.2 wr x HB.out (List.mem_of_getElem? hs)
      have HS : Hid (l[k]? = some x ∧ (l.take (k + 1)).any p = ((l.take k).any p || p x)) := ⟨hs, any_take_succ hs⟩
      obtain ⟨t, ht⟩ : ∃ t, t = p x := ⟨_, rfl⟩
      rw [← ht] at hcall HS
      have HT : Hid (t = p x) := ht
      clear hs ht
      go_wp2_with fail
      refine hcall.mono ?_
      rintro e w1 ⟨rfl, hb1⟩
      have HB1 : Hid (Below w.heap.size w w1) := HB.out.trans (hb1.mono HB.out.size)
      clear hb1 hcall c0
      cases t with
      | true =>
        go_wp2_with fail
        go_ret
        exact ⟨ret_int (idx_hit HN.out HS.out.1 HT.out.symm).symm, HB1.out⟩
      | false =>
        go_wp2_with fail
        go_roundg (n - (k + 1))
        case measure => clear hr2; omega
        case rel => exact ⟨k + 1, by clear hr2; omega, by go_num, by unfold Hid; rw [HS.out.2, HN.out]; rfl, HB1⟩
    · have hkI : ¬ (k : Int) < (n : Int) := by omega
      obtain rfl : k = n := by omega
      go_wp2_with fail
      go_ret
      exact ⟨ret_int (by have := HN.out; rw [List.take_of_length_le (by rw [HH.out.2.1]; exact Nat.le_refl _)] at this; rw [idx_none this]), HB.out⟩
set_option maxHeartbeats 1000000 in
theorem hasI_any {w : World} {v : Value} {l : List (BitVec 64)} (h : SlIs IntE 1 w v l) (hl : l.length ≤ 1000000) (g : Nat) (caps : Array Value) (p : (BitVec 64) → Bool) (eg : ∀ args w, (callFunc g args).run Tryz.prog w = .ok (.enter g args) w) (hf : FnI g caps w l p) :
    Calls Tryz.prog 138 #[v, .func (.func g) #[] caps] w fun e w' => e = .returned (.bool (l.any p)) ∧ Below w.heap.size w w' := by
  have hc := idxI_any h hl g caps p eg hf
  have hz := idx_any p l
  obtain ⟨a, n, cap, rfl, hn, hcap⟩ := h.slice
  generalize idxI p l = z at *
  generalize l.any p = t at *
  have HZ : Hid (decide (0 ≤ z) = t) := hz
  clear h hl hn hf hz
  go_enter Tryz.func138, Tryz.ntmps138
  go_wp2_with fail
  refine hc.mono ?_
  rintro e w1 ⟨rfl, hb1⟩
  go_wp2_with fail
  go_ret
  exact ⟨ret_bool HZ.out, hb1⟩
set_option maxHeartbeats 1000000 in
theorem all1I_any {w : World} {l : List (BitVec 64)} {p : (BitVec 64) → Bool} (g : Nat) (caps : Array Value) (eg : ∀ args w, (callFunc g args).run Tryz.prog w = .ok (.enter g args) w) (hf : FnI g caps w l p) (B : Nat) (hB : w.cell? ⟨B, 0, none⟩ = some (.func (.func g) #[] caps)) :
    FnI 139 #[.pointer (some ⟨B, 0, none⟩)] w l (fun x => !p x) := by
  intro W x hW hx
  have hB2 := (hW.cell (p := ⟨B, 0, none⟩) (World.block_lt_of_cell? w _ hB)).trans hB
  have hc := hf _ x hW hx
  show Calls _ _ _ _ fun e w' => e = .returned (.bool (!p x)) ∧ Below W.heap.size W w'
  generalize p x = t at *
  clear hB hf
  go_enter Tryz.func139, Tryz.ntmps139
  go_wp2_with fail
  refine hc.mono ?_
  rintro e w1 ⟨rfl, hb1⟩
  go_wp2_with fail
  go_ret
  exact ⟨rfl, hb1⟩
set_option maxHeartbeats 1000000 in
theorem allI_any {w : World} {v : Value} {l : List (BitVec 64)} (h : SlIs IntE 1 w v l) (hl : l.length ≤ 1000000) (g : Nat) (caps : Array Value) (p : (BitVec 64) → Bool) (eg : ∀ args w, (callFunc g args).run Tryz.prog w = .ok (.enter g args) w) (hf : FnI g caps w l p) :
    Calls Tryz.prog 109 #[v, .func (.func g) #[] caps] w fun e w' => e = .returned (.bool (l.all p)) ∧ Below w.heap.size w w' := by
  have hb0 := below1 w (.cells #[.func (.func g) #[] caps] 103)
  have bx := box_new w #[.func (.func g) #[] caps] 103
  have hc := hasI_any (h.over stays_int hb0) hl 139 #[.pointer (some ⟨w.heap.size, 0, none⟩)] (fun x => !p x) (enters_of Tryz.func139 (by kernel_rfl) rfl) (all1I_any g caps eg (fun W x hW hx => hf W x (hb0.trans (hW.mono hb0.size)) hx) w.heap.size (bx.cell 0 _ rfl))
  have hz := not_any_not p l
  obtain ⟨a, n, cap, rfl, hn, hcap⟩ := h.slice
  generalize l.all p = s at *
  generalize (l.any fun x => !p x) = t at *
  have HZ : Hid ((!t) = s) := hz
  have HB : Hid (Below w.heap.size w (w.alloc (.cells #[.func (.func g) #[] caps] 103))) := hb0
  clear h hl hn hf hz hb0 bx
  go_enter Tryz.func109, Tryz.ntmps109
  go_wp2_with fail
  refine hc.mono ?_
  rintro e w1 ⟨rfl, hb1⟩
  go_wp2_with fail
  go_ret
  exact ⟨ret_bool HZ.out, HB.out.trans (hb1.mono HB.out.size)⟩

/-- A function value that tells of each two of l. -/
def FsI (g : Nat) (caps : Array Value) (w : World) (l : List (BitVec 64)) (q : (BitVec 64) → (BitVec 64) → Bool) : Prop :=
  ∀ (W : World) (x y : (BitVec 64)), Below w.heap.size w W → x ∈ l → y ∈ l → Calls Tryz.prog g (#[.int .i64 x.toInt, .int .i64 y.toInt] ++ caps) W fun e w' => e = .returned (.bool (q x y)) ∧ Below W.heap.size W w'
set_option maxHeartbeats 1000000 in
theorem tw1I_any {w : World} {l : List (BitVec 64)} {q : (BitVec 64) → (BitVec 64) → Bool} (g : Nat) (caps : Array Value) (eg : ∀ args w, (callFunc g args).run Tryz.prog w = .ok (.enter g args) w) (hf : FsI g caps w l q) (B1 B2 : Nat) (hB1 : w.cell? ⟨B1, 0, none⟩ = some (.func (.func g) #[] caps))
    {y : (BitVec 64)} (hy : y ∈ l) (e0 : w.cell? ⟨B2, 0, none⟩ = some (.int .i64 y.toInt)) :
    FnI 140 #[.pointer (some ⟨B1, 0, none⟩), .pointer (some ⟨B2, 0, none⟩)] w l (fun x => q x y) := by
  intro W x hW hx
  have hB3 := (hW.cell (p := ⟨B1, 0, none⟩) (World.block_lt_of_cell? w _ hB1)).trans hB1
  have f0 := (hW.cell (p := ⟨B2, 0, none⟩) (World.block_lt_of_cell? w _ e0)).trans e0
  have hc := hf _ x y hW hx hy
  show Calls _ _ _ _ fun e w' => e = .returned (.bool (q x y)) ∧ Below W.heap.size W w'
  generalize q x y = t at *
  clear hB1 e0 hf
  go_enter Tryz.func140, Tryz.ntmps140
  go_wp2_with fail
  refine hc.mono ?_
  rintro e w1 ⟨rfl, hb1⟩
  go_wp2_with fail
  go_ret
  exact ⟨rfl, hb1⟩
set_option maxRecDepth 4000 in
set_option maxHeartbeats 4000000 in
theorem twI_any {w : World} {v : Value} {l : List (BitVec 64)} (h : SlIs IntE 1 w v l) (hl : l.length ≤ 1000000) (g : Nat) (caps : Array Value) (q : (BitVec 64) → (BitVec 64) → Bool) (eg : ∀ args w, (callFunc g args).run Tryz.prog w = .ok (.enter g args) w) (hf : FsI g caps w l q) :
    Calls Tryz.prog 111 #[v, .func (.func g) #[] caps] w fun e w' => e = .returned (.bool (tw q l)) ∧ Below w.heap.size w w' := by
  have hb0 := below1 w (.cells #[.func (.func g) #[] caps] 127)
  have bx := box_new w #[.func (.func g) #[] caps] 127
  obtain ⟨a, n, cap, rfl, hn, hcap⟩ := h.slice
  have hn1 : (n : Int) ≤ 1000000 := by omega
  have HH : Hid (SlIs IntE 1 w (.slice a n cap) l ∧ l.length = n ∧ n ≤ cap ∧ FsI g caps w l q) := ⟨h, hn, hcap, hf⟩
  have H0 : Hid (Unit → Below w.heap.size w _ ∧ Box _ w.heap.size 127 #[.func (.func g) #[] caps]) := fun _ => ⟨hb0, bx⟩
  have hcapI : (n : Int) ≤ (cap : Int) := by omega
  clear h hl hn hf hb0 bx
  go_enter Tryz.func111, Tryz.ntmps111
  go_wp2_with fail
  go_loopg [9] n (fun gg s9 wx => ∃ k : Nat, k + gg = n ∧ s9 = .int .i64 k ∧ Hid (tw q (l.take k) = false) ∧ Hid (Below w.heap.size w wx ∧ Box wx w.heap.size 127 #[.func (.func g) #[] caps]))
  case atStart => exact ⟨0, by omega, rfl, by unfold Hid; rw [List.take_zero]; rfl, H0.out ()⟩
  case round =>
    obtain ⟨k, hkg, rfl, HN, HB⟩ := hrel
    by_cases hk : k < n
    · have hkI : (k : Int) < (n : Int) := by omega
      have hkC : (k : Int) ≤ (cap : Int) := by omega
      have hS := HH.out.1.over stays_int HB.out.1
      obtain ⟨x, b, off, hs, rfl, c0⟩ := at1I hS hk
      have hr2 : IntKind.i64.wrap ((k : Int) + 1) = (k : Int) + 1 := by rw [IntKind.wrap_i64]; omega
      have HS : Hid (tw q (l.take (k + 1)) = (tw q (l.take k) || (l.take k).any fun y => q y x)) := tw_take hs
      obtain ⟨t, ht⟩ : ∃ t, t = (l.take k).any fun y => q y x := ⟨_, rfl⟩
      rw [← ht] at HS
      have HB2 : Hid (Unit → Below w.heap.size w (wr.alloc (.cells #[.int .i64 x.toInt] 3)) ∧ Box (wr.alloc (.cells #[.int .i64 x.toInt] 3)) w.heap.size 127 #[.func (.func g) #[] caps] ∧
          Calls Tryz.prog 138 #[.slice (some ⟨b, off, none⟩) k cap, .func (.func 140) #[] #[.pointer (some ⟨w.heap.size, 0, none⟩), .pointer (some ⟨wr.heap.size, 0, none⟩)]] (wr.alloc (.cells #[.int .i64 x.toInt] 3)) fun e w' => e = .returned (.bool t) ∧ Below (wr.alloc (.cells #[.int .i64 x.toInt] 3)).heap.size (wr.alloc (.cells #[.int .i64 x.toInt] 3)) w') := by
        intro _
        have b1 : Below wr.heap.size wr (wr.alloc (.cells #[.int .i64 x.toInt] 3)) := below1 wr _
        have B1 : Box (wr.alloc (.cells #[.int .i64 x.toInt] 3)) wr.heap.size 3 #[.int .i64 x.toInt] := box_new wr _ _
        have hwb := HB.out.1.trans (b1.mono HB.out.1.size)
        have hcl := tw1I_any (w := wr.alloc (.cells #[.int .i64 x.toInt] 3)) (l := l) (q := q) g caps eg (fun W x y hW hx hy => HH.out.2.2.2 W x y (hwb.trans (hW.mono hwb.size)) hx hy) w.heap.size wr.heap.size ((HB.out.2.over b1).cell 0 _ rfl) (List.mem_of_getElem? hs) (B1.cell 0 _ rfl)
        have hcall := hasI_any ((hS.over stays_int b1).take (Nat.le_of_lt hk)) (by have := HH.out.2.1; rw [List.length_take]; omega) _ _ (fun y => q y x) (enters_of Tryz.func140 (by kernel_rfl) rfl) (fun W y hW hy => hcl W y hW (List.mem_of_mem_take hy))
        rw [← ht] at hcall
        exact ⟨hwb, HB.out.2.over b1, hcall⟩
      clear hs ht hS
      go_wp2_with fail
      refine (HB2.out ()).2.2.mono ?_
      rintro e w1 ⟨rfl, hb1⟩
      have HB1 : Hid (Below w.heap.size w w1 ∧ Box w1 w.heap.size 127 #[.func (.func g) #[] caps]) := ⟨(HB2.out ()).1.trans (hb1.mono (HB2.out ()).1.size), (HB2.out ()).2.1.over hb1⟩
      clear hb1 c0 HB2
      cases t with
      | true =>
        go_wp2_with fail
        go_ret
        exact ⟨ret_bool (tw_take_true (k := k + 1) (by rw [HS.out]; simp)).symm, HB1.out.1⟩
      | false =>
        go_wp2_with fail
        go_roundg (n - (k + 1))
        case measure => clear hr2; omega
        case rel => exact ⟨k + 1, by clear hr2; omega, by go_num, by unfold Hid; rw [HS.out, HN.out]; rfl, HB1⟩
    · have hkI : ¬ (k : Int) < (n : Int) := by omega
      obtain rfl : k = n := by omega
      go_wp2_with fail
      go_ret
      exact ⟨ret_bool (by have := HN.out; rw [List.take_of_length_le (by rw [HH.out.2.1]; exact Nat.le_refl _)] at this; exact this.symm), HB.out.1⟩
end Go.Proofs.YtdjobjbkpagnaaaGreat
/-
  The contracts of slices.Values of ints, of AppendSeq, Collect and Sorted over what it made.
-/
namespace Go.Proofs.YtdjobjbkpagnaaaGreat
open Go.RowKit Go.Shelf Go.Sort
attribute [local go_sem] Oper.semAt_some

abbrev encN (x : BitVec 64) : Array Value := #[.int .i64 x.toInt]
theorem kept_cell {F : Nat → Prop} {w w' : World} {a : Addr} {v : Value} (k : Kept F w w') (h : w.cell? a = some v) (hF : ¬ F a.block) : w'.cell? a = some v := by
  rw [World.cell?_of_block (k.block a.block (World.block_lt_of_cell? w a h) hF)]; exact h
set_option maxRecDepth 100000 in
set_option maxHeartbeats 4000000 in
theorem vals1_in (n : Nat) (hn : 1 ≤ n) (l Bv : Nat) (Fk : Nat → Prop) (we : World) {v : Value} {xs : List (BitVec 64)} (hs : IntsIs we v xs) (hl : xs.length ≤ 1000000)
    (hF : ∀ k, Fk k → we.heap.size ≤ k) (hFv : ¬ Fk Bv) (J Jx : List (BitVec 64) → World → Prop)
    (hY : ∀ pre x W, J pre W → pre.length < 1000000 → YieldAt Fence.wide (n - 1) Tryz.prog l (encN x) W fun e W' =>
      (e = .returned (.bool true) ∧ J (pre ++ [x]) W' ∧ Kept Fk W W') ∨ (e = .returned (.bool false) ∧ Jx (pre ++ [x]) W'))
    (W : World) (hW : Below we.heap.size we W) (hBv : W.cell? ⟨Bv, 0, none⟩ = some v) (h0 : J [] W) :
    CallsIn Fence.wide n Tryz.prog 81 #[.func (.yield l) #[] #[], .pointer (some ⟨Bv, 0, none⟩)] W fun e W' => (∃ v, e = .returned v) ∧
      ((∃ ys, ys = xs ∧ J ys W') ∨ (∃ pre, Jx pre W')) := by
  obtain ⟨a, m, cap, rfl, hm, hcap⟩ := hs.slice
  have hm1 : (m : Int) ≤ 1000000 := by omega
  have HS : Hid (IntsIs we (.slice a m cap) xs ∧ xs.length = m) := ⟨hs, hm⟩
  have HF : Hid ((∀ k, Fk k → we.heap.size ≤ k) ∧ ¬ Fk Bv) := ⟨hF, hFv⟩
  have HY : Hid (∀ pre x W, J pre W → pre.length < 1000000 → YieldAt Fence.wide (n - 1) Tryz.prog l (encN x) W fun e W' =>
      (e = .returned (.bool true) ∧ J (pre ++ [x]) W' ∧ Kept Fk W W') ∨ (e = .returned (.bool false) ∧ Jx (pre ++ [x]) W')) := hY
  clear hs hl hm hF hFv hY
  refine callsIn_of_wp Tryz.func81 rfl trivial ?_ rfl
  simp only [Tryz.ntmps81, List.size_toArray, List.length_cons, List.length_nil, Nat.reduceAdd, Nat.reduceSub, Array.replicate_succ, Array.replicate_zero, List.push_toArray, List.append_toArray, List.nil_append, List.cons_append]
  gi_wp2
  gi_loopw [7] (fun i wr => ∃ k : Nat, k ≤ m ∧ i = .int .i64 (k : Int) ∧ Hid (J (xs.take k) wr ∧ Below we.heap.size we wr))
    (fun i _ => m - (intOf i).toNat)
  case atStart => exact ⟨0, by omega, rfl, ⟨by rw [List.take_zero]; exact h0, hW⟩⟩
  case round =>
    obtain ⟨k, hkm, rfl, HJ⟩ := hrel
    clear h0 hW hBv
    by_cases hk : k < m
    · have hkI : (k : Int) < (m : Int) := by omega
      have hr2 : IntKind.i64.wrap ((k : Int) + 1) = (k : Int) + 1 := by rw [IntKind.wrap_i64]; omega
      obtain ⟨x, b, off, hx, rfl, c0⟩ := at1I (HS.out.1.over stays_int HJ.out.2) hk
      have HX : Hid (xs[k]? = some x) := hx
      clear hx
      obtain ⟨fn, tmps, assign, body, hy, hR⟩ := HY.out _ x wr HJ.out.1 (by rw [List.length_take]; omega)
      dsimp only [encN] at hy
      gi_wp2
      refine hR.mono ?_
      rintro e W3 (⟨rfl, hJ3, hk3⟩ | ⟨rfl, hJx3⟩)
      · gi_wp2
        go_roundw
        case rel => exact ⟨k + 1, by clear hr2; omega, by go_num, ⟨by rw [take_succ_of HX.out]; exact hJ3, HJ.out.2.trans (hk3.below HF.out.1 HJ.out.2.size)⟩⟩
        case measure =>
          clear hr2
          simp [intOf]
          omega
      · gi_wp2
        refine bodyPost_ret (results_none rfl _ _ _) rfl ?_
        exact ⟨⟨_, rfl⟩, .inr ⟨_, hJx3⟩⟩
    · have hkI : ¬ (k : Int) < (m : Int) := by omega
      gi_wp2
      go_end0
      exact ⟨⟨_, rfl⟩, .inl (by have := HJ.out.1; rwa [List.take_of_length_le (by rw [HS.out.2]; omega)] at this)⟩
theorem vals_stops (n : Nat) (hn : 1 ≤ n) (Bv : Nat) (Fk : Nat → Prop) (we : World) {v : Value} {xs : List (BitVec 64)} (hs : IntsIs we v xs) (hl : xs.length ≤ 1000000)
    (hF : ∀ k, Fk k → we.heap.size ≤ k) (hFv : ¬ Fk Bv) (w : World) (hW : Below we.heap.size we w) (hBv : w.cell? ⟨Bv, 0, none⟩ = some v) :
    SeqStopsK Fence.wide n Tryz.prog 81 #[.pointer (some ⟨Bv, 0, none⟩)] encN (Kept Fk) (fun ys => ys = xs) (fun _ => True) 1000000 w := fun l J Jx W hb _ _ hY h0 => by
  refine (vals1_in n hn l Bv Fk we hs hl hF hFv J Jx hY W (hW.trans (hb.mono hW.size)) ((hb.cell (p := ⟨Bv, 0, none⟩) (World.block_lt_of_cell? w _ hBv)).trans hBv) h0).mono ?_
  rintro e W' ⟨he, ⟨ys, hy, hj⟩ | ⟨pre, hj⟩⟩
  · exact ⟨he, .inl ⟨ys, hy, hj⟩⟩
  · exact ⟨he, .inr ⟨pre, trivial, hj⟩⟩

/-- The box behind an append to the row that it holds. -/
theorem app_box {W w1 : World} {tmp : Obj} {s N : Nat} {t1 : TypeId} {v : Value} (hg : (W.alloc tmp).grownBy w1 v.ownBlock) (h1 : Boxed W s t1 v) (hv : ∀ k, v.ownBlock = some k → N ≤ k) (hN : s < N) : Boxed w1 s t1 v :=
  (h1.alloc tmp).kept hg (fun e => by have := hv s e.symm; omega)
theorem row_other {W : World} {N n : Nat} {t : TypeId} {size : Nat} {v u : Value} {xs : List Value} {b : Nat} (h : W.ownsRow N t size v n xs) (hb : b < N) : (W.setCell ⟨b, 0, none⟩ u).ownsRow N t size v n xs :=
  h.kept (grownBy_setCell' W b u) (by
    cases e : v.ownBlock with
    | none => left; rfl
    | some k => right; intro e2; cases e2; have := (h.lt b e).1; omega)
theorem app_keeps {W w1 : World} {tmp : Obj} {N n : Nat} {t : TypeId} {size : Nat} {v : Value} {xs : List Value} (hrow : W.ownsRow N t size v n xs) (hgrow : (W.alloc tmp).grownBy w1 v.ownBlock) : KeepsOthers W w1 := by
  refine (KeepsOthers.alloc W tmp).trans (KeepsOthers.of_grownBy hgrow fun j o ej hj => ?_)
  rcases (hrow.alloc tmp).2 with ⟨rfl, _⟩ | ⟨g, cap, cur, rfl, _, hgb, _⟩
  · simp [Value.ownBlock] at ej
  · obtain rfl : g = j := by simpa [Value.ownBlock] using ej
    rw [hgb] at hj; cases hj; rfl
theorem ownsRow_succ {W : World} {B : Nat} {e : TypeId} {size : Nat} {v : Value} {n : Nat} {xs : List Value} (h : W.ownsRow B e size v (n + 1) xs) : ∃ g cap, v = .slice (some ⟨g, 0, none⟩) (n + 1) cap := by
  rcases h.2 with ⟨_, h0⟩ | ⟨g, cap, cur, rfl, _⟩
  · omega
  · exact ⟨g, cap, rfl⟩
theorem iv_snoc (l : List (BitVec 64)) (x : BitVec 64) : iv (l ++ [x]) = iv l ++ [.int .i64 x.toInt] := by simp [iv]

set_option maxRecDepth 100000 in
set_option maxHeartbeats 4000000 in
theorem appendSeq_any {w : World} {v : Value} {xs : List (BitVec 64)} (hs : IntsIs w v xs) (hl : xs.length ≤ 1000000) (Bv : Nat) (hBv : w.cell? ⟨Bv, 0, none⟩ = some v) :
    Calls Tryz.prog 121 #[.slice none 0 0, .func (.func 81) #[] #[.pointer (some ⟨Bv, 0, none⟩)]] w fun e w' => (∃ v', e = .returned v' ∧ OwnsI w' w.heap.size v' xs) ∧ Below w.heap.size w w' := by
  obtain ⟨i0, hi0, hz0, hz1, hz2⟩ := info_parts info_i64
  have HI : Hid (Tryz.prog.info? 3 = some i0 ∧ i0.zero = some (.int .i64 0) ∧ i0.size = 1 ∧ i0.bytes = 8) := ⟨hi0, hz0, hz1, hz2⟩
  have hlt := World.block_lt_of_cell? w _ hBv
  have HS : Hid (IntsIs w v xs ∧ xs.length ≤ 1000000 ∧ w.cell? ⟨Bv, 0, none⟩ = some v ∧ Bv < w.heap.size) := ⟨hs, hl, hBv, hlt⟩
  clear hs hl hBv hlt hi0 hz0 hz1 hz2
  refine (callsIn_wide (n := 6)).1 ?_
  refine callsIn_of_wp_marks Tryz.func121 rfl trivial ?_ rfl
  simp only [Tryz.ntmps121, List.size_toArray, List.length_cons, List.length_nil, Nat.reduceAdd, Nat.reduceSub, Array.replicate_succ, Array.replicate_zero, List.push_toArray, List.append_toArray, List.nil_append, List.cons_append]
  gi_wp2_with fail
  have bS := Boxed.new w 24 (.slice none 0 0)
  have hW0 := below1 w (.cells #[.slice none 0 0] 24)
  have hsz : (w.alloc (.cells #[.slice none 0 0] 24)).heap.size = w.heap.size + 1 := by simp
  have hB0 := (hW0.cell (p := ⟨Bv, 0, none⟩) HS.out.2.2.2).trans HS.out.2.2.1
  generalize w.alloc (.cells #[.slice none 0 0] 24) = W0 at *
  obtain ⟨s2, hs2⟩ : ∃ s2, s2 = w.heap.size := ⟨_, rfl⟩
  rw [← hs2] at bS hsz
  rw [← hs2]
  have HZ : Hid (s2 = w.heap.size ∧ W0.heap.size = s2 + 1 ∧ Bv < s2) := ⟨hs2, hsz, by rw [hs2]; exact HS.out.2.2.2⟩
  have hseq := vals_stops 5 (by omega) Bv (fun k => k = s2 ∨ W0.heap.size ≤ k) w HS.out.1 HS.out.2.1 (fun k hk => by have := HZ.out; omega) (by have := HZ.out; omega) W0 hW0 hB0
  clear hs2 hsz hB0
  refine wpIn_rangeFunc_ownH rfl (by omega) (gf := 81) (lb := #[.pointer (some ⟨Bv, 0, none⟩)]) rfl trivial (enters_of Tryz.func81 (by kernel_rfl) rfl)
    hseq (fun h k => h.trans k fun _ h => .inl h) (fun W l o o' hl hw _ _ => (Kept.refl _ W).grown (grownBy_putObj' W l o') (fun k e => by cases e; exact .inl (.inr hl))) (Below.refl _ _) (fun _ => rfl)
    (fun pre W => (∃ v, Boxed W s2 24 v ∧ W.ownsRow W0.heap.size 3 1 v pre.length (iv pre) ∧ True) ∧ Kept (fun k => k = s2 ∨ W0.heap.size ≤ k) W0 W)
    (fun _ _ _ => False)
    (OwnFrom.and (Own.from (holdsRow_own W0.heap.size s2 24 3 1 (fun pre => pre.length) (fun pre => iv pre) (fun _ _ => True)) _) (fun _ X Y row hs hg hr => hs.grown hg (fun k e => .inl (.inr (hr k e).1))))
    (fun _ _ _ _ _ hs _ _ => hs)
    ⟨⟨_, bS, World.ownsRow_nil _ _ _ _, trivial⟩, Kept.refl _ _⟩
    (fun x a' _ => a' = { tmps := #[.slice none 0 0, .func (.func 81) #[] #[.pointer (some ⟨Bv, 0, none⟩)], .pointer (some ⟨s2, 0, none⟩), undef, .slice none 0 0, .int .i64 x.toInt, .func (.func 81) #[] #[.pointer (some ⟨Bv, 0, none⟩)], .int .i64 x.toInt, undef, undef, undef, undef, undef], defers := [] })
    (fun x a' _ X Y row hs hg hr => hs)
    ?assign ?body ?done ?stop
  case assign =>
    rintro l pre x W K ⟨⟨v, hv, hrow, _⟩, hB⟩ hK
    gi_wp2
    exact hK _ _ ((KeepsOthers.refl _).from _) (Kept.refl _ W) ⟨⟨v, hv, hrow, trivial⟩, hB⟩ rfl
  case body =>
    rintro l pre x a' W hl _ ⟨⟨v, hv, hrow, _⟩, hB⟩ rfl hlt
    have hsz := hB.size
    have cS := hv.cell
    have fS := hv.frozen
    have HN : Hid (∀ k, v.ownBlock = some k → W0.heap.size ≤ k) := fun k hk => (hrow.lt k hk).1
    have HC : Hid (∀ j u, [Value.int .i64 x.toInt][j]? = some u → (W.alloc (.cells #[.int .i64 x.toInt] 3)).cell? ((⟨W.heap.size, 0, none⟩ : Addr).add j) = some u) := by
      intro j u hu
      cases j with
      | zero =>
        simp at hu
        subst hu
        have hb := box_new W #[.int .i64 x.toInt] 3
        exact hb.cell 0 _ rfl
      | succ j => simp at hu
    have hln : (pre.length : Int) ≤ 1000000 := by omega
    have HL : Hid (pre.length + 1 ≤ maxLen ∧ (pre.length + 1) * 8 ≤ 140737488355328 ∧ W0.heap.size ≤ (W.alloc (.cells #[.int .i64 x.toInt] 3)).heap.size) := ⟨by unfold maxLen; omega, by omega, by simp; omega⟩
    clear hlt
    gi_wp2_with (gi_at_builtin; refine wpListIn_append_own _ rfl _ _ 24 rfl W0.heap.size 3 i0 (.int .i64 0) 1 8 Tryz.underlying24 HI.out.1 HI.out.2.1 HI.out.2.2.1 HI.out.2.2.2 rfl (by decide) _ _ _ rfl (hrow.alloc _) ⟨W.heap.size, 0, none⟩ 1 1 [.int .i64 x.toInt] rfl rfl HC.out (by simp [Value.oneCell']) HL.out.1 HL.out.2.1 HL.out.2.2 ?_; intro v' w1 hown' hgrow _; obtain ⟨g', cap', rfl⟩ := ownsRow_succ hown'; have bS1 := app_box hgrow hv HN.out (by have := HZ.out; omega); have cS1 := bS1.cell; have fS1 := bS1.frozen)
    have HK : Hid (Kept (fun k => k = s2 ∨ W0.heap.size ≤ k) W w1) := ((Kept.refl _ W).alloc _).grown hgrow fun k hk => .inl (.inr (HN.out k hk))
    have k2 := HK.out.setCell (p := ⟨s2, 0, none⟩) (.inl (.inl rfl)) (.slice (some ⟨g', 0, none⟩) (pre.length + 1) cap')
    have hz := HZ.out
    refine ⟨((app_keeps hrow hgrow).trans (KeepsOthers.setCell _ _ _)).from _, k2, ⟨_, bS1.set _, ?_, trivial⟩, hB.trans k2 (fun _ h => .inl h)⟩
    rw [iv_snoc, List.length_append, List.length_singleton]
    exact row_other (u := .slice (some ⟨g', 0, none⟩) (pre.length + 1) cap') hown' (b := s2) (by omega)
  case done =>
    rintro D ys W hD rfl ⟨⟨v, hv, hrow, _⟩, hB⟩ hK
    have hc := hv.cell
    gi_wp2_with fail
    refine ⟨by simp, .inl ⟨_, _, rfl, run_takeDeferred hK, ?_⟩⟩
    have hz := HZ.out
    have hbW : Below w.heap.size w W := hW0.trans (hB.below (fun k hk => by omega) (by omega))
    have hrow2 := ownsRow_putObj hrow (.deferred none) hK rfl
    refine ⟨_, results_tmp rfl _ _ _, ⟨v, rfl, ownsRow_base hrow2 (by omega)⟩, ?_⟩
    exact hbW.trans (belowK_b (w := w) (Nat.le_refl _) W D _ _ (by omega) hK rfl rfl)
  case stop =>
    rintro D c pre W _ _ h _
    exact h.elim
end Go.Proofs.YtdjobjbkpagnaaaGreat
/-
  A slice of ints that came in, as words.
-/
namespace Go.Proofs.YtdjobjbkpagnaaaGreat
open Go.RowKit

/-- What a law's walk is told of a slice of integers that came in: it is nil, or its cells (elements, then spare room) hold the numbers zs, each of its kind. -/
def IsRow (k : IntKind) (w : World) (a : Option Addr) (len cap : Nat) (zs : List Int) : Prop :=
  (a = none ∧ len = 0 ∧ cap = 0 ∧ zs = []) ∨
  ∃ x, a = some x ∧ len ≤ cap ∧ cap ≤ maxLen ∧ zs.length = cap ∧ (∀ i, i < zs.length → w.cell? (x.add i) = some (.int k (zs.getD i 0))) ∧ ∀ n ∈ zs, (Lit.int k n).wf = true

theorem reads_of_row {w : World} {a : Option Addr} {len cap : Nat} {zs : List Int} (h : IsRow .i64 w a len cap zs) : ∃ l : List (BitVec 64), l.length = len ∧ ReadsI w (.slice a len cap) l := by
  rcases h with ⟨rfl, rfl, rfl, rfl⟩ | ⟨x, rfl, hlc, _, hzl, hc, hwf⟩
  · exact ⟨[], rfl, .inl ⟨rfl, _, _, rfl⟩⟩
  · refine ⟨(zs.take len).map (BitVec.ofInt 64), by simp; omega, ?_⟩
    by_cases h0 : len = 0
    · subst h0
      exact .inl ⟨by simp, _, _, rfl⟩
    · obtain ⟨b, off, spot⟩ := x
      have hc0 := hc 0 (by omega)
      have hspot : spot = none := by simpa [Addr.add] using World.cell?_spot hc0
      subst hspot
      have hbw : b < w.heap.size := by
        have := World.block_lt_of_cell? w _ hc0
        simpa [Addr.add] using this
      have hll : ((zs.take len).map (BitVec.ofInt 64)).length = len := by simp; omega
      refine .inr ⟨b, off, cap, by rw [hll], fun e => h0 (by rw [← hll, e]; rfl), hbw, fun i hi => ?_⟩
      rw [hll] at hi
      have hadd : (⟨b, off, none⟩ : Addr).add i = ⟨b, off + i, none⟩ := by unfold Addr.add; split <;> simp_all
      have hz := hc i (by omega)
      rw [hadd] at hz
      rw [hz]
      have hiz : i < zs.length := by omega
      have hmem : zs[i] ∈ zs := List.getElem_mem hiz
      obtain ⟨y, hy⟩ := Wd.word_of _ (hwf _ hmem)
      have e1 : zs.getD i 0 = zs[i] := by simp [hiz]
      have e2 : ((zs.take len).map (BitVec.ofInt 64)).getD i 0#64 = BitVec.ofInt 64 zs[i] := by
        simp [hi, hiz]
      rw [e1, e2, hy]
      simp
end Go.Proofs.YtdjobjbkpagnaaaGreat
