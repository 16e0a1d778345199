/-
  2 texts, one behind the other: MMem, MPure.
-/
import Derived.Test.YtflabcmjbhmphaaJoin4
import Derived.Test.YtflabcmjbhmphaaJoin3
import Derived.Test.YtflabcmjbhmphaaJoin2
import Derived.Lib.SliceRun
import Derived.Lib.AppendZerosOnto
/-
  Rows of cells, lives and marks in memory, and slices of one's own whose elements lie elsewhere.
-/
namespace Go.Proofs.Ytflabcmjbhmphaa
open Go.RowKit

/-- A store into such a slice. -/
theorem OwnsI.store {w : World} {B g n cap : Nat} {l : List (BitVec 64)} (h : OwnsI w B (.slice (some ⟨g, 0, none⟩) n cap) l) (hn : n = l.length) (k : Nat) (hk : k < l.length) (x : BitVec 64) :
    w.cell? ⟨g, k, none⟩ = some (.int .i64 (l.getD k 0#64).toInt) ∧ w.frozen? ⟨g, k, none⟩ = false ∧ OwnsI (w.setCell ⟨g, k, none⟩ (.int .i64 x.toInt)) B (.slice (some ⟨g, 0, none⟩) n cap) (l.set k x) ∧ B ≤ g := by
  subst hn
  refine ⟨?_, World.ownsRow.frozenAt h k, ?_, (h.lt g rfl).1⟩
  · rw [World.ownsRow.cellAt h k (by omega)]
    simp [iv, hk]
  · have := (World.ownsRow.stored h k (.int .i64 x.toInt)).1
    unfold OwnsI
    rw [List.length_set]
    have e : (iv l).set k (.int .i64 x.toInt) = iv (l.set k x) := by simp [iv, List.map_set]
    rw [e] at this
    exact this
/-- A new list with the same elements. -/
def CloneAns {α : Type} (E : World → α → List Value → Prop) (sz : Nat) (t : TypeId) (w : World) (l : List α) (e : Ending) (w' : World) : Prop :=
  (∃ v' R, e = .returned v' ∧ SRows w' v' t sz R ∧ RowsE E w l R ∧ ∀ k, v'.ownBlock = some k → w.heap.size ≤ k) ∧ Below w.heap.size w w'
theorem add_off (b o j : Nat) : (⟨b, o, none⟩ : Addr).add j = ⟨b, o + j, none⟩ := by unfold Addr.add; split <;> simp_all
theorem flat_cells {w : World} {b off sz : Nat} (hsz : 0 < sz) {R : List (List Value)} (hR : ∀ r ∈ R, r.length = sz) (h : ∀ (i : Nat) (r : List Value), R[i]? = some r → ∀ (j : Nat) (u : Value), r[j]? = some u → w.cell? ⟨b, off + i * sz + j, none⟩ = some u) (j : Nat) (u : Value) (hu : R.flatten[j]? = some u) : w.cell? ((⟨b, off, none⟩ : Addr).add j) = some u := by
  rw [flatten_at hsz R hR] at hu
  cases hr : R[j / sz]? with
  | none => rw [hr] at hu; simp at hu
  | some r =>
    rw [hr] at hu
    have := h _ r hr (j % sz) u hu
    rw [add_off]
    rw [show off + j = off + j / sz * sz + j % sz by rw [Nat.add_assoc, Nat.div_add_mod']]
    exact this
theorem rowsE_over {α : Type} {E : World → α → List Value → Prop} (hE : Stays E) {w w' : World} {l : List α} {R : List (List Value)} (h : RowsE E w l R) (k : Below w.heap.size w w') : RowsE E w' l R := ⟨h.1, fun i x r hx hr => hE _ _ _ _ (h.2 i x r hx hr) k⟩
theorem srows_empty (w : World) (t : TypeId) (sz : Nat) : SRows (w.alloc (.cells #[] t)) (.slice (some ⟨w.heap.size, 0, none⟩) 0 0) t sz [] :=
  .inr ⟨w.heap.size, 0, rfl, Nat.le_refl _, Nat.zero_le _, #[], heap_alloc_last w _, by simp, by simp, by simp, fun i r hr => by simp at hr⟩
/-- A slice that is something has rows at its address. -/
theorem slIs_from {α : Type} {E : World → α → List Value → Prop} {sz : Nat} (hsz : 0 < sz) {w : World} {ad : Addr} {n cap : Nat} {l : List α} (h : SlIs E sz w (.slice (some ad) n cap) l) :
    ∃ R : List (List Value), RowsE E w l R ∧ (∀ r ∈ R, r.length = sz) ∧ R.length = n ∧ ∀ W, Below w.heap.size w W → ∀ (j : Nat) (u : Value), R.flatten[j]? = some u → W.cell? (ad.add j) = some u := by
  obtain ⟨R, h1, h2, h3⟩ := h.rows
  refine ⟨R, h1, h2, by rw [h1.1]; exact h.len.1, fun W hW j u hu => ?_⟩
  by_cases hl : l = []
  · subst hl
    have : R = [] := List.eq_nil_of_length_eq_zero h1.1
    subst this
    simp at hu
  · obtain ⟨b, off, e, hb, hc⟩ := h3 hl
    cases e
    exact flat_cells hsz h2 (fun i r hr j u hu => (hW.cell (p := ⟨b, off + i * sz + j, none⟩) hb).trans (hc i r hr j u hu)) j u hu
theorem slIs_none {α : Type} {E : World → α → List Value → Prop} {sz : Nat} {w : World} {n cap : Nat} {l : List α} (h : SlIs E sz w (.slice none n cap) l) : l = [] ∧ n = 0 := by
  have hn := h.len
  by_cases hl : l = []
  · subst hl; exact ⟨rfl, by simpa using hn.1.symm⟩
  · obtain ⟨b, off, e, _⟩ := h.lies hl
    cases e
theorem rowsE_append {α : Type} {E : World → α → List Value → Prop} {w : World} {l1 l2 : List α} {R1 R2 : List (List Value)} (h1 : RowsE E w l1 R1) (h2 : RowsE E w l2 R2) : RowsE E w (l1 ++ l2) (R1 ++ R2) := by
  refine ⟨by simp [h1.1, h2.1], fun i x r hx hr => ?_⟩
  by_cases hi : i < l1.length
  · rw [List.getElem?_append_left hi] at hx
    rw [List.getElem?_append_left (by rw [h1.1]; exact hi)] at hr
    exact h1.2 i x r hx hr
  · rw [List.getElem?_append_right (by omega)] at hx
    rw [List.getElem?_append_right (by rw [h1.1]; omega), h1.1] at hr
    exact h2.2 _ x r hx hr
theorem rowsE_one {α : Type} {E : World → α → List Value → Prop} {w : World} {l : List α} {R : List (List Value)} (h : RowsE E w l R) (hone : ∀ (x : α) (cs : List Value), E w x cs → ∀ u ∈ cs, u.oneCell' = true) : ∀ r ∈ R, ∀ c ∈ r, c.oneCell' = true := fun r hr => by
  obtain ⟨i, hi⟩ := List.getElem?_of_mem hr
  have hil := (List.getElem?_eq_some_iff.1 hi).1
  have hx : l[i]? = some (l[i]'(by rw [← h.1]; exact hil)) := List.getElem?_eq_getElem _
  exact hone _ _ (h.2 i _ r hx hi)
theorem rowsE_set {α : Type} {E : World → α → List Value → Prop} {w : World} {l : List α} {R : List (List Value)} (h : RowsE E w l R) (k : Nat) (x : α) (r : List Value) (hx : E w x r) : RowsE E w (l.set k x) (R.set k r) := by
  refine ⟨by simp [h.1], fun i y s hy hs => ?_⟩
  rw [List.getElem?_set] at hy hs
  by_cases e : k = i
  · subst e
    rw [if_pos rfl] at hy hs
    split at hy
    · split at hs
      · cases hy; cases hs; exact hx
      · cases hs
    · cases hy
  · rw [if_neg e] at hy hs
    exact h.2 i y s hy hs
/-- Rows of one's own since w0. -/
def OwnS {α : Type} (E : World → α → List Value → Prop) (sz : Nat) (t : TypeId) (w0 w : World) (v : Value) (l : List α) : Prop :=
  ∃ R, SRows w v t sz R ∧ RowsE E w0 l R ∧ (∀ k, v.ownBlock = some k → w0.heap.size ≤ k) ∧ Below w0.heap.size w0 w
theorem ownS_nil {α : Type} (E : World → α → List Value → Prop) (sz : Nat) (t : TypeId) {w0 w : World} (h : Below w0.heap.size w0 w) : OwnS E sz t w0 w (.slice none 0 0) ([] : List α) :=
  ⟨[], srows_nil _ _ _, ⟨rfl, fun i x r hx => by simp at hx⟩, fun k hk => by simp [Value.ownBlock] at hk, h⟩
theorem OwnS.bel {α : Type} {E : World → α → List Value → Prop} {sz : Nat} {t : TypeId} {w0 w : World} {v : Value} {l : List α} (h : OwnS E sz t w0 w v l) : Below w0.heap.size w0 w := h.choose_spec.2.2.2
theorem OwnS.is {α : Type} {E : World → α → List Value → Prop} (hs : Stays E) {sz : Nat} {t : TypeId} {w0 w : World} {v : Value} {l : List α} (h : OwnS E sz t w0 w v l) : SlIs E sz w v l := by
  obtain ⟨R, h1, h2, _, h4⟩ := h
  exact slIs_of_srows h1 (rowsE_over hs h2 h4)
theorem append_own {α : Type} {E : World → α → List Value → Prop} {ops : Array Oper} {rest : List Oper} {o : Oper} {a : Act} {Q : Exit → Act → World → Prop} {w : World} (hgd : o.guard = none) (s x : Operand) (T e : TypeId) (z : Value) (sz bytes : Nat) (ho : o.op = .call { callee := .builtin .append, args := #[s, x], argTypes := #[T, T] })
    (hT : Try.prog.underlying T = some (.slice e)) (hi : (Try.prog.info? e).map (fun i => (i.zero, i.size, i.bytes)) = some (some z, sz, bytes)) (hzs : z.cells.size = sz) (hsz : 0 < sz) (hbl : bytes ≤ 200)
    {w0 : World} {v : Value} {ad : Addr} {m2 c2 : Nat} {l1 l2 : List α} (hs : a.eval s = v) (hx : a.eval x = .slice (some ad) m2 c2) (hone : ∀ x cs, E w0 x cs → ∀ u ∈ cs, u.oneCell' = true)
    (hv : OwnS E sz e w0 w v l1) (h2 : SlIs E sz w0 (.slice (some ad) m2 c2) l2) (m : Nat) (hm : l1.length + m2 = m) (hl : m ≤ 1000000)
    (h : ∀ va vc w', Hid (OwnS E sz e w0 w' (.slice va m vc) (l1 ++ l2)) → wpList Try.prog ops Q rest (a.put o.dst (.slice va m vc)) w') :
    wpList Try.prog ops Q (o :: rest) a w := by
  obtain ⟨R1, r1, r2, r3, r4⟩ := hv
  obtain ⟨R2, s1, s2, s3, s4⟩ := slIs_from hsz h2
  obtain ⟨i0, hi0, hz0, hz1, hz2⟩ := info_parts hi
  have ho2 : ∀ r ∈ R2, ∀ c ∈ r, c.oneCell' = true := fun r hr => by
    obtain ⟨i, hi⟩ := List.getElem?_of_mem hr
    have hil := (List.getElem?_eq_some_iff.1 hi).1
    have hx : l2[i]? = some (l2[i]'(by rw [← s1.1]; exact hil)) := List.getElem?_eq_getElem _
    exact hone _ _ (s1.2 i _ r hx hi)
  refine append_any hgd s x T e i0 z sz bytes ho hT hi0 hz0 hz1 hz2 hzs hsz hbl hs hx r1 s3 s2 (s4 _ r4) ho2 m (by rw [r2.1]; exact hm) (R1 ++ R2) rfl hl ?_
  intro va vc w' k1 k2 k3
  refine h va vc w' ⟨R1 ++ R2, k1.out, rowsE_append r2 s1, fun k hk => ?_, r4.trans (k3.out.below (fun k hk => r3 k hk) r4.size)⟩
  rcases k2.out k hk with q | q
  · exact r3 k q
  · exact Nat.le_trans r4.size q
theorem OwnS.lt {α : Type} {E : World → α → List Value → Prop} {sz : Nat} {t : TypeId} {w0 w : World} {v : Value} {l : List α} (h : OwnS E sz t w0 w v l) {k : Nat} (hk : v.ownBlock = some k) : k < w.heap.size := by
  obtain ⟨_, h1, _⟩ := h
  exact h1.lt hk
theorem OwnS.from {α : Type} {E : World → α → List Value → Prop} {sz : Nat} {t : TypeId} {w0 w : World} {v : Value} {l : List α} (h : OwnS E sz t w0 w v l) : ∀ k, v.ownBlock = some k → w0.heap.size ≤ k := by
  obtain ⟨_, _, _, h3, _⟩ := h
  exact h3
theorem OwnS.alloc {α : Type} {E : World → α → List Value → Prop} {sz : Nat} {t : TypeId} {w0 w : World} {v : Value} {l : List α} (h : OwnS E sz t w0 w v l) (o : Obj) : OwnS E sz t w0 (w.alloc o) v l := by
  obtain ⟨R, h1, h2, h3, h4⟩ := h
  have k1 : Below w.heap.size w (w.alloc o) := below1 _ _
  exact ⟨R, h1.of_block (fun k hk => k1.block k (h1.lt hk)), h2, h3, h4.trans (k1.mono h4.size)⟩
/-- A slice reads as l, and lies in no block of G. -/
def SlX {α : Type} (G : Nat → Prop) (E : World → α → List Value → Prop) (sz : Nat) (w : World) (v : Value) (l : List α) : Prop :=
  ∃ a cap, v = .slice a l.length cap ∧ l.length ≤ cap ∧ (l ≠ [] → ∃ b off, a = some ⟨b, off, none⟩ ∧ b < w.heap.size ∧ ¬ G b ∧
    ∀ (i : Nat) (x : α), l[i]? = some x → ∃ cs : List Value, cs.length = sz ∧ E w x cs ∧ ∀ (j : Nat) (u : Value), cs[j]? = some u → w.cell? ⟨b, off + i * sz + j, none⟩ = some u)
section
variable {α : Type} {G H : Nat → Prop} {E E' : World → α → List Value → Prop} {sz : Nat} {w w' : World} {v : Value} {l : List α}
theorem SlX.is (h : SlX G E sz w v l) (hE : ∀ x cs, E w x cs → E' w x cs) : SlIs E' sz w v l := by
  obtain ⟨a, cap, rfl, hc, h⟩ := h
  refine ⟨a, cap, rfl, hc, fun hl => ?_⟩
  obtain ⟨b, off, rfl, hb, _, h⟩ := h hl
  refine ⟨b, off, rfl, hb, fun i x hx => ?_⟩
  obtain ⟨cs, h1, h2, h3⟩ := h i x hx
  exact ⟨cs, h1, hE x cs h2, h3⟩
theorem SlX.kept (h : SlX G E sz w v l) (k : Kept G w w') (hE : ∀ x cs, E w x cs → E w' x cs) : SlX G E sz w' v l := by
  obtain ⟨a, cap, rfl, hc, h⟩ := h
  refine ⟨a, cap, rfl, hc, fun hl => ?_⟩
  obtain ⟨b, off, rfl, hb, hg, h⟩ := h hl
  refine ⟨b, off, rfl, Nat.lt_of_lt_of_le hb k.size, hg, fun i x hx => ?_⟩
  obtain ⟨cs, h1, h2, h3⟩ := h i x hx
  refine ⟨cs, h1, hE x cs h2, fun j u hu => ?_⟩
  rw [World.cell?_of_block (a := ⟨b, off + i * sz + j, none⟩) (k.block b hb hg)]
  exact h3 j u hu
theorem SlX.other (h : SlX G E sz w v l) (hG : ∀ b, b < w.heap.size → H b → G b) (hE : ∀ x cs, E w x cs → E' w x cs) : SlX H E' sz w v l := by
  obtain ⟨a, cap, rfl, hc, h⟩ := h
  refine ⟨a, cap, rfl, hc, fun hl => ?_⟩
  obtain ⟨b, off, rfl, hb, hg, h⟩ := h hl
  refine ⟨b, off, rfl, hb, fun hh => hg (hG b hb hh), fun i x hx => ?_⟩
  obtain ⟨cs, h1, h2, h3⟩ := h i x hx
  exact ⟨cs, h1, hE x cs h2, h3⟩
theorem slX_of (h : SlIs E sz w v l) (hG : ∀ b, G b → w.heap.size ≤ b) (hE : ∀ x cs, E w x cs → E' w x cs) : SlX G E' sz w v l := by
  obtain ⟨a, cap, rfl, hc, h⟩ := h
  refine ⟨a, cap, rfl, hc, fun hl => ?_⟩
  obtain ⟨b, off, rfl, hb, h⟩ := h hl
  refine ⟨b, off, rfl, hb, fun hh => by have := hG b hh; omega, fun i x hx => ?_⟩
  obtain ⟨cs, h1, h2, h3⟩ := h i x hx
  exact ⟨cs, h1, hE x cs h2, h3⟩
theorem slX_of_srows {t : TypeId} {R : List (List Value)} (h : SRows w v t sz R) (hE : RowsE E w l R) (hG : ∀ k, v.ownBlock = some k → ¬ G k) : SlX G E sz w v l := by
  obtain ⟨a, cap, rfl, hc, h2⟩ := slIs_of_srows h hE
  refine ⟨a, cap, rfl, hc, fun hl => ?_⟩
  obtain ⟨b, off, rfl, hb, h3⟩ := h2 hl
  exact ⟨b, off, rfl, hb, hG b rfl, h3⟩
end
/-- Where a cell of such a row lies, and that it may be turned. -/
theorem rows_cell {w : World} {b : Nat} {t : TypeId} {tot sz : Nat} {R : List (List Value)} (h : Rows w b t tot sz R) {i j : Nat} {r : List Value} {u : Value} (hr : R[i]? = some r) (hu : r[j]? = some u) : w.cell? ⟨b, i * sz + j, none⟩ = some u ∧ w.frozen? ⟨b, i * sz + j, none⟩ = false := by
  refine ⟨h.range hr j u hu, ?_⟩
  obtain ⟨cur, h1, _⟩ := h
  exact frozen_of_row w b _ cur t h1

/-- Which cells a cell has. -/
def CE (_ : World) (c : Cl) (cs : List Value) : Prop := okC c ∧ cs = [.int .i64 c.k, .int .i64 c.n, .string c.s]
/-- A row of a life. -/
structure Lf where
  r : List Cl
  b : BitVec 64
  g : Int
structure Mk where
  a : Int
  g : Int
def RwE (w : World) (r : List Cl) (cs : List Value) : Prop := ∃ v, cs = [v] ∧ SlIs CE 3 w v r
def LfE (w : World) (x : Lf) (cs : List Value) : Prop := ∃ v, cs = [v, .int .i64 x.b.toInt, .int .i64 x.g] ∧ SlIs CE 3 w v x.r
abbrev mkC (m : Mk) : List Value := [.int .i64 m.a, .int .i64 m.g]
def MkE (_ : World) (m : Mk) (cs : List Value) : Prop := cs = mkC m
def RwX (G : Nat → Prop) (w : World) (r : List Cl) (cs : List Value) : Prop := ∃ v, cs = [v] ∧ SlX G CE 3 w v r
def LfX (G : Nat → Prop) (w : World) (x : Lf) (cs : List Value) : Prop := ∃ v, cs = [v, .int .i64 x.b.toInt, .int .i64 x.g] ∧ SlX G CE 3 w v x.r
abbrev RwsIs (w : World) (v : Value) (l : List (List Cl)) : Prop := SlIs RwE 1 w v l
abbrev LfsIs (w : World) (v : Value) (l : List Lf) : Prop := SlIs LfE 3 w v l
abbrev MksIs (w : World) (v : Value) (l : List Mk) : Prop := SlIs MkE 2 w v l
theorem stays_c : Stays CE := fun _ _ _ _ h _ => h
theorem stays_mk : Stays MkE := fun _ _ _ _ h _ => h
theorem stays_rw : Stays RwE := fun _ _ _ _ ⟨v, h1, h2⟩ k => ⟨v, h1, h2.over stays_c k⟩
theorem stays_lf : Stays LfE := fun _ _ _ _ ⟨v, h1, h2⟩ k => ⟨v, h1, h2.over stays_c k⟩
theorem one_c {w : World} {c : Cl} {cs : List Value} (h : CE w c cs) : ∀ u ∈ cs, u.oneCell' = true := by
  obtain ⟨_, rfl⟩ := h
  intro u hu
  simp only [List.mem_cons, List.not_mem_nil, or_false] at hu
  rcases hu with rfl | rfl | rfl <;> rfl
theorem one_mk {w : World} {c : Mk} {cs : List Value} (h : MkE w c cs) : ∀ u ∈ cs, u.oneCell' = true := by
  have e : cs = mkC c := h
  subst e
  intro u hu
  simp only [mkC, List.mem_cons, List.not_mem_nil, or_false] at hu
  rcases hu with rfl | rfl <;> rfl
theorem one_rw {w : World} {c : List Cl} {cs : List Value} (h : RwE w c cs) : ∀ u ∈ cs, u.oneCell' = true := by
  obtain ⟨v, rfl, hv⟩ := h
  obtain ⟨a, n, cap, rfl, _⟩ := hv.slice
  intro u hu
  simp only [List.mem_cons, List.not_mem_nil, or_false] at hu
  rcases hu with rfl; rfl
theorem one_lf {w : World} {c : Lf} {cs : List Value} (h : LfE w c cs) : ∀ u ∈ cs, u.oneCell' = true := by
  obtain ⟨v, rfl, hv⟩ := h
  obtain ⟨a, n, cap, rfl, _⟩ := hv.slice
  intro u hu
  simp only [List.mem_cons, List.not_mem_nil, or_false] at hu
  rcases hu with rfl | rfl | rfl <;> rfl
/-- Both ways to tell a row of cells. -/
theorem rowIs_of {w : World} {v : Value} {r : List Cl} (h : SlIs CE 3 w v r) : RowIs w v r ∧ ∀ (i : Nat) (c : Cl), r[i]? = some c → okC c := by
  obtain ⟨a, cap, rfl, hcap, h⟩ := h
  refine ⟨⟨a, cap, rfl, fun hr => ?_⟩, fun i c hi => ?_⟩
  · obtain ⟨b, off, rfl, hb, hc⟩ := h hr
    refine ⟨b, off, rfl, hb, fun i c hi => ?_⟩
    obtain ⟨cs, _, ⟨_, rfl⟩, h3⟩ := hc i c hi
    exact ⟨by simpa using h3 0 _ rfl, h3 1 _ rfl, h3 2 _ rfl⟩
  · have hne : r ≠ [] := by rintro rfl; simp at hi
    obtain ⟨b, off, rfl, hb, hc⟩ := h hne
    obtain ⟨cs, _, ⟨h2, _⟩, _⟩ := hc i c hi
    exact h2

/-- What is told of an element with the blocks that it does not lie in. -/
structure XOk {α : Type} (EX : (Nat → Prop) → World → α → List Value → Prop) (E : World → α → List Value → Prop) : Prop where
  kept : ∀ {G : Nat → Prop} {w w' : World} {x : α} {cs : List Value}, EX G w x cs → Kept G w w' → EX G w' x cs
  other : ∀ {G H : Nat → Prop} {w : World} {x : α} {cs : List Value}, EX G w x cs → (∀ b, b < w.heap.size → H b → G b) → EX H w x cs
  is : ∀ {G : Nat → Prop} {w : World} {x : α} {cs : List Value}, EX G w x cs → E w x cs
  of : ∀ {G : Nat → Prop} {w : World} {x : α} {cs : List Value}, E w x cs → (∀ b, G b → w.heap.size ≤ b) → EX G w x cs
theorem xok_rw : XOk RwX RwE :=
  ⟨fun ⟨v, e, h⟩ k => ⟨v, e, h.kept k fun _ _ h => h⟩, fun ⟨v, e, h⟩ k => ⟨v, e, h.other k fun _ _ h => h⟩, fun ⟨v, e, h⟩ => ⟨v, e, h.is fun _ _ h => h⟩, fun ⟨v, e, h⟩ k => ⟨v, e, slX_of h k fun _ _ h => h⟩⟩
theorem xok_lf : XOk LfX LfE :=
  ⟨fun ⟨v, e, h⟩ k => ⟨v, e, h.kept k fun _ _ h => h⟩, fun ⟨v, e, h⟩ k => ⟨v, e, h.other k fun _ _ h => h⟩, fun ⟨v, e, h⟩ => ⟨v, e, h.is fun _ _ h => h⟩, fun ⟨v, e, h⟩ k => ⟨v, e, slX_of h k fun _ _ h => h⟩⟩

/-- A slice of one's own since w0; its elements lie neither in its block nor in H. -/
def OwnX {α : Type} (EX : (Nat → Prop) → World → α → List Value → Prop) (sz : Nat) (t : TypeId) (H : Nat → Prop) (w0 w : World) (v : Value) (l : List α) : Prop :=
  ∃ R, SRows w v t sz R ∧ RowsE (EX fun k => v.ownBlock = some k ∨ H k) w l R ∧ (∀ k, v.ownBlock = some k → w0.heap.size ≤ k ∧ ¬ H k) ∧ (∀ k, H k → w0.heap.size ≤ k) ∧ Below w0.heap.size w0 w
section
variable {α : Type} {EX : (Nat → Prop) → World → α → List Value → Prop} {E : World → α → List Value → Prop} {sz : Nat} {t : TypeId} {H H' : Nat → Prop} {w0 w w' : World} {v : Value} {l : List α}
theorem OwnX.bel (h : OwnX EX sz t H w0 w v l) : Below w0.heap.size w0 w := h.choose_spec.2.2.2.2
theorem OwnX.slice (h : OwnX EX sz t H w0 w v l) : ∃ a c, v = .slice a l.length c := by
  obtain ⟨R, h1, h2, _⟩ := h
  obtain ⟨a, c, e⟩ := srows_slice h1
  exact ⟨a, c, by rw [e, h2.1]⟩
theorem OwnX.own (h : OwnX EX sz t H w0 w v l) {k : Nat} (hk : v.ownBlock = some k) : w0.heap.size ≤ k ∧ ¬ H k ∧ k < w.heap.size := by
  obtain ⟨R, h1, h2, h3, _⟩ := h
  exact ⟨(h3 k hk).1, (h3 k hk).2, h1.lt hk⟩
theorem OwnX.kept (ho : XOk EX E) (h : OwnX EX sz t H w0 w v l) {F : Nat → Prop} (k : Kept F w w') (hF : ∀ x, F x → H x) : OwnX EX sz t H w0 w' v l := by
  obtain ⟨R, h1, h2, h3, h4, h5⟩ := h
  refine ⟨R, h1.kept k (fun g hg hf => (h3 g hg).2 (hF g hf)), ⟨h2.1, fun i x r hx hr => ho.kept (h2.2 i x r hx hr) (k.mono fun x hx => .inr (hF x hx))⟩, h3, h4, h5.trans (k.below (fun x hx => h4 x (hF x hx)) h5.size)⟩
theorem OwnX.over (ho : XOk EX E) (h : OwnX EX sz t H w0 w v l) (k : Below w.heap.size w w') : OwnX EX sz t H w0 w' v l :=
  h.kept ho (kept_of_below (fun _ => False) k) (fun _ h => h.elim)
theorem OwnX.other (ho : XOk EX E) (h : OwnX EX sz t H w0 w v l) (h1 : ∀ b, b < w.heap.size → H' b → H b) (h2 : ∀ k, H' k → w0.heap.size ≤ k) : OwnX EX sz t H' w0 w v l := by
  obtain ⟨R, r1, r2, r3, r4, r5⟩ := h
  refine ⟨R, r1, ⟨r2.1, fun i x r hx hr => ho.other (r2.2 i x r hx hr) fun b hb hg => ?_⟩, fun k hk => ⟨(r3 k hk).1, fun hh => (r3 k hk).2 (h1 k (r1.lt hk) hh)⟩, h2, r5⟩
  rcases hg with hg | hg
  · exact .inl hg
  · exact .inr (h1 b hb hg)
theorem OwnX.is (ho : XOk EX E) (h : OwnX EX sz t H w0 w v l) : SlIs E sz w v l := by
  obtain ⟨R, r1, r2, _⟩ := h
  exact slIs_of_srows r1 ⟨r2.1, fun i x r hx hr => ho.is (r2.2 i x r hx hr)⟩
theorem ownX_of (ho : XOk EX E) (h : OwnS E sz t w0 w v l) (hH : ∀ k, H k → w0.heap.size ≤ k) (hn : ∀ k, v.ownBlock = some k → ¬ H k) : OwnX EX sz t H w0 w v l := by
  obtain ⟨R, r1, r2, r3, r4⟩ := h
  refine ⟨R, r1, ⟨r2.1, fun i x r hx hr => ?_⟩, fun k hk => ⟨r3 k hk, hn k hk⟩, hH, r4⟩
  have hx0 : EX (fun k => v.ownBlock = some k ∨ H k) w0 x r := ho.of (r2.2 i x r hx hr) (fun b hb => by
    rcases hb with hb | hb
    · exact r3 b hb
    · exact hH b hb)
  exact ho.kept hx0 (kept_of_below _ r4)
theorem srows_setOne {R : List (List Value)} {g n cap : Nat} (h : SRows w (.slice (some ⟨g, 0, none⟩) n cap) t sz R) {i j : Nat} {r : List Value} (hr : R[i]? = some r) (hj : j < sz) (u : Value) : SRows (w.setCell ⟨g, i * sz + j, none⟩ u) (.slice (some ⟨g, 0, none⟩) n cap) t sz (R.set i (r.set j u)) := by
  rcases h with ⟨e, _⟩ | ⟨g2, cap2, e, h1, h2, h3⟩
  · cases e
  · cases e
    exact .inr ⟨g, cap, by simp, by simpa using h1, h2, rows_setOne h3 hr hj u⟩
theorem srows_setRow {R : List (List Value)} {g n cap : Nat} (h : SRows w (.slice (some ⟨g, 0, none⟩) n cap) t sz R) {i : Nat} (hi : i < R.length) {r : List Value} (hr : r.length = sz) : SRows (w.setCells g (i * sz) r) (.slice (some ⟨g, 0, none⟩) n cap) t sz (R.set i r) := by
  rcases h with ⟨e, _⟩ | ⟨g2, cap2, e, h1, h2, h3⟩
  · cases e
  · cases e
    exact .inr ⟨g, cap, by simp, by simpa using h1, h2, h3.set hi hr⟩
/-- The element at i: its cells, and what a store there makes. -/
theorem OwnX.at (ho : XOk EX E) (h : OwnX EX sz t H w0 w v l) {i : Nat} (hi : i < l.length) : ∃ (g cap : Nat) (x : α) (r : List Value), v = .slice (some ⟨g, 0, none⟩) l.length cap ∧ w0.heap.size ≤ g ∧ ¬ H g ∧ g < w.heap.size ∧ l[i]? = some x ∧ r.length = sz ∧ EX (fun k => v.ownBlock = some k ∨ H k) w x r ∧
    (∀ (j : Nat) (u : Value), r[j]? = some u → w.cell? ⟨g, i * sz + j, none⟩ = some u ∧ w.frozen? ⟨g, i * sz + j, none⟩ = false) ∧ w.there g (i * sz) sz ∧
    (∀ (j : Nat) (u : Value) (y : α), j < sz → EX (fun k => v.ownBlock = some k ∨ H k) w y (r.set j u) → OwnX EX sz t H w0 (w.setCell ⟨g, i * sz + j, none⟩ u) v (l.set i y)) ∧
    (∀ (cs : List Value) (y : α), cs.length = sz → EX (fun k => v.ownBlock = some k ∨ H k) w y cs → OwnX EX sz t H w0 (w.setCells g (i * sz) cs) v (l.set i y)) := by
  obtain ⟨R, r1, r2, r3, r4, r5⟩ := h
  have hx : l[i]? = some l[i] := List.getElem?_eq_getElem hi
  have hiR : i < R.length := by rw [r2.1]; exact hi
  obtain ⟨r, hr⟩ : ∃ r, R[i]? = some r := ⟨_, List.getElem?_eq_getElem hiR⟩
  have hlen := r1.rowlen r (List.mem_of_getElem? hr)
  have hE := r2.2 i _ r hx hr
  have r1c := r1
  rcases r1 with ⟨_, h0⟩ | ⟨g, cap, rfl, q1, q2, q3⟩
  · rw [h0] at hiR; simp at hiR
  · rw [r2.1] at r1c r2 r3 hE ⊢
    have hset : ∀ (w2 : World) (y : α) (cs : List Value), Kept (fun k => (Value.slice (some ⟨g, 0, none⟩) l.length cap).ownBlock = some k ∨ H k) w w2 → Below w0.heap.size w0 w2 → SRows w2 (.slice (some ⟨g, 0, none⟩) l.length cap) t sz (R.set i cs) → EX (fun k => (Value.slice (some ⟨g, 0, none⟩) l.length cap).ownBlock = some k ∨ H k) w y cs → OwnX EX sz t H w0 w2 (.slice (some ⟨g, 0, none⟩) l.length cap) (l.set i y) := by
      intro w2 y cs k b s e
      have hE2 := rowsE_set (E := EX fun k => (Value.slice (some ⟨g, 0, none⟩) l.length cap).ownBlock = some k ∨ H k) ⟨r2.1, r2.2⟩ i y cs e
      exact ⟨_, s, ⟨hE2.1, fun j x r hx hr => ho.kept (hE2.2 j x r hx hr) k⟩, r3, r4, b⟩
    refine ⟨g, cap, l[i], r, rfl, (r3 g rfl).1, (r3 g rfl).2, q3.lt, hx, hlen, hE, fun j u hu => rows_cell q3 hr hu, q3.there hiR, fun j u y hj e => ?_, fun cs y hl e => ?_⟩
    · exact hset _ y _ ((Kept.refl _ _).setCell (p := ⟨g, i * sz + j, none⟩) (.inl (.inl rfl)) _) (r5.setCell (p := ⟨g, i * sz + j, none⟩) (r3 g rfl).1 _) (srows_setOne r1c hr hj u) e
    · have hk : Kept (fun k => (Value.slice (some ⟨g, 0, none⟩) l.length cap).ownBlock = some k ∨ H k) w (w.setCells g (i * sz) cs) := Kept.setCells (F := fun k => (Value.slice (some ⟨g, 0, none⟩) l.length cap).ownBlock = some k ∨ H k) (.inl (.inl rfl)) _ _ _ (Kept.refl _ _)
      have hk2 : Kept (fun k => k = g) w (w.setCells g (i * sz) cs) := Kept.setCells (F := fun k => k = g) (.inl rfl) _ _ _ (Kept.refl _ _)
      exact hset _ y _ hk (r5.trans (hk2.below (fun k hk => by rw [hk]; exact (r3 g rfl).1) r5.size)) (srows_setRow r1c hiR hl) e
end
/-- A row that was cloned just now lies in no older block. -/
theorem cloned_x {w w' : World} {t : TypeId} {v : Value} {R : List (List Value)} {r : List Cl} {G : Nat → Prop} (hs : SRows w' v t 3 R) (hE : RowsE CE w r R) (hown : ∀ k, v.ownBlock = some k → w.heap.size ≤ k) (hG : ∀ k, G k → k < w.heap.size) : SlX G CE 3 w' v r :=
  slX_of_srows hs ⟨hE.1, hE.2⟩ fun k hk hg => by have := hown k hk; have := hG k hg; omega

theorem made_flat (z : Array Value) (n sz : Nat) (hz : z.size = sz) (hsz : 0 < sz) : (madeCells z (n * sz)).toList = (List.replicate n z.toList).flatten := by
  have hl : ∀ r ∈ List.replicate n z.toList, r.length = sz := fun r hr => by rw [(List.mem_replicate.1 hr).2]; simpa using hz
  apply List.ext_getElem?
  intro k
  rw [flatten_at hsz _ hl, Array.getElem?_toList]
  unfold madeCells
  simp only [Array.getElem?_map, List.getElem?_replicate]
  by_cases hk : k < n * sz
  · have hm : k % sz < z.size := by rw [hz]; exact Nat.mod_lt _ hsz
    rw [if_pos ((Nat.div_lt_iff_lt_mul hsz).2 hk), Array.getElem?_range, if_pos hk]
    simp only [Option.map_some, Option.bind_some, hz]
    rw [Array.getElem?_toList, getElem!_pos z _ hm, Array.getElem?_eq_getElem hm]
  · rw [if_neg (fun h => hk ((Nat.div_lt_iff_lt_mul hsz).1 h)), Array.getElem?_range, if_neg hk]
    rfl
section
variable {P : Program} {ops : Array Oper} {rest : List Oper} {o : Oper} {a : Act} {w : World} {Q : Exit → Act → World → Prop}
/-- 'make([]T, n)' of any rows. -/
theorem make_rows (hgd : o.guard = none) (l c : Operand) (T e : TypeId) (z : Value) (sz bytes : Nat) (hop : o.op = Op.makeSlice T l c) (hT : P.underlying T = some (.slice e)) (hi : (P.info? e).map (fun i => (i.zero, i.size, i.bytes)) = some (some z, sz, bytes)) (hzs : z.cells.size = sz) (hsz : 0 < sz) (hbl : bytes ≤ 200)
    {C : Int} {n : Nat} (hl : a.eval l = .int .i64 C) (hc : a.eval c = .int .i64 C) (hC : C = (n : Int)) (hn : n ≤ 1000000)
    (h : ∀ w', Hid (SRows w' (.slice (some ⟨w.heap.size, 0, none⟩) n n) e sz (List.replicate n z.cells.toList)) → Hid (Below w.heap.size w w') → wpList P ops Q rest (a.put o.dst (.slice (some ⟨w.heap.size, 0, none⟩) n n)) w') : wpList P ops Q (o :: rest) a w := by
  obtain ⟨i0, hi0, hz0, hz1, hz2⟩ := info_parts hi
  refine wpList_make_full w hgd l c T hop w.heap.size e i0 z sz hT hi0 hz0 hz1 _ _ C C n hl hc hC hC ?_ ?_ (Nat.le_refl _) ?_
  · rw [hz2]
    have : bytes * n ≤ 200 * 1000000 := Nat.mul_le_mul hbl hn
    omega
  · unfold maxLen; omega
  · intro w' hown hg
    refine h w' ?_ ((Below.refl _ w).grown hg (Nat.le_refl _) (fun k hk => by cases hk))
    exact srows_of_own hown (made_flat z.cells n sz hzs hsz) (fun r hr => by rw [(List.mem_replicate.1 hr).2]; simpa using hzs) hsz (by simp)
end
theorem rowsE_replicate {α : Type} {E : World → α → List Value → Prop} {w : World} {x : α} {cs : List Value} (n : Nat) (h : E w x cs) : RowsE E w (List.replicate n x) (List.replicate n cs) := by
  refine ⟨by simp, fun i y r hy hr => ?_⟩
  rw [List.getElem?_replicate] at hy hr
  by_cases hi : i < n
  · rw [if_pos hi] at hy hr
    cases hy; cases hr; exact h
  · rw [if_neg hi] at hy
    cases hy
/-- What make made. -/
theorem ownX_made {α : Type} {EX : (Nat → Prop) → World → α → List Value → Prop} {sz : Nat} {t : TypeId} {H : Nat → Prop} {w0 w w' : World} {n : Nat} {x : α} {cs : List Value} (hs : SRows w' (.slice (some ⟨w.heap.size, 0, none⟩) n n) t sz (List.replicate n cs)) (h0 : Below w0.heap.size w0 w) (hb : Below w.heap.size w w') (hx : ∀ G, EX G w' x cs) (hH : ∀ k, H k → w0.heap.size ≤ k) (hn : ¬ H w.heap.size) : OwnX EX sz t H w0 w' (.slice (some ⟨w.heap.size, 0, none⟩) n n) (List.replicate n x) := by
  refine ⟨_, hs, rowsE_replicate n (hx _), fun k hk => ?_, hH, h0.trans (hb.mono h0.size)⟩
  have e : some w.heap.size = some k := hk
  cases e
  exact ⟨h0.size, hn⟩
theorem slX_nil (G : Nat → Prop) (E : World → Cl → List Value → Prop) (sz : Nat) (w : World) (a : Option Addr) (cap : Nat) : SlX G E sz w (.slice a 0 cap) ([] : List Cl) := ⟨a, cap, rfl, Nat.zero_le _, fun h => absurd rfl h⟩

section
variable {α : Type} {E : World → α → List Value → Prop} {ops : Array Oper} {rest : List Oper} {o : Oper} {a : Act} {Q : Exit → Act → World → Prop} {w : World}
/-- Append of one row that was made just ahead. -/
theorem append_one (hgd : o.guard = none) (s x : Operand) (T e : TypeId) (z : Value) (sz bytes : Nat) (ho : o.op = .call { callee := .builtin .append, args := #[s, x], argTypes := #[T, T] })
    (hT : Try.prog.underlying T = some (.slice e)) (hi : (Try.prog.info? e).map (fun i => (i.zero, i.size, i.bytes)) = some (some z, sz, bytes)) (hzs : z.cells.size = sz) (hsz : 0 < sz) (hbl : bytes ≤ 200)
    {w0 : World} {v : Value} {l1 : List α} {y : α} {cs : Array Value} (hcs : cs.size = sz) (hs : a.eval s = v) (hx : a.eval x = .slice (some ⟨w.heap.size, 0, none⟩) 1 1) (hone : ∀ x cs, E w0 x cs → ∀ u ∈ cs, u.oneCell' = true)
    (hv : OwnS E sz e w0 w v l1) (hy : E w0 y cs.toList) (m : Nat) (hm : l1.length + 1 = m) (hl : m ≤ 1000000)
    (h : ∀ va vc w', Hid (OwnS E sz e w0 w' (.slice va m vc) (l1 ++ [y])) → Hid (Kept (fun k => v.ownBlock = some k) w w') → Hid (∀ k, (Value.slice va m vc).ownBlock = some k → v.ownBlock = some k ∨ w.heap.size ≤ k) → wpList Try.prog ops Q rest (a.put o.dst (.slice va m vc)) w') :
    wpList Try.prog ops Q (o :: rest) a (w.alloc (.cells cs e)) := by
  obtain ⟨R1, r1, r2, r3, r4⟩ := hv
  have b1 : Box (w.alloc (.cells cs e)) w.heap.size e cs := box_new _ _ _
  have k1 : Below w.heap.size w (w.alloc (.cells cs e)) := below1 _ _
  have r1' : SRows (w.alloc (.cells cs e)) v e sz R1 := r1.of_block (fun k hk => k1.block k (r1.lt hk))
  have r4' := r4.trans (k1.mono r4.size)
  obtain ⟨i0, hi0, hz0, hz1, hz2⟩ := info_parts hi
  have hE1 : RowsE E w0 [y] [cs.toList] := by
    refine ⟨rfl, fun i x r hx hr => ?_⟩
    cases i with
    | zero => simp at hx hr; subst hx hr; exact hy
    | succ i => simp at hx
  refine append_any hgd s x T e i0 z sz bytes ho hT hi0 hz0 hz1 hz2 hzs hsz hbl hs hx r1' (R2 := [cs.toList]) rfl (fun r hr => by simp at hr; rw [hr]; simpa using hcs) (fun j u hu => ?_) (fun r hr c hc => ?_) m (by rw [r2.1]; exact hm) (R1 ++ [cs.toList]) rfl hl ?_
  · have hc := b1.cell j u (by simpa using hu)
    rw [add_off, Nat.zero_add]
    exact hc
  · simp only [List.mem_singleton] at hr
    subst hr
    exact hone _ _ hy c hc
  · intro va vc w' q1 q2 q3
    refine h va vc w' ⟨R1 ++ [cs.toList], q1.out, rowsE_append r2 hE1, fun k hk => ?_, r4'.trans (q3.out.below (fun k hk => r3 k hk) r4'.size)⟩ (((Kept.refl _ w).alloc _).trans q3.out (fun _ hk => .inl hk)) (fun k hk => ?_)
    · rcases q2.out k hk with q | q
      · exact r3 k q
      · exact Nat.le_trans r4'.size q
    · rcases q2.out k hk with q | q
      · exact .inl q
      · exact .inr (Nat.le_trans k1.size q)
/-- Append of any slice, nil too. -/
theorem append_none {P : Program} {ops : Array Oper} {rest : List Oper} {o : Oper} {a : Act} {Q : Exit → Act → World → Prop} {w : World} (hgd : o.guard = none) (s x : Operand) (T e : TypeId) (i : TypeInfo) (ho : o.op = .call { callee := .builtin .append, args := #[s, x], argTypes := #[T, T] })
    (hT : P.underlying T = some (.slice e)) (hi : P.info? e = some i) {ad : Option Addr} {n c c2 : Nat} (hc : n ≤ c) (hs : a.eval s = .slice ad n c) (hx : a.eval x = .slice none 0 c2)
    (h : wpList P ops Q rest (a.put o.dst (.slice ad n c)) w) : wpList P ops Q (o :: rest) a w := by
  have hr : (Builtin.append_ #[T, T] o.type #[.slice ad n c, .slice none 0 c2]).run P w = .ok (.slice ad n c) w := by
    cases ad <;> simp [Builtin.append_, run_underlying hT, sizeOf, typeInfo, hi, Builtin.lenOf, Builtin.firstCells, hc, storeCells]
  refine wpList_plain hgd fun K hK => ?_
  unfold Oper.wp execOp
  simp only [ho, resolve, invoke, builtin, Sem.run_bind, Sem.run_pure, Result.andThen_ok, List.map_toArray, List.map_cons, List.map_nil, hs, hx, hr]
  exact hK _ _ h
theorem append_all (hgd : o.guard = none) (s x : Operand) (T e : TypeId) (z : Value) (sz bytes : Nat) (ho : o.op = .call { callee := .builtin .append, args := #[s, x], argTypes := #[T, T] })
    (hT : Try.prog.underlying T = some (.slice e)) (hi : (Try.prog.info? e).map (fun i => (i.zero, i.size, i.bytes)) = some (some z, sz, bytes)) (hzs : z.cells.size = sz) (hsz : 0 < sz) (hbl : bytes ≤ 200)
    {w0 : World} {v : Value} {a2 : Option Addr} {m2 c2 : Nat} {l1 l2 : List α} (hs : a.eval s = v) (hx : a.eval x = .slice a2 m2 c2) (hone : ∀ x cs, E w0 x cs → ∀ u ∈ cs, u.oneCell' = true)
    (hv : OwnS E sz e w0 w v l1) (h2 : SlIs E sz w0 (.slice a2 m2 c2) l2) (m : Nat) (hm : l1.length + m2 = m) (hl : m ≤ 1000000)
    (h : ∀ va vc w', Hid (OwnS E sz e w0 w' (.slice va m vc) (l1 ++ l2)) → wpList Try.prog ops Q rest (a.put o.dst (.slice va m vc)) w') :
    wpList Try.prog ops Q (o :: rest) a w := by
  cases a2 with
  | some ad => exact append_own hgd s x T e z sz bytes ho hT hi hzs hsz hbl hs hx hone hv h2 m hm hl h
  | none =>
    obtain ⟨rfl, rfl⟩ := slIs_none h2
    obtain ⟨i0, hi0, hz0, hz1, hz2⟩ := info_parts hi
    obtain ⟨R, r1, r2, r3, r4⟩ := hv
    have hle : ∃ ad c, v = .slice ad m c ∧ m ≤ c := by
      rcases r1 with ⟨rfl, h0⟩ | ⟨g, cap, rfl, q1, q2, q3⟩
      · subst h0
        exact ⟨none, 0, by have := r2.1; simp at this; rw [← hm, ← this], by have := r2.1; simp at this; rw [← hm, ← this]; simp⟩
      · exact ⟨_, cap, by rw [r2.1, ← hm, Nat.add_zero], by rw [← hm, Nat.add_zero, ← r2.1]; exact q1⟩
    obtain ⟨ad, c, rfl, hc⟩ := hle
    exact append_none hgd s x T e i0 ho hT hi0 hc hs hx (h ad c w ⟨R, r1, by rw [List.append_nil]; exact r2, r3, r4⟩)
end
end Go.Proofs.Ytflabcmjbhmphaa
/-
  Lives, marks and columns: what Merge, Vectors, Lives, Project and Kinds answer. Pure mathematics.
-/
namespace Go.Proofs.Ytflabcmjbhmphaa

/-- Is a life left out? -/
def goesB (low : Int) (x : Lf) : Bool := !(decide (x.g = 0)) && decide (x.g ≤ low)
def mergeA (a b : List Lf) (low : Int) : List Lf := (a ++ b).filter fun x => !goesB low x
/-- The marks of the first k lives. -/
def mksP (l : List Lf) : Nat → List Mk
  | 0 => []
  | k + 1 => match l[k]? with | some x => if x.g = 0 then mksP l k else mksP l k ++ [⟨(k : Int), x.g⟩] | none => mksP l k
theorem mksP_no {l : List Lf} {k : Nat} {x : Lf} (h : l[k]? = some x) (hg : x.g = 0) : mksP l (k + 1) = mksP l k := by
  rw [mksP]; simp only [h]; rw [if_pos hg]
theorem mksP_yes {l : List Lf} {k : Nat} {x : Lf} (h : l[k]? = some x) (hg : x.g ≠ 0) : mksP l (k + 1) = mksP l k ++ [⟨(k : Int), x.g⟩] := by
  rw [mksP]; simp only [h]; rw [if_neg hg]
theorem mksP_len (l : List Lf) : ∀ k, (mksP l k).length ≤ k
  | 0 => by simp [mksP]
  | k + 1 => by
    have := mksP_len l k
    rw [mksP]
    split
    · split
      · omega
      · simp; omega
    · omega
/-- The Gone of the mark at a place. -/
def goneA (ms : List Mk) (i : Int) : Int := match ms.find? (fun m => m.a == i) with | some m => m.g | none => 0
/-- May marks be that stand behind a place? -/
def mayF (at' : Int) : List Mk → Bool
  | [] => true
  | m :: r => (decide (at' < m.a) && decide (m.a < 4096)) && (decide (1 ≤ m.g) && decide (m.g ≤ 1099511627776)) && mayF m.a r
def lastA (ms : List Mk) : Int := match ms.getLast? with | none => -1 | some m => m.a
theorem lastA_nil : lastA [] = -1 := rfl
theorem lastA_snoc (p : List Mk) (m : Mk) : lastA (p ++ [m]) = m.a := by simp [lastA]
def lifeA (rows : List (List Cl)) (bs : List (BitVec 64)) (ms : List Mk) (i : Nat) : Lf := ⟨rows.getD i [], bs.getD i 0#64, goneA ms i⟩
def livesA (rows : List (List Cl)) (bs : List (BitVec 64)) (ms : List Mk) : List Lf := (List.range rows.length).map (lifeA rows bs ms)
theorem livesA_len (rows : List (List Cl)) (bs : List (BitVec 64)) (ms : List Mk) : (livesA rows bs ms).length = rows.length := by simp [livesA]
theorem livesA_at {rows : List (List Cl)} {bs : List (BitVec 64)} {ms : List Mk} {i : Nat} (h : i < rows.length) : (livesA rows bs ms)[i]? = some (lifeA rows bs ms i) := by
  simp [livesA, h]

/-- Are columns up to one? -/
def upB (last : Int) (cols : List (BitVec 64)) : Bool := cols.all fun c => decide (0 ≤ c.toInt) && decide (c.toInt ≤ last)
/-- The last column that each of the first k rows has. -/
def lastP (rows : List (List Cl)) : Nat → Int
  | 0 => 9223372036854775807
  | k + 1 => match rows[k]? with | some r => min (lastP rows k) ((r.length : Int) - 1) | none => lastP rows k
theorem lastP_at {rows : List (List Cl)} {k : Nat} {r : List Cl} (h : rows[k]? = some r) : lastP rows (k + 1) = min (lastP rows k) ((r.length : Int) - 1) := by
  rw [lastP]; simp only [h]
theorem lastP_le (rows : List (List Cl)) (z : Int) : ∀ k, k ≤ rows.length → (z ≤ lastP rows k ↔ z ≤ 9223372036854775807 ∧ ∀ (i : Nat) (r : List Cl), i < k → rows[i]? = some r → z < r.length)
  | 0, _ => by simp [lastP]
  | k + 1, hk => by
    obtain ⟨r, hr⟩ : ∃ r, rows[k]? = some r := ⟨_, List.getElem?_eq_getElem (by omega)⟩
    have ih := lastP_le rows z k (by omega)
    rw [lastP_at hr, Int.le_min, ih]
    constructor
    · rintro ⟨⟨h1, h2⟩, h3⟩
      refine ⟨h1, fun i x hi hx => ?_⟩
      by_cases e : i = k
      · subst e
        rw [hr] at hx; cases hx; omega
      · exact h2 i x (by omega) hx
    · rintro ⟨h1, h2⟩
      exact ⟨⟨h1, fun i x hi hx => h2 i x (by omega) hx⟩, by have := h2 k r (by omega) hr; omega⟩
theorem lastP_bd (rows : List (List Cl)) : ∀ k, -1 ≤ lastP rows k ∧ lastP rows k ≤ 9223372036854775807
  | 0 => by simp [lastP]
  | k + 1 => by
    have := lastP_bd rows k
    rw [lastP]
    split <;> omega
/-- The cells of columns. -/
def rowA (r : List Cl) (cols : List (BitVec 64)) : List Cl := cols.map fun c => r.getD c.toInt.toNat cl0
def projA (rows : List (List Cl)) (cols : List (BitVec 64)) : List (List Cl) := rows.map fun r => rowA r cols
def pokB (rows : List (List Cl)) (cols : List (BitVec 64)) : Bool := upB (lastP rows rows.length) cols
theorem pok_iff {rows : List (List Cl)} {cols : List (BitVec 64)} : pokB rows cols = true ↔ ∀ (j : Nat) (c : BitVec 64), cols[j]? = some c → 0 ≤ c.toInt ∧ ∀ (i : Nat) (r : List Cl), rows[i]? = some r → c.toInt < r.length := by
  unfold pokB upB
  rw [List.all_eq_true]
  constructor
  · intro h j c hc
    have := h c (List.mem_of_getElem? hc)
    simp only [Bool.and_eq_true, decide_eq_true_iff] at this
    exact ⟨this.1, fun i r hr => ((lastP_le rows _ _ (Nat.le_refl _)).1 this.2).2 i r (List.getElem?_eq_some_iff.1 hr).1 hr⟩
  · intro h c hc
    obtain ⟨j, hj⟩ := List.getElem?_of_mem hc
    have := h j c hj
    simp only [Bool.and_eq_true, decide_eq_true_iff]
    have hlt := BitVec.toInt_lt (x := c)
    exact ⟨this.1, (lastP_le rows _ _ (Nat.le_refl _)).2 ⟨by omega, fun i r _ hr => this.2 i r hr⟩⟩
/-- The kinds of columns. -/
def kindsA (t : List Col) (cols : List (BitVec 64)) : List (BitVec 64) := cols.map fun c => (t.map (·.kind)).getD c.toInt.toNat 0#64
theorem upB_take {last : Int} {cols : List (BitVec 64)} (h : upB last cols = true) {j : Nat} {c : BitVec 64} (hc : cols[j]? = some c) : 0 ≤ c.toInt ∧ c.toInt ≤ last := by
  unfold upB at h
  rw [List.all_eq_true] at h
  have := h c (List.mem_of_getElem? hc)
  simpa [Bool.and_eq_true, decide_eq_true_iff] using this
theorem upB_no {last : Int} {cols : List (BitVec 64)} {j : Nat} {c : BitVec 64} (hc : cols[j]? = some c) (h : ¬ (0 ≤ c.toInt ∧ c.toInt ≤ last)) : upB last cols = false := by
  cases e : upB last cols with
  | false => rfl
  | true => exact absurd (upB_take e hc) h
theorem upB_yes {last : Int} {cols : List (BitVec 64)} (h : ∀ (j : Nat) (c : BitVec 64), cols[j]? = some c → 0 ≤ c.toInt ∧ c.toInt ≤ last) : upB last cols = true := by
  unfold upB
  rw [List.all_eq_true]
  intro c hc
  obtain ⟨j, hj⟩ := List.getElem?_of_mem hc
  simpa [Bool.and_eq_true, decide_eq_true_iff] using h j c hj
end Go.Proofs.Ytflabcmjbhmphaa
