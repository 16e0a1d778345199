/-
  5 texts, one behind the other: DMem, SApp, Box, Last, BRow.
-/
import Derived.WalkKit
import Derived.WalkSpells
import Derived.WalkLawsBesides
import Derived.Deep.MidRow
import Derived.Deep.DeepAppendWide
import Derived.Deep.RegionHeld3
import Derived.Below
import Derived.OwnWalk
import Derived.Laws.OwnMore
import Derived.Deep.WholeRow
import Derived.Deep.Quiet
import Derived.Deep.QuietTactic
import Derived.BigQuiet
import Derived.Test.YtdjobjbkpagnaaaGreatJoin1
import Derived.Test.YtdjobjbkpagnaaaGreatRows
import Derived.Laws.BytesString
import Derived.Laws.Cells
import Derived.Laws.IdiomStrings
/-
  Blocks of memory that a call may turn, and all others as they were; rows of many cells each in one block: load, store, copy of a text into one. No program is spoken of.
-/
namespace Go.Proofs.YtdjobjbkpagnaaaGreat
open Go.RowKit

/-- Of the old blocks those outside F are as they were. -/
structure Kept (F : Nat → Prop) (w w' : World) : Prop where
  os : w'.os = w.os
  tape : w'.tape = w.tape
  output : w'.output = w.output
  size : w.heap.size ≤ w'.heap.size
  block : ∀ k, k < w.heap.size → ¬ F k → w'.heap[k]? = w.heap[k]?
section
variable {F G : Nat → Prop} {a b c w w' : World}
theorem Kept.refl (F : Nat → Prop) (w : World) : Kept F w w := ⟨rfl, rfl, rfl, Nat.le_refl _, fun _ _ _ => rfl⟩
theorem Kept.trans (h : Kept F a b) (k : Kept G b c) (i : ∀ k, G k → F k ∨ a.heap.size ≤ k) : Kept F a c :=
  ⟨k.os.trans h.os, k.tape.trans h.tape, k.output.trans h.output, Nat.le_trans h.size k.size, fun x hx hF => by
    rw [k.block x (Nat.lt_of_lt_of_le hx h.size) (fun hG => by rcases i x hG with h1 | h1; exact hF h1; omega), h.block x hx hF]⟩
theorem Kept.mono (h : Kept F w w') (i : ∀ k, F k → G k) : Kept G w w' := ⟨h.os, h.tape, h.output, h.size, fun x hx hG => h.block x hx (fun hF => hG (i x hF))⟩
theorem Kept.drew (h : Kept F a w) : Kept F a w.drew := ⟨h.os, h.tape, h.output, h.size, h.block⟩
theorem Kept.drewN (h : Kept F a w) (n : Nat) : Kept F a (w.drewN n) := ⟨h.os, h.tape, h.output, h.size, h.block⟩
theorem Kept.alloc (h : Kept F a w) (o : Obj) : Kept F a (w.alloc o) :=
  ⟨h.os, h.tape, h.output, by have := h.size; simp; omega, fun x hx hF => by rw [Below.heap_alloc w o x (Nat.lt_of_lt_of_le hx h.size), h.block x hx hF]⟩
theorem Kept.setCell (h : Kept F a w) {p : Addr} (hp : F p.block ∨ a.heap.size ≤ p.block) (u : Value) : Kept F a (w.setCell p u) :=
  ⟨h.os, h.tape, h.output, by have := h.size; simp; omega, fun x hx hF => by
    rw [Below.heap_setCell w p u x (fun e => by subst e; rcases hp with h1 | h1; exact hF h1; omega), h.block x hx hF]⟩
theorem Kept.setCells {p : Nat} (hp : F p ∨ a.heap.size ≤ p) : ∀ (vs : List Value) (o : Nat) (w : World), Kept F a w → Kept F a (w.setCells p o vs)
  | [], _, _, h => h
  | v :: r, o, w, h => by
    rw [World.setCells]
    exact Kept.setCells hp r (o + 1) _ (h.setCell (p := ⟨p, o, none⟩) hp v)
theorem Kept.grown (h : Kept F a w) {row : Option Nat} (hg : w.grownBy w' row) (hr : ∀ k, row = some k → F k ∨ a.heap.size ≤ k) : Kept F a w' :=
  ⟨hg.os.trans h.os, hg.tape.trans h.tape, hg.output.trans h.output, Nat.le_trans h.size hg.size, fun x hx hF => by
    rw [hg.block x (Nat.lt_of_lt_of_le hx h.size) (fun e => by rcases hr x e.symm with h1 | h1; exact hF h1; omega), h.block x hx hF]⟩
theorem Kept.below {B : Nat} (h : Kept F w w') (hF : ∀ k, F k → B ≤ k) (hB : B ≤ w.heap.size) : Below B w w' :=
  ⟨h.os, h.tape, h.output, h.size, fun k hk => h.block k (by omega) (fun hf => by have := hF k hf; omega)⟩
theorem kept_of_below (F : Nat → Prop) (h : Below w.heap.size w w') : Kept F w w' := ⟨h.os, h.tape, h.output, h.size, fun k hk _ => h.block k hk⟩
end

theorem heap_setCells_far (b : Nat) : ∀ (vs : List Value) (o : Nat) (w : World) (k : Nat), k ≠ b → (w.setCells b o vs).heap[k]? = w.heap[k]?
  | [], _, _, _, _ => rfl
  | v :: r, o, w, k, h => by
    rw [World.setCells, heap_setCells_far b r (o + 1) _ k h, Below.heap_setCell w ⟨b, o, none⟩ v k h]
theorem heap_setCells (b : Nat) (t : TypeId) : ∀ (vs : List Value) (o : Nat) (w : World) (cur : Array Value), w.heap[b]? = some (.cells cur t (0, 0)) → o + vs.length ≤ cur.size →
    ∃ cur', (w.setCells b o vs).heap[b]? = some (.cells cur' t (0, 0)) ∧ cur'.size = cur.size ∧ (∀ k, k < o ∨ o + vs.length ≤ k → cur'[k]? = cur[k]?) ∧ ∀ j v, vs[j]? = some v → cur'[o + j]? = some v
  | [], _, _, cur, h, _ => ⟨cur, h, rfl, fun _ _ => rfl, fun _ _ hv => by simp at hv⟩
  | v :: r, o, w, cur, h, hl => by
    simp only [List.length_cons] at hl
    obtain ⟨cur', h1, h2, h3, h4⟩ := heap_setCells b t r (o + 1) (w.setCell ⟨b, o, none⟩ v) (cur.setIfInBounds o v) (heap_setCell_same w b o cur t v h) (by simp; omega)
    refine ⟨cur', h1, by simpa using h2, ?_, ?_⟩
    · intro k hk
      simp only [List.length_cons] at hk
      rw [h3 k (by omega), Array.getElem?_setIfInBounds, if_neg (by omega)]
    · intro j u hu
      cases j with
      | zero =>
        simp at hu
        subst hu
        rw [h3 (o + 0) (by omega), Array.getElem?_setIfInBounds]
        simp
        omega
      | succ j =>
        have := h4 j u (by simpa using hu)
        rwa [show o + (j + 1) = o + 1 + j by omega]

/-- The block b has tot cells of type t, which may be written: from its head on the rows R of sz cells each. -/
def Rows (w : World) (b : Nat) (t : TypeId) (tot sz : Nat) (R : List (List Value)) : Prop :=
  ∃ cur : Array Value, w.heap[b]? = some (.cells cur t (0, 0)) ∧ cur.size = tot ∧ R.length * sz ≤ tot ∧ (∀ r ∈ R, r.length = sz) ∧ ∀ i r, R[i]? = some r → ∀ j v, r[j]? = some v → cur[i * sz + j]? = some v
section
variable {w w' : World} {b : Nat} {t : TypeId} {tot sz : Nat} {R : List (List Value)}
theorem Rows.lt (h : Rows w b t tot sz R) : b < w.heap.size := by
  obtain ⟨cur, h1, _⟩ := h
  exact (Array.getElem?_eq_some_iff.1 h1).1
theorem Rows.of_block (h : Rows w b t tot sz R) (e : w'.heap[b]? = w.heap[b]?) : Rows w' b t tot sz R := by
  obtain ⟨cur, h1, h2⟩ := h
  exact ⟨cur, by rw [e]; exact h1, h2⟩
theorem Rows.kept {F : Nat → Prop} (h : Rows w b t tot sz R) (k : Kept F w w') (hb : ¬ F b) : Rows w' b t tot sz R := h.of_block (k.block b h.lt hb)
theorem Rows.drew (h : Rows w b t tot sz R) : Rows w.drew b t tot sz R := h
theorem Rows.range (h : Rows w b t tot sz R) {i : Nat} {r : List Value} (hr : R[i]? = some r) : w.rangeAt b (i * sz) r := by
  obtain ⟨cur, h1, _, _, _, h5⟩ := h
  intro j v hv
  rw [cell_of_row w b _ cur t _ h1]
  exact h5 i r hr j v hv
theorem Rows.fit (h : Rows w b t tot sz R) {i : Nat} (hi : i < R.length) : i * sz + sz ≤ tot := by
  obtain ⟨_, _, _, h3, _⟩ := h
  have : (i + 1) * sz ≤ R.length * sz := Nat.mul_le_mul_right _ hi
  rw [Nat.add_mul] at this
  omega
theorem Rows.there_at (h : Rows w b t tot sz R) {o n : Nat} (ho : o + n ≤ tot) : w.there b o n := by
  obtain ⟨cur, h1, h2, _⟩ := h
  intro j hj
  refine ⟨?_, frozen_of_row w b _ cur t h1⟩
  rw [cell_of_row w b _ cur t _ h1, Array.getElem?_eq_getElem (by omega)]
  rfl
theorem Rows.there (h : Rows w b t tot sz R) {i : Nat} (hi : i < R.length) : w.there b (i * sz) sz := h.there_at (h.fit hi)
theorem Rows.set (h : Rows w b t tot sz R) {i : Nat} (hi : i < R.length) {r : List Value} (hl : r.length = sz) : Rows (w.setCells b (i * sz) r) b t tot sz (R.set i r) := by
  have hf := h.fit hi
  obtain ⟨cur, h1, h2, h3, h4, h5⟩ := h
  obtain ⟨cur', g1, g2, g3, g4⟩ := heap_setCells b t r (i * sz) w cur h1 (by omega)
  refine ⟨cur', g1, by omega, by simpa using h3, ?_, ?_⟩
  · intro x hx
    rcases List.mem_or_eq_of_mem_set hx with hx | rfl
    · exact h4 x hx
    · exact hl
  · intro k x hx j v hv
    rw [List.getElem?_set] at hx
    by_cases e : i = k
    · subst e
      simp [hi] at hx
      subst hx
      exact g4 j v hv
    · rw [if_neg e] at hx
      have hj : j < sz := by
        have := h4 x (List.mem_of_getElem? hx)
        have := (List.getElem?_eq_some_iff.1 hv).1
        omega
      rw [g3 (k * sz + j) ?_]
      · exact h5 k x hx j v hv
      · rw [hl]
        rcases Nat.lt_or_ge k i with h' | h'
        · left
          have : (k + 1) * sz ≤ i * sz := Nat.mul_le_mul_right _ h'
          rw [Nat.add_mul] at this
          omega
        · right
          have : (i + 1) * sz ≤ k * sz := Nat.mul_le_mul_right _ (by omega)
          rw [Nat.add_mul] at this
          omega
theorem Rows.take (h : Rows w b t tot sz R) (k : Nat) : Rows w b t tot sz (R.take k) := by
  obtain ⟨cur, h1, h2, h3, h4, h5⟩ := h
  refine ⟨cur, h1, h2, ?_, fun r hr => h4 r (List.mem_of_mem_take hr), ?_⟩
  · refine Nat.le_trans (Nat.mul_le_mul_right _ ?_) h3
    rw [List.length_take]
    omega
  · intro i r hr
    rw [List.getElem?_take] at hr
    split at hr
    · exact h5 i r hr
    · cases hr
/-- What is written behind the rows turns none of them. -/
theorem Rows.behind (h : Rows w b t tot sz R) {o : Nat} (vs : List Value) (ho : R.length * sz ≤ o) (hf : o + vs.length ≤ tot) : Rows (w.setCells b o vs) b t tot sz R := by
  obtain ⟨cur, h1, h2, h3, h4, h5⟩ := h
  obtain ⟨cur', g1, g2, g3, g4⟩ := heap_setCells b t vs o w cur h1 (by omega)
  refine ⟨cur', g1, by omega, h3, h4, ?_⟩
  intro i r hr j v hv
  have hi : i < R.length := (List.getElem?_eq_some_iff.1 hr).1
  have hj : j < sz := by
    have := h4 r (List.mem_of_getElem? hr)
    have := (List.getElem?_eq_some_iff.1 hv).1
    omega
  have : (i + 1) * sz ≤ R.length * sz := Nat.mul_le_mul_right _ hi
  rw [Nat.add_mul] at this
  rw [g3 _ (by omega)]
  exact h5 i r hr j v hv
theorem Rows.far (h : Rows w b t tot sz R) {p o : Nat} (vs : List Value) (hp : b ≠ p) : Rows (w.setCells p o vs) b t tot sz R := h.of_block (heap_setCells_far p vs o w b hp)
end

theorem flatten_at {sz : Nat} (hsz : 0 < sz) : ∀ (R : List (List Value)), (∀ r ∈ R, r.length = sz) → ∀ k, R.flatten[k]? = (R[k / sz]?).bind (·[k % sz]?)
  | [], _, k => by simp
  | r :: R, h, k => by
    have hr := h r (by simp)
    rw [List.flatten_cons, List.getElem?_append]
    by_cases hk : k < sz
    · rw [if_pos (by omega), Nat.div_eq_of_lt hk, Nat.mod_eq_of_lt hk]
      simp
    · rw [if_neg (by omega), hr, flatten_at hsz R (fun x hx => h x (by simp [hx])) (k - sz)]
      have e1 : k / sz = (k - sz) / sz + 1 := by rw [Nat.div_eq_sub_div hsz (by omega)]
      have e2 : k % sz = (k - sz) % sz := by rw [Nat.mod_eq_sub_mod (by omega)]
      rw [e1, e2]
      simp
theorem length_flat {sz : Nat} : ∀ (R : List (List Value)), (∀ r ∈ R, r.length = sz) → R.flatten.length = R.length * sz
  | [], _ => by simp
  | r :: R, h => by
    rw [List.flatten_cons, List.length_append, length_flat R (fun x hx => h x (by simp [hx])), h r (by simp), List.length_cons, Nat.add_mul]
    omega

/-- A slice of rows that the call's own writes lie in: none, or the head of a block. -/
def SRows (w : World) (v : Value) (t : TypeId) (sz : Nat) (R : List (List Value)) : Prop :=
  (v = .slice none 0 0 ∧ R = []) ∨ ∃ g cap, v = .slice (some ⟨g, 0, none⟩) R.length cap ∧ R.length ≤ cap ∧ cap ≤ maxLen ∧ Rows w g t (cap * sz) sz R
section
variable {w w' : World} {v : Value} {t : TypeId} {sz : Nat} {R : List (List Value)}
theorem srows_nil (w : World) (t : TypeId) (sz : Nat) : SRows w (.slice none 0 0) t sz [] := .inl ⟨rfl, rfl⟩
theorem SRows.of_block (h : SRows w v t sz R) (e : ∀ k, v.ownBlock = some k → w'.heap[k]? = w.heap[k]?) : SRows w' v t sz R := by
  rcases h with h | ⟨g, cap, rfl, h1, h2, h3⟩
  · exact .inl h
  · exact .inr ⟨g, cap, rfl, h1, h2, h3.of_block (e g rfl)⟩
theorem SRows.lt (h : SRows w v t sz R) {k : Nat} (hk : v.ownBlock = some k) : k < w.heap.size := by
  rcases h with ⟨rfl, _⟩ | ⟨g, cap, rfl, h1, h2, h3⟩
  · simp [Value.ownBlock] at hk
  · simp [Value.ownBlock] at hk
    subst hk
    exact h3.lt
theorem SRows.kept {F : Nat → Prop} (h : SRows w v t sz R) (k : Kept F w w') (hb : ∀ g, v.ownBlock = some g → ¬ F g) : SRows w' v t sz R :=
  h.of_block fun g hg => k.block g (h.lt hg) (hb g hg)
theorem SRows.rowlen (h : SRows w v t sz R) : ∀ r ∈ R, r.length = sz := by
  rcases h with ⟨_, rfl⟩ | ⟨g, cap, _, _, _, cur, _, _, _, h4, _⟩
  · simp
  · exact h4
theorem SRows.own (h : SRows w v t sz R) (hsz : 0 < sz) : w.ownsRow 0 t sz v R.length R.flatten := by
  refine ⟨length_flat R h.rowlen, ?_⟩
  rcases h with ⟨rfl, rfl⟩ | ⟨g, cap, rfl, h1, h2, cur, c1, c2, c3, c4, c5⟩
  · exact .inl ⟨rfl, rfl⟩
  · refine .inr ⟨g, cap, cur, rfl, Nat.zero_le _, c1, h1, h2, c2, ?_⟩
    apply List.ext_getElem?
    intro k
    rw [List.getElem?_take, flatten_at hsz R c4 k]
    split
    · rename_i hk
      have hd : k / sz < R.length := (Nat.div_lt_iff_lt_mul hsz).2 hk
      have hm : k % sz < sz := Nat.mod_lt _ hsz
      have hr := List.getElem?_eq_getElem hd
      rw [hr]
      have hl : (R[k / sz]).length = sz := c4 _ (List.getElem_mem hd)
      have := c5 (k / sz) _ hr (k % sz) (R[k / sz])[k % sz] (by rw [List.getElem?_eq_getElem])
      rw [Nat.div_add_mod' k sz] at this
      simp only [Option.bind_some]
      rw [Array.getElem?_toList, this]
      exact (List.getElem?_eq_getElem (by omega)).symm
    · rename_i hk
      have hd : ¬ k / sz < R.length := fun h => hk ((Nat.div_lt_iff_lt_mul hsz).1 h)
      rw [List.getElem?_eq_none (by omega)]
      rfl
theorem srows_of_own {B n : Nat} {xs : List Value} (h : w.ownsRow B t sz v n xs) (hx : xs = R.flatten) (hR : ∀ r ∈ R, r.length = sz) (hsz : 0 < sz) (hn : R.length = n) : SRows w v t sz R := by
  subst hx hn
  rcases h.2 with ⟨rfl, h0⟩ | ⟨g, cap, cur, rfl, _, c1, h1, h2, c2, c3⟩
  · exact .inl ⟨rfl, List.eq_nil_of_length_eq_zero h0⟩
  · refine .inr ⟨g, cap, rfl, h1, h2, cur, c1, c2, Nat.mul_le_mul_right _ h1, hR, ?_⟩
    intro i r hr j u hu
    have hi : i < R.length := (List.getElem?_eq_some_iff.1 hr).1
    have hj : j < sz := by
      have := hR r (List.mem_of_getElem? hr)
      have := (List.getElem?_eq_some_iff.1 hu).1
      omega
    have hk : i * sz + j < R.length * sz := by
      have : (i + 1) * sz ≤ R.length * sz := Nat.mul_le_mul_right _ hi
      rw [Nat.add_mul] at this
      omega
    have e := congrArg (·[i * sz + j]?) c3
    simp only [List.getElem?_take] at e
    rw [if_pos hk, Array.getElem?_toList, flatten_at hsz R hR] at e
    have d1 : (i * sz + j) / sz = i := by rw [Nat.mul_comm, Nat.mul_add_div hsz, Nat.div_eq_of_lt hj]; rfl
    have d2 : (i * sz + j) % sz = j := by rw [Nat.mul_comm, Nat.mul_add_mod, Nat.mod_eq_of_lt hj]
    rw [d1, d2, hr] at e
    rw [e]
    exact hu
end

/-- The bytes of a text as cells. -/
def cellsS (s : ByteArray) : List Value := s.data.toList.map fun b => .int .u8 b.toNat
theorem cellsS_len (s : ByteArray) : (cellsS s).length = s.size := by simp [cellsS]
theorem run_copy_str {P : Program} (w : World) (dT sT ty elem : TypeId) (b o n cap : Nat) (s : ByteArray) (hs : s.size = n)
    (hu : P.underlying dT = some (.slice elem)) (hsz : (P.info? elem).map (·.size) = some 1) (ht : w.there b o n) :
    (Builtin.copy_ #[dT, sT] ty #[.slice (some ⟨b, o, none⟩) n cap, .string s]).run P w = .ok (goInt n) (w.setCells b o (cellsS s)) := by
  have hl := cellsS_len s
  have hst := run_storeCells_cells (P := P) b o (cellsS s) 0 w (fun j hj => by simpa using (ht j (by omega)).1) (fun j hj => by simpa using (ht j (by omega)).2) (fun v hv => by
    simp only [cellsS, List.mem_map] at hv
    obtain ⟨x, _, rfl⟩ := hv
    rfl)
  simp only [Nat.add_zero] at hst
  cases hq : P.info? elem with
  | none => simp [hq] at hsz
  | some i =>
    subst hs
    simp [Builtin.copy_, run_underlying hu, Builtin.lenOf, Builtin.firstCells, sizeOf, typeInfo, hq]
    rw [show (List.map (fun b : UInt8 => Value.int IntKind.u8 (b.toNat : Int)) s.data.toList) = cellsS s from rfl, List.take_of_length_le (by omega), hst]
    rfl
theorem wpList_copy_str {P : Program} {ops : Array Oper} {rest : List Oper} {op : Oper} {a : Act} {w : World} {Q : Exit → Act → World → Prop} (hgd : op.guard = none) (d x : Operand) (dT sT elem : TypeId)
    (ho : op.op = .call { callee := .builtin .copy, args := #[d, x], argTypes := #[dT, sT] }) (b o n cap : Nat) (s : ByteArray) (hd : a.eval d = .slice (some ⟨b, o, none⟩) n cap) (hx : a.eval x = .string s) (hs : s.size = n)
    (hu : P.underlying dT = some (.slice elem)) (hsz : (P.info? elem).map (·.size) = some 1) (ht : w.there b o n)
    (h : wpList P ops Q rest (a.put op.dst (goInt n)) (w.setCells b o (cellsS s))) : wpList P ops Q (op :: rest) a w := by
  refine wpList_plain hgd fun K hK => ?_
  have hr := run_copy_str (P := P) w dT sT op.type elem b o n cap s hs hu hsz ht
  unfold Oper.wp execOp
  simp only [ho, resolve, invoke, builtin, Sem.run_bind, Sem.run_pure, Result.andThen_ok, List.map_toArray, List.map_cons, List.map_nil, hd, hx, hr]
  exact hK _ _ h
theorem step_copy_str {P : Program} {ops : Array Oper} {op : Oper} {a : Act} {w : World} {K : Act → World → Prop} {Q : Exit → Act → World → Prop} {E : Prop} (hgd : op.guard = none) (d x : Operand) (dT sT elem : TypeId)
    (ho : op.op = .call { callee := .builtin .copy, args := #[d, x], argTypes := #[dT, sT] }) (b o n cap : Nat) (s : ByteArray) (hd : a.eval d = .slice (some ⟨b, o, none⟩) n cap) (hx : a.eval x = .string s) (hs : s.size = n)
    (hu : P.underlying dT = some (.slice elem)) (hsz : (P.info? elem).map (·.size) = some 1) (ht : w.there b o n)
    (h : K (a.put op.dst (goInt n)) (w.setCells b o (cellsS s))) : if Region.wanted op (yielded ops a.tmps) = true then Oper.wp P op a w K Q else E := by
  have hw : Region.wanted op (yielded ops a.tmps) = true := by simp [Region.wanted, hgd]
  rw [if_pos hw]
  have hr := run_copy_str (P := P) w dT sT op.type elem b o n cap s hs hu hsz ht
  unfold Oper.wp execOp
  simp only [ho, resolve, invoke, builtin, Sem.run_bind, Sem.run_pure, Result.andThen_ok, List.map_toArray, List.map_cons, List.map_nil, hd, hx, hr]
  exact h
end Go.Proofs.YtdjobjbkpagnaaaGreat
/-
  Slices of rows (elements of any number of cells): append of one to another, a store into one, what they read as. No program is spoken of.
-/
namespace Go.Proofs.YtdjobjbkpagnaaaGreat
open Go.RowKit

theorem srows_own_base {w : World} {v : Value} {t : TypeId} {sz : Nat} {R : List (List Value)} (h : SRows w v t sz R) (hsz : 0 < sz) {B : Nat} (hB : ∀ k, v.ownBlock = some k → B ≤ k) : w.ownsRow B t sz v R.length R.flatten := by
  obtain ⟨h1, h2⟩ := h.own hsz
  refine ⟨h1, ?_⟩
  rcases h2 with h2 | ⟨g, cap, cur, rfl, _, h3⟩
  · exact .inl h2
  · exact .inr ⟨g, cap, cur, rfl, hB g rfl, h3⟩
theorem own_shape {w : World} {B : Nat} {e : TypeId} {size : Nat} {v : Value} {n : Nat} {xs : List Value} (h : w.ownsRow B e size v n xs) : (∃ va vc, v = .slice va n vc) ∧ ∀ k, v.ownBlock = some k → B ≤ k := by
  refine ⟨?_, fun k hk => (h.lt k hk).1⟩
  rcases h.2 with ⟨rfl, rfl⟩ | ⟨g, cap, cur, rfl, _⟩
  · exact ⟨_, _, rfl⟩
  · exact ⟨_, _, rfl⟩
theorem srows_new (w : World) (r : List Value) (t : TypeId) {sz : Nat} (hr : r.length = sz) : SRows (w.alloc (.cells r.toArray t)) (.slice (some ⟨w.heap.size, 0, none⟩) 1 1) t sz [r] := by
  refine .inr ⟨w.heap.size, 1, rfl, Nat.le_refl _, by unfold maxLen; omega, r.toArray, heap_alloc_last w _, by simp [hr], by simp, by simp [hr], ?_⟩
  intro i x hx j v hv
  cases i with
  | zero => simp at hx; subst hx; simpa using hv
  | succ i => simp at hx

theorem noOwn (B : Nat) : ∀ k, (Value.slice none 0 0).ownBlock = some k → B ≤ k := by intro k hk; simp [Value.ownBlock] at hk

section
variable {P : Program} {ops : Array Oper} {rest : List Oper} {o : Oper} {a : Act} {w : World} {Q : Exit → Act → World → Prop}
/-- 'append(v, u...)', v the call's own. -/
theorem append_rows (hgd : o.guard = none) (s x : Operand) (T e : TypeId) (i : TypeInfo) (z : Value) (sz bytes : Nat) (ho : o.op = .call { callee := .builtin .append, args := #[s, x], argTypes := #[T, T] })
    (hT : P.underlying T = some (.slice e)) (hi : P.info? e = some i) (hz : i.zero = some z) (hsize : i.size = sz) (hby : i.bytes = bytes) (hzs : z.cells.size = sz) (hsz : 0 < sz) (hbl : bytes ≤ 200)
    {B : Nat} {v u : Value} {R1 R2 : List (List Value)} (hs : a.eval s = v) (hx : a.eval x = u) (hv : SRows w v e sz R1) (hu : SRows w u e sz R2) (hvB : ∀ k, v.ownBlock = some k → B ≤ k) (hB : B ≤ w.heap.size)
    (h1 : ∀ r ∈ R2, ∀ c ∈ r, c.oneCell' = true) (m : Nat) (hm : R1.length + R2.length = m) (R : List (List Value)) (hR : R1 ++ R2 = R) (hl : m ≤ 1000000)
    (h : ∀ va vc w', SRows w' (.slice va m vc) e sz R → (∀ k, (Value.slice va m vc).ownBlock = some k → B ≤ k) → Below B w w' → wpList P ops Q rest (a.put o.dst (.slice va m vc)) w') :
    wpList P ops Q (o :: rest) a w := by
  subst hm hR
  have hown := srows_own_base hv hsz hvB
  have hlens : ∀ r ∈ R1 ++ R2, r.length = sz := fun r hr => by
    rcases List.mem_append.1 hr with hr | hr
    · exact hv.rowlen r hr
    · exact hu.rowlen r hr
  rcases hu with ⟨rfl, rfl⟩ | ⟨g, cap, rfl, hc1, hc2, hrows⟩
  · have hrun := run_append_owned_none (P := P) w B T (o.type) e i sz hT hi v R1.length _ hown
    obtain ⟨⟨va, vc, rfl⟩, hvb⟩ := own_shape hown
    simp only [List.append_nil, List.length_nil, Nat.add_zero] at h
    refine wpList_plain hgd fun K hK => ?_
    unfold Oper.wp execOp
    simp only [ho, resolve, invoke, builtin, Sem.run_bind, Sem.run_pure, Result.andThen_ok, List.map_toArray, List.map_cons, List.map_nil, hs, hx, hrun]
    exact hK _ _ (h va vc w hv hvB (Below.refl _ _))
  · have hus : SRows w (.slice (some ⟨g, 0, none⟩) R2.length cap) e sz R2 := .inr ⟨g, cap, rfl, hc1, hc2, hrows⟩
    have hnews : ∀ j u, R2.flatten[j]? = some u → w.cell? ((⟨g, 0, none⟩ : Addr).add j) = some u := (hus.own hsz).cells rfl
    refine wpList_append_own w hgd s x T ho B e i z sz bytes hT hi hz hsize hby hzs hsz v R1.length R1.flatten hs hown ⟨g, 0, none⟩ R2.length cap R2.flatten hx (length_flat R2 hus.rowlen) hnews ?_ ?_ ?_ hB ?_
    · intro u hu
      obtain ⟨r, hr, hur⟩ := List.mem_flatten.1 hu
      exact h1 r hr u hur
    · unfold maxLen; omega
    · have : (R1.length + R2.length) * bytes ≤ 1000000 * 200 := Nat.mul_le_mul hl hbl
      omega
    · intro v' w' hown' hgrow _
      obtain ⟨⟨va, vc, rfl⟩, hvb⟩ := own_shape hown'
      refine h va vc w' (srows_of_own hown' (by rw [List.flatten_append]) hlens hsz (by simp)) hvb ?_
      exact (Below.refl B w).grown hgrow hB fun k hk => hvB k hk
end
end Go.Proofs.YtdjobjbkpagnaaaGreat
/-
  A struct in a block of its own: what it reads as, behind calls and stores; a call's results of which one lies in memory. No program is spoken of.
-/
namespace Go.Proofs.YtdjobjbkpagnaaaGreat
open Go.RowKit

/-- The block b is the struct (or array) c. -/
def Box (w : World) (b : Nat) (t : TypeId) (c : Array Value) : Prop := w.heap[b]? = some (.cells c t (0, 0))
section
variable {w w' : World} {b : Nat} {t : TypeId} {c : Array Value}
theorem Box.lt (h : Box w b t c) : b < w.heap.size := (Array.getElem?_eq_some_iff.1 h).1
theorem Box.of_block (h : Box w b t c) (e : w'.heap[b]? = w.heap[b]?) : Box w' b t c := e.trans h
theorem Box.below {B : Nat} (h : Box w b t c) (k : Below B w w') (hb : b < B) : Box w' b t c := h.of_block (k.block b hb)
theorem Box.over (h : Box w b t c) (k : Below w.heap.size w w') : Box w' b t c := h.below k h.lt
theorem Box.kept {F : Nat → Prop} (h : Box w b t c) (k : Kept F w w') (hF : ¬ F b) : Box w' b t c := h.of_block (k.block b h.lt hF)
theorem Box.alloc (h : Box w b t c) (o : Obj) : Box (w.alloc o) b t c := h.of_block (Below.heap_alloc w o b h.lt)
theorem Box.drew (h : Box w b t c) : Box w.drew b t c := h
theorem Box.drewN (h : Box w b t c) (n : Nat) : Box (w.drewN n) b t c := h
theorem box_new (w : World) (c : Array Value) (t : TypeId) : Box (w.alloc (.cells c t)) w.heap.size t c := heap_alloc_last w _
theorem box_old (w : World) (c : Array Value) (t : TypeId) (o : Obj) : Box ((w.alloc (.cells c t)).alloc o) w.heap.size t c := (box_new w c t).alloc o
theorem Box.set (h : Box w b t c) (k : Nat) (v : Value) : Box (w.setCell ⟨b, k, none⟩ v) b t (c.setIfInBounds k v) := heap_setCell_same w b k c t v h
theorem Box.other (h : Box w b t c) {a : Addr} (hn : b ≠ a.block) (v : Value) : Box (w.setCell a v) b t c := h.of_block (heap_setCell_other w a b v hn)
theorem Box.setRow (h : Box w b t c) (c' : Array Value) : Box (w.setRow b c') b t c' := setRow_heap w b c c' t (0, 0) h
theorem Box.rowOther (h : Box w b t c) {p : Nat} (hn : b ≠ p) (c' : Array Value) : Box (w.setRow p c') b t c := h.of_block (setRow_other w p b c' hn)
theorem Box.cell (h : Box w b t c) (k : Nat) (v : Value) (hv : c[k]? = some v) : w.cell? ⟨b, k, none⟩ = some v := (cell_of_row w b k c t (0, 0) h).trans hv
theorem Box.frozen (h : Box w b t c) (k : Nat) : w.frozen? ⟨b, k, none⟩ = false := frozen_of_row w b k c t h
end
theorem below_setRow {B : Nat} {a w : World} {b : Nat} (h : Below B a w) (hb : B ≤ b) (cs : Array Value) : Below B a (w.setRow b cs) :=
  h.trans ⟨rfl, rfl, rfl, by simp, fun k hk => setRow_other w b k cs (by omega)⟩
theorem below2 (w : World) (A B : Obj) : Below w.heap.size w ((w.alloc A).alloc B) := ((Below.refl _ w).alloc (Nat.le_refl _) _).alloc (by simp) _
theorem below1 (w : World) (A : Obj) : Below w.heap.size w (w.alloc A) := (Below.refl _ w).alloc (Nat.le_refl _) _

theorem two_box {w w1 : World} {c0 c1 : Array Value} {t0 t1 : TypeId} (hb : Below ((w.alloc (.cells c0 t0)).alloc (.cells c1 t1)).heap.size ((w.alloc (.cells c0 t0)).alloc (.cells c1 t1)) w1) :
    Box w1 w.heap.size t0 c0 ∧ Box w1 (w.heap.size + 1) t1 c1 ∧ Below w.heap.size w w1 := by
  have b1 := box_new (w.alloc (.cells c0 t0)) c1 t1
  rw [World.size_alloc] at b1
  exact ⟨(box_old _ _ _ _).over hb, b1.over hb, (below2 _ _ _).trans (hb.mono (by simp; omega))⟩

section
variable {P : Program} {fn : Func} {p q : Tmp} {ty : TypeId} {w : World} {g : Nat} {t : TypeId} {cs : Array Value} {tmps : Array Value}
theorem res_box (h : fn.results = #[.cell p ty]) (d : TypeDesc) (hp : tmps.getD p undef = .pointer (some ⟨g, 0, none⟩)) (hg : Box w g t cs)
    (hu : P.underlying ty = some d) (hd : (match d with | .struct _ | .array _ _ => true | _ => false) = true) (hi : (P.info? ty).map (·.size) = some cs.size) :
    (results fn tmps).run P w = .ok (.agg cs) w := results_cell_row h tmps w g t cs (0, 0) d hp hg hu hd hi
theorem res_box_slot (h : fn.results = #[.cell p ty, .tmp q]) (d : TypeDesc) (hp : tmps.getD p undef = .pointer (some ⟨g, 0, none⟩)) (hg : Box w g t cs)
    (hu : P.underlying ty = some d) (hd : (match d with | .struct _ | .array _ _ => true | _ => false) = true) (hi : (P.info? ty).map (·.size) = some cs.size) (v : Value) (hq : tmps.getD q undef = v) :
    (results fn tmps).run P w = .ok (.tuple #[.agg cs, v]) w := by
  have hp' : tmps[p]?.getD undef = .pointer (some ⟨g, 0, none⟩) := by simpa using hp
  have hq' : tmps[q]?.getD undef = v := by simpa using hq
  have hl := run_loadVar_row (P := P) w g t ty cs (0, 0) d hg hu hd hi
  simp [results, h, hp', hq', asAddr, hl]
end
end Go.Proofs.YtdjobjbkpagnaaaGreat
/-
  Regions that draw their order, whose last operation waits for all others: where these are quiet in a class of worlds, the walk in the order of the text serves, and the last operation is done in whatever world of the class. No program is spoken of.
-/
namespace Go.Proofs.YtdjobjbkpagnaaaGreat
open Go.RowKit

/-- What the text of the region must be. -/
def lastB (L : List Oper) : Bool :=
  Region.lexB .any L.dropLast.toArray &&
  (match L.getLast? with
    | some z => z.guard.isNone && ((List.range L.dropLast.length).all fun i => z.after.any fun e => Region.binds .any e && (e.on == i || (match L.dropLast[e.on]? with | some o => o.after.any fun e' => Region.binds .any e' && e'.on == i | none => false))) && (z.after.all fun e => !Region.binds .any e || decide (e.on < L.dropLast.length))
    | none => false) &&
  ((List.range L.dropLast.length).all fun j => match L.dropLast[j]? with
    | some o => (o.after.all fun e => !Region.binds .any e || decide (e.on < j)) && (match o.guard with | some (k, _) => decide (k < L.dropLast.length) | none => true)
    | none => true)

section
variable {P : Program} {l : List Oper} {z : Oper} {Q : Exit → Act → World → Prop}

theorem push_get (l : List Oper) (z : Oper) (j : Nat) (hj : j < l.length) : (l ++ [z]).toArray[j]? = l.toArray[j]? := by
  simp [List.getElem?_append_left hj]
theorem yielded_push (l : List Oper) (z : Oper) (t : Array Value) (j : Nat) (hj : j < l.length) : yielded (l ++ [z]).toArray t j = yielded l.toArray t j := by
  unfold yielded
  rw [push_get l z j hj]
theorem wanted_push (o : Oper) (hg : ∀ k b, o.guard = some (k, b) → k < l.length) (t : Array Value) : Region.wanted o (yielded (l ++ [z]).toArray t) = Region.wanted o (yielded l.toArray t) := by
  unfold Region.wanted
  split
  · rfl
  · rename_i k b hk
    rw [yielded_push l z t k (hg k b hk)]
theorem listed_push (a : Array Bool) (j : Nat) (d : Bool) (hj : j < a.size) : (a.push false).getD j d = a.getD j d := by
  simp [Array.getElem?_push, Nat.ne_of_lt hj]
theorem listed_pushF (a : Array Bool) (j : Nat) : (a.push false).getD j false = a.getD j false := by
  by_cases h : j < a.size
  · exact listed_push a j false h
  · by_cases e : j = a.size
    · subst e; simp
    · simp [Array.getElem?_push, e]
/-- How many have not come up. -/
def unl (a : Array Bool) : Nat := a.toList.count false
theorem unl_set (a : Array Bool) (i : Nat) (h : a.getD i true = false) : unl (a.setIfInBounds i true) + 1 = unl a := by
  have hi : i < a.size := by
    rcases Nat.lt_or_ge i a.size with h' | h'
    · exact h'
    · simp [Array.getElem?_eq_none h'] at h
  have h0 : a.toList[i]'(by simpa using hi) = false := by simpa [hi] using h
  unfold unl
  rw [Array.toList_setIfInBounds, List.count_set (by simpa using hi), h0]
  have h1 : false ∈ a.toList := by
    have hm := List.getElem_mem (l := a.toList) (n := i) (by simpa using hi)
    rwa [h0] at hm
  have h2 : 0 < a.toList.count false := List.count_pos_iff.2 h1
  have e1 : (false == false) = true := rfl
  have e2 : (true == false) = false := rfl
  simp only [e1, e2, if_true, Bool.false_eq_true, if_false]
  omega
theorem unl_pos (a : Array Bool) (h : 0 < unl a) : ∃ i, i < a.size ∧ a.getD i true = false ∧ ∀ j, j < i → a.getD j true = true := by
  have hm : false ∈ a.toList := List.count_pos_iff.1 h
  obtain ⟨i, hi, he⟩ := List.getElem_of_mem hm
  have hex : ∃ i, i < a.size ∧ a.getD i true = false := ⟨i, by simpa using hi, by simp at hi; simp [hi]; simpa using he⟩
  obtain ⟨n, hn⟩ : ∃ n, n = a.size := ⟨_, rfl⟩
  have key : ∀ n, (∃ i, i < n ∧ i < a.size ∧ a.getD i true = false) → ∃ i, i < a.size ∧ a.getD i true = false ∧ ∀ j, j < i → a.getD j true = true := by
    intro n
    induction n with
    | zero => rintro ⟨i, hi, _⟩; omega
    | succ n ih =>
      rintro ⟨i, hi, h1, h2⟩
      by_cases hx : ∃ i, i < n ∧ i < a.size ∧ a.getD i true = false
      · exact ih hx
      · refine ⟨i, h1, h2, fun j hj => ?_⟩
        cases hb : a.getD j true with
        | true => rfl
        | false => exact absurd ⟨j, by omega, by omega, hb⟩ hx
  obtain ⟨i, h1, h2⟩ := hex
  exact key (i + 1) ⟨i, by omega, h1, h2⟩
theorem unl_zero (a : Array Bool) (h : unl a = 0) (j : Nat) (hj : j < a.size) : a.getD j false = true := by
  cases hb : a.getD j false with
  | true => rfl
  | false =>
    have : false ∈ a.toList := by
      have h0 : a[j] = false := by simpa [hj] using hb
      rw [← h0]
      exact Array.getElem_mem_toList hj
    have := List.count_pos_iff.2 this
    unfold unl at h
    omega

theorem ready_lt {listed : Array Bool} (hs : listed.size = l.length) {j : Nat} (hj : j < l.length) : j ∈ Region.ready .any (l ++ [z]).toArray (listed.push false) ↔ j ∈ Region.ready .any l.toArray listed := by
  rw [mem_ready, mem_ready, push_get l z j hj, listed_push listed j true (by omega)]
  constructor
  · rintro ⟨h1, o, ho, h2⟩
    exact ⟨h1, o, ho, fun e he hb => by rw [← listed_pushF]; exact h2 e he hb⟩
  · rintro ⟨h1, o, ho, h2⟩
    exact ⟨h1, o, ho, fun e he hb => by rw [listed_pushF]; exact h2 e he hb⟩
theorem ready_top {ops : Array Oper} {listed : Array Bool} {j : Nat} (h : j ∈ Region.ready .any ops listed) : j < ops.size := by
  obtain ⟨_, o, ho, _⟩ := mem_ready.1 h
  exact (Array.getElem?_eq_some_iff.1 ho).1
/-- What is asked behind the others: the last operation. -/
def Then (P : Program) (z : Oper) (Q : Exit → Act → World → Prop) : Exit → Act → World → Prop
  | .normal, a, w => z.wp P a w (fun a w => Q .normal a w) Q
  | e, a, w => Q e a w
theorem then_panic {d : Option Tmp} {v : Value} (hQ : ∀ c a w, Q (.panic c) (a.put d v) w → Q (.panic c) a w) : ∀ c a w, Then P z Q (.panic c) (a.put d v) w → Then P z Q (.panic c) a w := hQ
theorem wp_then {o : Oper} {a : Act} {w : World} {K K' : Act → World → Prop} (h : ∀ a w, K a w → K' a w) (hh : o.wp P a w K (Then P z Q)) : o.wp P a w K' Q := by
  unfold Oper.wp at *
  generalize (execOp a.eval o).run P w = r at *
  cases r with
  | ok n w' =>
    cases n <;> simp only [Oper.upon] at hh ⊢
    case value => exact h _ _ hh
    case skip => exact h _ _ hh
    case defer => exact h _ _ hh
    case enter =>
      refine Calls.mono hh (fun e w'' he => ?_)
      cases e with
      | returned v => exact h _ _ he
      | panicked c => exact he
      | outgrown => exact he
    case row => exact Rows.mono hh (fun _ _ he => h _ _ he)
  | halt x w' => cases x <;> simp only [Oper.upon] at hh ⊢ <;> exact hh
theorem any_of_pre (hdep : ∀ j o, l[j]? = some o → (∀ e ∈ o.after, Region.binds .any e = true → e.on < j) ∧ ∀ k b, o.guard = some (k, b) → k < l.length)
    (hz : z.guard = none) (hw : ∀ i, i < l.length → ∃ e ∈ z.after, Region.binds .any e = true ∧ (e.on = i ∨ ∃ o, l[e.on]? = some o ∧ ∃ e' ∈ o.after, Region.binds .any e' = true ∧ e'.on = i)) (hze : ∀ e ∈ z.after, Region.binds .any e = true → e.on < l.length) :
    ∀ (fuel : Nat) (listed : Array Bool) (a : Act) (w : World), listed.size = l.length → unl listed = fuel → (∀ j o, l[j]? = some o → listed.getD j false = true → ∀ e ∈ o.after, Region.binds .any e = true → listed.getD e.on false = true) →
      wpAny P .any l.toArray (Then P z Q) fuel listed a w → wpAny P .any (l ++ [z]).toArray Q (fuel + 1) (listed.push false) a w := by
  intro fuel
  induction fuel with
  | zero =>
    intro listed a w hs hu _ h
    have hall := unl_zero listed hu
    have hone : ∀ j, j < l.length → ¬ (listed.getD j true = false) := fun j hj e => by
      have h1 := hall j (by omega)
      have hj' : j < listed.size := by omega
      simp [hj'] at e h1
      rw [e] at h1
      cases h1
    have hrz : l.length ∈ Region.ready .any (l ++ [z]).toArray (listed.push false) := by
      rw [mem_ready]
      refine ⟨by simp [← hs], z, by simp, fun e he hb => ?_⟩
      rw [listed_pushF]
      exact hall _ (by have := hze e he hb; omega)
    refine ⟨fun h0 => (by rw [h0] at hrz; cases hrz), fun i hi => ?_⟩
    have hlt := ready_top hi
    have hil : i = l.length := by
      simp at hlt
      rcases Nat.lt_or_ge i l.length with h' | h'
      · have := (mem_ready.1 hi).1
        rw [listed_push listed i true (by omega)] at this
        exact absurd this (hone i h')
      · omega
    subst hil
    have hsz : (l ++ [z]).toArray[l.length]? = some z := by simp
    unfold wpOp
    simp only [hsz, Region.wanted, hz, if_true]
    have hlast : z.wp P a w (fun a w => Q .normal a w) Q := h.2
    refine .inl (Oper.wp_mono (fun a' w' hq => ⟨?_, hq⟩) hlast)
    cases hr : Region.ready .any (l ++ [z]).toArray ((listed.push false).setIfInBounds l.length true) with
    | nil => rfl
    | cons x xs =>
      have hx : x ∈ Region.ready .any (l ++ [z]).toArray ((listed.push false).setIfInBounds l.length true) := by rw [hr]; simp
      have hxt := ready_top hx
      have hx1 := (mem_ready.1 hx).1
      simp at hxt
      by_cases e : x = l.length
      · subst e
        simp [← hs] at hx1
      · rw [getD_set_ne true (fun h' => e h'.symm), listed_push listed x true (by omega)] at hx1
        exact absurd hx1 (hone x (by omega))
  | succ fuel ih =>
    intro listed a w hs hu hcl h
    obtain ⟨i0, hi0, hf0, hmin⟩ := unl_pos listed (by omega)
    have hr0 : i0 ∈ Region.ready .any l.toArray listed := by
      have hsome : l[i0]? = some l[i0] := List.getElem?_eq_getElem (by omega)
      rw [mem_ready]
      refine ⟨hf0, l[i0], by simp, fun e he hb => ?_⟩
      have hlt := (hdep i0 _ hsome).1 e he hb
      have h1 := hmin _ hlt
      have h2 : e.on < listed.size := by omega
      simp [h2] at h1 ⊢
      exact h1
    have hr1 := (ready_lt (z := z) hs (by omega)).2 hr0
    refine ⟨fun h0 => (by rw [h0] at hr1; cases hr1), fun i hi => ?_⟩
    have hlt := ready_top hi
    have hil : i < l.length := by
      simp at hlt
      rcases Nat.lt_or_ge i l.length with h' | h'
      · exact h'
      · have e : i = l.length := by omega
        subst e
        obtain ⟨_, o, ho, hall⟩ := mem_ready.1 hi
        have hsz : (l ++ [z]).toArray[l.length]? = some z := by simp
        rw [hsz] at ho
        cases ho
        obtain ⟨e, he, hb, heq⟩ := hw i0 (by omega)
        have this := hall e he hb
        rw [listed_pushF] at this
        have this : listed.getD i0 false = true := by
          rcases heq with heq | ⟨o, ho, e', he', hb', heq⟩
          · rw [heq] at this; exact this
          · have h1 := hcl e.on o ho this e' he' hb'
            rw [heq] at h1
            exact h1
        simp [hi0] at this hf0
        rw [hf0] at this
        cases this
    have hi' := (ready_lt (z := z) hs hil).1 hi
    have hq := h.2 i hi'
    obtain ⟨hun, o, ho, hrd⟩ := mem_ready.1 hi'
    have ho' : l[i]? = some o := by simpa using ho
    have hset : (listed.push false).setIfInBounds i true = (listed.setIfInBounds i true).push false := by
      apply Array.ext'
      simp [List.set_append_left, hs, hil]
    have hus := unl_set listed i hun
    have hkeep : ∀ j, listed.getD j false = true → (listed.setIfInBounds i true).getD j false = true := fun j hj => by
      by_cases e : i = j
      · subst e
        have : i < listed.size := by omega
        simp [this]
      · rw [getD_set_ne false e]
        exact hj
    have hcl2 : ∀ j o, l[j]? = some o → (listed.setIfInBounds i true).getD j false = true → ∀ e ∈ o.after, Region.binds .any e = true → (listed.setIfInBounds i true).getD e.on false = true := by
      intro j o2 ho2 hj e he hb
      by_cases ej : i = j
      · subst ej
        rw [ho'] at ho2
        cases ho2
        exact hkeep _ (hrd e he hb)
      · rw [getD_set_ne false ej] at hj
        exact hkeep _ (hcl j o2 ho2 hj e he hb)
    unfold wpOp at hq
    rw [ho] at hq
    unfold wpOp
    rw [push_get l z i hil, ho]
    simp only at hq ⊢
    rw [wanted_push o (hdep i o ho').2]
    have hnext : ∀ a' w', wpAny P .any l.toArray (Then P z Q) fuel (listed.setIfInBounds i true) a' w' → wpAny P .any (l ++ [z]).toArray Q (fuel + 1) ((listed.push false).setIfInBounds i true) a' w' := by
      intro a' w' h'
      rw [hset]
      exact ih _ _ _ (by simpa using hs) (by omega) hcl2 h'
    split
    · rename_i hwt
      simp only [hwt, if_true] at hq
      rcases hq with hq | ⟨hq, a', w', hl⟩
      · exact .inl (wp_then hnext hq)
      · exact .inr ⟨hq, a', w', hl⟩
    · rename_i hwt
      simp only [hwt] at hq
      exact hnext _ _ hq

/-- **The last operation waits for all others.** -/
theorem wp_region_then {id : Nat} {a : Act} {w : World} {L : List Oper} (z : Oper) (hm : P.follows .mixedOrders = true) (hL : L.getLast? = some z) (hB : lastB L = true)
    (h : wpAny P .any L.dropLast.toArray (Then P z Q) L.dropLast.length (Array.replicate L.dropLast.length false) a w.drew) : (Code.region id L.toArray true).wp P Q a w := by
  have hne : L = L.dropLast ++ [z] := by
    have hn : L ≠ [] := by intro e; subst e; simp at hL
    have h1 := List.dropLast_concat_getLast hn
    rw [List.getLast?_eq_some_getLast hn] at hL
    rw [Option.some.inj hL] at h1
    exact h1.symm
  obtain ⟨l, hl⟩ : ∃ l, l = L.dropLast := ⟨_, rfl⟩
  unfold lastB at hB
  rw [hL] at hB
  rw [← hl] at hne h hB
  subst hne
  simp only [Bool.and_eq_true, List.all_eq_true, List.mem_range, Region.lexB, Option.isNone_iff_eq_none] at hB
  obtain ⟨⟨⟨hns, hlex⟩, ⟨hzg, hz1⟩, hz2⟩, hdep⟩ := hB
  refine wp_region_any hm ?_
  have hrep : Array.replicate (l ++ [z]).toArray.size false = (Array.replicate l.length false).push false := by
    apply Array.ext'
    simp [List.replicate_succ']
  have hsz : (l ++ [z]).toArray.size = l.length + 1 := by simp
  rw [hrep, hsz]
  refine any_of_pre ?_ hzg ?_ ?_ l.length _ a _ (by simp) ?_ ?_ h
  · intro j o ho
    have hj := (List.getElem?_eq_some_iff.1 ho).1
    have h1 := hdep j hj
    rw [ho] at h1
    simp only [Bool.and_eq_true, Array.all_eq_true_iff_forall_mem, Bool.or_eq_true, Bool.not_eq_true', decide_eq_true_eq] at h1
    refine ⟨fun e he hb => ?_, fun k b hg => ?_⟩
    · rcases h1.1 e he with h2 | h2
      · rw [hb] at h2; cases h2
      · exact h2
    · have h2 := h1.2
      rw [hg] at h2
      simpa using h2
  · intro i hi
    have h1 := hz1 i hi
    rw [Array.any_eq_true] at h1
    obtain ⟨j, hj, h2⟩ := h1
    simp only [Bool.and_eq_true, Bool.or_eq_true, beq_iff_eq] at h2
    refine ⟨z.after[j], Array.getElem_mem hj, h2.1, ?_⟩
    rcases h2.2 with h3 | h3
    · exact .inl h3
    · cases ho : l[z.after[j].on]? with
      | none => rw [ho] at h3; cases h3
      | some o =>
        rw [ho] at h3
        simp only [Array.any_eq_true, Bool.and_eq_true, beq_iff_eq] at h3
        obtain ⟨j', hj', h4⟩ := h3
        exact .inr ⟨o, rfl, o.after[j'], Array.getElem_mem hj', h4.1, h4.2⟩
  · intro e he hb
    rw [Array.all_eq_true_iff_forall_mem] at hz2
    have h1 := hz2 e he
    simp only [Bool.or_eq_true, Bool.not_eq_true', decide_eq_true_eq] at h1
    rcases h1 with h1 | h1
    · rw [hb] at h1; cases h1
    · exact h1
  · unfold unl
    simp
  · intro j o _ hj
    simp [Array.getElem?_replicate] at hj
    split at hj <;> simp at hj
/-- The others held under the condition S. -/
theorem wp_region_held_then {id : Nat} {a : Act} {w : World} {L : List Oper} (S : World → Prop) (z : Oper) (hm : P.follows .mixedOrders = true) (hL : L.getLast? = some z) (hB : lastB L = true)
    (h : wpAnyH P .any L.dropLast.toArray (Then P z Q) S L.dropLast.length (Array.replicate L.dropLast.length false) a w.drew) : (Code.region id L.toArray true).wp P Q a w :=
  wp_region_then z hm hL hB (wpAny_of_held _ _ _ _ h)
/-- One of the others, by its number, taken first. -/
theorem takeL {S : World → Prop} (i : Nat) {oi : Oper} {v : Value} {fuel : Nat} {listed : Array Bool} {a : Act} {w : World} (hi : l[i]? = some oi)
    (hs : Region.noSelect l.toArray = true) (hf : Region.free .any l.toArray listed i = true) (hr : (Region.ready .any l.toArray listed).contains i = true) (hQ : ∀ c a w, Q (.panic c) (a.put oi.dst v) w → Q (.panic c) a w)
    (hw : Region.wanted oi (yielded l.toArray a.tmps) = true) (hS : S w) (hy : ∀ w, S w → (execOp a.eval oi).run P w = .ok (.value v) w)
    (h : wpAnyH P .any l.toArray (Then P z Q) S fuel (listed.setIfInBounds i true) (a.put oi.dst v) w) : wpAnyH P .any l.toArray (Then P z Q) S (fuel + 1) listed a w :=
  wpAnyH_take (by simpa using hi) hs hf hr (then_panic hQ) (.inl ⟨hw, hy⟩) hS h
/-- A call of a Go function that alone may come up. -/
theorem callL {S : World → Prop} (i : Nat) {oi : Oper} {f : FuncId} {vs : Array Value} {fuel : Nat} {listed : Array Bool} {a : Act} {w : World} (hi : l[i]? = some oi) (hr : Region.ready .any l.toArray listed = [i])
    (hw : Region.wanted oi (yielded l.toArray a.tmps) = true) (hop : (execOp a.eval oi).run P w = .ok (.enter f vs) w)
    (hc : Calls P f vs w fun e w' => ∃ v, e = .returned v ∧ S w' ∧ wpAnyH P .any l.toArray (Then P z Q) S fuel (listed.setIfInBounds i true) (a.put oi.dst v) w') : wpAnyH P .any l.toArray (Then P z Q) S (fuel + 1) listed a w := by
  refine wpAnyH_all hr (by simp) ?_
  intro j hj
  simp only [List.mem_singleton] at hj
  subst hj
  have hi' : l.toArray[j]? = some oi := by simpa using hi
  unfold wpOp
  simp only [hi', hw, if_true]
  refine .inl ?_
  unfold Oper.wp
  rw [hop]
  refine Calls.mono hc fun e w' he => ?_
  obtain ⟨v, rfl, h⟩ := he
  exact h
/-- A store that alone may come up. -/
theorem stepL {S : World → Prop} (i : Nat) {oi : Oper} {fuel : Nat} {listed : Array Bool} {a : Act} {w : World} (w' : World) (hi : l[i]? = some oi) (hr : Region.ready .any l.toArray listed = [i])
    (hw : Region.wanted oi (yielded l.toArray a.tmps) = true) (hop : (execOp a.eval oi).run P w = .ok .skip w') (hS : S w')
    (h : wpAnyH P .any l.toArray (Then P z Q) S fuel (listed.setIfInBounds i true) (a.put oi.dst undef) w') : wpAnyH P .any l.toArray (Then P z Q) S (fuel + 1) listed a w := by
  refine wpAnyH_all hr (by simp) ?_
  intro j hj
  simp only [List.mem_singleton] at hj
  subst hj
  have hi' : l.toArray[j]? = some oi := by simpa using hi
  unfold wpOp
  simp only [hi', hw, if_true]
  refine .inl ?_
  unfold Oper.wp
  rw [hop]
  exact ⟨hS, h⟩
/-- A variable that is made, where that alone may come up. -/
theorem newL {S : World → Prop} (i : Nat) {oi : Oper} {fuel : Nat} {listed : Array Bool} {a : Act} {w : World} (w' : World) (v : Value) (hi : l[i]? = some oi) (hr : Region.ready .any l.toArray listed = [i])
    (hw : Region.wanted oi (yielded l.toArray a.tmps) = true) (hop : (execOp a.eval oi).run P w = .ok (.value v) w') (hS : S w')
    (h : wpAnyH P .any l.toArray (Then P z Q) S fuel (listed.setIfInBounds i true) (a.put oi.dst v) w') : wpAnyH P .any l.toArray (Then P z Q) S (fuel + 1) listed a w := by
  refine wpAnyH_all hr (by simp) ?_
  intro j hj
  simp only [List.mem_singleton] at hj
  subst hj
  have hi' : l.toArray[j]? = some oi := by simpa using hi
  unfold wpOp
  simp only [hi', hw, if_true]
  refine .inl ?_
  unfold Oper.wp
  rw [hop]
  exact ⟨hS, h⟩
/-- A call of a Go function or a variable that is made, whichever comes up first. -/
theorem callNewL {S : World → Prop} (i j : Nat) {oi oj : Oper} {f : FuncId} {vs : Array Value} {fuel : Nat} {listed : Array Bool} {a : Act} {w : World} (w' : World) (v : Value) (hi : l[i]? = some oi) (hj : l[j]? = some oj) (hr : Region.ready .any l.toArray listed = [i, j])
    (hwi : Region.wanted oi (yielded l.toArray a.tmps) = true) (hwj : Region.wanted oj (yielded l.toArray a.tmps) = true) (hop : (execOp a.eval oi).run P w = .ok (.enter f vs) w) (hop' : (execOp a.eval oj).run P w = .ok (.value v) w') (hS : S w')
    (hc : Calls P f vs w fun e w' => ∃ v, e = .returned v ∧ S w' ∧ wpAnyH P .any l.toArray (Then P z Q) S fuel (listed.setIfInBounds i true) (a.put oi.dst v) w')
    (h : wpAnyH P .any l.toArray (Then P z Q) S fuel (listed.setIfInBounds j true) (a.put oj.dst v) w') : wpAnyH P .any l.toArray (Then P z Q) S (fuel + 1) listed a w := by
  refine wpAnyH_all hr (by simp) ?_
  intro k hk
  simp only [List.mem_cons, List.not_mem_nil, or_false] at hk
  have hi' : l.toArray[i]? = some oi := by simpa using hi
  have hj' : l.toArray[j]? = some oj := by simpa using hj
  rcases hk with rfl | rfl
  · unfold wpOp
    simp only [hi', hwi, if_true]
    refine .inl ?_
    unfold Oper.wp
    rw [hop]
    refine Calls.mono hc fun e w' he => ?_
    obtain ⟨v, rfl, h⟩ := he
    exact h
  · unfold wpOp
    simp only [hj', hwj, if_true]
    refine .inl ?_
    unfold Oper.wp
    rw [hop']
    exact ⟨hS, h⟩
/-- All others have come up. -/
theorem doneL {S : World → Prop} {fuel : Nat} {listed : Array Bool} {a : Act} {w : World} (hr : Region.ready .any l.toArray listed = []) (h : z.wp P a w (fun a w => Q .normal a w) Q) : wpAnyH P .any l.toArray (Then P z Q) S fuel listed a w :=
  wpAnyH_done hr h fuel
/-- The others quiet in a class of worlds. -/
theorem wp_region_last {C : World → Prop} {id : Nat} {a : Act} {w : World} {L : List Oper} (z : Oper) (hm : P.follows .mixedOrders = true) (hL : L.getLast? = some z) (hB : lastB L = true) (hC : C w.drew)
    (h : wpQuiet P L.dropLast.toArray C (fun a' => ∀ w', C w' → z.wp P a' w' (fun a w => Q .normal a w) Q) L.dropLast a) : (Code.region id L.toArray true).wp P Q a w := by
  refine wp_region_then z hm hL hB (wpAny_of_quiet (C := C) (Q := fun a' => ∀ w', C w' → z.wp P a' w' (fun a w => Q .normal a w) Q) (fun a w' hw' hq => hq w' hw') _ _ _ _ hC ?_)
  unfold lastB at hB
  simp only [Bool.and_eq_true, Region.lexB] at hB
  exact wpAnyQ_lex (P := P) (C := C) (md := .any) hB.1.1.1 L.dropLast 0 (Array.replicate L.dropLast.length false) a (by simp) (by simpa using hB.1.1.2) h
/-- The same, in the class of all worlds above the first one. -/
theorem wp_region_above_last {id : Nat} {a : Act} {w : World} {L : List Oper} (z : Oper) (hm : P.follows .mixedOrders = true) (hL : L.getLast? = some z) (hB : lastB L = true)
    (h : Nonempty (Above w) → wpQuiet P L.dropLast.toArray (fun w' => ∃ k : Above w, w' = k.it) (fun a' => ∀ w', (∃ k : Above w, w' = k.it) → z.wp P a' w' (fun a w => Q .normal a w) Q) L.dropLast a) : (Code.region id L.toArray true).wp P Q a w :=
  wp_region_last (C := fun w' => ∃ k : Above w, w' = k.it) z hm hL hB ⟨⟨w.drew, (Below.refl _ _).drew⟩, rfl⟩ (h (above_some w))
end
end Go.Proofs.YtdjobjbkpagnaaaGreat
/-
  Bytes in a block of the call's own, to be turned in place: what a cell is, what a store makes of them, the string of them.
-/
namespace Go.Proofs.YtdjobjbkpagnaaaGreat
open Go.RowKit

/-- The text of a list of bytes. -/
def strB (l : List UInt8) : ByteArray := ⟨l.toArray⟩
theorem strB_size (l : List UInt8) : (strB l).size = l.length := rfl
theorem strB_list (l : List UInt8) : (strB l).data.toList = l := by simp [strB]
theorem strB_toList (l : List UInt8) : (strB l).toList = l := by
  rw [ByteArray.toList_eq]; exact strB_list l
theorem strB_of (s : ByteArray) : strB s.data.toList = s := by
  apply ByteArray.ext; simp [strB]

/-- In the world w the block b begins with the bytes l, and they may be turned. -/
def RowB (w : World) (b : Nat) (l : List UInt8) : Prop :=
  ∃ (c : Array Value) (t : TypeId) (fr : Nat × Nat), w.heap[b]? = some (.cells c t fr) ∧ (∀ i, i < l.length → c[i]? = some (.int .u8 ((l.getD i 0).toNat : Int))) ∧ (fr.2 ≤ fr.1 ∨ l.length ≤ fr.1)
theorem RowB.cell {w : World} {b : Nat} {l : List UInt8} (h : RowB w b l) (k : Nat) (hk : k < l.length) : w.cell? ⟨b, k, none⟩ = some (.int .u8 ((l.getD k 0).toNat : Int)) := by
  obtain ⟨c, t, fr, hb, hc, _⟩ := h
  rw [cell_of_row w b k c t fr hb]; exact hc k hk
theorem RowB.frozen {w : World} {b : Nat} {l : List UInt8} (h : RowB w b l) (k : Nat) (hk : k < l.length) : w.frozen? ⟨b, k, none⟩ = false := by
  obtain ⟨c, t, fr, hb, _, hf⟩ := h
  simp only [World.frozen?, hb]
  rcases hf with hf | hf
  · simp; omega
  · simp; omega
theorem RowB.set {w : World} {b : Nat} {l : List UInt8} (h : RowB w b l) (k : Nat) (hk : k < l.length) (x : UInt8) : RowB (w.setCell ⟨b, k, none⟩ (.int .u8 (x.toNat : Int))) b (l.set k x) := by
  obtain ⟨c, t, fr, hb, hc, hf⟩ := h
  have hck : k < c.size := (Array.getElem?_eq_some_iff.1 (hc k hk)).1
  refine ⟨c.setIfInBounds k (.int .u8 (x.toNat : Int)), t, fr, ?_, ?_, by simpa using hf⟩
  · simp [World.setCell, Array.getElem?_modify, hb]
  · intro i hi
    rw [List.length_set] at hi
    rw [Array.getElem?_setIfInBounds]
    by_cases e : k = i
    · subst e
      simp [hck, hk]
    · rw [if_neg e, hc i hi]
      simp [List.getD_eq_getElem?_getD, e]
theorem RowB.below {w w' : World} {b B : Nat} {l : List UInt8} (h : RowB w b l) (hb : Below B w w') (hB : b < B) : RowB w' b l := by
  obtain ⟨c, t, fr, h1, h2⟩ := h
  exact ⟨c, t, fr, by rw [hb.block b hB]; exact h1, h2⟩
theorem RowB.lt {w : World} {b : Nat} {l : List UInt8} (h : RowB w b l) : b < w.heap.size := by
  obtain ⟨c, t, fr, h1, _⟩ := h
  exact (Array.getElem?_eq_some_iff.1 h1).1
theorem RowB.drew {w : World} {b : Nat} {l : List UInt8} (h : RowB w b l) : RowB w.drew b l := h
theorem rowB_new (w : World) (c : Array Value) (t : TypeId) (l : List UInt8) (h : ∀ i, i < l.length → c[i]? = some (.int .u8 ((l.getD i 0).toNat : Int))) : RowB (w.alloc (.cells c t)) w.heap.size l :=
  ⟨c, t, (0, 0), heap_alloc_last w _, h, .inl (Nat.le_refl _)⟩
/-- 'string(b)' of such bytes. -/
theorem RowB.text {w : World} {b : Nat} {l : List UInt8} (h : RowB w b l) (cap : Nat) :
    (convert 108 9 (.slice (some ⟨b, 0, none⟩) l.length cap)).run Tryz.prog w = .ok (.string (strB l)) w := by
  refine run_convert_bytes_back w _ _ 5 _ cap l Tryz.underlying108 Tryz.underlying5 Tryz.underlying9 ?_
  intro j hj
  have hadd : (⟨b, 0, none⟩ : Addr).add j = ⟨b, j, none⟩ := by unfold Addr.add; split <;> simp_all
  rw [hadd, h.cell j hj]
  simp [hj]
/-- '[]byte(s)'. -/
theorem bytes_of (s : ByteArray) (w : World) :
    ∃ cap w', (convert 9 108 (.string s)).run Tryz.prog w = .ok (.slice (some ⟨w.heap.size, 0, none⟩) s.size cap) w' ∧ RowB w' w.heap.size s.data.toList ∧ Below w.heap.size w w' := by
  refine ⟨_, _, run_bytes_of_string w _ _ 5 s Tryz.underlying9 Tryz.underlying108 Tryz.underlying5, ?_, ?_⟩
  · refine ⟨_, _, _, heap_alloc_last w.drew _, ?_, .inr ?_⟩
    · intro i hi
      have hi2 : i < s.data.size := by simpa using hi
      unfold bytesRow
      rw [Array.getElem?_append_left (by simpa using hi2), Array.getElem?_map, Array.getElem?_eq_getElem hi2, List.getD_eq_getElem?_getD, Array.getElem?_toList, Array.getElem?_eq_getElem hi2]
      rfl
    · simp [bytesRow]
  · exact ((Below.refl _ _).drew).alloc (Nat.le_refl _) _
theorem infoB_u8 : (Tryz.prog.info? 5).map (fun i => (i.zero, i.size, i.bytes)) = some (some (.int .u8 0), 1, 1) := by kernel_rfl
/-- 'make([]byte, n)'. -/
theorem make_u8 {ops : Array Oper} {rest : List Oper} {o : Oper} {a : Act} {Q : Exit → Act → World → Prop} (hgd : o.guard = none) (l c : Operand) (hop : o.op = Op.makeSlice 108 l c)
    {w : World} {C : Int} {n : Nat} (hl : a.eval l = .int .i64 C) (hc : a.eval c = .int .i64 C) (hC : C = (n : Int)) (hn : n ≤ 1000000)
    (h : ∀ w', RowB w' w.heap.size (List.replicate n 0) → Below w.heap.size w w' → wpList Tryz.prog ops Q rest (a.put o.dst (.slice (some ⟨w.heap.size, 0, none⟩) n n)) w') : wpList Tryz.prog ops Q (o :: rest) a w := by
  obtain ⟨i0, hi, hz0, hz1, hz2⟩ := info_parts infoB_u8
  refine wpList_plain hgd fun K hK' => ?_
  have hr := run_make (P := Tryz.prog) w 108 5 i0 (.int .u8 0) Tryz.underlying108 hi hz0 .i64 .i64 n n (by omega) (Int.le_refl _) (by rw [hz2]; omega) (by omega)
  subst hC
  unfold Oper.wp
  simp [execOp, hop, hl, hc, hr, Result.andThen]
  refine hK' _ _ (h _ ?_ ?_)
  · refine rowB_new _ _ _ _ ?_
    intro i hi
    rw [List.length_replicate] at hi
    rw [hz1, Nat.mul_one]
    have e : (Value.int IntKind.u8 0).cells = #[.int .u8 0] := rfl
    rw [e]
    simp [madeCells, hi, Nat.mod_one]
  · exact (Below.refl _ _).alloc (Nat.le_refl _) _
end Go.Proofs.YtdjobjbkpagnaaaGreat
