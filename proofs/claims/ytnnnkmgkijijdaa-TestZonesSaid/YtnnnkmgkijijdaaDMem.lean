/-
  Blocks of memory that a call may turn, and all others as they were; rows of many cells each in one block: load, store, copy of a text into one. No program is spoken of.
-/
import Derived.WalkKit
import Derived.WalkSpells
import Derived.WalkLawsBesides
import Derived.Deep.MidRow
import Derived.Deep.DeepAppendWide
import Derived.Deep.RegionHeld3
import Derived.Below
import Derived.OwnWalk
namespace Go.Proofs.Ytnnnkmgkijijdaa
open Go.RowKit

/-- Of the old blocks those outside F are as they were. -/
structure Kept (F : Nat → Prop) (w w' : World) : Prop where
  os : w'.os = w.os
  tape : w'.tape = w.tape
  output : w'.output = w.output
  size : w.heap.size ≤ w'.heap.size
  block : ∀ k, k < w.heap.size → ¬ F k → w'.heap[k]? = w.heap[k]?
section
variable {F G : Nat → Prop} {a b c w w' : World}
theorem Kept.refl (F : Nat → Prop) (w : World) : Kept F w w := ⟨rfl, rfl, rfl, Nat.le_refl _, fun _ _ _ => rfl⟩
theorem Kept.trans (h : Kept F a b) (k : Kept G b c) (i : ∀ k, G k → F k ∨ a.heap.size ≤ k) : Kept F a c :=
  ⟨k.os.trans h.os, k.tape.trans h.tape, k.output.trans h.output, Nat.le_trans h.size k.size, fun x hx hF => by
    rw [k.block x (Nat.lt_of_lt_of_le hx h.size) (fun hG => by rcases i x hG with h1 | h1; exact hF h1; omega), h.block x hx hF]⟩
theorem Kept.mono (h : Kept F w w') (i : ∀ k, F k → G k) : Kept G w w' := ⟨h.os, h.tape, h.output, h.size, fun x hx hG => h.block x hx (fun hF => hG (i x hF))⟩
theorem Kept.drew (h : Kept F a w) : Kept F a w.drew := ⟨h.os, h.tape, h.output, h.size, h.block⟩
theorem Kept.drewN (h : Kept F a w) (n : Nat) : Kept F a (w.drewN n) := ⟨h.os, h.tape, h.output, h.size, h.block⟩
theorem Kept.alloc (h : Kept F a w) (o : Obj) : Kept F a (w.alloc o) :=
  ⟨h.os, h.tape, h.output, by have := h.size; simp; omega, fun x hx hF => by rw [Below.heap_alloc w o x (Nat.lt_of_lt_of_le hx h.size), h.block x hx hF]⟩
theorem Kept.setCell (h : Kept F a w) {p : Addr} (hp : F p.block ∨ a.heap.size ≤ p.block) (u : Value) : Kept F a (w.setCell p u) :=
  ⟨h.os, h.tape, h.output, by have := h.size; simp; omega, fun x hx hF => by
    rw [Below.heap_setCell w p u x (fun e => by subst e; rcases hp with h1 | h1; exact hF h1; omega), h.block x hx hF]⟩
theorem Kept.setCells {p : Nat} (hp : F p ∨ a.heap.size ≤ p) : ∀ (vs : List Value) (o : Nat) (w : World), Kept F a w → Kept F a (w.setCells p o vs)
  | [], _, _, h => h
  | v :: r, o, w, h => by
    rw [World.setCells]
    exact Kept.setCells hp r (o + 1) _ (h.setCell (p := ⟨p, o, none⟩) hp v)
theorem Kept.grown (h : Kept F a w) {row : Option Nat} (hg : w.grownBy w' row) (hr : ∀ k, row = some k → F k ∨ a.heap.size ≤ k) : Kept F a w' :=
  ⟨hg.os.trans h.os, hg.tape.trans h.tape, hg.output.trans h.output, Nat.le_trans h.size hg.size, fun x hx hF => by
    rw [hg.block x (Nat.lt_of_lt_of_le hx h.size) (fun e => by rcases hr x e.symm with h1 | h1; exact hF h1; omega), h.block x hx hF]⟩
theorem Kept.below {B : Nat} (h : Kept F w w') (hF : ∀ k, F k → B ≤ k) (hB : B ≤ w.heap.size) : Below B w w' :=
  ⟨h.os, h.tape, h.output, h.size, fun k hk => h.block k (by omega) (fun hf => by have := hF k hf; omega)⟩
theorem kept_of_below (F : Nat → Prop) (h : Below w.heap.size w w') : Kept F w w' := ⟨h.os, h.tape, h.output, h.size, fun k hk _ => h.block k hk⟩
end

theorem heap_setCells_far (b : Nat) : ∀ (vs : List Value) (o : Nat) (w : World) (k : Nat), k ≠ b → (w.setCells b o vs).heap[k]? = w.heap[k]?
  | [], _, _, _, _ => rfl
  | v :: r, o, w, k, h => by
    rw [World.setCells, heap_setCells_far b r (o + 1) _ k h, Below.heap_setCell w ⟨b, o, none⟩ v k h]
theorem heap_setCells (b : Nat) (t : TypeId) : ∀ (vs : List Value) (o : Nat) (w : World) (cur : Array Value), w.heap[b]? = some (.cells cur t (0, 0)) → o + vs.length ≤ cur.size →
    ∃ cur', (w.setCells b o vs).heap[b]? = some (.cells cur' t (0, 0)) ∧ cur'.size = cur.size ∧ (∀ k, k < o ∨ o + vs.length ≤ k → cur'[k]? = cur[k]?) ∧ ∀ j v, vs[j]? = some v → cur'[o + j]? = some v
  | [], _, _, cur, h, _ => ⟨cur, h, rfl, fun _ _ => rfl, fun _ _ hv => by simp at hv⟩
  | v :: r, o, w, cur, h, hl => by
    simp only [List.length_cons] at hl
    obtain ⟨cur', h1, h2, h3, h4⟩ := heap_setCells b t r (o + 1) (w.setCell ⟨b, o, none⟩ v) (cur.setIfInBounds o v) (heap_setCell_same w b o cur t v h) (by simp; omega)
    refine ⟨cur', h1, by simpa using h2, ?_, ?_⟩
    · intro k hk
      simp only [List.length_cons] at hk
      rw [h3 k (by omega), Array.getElem?_setIfInBounds, if_neg (by omega)]
    · intro j u hu
      cases j with
      | zero =>
        simp at hu
        subst hu
        rw [h3 (o + 0) (by omega), Array.getElem?_setIfInBounds]
        simp
        omega
      | succ j =>
        have := h4 j u (by simpa using hu)
        rwa [show o + (j + 1) = o + 1 + j by omega]

/-- The block b has tot cells of type t, which may be written: from its head on the rows R of sz cells each. -/
def Rows (w : World) (b : Nat) (t : TypeId) (tot sz : Nat) (R : List (List Value)) : Prop :=
  ∃ cur : Array Value, w.heap[b]? = some (.cells cur t (0, 0)) ∧ cur.size = tot ∧ R.length * sz ≤ tot ∧ (∀ r ∈ R, r.length = sz) ∧ ∀ i r, R[i]? = some r → ∀ j v, r[j]? = some v → cur[i * sz + j]? = some v
section
variable {w w' : World} {b : Nat} {t : TypeId} {tot sz : Nat} {R : List (List Value)}
theorem Rows.lt (h : Rows w b t tot sz R) : b < w.heap.size := by
  obtain ⟨cur, h1, _⟩ := h
  exact (Array.getElem?_eq_some_iff.1 h1).1
theorem Rows.of_block (h : Rows w b t tot sz R) (e : w'.heap[b]? = w.heap[b]?) : Rows w' b t tot sz R := by
  obtain ⟨cur, h1, h2⟩ := h
  exact ⟨cur, by rw [e]; exact h1, h2⟩
theorem Rows.kept {F : Nat → Prop} (h : Rows w b t tot sz R) (k : Kept F w w') (hb : ¬ F b) : Rows w' b t tot sz R := h.of_block (k.block b h.lt hb)
theorem Rows.drew (h : Rows w b t tot sz R) : Rows w.drew b t tot sz R := h
theorem Rows.range (h : Rows w b t tot sz R) {i : Nat} {r : List Value} (hr : R[i]? = some r) : w.rangeAt b (i * sz) r := by
  obtain ⟨cur, h1, _, _, _, h5⟩ := h
  intro j v hv
  rw [cell_of_row w b _ cur t _ h1]
  exact h5 i r hr j v hv
theorem Rows.fit (h : Rows w b t tot sz R) {i : Nat} (hi : i < R.length) : i * sz + sz ≤ tot := by
  obtain ⟨_, _, _, h3, _⟩ := h
  have : (i + 1) * sz ≤ R.length * sz := Nat.mul_le_mul_right _ hi
  rw [Nat.add_mul] at this
  omega
theorem Rows.there_at (h : Rows w b t tot sz R) {o n : Nat} (ho : o + n ≤ tot) : w.there b o n := by
  obtain ⟨cur, h1, h2, _⟩ := h
  intro j hj
  refine ⟨?_, frozen_of_row w b _ cur t h1⟩
  rw [cell_of_row w b _ cur t _ h1, Array.getElem?_eq_getElem (by omega)]
  rfl
theorem Rows.there (h : Rows w b t tot sz R) {i : Nat} (hi : i < R.length) : w.there b (i * sz) sz := h.there_at (h.fit hi)
theorem Rows.set (h : Rows w b t tot sz R) {i : Nat} (hi : i < R.length) {r : List Value} (hl : r.length = sz) : Rows (w.setCells b (i * sz) r) b t tot sz (R.set i r) := by
  have hf := h.fit hi
  obtain ⟨cur, h1, h2, h3, h4, h5⟩ := h
  obtain ⟨cur', g1, g2, g3, g4⟩ := heap_setCells b t r (i * sz) w cur h1 (by omega)
  refine ⟨cur', g1, by omega, by simpa using h3, ?_, ?_⟩
  · intro x hx
    rcases List.mem_or_eq_of_mem_set hx with hx | rfl
    · exact h4 x hx
    · exact hl
  · intro k x hx j v hv
    rw [List.getElem?_set] at hx
    by_cases e : i = k
    · subst e
      simp [hi] at hx
      subst hx
      exact g4 j v hv
    · rw [if_neg e] at hx
      have hj : j < sz := by
        have := h4 x (List.mem_of_getElem? hx)
        have := (List.getElem?_eq_some_iff.1 hv).1
        omega
      rw [g3 (k * sz + j) ?_]
      · exact h5 k x hx j v hv
      · rw [hl]
        rcases Nat.lt_or_ge k i with h' | h'
        · left
          have : (k + 1) * sz ≤ i * sz := Nat.mul_le_mul_right _ h'
          rw [Nat.add_mul] at this
          omega
        · right
          have : (i + 1) * sz ≤ k * sz := Nat.mul_le_mul_right _ (by omega)
          rw [Nat.add_mul] at this
          omega
theorem Rows.take (h : Rows w b t tot sz R) (k : Nat) : Rows w b t tot sz (R.take k) := by
  obtain ⟨cur, h1, h2, h3, h4, h5⟩ := h
  refine ⟨cur, h1, h2, ?_, fun r hr => h4 r (List.mem_of_mem_take hr), ?_⟩
  · refine Nat.le_trans (Nat.mul_le_mul_right _ ?_) h3
    rw [List.length_take]
    omega
  · intro i r hr
    rw [List.getElem?_take] at hr
    split at hr
    · exact h5 i r hr
    · cases hr
/-- What is written behind the rows turns none of them. -/
theorem Rows.behind (h : Rows w b t tot sz R) {o : Nat} (vs : List Value) (ho : R.length * sz ≤ o) (hf : o + vs.length ≤ tot) : Rows (w.setCells b o vs) b t tot sz R := by
  obtain ⟨cur, h1, h2, h3, h4, h5⟩ := h
  obtain ⟨cur', g1, g2, g3, g4⟩ := heap_setCells b t vs o w cur h1 (by omega)
  refine ⟨cur', g1, by omega, h3, h4, ?_⟩
  intro i r hr j v hv
  have hi : i < R.length := (List.getElem?_eq_some_iff.1 hr).1
  have hj : j < sz := by
    have := h4 r (List.mem_of_getElem? hr)
    have := (List.getElem?_eq_some_iff.1 hv).1
    omega
  have : (i + 1) * sz ≤ R.length * sz := Nat.mul_le_mul_right _ hi
  rw [Nat.add_mul] at this
  rw [g3 _ (by omega)]
  exact h5 i r hr j v hv
theorem Rows.far (h : Rows w b t tot sz R) {p o : Nat} (vs : List Value) (hp : b ≠ p) : Rows (w.setCells p o vs) b t tot sz R := h.of_block (heap_setCells_far p vs o w b hp)
end

theorem flatten_at {sz : Nat} (hsz : 0 < sz) : ∀ (R : List (List Value)), (∀ r ∈ R, r.length = sz) → ∀ k, R.flatten[k]? = (R[k / sz]?).bind (·[k % sz]?)
  | [], _, k => by simp
  | r :: R, h, k => by
    have hr := h r (by simp)
    rw [List.flatten_cons, List.getElem?_append]
    by_cases hk : k < sz
    · rw [if_pos (by omega), Nat.div_eq_of_lt hk, Nat.mod_eq_of_lt hk]
      simp
    · rw [if_neg (by omega), hr, flatten_at hsz R (fun x hx => h x (by simp [hx])) (k - sz)]
      have e1 : k / sz = (k - sz) / sz + 1 := by rw [Nat.div_eq_sub_div hsz (by omega)]
      have e2 : k % sz = (k - sz) % sz := by rw [Nat.mod_eq_sub_mod (by omega)]
      rw [e1, e2]
      simp
theorem length_flat {sz : Nat} : ∀ (R : List (List Value)), (∀ r ∈ R, r.length = sz) → R.flatten.length = R.length * sz
  | [], _ => by simp
  | r :: R, h => by
    rw [List.flatten_cons, List.length_append, length_flat R (fun x hx => h x (by simp [hx])), h r (by simp), List.length_cons, Nat.add_mul]
    omega

/-- A slice of rows that the call's own writes lie in: none, or the head of a block. -/
def SRows (w : World) (v : Value) (t : TypeId) (sz : Nat) (R : List (List Value)) : Prop :=
  (v = .slice none 0 0 ∧ R = []) ∨ ∃ g cap, v = .slice (some ⟨g, 0, none⟩) R.length cap ∧ R.length ≤ cap ∧ cap ≤ maxLen ∧ Rows w g t (cap * sz) sz R
section
variable {w w' : World} {v : Value} {t : TypeId} {sz : Nat} {R : List (List Value)}
theorem srows_nil (w : World) (t : TypeId) (sz : Nat) : SRows w (.slice none 0 0) t sz [] := .inl ⟨rfl, rfl⟩
theorem SRows.of_block (h : SRows w v t sz R) (e : ∀ k, v.ownBlock = some k → w'.heap[k]? = w.heap[k]?) : SRows w' v t sz R := by
  rcases h with h | ⟨g, cap, rfl, h1, h2, h3⟩
  · exact .inl h
  · exact .inr ⟨g, cap, rfl, h1, h2, h3.of_block (e g rfl)⟩
theorem SRows.lt (h : SRows w v t sz R) {k : Nat} (hk : v.ownBlock = some k) : k < w.heap.size := by
  rcases h with ⟨rfl, _⟩ | ⟨g, cap, rfl, h1, h2, h3⟩
  · simp [Value.ownBlock] at hk
  · simp [Value.ownBlock] at hk
    subst hk
    exact h3.lt
theorem SRows.kept {F : Nat → Prop} (h : SRows w v t sz R) (k : Kept F w w') (hb : ∀ g, v.ownBlock = some g → ¬ F g) : SRows w' v t sz R :=
  h.of_block fun g hg => k.block g (h.lt hg) (hb g hg)
theorem SRows.rowlen (h : SRows w v t sz R) : ∀ r ∈ R, r.length = sz := by
  rcases h with ⟨_, rfl⟩ | ⟨g, cap, _, _, _, cur, _, _, _, h4, _⟩
  · simp
  · exact h4
theorem SRows.own (h : SRows w v t sz R) (hsz : 0 < sz) : w.ownsRow 0 t sz v R.length R.flatten := by
  refine ⟨length_flat R h.rowlen, ?_⟩
  rcases h with ⟨rfl, rfl⟩ | ⟨g, cap, rfl, h1, h2, cur, c1, c2, c3, c4, c5⟩
  · exact .inl ⟨rfl, rfl⟩
  · refine .inr ⟨g, cap, cur, rfl, Nat.zero_le _, c1, h1, h2, c2, ?_⟩
    apply List.ext_getElem?
    intro k
    rw [List.getElem?_take, flatten_at hsz R c4 k]
    split
    · rename_i hk
      have hd : k / sz < R.length := (Nat.div_lt_iff_lt_mul hsz).2 hk
      have hm : k % sz < sz := Nat.mod_lt _ hsz
      have hr := List.getElem?_eq_getElem hd
      rw [hr]
      have hl : (R[k / sz]).length = sz := c4 _ (List.getElem_mem hd)
      have := c5 (k / sz) _ hr (k % sz) (R[k / sz])[k % sz] (by rw [List.getElem?_eq_getElem])
      rw [Nat.div_add_mod' k sz] at this
      simp only [Option.bind_some]
      rw [Array.getElem?_toList, this]
      exact (List.getElem?_eq_getElem (by omega)).symm
    · rename_i hk
      have hd : ¬ k / sz < R.length := fun h => hk ((Nat.div_lt_iff_lt_mul hsz).1 h)
      rw [List.getElem?_eq_none (by omega)]
      rfl
theorem srows_of_own {B n : Nat} {xs : List Value} (h : w.ownsRow B t sz v n xs) (hx : xs = R.flatten) (hR : ∀ r ∈ R, r.length = sz) (hsz : 0 < sz) (hn : R.length = n) : SRows w v t sz R := by
  subst hx hn
  rcases h.2 with ⟨rfl, h0⟩ | ⟨g, cap, cur, rfl, _, c1, h1, h2, c2, c3⟩
  · exact .inl ⟨rfl, List.eq_nil_of_length_eq_zero h0⟩
  · refine .inr ⟨g, cap, rfl, h1, h2, cur, c1, c2, Nat.mul_le_mul_right _ h1, hR, ?_⟩
    intro i r hr j u hu
    have hi : i < R.length := (List.getElem?_eq_some_iff.1 hr).1
    have hj : j < sz := by
      have := hR r (List.mem_of_getElem? hr)
      have := (List.getElem?_eq_some_iff.1 hu).1
      omega
    have hk : i * sz + j < R.length * sz := by
      have : (i + 1) * sz ≤ R.length * sz := Nat.mul_le_mul_right _ hi
      rw [Nat.add_mul] at this
      omega
    have e := congrArg (·[i * sz + j]?) c3
    simp only [List.getElem?_take] at e
    rw [if_pos hk, Array.getElem?_toList, flatten_at hsz R hR] at e
    have d1 : (i * sz + j) / sz = i := by rw [Nat.mul_comm, Nat.mul_add_div hsz, Nat.div_eq_of_lt hj]; rfl
    have d2 : (i * sz + j) % sz = j := by rw [Nat.mul_comm, Nat.mul_add_mod, Nat.mod_eq_of_lt hj]
    rw [d1, d2, hr] at e
    rw [e]
    exact hu
end

/-- The bytes of a text as cells. -/
def cellsS (s : ByteArray) : List Value := s.data.toList.map fun b => .int .u8 b.toNat
theorem cellsS_len (s : ByteArray) : (cellsS s).length = s.size := by simp [cellsS]
theorem run_copy_str {P : Program} (w : World) (dT sT ty elem : TypeId) (b o n cap : Nat) (s : ByteArray) (hs : s.size = n)
    (hu : P.underlying dT = some (.slice elem)) (hsz : (P.info? elem).map (·.size) = some 1) (ht : w.there b o n) :
    (Builtin.copy_ #[dT, sT] ty #[.slice (some ⟨b, o, none⟩) n cap, .string s]).run P w = .ok (goInt n) (w.setCells b o (cellsS s)) := by
  have hl := cellsS_len s
  have hst := run_storeCells_cells (P := P) b o (cellsS s) 0 w (fun j hj => by simpa using (ht j (by omega)).1) (fun j hj => by simpa using (ht j (by omega)).2) (fun v hv => by
    simp only [cellsS, List.mem_map] at hv
    obtain ⟨x, _, rfl⟩ := hv
    rfl)
  simp only [Nat.add_zero] at hst
  cases hq : P.info? elem with
  | none => simp [hq] at hsz
  | some i =>
    subst hs
    simp [Builtin.copy_, run_underlying hu, Builtin.lenOf, Builtin.firstCells, sizeOf, typeInfo, hq]
    rw [show (List.map (fun b : UInt8 => Value.int IntKind.u8 (b.toNat : Int)) s.data.toList) = cellsS s from rfl, List.take_of_length_le (by omega), hst]
    rfl
theorem wpList_copy_str {P : Program} {ops : Array Oper} {rest : List Oper} {op : Oper} {a : Act} {w : World} {Q : Exit → Act → World → Prop} (hgd : op.guard = none) (d x : Operand) (dT sT elem : TypeId)
    (ho : op.op = .call { callee := .builtin .copy, args := #[d, x], argTypes := #[dT, sT] }) (b o n cap : Nat) (s : ByteArray) (hd : a.eval d = .slice (some ⟨b, o, none⟩) n cap) (hx : a.eval x = .string s) (hs : s.size = n)
    (hu : P.underlying dT = some (.slice elem)) (hsz : (P.info? elem).map (·.size) = some 1) (ht : w.there b o n)
    (h : wpList P ops Q rest (a.put op.dst (goInt n)) (w.setCells b o (cellsS s))) : wpList P ops Q (op :: rest) a w := by
  refine wpList_plain hgd fun K hK => ?_
  have hr := run_copy_str (P := P) w dT sT op.type elem b o n cap s hs hu hsz ht
  unfold Oper.wp execOp
  simp only [ho, resolve, invoke, builtin, Sem.run_bind, Sem.run_pure, Result.andThen_ok, List.map_toArray, List.map_cons, List.map_nil, hd, hx, hr]
  exact hK _ _ h
theorem step_copy_str {P : Program} {ops : Array Oper} {op : Oper} {a : Act} {w : World} {K : Act → World → Prop} {Q : Exit → Act → World → Prop} {E : Prop} (hgd : op.guard = none) (d x : Operand) (dT sT elem : TypeId)
    (ho : op.op = .call { callee := .builtin .copy, args := #[d, x], argTypes := #[dT, sT] }) (b o n cap : Nat) (s : ByteArray) (hd : a.eval d = .slice (some ⟨b, o, none⟩) n cap) (hx : a.eval x = .string s) (hs : s.size = n)
    (hu : P.underlying dT = some (.slice elem)) (hsz : (P.info? elem).map (·.size) = some 1) (ht : w.there b o n)
    (h : K (a.put op.dst (goInt n)) (w.setCells b o (cellsS s))) : if Region.wanted op (yielded ops a.tmps) = true then Oper.wp P op a w K Q else E := by
  have hw : Region.wanted op (yielded ops a.tmps) = true := by simp [Region.wanted, hgd]
  rw [if_pos hw]
  have hr := run_copy_str (P := P) w dT sT op.type elem b o n cap s hs hu hsz ht
  unfold Oper.wp execOp
  simp only [ho, resolve, invoke, builtin, Sem.run_bind, Sem.run_pure, Result.andThen_ok, List.map_toArray, List.map_cons, List.map_nil, hd, hx, hr]
  exact h
end Go.Proofs.Ytnnnkmgkijijdaa
