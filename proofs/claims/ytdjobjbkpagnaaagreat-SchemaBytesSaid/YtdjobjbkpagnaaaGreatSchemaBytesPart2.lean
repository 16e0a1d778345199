/-
  4 texts, one behind the other: XRefTbM, XRefTb, XRefTk, WSchemaBytes.
-/
import Derived.Test.YtdjobjbkpagnaaaGreatSchemaBytesPart1
import Derived.Test.YtdjobjbkpagnaaaGreatJoin9
import Derived.Deep.CutBlock
import Derived.Deep.DeepCutAuto
import Derived.Test.YtdjobjbkpagnaaaGreatJoin10
/-
  What stays while the document reads a table: its columns, its projections, a projection's columns. No step of the program is walked.
-/
namespace Go.Proofs.YtdjobjbkpagnaaaGreat
open Go.RowKit Leb

section
variable {α : Type} {s s1 : By} {f : Bool}
/-- A reader that stopped early. -/
theorem step_stop {p : By → Option (α × By)} {k : Nat} {l : List α} : ∀ n, k ≤ n → RdStep (pRep p k) s f l s1 true → RdStep (pRep p n) s f l s1 true := by
  intro n hn h
  induction n with
  | zero => obtain rfl : k = 0 := by omega
            exact h
  | succ n ih =>
    by_cases e : k = n + 1
    · rw [← e]; exact h
    · have h2 := ih (by omega)
      refine ⟨h2.1, fun _ => rfl, fun hf => ?_⟩
      rw [pRep]
      cases e1 : pRep p n s with
      | none => exact ⟨fun y r e => by simp at e, fun _ => rfl⟩
      | some q => have := ((h2.2.2 hf).1 q.1 q.2 e1).2.2; cases this
end
theorem colR_step {s s1 s2 s3 : By} {f f1 f2 f3 : Bool} {a : ByteArray} {b c : BitVec 64} (h1 : RdStep pName s f a s1 f1) (h2 : RdStep (pTo 2) s1 f1 b s2 f2) (h3 : RdStep (pTo 1) s2 f2 c s3 f3) : RdStep pColR s f ⟨a, b, decide (c.toInt = 1)⟩ s3 f3 := step3 (fun (a : ByteArray) (b c : BitVec 64) => (⟨a, b, decide (c.toInt = 1)⟩ : Col)) h1 h2 h3
theorem pjR_step {s s1 s2 s3 : By} {f f1 f2 f3 : Bool} {a : ByteArray} {b : List (BitVec 64)} {c : BitVec 64} (h1 : RdStep pName s f a s1 f1) (h2 : RdStep (pList 8 (pTo 8)) s1 f1 b s2 f2) (h3 : RdStep (pTo 8) s2 f2 c s3 f3) : RdStep pPjR s f ⟨a, b, c⟩ s3 f3 := step3 (fun a b c => (⟨a, b, c⟩ : Pj)) h1 h2 h3
theorem tbR_step {s s1 s2 s3 : By} {f f1 f2 f3 : Bool} {a : ByteArray} {b : List Col} {c : List Pj} (h1 : RdStep pName s f a s1 f1) (h2 : RdStep (pList 8 pColR) s1 f1 b s2 f2) (h3 : RdStep (pList 6 pPjR) s2 f2 c s3 f3) : RdStep pTbR s f ⟨a, b, c⟩ s3 f3 := step3 (fun a b c => (⟨a, b, c⟩ : Tb)) h1 h2 h3

/-- While one struct is read, from the world at a round's head. -/
structure It (W0 W : World) (B Bc : Nat) (s : ByteArray) (u : Nat) (f : Bool) (t : TypeId) (c : Array Value) : Prop where
  rd : Rr W B s u f
  le : u ≤ s.size
  kp : Kept (fun b => b = B) W0 W
  lt : B < W0.heap.size
  up : W0.heap.size ≤ Bc
  bx : Box W Bc t c
section
variable {W0 W W2 : World} {B Bc : Nat} {s : ByteArray} {u u2 : Nat} {f f2 : Bool} {t : TypeId} {c : Array Value}
theorem It.step (h : It W0 W B Bc s u f t c) (hr : Rr W2 B s u2 f2) (hu : u2 ≤ s.size) (hk : Kept (fun b => b = B) W W2) : It W0 W2 B Bc s u2 f2 t c :=
  ⟨hr, hu, h.kp.trans hk (fun _ h => .inl h), h.lt, h.up, h.bx.kept hk (by have := h.lt; have := h.up; omega)⟩
theorem It.set (h : It W0 W B Bc s u f t c) (k : Nat) (v : Value) : It W0 (W.setCell ⟨Bc, k, none⟩ v) B Bc s u f t (c.setIfInBounds k v) :=
  ⟨Box.other h.rd (by have := h.lt; have := h.up; simp only; omega) v, h.le, h.kp.setCell (p := ⟨Bc, k, none⟩) (.inr h.up) v, h.lt, h.up, h.bx.set k v⟩
theorem It.alloc (h : It W0 W B Bc s u f t c) (o : Obj) : It W0 (W.alloc o) B Bc s u f t c :=
  ⟨Box.alloc h.rd o, h.le, h.kp.alloc o, h.lt, h.up, h.bx.alloc o⟩
end
theorem it_new {W0 W : World} {B : Nat} {s : ByteArray} {u : Nat} {f : Bool} (hr : Rr W B s u f) (hu : u ≤ s.size) (hk : Kept (fun b => b = B) W0 W) (hl : B < W0.heap.size) (t : TypeId) (z c : Array Value) : It W0 ((W.alloc (.cells z t)).setRow W.heap.size c) B W.heap.size s u f t c := by
  have b1 := below_setRow (below1 W (.cells z t)) (Nat.le_refl _) c
  exact ⟨Box.over hr b1, hu, hk.trans (kept_of_below (fun b => b = B) b1) (fun _ h => .inl h), hl, hk.size, (box_new W z t).setRow c⟩

/-- While columns are read. -/
structure T1 (w W : World) (B Bt : Nat) (s : ByteArray) (u : Nat) (f : Bool) (nm : ByteArray) (v : Value) (l : List Col) (R : List (List Value)) : Prop where
  rd : Rr W B s u f
  le : u ≤ s.size
  kp : Kept (fun b => b = B) w W
  lt : B < w.heap.size
  br : Box W w.heap.size 41 #[.string ⟨#[]⟩, .slice none 0 0, .slice none 0 0]
  bt : Box W Bt 41 #[.string nm, v, .slice none 0 0]
  up : w.heap.size < Bt
  rows : SRows W v 53 3 R
  all : RowsE ColE W l R
  own : ∀ b, v.ownBlock = some b → Bt < b
theorem T1.step {w W W2 : World} {B Bt : Nat} {s : ByteArray} {u u2 : Nat} {f f2 : Bool} {nm : ByteArray} {v : Value} {l : List Col} {R : List (List Value)} (h : T1 w W B Bt s u f nm v l R) (hr : Rr W2 B s u2 f2) (hu : u2 ≤ s.size) (hk : Kept (fun b => b = B) W W2) : T1 w W2 B Bt s u2 f2 nm v l R :=
  ⟨hr, hu, h.kp.trans hk (fun _ h => .inl h), h.lt, h.br.kept hk (by have := h.lt; omega), h.bt.kept hk (by have := h.lt; have := h.up; omega), h.up, h.rows.kept hk (fun g hg => by have := h.own g hg; have := h.lt; have := h.up; omega), h.all, h.own⟩
section
variable {w W W3 : World} {B Bt : Nat} {s : ByteArray} {u : Nat} {f : Bool} {nm : ByteArray} {v v3 : Value} {l : List Col} {R R3 : List (List Value)} {x : Col} {c0 c1 c2 : Value}
theorem T1.mid (h : T1 w W B Bt s u f nm v l R) (o : Obj) (hk : Kept (fun b => v.ownBlock = some b) (W.alloc o) W3) : Box W3 Bt 41 #[.string nm, v, .slice none 0 0] :=
  (h.bt.alloc o).kept hk (fun e => by have := h.own Bt e; omega)
theorem T1.add (h : T1 w W B Bt s u f nm v l R) (hx : ColE W x [c0, c1, c2])
    (hs : SRows W3 v3 53 3 (R ++ [[c0, c1, c2]])) (hwh : ∀ k, v3.ownBlock = some k → v.ownBlock = some k ∨ (W.alloc (.cells #[c0, c1, c2] 53)).heap.size ≤ k) (hk : Kept (fun b => v.ownBlock = some b) (W.alloc (.cells #[c0, c1, c2] 53)) W3) :
    T1 w (W3.setCell ⟨Bt, 1, none⟩ v3) B Bt s u f nm v3 (l ++ [x]) (R ++ [[c0, c1, c2]]) := by
  have hlt := h.lt
  have hup := h.up
  have hsz := h.bt.lt
  have ho3 : ∀ b, v3.ownBlock = some b → Bt < b := fun b hb => by
    rcases hwh b hb with e | e
    · exact h.own b e
    · rw [World.size_alloc] at e; omega
  refine ⟨?_, h.le, ?_, h.lt, ?_, ?_, h.up, ?_, rowsE_snoc h.all hx, ho3⟩
  · exact Box.other ((Box.alloc h.rd _).kept hk (fun e => by have := h.own B e; omega)) (by simp only; omega) v3
  · exact ((h.kp.alloc _).trans hk (fun b hb => .inr (by have := h.own b hb; omega))).setCell (p := ⟨Bt, 1, none⟩) (.inr (by simp only; omega)) v3
  · exact Box.other ((Box.alloc h.br _).kept hk (fun e => by have := h.own _ e; omega)) (by simp only; omega) v3
  · exact (h.mid _ hk).set 1 v3
  · exact hs.of_block fun k hk => heap_setCell_other _ _ _ _ (by have := ho3 k hk; simp only; omega)
end
/-- While a projection's columns are read. -/
structure P3 (W0 W : World) (B Bp : Nat) (s : ByteArray) (u : Nat) (f : Bool) (nm : ByteArray) (v : Value) (l : List (BitVec 64)) : Prop where
  it : It W0 W B Bp s u f 26 #[.string nm, v, .int .i64 0]
  own : OwnsI W (Bp + 1) v l
theorem P3.step {W0 W W2 : World} {B Bp : Nat} {s : ByteArray} {u u2 : Nat} {f f2 : Bool} {nm : ByteArray} {v : Value} {l : List (BitVec 64)} (h : P3 W0 W B Bp s u f nm v l) (hr : Rr W2 B s u2 f2) (hu : u2 ≤ s.size) (hk : Kept (fun b => b = B) W W2) : P3 W0 W2 B Bp s u2 f2 nm v l := by
  refine ⟨h.it.step hr hu hk, ?_⟩
  refine ⟨h.own.1, ?_⟩
  rcases h.own.2 with hn | ⟨g, cap, cur, e, hbg, hg, rest⟩
  · exact .inl hn
  · exact .inr ⟨g, cap, cur, e, hbg, (hk.block g (by have := (Array.getElem?_eq_some_iff.1 hg).1; exact this) (by have := h.it.lt; have := h.it.up; omega)).trans hg, rest⟩
theorem P3.add {W0 W W3 : World} {B Bp : Nat} {s : ByteArray} {u : Nat} {f : Bool} {nm : ByteArray} {v v3 : Value} {l : List (BitVec 64)} {x : BitVec 64} (h : P3 W0 W B Bp s u f nm v l) (ho : OwnsI W3 (Bp + 1) v3 (l ++ [x])) (k : Below (Bp + 1) W W3) : P3 W0 (W3.setCell ⟨Bp, 1, none⟩ v3) B Bp s u f nm v3 (l ++ [x]) := by
  have hlt := h.it.lt
  have hup := h.it.up
  have hk : Kept (fun b => b = B) W0 W3 := ⟨k.os.trans h.it.kp.os, k.tape.trans h.it.kp.tape, k.output.trans h.it.kp.output, Nat.le_trans h.it.kp.size k.size, fun b hb hF => (k.block b (by omega)).trans (h.it.kp.block b hb hF)⟩
  refine ⟨⟨Box.other (Box.below h.it.rd k (by omega)) (by simp only; omega) v3, h.it.le, hk.setCell (p := ⟨Bp, 1, none⟩) (.inr hup) v3, hlt, hup, (h.it.bx.below k (by omega)).set 1 v3⟩, ?_⟩
  refine ⟨ho.1, ?_⟩
  rcases ho.2 with hn | ⟨g, cap, cur, e, hbg, hg, rest⟩
  · exact .inl hn
  · exact .inr ⟨g, cap, cur, e, hbg, (heap_setCell_other W3 ⟨Bp, 1, none⟩ g v3 (by simp only; omega)).trans hg, rest⟩
theorem P3.drew {W0 W : World} {B Bp : Nat} {s : ByteArray} {u : Nat} {f : Bool} {nm : ByteArray} {v : Value} {l : List (BitVec 64)} (h : P3 W0 W B Bp s u f nm v l) : P3 W0 W.drew B Bp s u f nm v l :=
  ⟨⟨h.it.rd, h.it.le, h.it.kp.drew, h.it.lt, h.it.up, h.it.bx⟩, h.own⟩
/-- While projections are read: the columns stay. -/
structure T2 (w W1 W : World) (B Bt : Nat) (s : ByteArray) (u : Nat) (f : Bool) (nm : ByteArray) (v : Value) (l : List Col) (vp : Value) (ps : List Pj) (R : List (List Value)) : Prop where
  rd : Rr W B s u f
  le : u ≤ s.size
  kp : Kept (fun b => b = B) w W
  lt : B < w.heap.size
  br : Box W w.heap.size 41 #[.string ⟨#[]⟩, .slice none 0 0, .slice none 0 0]
  bt : Box W Bt 41 #[.string nm, v, vp]
  up : w.heap.size < Bt
  up1 : Bt < W1.heap.size
  up2 : W1.heap.size ≤ W.heap.size
  cols : SlX (fun b => b ≤ Bt ∨ W1.heap.size ≤ b) ColE 3 W v l
  rows : SRows W vp 26 3 R
  all : RowsE (PjX (Gv W1 vp)) W ps R
  own : ∀ b, vp.ownBlock = some b → W1.heap.size ≤ b
theorem T2.step {w W1 W W2 : World} {B Bt : Nat} {s : ByteArray} {u u2 : Nat} {f f2 : Bool} {nm : ByteArray} {v : Value} {l : List Col} {vp : Value} {ps : List Pj} {R : List (List Value)} (h : T2 w W1 W B Bt s u f nm v l vp ps R) (hr : Rr W2 B s u2 f2) (hu : u2 ≤ s.size) (hk : Kept (fun b => b = B) W W2) : T2 w W1 W2 B Bt s u2 f2 nm v l vp ps R := by
  have hlt := h.lt
  have hup := h.up
  have hup1 := h.up1
  have hm : Kept (Gv W1 vp) W W2 := hk.mono fun b hb => .inl (by omega)
  exact ⟨hr, hu, h.kp.trans hk (fun _ h => .inl h), h.lt, h.br.kept hk (by omega), h.bt.kept hk (by omega), h.up, h.up1, Nat.le_trans h.up2 hk.size, h.cols.kept (hk.mono fun b hb => .inl (by omega)) (fun _ _ h => h), h.rows.kept hk (fun g hg => by have := h.own g hg; omega), ⟨h.all.1, fun i x r hx hr => pjX_kept (h.all.2 i x r hx hr) hm⟩, h.own⟩
section
variable {w W1 W W3 : World} {B Bt : Nat} {s : ByteArray} {u : Nat} {f : Bool} {nm : ByteArray} {v vp v3 : Value} {l : List Col} {ps : List Pj} {R : List (List Value)} {x : Pj} {c0 c1 c2 : Value}
theorem T2.mid (h : T2 w W1 W B Bt s u f nm v l vp ps R) (o : Obj) (hk : Kept (fun b => vp.ownBlock = some b) (W.alloc o) W3) : Box W3 Bt 41 #[.string nm, v, vp] :=
  (h.bt.alloc o).kept hk (fun e => by have := h.own Bt e; have := h.up1; omega)
theorem T2.add (h : T2 w W1 W B Bt s u f nm v l vp ps R) (hx : PjX (Gv W1 vp) W x [c0, c1, c2])
    (hs : SRows W3 v3 26 3 (R ++ [[c0, c1, c2]])) (hwh : ∀ k, v3.ownBlock = some k → vp.ownBlock = some k ∨ (W.alloc (.cells #[c0, c1, c2] 26)).heap.size ≤ k) (hk : Kept (fun b => vp.ownBlock = some b) (W.alloc (.cells #[c0, c1, c2] 26)) W3) :
    T2 w W1 (W3.setCell ⟨Bt, 2, none⟩ v3) B Bt s u f nm v l v3 (ps ++ [x]) (R ++ [[c0, c1, c2]]) := by
  have hlt := h.lt
  have hup := h.up
  have hup1 := h.up1
  have hup2 := h.up2
  have b1 := below1 W (.cells #[c0, c1, c2] 26)
  have ho3 : ∀ b, v3.ownBlock = some b → W1.heap.size ≤ b := fun b hb => by
    rcases hwh b hb with e | e
    · exact h.own b e
    · rw [World.size_alloc] at e; omega
  have ha : RowsE (PjX (Gv W1 vp)) (W.alloc (.cells #[c0, c1, c2] 26)) (ps ++ [x]) (R ++ [[c0, c1, c2]]) := rowsE_snoc ⟨h.all.1, fun i y r hy hr => pjX_kept (h.all.2 i y r hy hr) (kept_of_below _ b1)⟩ (pjX_kept hx (kept_of_below _ b1))
  have hkt : ∀ F : Nat → Prop, F Bt → Kept F W3 (W3.setCell ⟨Bt, 2, none⟩ v3) := fun F hF => (Kept.refl F W3).setCell (p := ⟨Bt, 2, none⟩) (.inl hF) v3
  refine ⟨?_, h.le, ?_, h.lt, ?_, ?_, h.up, h.up1, ?_, ?_, ?_, ⟨ha.1, fun i y r hy hr => ?_⟩, ho3⟩
  · exact Box.other ((Box.alloc h.rd _).kept hk (fun e => by have := h.own B e; omega)) (by simp only; omega) v3
  · exact ((h.kp.alloc _).trans hk (fun b hb => .inr (by have := h.own b hb; omega))).setCell (p := ⟨Bt, 2, none⟩) (.inr (by simp only; omega)) v3
  · exact Box.other ((Box.alloc h.br _).kept hk (fun e => by have := h.own _ e; omega)) (by simp only; omega) v3
  · exact (h.mid _ hk).set 2 v3
  · have h1 := b1.size
    have h2 := hk.size
    have h3 := (hkt (fun _ => True) trivial).size
    omega
  · exact ((h.cols.kept (kept_of_below _ b1) (fun _ _ h => h)).kept (hk.mono fun b hb => .inr (h.own b hb)) (fun _ _ h => h)).kept (hkt _ (.inl (Nat.le_refl _))) (fun _ _ h => h)
  · exact hs.of_block fun k hk => heap_setCell_other _ _ _ _ (by have := ho3 k hk; simp only; omega)
  · have e1 := pjX_other (H := G3 W1 vp v3) (ha.2 i y r hy hr) (fun b hb hg => by
      rcases hg with hg | hg | hg
      · exact .inl hg
      · exact .inr hg
      · rcases hwh b hg with h1 | h1
        · exact .inr h1
        · omega)
    have e2 := pjX_kept e1 (hk.mono (G := G3 W1 vp v3) fun b hb => .inr (.inl hb))
    have e3 := pjX_other (H := Gv W1 v3) e2 (fun b _ hg => by
      rcases hg with hg | hg
      · exact .inl hg
      · exact .inr (.inr hg))
    exact pjX_kept e3 (hkt _ (.inl hup1))
end
/-- The columns are read: the projections begin. -/
theorem T1.turn {w W1 : World} {B Bt : Nat} {s : ByteArray} {u : Nat} {f : Bool} {nm : ByteArray} {v : Value} {l : List Col} {R : List (List Value)} (h : T1 w W1 B Bt s u f nm v l R) : T2 w W1 W1 B Bt s u f nm v l (.slice none 0 0) [] [] := by
  refine ⟨h.rd, h.le, h.kp, h.lt, h.br, h.bt, h.up, h.bt.lt, Nat.le_refl _, ?_, srows_nil _ _ _, ⟨rfl, fun i x r hx => by simp at hx⟩, fun b hb => by simp [Value.ownBlock] at hb⟩
  exact slX_of_srows h.rows h.all (fun k hk => by have h1 := h.own k hk; have h2 := h.rows.lt hk; omega)
/-- The table is read, and laid where the answer lies. -/
theorem T2.done {w W1 W : World} {B Bt : Nat} {s : ByteArray} {u : Nat} {f : Bool} {nm : ByteArray} {v : Value} {l : List Col} {vp : Value} {ps : List Pj} {R : List (List Value)} (h : T2 w W1 W B Bt s u f nm v l vp ps R) :
    Rr (W.setRow w.heap.size #[.string nm, v, vp]) B s u f ∧ Box (W.setRow w.heap.size #[.string nm, v, vp]) w.heap.size 41 #[.string nm, v, vp] ∧ Kept (fun b => b = B) w (W.setRow w.heap.size #[.string nm, v, vp]) ∧ TbX (fun b => b < w.heap.size) (W.setRow w.heap.size #[.string nm, v, vp]) ⟨nm, l, ps⟩ [.string nm, v, vp] := by
  have hlt := h.lt
  have hup := h.up
  have hup1 := h.up1
  have hK : ∀ F : Nat → Prop, F w.heap.size → Kept F W (W.setRow w.heap.size #[.string nm, v, vp]) := fun F hF => ⟨rfl, rfl, rfl, by simp, fun k _ hk => setRow_other W _ k _ (fun e => hk (by rw [e]; exact hF))⟩
  refine ⟨Box.rowOther h.rd (by omega) _, h.br.setRow _, h.kp.trans (hK (fun b => b = w.heap.size) rfl) (fun k hk => .inr (by rw [hk]; exact Nat.le_refl _)), v, vp, rfl, ?_, ?_⟩
  · exact (h.cols.kept (hK _ (.inl (by omega))) (fun _ _ h => h)).other (fun b _ hb => .inl (by omega)) (fun _ _ h => h)
  · have hr : SRows (W.setRow w.heap.size #[.string nm, v, vp]) vp 26 3 R := h.rows.of_block fun k hk => setRow_other W _ k _ (by have := h.own k hk; omega)
    refine slX_of_srows (G := fun b => b < w.heap.size) hr ⟨h.all.1, fun i y r hy hr => ?_⟩ (fun k hk hb => by have := h.own k hk; omega)
    exact pjX_other (pjX_kept (h.all.2 i y r hy hr) (hK _ (.inl (by omega)))) (fun b _ hb => .inl (by omega))
theorem slX_of_ints {w : World} {B : Nat} {v : Value} {l : List (BitVec 64)} (h : OwnsI w B v l) : SlX (fun b => b < B) IntE 1 w v l := by
  have h1 := ints_of_own h
  have h2 := own_shape h
  obtain ⟨a, cap, rfl, hc, h3⟩ := h1
  refine ⟨a, cap, rfl, hc, fun hl => ?_⟩
  obtain ⟨b, off, rfl, hb, h4⟩ := h3 hl
  exact ⟨b, off, rfl, hb, fun hg => by have := h2.2 b rfl; omega, h4⟩
theorem then_val {v : Value} {w' : World} {r : Result Value} (h : r = .ok v w') : (r.andThen fun a w' => Result.ok (Next.value a) w') = .ok (Next.value v) w' := by rw [h]; rfl
theorem run_append_i64 {w : World} {B : Nat} {v : Value} {l : List (BitVec 64)} {n : Int} {c : BitVec 64} (hn : n = c.toInt) (hown : OwnsI w B v l) (hB : B ≤ w.heap.size) (hl : l.length + 1 ≤ 1000000) (ty : TypeId) :
    ∃ v' w', (Builtin.append_ #[24, 24] ty #[v, .slice (some ⟨w.heap.size, 0, none⟩) 1 1]).run Tryz.prog (w.alloc (.cells #[.int .i64 n] 3)) = .ok v' w' ∧ OwnsI w' B v' (l ++ [c]) ∧ Below B w w' := by
  obtain ⟨i0, hi, hz0, hz1, hz2⟩ := info_parts info_i64
  obtain ⟨v', w', hr, hown', hgrow, _⟩ := run_append_own (P := Tryz.prog) (w.alloc (.cells #[.int .i64 n] 3)) B 24 ty 3 i0 (.int .i64 0) 1 8 Tryz.underlying24 hi hz0 hz1 hz2 rfl (by decide) v l.length (iv l) (World.ownsRow.alloc hown _) ⟨w.heap.size, 0, none⟩ 1 1 [.int .i64 n] rfl (cell_one_new _ _ _) (by intro u hu; simp at hu; subst hu; rfl) (by simp only [maxLen]; omega) (by omega) (by simp; omega)
  refine ⟨v', w', hr, ?_, ?_⟩
  · subst hn
    simpa [OwnsI, iv] using hown'
  · exact ((Below.refl B w).alloc hB _).grown hgrow (by simp; omega) fun k hk => (hown.lt k hk).1
end Go.Proofs.YtdjobjbkpagnaaaGreat
/-
  The contract of the document's reader: one table.
-/
namespace Go.Proofs.YtdjobjbkpagnaaaGreat
open Go.RowKit Leb

set_option maxRecDepth 4000 in
set_option maxHeartbeats 8000000 in
theorem refOne_any {w : World} {B : Nat} {s : ByteArray} {u : Nat} {f : Bool} (h : Rr w B s u f) (hu : u ≤ s.size) (hs : s.size ≤ 1000000) :
    Calls Tryz.prog 53 #[.pointer (some ⟨B, 0, none⟩)] w (RrAns B (rep3 TbX) pTbR s u f w) := by
  obtain ⟨W0, hW0⟩ : ∃ W0, W0 = w.alloc (.cells #[.string ⟨#[]⟩, .slice none 0 0, .slice none 0 0] 41) := ⟨_, rfl⟩
  have hlt : B < w.heap.size := Box.lt h
  have r0 : Rr W0 B s u f := by rw [hW0]; exact Box.alloc h _
  have b0 : Box W0 w.heap.size 41 #[.string ⟨#[]⟩, .slice none 0 0, .slice none 0 0] := by rw [hW0]; exact box_new _ _ _
  have k0 : Kept (fun b => b = B) w W0 := by rw [hW0]; exact (Kept.refl _ w).alloc _
  have HW0 : Hid (W0 = w.alloc (.cells #[.string ⟨#[]⟩, .slice none 0 0, .slice none 0 0] 41) ∧ s.size ≤ 1000000 ∧ B < w.heap.size ∧ Box W0 w.heap.size 41 #[.string ⟨#[]⟩, .slice none 0 0, .slice none 0 0] ∧ Kept (fun b => b = B) w W0) := ⟨hW0, hs, hlt, b0, k0⟩
  have cn := refName_rd r0 hu hs
  obtain ⟨i0, hi, hz0, hz1, hz2⟩ := info_parts infos_col
  have HIC : Hid (Tryz.prog.info? 53 = some i0 ∧ i0.zero = some (.agg #[.string ⟨#[]⟩, .int .i64 0, .bool false]) ∧ i0.size = 3 ∧ i0.bytes = 32) := ⟨hi, hz0, hz1, hz2⟩
  obtain ⟨i9, hi9, hy0, hy1, hy2⟩ := info_parts infos_pj
  have HIP : Hid (Tryz.prog.info? 26 = some i9 ∧ i9.zero = some (.agg #[.string ⟨#[]⟩, .slice none 0 0, .int .i64 0]) ∧ i9.size = 3 ∧ i9.bytes = 48) := ⟨hi9, hy0, hy1, hy2⟩
  clear h hu hs hW0 hlt r0 b0 k0 hi hz0 hz1 hz2 hi9 hy0 hy1 hy2
  go_enter Tryz.func53, Tryz.ntmps53
  go_wp2_with fail
  rw [← HW0.out.1]
  refine Calls.mono cn ?_
  rintro e w1 ⟨v1, nm, u1, f1, rfl, hv, hr1, hu1, st1, k1⟩
  have ev : v1 = .string nm := hv
  subst ev
  obtain ⟨Bt, hBt⟩ : ∃ Bt, Bt = w1.heap.size := ⟨_, rfl⟩
  obtain ⟨W1, hW1⟩ : ∃ W1, W1 = (w1.alloc (.cells #[.string ⟨#[]⟩, .slice none 0 0, .slice none 0 0] 41)).setRow w1.heap.size #[.string nm, .slice none 0 0, .slice none 0 0] := ⟨_, rfl⟩
  have b1 : Below w1.heap.size w1 W1 := by rw [hW1]; exact below_setRow (below1 w1 _) (Nat.le_refl _) _
  have B1 : Box W1 Bt 41 #[.string nm, .slice none 0 0, .slice none 0 0] := by rw [hW1, hBt]; exact (box_new w1 _ _).setRow _
  have hsz := HW0.out.2.2.2.1.lt
  have HT : Hid (T1 w W1 B Bt s u1 f1 nm (.slice none 0 0) [] []) := by
    refine ⟨Box.over hr1 b1, hu1, (HW0.out.2.2.2.2.trans k1 (fun _ h => .inl h)).trans (kept_of_below (fun b => b = B) b1) (fun _ h => .inl h), HW0.out.2.2.1, (HW0.out.2.2.2.1.kept k1 (by have := HW0.out.2.2.1; omega)).over b1, B1, ?_, srows_nil _ _ _, ⟨rfl, fun i x r hx => by simp at hx⟩, fun b hb => by simp [Value.ownBlock] at hb⟩
    have := k1.size
    omega
  have HS1 : Hid (RdStep pName (s.data.toList.drop u) f nm (s.data.toList.drop u1) f1) := st1
  have HW : Hid (W1 = (w1.alloc (.cells #[.string ⟨#[]⟩, .slice none 0 0, .slice none 0 0] 41)).setRow w1.heap.size #[.string nm, .slice none 0 0, .slice none 0 0] ∧ Bt = w1.heap.size) := ⟨hW1, hBt⟩
  have HZ : Hid (∀ z, Box (w1.alloc (.cells z 41)) w1.heap.size 41 z) := fun z => box_new w1 z _
  have hone : (#[.string nm, .slice none 0 0, .slice none 0 0] : Array Value).all (fun c => c.oneCell') = true := one_three (by intro u hu; simp only [List.mem_cons, List.not_mem_nil, or_false] at hu; rcases hu with rfl | rfl | rfl <;> rfl)
  clear cn hv hr1 hu1 st1 k1 hBt hW1 b1 B1 hsz
  go_wp2_with (refine wpList_store_row rfl 41 _ _ rfl w1.heap.size _ rfl rfl 41 _ (HZ.out _) size_tb rfl hone ?_; rw [← HW.out.1, ← HW.out.2])
  clear hone
  refine Calls.mono (refNum_any HT.out.rd HT.out.le HW0.out.2.1 8 (by decide)) ?_
  rintro e w2 ⟨x2, u2, f2, rfl, hr2, hu2, st2, k2, h20, h28⟩
  obtain ⟨n, hn⟩ : ∃ n : Nat, x2.toInt = (n : Int) := ⟨x2.toInt.toNat, by omega⟩
  have HT2 : Hid (T1 w w2 B Bt s u2 f2 nm (.slice none 0 0) [] [] ∧ RdStep (pTo 8) (s.data.toList.drop u1) f1 x2 (s.data.toList.drop u2) f2 ∧ x2.toInt = (n : Int)) := ⟨HT.out.step hr2 hu2 k2, st2, hn⟩
  have hn8 : (n : Int) ≤ 8 := by omega
  rw [hn]
  clear hr2 hu2 st2 k2 h20 h28 hn HT
  go_upto_block 0 with fail
  go_cut [5] (fun _ wx => ∃ (u3 : Nat) (f3 : Bool) (a : Option Addr) (m q : Nat) (l : List Col) (R : List (List Value)) (W : World), wx = W ∧ Hid (T1 w W B Bt s u3 f3 nm (.slice a m q) l R ∧ RdStep (pRep pColR n) (s.data.toList.drop u2) f2 l (s.data.toList.drop u3) f3))
  case first =>
    go_wp2_with fail
    go_loopg [5] n (fun gg s5 wx => ∃ i : Nat, i + gg = n ∧ s5 = .int .i64 i ∧ ∃ (u3 : Nat) (f3 : Bool) (a : Option Addr) (q : Nat) (l : List Col) (R : List (List Value)), Hid (T1 w wx B Bt s u3 f3 nm (.slice a i q) l R ∧ RdStep (pRep pColR i) (s.data.toList.drop u2) f2 l (s.data.toList.drop u3) f3 ∧ R.length = i))
    case atStart => exact ⟨0, by omega, rfl, u2, f2, none, 0, [], [], HT2.out.1, step_rep0 _ _ _, rfl⟩
    case round =>
      obtain ⟨i, hig, rfl, u3, f3, a, q, l, R, HI⟩ := hrel
      obtain ⟨Wi, rfl⟩ : ∃ x, x = wr := ⟨_, rfl⟩
      have g2 := Box.cell HI.out.1.rd 2 _ rfl
      by_cases hi : i < n
      · have hiI : (i : Int) < (n : Int) := by omega
        cases f3 with
        | true =>
          have HE : Hid (RdStep (pRep pColR n) (s.data.toList.drop u2) f2 l (s.data.toList.drop u3) true) := step_stop n (by omega) HI.out.2.1
          go_wp2_with fail
          go_meet
          exact ⟨u3, true, a, i, q, l, R, _, rfl, HI.out.1, HE.out⟩
        | false =>
          have hr2 : IntKind.i64.wrap ((i : Int) + 1) = (i : Int) + 1 := by rw [IntKind.wrap_i64]; omega
          go_wp2_with fail
          clear g2
          refine Calls.mono (refName_rd HI.out.1.rd HI.out.1.le HW0.out.2.1) ?_
          rintro e w3 ⟨v3, cn, u4, f4, rfl, hv, hr3, hu3, st3, k3⟩
          have ev : v3 = .string cn := hv
          subst ev
          obtain ⟨Bc, hBc⟩ : ∃ Bc, Bc = w3.heap.size := ⟨_, rfl⟩
          obtain ⟨W3, hW3⟩ : ∃ W3, W3 = (w3.alloc (.cells #[.string ⟨#[]⟩, .int .i64 0, .bool false] 53)).setRow w3.heap.size #[.string cn, .int .i64 0, .bool false] := ⟨_, rfl⟩
          have HI3 : Hid (It Wi W3 B Bc s u4 f4 53 #[.string cn, .int .i64 0, .bool false] ∧ RdStep pName (s.data.toList.drop u3) false cn (s.data.toList.drop u4) f4) := by
            unfold Hid
            rw [hW3, hBc]
            exact ⟨it_new hr3 hu3 k3 (by have := HI.out.1.lt; have := HI.out.1.kp.size; omega) _ _ _, st3⟩
          have HWc : Hid (W3 = (w3.alloc (.cells #[.string ⟨#[]⟩, .int .i64 0, .bool false] 53)).setRow w3.heap.size #[.string cn, .int .i64 0, .bool false] ∧ Bc = w3.heap.size) := ⟨hW3, hBc⟩
          have HZc : Hid (∀ z, Box (w3.alloc (.cells z 53)) w3.heap.size 53 z) := fun z => box_new w3 z _
          have hone : (#[.string cn, .int .i64 0, .bool false] : Array Value).all (fun c => c.oneCell') = true := one_three (by intro u hu; simp only [List.mem_cons, List.not_mem_nil, or_false] at hu; rcases hu with rfl | rfl | rfl <;> rfl)
          clear hv hr3 hu3 st3 k3 hBc hW3
          go_wp2_with (refine wpList_store_row rfl 53 _ _ rfl w3.heap.size _ rfl rfl 53 _ (HZc.out _) size_col rfl hone ?_; rw [← HWc.out.1, ← HWc.out.2])
          clear hone
          refine Calls.mono (refNum_any HI3.out.1.rd HI3.out.1.le HW0.out.2.1 2 (by decide)) ?_
          rintro e w4 ⟨x4, u5, f5, rfl, hr4, hu4, st4, k4, _, _⟩
          obtain ⟨kx, hkx⟩ : ∃ y, y = x4.toInt := ⟨_, rfl⟩
          have HI4 : Hid (It Wi w4 B Bc s u5 f5 53 #[.string cn, .int .i64 0, .bool false] ∧ RdStep (pTo 2) (s.data.toList.drop u4) f4 x4 (s.data.toList.drop u5) f5 ∧ kx = x4.toInt) := ⟨HI3.out.1.step hr4 hu4 k4, st4, hkx⟩
          rw [← hkx]
          have j1 := HI4.out.1.bx.cell 1 _ rfl
          have j1f := HI4.out.1.bx.frozen 1
          obtain ⟨W5, hW5⟩ : ∃ W5, W5 = w4.setCell ⟨Bc, 1, none⟩ (.int .i64 kx) := ⟨_, rfl⟩
          have HI5 : Hid (W5 = w4.setCell ⟨Bc, 1, none⟩ (.int .i64 kx) ∧ It Wi W5 B Bc s u5 f5 53 #[.string cn, .int .i64 kx, .bool false]) := ⟨hW5, by rw [hW5]; exact HI4.out.1.set 1 _⟩
          clear hr4 hu4 st4 k4 hkx hW5
          go_wp2_with fail
          rw [← HI5.out.1]
          clear j1 j1f
          refine Calls.mono (refNum_any HI5.out.2.rd HI5.out.2.le HW0.out.2.1 1 (by decide)) ?_
          rintro e w6 ⟨x6, u7, f7, rfl, hr6, hu6, st6, k6, _, _⟩
          have HI6 : Hid (It Wi w6 B Bc s u7 f7 53 #[.string cn, .int .i64 kx, .bool false] ∧ RdStep (pTo 1) (s.data.toList.drop u5) f5 x6 (s.data.toList.drop u7) f7) := ⟨HI5.out.2.step hr6 hu6 k6, st6⟩
          obtain ⟨nu, hnu⟩ : ∃ y, y = (x6.toInt == 1) := ⟨_, rfl⟩
          have HNU : Hid (nu = decide (x6.toInt = 1)) := by unfold Hid; rw [hnu, Bool.eq_iff_iff]; simp
          have j2 := HI6.out.1.bx.cell 2 (.bool false) rfl
          have j2f := HI6.out.1.bx.frozen 2
          obtain ⟨W7, hW7⟩ : ∃ W7, W7 = w6.setCell ⟨Bc, 2, none⟩ (.bool nu) := ⟨_, rfl⟩
          have HI7 : Hid (W7 = w6.setCell ⟨Bc, 2, none⟩ (.bool nu) ∧ It Wi W7 B Bc s u7 f7 53 #[.string cn, .int .i64 kx, .bool nu]) := ⟨hW7, by rw [hW7]; exact HI6.out.1.set 2 _⟩
          have HNU2 : Hid ((x6.toInt == 1) = nu) := hnu.symm
          clear hr6 hu6 st6 k6 hW7 hnu
          go_upto_region 9 with fail
          rw [HNU2.out, ← HI7.out.1]
          clear j2 j2f
          have HT7 : Hid (T1 w W7 B Bt s u7 f7 nm (.slice a i q) l R) := HI.out.1.step HI7.out.2.rd HI7.out.2.le HI7.out.2.kp
          have y1 := HT7.out.bt.cell 1 (.slice a i q) rfl
          have j0 := HI7.out.2.bx.cell 0 (.string cn) rfl
          have j1 := HI7.out.2.bx.cell 1 (.int .i64 kx) rfl
          have j2 := HI7.out.2.bx.cell 2 (.bool nu) rfl
          have HO : Hid (∀ r ∈ [[Value.string cn, .int .i64 kx, .bool nu]], ∀ c ∈ r, c.oneCell' = true) := fun r hr => by
            simp only [List.mem_singleton] at hr
            rw [hr]
            intro c hc
            simp only [List.mem_cons, List.not_mem_nil, or_false] at hc
            rcases hc with rfl | rfl | rfl <;> rfl
          have HV : Hid (SRows (W7.alloc (.cells #[.string cn, .int .i64 kx, .bool nu] 53)) (.slice a i q) 53 3 R) := HT7.out.rows.of_block fun g hg => Below.heap_alloc _ _ g (HT7.out.rows.lt hg)
          have HC : Hid (∀ (j : Nat) (u : Value), [[Value.string cn, .int .i64 kx, .bool nu]].flatten[j]? = some u → (W7.alloc (.cells #[.string cn, .int .i64 kx, .bool nu] 53)).cell? ((⟨W7.heap.size, 0, none⟩ : Addr).add j) = some u) := fun j u hu => by
            rw [add_off, Nat.zero_add]
            exact (box_new W7 #[.string cn, .int .i64 kx, .bool nu] 53).cell j u (by simpa using hu)
          have HM : Hid (R.length + 1 = i + 1) := by unfold Hid; rw [HI.out.2.2]
          have HCE : Hid (ColE W7 ⟨cn, x4, decide (x6.toInt = 1)⟩ [.string cn, .int .i64 kx, .bool nu]) := by
            show [Value.string cn, .int .i64 kx, .bool nu] = [.string cn, .int .i64 x4.toInt, .bool (decide (x6.toInt = 1))]
            rw [HI4.out.2.2, HNU.out]
          go_wp2_with (at_builtin; refine append_any rfl (.tmp 40) (.tmp 42) 23 53 i0 (.agg #[.string ⟨#[]⟩, .int .i64 0, .bool false]) 3 32 rfl Tryz.underlying23 HIC.out.1 HIC.out.2.1 HIC.out.2.2.1 HIC.out.2.2.2 rfl (by decide) (by decide) rfl rfl HV.out (R2 := [[.string cn, .int .i64 kx, .bool nu]]) rfl (by simp) HC.out HO.out (i + 1) HM.out (R ++ [[.string cn, .int .i64 kx, .bool nu]]) rfl (by omega) ?_; intro va vc w8 hsr hwh hkk; have m8 := (HT7.out.mid _ hkk.out).cell 1 (.slice a i q) rfl; have m8f := (HT7.out.mid _ hkk.out).frozen 1; clear y1 j0 j1 j2)
          go_roundg (n - (i + 1))
          case measure => clear hr2; omega
          case rel => exact ⟨i + 1, by clear hr2; omega, by go_num, u7, f7, va, vc, _, _, HT7.out.add HCE.out hsr.out hwh.out hkk.out, step_rep HI.out.2.1 (colR_step HI3.out.2 HI4.out.2.1 HI6.out.2), by rw [List.length_append, HI.out.2.2]; rfl⟩
      · have hiI : ¬ (i : Int) < (n : Int) := by omega
        obtain rfl : i = n := by omega
        go_wp2_with fail
        go_meet
        exact ⟨u3, f3, a, i, q, l, R, _, rfl, HI.out.1, HI.out.2.1⟩
  case rest =>
    obtain ⟨u3, f3, a, m, q, l, R, W3, hw3, HT3⟩ := hcut
    replace hw3 := hw3.symm
    subst hw3
    go_wp2_with fail
    refine Calls.mono (refNum_any HT3.out.1.rd HT3.out.1.le HW0.out.2.1 6 (by decide)) ?_
    rintro e w4 ⟨x4, u4, f4, rfl, hr4, hu4, st4, k4, h40, h46⟩
    obtain ⟨np, hnp⟩ : ∃ n : Nat, x4.toInt = (n : Int) := ⟨x4.toInt.toNat, by omega⟩
    have HT4 : Hid (T2 w w4 w4 B Bt s u4 f4 nm (.slice a m q) l (.slice none 0 0) [] [] ∧ RdStep (pTo 6) (s.data.toList.drop u3) f3 x4 (s.data.toList.drop u4) f4 ∧ x4.toInt = (np : Int)) := ⟨(HT3.out.1.step hr4 hu4 k4).turn, st4, hnp⟩
    have hnp6 : (np : Int) ≤ 6 := by omega
    rw [hnp]
    clear hr4 hu4 st4 k4 h40 h46 hnp
    go_upto_block 2 with fail
    go_cut [8] (fun _ wx => ∃ (u5 : Nat) (f5 : Bool) (ap : Option Addr) (mp qp : Nat) (ps : List Pj) (R2 : List (List Value)) (W : World), wx = W ∧ Hid (T2 w w4 W B Bt s u5 f5 nm (.slice a m q) l (.slice ap mp qp) ps R2 ∧ RdStep (pRep pPjR np) (s.data.toList.drop u4) f4 ps (s.data.toList.drop u5) f5))
    case first =>
      go_wp2_with fail
      go_loopg [8] np (fun gg s8 wx => ∃ i : Nat, i + gg = np ∧ s8 = .int .i64 i ∧ ∃ (u5 : Nat) (f5 : Bool) (ap : Option Addr) (qp : Nat) (ps : List Pj) (R2 : List (List Value)), Hid (T2 w w4 wx B Bt s u5 f5 nm (.slice a m q) l (.slice ap i qp) ps R2 ∧ RdStep (pRep pPjR i) (s.data.toList.drop u4) f4 ps (s.data.toList.drop u5) f5 ∧ R2.length = i))
      case atStart => exact ⟨0, by omega, rfl, u4, f4, none, 0, [], [], HT4.out.1, step_rep0 _ _ _, rfl⟩
      case round =>
        obtain ⟨i, hig, rfl, u5, f5, ap, qp, ps, R2, HI⟩ := hrel
        obtain ⟨Wi, rfl⟩ : ∃ x, x = wr := ⟨_, rfl⟩
        have g2 := Box.cell HI.out.1.rd 2 _ rfl
        by_cases hi : i < np
        · have hiI : (i : Int) < (np : Int) := by omega
          cases f5 with
          | true =>
            have HE : Hid (RdStep (pRep pPjR np) (s.data.toList.drop u4) f4 ps (s.data.toList.drop u5) true) := step_stop np (by omega) HI.out.2.1
            go_wp2_with fail
            go_meet
            exact ⟨u5, true, ap, i, qp, ps, R2, _, rfl, HI.out.1, HE.out⟩
          | false =>
            have hr2 : IntKind.i64.wrap ((i : Int) + 1) = (i : Int) + 1 := by rw [IntKind.wrap_i64]; omega
            go_wp2_with fail
            clear g2
            refine Calls.mono (refName_rd HI.out.1.rd HI.out.1.le HW0.out.2.1) ?_
            rintro e w5 ⟨v5, pn, u6, f6, rfl, hv, hr5, hu5, st5, k5⟩
            have ev : v5 = .string pn := hv
            subst ev
            obtain ⟨Bp, hBp⟩ : ∃ Bp, Bp = w5.heap.size := ⟨_, rfl⟩
            obtain ⟨W5, hW5⟩ : ∃ W5, W5 = (w5.alloc (.cells #[.string ⟨#[]⟩, .slice none 0 0, .int .i64 0] 26)).setRow w5.heap.size #[.string pn, .slice none 0 0, .int .i64 0] := ⟨_, rfl⟩
            have HI5 : Hid (It Wi W5 B Bp s u6 f6 26 #[.string pn, .slice none 0 0, .int .i64 0] ∧ RdStep pName (s.data.toList.drop u5) false pn (s.data.toList.drop u6) f6) := by
              unfold Hid
              rw [hW5, hBp]
              exact ⟨it_new hr5 hu5 k5 (by have := HI.out.1.lt; have := HI.out.1.kp.size; omega) _ _ _, st5⟩
            have HWc : Hid (W5 = (w5.alloc (.cells #[.string ⟨#[]⟩, .slice none 0 0, .int .i64 0] 26)).setRow w5.heap.size #[.string pn, .slice none 0 0, .int .i64 0] ∧ Bp = w5.heap.size) := ⟨hW5, hBp⟩
            have HZc : Hid (∀ z, Box (w5.alloc (.cells z 26)) w5.heap.size 26 z) := fun z => box_new w5 z _
            have hone : (#[.string pn, .slice none 0 0, .int .i64 0] : Array Value).all (fun c => c.oneCell') = true := one_three (by intro u hu; simp only [List.mem_cons, List.not_mem_nil, or_false] at hu; rcases hu with rfl | rfl | rfl <;> rfl)
            clear hv hr5 hu5 st5 k5 hBp hW5
            go_wp2_with (refine wpList_store_row rfl 26 _ _ rfl w5.heap.size _ rfl rfl 26 _ (HZc.out _) size_pj rfl hone ?_; rw [← HWc.out.1, ← HWc.out.2])
            clear hone
            refine Calls.mono (refNum_any HI5.out.1.rd HI5.out.1.le HW0.out.2.1 8 (by decide)) ?_
            rintro e w6 ⟨x6, u7, f7, rfl, hr6, hu6, st6, k6, h60, h68⟩
            obtain ⟨nc, hnc⟩ : ∃ n : Nat, x6.toInt = (n : Int) := ⟨x6.toInt.toNat, by omega⟩
            have HI6 : Hid (P3 Wi w6 B Bp s u7 f7 pn (.slice none 0 0) [] ∧ RdStep (pTo 8) (s.data.toList.drop u6) f6 x6 (s.data.toList.drop u7) f7 ∧ x6.toInt = (nc : Int)) := ⟨⟨HI5.out.1.step hr6 hu6 k6, ownsI_nil _ _⟩, st6, hnc⟩
            have hnc8 : (nc : Int) ≤ 8 := by omega
            rw [hnc]
            clear hr6 hu6 st6 k6 h60 h68 hnc
            go_upto_block 4 with fail
            go_cut [11] (fun _ wx => ∃ (u8 : Nat) (f8 : Bool) (ai : Option Addr) (mi qi : Nat) (is : List (BitVec 64)) (W : World), wx = W ∧ Hid (P3 Wi W B Bp s u8 f8 pn (.slice ai mi qi) is ∧ RdStep (pRep (pTo 8) nc) (s.data.toList.drop u7) f7 is (s.data.toList.drop u8) f8))
            case first =>
              go_wp2_with fail
              go_loopg [11] nc (fun gk s11 wx => ∃ k : Nat, k + gk = nc ∧ s11 = .int .i64 k ∧ ∃ (u8 : Nat) (f8 : Bool) (v : Value) (is : List (BitVec 64)), Hid (P3 Wi wx B Bp s u8 f8 pn v is ∧ RdStep (pRep (pTo 8) k) (s.data.toList.drop u7) f7 is (s.data.toList.drop u8) f8 ∧ is.length = k))
              case atStart => exact ⟨0, by omega, rfl, u7, f7, .slice none 0 0, [], HI6.out.1, step_rep0 _ _ _, rfl⟩
              case round =>
                obtain ⟨k, hkg, rfl, u8, f8, v, is, HK⟩ := hrel
                obtain ⟨Wk, rfl⟩ : ∃ x, x = wr := ⟨_, rfl⟩
                have g2 := Box.cell HK.out.1.it.rd 2 _ rfl
                have ho := own_shape HK.out.1.own
                rw [HK.out.2.2] at ho
                obtain ⟨⟨ai, qi, rfl⟩, _⟩ := ho
                by_cases hk : k < nc
                · have hkI : (k : Int) < (nc : Int) := by omega
                  cases f8 with
                  | true =>
                    have HE : Hid (RdStep (pRep (pTo 8) nc) (s.data.toList.drop u7) f7 is (s.data.toList.drop u8) true) := step_stop nc (by omega) HK.out.2.1
                    go_wp2_with fail
                    go_meet
                    exact ⟨u8, true, ai, k, qi, is, _, rfl, HK.out.1, HE.out⟩
                  | false =>
                    have hr3 : IntKind.i64.wrap ((k : Int) + 1) = (k : Int) + 1 := by rw [IntKind.wrap_i64]; omega
                    go_wp2_with fail
                    clear g2
                    refine wp_region_held_then (fun W : World => W.cell? ⟨Bp, 1, none⟩ = some (.slice ai k qi)) _ (by kernel_rfl) rfl (by kernel_rfl) ?_
                    have HKd : Hid (P3 Wi Wk.drew B Bp s u8 false pn (.slice ai k qi) is) := HK.out.1.drew
                    have hHeld : (fun W : World => W.cell? ⟨Bp, 1, none⟩ = some (.slice ai k qi)) Wk.drew := HKd.out.it.bx.cell 1 (.slice ai k qi) rfl
                    dsimp only [List.dropLast, List.length, List.getLast]
                    ((refine takeL 0 (v := ?_) rfl (by kernel_rfl) (by kernel_rfl) (by kernel_rfl) (fun _ _ _ h => h) (by rfl) hHeld ?_ ?_; rotate_left; focus (intro w hSw; (try dsimp only at hSw); go_simp <;> with_reducible rfl); (try simp only [Act.put, List.setIfInBounds_toArray, List.set_cons_zero, List.set_cons_succ])); (refine takeL 1 (v := ?_) rfl (by kernel_rfl) (by kernel_rfl) (by kernel_rfl) (fun _ _ _ h => h) (by rfl) hHeld ?_ ?_; rotate_left; focus (intro w hSw; (try dsimp only at hSw); go_simp <;> with_reducible rfl); (try simp only [Act.put, List.setIfInBounds_toArray, List.set_cons_zero, List.set_cons_succ])); (refine takeL 2 (v := ?_) rfl (by kernel_rfl) (by kernel_rfl) (by kernel_rfl) (fun _ _ _ h => h) (by rfl) hHeld ?_ ?_; rotate_left; focus (intro w hSw; (try dsimp only at hSw); go_simp <;> with_reducible rfl); (try simp only [Act.put, List.setIfInBounds_toArray, List.set_cons_zero, List.set_cons_succ])))
                    dsimp only [Act.put]
                    simp only [List.setIfInBounds_toArray, List.set_cons_zero, List.set_cons_succ]
                    refine callL 3 (f := 52) (vs := #[.pointer (some ⟨B, 0, none⟩), .int .i64 8]) rfl (by kernel_rfl) (by rfl) (by go_simp) ?_
                    refine Calls.mono (refNum_any HKd.out.it.rd HKd.out.it.le HW0.out.2.1 8 (by decide)) ?_
                    rintro e w9 ⟨x9, u9, f9, rfl, hr9, hu9, st9, k9, _, _⟩
                    have HP9 : Hid (P3 Wi w9 B Bp s u9 f9 pn (.slice ai k qi) is ∧ RdStep (pTo 8) (s.data.toList.drop u8) false x9 (s.data.toList.drop u9) f9) := ⟨HKd.out.step hr9 hu9 k9, st9⟩
                    have hH9 : (fun W : World => W.cell? ⟨Bp, 1, none⟩ = some (.slice ai k qi)) w9 := HP9.out.1.it.bx.cell 1 (.slice ai k qi) rfl
                    refine ⟨_, rfl, hH9, ?_⟩
                    obtain ⟨kx, hkx⟩ : ∃ y, y = x9.toInt := ⟨_, rfl⟩
                    obtain ⟨v10, w10, hr10, ho10, hb10⟩ := run_append_i64 hkx HP9.out.1.own (HP9.out.1.it.bx.lt) (by rw [HK.out.2.2]; omega) 24
                    have ho := own_shape ho10
                    rw [show (is ++ [x9]).length = k + 1 by simp [HK.out.2.2]] at ho
                    obtain ⟨⟨a10, q10, rfl⟩, _⟩ := ho
                    rw [← hkx]
                    dsimp only [Act.put]
                    simp only [List.setIfInBounds_toArray, List.set_cons_zero, List.set_cons_succ]
                    refine newL 4 (w9.alloc (.cells #[.int .i64 kx] 3)) (.slice (some ⟨w9.heap.size, 0, none⟩) 1 1) rfl (by kernel_rfl) (by rfl) (by go_simp) ((HP9.out.1.it.bx.alloc _).cell 1 (.slice ai k qi) rfl) ?_
                    dsimp only [Act.put]
                    simp only [List.setIfInBounds_toArray, List.set_cons_zero, List.set_cons_succ]
                    have hB10 := HP9.out.1.it.bx.below hb10 (by omega)
                    have hH10 : (fun W : World => W.cell? ⟨Bp, 1, none⟩ = some (.slice ai k qi)) w10 := hB10.cell 1 (.slice ai k qi) rfl
                    refine newL 5 w10 (.slice a10 (k + 1) q10) rfl (by kernel_rfl) (by rfl) ?_ hH10 ?_
                    · unfold execOp
                      simp only [resolve, invoke, builtin, Sem.run_bind, Sem.run_pure, Result.andThen_ok, List.map_toArray, List.map_cons, List.map_nil]
                      exact then_val hr10
                    ((refine takeL 6 (v := ?_) rfl (by kernel_rfl) (by kernel_rfl) (by kernel_rfl) (fun _ _ _ h => h) (by rfl) hH10 ?_ ?_; rotate_left; focus (intro w hSw; (try dsimp only at hSw); go_simp <;> with_reducible rfl); (try simp only [Act.put, List.setIfInBounds_toArray, List.set_cons_zero, List.set_cons_succ])))
                    refine doneL (by kernel_rfl) ?_
                    have m10 := hB10.cell 1 (.slice ai k qi) rfl
                    have m10f := hB10.frozen 1
                    have HKN : Hid (P3 Wi (w10.setCell ⟨Bp, 1, none⟩ (.slice a10 (k + 1) q10)) B Bp s u9 f9 pn (.slice a10 (k + 1) q10) (is ++ [x9])) := HP9.out.1.add ho10 hb10
                    dsimp only [Act.put]
                    simp only [List.setIfInBounds_toArray, List.set_cons_zero, List.set_cons_succ]
                    clear hB10 hH10 hb10 ho10 hr10 hH9 hHeld hr9 hu9 st9 k9 hkx
                    unfold Oper.wp
                    go_simp
                    go_wp2_with fail
                    go_roundg (nc - (k + 1))
                    case measure => clear hr2 hr3; omega
                    case rel => exact ⟨k + 1, by clear hr2 hr3; omega, by go_num, u9, f9, _, _, HKN.out, step_rep HK.out.2.1 HP9.out.2, by rw [List.length_append, HK.out.2.2]; rfl⟩
                · have hkI : ¬ (k : Int) < (nc : Int) := by omega
                  obtain rfl : k = nc := by omega
                  go_wp2_with fail
                  go_meet
                  exact ⟨u8, f8, ai, k, qi, is, _, rfl, HK.out.1, HK.out.2.1⟩
            case rest =>
              obtain ⟨u8, f8, ai, mi, qi, is, W8, hw8, HP⟩ := hcut
              replace hw8 := hw8.symm
              subst hw8
              go_wp2_with fail
              refine Calls.mono (refNum_any HP.out.1.it.rd HP.out.1.it.le HW0.out.2.1 8 (by decide)) ?_
              rintro e w9 ⟨x9, u9, f9, rfl, hr9, hu9, st9, k9, _, _⟩
              obtain ⟨kx, hkx⟩ : ∃ y, y = x9.toInt := ⟨_, rfl⟩
              have HP9 : Hid (P3 Wi w9 B Bp s u9 f9 pn (.slice ai mi qi) is ∧ RdStep (pTo 8) (s.data.toList.drop u8) f8 x9 (s.data.toList.drop u9) f9 ∧ kx = x9.toInt) := ⟨HP.out.1.step hr9 hu9 k9, st9, hkx⟩
              rw [← hkx]
              have j2 := HP9.out.1.it.bx.cell 2 (.int .i64 0) rfl
              have j2f := HP9.out.1.it.bx.frozen 2
              obtain ⟨W9, hW9⟩ : ∃ W, W = w9.setCell ⟨Bp, 2, none⟩ (.int .i64 kx) := ⟨_, rfl⟩
              have HP8 : Hid (W9 = w9.setCell ⟨Bp, 2, none⟩ (.int .i64 kx) ∧ It Wi W9 B Bp s u9 f9 26 #[.string pn, .slice ai mi qi, .int .i64 kx] ∧ OwnsI W9 (Bp + 1) (.slice ai mi qi) is) := ⟨hW9, by rw [hW9]; exact HP9.out.1.it.set 2 _, by rw [hW9]; exact row_other1 HP9.out.1.own (by omega)⟩
              clear hr9 hu9 st9 k9 hkx hW9
              go_upto_region 21 with fail
              rw [← HP8.out.1]
              clear j2 j2f
              have HT9 : Hid (T2 w w4 W9 B Bt s u9 f9 nm (.slice a m q) l (.slice ap i qp) ps R2) := HI.out.1.step HP8.out.2.1.rd HP8.out.2.1.le HP8.out.2.1.kp
              have y2 := HT9.out.bt.cell 2 (.slice ap i qp) rfl
              have j0 := HP8.out.2.1.bx.cell 0 (.string pn) rfl
              have j1 := HP8.out.2.1.bx.cell 1 (.slice ai mi qi) rfl
              have j2 := HP8.out.2.1.bx.cell 2 (.int .i64 kx) rfl
              have HO : Hid (∀ r ∈ [[Value.string pn, .slice ai mi qi, .int .i64 kx]], ∀ c ∈ r, c.oneCell' = true) := fun r hr => by
                simp only [List.mem_singleton] at hr
                rw [hr]
                intro c hc
                simp only [List.mem_cons, List.not_mem_nil, or_false] at hc
                rcases hc with rfl | rfl | rfl <;> rfl
              have HV : Hid (SRows (W9.alloc (.cells #[.string pn, .slice ai mi qi, .int .i64 kx] 26)) (.slice ap i qp) 26 3 R2) := HT9.out.rows.of_block fun g hg => Below.heap_alloc _ _ g (HT9.out.rows.lt hg)
              have HC : Hid (∀ (j : Nat) (u : Value), [[Value.string pn, .slice ai mi qi, .int .i64 kx]].flatten[j]? = some u → (W9.alloc (.cells #[.string pn, .slice ai mi qi, .int .i64 kx] 26)).cell? ((⟨W9.heap.size, 0, none⟩ : Addr).add j) = some u) := fun j u hu => by
                rw [add_off, Nat.zero_add]
                exact (box_new W9 #[.string pn, .slice ai mi qi, .int .i64 kx] 26).cell j u (by simpa using hu)
              have HM : Hid (R2.length + 1 = i + 1) := by unfold Hid; rw [HI.out.2.2]
              have HPE : Hid (PjX (Gv w4 (.slice ap i qp)) W9 ⟨pn, is, x9⟩ [.string pn, .slice ai mi qi, .int .i64 kx]) := by
                refine ⟨.slice ai mi qi, by rw [HP9.out.2.2], ?_⟩
                have hsl := slX_of_ints HP8.out.2.2
                refine hsl.other (fun b _ hg => ?_) (fun _ _ h => h)
                have h1 := HP8.out.2.1.up
                have h2 := HI.out.1.up2
                rcases hg with hg | hg
                · show b < Bp + 1; omega
                · have := HI.out.1.rows.lt hg; show b < Bp + 1; omega
              go_wp2_with (at_builtin; refine append_any rfl (.tmp 87) (.tmp 89) 39 26 i9 (.agg #[.string ⟨#[]⟩, .slice none 0 0, .int .i64 0]) 3 48 rfl Tryz.underlying39 HIP.out.1 HIP.out.2.1 HIP.out.2.2.1 HIP.out.2.2.2 rfl (by decide) (by decide) rfl rfl HV.out (R2 := [[.string pn, .slice ai mi qi, .int .i64 kx]]) rfl (by simp) HC.out HO.out (i + 1) HM.out (R2 ++ [[.string pn, .slice ai mi qi, .int .i64 kx]]) rfl (by omega) ?_; intro va vc w10 hsr hwh hkk; have m8 := (HT9.out.mid _ hkk.out).cell 2 (.slice ap i qp) rfl; have m8f := (HT9.out.mid _ hkk.out).frozen 2; clear y2 j0 j1 j2)
              go_roundg (np - (i + 1))
              case measure => clear hr2; omega
              case rel => exact ⟨i + 1, by clear hr2; omega, by go_num, u9, f9, va, vc, _, _, HT9.out.add HPE.out hsr.out hwh.out hkk.out, step_rep HI.out.2.1 (pjR_step HI5.out.2 (step_list HI6.out.2.1 (by rw [HI6.out.2.2, Int.toNat_natCast]; exact HP.out.2)) HP9.out.2.1), by rw [List.length_append, HI.out.2.2]; rfl⟩
        · have hiI : ¬ (i : Int) < (np : Int) := by omega
          obtain rfl : i = np := by omega
          go_wp2_with fail
          go_meet
          exact ⟨u5, f5, ap, i, qp, ps, R2, _, rfl, HI.out.1, HI.out.2.1⟩
    case rest =>
      obtain ⟨u5, f5, ap, mp, qp, ps, R2, W6, hw6, HT6⟩ := hcut
      replace hw6 := hw6.symm
      subst hw6
      have y0 := HT6.out.1.bt.cell 0 (.string nm) rfl
      have y1 := HT6.out.1.bt.cell 1 (.slice a m q) rfl
      have y2 := HT6.out.1.bt.cell 2 (.slice ap mp qp) rfl
      have hone : (#[.string nm, .slice a m q, .slice ap mp qp] : Array Value).all (fun c => c.oneCell') = true := one_three (by intro u hu; simp only [List.mem_cons, List.not_mem_nil, or_false] at hu; rcases hu with rfl | rfl | rfl <;> rfl)
      go_wp2_with (refine wpList_store_row rfl 41 _ _ rfl w.heap.size _ rfl rfl 41 _ HT6.out.1.br size_tb rfl hone ?_)
      have hF := HT6.out.1.done
      exact bodyPost_ret (res_box Tryz.results53 _ rfl hF.2.1 Tryz.underlying41 rfl size_tb) rfl ⟨_, ⟨nm, l, ps⟩, u5, f5, rfl, ⟨_, _, _, rfl, hF.2.2.2⟩, hF.1, HT6.out.1.le, tbR_step HS1.out (step_list HT2.out.2.1 (by rw [HT2.out.2.2, Int.toNat_natCast]; exact HT3.out.2)) (step_list HT4.out.2.1 (by rw [HT4.out.2.2, Int.toNat_natCast]; exact HT6.out.2)), hF.2.2.1⟩
end Go.Proofs.YtdjobjbkpagnaaaGreat
/-
  The contract of the document's Take.
-/
namespace Go.Proofs.YtdjobjbkpagnaaaGreat
open Go.RowKit Leb

theorem lit_parseR {s : By} {l : List Tb} {r : By} (h : pTabsR s = some (l, r)) : litL l := by
  have h1 := list_few (Q := litT) (fun s x r hx => by
    unfold pTbR at hx
    simp only [Option.bind_eq_some_iff] at hx
    obtain ⟨a, ha, b, hb, c, hc, hx⟩ := hx
    cases hx
    have hn := name_few (n := a.1) (r := a.2) ha
    have hcs := list_few (Q := litC) (fun s x r hx => by
      unfold pColR at hx
      simp only [Option.bind_eq_some_iff] at hx
      obtain ⟨a, ha, b, hb, c, hc, hx⟩ := hx
      cases hx
      have := name_few (n := a.1) (r := a.2) ha
      unfold litC
      simp only
      omega) hb
    have hps := list_few (Q := litP) (fun s x r hx => by
      unfold pPjR at hx
      simp only [Option.bind_eq_some_iff] at hx
      obtain ⟨a, ha, b, hb, c, hc, hx⟩ := hx
      cases hx
      have := name_few (n := a.1) (r := a.2) ha
      have := (list_few (Q := fun _ : BitVec 64 => True) (fun _ _ _ _ => trivial) hb).1
      exact ⟨by simp only; omega, by simp only; omega⟩) hc
    exact ⟨by simp only; omega, by simp only; omega, by simp only; omega, hcs.2, hps.2⟩) h
  exact ⟨by omega, h1.2⟩
/-- While tables are read by the document. -/
structure T4 (w W : World) (B : Nat) (s : ByteArray) (u : Nat) (f : Bool) (v : Value) (l : List Tb) (R : List (List Value)) : Prop where
  rd : Rr W B s u f
  le : u ≤ s.size
  kp : Kept (fun b => b = B) w W
  lt : B < w.heap.size
  rows : SRows W v 41 3 R
  all : RowsE (TbX (Gv w v)) W l R
  own : ∀ b, v.ownBlock = some b → w.heap.size ≤ b
theorem T4.step {w W W2 : World} {B : Nat} {s : ByteArray} {u u2 : Nat} {f f2 : Bool} {v : Value} {l : List Tb} {R : List (List Value)} (h : T4 w W B s u f v l R) (hr : Rr W2 B s u2 f2) (hu : u2 ≤ s.size) (hk : Kept (fun b => b = B) W W2) : T4 w W2 B s u2 f2 v l R := by
  have hm : Kept (Gv w v) W W2 := hk.mono fun b hb => .inl (by rw [hb]; exact h.lt)
  exact ⟨hr, hu, h.kp.trans hk (fun _ h => .inl h), h.lt, h.rows.kept hk (fun g hg => by have := h.own g hg; have := h.lt; omega), ⟨h.all.1, fun i x r hx hr => tbX_kept (h.all.2 i x r hx hr) hm⟩, h.own⟩
theorem T4.add {w W W3 : World} {B : Nat} {s : ByteArray} {u : Nat} {f : Bool} {v v3 : Value} {l : List Tb} {R : List (List Value)} {x : Tb} {c0 c1 c2 : Value} (h : T4 w W B s u f v l R) (hx : TbX (Gv w v) W x [c0, c1, c2])
    (hs : SRows W3 v3 41 3 (R ++ [[c0, c1, c2]])) (hwh : ∀ k, v3.ownBlock = some k → v.ownBlock = some k ∨ (W.alloc (.cells #[c0, c1, c2] 41)).heap.size ≤ k) (hk : Kept (fun b => v.ownBlock = some b) (W.alloc (.cells #[c0, c1, c2] 41)) W3) :
    T4 w W3 B s u f v3 (l ++ [x]) (R ++ [[c0, c1, c2]]) := by
  have b1 := below1 W (.cells #[c0, c1, c2] 41)
  have ha : RowsE (TbX (Gv w v)) (W.alloc (.cells #[c0, c1, c2] 41)) (l ++ [x]) (R ++ [[c0, c1, c2]]) := rowsE_snoc ⟨h.all.1, fun i y r hy hr => tbX_kept (h.all.2 i y r hy hr) (kept_of_below _ b1)⟩ (tbX_kept hx (kept_of_below _ b1))
  have hB : ∀ b, v.ownBlock = some b → b ≠ B := fun b hb => by have := h.own b hb; have := h.lt; omega
  refine ⟨(Box.alloc h.rd _).kept hk (fun e => hB B e rfl), h.le, ?_, h.lt, hs, ⟨ha.1, fun i y r hy hr => ?_⟩, fun b hb => ?_⟩
  · have h1 := h.kp.alloc (.cells #[c0, c1, c2] 41)
    exact h1.trans hk (fun b hb => .inr (h.own b hb))
  · have e1 := tbX_other (H := G3 w v v3) (ha.2 i y r hy hr) (fun b hb hg => by
      rcases hg with hg | hg | hg
      · exact .inl hg
      · exact .inr hg
      · rcases hwh b hg with h1 | h1
        · exact .inr h1
        · omega)
    have e2 := tbX_kept e1 (hk.mono (G := G3 w v v3) fun b hb => .inr (.inl hb))
    exact tbX_other e2 (fun b _ hg => by
      rcases hg with hg | hg
      · exact .inl hg
      · exact .inr (.inr hg))
  · rcases hwh b hb with h1 | h1
    · exact h.own b h1
    · have := h.kp.size; have := b1.size; omega
set_option maxRecDepth 4000 in
set_option maxHeartbeats 8000000 in
theorem refTakeTabs_any (s : ByteArray) (hs : s.size ≤ 1000000) (w : World) :
    Calls Tryz.prog 19 #[.string s] w (TakeAns w (takeWith pTabsR s.data.toList)) := by
  obtain ⟨W0, hW0⟩ : ∃ W0, W0 = w.alloc (.cells #[.string s, .int .i64 0, .bool false] 83) := ⟨_, rfl⟩
  obtain ⟨B, hB⟩ : ∃ B, B = w.heap.size := ⟨_, rfl⟩
  have hrd : Rr W0 B s 0 false := by rw [hW0, hB]; exact box_new _ _ _
  have hb0 : Below w.heap.size w W0 := by rw [hW0]; exact below1 _ _
  have HW : Hid (W0 = w.alloc (.cells #[.string s, .int .i64 0, .bool false] 83) ∧ B = w.heap.size ∧ Below w.heap.size w W0 ∧ s.size ≤ 1000000 ∧ Rr W0 B s 0 false) := ⟨hW0, hB, hb0, hs, hrd⟩
  obtain ⟨i0, hi, hz0, hz1, hz2⟩ := info_parts infos_tb
  have HI0 : Hid (Tryz.prog.info? 41 = some i0 ∧ i0.zero = some (.agg #[.string ⟨#[]⟩, .slice none 0 0, .slice none 0 0]) ∧ i0.size = 3 ∧ i0.bytes = 64) := ⟨hi, hz0, hz1, hz2⟩
  clear hW0 hB hrd hb0 hs hi hz0 hz1 hz2
  go_enter Tryz.func19, Tryz.ntmps19
  go_wp2_with fail
  rw [← HW.out.1, ← HW.out.2.1]
  refine Calls.mono (refNum_any HW.out.2.2.2.2 (Nat.zero_le _) HW.out.2.2.2.1 8 (by decide)) ?_
  rintro e w1 ⟨x1, u1, f1, rfl, hr1, hu1, st1, k1, h10, h18⟩
  obtain ⟨n, hn⟩ : ∃ n : Nat, x1.toInt = (n : Int) := ⟨x1.toInt.toNat, by omega⟩
  have HT : Hid (T4 W0 w1 B s u1 f1 (.slice none 0 0) [] [] ∧ RdStep (pTo 8) (s.data.toList.drop 0) false x1 (s.data.toList.drop u1) f1 ∧ x1.toInt = (n : Int)) := ⟨⟨hr1, hu1, k1, Box.lt HW.out.2.2.2.2, srows_nil _ _ _, ⟨rfl, fun i x r hx => by simp at hx⟩, fun b hb => by simp [Value.ownBlock] at hb⟩, st1, hn⟩
  have hn8 : (n : Int) ≤ 8 := by omega
  rw [hn]
  clear hr1 hu1 st1 k1 h10 h18 hn
  go_upto_block 0 with fail
  go_cut [7, 8] (fun s7 _ wx => ∃ (u3 : Nat) (f3 : Bool) (a : Option Addr) (m q : Nat) (l : List Tb) (R : List (List Value)) (W : World), s7 = .slice a m q ∧ wx = W ∧ Hid (T4 W0 W B s u3 f3 (.slice a m q) l R ∧ RdStep (pRep pTbR n) (s.data.toList.drop u1) f1 l (s.data.toList.drop u3) f3))
  case first =>
    go_wp2_with fail
    go_loopg [7, 8] n (fun gg s7 s8 wx => ∃ i : Nat, i + gg = n ∧ s8 = .int .i64 i ∧ ∃ (u3 : Nat) (f3 : Bool) (a : Option Addr) (q : Nat) (l : List Tb) (R : List (List Value)), s7 = .slice a i q ∧ Hid (T4 W0 wx B s u3 f3 (.slice a i q) l R ∧ RdStep (pRep pTbR i) (s.data.toList.drop u1) f1 l (s.data.toList.drop u3) f3 ∧ R.length = i))
    case atStart => exact ⟨0, by omega, rfl, u1, f1, none, 0, [], [], rfl, HT.out.1, step_rep0 _ _ _, rfl⟩
    case round =>
      obtain ⟨i, hig, rfl, u3, f3, a, q, l, R, rfl, HI⟩ := hrel
      obtain ⟨Wi, rfl⟩ : ∃ x, x = wr := ⟨_, rfl⟩
      have g2 := Box.cell HI.out.1.rd 2 _ rfl
      by_cases hi : i < n
      · have hiI : (i : Int) < (n : Int) := by omega
        cases f3 with
        | true =>
          have HE : Hid (RdStep (pRep pTbR n) (s.data.toList.drop u1) f1 l (s.data.toList.drop u3) true) := step_stop n (by omega) HI.out.2.1
          go_wp2_with fail
          go_meet
          exact ⟨u3, true, a, i, q, l, R, _, rfl, rfl, HI.out.1, HE.out⟩
        | false =>
          have hr2 : IntKind.i64.wrap ((i : Int) + 1) = (i : Int) + 1 := by rw [IntKind.wrap_i64]; omega
          go_wp2_with fail
          clear g2
          refine Calls.mono (refOne_any HI.out.1.rd HI.out.1.le HW.out.2.2.2.1) ?_
          rintro e w3 ⟨v3, x3, u4, f4, rfl, ⟨c0, c1, c2, rfl, hE⟩, hr3, hu3, st3, k3⟩
          have hL := HI.out.1.step hr3 hu3 k3
          have hE2 : TbX (Gv W0 (.slice a i q)) w3 x3 [c0, c1, c2] := tbX_other hE (fun b _ hg => by
            rcases hg with hg | hg
            · have := HI.out.1.kp.size; omega
            · exact HI.out.1.rows.lt hg)
          have HN : Hid (T4 W0 w3 B s u4 f4 (.slice a i q) l R ∧ TbX (Gv W0 (.slice a i q)) w3 x3 [c0, c1, c2] ∧ RdStep (pRep pTbR (i + 1)) (s.data.toList.drop u1) f1 (l ++ [x3]) (s.data.toList.drop u4) f4 ∧ R.length = i) := ⟨hL, hE2, step_rep HI.out.2.1 st3, HI.out.2.2⟩
          have hone := tbX_one hE2
          have HO : Hid (∀ r ∈ [[c0, c1, c2]], ∀ c ∈ r, c.oneCell' = true) := fun r hr => by simp only [List.mem_singleton] at hr; rw [hr]; exact hone
          have hSR := hL.rows
          have HV : Hid (SRows (w3.alloc (.cells #[c0, c1, c2] 41)) (.slice a i q) 41 3 R) := hSR.of_block fun g hg => Below.heap_alloc _ _ g (hSR.lt hg)
          have HC : Hid (∀ (j : Nat) (u : Value), [[c0, c1, c2]].flatten[j]? = some u → (w3.alloc (.cells #[c0, c1, c2] 41)).cell? ((⟨w3.heap.size, 0, none⟩ : Addr).add j) = some u) := fun j u hu => by
            rw [add_off, Nat.zero_add]
            exact (box_new w3 #[c0, c1, c2] 41).cell j u (by simpa using hu)
          have HM : Hid (R.length + 1 = i + 1) := by unfold Hid; rw [HI.out.2.2]
          clear hE hr3 hu3 st3 k3 hL hE2 hone hSR
          go_wp2_with (at_builtin; refine append_any rfl (.tmp 26) (.tmp 29) 22 41 i0 (.agg #[.string ⟨#[]⟩, .slice none 0 0, .slice none 0 0]) 3 64 rfl Tryz.underlying22 HI0.out.1 HI0.out.2.1 HI0.out.2.2.1 HI0.out.2.2.2 rfl (by decide) (by decide) rfl rfl HV.out (R2 := [[c0, c1, c2]]) rfl (by simp) HC.out HO.out (i + 1) HM.out (R ++ [[c0, c1, c2]]) rfl (by omega) ?_; intro va vc w4 hsr hwh hkk)
          go_roundg (n - (i + 1))
          case measure => clear hr2; omega
          case rel => exact ⟨i + 1, by clear hr2; omega, by go_num, u4, f4, va, vc, l ++ [x3], R ++ [[c0, c1, c2]], rfl, HN.out.1.add HN.out.2.1 hsr.out hwh.out hkk.out, HN.out.2.2.1, by rw [List.length_append, HN.out.2.2.2]; rfl⟩
      · have hiI : ¬ (i : Int) < (n : Int) := by omega
        obtain rfl : i = n := by omega
        go_wp2_with fail
        go_meet
        exact ⟨u3, f3, a, i, q, l, R, _, rfl, rfl, HI.out.1, HI.out.2.1⟩
  case rest =>
    obtain ⟨u3, f3, a, m, q, l, R, W3, rfl, hw3, HT3⟩ := hcut
    replace hw3 := hw3.symm
    subst hw3
    have hst : RdStep pTabsR s.data.toList false l (s.data.toList.drop u3) f3 := by
      have := step_list HT.out.2.1 (by rw [HT.out.2.2, Int.toNat_natCast]; exact HT3.out.2)
      rwa [List.drop_zero] at this
    have hb : Below w.heap.size w W3 := HW.out.2.2.1.trans (HT3.out.1.kp.below (fun b hb => by rw [hb, HW.out.2.1]; exact Nat.le_refl _) HW.out.2.2.1.size)
    have hT : TabsIs W3 (.slice a m q) l := (slX_of_srows (G := fun _ => False) HT3.out.1.rows HT3.out.1.all (fun _ _ h => h)).is (fun _ _ h => h.is)
    have HR : Hid (TabsIs W3 (.slice a m q) l ∧ Below w.heap.size w W3 ∧ Rr W3 B s u3 f3 ∧ u3 ≤ s.size ∧ RdStep pTabsR s.data.toList false l (s.data.toList.drop u3) f3) := ⟨hT, hb, HT3.out.1.rd, HT3.out.1.le, hst⟩
    have g2 := Box.cell HT3.out.1.rd 2 _ rfl
    clear hst hb hT
    cases f3 with
    | true =>
      have HE : Hid (takeWith pTabsR s.data.toList = ([], 0, 20)) := by
        unfold Hid takeWith
        cases e : pTabsR s.data.toList with
        | none => rfl
        | some q => have := ((HR.out.2.2.2.2.2.2 rfl).1 q.1 q.2 e).2.2; cases this
      go_wp2_with fail
      go_ret3
      rw [HE.out]
      exact ⟨⟨_, rfl, slIs_nil _ _ _ _ _⟩, HR.out.2.1⟩
    | false =>
      obtain ⟨r, hp⟩ : ∃ r, pTabsR s.data.toList = some (l, r) := by
        cases e : pTabsR s.data.toList with
        | none => have := (HR.out.2.2.2.2.2.2 rfl).2 e; cases this
        | some q => have := (HR.out.2.2.2.2.2.2 rfl).1 q.1 q.2 e; rw [this.1]; exact ⟨q.2, rfl⟩
      have hr2 : s.data.toList.drop u3 = r := ((HR.out.2.2.2.2.2.2 rfl).1 l r hp).2.1
      have cc := refMay_any HR.out.1 (lit_parseR hp)
      have HP : Hid (takeWith pTabsR s.data.toList = if tabsB l then (l, u3, 0) else ([], 0, 20)) := by
        unfold Hid takeWith
        rw [hp]
        simp only
        rw [← hr2, List.length_drop, size_list, show s.size - (s.size - u3) = u3 by have := HR.out.2.2.2.1; omega]
      clear hp hr2
      cases hq : tabsB l with
      | false =>
        rw [hq] at cc HP
        simp only [Bool.false_eq_true, if_false] at HP
        clear hq
        go_wp2_with fail
        refine cc.mono ?_
        rintro e w2 ⟨rfl, hb2⟩
        have HF : Hid (Below w.heap.size w w2) := HR.out.2.1.trans (hb2.mono HR.out.2.1.size)
        clear cc hb2 g2
        go_wp2_with fail
        go_ret3
        rw [HP.out]
        exact ⟨⟨_, rfl, slIs_nil _ _ _ _ _⟩, HF.out⟩
      | true =>
        rw [hq] at cc HP
        simp only [if_true] at HP
        clear hq
        go_wp2_with fail
        refine cc.mono ?_
        rintro e w2 ⟨rfl, hb2⟩
        have hr2 : Rr w2 B s u3 false := Box.over HR.out.2.2.1 hb2
        have d1 := Box.cell hr2 1 _ rfl
        have HF : Hid (TabsIs w2 (.slice a m q) l ∧ Below w.heap.size w w2) := ⟨HR.out.1.over stays_tb hb2, HR.out.2.1.trans (hb2.mono HR.out.2.1.size)⟩
        clear hr2 hb2 g2 cc
        go_wp2_with fail
        go_quiet (fail)
        go_wp2_with fail
        go_ret3
        rw [HP.out]
        exact ⟨⟨_, rfl, HF.out.1.over stays_tb ⟨rfl, rfl, rfl, Nat.le_refl _, fun _ _ => rfl⟩⟩, drewN_below HF.out.2 _⟩
end Go.Proofs.YtdjobjbkpagnaaaGreat
/-
  The walk of law 25's SchemaBytes: any tables as bytes, and the tables of any bytes; what is put is taken as it was, whatever stands behind.
-/
namespace Go.Proofs.YtdjobjbkpagnaaaGreat
open Go.RowKit Go.Shelf Leb

theorem take_lit (p : By → Option (List Tb × By)) (s : By) : litL (takeWith p s).1 := by
  have h0 : litL [] := ⟨by simp, fun t ht => by simp at ht⟩
  unfold takeWith
  split
  · split
    · rename_i h
      exact tabs_lit h
    · exact h0
  · exact h0
theorem encTabs_few {l : List Tb} (h : tabsB l = true) : (encTabs l).length ≤ 10000 := by
  obtain ⟨h1, h2, _⟩ := tabs_parts h
  have h3 : ∀ t ∈ l, (encTb t).length ≤ 1200 := fun t ht => by
    obtain ⟨g1, g2, g3, g4, _⟩ := tb_parts (h2 t ht)
    have hn := encName_le t.name
    have hs := (name_len g1).2
    have hk : t.cols.length ≤ 8 := (cols_lit g2).1
    have hc : (encL encCol t.cols).length ≤ 10 + 8 * 46 := encL_le (fun c hc => by
      unfold colsB at g2
      simp only [Bool.and_eq_true, decide_eq_true_eq, List.all_eq_true] at g2
      have h5 := g2.1.2 c hc
      unfold colOk at h5
      rw [Bool.and_eq_true] at h5
      have h6 := (name_len h5.1).2
      have h7 := encName_le c.name
      have h8 := enc1_le c.kind
      have h9 := enc1_le (nullW c.null)
      unfold encCol
      rw [List.length_append, List.length_append]
      omega) hk
    have hp : (encL encPj t.projs).length ≤ 10 + 6 * 126 := encL_le (fun p hp => by
      have h5 := pj_few (g4 p hp) hk
      have h7 := encName_le p.name
      have h8 : (encAll p.cols).length ≤ 10 + 8 * 10 := by rw [encAll_L]; exact encL_le (fun x _ => enc1_le x) h5.2
      have h9 := enc1_le p.keys
      unfold encPj
      rw [List.length_append, List.length_append]
      omega) g3
    unfold encTb
    rw [List.length_append, List.length_append]
    omega
  have := encL_le (enc := encTb) h3 h1
  unfold encTabs
  omega
set_option maxRecDepth 4000 in
set_option maxHeartbeats 4000000 in
theorem walkSchemaBytes {w : World} (a : Option Addr) (len cap : Nat) (h0 : ∃ l, TabsIs w (.slice a len cap) l) (s : ByteArray) (_ : s.size ≤ maxLen) :
    Calls Tryz.prog 5 #[.slice a len cap, .string s] w fun e w' => e = .returned (.bool true) ∧ Below w.heap.size w w' := by
  obtain ⟨l, h0⟩ := h0
  have HA : Hid (∀ W, Calls Tryz.prog 9 #[] W fun e w' => e = .returned (.bool true) ∧ Below W.heap.size W w') := awake_any
  have HH : Hid (TabsIs w (.slice a len cap) l) := h0
  have cl := refLight_any h0
  clear h0
  go_enter Tryz.func5, Tryz.ntmps5
  go_wp2_with fail
  refine Calls.mono cl ?_
  rintro e w1 ⟨⟨q, rfl, hq⟩, hb1⟩
  have HB1 : Hid (Below w.heap.size w w1) := hb1
  clear cl hb1
  cases q with
  | false =>
    clear hq
    go_wp2_with fail
    refine Calls.mono (HA.out _) ?_
    rintro e w2 ⟨rfl, hb2⟩
    have HB2 : Hid (Below w.heap.size w w2) := HB1.out.trans (hb2.mono HB1.out.size)
    clear hb2
    go_wp2_with fail
    go_ret
    exact ⟨rfl, HB2.out⟩
  | true =>
    have HS : Hid (litL l) := (hq rfl).lit
    clear hq
    by_cases hs : 512 < (s.size : Int)
    · go_wp2_with fail
      refine Calls.mono (HA.out _) ?_
      rintro e w2 ⟨rfl, hb2⟩
      have HB2 : Hid (Below w.heap.size w w2) := HB1.out.trans (hb2.mono HB1.out.size)
      clear hb2
      go_wp2_with fail
      go_ret
      exact ⟨rfl, HB2.out⟩
    · have HSZ : Hid (s.size ≤ 512) := by unfold Hid; omega
      have hsI : (s.size : Int) ≤ 512 := by omega
      have HPB : Hid ((str (putF l).1).size ≤ 10000) := by
        unfold Hid putF
        cases hq : tabsB l with
        | true => exact encTabs_few hq
        | false => exact Nat.zero_le _
      have c1 := putTabs_any (HH.out.over stays_tb HB1.out) HS.out
      have HC2 : Hid (∀ W, Below w.heap.size w W → Calls Tryz.prog 17 #[.slice a len cap] W fun e w' => e = .returned (.tuple #[.string (str (putF l).1), .int .i64 (putF l).2]) ∧ Below W.heap.size W w') := fun W hW => refPutTabs_any (HH.out.over stays_tb hW) HS.out
      have HC3 : Hid (∀ W, Calls Tryz.prog 18 #[.string s] W (TakeAns W (takeWith pTabsC s.data.toList))) := fun W => takeTabs_any s (by have := HSZ.out; omega) W
      have HC4 : Hid (∀ W, Calls Tryz.prog 19 #[.string s] W (TakeAns W (takeWith pTabsC s.data.toList))) := fun W => by rw [take_same]; exact refTakeTabs_any s (by have := HSZ.out; omega) W
      have HC5 : Hid (∀ W, Calls Tryz.prog 18 #[.string (str (putF l).1 ++ s)] W (TakeAns W (takeWith pTabsC ((putF l).1 ++ s.data.toList)))) := fun W => by
        have h1 := takeTabs_any (str (putF l).1 ++ s) (by rw [ByteArray.size_append]; have := HSZ.out; have := HPB.out; omega) W
        rwa [show (str (putF l).1 ++ s).data.toList = (putF l).1 ++ s.data.toList by simp [str]] at h1
      have HL : Hid (litL (takeWith pTabsC s.data.toList).1) := take_lit _ _
      have HK : Hid ((putF l).2 = 1 ∨ ((putF l).2 = 0 ∧ takeWith pTabsC ((putF l).1 ++ s.data.toList) = (l, (str (putF l).1).size, 0))) := by
        unfold Hid putF
        cases hq : tabsB l with
        | true => exact .inr ⟨rfl, by simp only [if_true]; rw [take_put hq]; rfl⟩
        | false => exact .inl rfl
      obtain ⟨r3, hr3⟩ : ∃ r, r = takeWith pTabsC ((putF l).1 ++ s.data.toList) := ⟨_, rfl⟩
      obtain ⟨r, hr⟩ : ∃ r, r = takeWith pTabsC s.data.toList := ⟨_, rfl⟩
      rw [← hr3] at HC5 HK
      rw [← hr] at HC3 HC4 HL
      obtain ⟨S, hS⟩ : ∃ S, S = str (putF l).1 := ⟨_, rfl⟩
      obtain ⟨pe, hpe⟩ : ∃ z, z = (putF l).2 := ⟨_, rfl⟩
      rw [← hS] at c1 HC2 HC5 HPB HK
      rw [← hpe] at c1 HC2 HK
      clear hr3 hr hS hpe hs
      obtain ⟨rl, ru, re⟩ := r
      obtain ⟨zl, zu, ze⟩ := r3
      have hSn : S.size ≤ 10000 := HPB.out
      have hSS : (S.toList != S.toList) = false := by simp
      have hpp : (pe != pe) = false := by simp
      have huu : ((ru : Int) != (ru : Int)) = false := by simp
      have hee : (re != re) = false := by simp
      go_wp2_with fail
      refine Calls.mono c1 ?_
      rintro e w2 ⟨rfl, hb2⟩
      have HB2 : Hid (Below w.heap.size w w2) := HB1.out.trans (hb2.mono HB1.out.size)
      clear c1 hb2
      go_wp2_with fail
      refine Calls.mono (HC2.out _ HB2.out) ?_
      rintro e w3 ⟨rfl, hb3⟩
      have HB3 : Hid (Below w.heap.size w w3) := HB2.out.trans (hb3.mono HB2.out.size)
      clear hb3
      go_wp2_with fail
      refine Calls.mono (HC3.out _) ?_
      rintro e w4 ⟨⟨v4, rfl, hT4⟩, hb4⟩
      have HT4 : Hid (TabsIs w4 v4 rl ∧ Below w.heap.size w w4) := ⟨hT4, HB3.out.trans (hb4.mono HB3.out.size)⟩
      obtain ⟨a4, m4, p4, rfl, _⟩ := hT4.slice
      clear hT4 hb4
      dsimp only
      go_wp2_with fail
      refine Calls.mono (HC4.out _) ?_
      rintro e w5 ⟨⟨v5, rfl, hT5⟩, hb5⟩
      have HT5 : Hid (TabsIs w5 v5 rl ∧ TabsIs w5 (.slice a4 m4 p4) rl ∧ Below w.heap.size w w5) := ⟨hT5, HT4.out.1.over stays_tb hb5, HT4.out.2.trans (hb5.mono HT4.out.2.size)⟩
      obtain ⟨a5, m5, p5, rfl, _⟩ := hT5.slice
      clear hT5 hb5
      dsimp only
      go_wp2_with fail
      refine Calls.mono (sameTabs_any HT5.out.2.1 HT5.out.1 HL.out) ?_
      rintro e w6 ⟨rfl, hb6⟩
      have HB6 : Hid (Below w.heap.size w w6) := HT5.out.2.2.trans (hb6.mono HT5.out.2.2.size)
      clear hb6
      go_wp2_with fail
      refine Calls.mono (HC5.out _) ?_
      rintro e w7 ⟨⟨v7, rfl, hT7⟩, hb7⟩
      have HT7 : Hid (TabsIs w7 v7 zl ∧ Below w.heap.size w w7) := ⟨hT7, HB6.out.trans (hb7.mono HB6.out.size)⟩
      obtain ⟨a7, m7, p7, rfl, _⟩ := hT7.slice
      clear hT7 hb7
      dsimp only
      rcases HK.out with rfl | ⟨rfl, hz⟩
      · go_wp2_with fail
        refine Calls.mono (HA.out _) ?_
        rintro e w9 ⟨rfl, hb9⟩
        have HB9 : Hid (Below w.heap.size w w9) := HT7.out.2.trans (hb9.mono HT7.out.2.size)
        clear hb9
        go_wp2_with fail
        go_ret
        exact ⟨rfl, HB9.out⟩
      · simp only [Prod.mk.injEq] at hz
        obtain ⟨rfl, rfl, rfl⟩ := hz
        have hkk : ((S.size : Int) == (S.size : Int)) = true := by simp
        go_wp2_with fail
        refine Calls.mono (sameTabs_any HT7.out.1 (HH.out.over stays_tb HT7.out.2) HS.out) ?_
        rintro e w8 ⟨rfl, hb8⟩
        have HB8 : Hid (Below w.heap.size w w8) := HT7.out.2.trans (hb8.mono HT7.out.2.size)
        clear hb8
        go_wp2_with fail
        refine Calls.mono (HA.out _) ?_
        rintro e w9 ⟨rfl, hb9⟩
        have HB9 : Hid (Below w.heap.size w w9) := HB8.out.trans (hb9.mono HB8.out.size)
        clear hb9
        go_wp2_with fail
        go_ret
        exact ⟨rfl, HB9.out⟩
end Go.Proofs.YtdjobjbkpagnaaaGreat
