/-
  Two devices of the call's own, and blocks of the law's own beside them.
-/
import Derived.Test.YtmgodahdljnbmaaDFree
import Derived.Test.YtmgodahdljnbmaaArr
namespace Go.Proofs.Ytmgodahdljnbmaa
open Go.RowKit

structure Two (w0 w : World) (p c : Nat) (H1 H2 : Hnd) (s1 s2 : St) (F : Nat → Prop) : Prop where
  o1 : Own w0 w p H1 s1
  o2 : Own w0 w c H2 s2
  dis : ∀ k, H1.foot k → ¬ H2.foot k
  own : ∀ k, F k → k < w.heap.size ∧ w0.heap.size ≤ k ∧ ¬ H1.foot k ∧ ¬ H2.foot k
section
variable {w0 w w' : World} {p c : Nat} {H1 H2 H' : Hnd} {s1 s2 s' : St} {F : Nat → Prop}
theorem Two.op1 (t : Two w0 w p c H1 H2 s1 s2 F) (o : Own w0 w' p H' s') (T : Turned H1 H' w w') : Two w0 w' p c H' H2 s' s2 F ∧ ∀ k, F k → w'.heap[k]? = w.heap[k]? := by
  refine ⟨⟨o, ⟨t.o2.dev.kept T.kept (fun x h1 h2 => t.dis x h2 h1), o.bel, t.o2.abv, t.o2.at_⟩, ?_, ?_⟩, ?_⟩
  · intro k h1 h2
    rcases T.foot k h1 with h | h
    · exact t.dis k h h2
    · have := t.o2.dev.lt h2; omega
  · intro k hk
    obtain ⟨h1, h2, h3, h4⟩ := t.own k hk
    refine ⟨Nat.lt_of_lt_of_le h1 T.kept.size, h2, ?_, h4⟩
    intro h
    rcases T.foot k h with h | h
    · exact h3 h
    · omega
  · intro k hk
    obtain ⟨h1, h2, h3, h4⟩ := t.own k hk
    exact T.kept.block k h1 h3
theorem Two.op2 (t : Two w0 w p c H1 H2 s1 s2 F) (o : Own w0 w' c H' s') (T : Turned H2 H' w w') : Two w0 w' p c H1 H' s1 s' F ∧ ∀ k, F k → w'.heap[k]? = w.heap[k]? := by
  refine ⟨⟨⟨t.o1.dev.kept T.kept (fun x h1 h2 => t.dis x h1 h2), o.bel, t.o1.abv, t.o1.at_⟩, o, ?_, ?_⟩, ?_⟩
  · intro k h1 h2
    rcases T.foot k h2 with h | h
    · exact t.dis k h1 h
    · have := t.o1.dev.lt h1; omega
  · intro k hk
    obtain ⟨h1, h2, h3, h4⟩ := t.own k hk
    refine ⟨Nat.lt_of_lt_of_le h1 T.kept.size, h2, h3, ?_⟩
    intro h
    rcases T.foot k h with h | h
    · exact h4 h
    · omega
  · intro k hk
    obtain ⟨h1, h2, h3, h4⟩ := t.own k hk
    exact T.kept.block k h1 h4
theorem Two.below (t : Two w0 w p c H1 H2 s1 s2 F) (b : Below w.heap.size w w') : Two w0 w' p c H1 H2 s1 s2 F ∧ ∀ k, F k → w'.heap[k]? = w.heap[k]? :=
  ⟨⟨t.o1.below b, t.o2.below b, t.dis, fun k hk => ⟨Nat.lt_of_lt_of_le (t.own k hk).1 b.size, (t.own k hk).2⟩⟩, fun k hk => b.block k (t.own k hk).1⟩
/-- What turns the law's own blocks alone. -/
theorem Two.kept (t : Two w0 w p c H1 H2 s1 s2 F) (k : Kept F w w') : Two w0 w' p c H1 H2 s1 s2 F := by
  have b : Below w0.heap.size w w' := k.below (fun x hx => (t.own x hx).2.1) t.o1.bel.size
  refine ⟨⟨t.o1.dev.kept k (fun x h hf => (t.own x hf).2.2.1 h), t.o1.bel.trans b, t.o1.abv, t.o1.at_⟩, ⟨t.o2.dev.kept k (fun x h hf => (t.own x hf).2.2.2 h), t.o2.bel.trans b, t.o2.abv, t.o2.at_⟩, t.dis, fun x hx => ⟨Nat.lt_of_lt_of_le (t.own x hx).1 k.size, (t.own x hx).2⟩⟩
theorem Two.more {F' : Nat → Prop} (t : Two w0 w p c H1 H2 s1 s2 F) (h : ∀ k, F' k → k < w.heap.size ∧ w0.heap.size ≤ k ∧ ¬ H1.foot k ∧ ¬ H2.foot k) : Two w0 w p c H1 H2 s1 s2 F' := ⟨t.o1, t.o2, t.dis, h⟩
end
theorem Kept.setRow {F : Nat → Prop} {a w : World} (h : Kept F a w) {b : Nat} (hb : F b ∨ a.heap.size ≤ b) (cs : Array Value) : Kept F a (w.setRow b cs) :=
  ⟨h.os, h.tape, h.output, by have := h.size; simp; omega, fun x hx hF => by
    rw [setRow_other w b x cs (fun e => by subst e; rcases hb with h1 | h1; exact hF h1; omega), h.block x hx hF]⟩

/-- Eight bytes, eight bools, as cells. -/
def r8 (L : Nat → UInt8) (i : Nat) : Value := .int .u8 ((L i).toNat : Int)
def t8 (T : Nat → Bool) (i : Nat) : Value := .bool (T i)
def z41 : Array Value := Array.replicate 8 (.int .u8 0)
def z42 : Array Value := Array.replicate 8 (.bool false)
theorem arr41 : Arr.IsArr Try.prog 41 8 5 z41 where
  hu := Try.underlying41
  hz := fun w => (zero_of_info (n := 8) (by kernel_rfl)).1 w
  hi := by kernel_rfl
  hb := by kernel_rfl
  hs := by simp [z41]
theorem arr42 : Arr.IsArr Try.prog 42 8 4 z42 where
  hu := Try.underlying42
  hz := fun w => (zero_of_info (n := 8) (by kernel_rfl)).1 w
  hi := by kernel_rfl
  hb := by kernel_rfl
  hs := by simp [z42]
/-- The law's own three arrays. -/
structure Arrs (w : World) (b1 b2 b3 : Nat) (S L : Nat → UInt8) (T : Nat → Bool) : Prop where
  s : w.rowIs b1 41 8 (r8 S)
  l : w.rowIs b2 41 8 (r8 L)
  t : w.rowIs b3 42 8 (t8 T)
def F3 (b1 b2 b3 : Nat) (k : Nat) : Prop := k = b1 ∨ k = b2 ∨ k = b3
theorem Arrs.of_block {w w' : World} {b1 b2 b3 : Nat} {S L : Nat → UInt8} {T : Nat → Bool} (a : Arrs w b1 b2 b3 S L T) (h : ∀ k, F3 b1 b2 b3 k → w'.heap[k]? = w.heap[k]?) : Arrs w' b1 b2 b3 S L T :=
  ⟨a.s.of_block (h _ (.inl rfl)), a.l.of_block (h _ (.inr (.inl rfl))), a.t.of_block (h _ (.inr (.inr rfl)))⟩
/-- What the arrays say of a device's blocks. -/
structure Says (su : List (List UInt8)) (wt : List (Nat × List UInt8)) (S L : Nat → UInt8) (T : Nat → Bool) : Prop where
  n : su.length = 8
  l : ∀ j, j < 8 → (lay su wt)[j]? = some (fl (L j))
  s : ∀ j, j < 8 → su[j]? = some (fl (S j))
  t : ∀ x ∈ wt, T x.1 = true
section
variable {su : List (List UInt8)} {wt : List (Nat × List UInt8)} {S L : Nat → UInt8} {T : Nat → Bool}
theorem says_new : Says (List.replicate 8 (List.replicate 128 0)) [] (fun _ => 0) (fun _ => 0) (fun _ => false) :=
  ⟨by simp, fun j hj => by rw [lay_nil, List.getElem?_replicate, if_pos hj]; rfl, fun j hj => by rw [List.getElem?_replicate, if_pos hj]; rfl, by simp⟩
theorem Says.write (h : Says su wt S L T) {q : Nat} (hq : q < 8) (c : UInt8) : Says su (wt ++ [(q, fl c)]) S (fun i => if i = q then c else L i) (fun i => if i = q then true else T i) := by
  refine ⟨h.n, ?_, h.s, ?_⟩
  · intro j hj
    rw [lay_snoc]
    by_cases e : j = q
    · subst e
      rw [List.getElem?_set_self (by rw [lay_len, h.n]; exact hj)]
      simp
    · rw [List.getElem?_set_ne (fun h => e h.symm), h.l j hj]
      simp [e]
  · intro x hx
    rcases List.mem_append.1 hx with hx | hx
    · have := h.t x hx
      simp [this]
    · simp at hx
      rw [hx]
      simp
theorem Says.sync (h : Says su wt S L T) : Says (lay su wt) [] L L (fun _ => false) := ⟨by rw [lay_len, h.n], fun j hj => h.l j hj, fun j hj => h.l j hj, by simp⟩
theorem Says.sure (h : Says su wt S L T) (f : Nat → Bool) {j : Nat} (hj : j < 8) (ht : T j = false) : (lay su (keepW f 0 wt))[j]? = some (fl (S j)) := by
  rw [lay_other j _ _ (fun x hx e => by
    have := h.t x (keepW_mem f _ _ x hx)
    rw [e, ht] at this
    cases this)]
  exact h.s j hj
end
theorem keepW_all (f : Nat → Bool) : ∀ (l : List (Nat × List UInt8)) (i : Nat), (∀ k, i ≤ k → k < i + l.length → f k = true) → keepW f i l = l
  | [], _, _ => rfl
  | y :: r, i, h => by
    unfold keepW
    rw [h i (Nat.le_refl _) (by simp), keepW_all f r (i + 1) (fun k h1 h2 => h k (by omega) (by simp; omega))]
    rfl
/-- The numbers 0, 1 and so on. -/
def upto (m : Nat) : List (BitVec 64) := (List.range m).map (BitVec.ofNat 64)
theorem upto_len (m : Nat) : (upto m).length = m := by simp [upto]
theorem upto_succ (m : Nat) : upto (m + 1) = upto m ++ [BitVec.ofNat 64 m] := by simp [upto, List.range_succ]
theorem among_upto {m k : Nat} (hk : k < m) (hm : m < 1000000) : among (upto m) k = true := by
  unfold among upto
  rw [List.any_eq_true]
  refine ⟨BitVec.ofNat 64 k, List.mem_map.2 ⟨k, List.mem_range.2 hk, rfl⟩, ?_⟩
  rw [toInt_small k (by omega)]
  simp
theorem OwnsI.kept {w w' : World} {B : Nat} {v : Value} {l : List (BitVec 64)} {F : Nat → Prop} (h : OwnsI w B v l) (k : Kept F w w') (hF : ∀ x, F x → x < B) : OwnsI w' B v l := by
  refine ⟨h.1, ?_⟩
  rcases h.2 with hn | ⟨g, cap, cur, rfl, hbg, hg, rest⟩
  · exact .inl hn
  · refine .inr ⟨g, cap, cur, rfl, hbg, ?_, rest⟩
    rw [k.block g (Array.getElem?_eq_some_iff.1 hg).1 (fun h => by have := hF g h; omega)]
    exact hg
end Go.Proofs.Ytmgodahdljnbmaa
