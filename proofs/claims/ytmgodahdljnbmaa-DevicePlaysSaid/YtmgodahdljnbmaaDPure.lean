/-
  What a device is, without memory: blocks that are sure, writes that wait, a fuse, the power. No program is spoken of.
-/
namespace Go.Proofs.Ytmgodahdljnbmaa

structure St where
  sure : List (List UInt8)
  wait : List (Nat × List UInt8)
  fuse : Int
  off : Bool

/-- Writes laid upon blocks, one behind the other. -/
def lay (sure : List (List UInt8)) (wait : List (Nat × List UInt8)) : List (List UInt8) := wait.foldl (fun s x => s.set x.1 x.2) sure
theorem lay_nil (s : List (List UInt8)) : lay s [] = s := rfl
theorem lay_len : ∀ (wait : List (Nat × List UInt8)) (s : List (List UInt8)), (lay s wait).length = s.length
  | [], _ => rfl
  | x :: r, s => by
    show (lay (s.set x.1 x.2) r).length = _
    rw [lay_len r]; simp
theorem lay_cons (s : List (List UInt8)) (x : Nat × List UInt8) (r : List (Nat × List UInt8)) : lay s (x :: r) = lay (s.set x.1 x.2) r := rfl
theorem lay_append (s : List (List UInt8)) (a b : List (Nat × List UInt8)) : lay s (a ++ b) = lay (lay s a) b := by simp [lay, List.foldl_append]
theorem lay_snoc (s : List (List UInt8)) (a : List (Nat × List UInt8)) (x : Nat × List UInt8) : lay s (a ++ [x]) = (lay s a).set x.1 x.2 := by rw [lay_append]; rfl
theorem lay_mem {p : List UInt8 → Prop} : ∀ (wait : List (Nat × List UInt8)) (s : List (List UInt8)), (∀ b ∈ s, p b) → (∀ x ∈ wait, p x.2) → ∀ b ∈ lay s wait, p b
  | [], _, h, _ => h
  | x :: r, s, h, h2 => by
    rw [lay_cons]
    refine lay_mem r _ ?_ (fun y hy => h2 y (by simp [hy]))
    intro b hb
    rcases List.mem_or_eq_of_mem_set hb with hb | rfl
    · exact h b hb
    · exact h2 x (by simp)
/-- A block to which no write waits is as it is sure. -/
theorem lay_other (k : Nat) : ∀ (wait : List (Nat × List UInt8)) (s : List (List UInt8)), (∀ x ∈ wait, x.1 ≠ k) → (lay s wait)[k]? = s[k]?
  | [], _, _ => rfl
  | x :: r, s, h => by
    rw [lay_cons, lay_other k r _ (fun y hy => h y (by simp [hy])), List.getElem?_set_ne (h x (by simp))]
/-- Blocks that differ in one alone, to which no write waits. -/
theorem lay_set (k : Nat) (b : List UInt8) : ∀ (wait : List (Nat × List UInt8)) (s : List (List UInt8)), lay (s.set k b) (wait.filter fun x => x.1 != k) = (lay s wait).set k b
  | [], _ => rfl
  | x :: r, s => by
    rw [lay_cons]
    by_cases h : x.1 = k
    · subst h
      simp only [List.filter_cons, bne_self_eq_false, Bool.false_eq_true, if_false]
      rw [← lay_set x.1 b r (s.set x.1 x.2), List.set_set]
    · have h' : (x.1 != k) = true := by simp [h]
      simp only [List.filter_cons, h', if_true]
      rw [lay_cons, List.set_comm _ _ (fun e => h e.symm), lay_set k b r]
/-- Which of the writes survive. -/
def keepW (f : Nat → Bool) : Nat → List (Nat × List UInt8) → List (Nat × List UInt8)
  | _, [] => []
  | i, x :: r => if f i then x :: keepW f (i + 1) r else keepW f (i + 1) r
theorem keepW_mem (f : Nat → Bool) : ∀ (l : List (Nat × List UInt8)) (i : Nat) (x), x ∈ keepW f i l → x ∈ l
  | [], _, _, h => by simp [keepW] at h
  | y :: r, i, x, h => by
    unfold keepW at h
    split at h
    · rcases List.mem_cons.1 h with h | h
      · simp [h]
      · exact List.mem_cons_of_mem _ (keepW_mem f r _ x h)
    · exact List.mem_cons_of_mem _ (keepW_mem f r _ x h)
theorem keepW_congr (f g : Nat → Bool) : ∀ (l : List (Nat × List UInt8)) (i : Nat), (∀ k, i ≤ k → k < i + l.length → f k = g k) → keepW f i l = keepW g i l
  | [], _, _ => rfl
  | y :: r, i, h => by
    unfold keepW
    rw [h i (Nat.le_refl _) (by simp), keepW_congr f g r (i + 1) (fun k h1 h2 => h k (by omega) (by simp; omega))]
theorem keepW_snoc (f : Nat → Bool) (x : Nat × List UInt8) : ∀ (l : List (Nat × List UInt8)) (i : Nat), keepW f i (l ++ [x]) = keepW f i l ++ (if f (i + l.length) then [x] else [])
  | [], i => by simp only [List.nil_append, keepW, List.length_nil, Nat.add_zero]
  | y :: r, i => by
    have e : i + 1 + r.length = i + (y :: r).length := by simp; omega
    simp only [List.cons_append, keepW]
    rw [keepW_snoc f x r (i + 1), e]
    split <;> simp
/-- Back to what is sure, wherever a write waited: that is what is sure. -/
def back (sure : List (List UInt8)) (seen : List (List UInt8)) (wait : List (Nat × List UInt8)) : List (List UInt8) := wait.foldl (fun s x => s.set x.1 (sure.getD x.1 [])) seen
theorem back_len (sure : List (List UInt8)) : ∀ (wait : List (Nat × List UInt8)) (s : List (List UInt8)), (back sure s wait).length = s.length
  | [], _ => rfl
  | x :: r, s => by
    show (back sure (s.set x.1 _) r).length = _
    rw [back_len sure r]; simp
theorem back_snoc (sure s : List (List UInt8)) (a : List (Nat × List UInt8)) (x : Nat × List UInt8) : back sure s (a ++ [x]) = (back sure s a).set x.1 (sure.getD x.1 []) := by simp [back, List.foldl_append]
theorem back_at (sure : List (List UInt8)) (k : Nat) (hk : k < sure.length) : ∀ (wait : List (Nat × List UInt8)) (s : List (List UInt8)), s.length = sure.length → ((∀ x ∈ wait, x.1 ≠ k) → s[k]? = sure[k]?) → (back sure s wait)[k]? = sure[k]?
  | [], s, _, h => h (by simp)
  | x :: r, s, hl, h => by
    show (back sure (s.set x.1 _) r)[k]? = _
    refine back_at sure k hk r _ (by simpa using hl) ?_
    intro h2
    by_cases e : x.1 = k
    · subst e
      rw [List.getElem?_set_self (by omega), List.getElem?_eq_getElem hk]
      simp [hk]
    · rw [List.getElem?_set_ne e]
      exact h (by intro y hy; rcases List.mem_cons.1 hy with rfl | hy; exact e; exact h2 y hy)
theorem back_all (sure : List (List UInt8)) (wait kept : List (Nat × List UInt8)) (hk : ∀ x ∈ kept, x ∈ wait) : back (lay sure kept) (lay sure wait) wait = lay sure kept := by
  apply List.ext_getElem?
  intro k
  by_cases h : k < (lay sure kept).length
  · refine back_at _ k h wait _ (by simp [lay_len]) ?_
    intro h2
    rw [lay_other k wait sure h2, lay_other k kept sure (fun x hx => h2 x (hk x hx))]
  · rw [List.getElem?_eq_none (by rw [back_len, lay_len]; rw [lay_len] at h; omega), List.getElem?_eq_none (by omega)]
/-- The last write to a block, or what is sure of it. -/
theorem lay_last (s : List (List UInt8)) (a : List (Nat × List UInt8)) (x : Nat × List UInt8) (b : List (Nat × List UInt8)) (hb : ∀ y ∈ b, y.1 ≠ x.1) (hx : x.1 < s.length) : (lay s (a ++ x :: b))[x.1]? = some x.2 := by
  rw [lay_append, lay_cons, lay_other x.1 b _ hb, List.getElem?_set_self (by rw [lay_len]; exact hx)]

/-- A doing is done, or the power goes off. -/
def St.goes (s : St) : Bool := !s.off && s.fuse != 0
def St.burnt (s : St) : St := { s with fuse := if s.off then s.fuse else if s.fuse = 0 then -1 else if 0 < s.fuse then s.fuse - 1 else s.fuse, off := s.off || s.fuse == 0 }
def St.write (s : St) (k : Nat) (b : List UInt8) : St := { s.burnt with wait := s.wait ++ [(k, b)] }
def St.synced (s : St) : St := { s.burnt with sure := lay s.sure s.wait, wait := [] }
def St.crashed (s : St) (f : Nat → Bool) : St := { sure := lay s.sure (keepW f 0 s.wait), wait := [], fuse := -1, off := false }
def St.spoilt (s : St) (k : Nat) (b : List UInt8) : St := { s with sure := s.sure.set k b, wait := s.wait.filter fun x => x.1 != k }
end Go.Proofs.Ytmgodahdljnbmaa
