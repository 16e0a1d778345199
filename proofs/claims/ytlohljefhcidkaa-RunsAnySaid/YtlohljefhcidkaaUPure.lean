/-
  Runs, as lists: which may be, where they end, what they have, their bytes, the runs of numbers. Pure mathematics.
-/
import Derived.Test.YtlohljefhcidkaaVPut
import Derived.Test.YtlohljefhcidkaaVRefTake
namespace Go.Proofs.Ytlohljefhcidkaa
open Leb

/-- A run: its number, the place of its first one, how many. -/
structure Rn where
  v : BitVec 64
  f : Int
  c : Int
/-- The place behind the last one. -/
def endR (rs : List Rn) : Int := match rs.getLast? with | none => 0 | some r => r.f + r.c
structure Link (p : List Rn) (r : Rn) : Prop where
  f : r.f = endR p
  c1 : 1 ≤ r.c
  c2 : r.c ≤ 65536 - endR p
/-- The run r may stand behind the runs p. -/
structure Fol (p : List Rn) (r : Rn) : Prop where
  link : Link p r
  diff : ∀ q, p.getLast? = some q → q.v ≠ r.v
def Chain (rs : List Rn) : Prop := ∀ (k : Nat) (r : Rn), rs[k]? = some r → Link (rs.take k) r
/-- Runs that may be. -/
def May (rs : List Rn) : Prop := ∀ (k : Nat) (r : Rn), rs[k]? = some r → Fol (rs.take k) r
theorem May.chain {rs : List Rn} (h : May rs) : Chain rs := fun k r hr => (h k r hr).link
theorem endR_nil : endR [] = 0 := rfl
theorem endR_snoc (p : List Rn) (r : Rn) : endR (p ++ [r]) = r.f + r.c := by simp [endR]
theorem take_succ_of {α : Type} {l : List α} {k : Nat} {x : α} (h : l[k]? = some x) : l.take (k + 1) = l.take k ++ [x] := by
  obtain ⟨hk, rfl⟩ := List.getElem?_eq_some_iff.1 h
  exact List.take_succ_eq_append_getElem hk
theorem snoc_at {α : Type} {p : List α} {x y : α} {k : Nat} (h : (p ++ [x])[k]? = some y) : (k < p.length ∧ p[k]? = some y ∧ (p ++ [x]).take k = p.take k) ∨ (k = p.length ∧ y = x ∧ (p ++ [x]).take k = p) := by
  have hlt := (List.getElem?_eq_some_iff.1 h).1
  rw [List.length_append, List.length_singleton] at hlt
  by_cases hk : k < p.length
  · rw [List.getElem?_append_left hk] at h
    exact .inl ⟨hk, h, List.take_append_of_le_length (by omega)⟩
  · obtain rfl : k = p.length := by omega
    simp at h
    exact .inr ⟨rfl, h.symm, by simp⟩
theorem chain_nil : Chain [] := fun k r h => by simp at h
theorem may_nil : May [] := fun k r h => by simp at h
theorem chain_snoc {p : List Rn} {r : Rn} (h : Chain p) (hr : Link p r) : Chain (p ++ [r]) := by
  intro k x hx
  rcases snoc_at hx with ⟨_, h1, h2⟩ | ⟨_, rfl, h2⟩
  · rw [h2]; exact h k x h1
  · rw [h2]; exact hr
theorem may_snoc {p : List Rn} {r : Rn} (h : May p) (hr : Fol p r) : May (p ++ [r]) := by
  intro k x hx
  rcases snoc_at hx with ⟨_, h1, h2⟩ | ⟨_, rfl, h2⟩
  · rw [h2]; exact h k x h1
  · rw [h2]; exact hr
theorem chain_take {rs : List Rn} (h : Chain rs) (n : Nat) : Chain (rs.take n) := by
  intro k r hr
  rw [List.getElem?_take] at hr
  split at hr
  · rw [List.take_take, Nat.min_eq_left (by omega)]; exact h k r hr
  · cases hr
theorem may_take {rs : List Rn} (h : May rs) (n : Nat) : May (rs.take n) := by
  intro k r hr
  rw [List.getElem?_take] at hr
  split at hr
  · rw [List.take_take, Nat.min_eq_left (by omega)]; exact h k r hr
  · cases hr
theorem chain_pre {p q : List Rn} (h : Chain (p ++ q)) : Chain p := by
  have := chain_take h p.length
  rwa [List.take_left] at this
theorem may_pre {p q : List Rn} (h : May (p ++ q)) : May p := by
  have := may_take h p.length
  rwa [List.take_left] at this
theorem may_last {p : List Rn} {r : Rn} (h : May (p ++ [r])) : Fol p r := by
  have := h p.length r (by simp)
  rwa [List.take_left] at this
theorem may_mid {p q : List Rn} {r : Rn} (h : May (p ++ r :: q)) : Fol p r := by
  have := h p.length r (by simp)
  rwa [List.take_left] at this
theorem chain_mid {p q : List Rn} {r : Rn} (h : Chain (p ++ r :: q)) : Link p r := by
  have := h p.length r (by simp)
  rwa [List.take_left] at this
/-- Where the first k end. -/
theorem end_step {rs : List Rn} (h : Chain rs) {k : Nat} {r : Rn} (hr : rs[k]? = some r) : r.f = endR (rs.take k) ∧ endR (rs.take (k + 1)) = endR (rs.take k) + r.c := by
  have := (h k r hr).f
  rw [take_succ_of hr, endR_snoc]
  omega
theorem end_take_bd {rs : List Rn} (h : Chain rs) : ∀ k : Nat, k ≤ rs.length → (k : Int) ≤ endR (rs.take k) ∧ endR (rs.take k) ≤ 65536 := by
  intro k
  induction k with
  | zero => intro _; simp [endR]
  | succ k ih =>
    intro hk
    have := ih (by omega)
    have hr := List.getElem?_eq_getElem (l := rs) (i := k) (by omega)
    have h1 := end_step h hr
    have h2 := h k _ hr
    have := h2.c1
    have := h2.c2
    omega
theorem end_bd {rs : List Rn} (h : Chain rs) : (rs.length : Int) ≤ endR rs ∧ endR rs ≤ 65536 := by
  have := end_take_bd h rs.length (Nat.le_refl _)
  rwa [List.take_length] at this
theorem chain_len {rs : List Rn} (h : Chain rs) : rs.length ≤ 65536 := by have := end_bd h; omega
theorem end_mono {rs : List Rn} (h : Chain rs) {j k : Nat} (hk : k ≤ rs.length) (hj : j ≤ k) : endR (rs.take j) ≤ endR (rs.take k) := by
  induction k with
  | zero => obtain rfl : j = 0 := by omega
            exact Int.le_refl _
  | succ k ih =>
    rcases Nat.lt_or_ge k j with h1 | h1
    · obtain rfl : j = k + 1 := by omega
      exact Int.le_refl _
    · have := ih (by omega) h1
      have hr := List.getElem?_eq_getElem (l := rs) (i := k) (by omega)
      have h1 := end_step h hr
      have := (h k _ hr).c1
      omega
theorem end_le {rs : List Rn} (h : Chain rs) {j : Nat} (hj : j ≤ rs.length) : endR (rs.take j) ≤ endR rs := by
  have := end_mono h (Nat.le_refl _) hj
  rwa [List.take_length] at this
theorem end_pre {p q : List Rn} (h : Chain (p ++ q)) : endR p ≤ endR (p ++ q) := by
  have := end_le h (j := p.length) (by simp)
  rwa [List.take_left] at this
/-- The bounds of one of the runs. -/
theorem run_bd {rs : List Rn} (h : Chain rs) {k : Nat} {r : Rn} (hr : rs[k]? = some r) : 0 ≤ r.f ∧ 1 ≤ r.c ∧ r.c ≤ 65536 ∧ r.f + r.c ≤ endR rs ∧ r.f + r.c ≤ 65536 ∧ r.f = endR (rs.take k) ∧ r.f + r.c = endR (rs.take (k + 1)) := by
  have hk : k < rs.length := (List.getElem?_eq_some_iff.1 hr).1
  have h1 := end_step h hr
  have h2 := h k r hr
  have := h2.c1
  have := h2.c2
  have h3 := end_take_bd h k (by omega)
  have h4 := end_le h (j := k + 1) (by omega)
  have h5 := end_bd h
  omega

/-- The numbers that runs have. -/
def flat (rs : List Rn) : List (BitVec 64) := rs.flatMap fun r => List.replicate r.c.toNat r.v
theorem flat_snoc (p : List Rn) (r : Rn) : flat (p ++ [r]) = flat p ++ List.replicate r.c.toNat r.v := by simp [flat]
theorem flat_take_len {rs : List Rn} (h : Chain rs) : ∀ k : Nat, k ≤ rs.length → ((flat (rs.take k)).length : Int) = endR (rs.take k) := by
  intro k
  induction k with
  | zero => intro _; simp [flat, endR]
  | succ k ih =>
    intro hk
    have := ih (by omega)
    have hr := List.getElem?_eq_getElem (l := rs) (i := k) (by omega)
    have h1 := end_step h hr
    have := (h k _ hr).c1
    rw [h1.2, take_succ_of hr, flat_snoc, List.length_append, List.length_replicate]
    omega
theorem flat_len {rs : List Rn} (h : Chain rs) : ((flat rs).length : Int) = endR rs := by
  have := flat_take_len h rs.length (Nat.le_refl _)
  rwa [List.take_length] at this

/-- The run that has a place. -/
def inR (a : Int) (r : Rn) : Bool := decide (r.f ≤ a) && decide (a < r.f + r.c)
def findA (rs : List Rn) (a : Int) : Nat × Int := match rs.findIdx? (inR a) with | some k => (k, 0) | none => (0, 3)
theorem findA_some {rs : List Rn} {a : Int} {k : Nat} {r : Rn} (hr : rs[k]? = some r) (h1 : r.f ≤ a) (h2 : a < r.f + r.c) (hall : ∀ (j : Nat) x, j < k → rs[j]? = some x → ¬ (x.f ≤ a ∧ a < x.f + x.c)) : findA rs a = (k, 0) := by
  have : rs.findIdx? (inR a) = some k := by
    rw [List.findIdx?_eq_some_iff_getElem]
    obtain ⟨hk, e⟩ := List.getElem?_eq_some_iff.1 hr
    refine ⟨hk, by rw [e]; simp [inR, h1, h2], fun j hj => ?_⟩
    have := hall j _ hj (List.getElem?_eq_getElem (by omega))
    simpa [inR] using this
  unfold findA
  rw [this]
theorem findA_none {rs : List Rn} {a : Int} (hall : ∀ (j : Nat) x, rs[j]? = some x → ¬ (x.f ≤ a ∧ a < x.f + x.c)) : findA rs a = (0, 3) := by
  have : rs.findIdx? (inR a) = none := by
    rw [List.findIdx?_eq_none_iff]
    intro x hx
    obtain ⟨j, hj⟩ := List.getElem?_of_mem hx
    have := hall j x hj
    simpa [inR] using this
  unfold findA
  rw [this]
theorem findA_out {rs : List Rn} (h : Chain rs) {a : Int} (ha : a < 0 ∨ endR rs ≤ a) : findA rs a = (0, 3) :=
  findA_none fun j x hx => by
    have := run_bd h hx
    omega
/-- What a search by ends finds. -/
theorem findA_ends {rs : List Rn} (h : Chain rs) {a : Int} (h0 : 0 ≤ a) (h1 : a < endR rs) {k : Nat} (hk : k ≤ rs.length) (ha : ∀ (j : Nat) x, j < k → rs[j]? = some x → x.f + x.c ≤ a) (hb : ∀ (j : Nat) x, k ≤ j → rs[j]? = some x → a < x.f + x.c) : findA rs a = (k, 0) := by
  have hk2 : k < rs.length := by
    rcases Nat.lt_or_ge k rs.length with h2 | h2
    · exact h2
    · exfalso
      obtain rfl : k = rs.length := by omega
      have hpos : 0 < rs.length := by
        rcases Nat.eq_zero_or_pos rs.length with e | e
        · rw [List.eq_nil_of_length_eq_zero e] at h1
          simp [endR] at h1
          omega
        · exact e
      have hr := List.getElem?_eq_getElem (l := rs) (i := rs.length - 1) (by omega)
      have h3 := ha _ _ (by omega) hr
      have h4 := run_bd h hr
      rw [show rs.length - 1 + 1 = rs.length by omega, List.take_length] at h4
      omega
  have hr := List.getElem?_eq_getElem hk2
  refine findA_some hr ?_ (hb k _ (Nat.le_refl _) hr) (fun j x hj hx hin => ?_)
  · have h3 := (run_bd h hr).2.2.2.2.2.1
    rcases Nat.eq_zero_or_pos k with rfl | hp
    · rw [h3]; simp [endR]; exact h0
    · have hq := List.getElem?_eq_getElem (l := rs) (i := k - 1) (by omega)
      have h4 := ha _ _ (by omega) hq
      have h5 := run_bd h hq
      rw [show k - 1 + 1 = k by omega] at h5
      omega
  · have := ha j x hj hx
    omega

/-- The bytes of runs. -/
def encR (rs : List Rn) : List UInt8 := rs.flatMap fun r => enc1 r.v ++ enc1 (BitVec.ofInt 64 r.c)
theorem encR_snoc (p : List Rn) (r : Rn) : encR (p ++ [r]) = encR p ++ enc1 r.v ++ enc1 (BitVec.ofInt 64 r.c) := by simp [encR]
theorem encR_cons (r : Rn) (p : List Rn) : encR (r :: p) = enc1 r.v ++ (enc1 (BitVec.ofInt 64 r.c) ++ encR p) := by simp [encR]
theorem enc1_bd (x : BitVec 64) : 1 ≤ (enc1 x).length ∧ (enc1 x).length ≤ 10 := by rw [enc1_len]; exact lenW_bd _
theorem encR_len (rs : List Rn) : (encR rs).length ≤ 20 * rs.length ∧ 2 * rs.length ≤ (encR rs).length := by
  induction rs with
  | nil => simp [encR]
  | cons r p ih =>
    have h1 := enc1_bd r.v
    have h2 := enc1_bd (BitVec.ofInt 64 r.c)
    rw [encR_cons, List.length_append, List.length_append, List.length_cons]
    omega
theorem ofInt_toInt {c : Int} (h1 : 1 ≤ c) (h2 : c ≤ 65536) : (BitVec.ofInt 64 c).toInt = c := by
  rw [BitVec.toInt_ofInt]; simp [Int.bmod]; omega
theorem tk_enc (x : BitVec 64) (t : List UInt8) : tk (enc1 x ++ t) = (zigW x, (enc1 x).length, 0) := by
  rw [enc1_len]
  exact tk_ok (List.prefix_append _ _)
theorem enc1_inj {x y : BitVec 64} {a b : List UInt8} (h : enc1 x ++ a = enc1 y ++ b) : x = y ∧ a = b := by
  have h1 := tk_enc x a
  rw [h, tk_enc y b] at h1
  have h2 : zigW y = zigW x := congrArg (·.1) h1
  have h3 : y = x := by rw [← zag_zig y, h2, zag_zig]
  subst h3
  exact ⟨rfl, List.append_cancel_left h⟩
theorem enc_pre : ∀ (rs p R : List Rn) (s : List UInt8), Chain (p ++ rs) → Chain (p ++ R) → encR rs ++ s = encR R → ∃ R', R = rs ++ R' ∧ s = encR R'
  | [], p, R, s, _, _, h => ⟨R, rfl, by simpa [encR] using h⟩
  | r :: t, p, [], s, _, _, h => by
    have h1 := enc1_bd r.v
    have := congrArg List.length h
    rw [encR_cons] at this
    simp [encR] at this
    rw [this.1] at h1
    simp at h1
  | r :: t, p, r2 :: T, s, hc, hd, h => by
    rw [encR_cons, encR_cons, List.append_assoc, List.append_assoc] at h
    obtain ⟨h1, h2⟩ := enc1_inj h
    obtain ⟨h3, h4⟩ := enc1_inj h2
    have l1 := chain_mid hc
    have l2 := chain_mid hd
    have b1 := end_bd (chain_pre hc)
    have e1 : r.c = r2.c := by
      have := l1.c1
      have := l1.c2
      have := l2.c1
      have := l2.c2
      rw [← ofInt_toInt (c := r.c) (by omega) (by omega), h3, ofInt_toInt (by omega) (by omega)]
    have e2 : r.f = r2.f := by rw [l1.f, l2.f]
    obtain rfl : r = r2 := by
      cases r; cases r2
      simp only at h1 e1 e2
      subst h1 e1 e2
      rfl
    obtain ⟨R', h5, h6⟩ := enc_pre t (p ++ [r]) T s (by simpa using hc) (by simpa using hd) h4
    exact ⟨R', by rw [h5]; rfl, h6⟩
/-- Bytes of runs that have n numbers. -/
structure IsRuns (s : List UInt8) (n : Int) (rs : List Rn) : Prop where
  may : May rs
  enc : encR rs = s
  all : endR rs = n
theorem IsRuns.of_chain {s : List UInt8} {n : Int} {p R : List Rn} (h : IsRuns s n R) (hp : Chain p) {t : List UInt8} (hs : s = encR p ++ t) : ∃ R', R = p ++ R' ∧ t = encR R' :=
  enc_pre p [] R t hp h.may.chain (by rw [h.enc, hs])
theorem IsRuns.same {s : List UInt8} {n : Int} {p R : List Rn} (h : IsRuns s n R) (hp : Chain p) (hs : s = encR p) : R = p := by
  obtain ⟨R', h1, h2⟩ := h.of_chain hp (t := []) (by simpa using hs)
  cases R' with
  | nil => simpa using h1
  | cons r q =>
    have h3 := enc1_bd r.v
    have := congrArg List.length h2
    rw [encR_cons] at this
    simp at this
    omega
/-- What stands behind runs that bytes begin with. -/
theorem IsRuns.next {s : List UInt8} {n : Int} {p R : List Rn} (h : IsRuns s n R) (hp : Chain p) {t : List UInt8} (hs : s = encR p ++ t) (ht : t ≠ []) :
    ∃ (x y : BitVec 64) (q : List UInt8), t = enc1 x ++ (enc1 y ++ q) ∧ Fol p ⟨x, endR p, y.toInt⟩ ∧ endR p + y.toInt ≤ n := by
  obtain ⟨R', rfl, h2⟩ := h.of_chain hp hs
  cases R' with
  | nil => exact absurd (by simpa [encR] using h2) ht
  | cons r q =>
    rw [encR_cons] at h2
    have hf := may_mid h.may
    have hb := end_bd hp
    have h1 := hf.link.c1
    have h3 := hf.link.c2
    have e := ofInt_toInt (c := r.c) (by omega) (by omega)
    have er : (⟨r.v, endR p, (BitVec.ofInt 64 r.c).toInt⟩ : Rn) = r := by
      have := hf.link.f
      cases r
      simp only at e this
      simp only [e]
      rw [this]
    refine ⟨r.v, BitVec.ofInt 64 r.c, _, h2, by rw [er]; exact hf, ?_⟩
    have hm : Chain ((p ++ [r]) ++ q) := by simpa using h.may.chain
    have h4 := end_pre hm
    rw [endR_snoc, hf.link.f] at h4
    have h5 := h.all
    rw [show p ++ r :: q = (p ++ [r]) ++ q by simp] at h5
    omega
/-- Two numbers that bytes begin with. -/
def Two (t : List UInt8) : Prop := ∃ (x y : BitVec 64) (q : List UInt8), t = enc1 x ++ (enc1 y ++ q)
theorem tk_some {t : List UInt8} {z : BitVec 64} (h : leb z.toNat <+: t) : t = enc1 (zagW z) ++ t.drop (enc1 (zagW z)).length := by
  rw [enc1_zag]
  obtain ⟨u, rfl⟩ := h
  simp
theorem two_no {t : List UInt8} (h : ¬ Two t) : tk t = (0#64, 0, 20) ∨ ∃ x : BitVec 64, tk t = (zigW x, (enc1 x).length, 0) ∧ (enc1 x).length ≤ t.length ∧ tk (t.drop (enc1 x).length) = (0#64, 0, 20) := by
  rcases tk_cases t with ⟨z, hz, e⟩ | ⟨_, e⟩
  · right
    have h1 := tk_some hz
    refine ⟨zagW z, by rw [zig_zag, enc1_len, zig_zag]; exact e, ?_, ?_⟩
    · rw [enc1_zag]; exact hz.length_le
    · rcases tk_cases (t.drop (enc1 (zagW z)).length) with ⟨y, hy, _⟩ | ⟨_, e2⟩
      · exact absurd ⟨zagW z, zagW y, _, by rw [← tk_some hy]; exact h1⟩ h
      · exact e2
  · exact .inl e

/-- One number more in the last run. -/
def bump (rs : List Rn) : List Rn := match rs.getLast? with | some r => rs.dropLast ++ [⟨r.v, r.f, r.c + 1⟩] | none => rs
theorem bump_snoc (p : List Rn) (r : Rn) : bump (p ++ [r]) = p ++ [⟨r.v, r.f, r.c + 1⟩] := by simp [bump]
/-- The runs of the first k numbers. -/
def ofP (l : List (BitVec 64)) : Nat → List Rn
  | 0 => []
  | k + 1 => if 0 < k ∧ l.getD k 0#64 = l.getD (k - 1) 0#64 then bump (ofP l k) else ofP l k ++ [⟨l.getD k 0#64, k, 1⟩]
theorem ofP_on {l : List (BitVec 64)} {k : Nat} (h : 0 < k) (h2 : l.getD k 0#64 = l.getD (k - 1) 0#64) : ofP l (k + 1) = bump (ofP l k) := by rw [ofP, if_pos ⟨h, h2⟩]
theorem ofP_new {l : List (BitVec 64)} {k : Nat} (h : k = 0 ∨ l.getD k 0#64 ≠ l.getD (k - 1) 0#64) : ofP l (k + 1) = ofP l k ++ [⟨l.getD k 0#64, k, 1⟩] := by
  rw [ofP, if_neg]
  rintro ⟨h1, h2⟩
  rcases h with h | h
  · omega
  · exact h h2
structure OfIs (l : List (BitVec 64)) (k : Nat) : Prop where
  may : May (ofP l k)
  all : endR (ofP l k) = k
  flat : flat (ofP l k) = l.take k
  last : 0 < k → ∃ a r, ofP l k = a ++ [r] ∧ r.v = l.getD (k - 1) 0#64
theorem of_is (l : List (BitVec 64)) : ∀ k : Nat, k ≤ l.length → k ≤ 65536 → OfIs l k := by
  intro k
  induction k with
  | zero => intro _ _; exact ⟨may_nil, rfl, by simp [ofP, flat], fun h => absurd h (Nat.lt_irrefl _)⟩
  | succ k ih =>
    intro hk h16
    have I := ih (by omega) (by omega)
    have hx : l[k]? = some (l.getD k 0#64) := by
      rw [List.getD_eq_getElem?_getD, List.getElem?_eq_getElem (by omega)]; rfl
    by_cases h : 0 < k ∧ l.getD k 0#64 = l.getD (k - 1) 0#64
    · obtain ⟨a, r, ha, hv⟩ := I.last h.1
      have e : ofP l (k + 1) = a ++ [⟨r.v, r.f, r.c + 1⟩] := by rw [ofP_on h.1 h.2, ha, bump_snoc]
      have hm := I.may
      rw [ha] at hm
      have hf := may_last hm
      have hall := I.all
      rw [ha, endR_snoc] at hall
      have h1 := hf.link.f
      have h2 := hf.link.c1
      refine ⟨?_, ?_, ?_, fun _ => ⟨a, _, e, ?_⟩⟩
      · rw [e]
        exact may_snoc (may_pre hm) ⟨⟨h1, by simp only; omega, by simp only; omega⟩, hf.diff⟩
      · rw [e, endR_snoc]; simp only; omega
      · have hfl := I.flat
        rw [ha, flat_snoc] at hfl
        rw [e, flat_snoc, take_succ_of hx, ← hfl, List.append_assoc]
        simp only
        rw [show (r.c + 1).toNat = r.c.toNat + 1 by omega, List.replicate_succ', h.2, ← hv]
      · simp only
        rw [hv, Nat.add_sub_cancel, h.2]
    · have hn : k = 0 ∨ l.getD k 0#64 ≠ l.getD (k - 1) 0#64 := by
        rcases Nat.eq_zero_or_pos k with h0 | h0
        · exact .inl h0
        · exact .inr fun e => h ⟨h0, e⟩
      have e := ofP_new hn
      refine ⟨?_, ?_, ?_, fun _ => ⟨_, _, e, by simp⟩⟩
      · rw [e]
        refine may_snoc I.may ⟨⟨by rw [I.all], by simp, by rw [I.all]; simp only; omega⟩, fun q hq => ?_⟩
        rcases Nat.eq_zero_or_pos k with rfl | h0
        · simp [ofP] at hq
        · obtain ⟨a, r, ha, hv⟩ := I.last h0
          rw [ha] at hq
          simp at hq
          subst hq
          rw [hv]
          rcases hn with hn | hn
          · omega
          · exact fun e => hn e.symm
      · rw [e, endR_snoc]; simp
      · rw [e, flat_snoc, I.flat, take_succ_of hx]; simp
end Go.Proofs.Ytlohljefhcidkaa
