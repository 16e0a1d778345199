/-
  20 texts, one behind the other: UPure, DMem, SApp, Box, Calm, VSame, UMem, UOpen, UEnd, UFol, UMay, KApp, UApp, UFlat, URefMay, URefFlat, UOf, URefOf, USame, UPut.
-/
import Derived.Test.YtflabcmjbhmphaaJoin1
import Derived.WalkKit
import Derived.WalkSpells
import Derived.WalkLawsBesides
import Derived.Deep.MidRow
import Derived.Deep.DeepAppendWide
import Derived.Deep.RegionHeld3
import Derived.Below
import Derived.OwnWalk
import Derived.Laws.OwnMore
import Derived.Deep.WholeRow
import Derived.Deep.Quiet
import Derived.Deep.QuietTactic
import Derived.BigQuiet
import Derived.Deep.LoopGhost
import Derived.Lib.SmallJoins
import Derived.Deep.Slices
import Derived.ChangeArms
import Derived.Lib.AppendStr
import Derived.Lib.Strings
/-
  Runs, as lists: which may be, where they end, what they have, their bytes, the runs of numbers. Pure mathematics.
-/
namespace Go.Proofs.Ytflabcmjbhmphaa
open Leb

/-- A run: its number, the place of its first one, how many. -/
structure Rn where
  v : BitVec 64
  f : Int
  c : Int
/-- The place behind the last one. -/
def endR (rs : List Rn) : Int := match rs.getLast? with | none => 0 | some r => r.f + r.c
structure Link (p : List Rn) (r : Rn) : Prop where
  f : r.f = endR p
  c1 : 1 ≤ r.c
  c2 : r.c ≤ 65536 - endR p
/-- The run r may stand behind the runs p. -/
structure Fol (p : List Rn) (r : Rn) : Prop where
  link : Link p r
  diff : ∀ q, p.getLast? = some q → q.v ≠ r.v
def Chain (rs : List Rn) : Prop := ∀ (k : Nat) (r : Rn), rs[k]? = some r → Link (rs.take k) r
/-- Runs that may be. -/
def May (rs : List Rn) : Prop := ∀ (k : Nat) (r : Rn), rs[k]? = some r → Fol (rs.take k) r
theorem May.chain {rs : List Rn} (h : May rs) : Chain rs := fun k r hr => (h k r hr).link
theorem endR_nil : endR [] = 0 := rfl
theorem endR_snoc (p : List Rn) (r : Rn) : endR (p ++ [r]) = r.f + r.c := by simp [endR]
theorem take_succ_of {α : Type} {l : List α} {k : Nat} {x : α} (h : l[k]? = some x) : l.take (k + 1) = l.take k ++ [x] := by
  obtain ⟨hk, rfl⟩ := List.getElem?_eq_some_iff.1 h
  exact List.take_succ_eq_append_getElem hk
theorem snoc_at {α : Type} {p : List α} {x y : α} {k : Nat} (h : (p ++ [x])[k]? = some y) : (k < p.length ∧ p[k]? = some y ∧ (p ++ [x]).take k = p.take k) ∨ (k = p.length ∧ y = x ∧ (p ++ [x]).take k = p) := by
  have hlt := (List.getElem?_eq_some_iff.1 h).1
  rw [List.length_append, List.length_singleton] at hlt
  by_cases hk : k < p.length
  · rw [List.getElem?_append_left hk] at h
    exact .inl ⟨hk, h, List.take_append_of_le_length (by omega)⟩
  · obtain rfl : k = p.length := by omega
    simp at h
    exact .inr ⟨rfl, h.symm, by simp⟩
theorem chain_nil : Chain [] := fun k r h => by simp at h
theorem may_nil : May [] := fun k r h => by simp at h
theorem chain_snoc {p : List Rn} {r : Rn} (h : Chain p) (hr : Link p r) : Chain (p ++ [r]) := by
  intro k x hx
  rcases snoc_at hx with ⟨_, h1, h2⟩ | ⟨_, rfl, h2⟩
  · rw [h2]; exact h k x h1
  · rw [h2]; exact hr
theorem may_snoc {p : List Rn} {r : Rn} (h : May p) (hr : Fol p r) : May (p ++ [r]) := by
  intro k x hx
  rcases snoc_at hx with ⟨_, h1, h2⟩ | ⟨_, rfl, h2⟩
  · rw [h2]; exact h k x h1
  · rw [h2]; exact hr
theorem chain_take {rs : List Rn} (h : Chain rs) (n : Nat) : Chain (rs.take n) := by
  intro k r hr
  rw [List.getElem?_take] at hr
  split at hr
  · rw [List.take_take, Nat.min_eq_left (by omega)]; exact h k r hr
  · cases hr
theorem may_take {rs : List Rn} (h : May rs) (n : Nat) : May (rs.take n) := by
  intro k r hr
  rw [List.getElem?_take] at hr
  split at hr
  · rw [List.take_take, Nat.min_eq_left (by omega)]; exact h k r hr
  · cases hr
theorem chain_pre {p q : List Rn} (h : Chain (p ++ q)) : Chain p := by
  have := chain_take h p.length
  rwa [List.take_left] at this
theorem may_pre {p q : List Rn} (h : May (p ++ q)) : May p := by
  have := may_take h p.length
  rwa [List.take_left] at this
theorem may_last {p : List Rn} {r : Rn} (h : May (p ++ [r])) : Fol p r := by
  have := h p.length r (by simp)
  rwa [List.take_left] at this
theorem may_mid {p q : List Rn} {r : Rn} (h : May (p ++ r :: q)) : Fol p r := by
  have := h p.length r (by simp)
  rwa [List.take_left] at this
theorem chain_mid {p q : List Rn} {r : Rn} (h : Chain (p ++ r :: q)) : Link p r := by
  have := h p.length r (by simp)
  rwa [List.take_left] at this
/-- Where the first k end. -/
theorem end_step {rs : List Rn} (h : Chain rs) {k : Nat} {r : Rn} (hr : rs[k]? = some r) : r.f = endR (rs.take k) ∧ endR (rs.take (k + 1)) = endR (rs.take k) + r.c := by
  have := (h k r hr).f
  rw [take_succ_of hr, endR_snoc]
  omega
theorem end_take_bd {rs : List Rn} (h : Chain rs) : ∀ k : Nat, k ≤ rs.length → (k : Int) ≤ endR (rs.take k) ∧ endR (rs.take k) ≤ 65536 := by
  intro k
  induction k with
  | zero => intro _; simp [endR]
  | succ k ih =>
    intro hk
    have := ih (by omega)
    have hr := List.getElem?_eq_getElem (l := rs) (i := k) (by omega)
    have h1 := end_step h hr
    have h2 := h k _ hr
    have := h2.c1
    have := h2.c2
    omega
theorem end_bd {rs : List Rn} (h : Chain rs) : (rs.length : Int) ≤ endR rs ∧ endR rs ≤ 65536 := by
  have := end_take_bd h rs.length (Nat.le_refl _)
  rwa [List.take_length] at this
theorem chain_len {rs : List Rn} (h : Chain rs) : rs.length ≤ 65536 := by have := end_bd h; omega
theorem end_mono {rs : List Rn} (h : Chain rs) {j k : Nat} (hk : k ≤ rs.length) (hj : j ≤ k) : endR (rs.take j) ≤ endR (rs.take k) := by
  induction k with
  | zero => obtain rfl : j = 0 := by omega
            exact Int.le_refl _
  | succ k ih =>
    rcases Nat.lt_or_ge k j with h1 | h1
    · obtain rfl : j = k + 1 := by omega
      exact Int.le_refl _
    · have := ih (by omega) h1
      have hr := List.getElem?_eq_getElem (l := rs) (i := k) (by omega)
      have h1 := end_step h hr
      have := (h k _ hr).c1
      omega
theorem end_le {rs : List Rn} (h : Chain rs) {j : Nat} (hj : j ≤ rs.length) : endR (rs.take j) ≤ endR rs := by
  have := end_mono h (Nat.le_refl _) hj
  rwa [List.take_length] at this
theorem end_pre {p q : List Rn} (h : Chain (p ++ q)) : endR p ≤ endR (p ++ q) := by
  have := end_le h (j := p.length) (by simp)
  rwa [List.take_left] at this
/-- The bounds of one of the runs. -/
theorem run_bd {rs : List Rn} (h : Chain rs) {k : Nat} {r : Rn} (hr : rs[k]? = some r) : 0 ≤ r.f ∧ 1 ≤ r.c ∧ r.c ≤ 65536 ∧ r.f + r.c ≤ endR rs ∧ r.f + r.c ≤ 65536 ∧ r.f = endR (rs.take k) ∧ r.f + r.c = endR (rs.take (k + 1)) := by
  have hk : k < rs.length := (List.getElem?_eq_some_iff.1 hr).1
  have h1 := end_step h hr
  have h2 := h k r hr
  have := h2.c1
  have := h2.c2
  have h3 := end_take_bd h k (by omega)
  have h4 := end_le h (j := k + 1) (by omega)
  have h5 := end_bd h
  omega

/-- The numbers that runs have. -/
def flat (rs : List Rn) : List (BitVec 64) := rs.flatMap fun r => List.replicate r.c.toNat r.v
theorem flat_snoc (p : List Rn) (r : Rn) : flat (p ++ [r]) = flat p ++ List.replicate r.c.toNat r.v := by simp [flat]
theorem flat_take_len {rs : List Rn} (h : Chain rs) : ∀ k : Nat, k ≤ rs.length → ((flat (rs.take k)).length : Int) = endR (rs.take k) := by
  intro k
  induction k with
  | zero => intro _; simp [flat, endR]
  | succ k ih =>
    intro hk
    have := ih (by omega)
    have hr := List.getElem?_eq_getElem (l := rs) (i := k) (by omega)
    have h1 := end_step h hr
    have := (h k _ hr).c1
    rw [h1.2, take_succ_of hr, flat_snoc, List.length_append, List.length_replicate]
    omega
theorem flat_len {rs : List Rn} (h : Chain rs) : ((flat rs).length : Int) = endR rs := by
  have := flat_take_len h rs.length (Nat.le_refl _)
  rwa [List.take_length] at this

/-- The run that has a place. -/
def inR (a : Int) (r : Rn) : Bool := decide (r.f ≤ a) && decide (a < r.f + r.c)
def findA (rs : List Rn) (a : Int) : Nat × Int := match rs.findIdx? (inR a) with | some k => (k, 0) | none => (0, 3)
theorem findA_some {rs : List Rn} {a : Int} {k : Nat} {r : Rn} (hr : rs[k]? = some r) (h1 : r.f ≤ a) (h2 : a < r.f + r.c) (hall : ∀ (j : Nat) x, j < k → rs[j]? = some x → ¬ (x.f ≤ a ∧ a < x.f + x.c)) : findA rs a = (k, 0) := by
  have : rs.findIdx? (inR a) = some k := by
    rw [List.findIdx?_eq_some_iff_getElem]
    obtain ⟨hk, e⟩ := List.getElem?_eq_some_iff.1 hr
    refine ⟨hk, by rw [e]; simp [inR, h1, h2], fun j hj => ?_⟩
    have := hall j _ hj (List.getElem?_eq_getElem (by omega))
    simpa [inR] using this
  unfold findA
  rw [this]
theorem findA_none {rs : List Rn} {a : Int} (hall : ∀ (j : Nat) x, rs[j]? = some x → ¬ (x.f ≤ a ∧ a < x.f + x.c)) : findA rs a = (0, 3) := by
  have : rs.findIdx? (inR a) = none := by
    rw [List.findIdx?_eq_none_iff]
    intro x hx
    obtain ⟨j, hj⟩ := List.getElem?_of_mem hx
    have := hall j x hj
    simpa [inR] using this
  unfold findA
  rw [this]
theorem findA_out {rs : List Rn} (h : Chain rs) {a : Int} (ha : a < 0 ∨ endR rs ≤ a) : findA rs a = (0, 3) :=
  findA_none fun j x hx => by
    have := run_bd h hx
    omega
/-- What a search by ends finds. -/
theorem findA_ends {rs : List Rn} (h : Chain rs) {a : Int} (h0 : 0 ≤ a) (h1 : a < endR rs) {k : Nat} (hk : k ≤ rs.length) (ha : ∀ (j : Nat) x, j < k → rs[j]? = some x → x.f + x.c ≤ a) (hb : ∀ (j : Nat) x, k ≤ j → rs[j]? = some x → a < x.f + x.c) : findA rs a = (k, 0) := by
  have hk2 : k < rs.length := by
    rcases Nat.lt_or_ge k rs.length with h2 | h2
    · exact h2
    · exfalso
      obtain rfl : k = rs.length := by omega
      have hpos : 0 < rs.length := by
        rcases Nat.eq_zero_or_pos rs.length with e | e
        · rw [List.eq_nil_of_length_eq_zero e] at h1
          simp [endR] at h1
          omega
        · exact e
      have hr := List.getElem?_eq_getElem (l := rs) (i := rs.length - 1) (by omega)
      have h3 := ha _ _ (by omega) hr
      have h4 := run_bd h hr
      rw [show rs.length - 1 + 1 = rs.length by omega, List.take_length] at h4
      omega
  have hr := List.getElem?_eq_getElem hk2
  refine findA_some hr ?_ (hb k _ (Nat.le_refl _) hr) (fun j x hj hx hin => ?_)
  · have h3 := (run_bd h hr).2.2.2.2.2.1
    rcases Nat.eq_zero_or_pos k with rfl | hp
    · rw [h3]; simp [endR]; exact h0
    · have hq := List.getElem?_eq_getElem (l := rs) (i := k - 1) (by omega)
      have h4 := ha _ _ (by omega) hq
      have h5 := run_bd h hq
      rw [show k - 1 + 1 = k by omega] at h5
      omega
  · have := ha j x hj hx
    omega

/-- The bytes of runs. -/
def encR (rs : List Rn) : List UInt8 := rs.flatMap fun r => enc1 r.v ++ enc1 (BitVec.ofInt 64 r.c)
theorem encR_snoc (p : List Rn) (r : Rn) : encR (p ++ [r]) = encR p ++ enc1 r.v ++ enc1 (BitVec.ofInt 64 r.c) := by simp [encR]
theorem encR_cons (r : Rn) (p : List Rn) : encR (r :: p) = enc1 r.v ++ (enc1 (BitVec.ofInt 64 r.c) ++ encR p) := by simp [encR]
theorem enc1_bd (x : BitVec 64) : 1 ≤ (enc1 x).length ∧ (enc1 x).length ≤ 10 := by rw [enc1_len]; exact lenW_bd _
theorem encR_len (rs : List Rn) : (encR rs).length ≤ 20 * rs.length ∧ 2 * rs.length ≤ (encR rs).length := by
  induction rs with
  | nil => simp [encR]
  | cons r p ih =>
    have h1 := enc1_bd r.v
    have h2 := enc1_bd (BitVec.ofInt 64 r.c)
    rw [encR_cons, List.length_append, List.length_append, List.length_cons]
    omega
theorem ofInt_toInt {c : Int} (h1 : 1 ≤ c) (h2 : c ≤ 65536) : (BitVec.ofInt 64 c).toInt = c := by
  rw [BitVec.toInt_ofInt]; simp [Int.bmod]; omega
theorem tk_enc (x : BitVec 64) (t : List UInt8) : tk (enc1 x ++ t) = (zigW x, (enc1 x).length, 0) := by
  rw [enc1_len]
  exact tk_ok (List.prefix_append _ _)
theorem enc1_inj {x y : BitVec 64} {a b : List UInt8} (h : enc1 x ++ a = enc1 y ++ b) : x = y ∧ a = b := by
  have h1 := tk_enc x a
  rw [h, tk_enc y b] at h1
  have h2 : zigW y = zigW x := congrArg (·.1) h1
  have h3 : y = x := by rw [← zag_zig y, h2, zag_zig]
  subst h3
  exact ⟨rfl, List.append_cancel_left h⟩
theorem enc_pre : ∀ (rs p R : List Rn) (s : List UInt8), Chain (p ++ rs) → Chain (p ++ R) → encR rs ++ s = encR R → ∃ R', R = rs ++ R' ∧ s = encR R'
  | [], p, R, s, _, _, h => ⟨R, rfl, by simpa [encR] using h⟩
  | r :: t, p, [], s, _, _, h => by
    have h1 := enc1_bd r.v
    have := congrArg List.length h
    rw [encR_cons] at this
    simp [encR] at this
    rw [this.1] at h1
    simp at h1
  | r :: t, p, r2 :: T, s, hc, hd, h => by
    rw [encR_cons, encR_cons, List.append_assoc, List.append_assoc] at h
    obtain ⟨h1, h2⟩ := enc1_inj h
    obtain ⟨h3, h4⟩ := enc1_inj h2
    have l1 := chain_mid hc
    have l2 := chain_mid hd
    have b1 := end_bd (chain_pre hc)
    have e1 : r.c = r2.c := by
      have := l1.c1
      have := l1.c2
      have := l2.c1
      have := l2.c2
      rw [← ofInt_toInt (c := r.c) (by omega) (by omega), h3, ofInt_toInt (by omega) (by omega)]
    have e2 : r.f = r2.f := by rw [l1.f, l2.f]
    obtain rfl : r = r2 := by
      cases r; cases r2
      simp only at h1 e1 e2
      subst h1 e1 e2
      rfl
    obtain ⟨R', h5, h6⟩ := enc_pre t (p ++ [r]) T s (by simpa using hc) (by simpa using hd) h4
    exact ⟨R', by rw [h5]; rfl, h6⟩
/-- Bytes of runs that have n numbers. -/
structure IsRuns (s : List UInt8) (n : Int) (rs : List Rn) : Prop where
  may : May rs
  enc : encR rs = s
  all : endR rs = n
theorem IsRuns.of_chain {s : List UInt8} {n : Int} {p R : List Rn} (h : IsRuns s n R) (hp : Chain p) {t : List UInt8} (hs : s = encR p ++ t) : ∃ R', R = p ++ R' ∧ t = encR R' :=
  enc_pre p [] R t hp h.may.chain (by rw [h.enc, hs])
theorem IsRuns.same {s : List UInt8} {n : Int} {p R : List Rn} (h : IsRuns s n R) (hp : Chain p) (hs : s = encR p) : R = p := by
  obtain ⟨R', h1, h2⟩ := h.of_chain hp (t := []) (by simpa using hs)
  cases R' with
  | nil => simpa using h1
  | cons r q =>
    have h3 := enc1_bd r.v
    have := congrArg List.length h2
    rw [encR_cons] at this
    simp at this
    omega
/-- What stands behind runs that bytes begin with. -/
theorem IsRuns.next {s : List UInt8} {n : Int} {p R : List Rn} (h : IsRuns s n R) (hp : Chain p) {t : List UInt8} (hs : s = encR p ++ t) (ht : t ≠ []) :
    ∃ (x y : BitVec 64) (q : List UInt8), t = enc1 x ++ (enc1 y ++ q) ∧ Fol p ⟨x, endR p, y.toInt⟩ ∧ endR p + y.toInt ≤ n := by
  obtain ⟨R', rfl, h2⟩ := h.of_chain hp hs
  cases R' with
  | nil => exact absurd (by simpa [encR] using h2) ht
  | cons r q =>
    rw [encR_cons] at h2
    have hf := may_mid h.may
    have hb := end_bd hp
    have h1 := hf.link.c1
    have h3 := hf.link.c2
    have e := ofInt_toInt (c := r.c) (by omega) (by omega)
    have er : (⟨r.v, endR p, (BitVec.ofInt 64 r.c).toInt⟩ : Rn) = r := by
      have := hf.link.f
      cases r
      simp only at e this
      simp only [e]
      rw [this]
    refine ⟨r.v, BitVec.ofInt 64 r.c, _, h2, by rw [er]; exact hf, ?_⟩
    have hm : Chain ((p ++ [r]) ++ q) := by simpa using h.may.chain
    have h4 := end_pre hm
    rw [endR_snoc, hf.link.f] at h4
    have h5 := h.all
    rw [show p ++ r :: q = (p ++ [r]) ++ q by simp] at h5
    omega
/-- Two numbers that bytes begin with. -/
def Two (t : List UInt8) : Prop := ∃ (x y : BitVec 64) (q : List UInt8), t = enc1 x ++ (enc1 y ++ q)
theorem tk_some {t : List UInt8} {z : BitVec 64} (h : leb z.toNat <+: t) : t = enc1 (zagW z) ++ t.drop (enc1 (zagW z)).length := by
  rw [enc1_zag]
  obtain ⟨u, rfl⟩ := h
  simp
theorem two_no {t : List UInt8} (h : ¬ Two t) : tk t = (0#64, 0, 20) ∨ ∃ x : BitVec 64, tk t = (zigW x, (enc1 x).length, 0) ∧ (enc1 x).length ≤ t.length ∧ tk (t.drop (enc1 x).length) = (0#64, 0, 20) := by
  rcases tk_cases t with ⟨z, hz, e⟩ | ⟨_, e⟩
  · right
    have h1 := tk_some hz
    refine ⟨zagW z, by rw [zig_zag, enc1_len, zig_zag]; exact e, ?_, ?_⟩
    · rw [enc1_zag]; exact hz.length_le
    · rcases tk_cases (t.drop (enc1 (zagW z)).length) with ⟨y, hy, _⟩ | ⟨_, e2⟩
      · exact absurd ⟨zagW z, zagW y, _, by rw [← tk_some hy]; exact h1⟩ h
      · exact e2
  · exact .inl e

/-- One number more in the last run. -/
def bump (rs : List Rn) : List Rn := match rs.getLast? with | some r => rs.dropLast ++ [⟨r.v, r.f, r.c + 1⟩] | none => rs
theorem bump_snoc (p : List Rn) (r : Rn) : bump (p ++ [r]) = p ++ [⟨r.v, r.f, r.c + 1⟩] := by simp [bump]
/-- The runs of the first k numbers. -/
def ofP (l : List (BitVec 64)) : Nat → List Rn
  | 0 => []
  | k + 1 => if 0 < k ∧ l.getD k 0#64 = l.getD (k - 1) 0#64 then bump (ofP l k) else ofP l k ++ [⟨l.getD k 0#64, k, 1⟩]
theorem ofP_on {l : List (BitVec 64)} {k : Nat} (h : 0 < k) (h2 : l.getD k 0#64 = l.getD (k - 1) 0#64) : ofP l (k + 1) = bump (ofP l k) := by rw [ofP, if_pos ⟨h, h2⟩]
theorem ofP_new {l : List (BitVec 64)} {k : Nat} (h : k = 0 ∨ l.getD k 0#64 ≠ l.getD (k - 1) 0#64) : ofP l (k + 1) = ofP l k ++ [⟨l.getD k 0#64, k, 1⟩] := by
  rw [ofP, if_neg]
  rintro ⟨h1, h2⟩
  rcases h with h | h
  · omega
  · exact h h2
structure OfIs (l : List (BitVec 64)) (k : Nat) : Prop where
  may : May (ofP l k)
  all : endR (ofP l k) = k
  flat : flat (ofP l k) = l.take k
  last : 0 < k → ∃ a r, ofP l k = a ++ [r] ∧ r.v = l.getD (k - 1) 0#64
theorem of_is (l : List (BitVec 64)) : ∀ k : Nat, k ≤ l.length → k ≤ 65536 → OfIs l k := by
  intro k
  induction k with
  | zero => intro _ _; exact ⟨may_nil, rfl, by simp [ofP, flat], fun h => absurd h (Nat.lt_irrefl _)⟩
  | succ k ih =>
    intro hk h16
    have I := ih (by omega) (by omega)
    have hx : l[k]? = some (l.getD k 0#64) := by
      rw [List.getD_eq_getElem?_getD, List.getElem?_eq_getElem (by omega)]; rfl
    by_cases h : 0 < k ∧ l.getD k 0#64 = l.getD (k - 1) 0#64
    · obtain ⟨a, r, ha, hv⟩ := I.last h.1
      have e : ofP l (k + 1) = a ++ [⟨r.v, r.f, r.c + 1⟩] := by rw [ofP_on h.1 h.2, ha, bump_snoc]
      have hm := I.may
      rw [ha] at hm
      have hf := may_last hm
      have hall := I.all
      rw [ha, endR_snoc] at hall
      have h1 := hf.link.f
      have h2 := hf.link.c1
      refine ⟨?_, ?_, ?_, fun _ => ⟨a, _, e, ?_⟩⟩
      · rw [e]
        exact may_snoc (may_pre hm) ⟨⟨h1, by simp only; omega, by simp only; omega⟩, hf.diff⟩
      · rw [e, endR_snoc]; simp only; omega
      · have hfl := I.flat
        rw [ha, flat_snoc] at hfl
        rw [e, flat_snoc, take_succ_of hx, ← hfl, List.append_assoc]
        simp only
        rw [show (r.c + 1).toNat = r.c.toNat + 1 by omega, List.replicate_succ', h.2, ← hv]
      · simp only
        rw [hv, Nat.add_sub_cancel, h.2]
    · have hn : k = 0 ∨ l.getD k 0#64 ≠ l.getD (k - 1) 0#64 := by
        rcases Nat.eq_zero_or_pos k with h0 | h0
        · exact .inl h0
        · exact .inr fun e => h ⟨h0, e⟩
      have e := ofP_new hn
      refine ⟨?_, ?_, ?_, fun _ => ⟨_, _, e, by simp⟩⟩
      · rw [e]
        refine may_snoc I.may ⟨⟨by rw [I.all], by simp, by rw [I.all]; simp only; omega⟩, fun q hq => ?_⟩
        rcases Nat.eq_zero_or_pos k with rfl | h0
        · simp [ofP] at hq
        · obtain ⟨a, r, ha, hv⟩ := I.last h0
          rw [ha] at hq
          simp at hq
          subst hq
          rw [hv]
          rcases hn with hn | hn
          · omega
          · exact fun e => hn e.symm
      · rw [e, endR_snoc]; simp
      · rw [e, flat_snoc, I.flat, take_succ_of hx]; simp
end Go.Proofs.Ytflabcmjbhmphaa
/-
  Blocks of memory that a call may turn, and all others as they were; rows of many cells each in one block: load, store, copy of a text into one. No program is spoken of.
-/
namespace Go.Proofs.Ytflabcmjbhmphaa
open Go.RowKit

/-- Of the old blocks those outside F are as they were. -/
structure Kept (F : Nat → Prop) (w w' : World) : Prop where
  os : w'.os = w.os
  tape : w'.tape = w.tape
  output : w'.output = w.output
  size : w.heap.size ≤ w'.heap.size
  block : ∀ k, k < w.heap.size → ¬ F k → w'.heap[k]? = w.heap[k]?
section
variable {F G : Nat → Prop} {a b c w w' : World}
theorem Kept.refl (F : Nat → Prop) (w : World) : Kept F w w := ⟨rfl, rfl, rfl, Nat.le_refl _, fun _ _ _ => rfl⟩
theorem Kept.trans (h : Kept F a b) (k : Kept G b c) (i : ∀ k, G k → F k ∨ a.heap.size ≤ k) : Kept F a c :=
  ⟨k.os.trans h.os, k.tape.trans h.tape, k.output.trans h.output, Nat.le_trans h.size k.size, fun x hx hF => by
    rw [k.block x (Nat.lt_of_lt_of_le hx h.size) (fun hG => by rcases i x hG with h1 | h1; exact hF h1; omega), h.block x hx hF]⟩
theorem Kept.mono (h : Kept F w w') (i : ∀ k, F k → G k) : Kept G w w' := ⟨h.os, h.tape, h.output, h.size, fun x hx hG => h.block x hx (fun hF => hG (i x hF))⟩
theorem Kept.drew (h : Kept F a w) : Kept F a w.drew := ⟨h.os, h.tape, h.output, h.size, h.block⟩
theorem Kept.drewN (h : Kept F a w) (n : Nat) : Kept F a (w.drewN n) := ⟨h.os, h.tape, h.output, h.size, h.block⟩
theorem Kept.alloc (h : Kept F a w) (o : Obj) : Kept F a (w.alloc o) :=
  ⟨h.os, h.tape, h.output, by have := h.size; simp; omega, fun x hx hF => by rw [Below.heap_alloc w o x (Nat.lt_of_lt_of_le hx h.size), h.block x hx hF]⟩
theorem Kept.setCell (h : Kept F a w) {p : Addr} (hp : F p.block ∨ a.heap.size ≤ p.block) (u : Value) : Kept F a (w.setCell p u) :=
  ⟨h.os, h.tape, h.output, by have := h.size; simp; omega, fun x hx hF => by
    rw [Below.heap_setCell w p u x (fun e => by subst e; rcases hp with h1 | h1; exact hF h1; omega), h.block x hx hF]⟩
theorem Kept.setCells {p : Nat} (hp : F p ∨ a.heap.size ≤ p) : ∀ (vs : List Value) (o : Nat) (w : World), Kept F a w → Kept F a (w.setCells p o vs)
  | [], _, _, h => h
  | v :: r, o, w, h => by
    rw [World.setCells]
    exact Kept.setCells hp r (o + 1) _ (h.setCell (p := ⟨p, o, none⟩) hp v)
theorem Kept.grown (h : Kept F a w) {row : Option Nat} (hg : w.grownBy w' row) (hr : ∀ k, row = some k → F k ∨ a.heap.size ≤ k) : Kept F a w' :=
  ⟨hg.os.trans h.os, hg.tape.trans h.tape, hg.output.trans h.output, Nat.le_trans h.size hg.size, fun x hx hF => by
    rw [hg.block x (Nat.lt_of_lt_of_le hx h.size) (fun e => by rcases hr x e.symm with h1 | h1; exact hF h1; omega), h.block x hx hF]⟩
theorem Kept.below {B : Nat} (h : Kept F w w') (hF : ∀ k, F k → B ≤ k) (hB : B ≤ w.heap.size) : Below B w w' :=
  ⟨h.os, h.tape, h.output, h.size, fun k hk => h.block k (by omega) (fun hf => by have := hF k hf; omega)⟩
theorem kept_of_below (F : Nat → Prop) (h : Below w.heap.size w w') : Kept F w w' := ⟨h.os, h.tape, h.output, h.size, fun k hk _ => h.block k hk⟩
end

theorem heap_setCells_far (b : Nat) : ∀ (vs : List Value) (o : Nat) (w : World) (k : Nat), k ≠ b → (w.setCells b o vs).heap[k]? = w.heap[k]?
  | [], _, _, _, _ => rfl
  | v :: r, o, w, k, h => by
    rw [World.setCells, heap_setCells_far b r (o + 1) _ k h, Below.heap_setCell w ⟨b, o, none⟩ v k h]
theorem heap_setCells (b : Nat) (t : TypeId) : ∀ (vs : List Value) (o : Nat) (w : World) (cur : Array Value), w.heap[b]? = some (.cells cur t (0, 0)) → o + vs.length ≤ cur.size →
    ∃ cur', (w.setCells b o vs).heap[b]? = some (.cells cur' t (0, 0)) ∧ cur'.size = cur.size ∧ (∀ k, k < o ∨ o + vs.length ≤ k → cur'[k]? = cur[k]?) ∧ ∀ j v, vs[j]? = some v → cur'[o + j]? = some v
  | [], _, _, cur, h, _ => ⟨cur, h, rfl, fun _ _ => rfl, fun _ _ hv => by simp at hv⟩
  | v :: r, o, w, cur, h, hl => by
    simp only [List.length_cons] at hl
    obtain ⟨cur', h1, h2, h3, h4⟩ := heap_setCells b t r (o + 1) (w.setCell ⟨b, o, none⟩ v) (cur.setIfInBounds o v) (heap_setCell_same w b o cur t v h) (by simp; omega)
    refine ⟨cur', h1, by simpa using h2, ?_, ?_⟩
    · intro k hk
      simp only [List.length_cons] at hk
      rw [h3 k (by omega), Array.getElem?_setIfInBounds, if_neg (by omega)]
    · intro j u hu
      cases j with
      | zero =>
        simp at hu
        subst hu
        rw [h3 (o + 0) (by omega), Array.getElem?_setIfInBounds]
        simp
        omega
      | succ j =>
        have := h4 j u (by simpa using hu)
        rwa [show o + (j + 1) = o + 1 + j by omega]

/-- The block b has tot cells of type t, which may be written: from its head on the rows R of sz cells each. -/
def Rows (w : World) (b : Nat) (t : TypeId) (tot sz : Nat) (R : List (List Value)) : Prop :=
  ∃ cur : Array Value, w.heap[b]? = some (.cells cur t (0, 0)) ∧ cur.size = tot ∧ R.length * sz ≤ tot ∧ (∀ r ∈ R, r.length = sz) ∧ ∀ i r, R[i]? = some r → ∀ j v, r[j]? = some v → cur[i * sz + j]? = some v
section
variable {w w' : World} {b : Nat} {t : TypeId} {tot sz : Nat} {R : List (List Value)}
theorem Rows.lt (h : Rows w b t tot sz R) : b < w.heap.size := by
  obtain ⟨cur, h1, _⟩ := h
  exact (Array.getElem?_eq_some_iff.1 h1).1
theorem Rows.of_block (h : Rows w b t tot sz R) (e : w'.heap[b]? = w.heap[b]?) : Rows w' b t tot sz R := by
  obtain ⟨cur, h1, h2⟩ := h
  exact ⟨cur, by rw [e]; exact h1, h2⟩
theorem Rows.kept {F : Nat → Prop} (h : Rows w b t tot sz R) (k : Kept F w w') (hb : ¬ F b) : Rows w' b t tot sz R := h.of_block (k.block b h.lt hb)
theorem Rows.drew (h : Rows w b t tot sz R) : Rows w.drew b t tot sz R := h
theorem Rows.range (h : Rows w b t tot sz R) {i : Nat} {r : List Value} (hr : R[i]? = some r) : w.rangeAt b (i * sz) r := by
  obtain ⟨cur, h1, _, _, _, h5⟩ := h
  intro j v hv
  rw [cell_of_row w b _ cur t _ h1]
  exact h5 i r hr j v hv
theorem Rows.fit (h : Rows w b t tot sz R) {i : Nat} (hi : i < R.length) : i * sz + sz ≤ tot := by
  obtain ⟨_, _, _, h3, _⟩ := h
  have : (i + 1) * sz ≤ R.length * sz := Nat.mul_le_mul_right _ hi
  rw [Nat.add_mul] at this
  omega
theorem Rows.there_at (h : Rows w b t tot sz R) {o n : Nat} (ho : o + n ≤ tot) : w.there b o n := by
  obtain ⟨cur, h1, h2, _⟩ := h
  intro j hj
  refine ⟨?_, frozen_of_row w b _ cur t h1⟩
  rw [cell_of_row w b _ cur t _ h1, Array.getElem?_eq_getElem (by omega)]
  rfl
theorem Rows.there (h : Rows w b t tot sz R) {i : Nat} (hi : i < R.length) : w.there b (i * sz) sz := h.there_at (h.fit hi)
theorem Rows.set (h : Rows w b t tot sz R) {i : Nat} (hi : i < R.length) {r : List Value} (hl : r.length = sz) : Rows (w.setCells b (i * sz) r) b t tot sz (R.set i r) := by
  have hf := h.fit hi
  obtain ⟨cur, h1, h2, h3, h4, h5⟩ := h
  obtain ⟨cur', g1, g2, g3, g4⟩ := heap_setCells b t r (i * sz) w cur h1 (by omega)
  refine ⟨cur', g1, by omega, by simpa using h3, ?_, ?_⟩
  · intro x hx
    rcases List.mem_or_eq_of_mem_set hx with hx | rfl
    · exact h4 x hx
    · exact hl
  · intro k x hx j v hv
    rw [List.getElem?_set] at hx
    by_cases e : i = k
    · subst e
      simp [hi] at hx
      subst hx
      exact g4 j v hv
    · rw [if_neg e] at hx
      have hj : j < sz := by
        have := h4 x (List.mem_of_getElem? hx)
        have := (List.getElem?_eq_some_iff.1 hv).1
        omega
      rw [g3 (k * sz + j) ?_]
      · exact h5 k x hx j v hv
      · rw [hl]
        rcases Nat.lt_or_ge k i with h' | h'
        · left
          have : (k + 1) * sz ≤ i * sz := Nat.mul_le_mul_right _ h'
          rw [Nat.add_mul] at this
          omega
        · right
          have : (i + 1) * sz ≤ k * sz := Nat.mul_le_mul_right _ (by omega)
          rw [Nat.add_mul] at this
          omega
theorem Rows.take (h : Rows w b t tot sz R) (k : Nat) : Rows w b t tot sz (R.take k) := by
  obtain ⟨cur, h1, h2, h3, h4, h5⟩ := h
  refine ⟨cur, h1, h2, ?_, fun r hr => h4 r (List.mem_of_mem_take hr), ?_⟩
  · refine Nat.le_trans (Nat.mul_le_mul_right _ ?_) h3
    rw [List.length_take]
    omega
  · intro i r hr
    rw [List.getElem?_take] at hr
    split at hr
    · exact h5 i r hr
    · cases hr
/-- What is written behind the rows turns none of them. -/
theorem Rows.behind (h : Rows w b t tot sz R) {o : Nat} (vs : List Value) (ho : R.length * sz ≤ o) (hf : o + vs.length ≤ tot) : Rows (w.setCells b o vs) b t tot sz R := by
  obtain ⟨cur, h1, h2, h3, h4, h5⟩ := h
  obtain ⟨cur', g1, g2, g3, g4⟩ := heap_setCells b t vs o w cur h1 (by omega)
  refine ⟨cur', g1, by omega, h3, h4, ?_⟩
  intro i r hr j v hv
  have hi : i < R.length := (List.getElem?_eq_some_iff.1 hr).1
  have hj : j < sz := by
    have := h4 r (List.mem_of_getElem? hr)
    have := (List.getElem?_eq_some_iff.1 hv).1
    omega
  have : (i + 1) * sz ≤ R.length * sz := Nat.mul_le_mul_right _ hi
  rw [Nat.add_mul] at this
  rw [g3 _ (by omega)]
  exact h5 i r hr j v hv
theorem Rows.far (h : Rows w b t tot sz R) {p o : Nat} (vs : List Value) (hp : b ≠ p) : Rows (w.setCells p o vs) b t tot sz R := h.of_block (heap_setCells_far p vs o w b hp)
end

theorem flatten_at {sz : Nat} (hsz : 0 < sz) : ∀ (R : List (List Value)), (∀ r ∈ R, r.length = sz) → ∀ k, R.flatten[k]? = (R[k / sz]?).bind (·[k % sz]?)
  | [], _, k => by simp
  | r :: R, h, k => by
    have hr := h r (by simp)
    rw [List.flatten_cons, List.getElem?_append]
    by_cases hk : k < sz
    · rw [if_pos (by omega), Nat.div_eq_of_lt hk, Nat.mod_eq_of_lt hk]
      simp
    · rw [if_neg (by omega), hr, flatten_at hsz R (fun x hx => h x (by simp [hx])) (k - sz)]
      have e1 : k / sz = (k - sz) / sz + 1 := by rw [Nat.div_eq_sub_div hsz (by omega)]
      have e2 : k % sz = (k - sz) % sz := by rw [Nat.mod_eq_sub_mod (by omega)]
      rw [e1, e2]
      simp
theorem length_flat {sz : Nat} : ∀ (R : List (List Value)), (∀ r ∈ R, r.length = sz) → R.flatten.length = R.length * sz
  | [], _ => by simp
  | r :: R, h => by
    rw [List.flatten_cons, List.length_append, length_flat R (fun x hx => h x (by simp [hx])), h r (by simp), List.length_cons, Nat.add_mul]
    omega

/-- A slice of rows that the call's own writes lie in: none, or the head of a block. -/
def SRows (w : World) (v : Value) (t : TypeId) (sz : Nat) (R : List (List Value)) : Prop :=
  (v = .slice none 0 0 ∧ R = []) ∨ ∃ g cap, v = .slice (some ⟨g, 0, none⟩) R.length cap ∧ R.length ≤ cap ∧ cap ≤ maxLen ∧ Rows w g t (cap * sz) sz R
section
variable {w w' : World} {v : Value} {t : TypeId} {sz : Nat} {R : List (List Value)}
theorem srows_nil (w : World) (t : TypeId) (sz : Nat) : SRows w (.slice none 0 0) t sz [] := .inl ⟨rfl, rfl⟩
theorem SRows.of_block (h : SRows w v t sz R) (e : ∀ k, v.ownBlock = some k → w'.heap[k]? = w.heap[k]?) : SRows w' v t sz R := by
  rcases h with h | ⟨g, cap, rfl, h1, h2, h3⟩
  · exact .inl h
  · exact .inr ⟨g, cap, rfl, h1, h2, h3.of_block (e g rfl)⟩
theorem SRows.lt (h : SRows w v t sz R) {k : Nat} (hk : v.ownBlock = some k) : k < w.heap.size := by
  rcases h with ⟨rfl, _⟩ | ⟨g, cap, rfl, h1, h2, h3⟩
  · simp [Value.ownBlock] at hk
  · simp [Value.ownBlock] at hk
    subst hk
    exact h3.lt
theorem SRows.kept {F : Nat → Prop} (h : SRows w v t sz R) (k : Kept F w w') (hb : ∀ g, v.ownBlock = some g → ¬ F g) : SRows w' v t sz R :=
  h.of_block fun g hg => k.block g (h.lt hg) (hb g hg)
theorem SRows.rowlen (h : SRows w v t sz R) : ∀ r ∈ R, r.length = sz := by
  rcases h with ⟨_, rfl⟩ | ⟨g, cap, _, _, _, cur, _, _, _, h4, _⟩
  · simp
  · exact h4
theorem SRows.own (h : SRows w v t sz R) (hsz : 0 < sz) : w.ownsRow 0 t sz v R.length R.flatten := by
  refine ⟨length_flat R h.rowlen, ?_⟩
  rcases h with ⟨rfl, rfl⟩ | ⟨g, cap, rfl, h1, h2, cur, c1, c2, c3, c4, c5⟩
  · exact .inl ⟨rfl, rfl⟩
  · refine .inr ⟨g, cap, cur, rfl, Nat.zero_le _, c1, h1, h2, c2, ?_⟩
    apply List.ext_getElem?
    intro k
    rw [List.getElem?_take, flatten_at hsz R c4 k]
    split
    · rename_i hk
      have hd : k / sz < R.length := (Nat.div_lt_iff_lt_mul hsz).2 hk
      have hm : k % sz < sz := Nat.mod_lt _ hsz
      have hr := List.getElem?_eq_getElem hd
      rw [hr]
      have hl : (R[k / sz]).length = sz := c4 _ (List.getElem_mem hd)
      have := c5 (k / sz) _ hr (k % sz) (R[k / sz])[k % sz] (by rw [List.getElem?_eq_getElem])
      rw [Nat.div_add_mod' k sz] at this
      simp only [Option.bind_some]
      rw [Array.getElem?_toList, this]
      exact (List.getElem?_eq_getElem (by omega)).symm
    · rename_i hk
      have hd : ¬ k / sz < R.length := fun h => hk ((Nat.div_lt_iff_lt_mul hsz).1 h)
      rw [List.getElem?_eq_none (by omega)]
      rfl
theorem srows_of_own {B n : Nat} {xs : List Value} (h : w.ownsRow B t sz v n xs) (hx : xs = R.flatten) (hR : ∀ r ∈ R, r.length = sz) (hsz : 0 < sz) (hn : R.length = n) : SRows w v t sz R := by
  subst hx hn
  rcases h.2 with ⟨rfl, h0⟩ | ⟨g, cap, cur, rfl, _, c1, h1, h2, c2, c3⟩
  · exact .inl ⟨rfl, List.eq_nil_of_length_eq_zero h0⟩
  · refine .inr ⟨g, cap, rfl, h1, h2, cur, c1, c2, Nat.mul_le_mul_right _ h1, hR, ?_⟩
    intro i r hr j u hu
    have hi : i < R.length := (List.getElem?_eq_some_iff.1 hr).1
    have hj : j < sz := by
      have := hR r (List.mem_of_getElem? hr)
      have := (List.getElem?_eq_some_iff.1 hu).1
      omega
    have hk : i * sz + j < R.length * sz := by
      have : (i + 1) * sz ≤ R.length * sz := Nat.mul_le_mul_right _ hi
      rw [Nat.add_mul] at this
      omega
    have e := congrArg (·[i * sz + j]?) c3
    simp only [List.getElem?_take] at e
    rw [if_pos hk, Array.getElem?_toList, flatten_at hsz R hR] at e
    have d1 : (i * sz + j) / sz = i := by rw [Nat.mul_comm, Nat.mul_add_div hsz, Nat.div_eq_of_lt hj]; rfl
    have d2 : (i * sz + j) % sz = j := by rw [Nat.mul_comm, Nat.mul_add_mod, Nat.mod_eq_of_lt hj]
    rw [d1, d2, hr] at e
    rw [e]
    exact hu
end

/-- The bytes of a text as cells. -/
def cellsS (s : ByteArray) : List Value := s.data.toList.map fun b => .int .u8 b.toNat
theorem cellsS_len (s : ByteArray) : (cellsS s).length = s.size := by simp [cellsS]
theorem run_copy_str {P : Program} (w : World) (dT sT ty elem : TypeId) (b o n cap : Nat) (s : ByteArray) (hs : s.size = n)
    (hu : P.underlying dT = some (.slice elem)) (hsz : (P.info? elem).map (·.size) = some 1) (ht : w.there b o n) :
    (Builtin.copy_ #[dT, sT] ty #[.slice (some ⟨b, o, none⟩) n cap, .string s]).run P w = .ok (goInt n) (w.setCells b o (cellsS s)) := by
  have hl := cellsS_len s
  have hst := run_storeCells_cells (P := P) b o (cellsS s) 0 w (fun j hj => by simpa using (ht j (by omega)).1) (fun j hj => by simpa using (ht j (by omega)).2) (fun v hv => by
    simp only [cellsS, List.mem_map] at hv
    obtain ⟨x, _, rfl⟩ := hv
    rfl)
  simp only [Nat.add_zero] at hst
  cases hq : P.info? elem with
  | none => simp [hq] at hsz
  | some i =>
    subst hs
    simp [Builtin.copy_, run_underlying hu, Builtin.lenOf, Builtin.firstCells, sizeOf, typeInfo, hq]
    rw [show (List.map (fun b : UInt8 => Value.int IntKind.u8 (b.toNat : Int)) s.data.toList) = cellsS s from rfl, List.take_of_length_le (by omega), hst]
    rfl
theorem wpList_copy_str {P : Program} {ops : Array Oper} {rest : List Oper} {op : Oper} {a : Act} {w : World} {Q : Exit → Act → World → Prop} (hgd : op.guard = none) (d x : Operand) (dT sT elem : TypeId)
    (ho : op.op = .call { callee := .builtin .copy, args := #[d, x], argTypes := #[dT, sT] }) (b o n cap : Nat) (s : ByteArray) (hd : a.eval d = .slice (some ⟨b, o, none⟩) n cap) (hx : a.eval x = .string s) (hs : s.size = n)
    (hu : P.underlying dT = some (.slice elem)) (hsz : (P.info? elem).map (·.size) = some 1) (ht : w.there b o n)
    (h : wpList P ops Q rest (a.put op.dst (goInt n)) (w.setCells b o (cellsS s))) : wpList P ops Q (op :: rest) a w := by
  refine wpList_plain hgd fun K hK => ?_
  have hr := run_copy_str (P := P) w dT sT op.type elem b o n cap s hs hu hsz ht
  unfold Oper.wp execOp
  simp only [ho, resolve, invoke, builtin, Sem.run_bind, Sem.run_pure, Result.andThen_ok, List.map_toArray, List.map_cons, List.map_nil, hd, hx, hr]
  exact hK _ _ h
theorem step_copy_str {P : Program} {ops : Array Oper} {op : Oper} {a : Act} {w : World} {K : Act → World → Prop} {Q : Exit → Act → World → Prop} {E : Prop} (hgd : op.guard = none) (d x : Operand) (dT sT elem : TypeId)
    (ho : op.op = .call { callee := .builtin .copy, args := #[d, x], argTypes := #[dT, sT] }) (b o n cap : Nat) (s : ByteArray) (hd : a.eval d = .slice (some ⟨b, o, none⟩) n cap) (hx : a.eval x = .string s) (hs : s.size = n)
    (hu : P.underlying dT = some (.slice elem)) (hsz : (P.info? elem).map (·.size) = some 1) (ht : w.there b o n)
    (h : K (a.put op.dst (goInt n)) (w.setCells b o (cellsS s))) : if Region.wanted op (yielded ops a.tmps) = true then Oper.wp P op a w K Q else E := by
  have hw : Region.wanted op (yielded ops a.tmps) = true := by simp [Region.wanted, hgd]
  rw [if_pos hw]
  have hr := run_copy_str (P := P) w dT sT op.type elem b o n cap s hs hu hsz ht
  unfold Oper.wp execOp
  simp only [ho, resolve, invoke, builtin, Sem.run_bind, Sem.run_pure, Result.andThen_ok, List.map_toArray, List.map_cons, List.map_nil, hd, hx, hr]
  exact h
end Go.Proofs.Ytflabcmjbhmphaa
/-
  Slices of rows (elements of any number of cells): append of one to another, a store into one, what they read as. No program is spoken of.
-/
namespace Go.Proofs.Ytflabcmjbhmphaa
open Go.RowKit

theorem srows_own_base {w : World} {v : Value} {t : TypeId} {sz : Nat} {R : List (List Value)} (h : SRows w v t sz R) (hsz : 0 < sz) {B : Nat} (hB : ∀ k, v.ownBlock = some k → B ≤ k) : w.ownsRow B t sz v R.length R.flatten := by
  obtain ⟨h1, h2⟩ := h.own hsz
  refine ⟨h1, ?_⟩
  rcases h2 with h2 | ⟨g, cap, cur, rfl, _, h3⟩
  · exact .inl h2
  · exact .inr ⟨g, cap, cur, rfl, hB g rfl, h3⟩
theorem own_shape {w : World} {B : Nat} {e : TypeId} {size : Nat} {v : Value} {n : Nat} {xs : List Value} (h : w.ownsRow B e size v n xs) : (∃ va vc, v = .slice va n vc) ∧ ∀ k, v.ownBlock = some k → B ≤ k := by
  refine ⟨?_, fun k hk => (h.lt k hk).1⟩
  rcases h.2 with ⟨rfl, rfl⟩ | ⟨g, cap, cur, rfl, _⟩
  · exact ⟨_, _, rfl⟩
  · exact ⟨_, _, rfl⟩
theorem srows_new (w : World) (r : List Value) (t : TypeId) {sz : Nat} (hr : r.length = sz) : SRows (w.alloc (.cells r.toArray t)) (.slice (some ⟨w.heap.size, 0, none⟩) 1 1) t sz [r] := by
  refine .inr ⟨w.heap.size, 1, rfl, Nat.le_refl _, by unfold maxLen; omega, r.toArray, heap_alloc_last w _, by simp [hr], by simp, by simp [hr], ?_⟩
  intro i x hx j v hv
  cases i with
  | zero => simp at hx; subst hx; simpa using hv
  | succ i => simp at hx

theorem noOwn (B : Nat) : ∀ k, (Value.slice none 0 0).ownBlock = some k → B ≤ k := by intro k hk; simp [Value.ownBlock] at hk

section
variable {P : Program} {ops : Array Oper} {rest : List Oper} {o : Oper} {a : Act} {w : World} {Q : Exit → Act → World → Prop}
/-- 'append(v, u...)', v the call's own. -/
theorem append_rows (hgd : o.guard = none) (s x : Operand) (T e : TypeId) (i : TypeInfo) (z : Value) (sz bytes : Nat) (ho : o.op = .call { callee := .builtin .append, args := #[s, x], argTypes := #[T, T] })
    (hT : P.underlying T = some (.slice e)) (hi : P.info? e = some i) (hz : i.zero = some z) (hsize : i.size = sz) (hby : i.bytes = bytes) (hzs : z.cells.size = sz) (hsz : 0 < sz) (hbl : bytes ≤ 200)
    {B : Nat} {v u : Value} {R1 R2 : List (List Value)} (hs : a.eval s = v) (hx : a.eval x = u) (hv : SRows w v e sz R1) (hu : SRows w u e sz R2) (hvB : ∀ k, v.ownBlock = some k → B ≤ k) (hB : B ≤ w.heap.size)
    (h1 : ∀ r ∈ R2, ∀ c ∈ r, c.oneCell' = true) (m : Nat) (hm : R1.length + R2.length = m) (R : List (List Value)) (hR : R1 ++ R2 = R) (hl : m ≤ 1000000)
    (h : ∀ va vc w', SRows w' (.slice va m vc) e sz R → (∀ k, (Value.slice va m vc).ownBlock = some k → B ≤ k) → Below B w w' → wpList P ops Q rest (a.put o.dst (.slice va m vc)) w') :
    wpList P ops Q (o :: rest) a w := by
  subst hm hR
  have hown := srows_own_base hv hsz hvB
  have hlens : ∀ r ∈ R1 ++ R2, r.length = sz := fun r hr => by
    rcases List.mem_append.1 hr with hr | hr
    · exact hv.rowlen r hr
    · exact hu.rowlen r hr
  rcases hu with ⟨rfl, rfl⟩ | ⟨g, cap, rfl, hc1, hc2, hrows⟩
  · have hrun := run_append_owned_none (P := P) w B T (o.type) e i sz hT hi v R1.length _ hown
    obtain ⟨⟨va, vc, rfl⟩, hvb⟩ := own_shape hown
    simp only [List.append_nil, List.length_nil, Nat.add_zero] at h
    refine wpList_plain hgd fun K hK => ?_
    unfold Oper.wp execOp
    simp only [ho, resolve, invoke, builtin, Sem.run_bind, Sem.run_pure, Result.andThen_ok, List.map_toArray, List.map_cons, List.map_nil, hs, hx, hrun]
    exact hK _ _ (h va vc w hv hvB (Below.refl _ _))
  · have hus : SRows w (.slice (some ⟨g, 0, none⟩) R2.length cap) e sz R2 := .inr ⟨g, cap, rfl, hc1, hc2, hrows⟩
    have hnews : ∀ j u, R2.flatten[j]? = some u → w.cell? ((⟨g, 0, none⟩ : Addr).add j) = some u := (hus.own hsz).cells rfl
    refine wpList_append_own w hgd s x T ho B e i z sz bytes hT hi hz hsize hby hzs hsz v R1.length R1.flatten hs hown ⟨g, 0, none⟩ R2.length cap R2.flatten hx (length_flat R2 hus.rowlen) hnews ?_ ?_ ?_ hB ?_
    · intro u hu
      obtain ⟨r, hr, hur⟩ := List.mem_flatten.1 hu
      exact h1 r hr u hur
    · unfold maxLen; omega
    · have : (R1.length + R2.length) * bytes ≤ 1000000 * 200 := Nat.mul_le_mul hl hbl
      omega
    · intro v' w' hown' hgrow _
      obtain ⟨⟨va, vc, rfl⟩, hvb⟩ := own_shape hown'
      refine h va vc w' (srows_of_own hown' (by rw [List.flatten_append]) hlens hsz (by simp)) hvb ?_
      exact (Below.refl B w).grown hgrow hB fun k hk => hvB k hk
end
end Go.Proofs.Ytflabcmjbhmphaa
/-
  A struct in a block of its own: what it reads as, behind calls and stores; a call's results of which one lies in memory. No program is spoken of.
-/
namespace Go.Proofs.Ytflabcmjbhmphaa
open Go.RowKit

/-- The block b is the struct (or array) c. -/
def Box (w : World) (b : Nat) (t : TypeId) (c : Array Value) : Prop := w.heap[b]? = some (.cells c t (0, 0))
section
variable {w w' : World} {b : Nat} {t : TypeId} {c : Array Value}
theorem Box.lt (h : Box w b t c) : b < w.heap.size := (Array.getElem?_eq_some_iff.1 h).1
theorem Box.of_block (h : Box w b t c) (e : w'.heap[b]? = w.heap[b]?) : Box w' b t c := e.trans h
theorem Box.below {B : Nat} (h : Box w b t c) (k : Below B w w') (hb : b < B) : Box w' b t c := h.of_block (k.block b hb)
theorem Box.over (h : Box w b t c) (k : Below w.heap.size w w') : Box w' b t c := h.below k h.lt
theorem Box.kept {F : Nat → Prop} (h : Box w b t c) (k : Kept F w w') (hF : ¬ F b) : Box w' b t c := h.of_block (k.block b h.lt hF)
theorem Box.alloc (h : Box w b t c) (o : Obj) : Box (w.alloc o) b t c := h.of_block (Below.heap_alloc w o b h.lt)
theorem Box.drew (h : Box w b t c) : Box w.drew b t c := h
theorem Box.drewN (h : Box w b t c) (n : Nat) : Box (w.drewN n) b t c := h
theorem box_new (w : World) (c : Array Value) (t : TypeId) : Box (w.alloc (.cells c t)) w.heap.size t c := heap_alloc_last w _
theorem box_old (w : World) (c : Array Value) (t : TypeId) (o : Obj) : Box ((w.alloc (.cells c t)).alloc o) w.heap.size t c := (box_new w c t).alloc o
theorem Box.set (h : Box w b t c) (k : Nat) (v : Value) : Box (w.setCell ⟨b, k, none⟩ v) b t (c.setIfInBounds k v) := heap_setCell_same w b k c t v h
theorem Box.other (h : Box w b t c) {a : Addr} (hn : b ≠ a.block) (v : Value) : Box (w.setCell a v) b t c := h.of_block (heap_setCell_other w a b v hn)
theorem Box.setRow (h : Box w b t c) (c' : Array Value) : Box (w.setRow b c') b t c' := setRow_heap w b c c' t (0, 0) h
theorem Box.rowOther (h : Box w b t c) {p : Nat} (hn : b ≠ p) (c' : Array Value) : Box (w.setRow p c') b t c := h.of_block (setRow_other w p b c' hn)
theorem Box.cell (h : Box w b t c) (k : Nat) (v : Value) (hv : c[k]? = some v) : w.cell? ⟨b, k, none⟩ = some v := (cell_of_row w b k c t (0, 0) h).trans hv
theorem Box.frozen (h : Box w b t c) (k : Nat) : w.frozen? ⟨b, k, none⟩ = false := frozen_of_row w b k c t h
end
theorem below_setRow {B : Nat} {a w : World} {b : Nat} (h : Below B a w) (hb : B ≤ b) (cs : Array Value) : Below B a (w.setRow b cs) :=
  h.trans ⟨rfl, rfl, rfl, by simp, fun k hk => setRow_other w b k cs (by omega)⟩
theorem below2 (w : World) (A B : Obj) : Below w.heap.size w ((w.alloc A).alloc B) := ((Below.refl _ w).alloc (Nat.le_refl _) _).alloc (by simp) _
theorem below1 (w : World) (A : Obj) : Below w.heap.size w (w.alloc A) := (Below.refl _ w).alloc (Nat.le_refl _) _

theorem two_box {w w1 : World} {c0 c1 : Array Value} {t0 t1 : TypeId} (hb : Below ((w.alloc (.cells c0 t0)).alloc (.cells c1 t1)).heap.size ((w.alloc (.cells c0 t0)).alloc (.cells c1 t1)) w1) :
    Box w1 w.heap.size t0 c0 ∧ Box w1 (w.heap.size + 1) t1 c1 ∧ Below w.heap.size w w1 := by
  have b1 := box_new (w.alloc (.cells c0 t0)) c1 t1
  rw [World.size_alloc] at b1
  exact ⟨(box_old _ _ _ _).over hb, b1.over hb, (below2 _ _ _).trans (hb.mono (by simp; omega))⟩

section
variable {P : Program} {fn : Func} {p q : Tmp} {ty : TypeId} {w : World} {g : Nat} {t : TypeId} {cs : Array Value} {tmps : Array Value}
theorem res_box (h : fn.results = #[.cell p ty]) (d : TypeDesc) (hp : tmps.getD p undef = .pointer (some ⟨g, 0, none⟩)) (hg : Box w g t cs)
    (hu : P.underlying ty = some d) (hd : (match d with | .struct _ | .array _ _ => true | _ => false) = true) (hi : (P.info? ty).map (·.size) = some cs.size) :
    (results fn tmps).run P w = .ok (.agg cs) w := results_cell_row h tmps w g t cs (0, 0) d hp hg hu hd hi
theorem res_box_slot (h : fn.results = #[.cell p ty, .tmp q]) (d : TypeDesc) (hp : tmps.getD p undef = .pointer (some ⟨g, 0, none⟩)) (hg : Box w g t cs)
    (hu : P.underlying ty = some d) (hd : (match d with | .struct _ | .array _ _ => true | _ => false) = true) (hi : (P.info? ty).map (·.size) = some cs.size) (v : Value) (hq : tmps.getD q undef = v) :
    (results fn tmps).run P w = .ok (.tuple #[.agg cs, v]) w := by
  have hp' : tmps[p]?.getD undef = .pointer (some ⟨g, 0, none⟩) := by simpa using hp
  have hq' : tmps[q]?.getD undef = v := by simpa using hq
  have hl := run_loadVar_row (P := P) w g t ty cs (0, 0) d hg hu hd hi
  simp [results, h, hp', hq', asAddr, hl]
end
end Go.Proofs.Ytflabcmjbhmphaa
/-
  Regions that draw their order and hold calls that make memory and turn nothing old: the walk in the order of the text serves, over all worlds above the first one. No program is spoken of.
-/
namespace Go.Proofs.Ytflabcmjbhmphaa
open Go.RowKit

/-- A world above w: below w's heap all is as it was. -/
structure Above (w : World) where
  it : World
  is : Below w.heap.size w it
theorem above_some (w : World) : Nonempty (Above w) := ⟨⟨w, Below.refl _ _⟩⟩
/-- A callee that makes memory and turns nothing old. -/
theorem above_of {P : Program} {f : FuncId} {args : Array Value} {w : World} {k : Above w} {v : Value}
    (h : Calls P f args k.it fun e w' => e = .returned v ∧ Below k.it.heap.size k.it w') : Calls P f args k.it fun e w'' => e = .returned v ∧ ∃ k' : Above w, w'' = k'.it :=
  h.mono fun _ w'' ⟨he, hb⟩ => ⟨he, ⟨w'', k.is.trans (hb.mono k.is.size)⟩, rfl⟩
/-- A callee that only computes. -/
theorem above_same {P : Program} {f : FuncId} {args : Array Value} {w : World} {k : Above w} {v : Value}
    (h : Calls P f args k.it fun e w' => e = .returned v ∧ w' = k.it) : Calls P f args k.it fun e w'' => e = .returned v ∧ ∃ k' : Above w, w'' = k'.it :=
  h.mono fun _ _ ⟨he, hb⟩ => ⟨he, k, hb⟩
/-- A callee that only reads, and draws. -/
theorem above_drew {P : Program} {f : FuncId} {args : Array Value} {w : World} {k : Above w} {v : Value}
    (h : Calls P f args k.it fun e w' => e = .returned v ∧ ∃ n, w' = k.it.drewN n) : Calls P f args k.it fun e w'' => e = .returned v ∧ ∃ k' : Above w, w'' = k'.it :=
  h.mono fun _ w'' ⟨he, n, hb⟩ => ⟨he, ⟨w'', by
    rw [hb]
    exact ⟨k.is.os, k.is.tape, k.is.output, k.is.size, k.is.block⟩⟩, rfl⟩
theorem wp_region_above {P : Program} {id : Nat} {Q : Exit → Act → World → Prop} {a : Act} {w : World} {l : List Oper} (hm : P.follows .mixedOrders = true) (hB : Region.lexB .any l.toArray = true)
    (h : Nonempty (Above w) → wpQuiet P l.toArray (fun w' => ∃ k : Above w, w' = k.it) (fun a' => ∀ w', (∃ k : Above w, w' = k.it) → Q .normal a' w') l a) : (Code.region id l.toArray true).wp P Q a w :=
  wp_region_quiet (C := fun w' => ∃ k : Above w, w' = k.it) hm hB ⟨⟨w.drew, (Below.refl _ _).drew⟩, rfl⟩ (by simpa using h (above_some w))
end Go.Proofs.Ytflabcmjbhmphaa
/-
  Slices of ints that are read; the contract of package peristyleref01's Same, where both are the same numbers.
-/
namespace Go.Proofs.Ytflabcmjbhmphaa
open Go.RowKit

/-- The slice v reads as the words l in the world w. -/
def ReadsI (w : World) (v : Value) (l : List (BitVec 64)) : Prop :=
  (l = [] ∧ ∃ a c, v = .slice a 0 c) ∨
  (∃ b off c, v = .slice (some ⟨b, off, none⟩) l.length c ∧ l ≠ [] ∧ b < w.heap.size ∧ ∀ i, i < l.length → w.cell? ⟨b, off + i, none⟩ = some (.int .i64 (l.getD i 0#64).toInt))
theorem ReadsI.below {w w' : World} {v : Value} {l : List (BitVec 64)} (h : ReadsI w v l) (hb : Below w.heap.size w w') : ReadsI w' v l := by
  rcases h with h | ⟨b, off, c, hv, hl, hbw, hc⟩
  · exact .inl h
  · exact .inr ⟨b, off, c, hv, hl, Nat.lt_of_lt_of_le hbw hb.size, fun i hi => (hb.cell (p := ⟨b, off + i, none⟩) hbw).trans (hc i hi)⟩
theorem OwnsI.reads {w : World} {B : Nat} {v : Value} {l : List (BitVec 64)} (h : OwnsI w B v l) : ReadsI w v l := by
  rcases h.cell with ⟨g, cap, rfl, _, hg, _, hc⟩ | ⟨rfl, rfl⟩
  · by_cases hl : l = []
    · subst hl; exact .inl ⟨rfl, _, _, rfl⟩
    · exact .inr ⟨g, 0, cap, rfl, hl, hg, fun i hi => by simpa using hc i hi⟩
  · exact .inl ⟨rfl, _, _, rfl⟩

set_option maxRecDepth 4000 in
set_option maxHeartbeats 1000000 in
theorem same_row (w : World) (b1 off1 c1 b2 off2 c2 : Nat) (l : List (BitVec 64)) (hl : l.length ≤ 1000000)
    (h1 : ∀ i, i < l.length → w.cell? ⟨b1, off1 + i, none⟩ = some (.int .i64 (l.getD i 0#64).toInt)) (h2 : ∀ i, i < l.length → w.cell? ⟨b2, off2 + i, none⟩ = some (.int .i64 (l.getD i 0#64).toInt)) :
    Calls Try.prog 25 #[.slice (some ⟨b1, off1, none⟩) l.length c1, .slice (some ⟨b2, off2, none⟩) l.length c2] w fun e w' => e = .returned (.bool true) ∧ ∃ n, w' = w.drewN n := by
  obtain ⟨m, hm⟩ : ∃ m, m = l.length := ⟨_, rfl⟩
  rw [← hm] at hl h1 h2 ⊢
  clear hm
  go_enter Try.func25, Try.ntmps25
  go_wp2
  go_loopg [5] m (fun g s5 wx => ∃ k n : Nat, k + g = m ∧ s5 = .int .i64 k ∧ wx = w.drewN n)
  case atStart => exact ⟨0, 0, by omega, rfl, rfl⟩
  case round =>
    obtain ⟨k, n, hkg, rfl, rfl⟩ := hrel
    by_cases hk : k < m
    · have hkI : (k : Int) < (m : Int) := by omega
      have e1 := h1 k hk
      have e2 := h2 k hk
      obtain ⟨x, hx⟩ : ∃ x, x = (l.getD k 0#64).toInt := ⟨_, rfl⟩
      rw [← hx] at e1 e2
      clear hx h1 h2
      go_wp2
      go_quiet (fail)
      go_wp2
      go_roundg (m - (k + 1))
      case measure => omega
      case rel => exact ⟨k + 1, _, by omega, by go_num, rfl⟩
    · have hkI : ¬ (k : Int) < (m : Int) := by omega
      clear h1 h2
      go_wp2
      go_ret
      exact ⟨rfl, _, rfl⟩
set_option maxHeartbeats 400000 in
theorem same_nil (w : World) (a1 a2 : Option Addr) (c1 c2 : Nat) :
    Calls Try.prog 25 #[.slice a1 0 c1, .slice a2 0 c2] w fun e w' => e = .returned (.bool true) ∧ ∃ n, w' = w.drewN n := by
  go_enter Try.func25, Try.ntmps25
  go_wp2
  go_loopg [5] 0 (fun g s5 wx => g = 0 ∧ s5 = .int .i64 0 ∧ wx = w)
  case atStart => exact ⟨rfl, rfl, rfl⟩
  case round =>
    obtain ⟨hg, rfl, rfl⟩ := hrel
    clear hg
    go_wp2
    go_ret
    exact ⟨rfl, 0, rfl⟩
theorem same_any (w : World) (v1 v2 : Value) (l : List (BitVec 64)) (hl : l.length ≤ 1000000) (h1 : ReadsI w v1 l) (h2 : ReadsI w v2 l) :
    Calls Try.prog 25 #[v1, v2] w fun e w' => e = .returned (.bool true) ∧ ∃ n, w' = w.drewN n := by
  rcases h1 with ⟨rfl, a1, c1, rfl⟩ | ⟨b1, off1, c1, rfl, hne, _, hc1⟩
  · rcases h2 with ⟨_, a2, c2, rfl⟩ | ⟨_, _, _, _, hne, _⟩
    · exact same_nil w _ _ _ _
    · exact absurd rfl hne
  · rcases h2 with ⟨h, _⟩ | ⟨b2, off2, c2, rfl, _, _, hc2⟩
    · exact absurd h hne
    · exact same_row w _ _ _ _ _ _ l hl hc1 hc2
end Go.Proofs.Ytflabcmjbhmphaa
/-
  Runs in memory: how a slice of them reads, its first ones, what append made; one cell of a row that is turned.
-/
namespace Go.Proofs.Ytflabcmjbhmphaa
open Go.RowKit

abbrev rc (r : Rn) : List Value := [.int .i64 r.v.toInt, .int .i64 r.f, .int .i64 r.c]
/-- The run r lies at b, from o on. -/
structure RunAt (w : World) (b o : Nat) (r : Rn) : Prop where
  c0 : w.cell? ⟨b, o, none⟩ = some (.int .i64 r.v.toInt)
  c1 : w.cell? ⟨b, o + 1, none⟩ = some (.int .i64 r.f)
  c2 : w.cell? ⟨b, o + 2, none⟩ = some (.int .i64 r.c)
theorem RunAt.below {w w' : World} {b o : Nat} {r : Rn} (h : RunAt w b o r) (k : Below w.heap.size w w') : RunAt w' b o r :=
  have hb : b < w.heap.size := World.block_lt_of_cell? w ⟨b, o, none⟩ h.c0
  ⟨(k.cell (p := ⟨b, o, none⟩) hb).trans h.c0, (k.cell (p := ⟨b, o + 1, none⟩) hb).trans h.c1, (k.cell (p := ⟨b, o + 2, none⟩) hb).trans h.c2⟩
theorem RunAt.lt {w : World} {b o : Nat} {r : Rn} (h : RunAt w b o r) : b < w.heap.size := World.block_lt_of_cell? w ⟨b, o, none⟩ h.c0
/-- A slice of runs reads as rs. -/
def RunsIs (w : World) (v : Value) (rs : List Rn) : Prop :=
  ∃ a cap, v = .slice a rs.length cap ∧ rs.length ≤ cap ∧ (rs ≠ [] → ∃ b off, a = some ⟨b, off, none⟩ ∧ ∀ (i : Nat) (r : Rn), rs[i]? = some r → RunAt w b (off + i * 3) r)
theorem RunsIs.below {w w' : World} {v : Value} {rs : List Rn} (h : RunsIs w v rs) (k : Below w.heap.size w w') : RunsIs w' v rs := by
  obtain ⟨a, cap, rfl, hcap, h⟩ := h
  refine ⟨a, cap, rfl, hcap, fun hr => ?_⟩
  obtain ⟨b, off, rfl, hc⟩ := h hr
  exact ⟨b, off, rfl, fun i r hi => (hc i r hi).below k⟩
theorem runs_nil (w : World) : RunsIs w (.slice none 0 0) [] := ⟨none, 0, rfl, Nat.le_refl _, fun h => absurd rfl h⟩
/-- Where the runs of a slice lie that are some. -/
theorem RunsIs.some {w : World} {a : Option Addr} {n cap : Nat} {rs : List Rn} (h : RunsIs w (.slice a n cap) rs) (hr : rs ≠ []) : ∃ b off, a = Option.some ⟨b, off, none⟩ ∧ ∀ (i : Nat) (r : Rn), rs[i]? = Option.some r → RunAt w b (off + i * 3) r := by
  obtain ⟨a, cap, e, hcap, h⟩ := h
  cases e
  exact h hr
theorem RunsIs.len {w : World} {a : Option Addr} {n cap : Nat} {rs : List Rn} (h : RunsIs w (.slice a n cap) rs) : rs.length = n ∧ n ≤ cap := by
  obtain ⟨a, cap, e, hcap, h⟩ := h
  cases e
  exact ⟨rfl, hcap⟩
theorem RunsIs.slice {w : World} {v : Value} {rs : List Rn} (h : RunsIs w v rs) : ∃ a n cap, v = .slice a n cap ∧ rs.length = n ∧ n ≤ cap := by
  obtain ⟨a, cap, rfl, hcap, _⟩ := h
  exact ⟨a, _, cap, rfl, rfl, hcap⟩
/-- The first k of them. -/
theorem RunsIs.take {w : World} {a : Option Addr} {n cap : Nat} {rs : List Rn} (h : RunsIs w (.slice a n cap) rs) {k : Nat} (hk : k ≤ n) : RunsIs w (.slice a k cap) (rs.take k) := by
  obtain ⟨hl, hc⟩ := h.len
  refine ⟨a, cap, by rw [List.length_take, Nat.min_eq_left (by omega)], by rw [List.length_take]; omega, fun hr => ?_⟩
  obtain ⟨b, off, rfl, hall⟩ := h.some (by rintro rfl; simp at hr)
  refine ⟨b, off, rfl, fun i r hi => ?_⟩
  rw [List.getElem?_take] at hi
  split at hi
  · exact hall i r hi
  · cases hi
theorem runs_of_srows {w : World} {v : Value} {rs : List Rn} (h : SRows w v 37 3 (rs.map rc)) : RunsIs w v rs := by
  rcases h with ⟨rfl, h0⟩ | ⟨g, cap, rfl, hc1, hc2, hrows⟩
  · have : rs = [] := by simpa using h0
    subst this
    exact runs_nil w
  · rw [List.length_map] at hc1
    refine ⟨some ⟨g, 0, none⟩, cap, by rw [List.length_map], hc1, fun _ => ⟨g, 0, rfl, fun i r hi => ?_⟩⟩
    have hr := hrows.range (i := i) (r := rc r) (by rw [List.getElem?_map, hi]; rfl)
    have h0 := hr 0 _ rfl
    have h1 := hr 1 _ rfl
    have h2 := hr 2 _ rfl
    rw [Nat.zero_add]
    exact ⟨h0, h1, h2⟩
theorem info_run : (Try.prog.info? 37).map (fun i => (i.zero, i.size, i.bytes)) = some (some (.agg #[.int .i64 0, .int .i64 0, .int .i64 0]), 3, 24) := by kernel_rfl
theorem srows_slice {w : World} {v : Value} {t : TypeId} {sz : Nat} {R : List (List Value)} (h : SRows w v t sz R) : ∃ a c, v = .slice a R.length c := by
  rcases h with ⟨rfl, rfl⟩ | ⟨g, cap, rfl, _⟩
  · exact ⟨none, 0, rfl⟩
  · exact ⟨_, _, rfl⟩
theorem belowOne {w1 : World} (B : Nat) (h : B ≤ w1.heap.size) (A : Obj) : Below B w1 (w1.alloc A) := (Below.refl _ _).alloc h _
theorem above_cell {w : World} {a : Addr} {v : Value} (h : w.cell? a = some v) (k : Above w) : k.it.cell? a = some v := (k.is.cell (p := a) (World.block_lt_of_cell? w a h)).trans h
theorem rc_one (r : Rn) : ∀ x ∈ [rc r], ∀ c ∈ x, c.oneCell' = true := by
  intro x hx c hc
  simp only [List.mem_singleton] at hx
  subst hx
  simp only [rc, List.mem_cons, List.not_mem_nil, or_false] at hc
  rcases hc with rfl | rfl | rfl <;> rfl
theorem list_snoc {α : Type} {l : List α} {n : Nat} (h : l.length = n + 1) : ∃ p x, l = p ++ [x] ∧ p.length = n := by
  rcases List.eq_nil_or_concat l with rfl | ⟨p, x, e⟩
  · simp at h
  · rw [List.concat_eq_append] at e
    subst e
    exact ⟨p, x, rfl, by simpa using h⟩
/-- One cell of a row is turned. -/
theorem rows_setOne {w : World} {b : Nat} {t : TypeId} {tot sz : Nat} {R : List (List Value)} (h : Rows w b t tot sz R) {i j : Nat} {r : List Value} (hr : R[i]? = some r) (hj : j < sz) (v : Value) :
    Rows (w.setCell ⟨b, i * sz + j, none⟩ v) b t tot sz (R.set i (r.set j v)) := by
  have hi : i < R.length := (List.getElem?_eq_some_iff.1 hr).1
  have hf := h.fit hi
  obtain ⟨cur, h1, h2, h3, h4, h5⟩ := h
  have hl := h4 r (List.mem_of_getElem? hr)
  refine ⟨cur.setIfInBounds (i * sz + j) v, heap_setCell_same w b _ cur t v h1, by simpa using h2, by simpa using h3, ?_, ?_⟩
  · intro x hx
    rcases List.mem_or_eq_of_mem_set hx with hx | rfl
    · exact h4 x hx
    · simpa using hl
  · intro k x hx m u hu
    rw [List.getElem?_set] at hx
    rw [Array.getElem?_setIfInBounds]
    by_cases e : i = k
    · subst e
      simp [hi] at hx
      subst hx
      rw [List.getElem?_set] at hu
      by_cases e2 : j = m
      · subst e2
        have hjr : j < r.length := by omega
        simp [hjr] at hu
        subst hu
        simp
        omega
      · rw [if_neg e2] at hu
        rw [if_neg (by omega)]
        exact h5 i r hr m u hu
    · rw [if_neg e] at hx
      have hm : m < sz := by
        have := h4 x (List.mem_of_getElem? hx)
        have := (List.getElem?_eq_some_iff.1 hu).1
        omega
      have : i * sz + j ≠ k * sz + m := by
        intro e3
        rcases Nat.lt_or_ge k i with h' | h'
        · have : (k + 1) * sz ≤ i * sz := Nat.mul_le_mul_right _ h'
          rw [Nat.add_mul] at this
          omega
        · have : (i + 1) * sz ≤ k * sz := Nat.mul_le_mul_right _ (by omega)
          rw [Nat.add_mul] at this
          omega
      rw [if_neg this]
      exact h5 k x hx m u hu
end Go.Proofs.Ytflabcmjbhmphaa
/-
  Runs that came in as an argument.
-/
namespace Go.Proofs.Ytflabcmjbhmphaa
open Go.RowKit

/-- A list of what there is at each place. -/
theorem list_of {α : Type} {Q : Nat → α → Prop} : ∀ n : Nat, (∀ i, i < n → ∃ c, Q i c) → ∃ r : List α, r.length = n ∧ ∀ i c, r[i]? = some c → Q i c
  | 0, _ => ⟨[], rfl, fun i c h => by simp at h⟩
  | n + 1, h => by
    obtain ⟨r, hl, hr⟩ := list_of n fun i hi => h i (by omega)
    obtain ⟨c, hc⟩ := h n (by omega)
    refine ⟨r ++ [c], by simp [hl], fun i x hx => ?_⟩
    by_cases hi : i < n
    · rw [List.getElem?_append_left (by omega)] at hx
      exact hr i x hx
    · have hlt := (List.getElem?_eq_some_iff.1 hx).1
      rw [List.length_append, List.length_singleton] at hlt
      obtain rfl : i = n := by omega
      rw [List.getElem?_append_right (by omega), hl, Nat.sub_self] at hx
      simp at hx
      subst hx
      exact hc
set_option maxRecDepth 100000 in
/-- Structs of three cells that came in as a slice: where they lie, and how each reads. -/
theorem three_of {H : Type} {enc : TypeId × Value → H} {W : World} {base : Nat} {hd : Bool} {fuel : Nat} {a : Option Addr} {len cap : Nat} {x : DataW H × List MemPlace} {T e t0 t1 t2 : TypeId} {f0 f1 f2 : Field}
    (hT : Try.prog.underlying T = some (.slice e)) (he : Try.prog.underlying e = some (.struct #[f0, f1, f2])) (hc : Try.prog.cellsOf e = 3) (g0 : f0.type = t0 ∧ f0.offset = 0) (g1 : f1.type = t1 ∧ f1.offset = 1) (g2 : f2.type = t2 ∧ f2.offset = 2)
    (d0 : Try.prog.cellsOf t0 = 1) (d1 : Try.prog.cellsOf t1 = 1) (d2 : Try.prog.cellsOf t2 = 1)
    (h : DataW.trod enc Try.prog W base (fun _ => true) hd fuel T [.slice a len cap] = some x) :
    len ≤ cap ∧ len ≤ maxLen ∧ (0 < len → ∃ b off, a = some ⟨b, off, none⟩ ∧ b < W.heap.size ∧ ∀ i, i < len → ∃ v0 v1 v2 k y0 y1 y2, W.cell? ⟨b, off + i * 3, none⟩ = some v0 ∧ W.cell? ⟨b, off + i * 3 + 1, none⟩ = some v1 ∧ W.cell? ⟨b, off + i * 3 + 2, none⟩ = some v2 ∧
      DataW.trod enc Try.prog W base (fun _ => true) hd k t0 [v0] = some y0 ∧ DataW.trod enc Try.prog W base (fun _ => true) hd k t1 [v1] = some y1 ∧ DataW.trod enc Try.prog W base (fun _ => true) hd k t2 [v2] = some y2) := by
  rcases Go.Deep.open_slice hT h with ⟨h0, _⟩ | ⟨ad, ln, cp, m, n, D, Pl, hv, _, hl, hm, hmm, _, hx⟩
  · simp at h0
    obtain ⟨rfl, rfl, rfl⟩ := h0
    exact ⟨Nat.le_refl _, Nat.zero_le _, fun h => by omega⟩
  · simp at hv
    obtain ⟨rfl, rfl, rfl⟩ := hv
    refine ⟨hl, Nat.le_trans hl hm, fun hpos => ?_⟩
    obtain ⟨b, off, spot⟩ := ad
    have hspot : spot = none := by
      obtain ⟨cs0, h10, _⟩ := hx 0 (by rw [hmm]; split <;> omega)
      rw [hc] at h10
      obtain ⟨_, hlen0, hcell0⟩ := World.cells?_some h10
      have q := hcell0 0 (by omega)
      rw [List.getElem?_eq_getElem (by omega)] at q
      have := World.cell?_spot q
      simpa [Addr.add] using this
    subst hspot
    have hadd : ∀ t : Nat, (⟨b, off, none⟩ : Addr).add t = ⟨b, off + t, none⟩ := fun t => by unfold Addr.add; split <;> simp_all
    have key : ∀ i, i < len → ∃ v0 v1 v2 k y0 y1 y2, W.cell? ⟨b, off + i * 3, none⟩ = some v0 ∧ W.cell? ⟨b, off + i * 3 + 1, none⟩ = some v1 ∧ W.cell? ⟨b, off + i * 3 + 2, none⟩ = some v2 ∧
      DataW.trod enc Try.prog W base (fun _ => true) hd k t0 [v0] = some y0 ∧ DataW.trod enc Try.prog W base (fun _ => true) hd k t1 [v1] = some y1 ∧ DataW.trod enc Try.prog W base (fun _ => true) hd k t2 [v2] = some y2 := by
      intro i hi
      have him : i < m := by rw [hmm]; split <;> omega
      obtain ⟨cs', h1, h2⟩ := hx i him
      rw [hc] at h1
      obtain ⟨_, hlen, hcell⟩ := World.cells?_some h1
      obtain ⟨xs, k, hk, hxy, _, hxl, hf⟩ := DataW.trod_struct he h2
      match cs', hlen with
      | [v0, v1, v2], _ =>
        have p0 := hf 0 f0 rfl
        have p1 := hf 1 f1 rfl
        have p2 := hf 2 f2 rfl
        rw [g0.1, g0.2, d0] at p0
        rw [g1.1, g1.2, d1] at p1
        rw [g2.1, g2.2, d2] at p2
        have hx3 : xs.length = 3 := hxl
        match xs, hx3 with
        | [y0, y1, y2], _ =>
          have q0 := hcell 0 (by omega)
          have q1 := hcell 1 (by omega)
          have q2 := hcell 2 (by omega)
          simp only [List.getElem?_cons_zero, List.getElem?_cons_succ, Go.Deep.add_add] at q0 q1 q2
          rw [hadd] at q0 q1 q2
          exact ⟨v0, v1, v2, k, y0, y1, y2, by simpa using q0, by simpa [Nat.add_assoc] using q1, by simpa [Nat.add_assoc] using q2, p0, p1, p2⟩
    obtain ⟨v0, _, _, _, _, _, _, hb0, _⟩ := key 0 hpos
    exact ⟨b, off, rfl, World.block_lt_of_cell? W _ hb0, key⟩
/-- What a law's walk is told of runs that came in. -/
def RunsAre (w : World) (a : Option Addr) (len cap : Nat) : Prop := ∃ rs : List Rn, RunsIs w (.slice a len cap) rs ∧ len ≤ maxLen
set_option maxRecDepth 100000 in
theorem runsAre_of {H : Type} {enc : TypeId × Value → H} {W : World} {base : Nat} {hd : Bool} {fuel : Nat} {a : Option Addr} {len cap : Nat} {x : DataW H × List MemPlace}
    (h : DataW.trod enc Try.prog W base (fun _ => true) hd fuel 27 [.slice a len cap] = some x) : RunsAre W a len cap := by
  obtain ⟨hlc, hm, hk⟩ := three_of Try.underlying27 Try.underlying37 (by kernel_rfl) ⟨rfl, rfl⟩ ⟨rfl, rfl⟩ ⟨rfl, rfl⟩ (by kernel_rfl) (by kernel_rfl) (by kernel_rfl) h
  rcases Nat.eq_zero_or_pos len with rfl | hpos
  · exact ⟨[], ⟨a, cap, rfl, Nat.zero_le _, fun h => absurd rfl h⟩, hm⟩
  · obtain ⟨b, off, rfl, hb, hall⟩ := hk hpos
    obtain ⟨r, hl, hr⟩ := list_of (Q := fun i (c : Rn) => RunAt W b (off + i * 3) c) len fun i hi => by
      obtain ⟨v0, v1, v2, k, y0, y1, y2, q0, q1, q2, p0, p1, p2⟩ := hall i hi
      obtain ⟨n0, e0, _, w0⟩ := DataW.trod_int Try.underlying3 p0
      obtain ⟨n1, e1, _, w1⟩ := DataW.trod_int Try.underlying3 p1
      obtain ⟨n2, e2, _, w2⟩ := DataW.trod_int Try.underlying3 p2
      simp only [List.cons.injEq, and_true] at e0 e1 e2
      subst e0 e1 e2
      obtain ⟨x0, rfl⟩ := Wd.word_of n0 w0
      exact ⟨⟨x0, n1, n2⟩, q0, q1, q2⟩
    exact ⟨r, ⟨_, cap, by rw [hl], by rw [hl]; exact hlc, fun _ => ⟨b, off, rfl, fun i c hi => hr i c hi⟩⟩, hm⟩
end Go.Proofs.Ytflabcmjbhmphaa
/-
  The contract of package runs' end: where runs end.
-/
namespace Go.Proofs.Ytflabcmjbhmphaa
open Go.RowKit

set_option maxRecDepth 4000 in
set_option maxHeartbeats 1000000 in
theorem end_any {w : World} {v : Value} {rs : List Rn} (h : RunsIs w v rs) (hc : Chain rs) :
    Calls Try.prog 50 #[v] w fun e w' => e = .returned (.int .i64 (endR rs)) ∧ Below w.heap.size w w' := by
  obtain ⟨a, n, cap, rfl, hl, hcap⟩ := h.slice
  cases n with
  | zero =>
    obtain rfl := List.eq_nil_of_length_eq_zero hl
    clear h hc hl
    go_enter Try.func50, Try.ntmps50
    go_wp2
    go_ret
    exact ⟨rfl, Below.refl _ _⟩
  | succ m =>
    obtain ⟨p, r, rfl, hp⟩ := list_snoc hl
    obtain ⟨b, off, rfl, hall⟩ := h.some (by simp)
    have hr := hall m r (by rw [← hp]; simp)
    have hbd := run_bd hc (k := m) (r := r) (by rw [← hp]; simp)
    have hlt := hr.lt
    have q0 := hr.c0
    have q1 := hr.c1
    have q2 := hr.c2
    have HE : Hid (endR (p ++ [r]) = r.f + r.c) := endR_snoc p r
    obtain ⟨f, hf⟩ : ∃ f, f = r.f := ⟨_, rfl⟩
    obtain ⟨c, hcc⟩ : ∃ c, c = r.c := ⟨_, rfl⟩
    obtain ⟨z, hz⟩ : ∃ z, z = r.v.toInt := ⟨_, rfl⟩
    rw [← hf] at q1 hbd HE
    rw [← hcc] at q2 hbd HE
    rw [← hz] at q0
    have hm : (m : Int) ≤ 65536 := by have := chain_len hc; omega
    have hf0 : 0 ≤ f ∧ 0 ≤ c ∧ f + c ≤ 65536 := by omega
    have hw : IntKind.i64.wrap (f + c) = f + c := by rw [IntKind.wrap_i64]; omega
    clear h hc hl hall hr hbd hf hcc hz hp
    go_enter Try.func50, Try.ntmps50
    go_wp2
    rw [HE.out]
    go_ret
    exact ⟨rfl, below1 _ _⟩
end Go.Proofs.Ytflabcmjbhmphaa
/-
  The contract of package runs' follows: whether a run may stand behind runs that may be.
-/
namespace Go.Proofs.Ytflabcmjbhmphaa
open Go.RowKit

theorem fol_no {b : Bool} {p : List Rn} {r : Rn} (hb : b = true ↔ Fol p r) (h : ¬ Fol p r) : Ending.returned (.bool false) = .returned (.bool b) := by
  cases b with
  | false => rfl
  | true => exact absurd (hb.1 rfl) h
theorem fol_yes {b : Bool} {p : List Rn} {r : Rn} (hb : b = true ↔ Fol p r) (h : Fol p r) : Ending.returned (.bool true) = .returned (.bool b) := by rw [hb.2 h]

set_option maxRecDepth 4000 in
set_option maxHeartbeats 4000000 in
theorem follows_any {w : World} {v : Value} {p : List Rn} (h : RunsIs w v p) (hc : Chain p) (r : Rn) (b : Bool) (hb : b = true ↔ Fol p r) :
    Calls Try.prog 57 #[v, .agg #[.int .i64 r.v.toInt, .int .i64 r.f, .int .i64 r.c]] w fun e w' => e = .returned (.bool b) ∧ Below w.heap.size w w' := by
  have HB : Hid (b = true ↔ Fol p r) := hb
  obtain ⟨f, hf⟩ : ∃ f, f = r.f := ⟨_, rfl⟩
  obtain ⟨c, hcc⟩ : ∃ c, c = r.c := ⟨_, rfl⟩
  obtain ⟨z, hz⟩ : ∃ z, z = r.v.toInt := ⟨_, rfl⟩
  obtain ⟨E, hE⟩ : ∃ E, E = endR p := ⟨_, rfl⟩
  have HR : Hid (f = r.f ∧ c = r.c ∧ z = r.v.toInt ∧ E = endR p) := ⟨hf, hcc, hz, hE⟩
  have hEb := end_bd hc
  rw [← hE] at hEb
  have hEb2 : 0 ≤ E ∧ E ≤ 65536 := by omega
  have HE : Hid (∀ W, Below w.heap.size w W → Calls Try.prog 50 #[v] W fun e w' => e = .returned (.int .i64 E) ∧ Below W.heap.size W w') := fun W hW => by
    rw [hE]; exact end_any (h.below hW) hc
  rw [← hf, ← hcc, ← hz]
  clear hb hf hcc hz hE hEb
  obtain ⟨a, n, cap, rfl, hl, hcap⟩ := h.slice
  have hn : (n : Int) ≤ 65536 := by have := chain_len hc; omega
  have HH : Hid (RunsIs w (.slice a n cap) p ∧ Chain p ∧ p.length = n) := ⟨h, hc, hl⟩
  clear h hc
  rcases (show ((f == E) = false ∧ True ∧ True ∧ ¬ Link p r) ∨ ((f == E) = true ∧ decide (1 ≤ c) = false ∧ True ∧ ¬ Link p r) ∨ ((f == E) = true ∧ decide (1 ≤ c) = true ∧ decide (c ≤ 65536 - E) = false ∧ ¬ Link p r) ∨ ((f == E) = true ∧ decide (1 ≤ c) = true ∧ decide (c ≤ 65536 - E) = true ∧ Link p r) by
    obtain ⟨i1, i2, _, i4⟩ := HR.out
    by_cases g1 : f = E
    · by_cases g2 : 1 ≤ c
      · by_cases g3 : c ≤ 65536 - E
        · exact .inr (.inr (.inr ⟨by simpa using g1, by simpa using g2, by simpa using g3, ⟨by omega, by omega, by omega⟩⟩))
        · exact .inr (.inr (.inl ⟨by simpa using g1, by simpa using g2, by simpa using g3, fun h => by have := h.c2; omega⟩))
      · exact .inr (.inl ⟨by simpa using g1, by simpa using g2, trivial, fun h => by have := h.c1; omega⟩)
    · exact .inl ⟨by simpa using g1, trivial, trivial, fun h => by have := h.f; omega⟩) with ⟨B1, B2, B3, hL⟩ | ⟨B1, B2, B3, hL⟩ | ⟨B1, B2, B3, hL⟩ | ⟨B1, B2, B3, hL⟩
  case' inl => have HL : Hid (¬ Link p r) := hL
  case' inr.inl => have HL : Hid (¬ Link p r) := hL
  case' inr.inr.inl => have HL : Hid (¬ Link p r) := hL
  case' inr.inr.inr => have HL : Hid (Link p r) := hL
  all_goals
    clear hL
    cases n with
    | zero =>
      obtain rfl := List.eq_nil_of_length_eq_zero hl
      clear hl
      go_enter Try.func57, Try.ntmps57
      go_wp2_with fail
      generalize hW : w.alloc (.cells #[.int .i64 z, .int .i64 f, .int .i64 c] 37) = W
      have hbx : Box W w.heap.size 37 #[.int .i64 z, .int .i64 f, .int .i64 c] := by rw [← hW]; exact box_new _ _ _
      have hbw : Below w.heap.size w W := by rw [← hW]; exact below1 _ _
      clear hW
      generalize hg : w.heap.size = g at hbx
      have e0 := above_cell (hbx.cell 0 _ rfl)
      refine wp_region_above (by kernel_rfl) (by kernel_rfl) ?_
      intro hne
      repeat (go_big_quiet_step (fail))
      refine wpQuiet_nil ?_
      rintro _ ⟨kq, rfl⟩
      have hbq := kq.is
      generalize kq.it = W2 at hbq ⊢
      clear hne e0
      have hbx2 := hbx.over hbq
      have hbw2 : Below w.heap.size w W2 := hbw.trans (hbq.mono hbw.size)
      have HBW : Hid (Below w.heap.size w W2) := hbw2
      have hce : ∀ k : Above W2, Calls Try.prog 50 #[.slice a 0 cap] k.it fun e w' => e = .returned (.int .i64 E) ∧ Below k.it.heap.size k.it w' := fun k => HE.out k.it (hbw2.trans (k.is.mono hbw2.size))
      have e1 := above_cell (hbx2.cell 1 _ rfl)
      have e2 := above_cell (hbx2.cell 2 _ rfl)
      clear hbx hbw hbq hbx2 hbw2
      go_wp2_with fail
      refine wp_region_above (by kernel_rfl) (by kernel_rfl) ?_
      intro hne
      repeat (go_big_quiet_step (first | (go_at_call 50; exact above_of (hce _))))
      refine wpQuiet_nil ?_
      rintro _ ⟨kq2, rfl⟩
      have HB2 : Hid (Below w.heap.size w kq2.it) := HBW.out.trans (kq2.is.mono HBW.out.size)
      go_wp2
      go_ret
      first
        | exact ⟨fol_no HB.out (fun h => HL.out h.link), HB2.out⟩
        | exact ⟨fol_yes HB.out ⟨HL.out, fun q hq => by simp at hq⟩, HB2.out⟩
    | succ m =>
      obtain ⟨q, t, rfl, hq⟩ := list_snoc hl
      obtain ⟨bb, off, rfl, hall⟩ := HH.out.1.some (by simp)
      have hr := hall m t (by rw [← hq]; simp)
      have hm : (m : Int) ≤ 65536 := by omega
      have HV : Hid (∀ x, (q ++ [t]).getLast? = some x → x = t) := fun x hx => by simp at hx; exact hx.symm
      obtain ⟨y, hy⟩ : ∃ y, y = t.v.toInt := ⟨_, rfl⟩
      have HY : Hid (y = t.v.toInt) := hy
      have HT : Hid (RunAt w bb (off + m * 3) t) := hr
      clear hl hall hr hn
      by_cases hv : y = z
      · have hB4 : (y == z) = true := by simpa using hv
        have HN : Hid (¬ Fol (q ++ [t]) r) := fun h => h.diff t (by simp) (BitVec.toInt_inj.1 (by rw [← HY.out, hv, HR.out.2.2.1]))
        clear hv hy
        go_enter Try.func57, Try.ntmps57
        go_wp2_with fail
        generalize hW : w.alloc (.cells #[.int .i64 z, .int .i64 f, .int .i64 c] 37) = W
        have hbx : Box W w.heap.size 37 #[.int .i64 z, .int .i64 f, .int .i64 c] := by rw [← hW]; exact box_new _ _ _
        have hbw : Below w.heap.size w W := by rw [← hW]; exact below1 _ _
        clear hW
        generalize hg : w.heap.size = g at hbx
        have e0 := above_cell (hbx.cell 0 _ rfl)
        have q0 : ∀ k : Above W, k.it.cell? ⟨bb, off + m * 3, none⟩ = some (.int .i64 y) := fun k => by rw [HY.out]; exact above_cell (HT.out.below hbw).c0 k
        refine wp_region_above (by kernel_rfl) (by kernel_rfl) ?_
        intro hne
        repeat (go_big_quiet_step (fail))
        refine wpQuiet_nil ?_
        rintro _ ⟨kq, rfl⟩
        have hbq := kq.is
        generalize kq.it = W2 at hbq ⊢
        clear hne e0
        have hbx2 := hbx.over hbq
        have hbw2 : Below w.heap.size w W2 := hbw.trans (hbq.mono hbw.size)
        have HBW : Hid (Below w.heap.size w W2) := hbw2
        go_wp2
        go_ret
        exact ⟨fol_no HB.out HN.out, HBW.out⟩
      · have hB4 : (y == z) = false := by simpa using hv
        have HN : Hid (∀ x, (q ++ [t]).getLast? = some x → x.v ≠ r.v) := fun x hx e => hv (by rw [HY.out, ← HV.out x hx, e, HR.out.2.2.1])
        clear hv hy
        go_enter Try.func57, Try.ntmps57
        go_wp2_with fail
        generalize hW : w.alloc (.cells #[.int .i64 z, .int .i64 f, .int .i64 c] 37) = W
        have hbx : Box W w.heap.size 37 #[.int .i64 z, .int .i64 f, .int .i64 c] := by rw [← hW]; exact box_new _ _ _
        have hbw : Below w.heap.size w W := by rw [← hW]; exact below1 _ _
        clear hW
        generalize hg : w.heap.size = g at hbx
        have e0 := above_cell (hbx.cell 0 _ rfl)
        have q0 : ∀ k : Above W, k.it.cell? ⟨bb, off + m * 3, none⟩ = some (.int .i64 y) := fun k => by rw [HY.out]; exact above_cell (HT.out.below hbw).c0 k
        refine wp_region_above (by kernel_rfl) (by kernel_rfl) ?_
        intro hne
        repeat (go_big_quiet_step (fail))
        refine wpQuiet_nil ?_
        rintro _ ⟨kq, rfl⟩
        have hbq := kq.is
        generalize kq.it = W2 at hbq ⊢
        clear hne e0
        have hbx2 := hbx.over hbq
        have hbw2 : Below w.heap.size w W2 := hbw.trans (hbq.mono hbw.size)
        have HBW : Hid (Below w.heap.size w W2) := hbw2
        have hce : ∀ k : Above W2, Calls Try.prog 50 #[.slice (some ⟨bb, off, none⟩) (m + 1) cap] k.it fun e w' => e = .returned (.int .i64 E) ∧ Below k.it.heap.size k.it w' := fun k => HE.out k.it (hbw2.trans (k.is.mono hbw2.size))
        have e1 := above_cell (hbx2.cell 1 _ rfl)
        have e2 := above_cell (hbx2.cell 2 _ rfl)
        clear hbx hbw hbq hbx2 hbw2
        go_wp2_with fail
        refine wp_region_above (by kernel_rfl) (by kernel_rfl) ?_
        intro hne
        repeat (go_big_quiet_step (first | (go_at_call 50; exact above_of (hce _))))
        refine wpQuiet_nil ?_
        rintro _ ⟨kq2, rfl⟩
        have HB2 : Hid (Below w.heap.size w kq2.it) := HBW.out.trans (kq2.is.mono HBW.out.size)
        go_wp2
        go_ret
        first
          | exact ⟨fol_no HB.out (fun h => HL.out h.link), HB2.out⟩
          | exact ⟨fol_yes HB.out ⟨HL.out, HN.out⟩, HB2.out⟩
end Go.Proofs.Ytflabcmjbhmphaa
/-
  The contract of package runs' mayBe: whether runs may be.
-/
namespace Go.Proofs.Ytflabcmjbhmphaa
open Go.RowKit

theorem may_no {b : Bool} {rs : List Rn} (hb : b = true ↔ May rs) (h : ¬ May rs) : Ending.returned (.bool false) = .returned (.bool b) := by
  cases b with
  | false => rfl
  | true => exact absurd (hb.1 rfl) h
theorem may_yes {b : Bool} {rs : List Rn} (hb : b = true ↔ May rs) (h : May rs) : Ending.returned (.bool true) = .returned (.bool b) := by rw [hb.2 h]
theorem may_next {rs : List Rn} {k : Nat} {r : Rn} (h : May (rs.take k)) (hr : rs[k]? = some r) (hf : Fol (rs.take k) r) : May (rs.take (k + 1)) := by
  rw [take_succ_of hr]; exact may_snoc h hf

set_option maxRecDepth 4000 in
set_option maxHeartbeats 4000000 in
theorem mayBe_any {w : World} {v : Value} {rs : List Rn} (h : RunsIs w v rs) (hl : rs.length ≤ 1000000) (b : Bool) (hb : b = true ↔ May rs) :
    Calls Try.prog 49 #[v] w fun e w' => e = .returned (.bool b) ∧ Below w.heap.size w w' := by
  obtain ⟨a, n, cap, rfl, hn, hcap⟩ := h.slice
  have hn1 : (n : Int) ≤ 1000000 := by omega
  have HH : Hid (RunsIs w (.slice a n cap) rs ∧ rs.length = n ∧ (b = true ↔ May rs)) := ⟨h, hn, hb⟩
  clear h hl hb hn
  go_enter Try.func49, Try.ntmps49
  go_wp2_with fail
  go_loopg [7] n (fun gg s7 wx => ∃ k : Nat, k + gg = n ∧ s7 = .int .i64 k ∧ Hid (May (rs.take k)) ∧ Hid (Below w.heap.size w wx))
  case atStart => exact ⟨0, by omega, rfl, by unfold Hid; rw [List.take_zero]; exact may_nil, Below.refl _ _⟩
  case round =>
    obtain ⟨k, hkg, rfl, HM, HB⟩ := hrel
    by_cases hk : k < n
    · have hkI : (k : Int) < (n : Int) := by omega
      obtain ⟨r, hr⟩ : ∃ r, rs[k]? = some r := ⟨_, List.getElem?_eq_getElem (by have := HH.out.2.1; omega)⟩
      obtain ⟨bb, off, rfl, hall⟩ := (HH.out.1.below HB.out).some (by rintro rfl; simp at hr)
      have hra := hall k r hr
      have q0 := hra.c0
      have q1 := hra.c1
      have q2 := hra.c2
      have hlt := hra.lt
      obtain ⟨fb, hfb⟩ : ∃ fb : Bool, fb = true ↔ Fol (rs.take k) r := by
        by_cases hf : Fol (rs.take k) r
        · exact ⟨true, by simp [hf]⟩
        · exact ⟨false, by simp [hf]⟩
      have HF : Hid (∀ W, Below wr.heap.size wr W → Calls Try.prog 57 #[.slice (some ⟨bb, off, none⟩) k cap, .agg #[.int .i64 r.v.toInt, .int .i64 r.f, .int .i64 r.c]] W fun e w' => e = .returned (.bool fb) ∧ Below W.heap.size W w') := fun W hW =>
        follows_any (((HH.out.1.below HB.out).below hW).take (by omega)) (HM.out.chain) r fb hfb
      have HR : Hid (rs[k]? = some r ∧ (fb = true ↔ Fol (rs.take k) r)) := ⟨hr, hfb⟩
      have hkc : (0 : Int) ≤ (k : Int) ∧ (k : Int) ≤ (cap : Int) := by omega
      have hr2 : IntKind.i64.wrap ((k : Int) + 1) = (k : Int) + 1 := by rw [IntKind.wrap_i64]; omega
      generalize r.f = f at q1 HF
      generalize r.c = c at q2 HF
      generalize r.v.toInt = z at q0 HF
      clear hra hall hfb hr
      go_wp2_with fail
      generalize hW : wr.alloc (.cells #[.int .i64 z, .int .i64 f, .int .i64 c] 37) = W
      have hbx : Box W wr.heap.size 37 #[.int .i64 z, .int .i64 f, .int .i64 c] := by rw [← hW]; exact box_new _ _ _
      have hbw : Below wr.heap.size wr W := by rw [← hW]; exact below1 _ _
      clear hW
      have HBW : Hid (Below wr.heap.size wr W) := hbw
      generalize hg : wr.heap.size = g at hbx
      have e0 := above_cell (hbx.cell 0 _ rfl)
      have e1 := above_cell (hbx.cell 1 _ rfl)
      have e2 := above_cell (hbx.cell 2 _ rfl)
      have hce : ∀ q : Above W, Calls Try.prog 57 #[.slice (some ⟨bb, off, none⟩) k cap, .agg #[.int .i64 z, .int .i64 f, .int .i64 c]] q.it fun e w' => e = .returned (.bool fb) ∧ Below q.it.heap.size q.it w' := fun q => HF.out q.it (hbw.trans (q.is.mono hbw.size))
      clear hbx hbw q0 q1 q2
      refine wp_region_above (by kernel_rfl) (by kernel_rfl) ?_
      intro hne
      repeat (go_big_quiet_step (first | (go_at_call 57; exact above_of (hce _))))
      refine wpQuiet_nil ?_
      rintro _ ⟨kq, rfl⟩
      have HB2 : Hid (Below w.heap.size w kq.it) := HB.out.trans ((HBW.out.trans (kq.is.mono HBW.out.size)).mono HB.out.size)
      cases fb with
      | false =>
        go_wp2_with fail
        go_ret
        exact ⟨may_no HH.out.2.2 (fun h => by have := HR.out.2.2 (h k r HR.out.1); simp at this), HB2.out⟩
      | true =>
        go_wp2_with fail
        go_roundg (n - (k + 1))
        case measure => clear hr2; omega
        case rel => exact ⟨k + 1, by clear hr2; omega, by go_num, may_next HM.out HR.out.1 (HR.out.2.1 (by trivial)), HB2⟩
    · have hkI : ¬ (k : Int) < (n : Int) := by omega
      obtain rfl : k = n := by omega
      go_wp2_with fail
      go_ret
      exact ⟨may_yes HH.out.2.2 (by have := HM.out; rwa [List.take_of_length_le (by rw [HH.out.2.1]; exact Nat.le_refl _)] at this), HB.out⟩
end Go.Proofs.Ytflabcmjbhmphaa
/-
  Bytes that a call makes by append: of one byte, and of a text; which block alone is turned. A row of bytes that is made at once.
-/
namespace Go.Proofs.Ytflabcmjbhmphaa
open Go.RowKit

/-- A struct's block is not the one in which bytes are made. -/
theorem own_ne_box {w : World} {B : Nat} {e t : TypeId} {size : Nat} {v : Value} {n : Nat} {xs : List Value} {g : Nat} {c : Array Value} (h : w.ownsRow B e size v n xs) (hb : Box w g t c) (hne : e ≠ t) : ¬ v.ownBlock = some g := by
  intro hv
  rcases h.2 with ⟨rfl, _⟩ | ⟨g', cap, cur, rfl, _, hg, _⟩
  · simp [Value.ownBlock] at hv
  · simp only [Value.ownBlock, Option.some.injEq] at hv
    subst hv
    unfold Box at hb
    rw [hb] at hg
    simp only [Option.some.injEq, Obj.cells.injEq] at hg
    exact hne hg.2.1.symm
theorem own_lt {w : World} {B : Nat} {e : TypeId} {size : Nat} {v : Value} {n : Nat} {xs : List Value} (h : w.ownsRow B e size v n xs) {k : Nat} (hk : v.ownBlock = some k) : B ≤ k ∧ k < w.heap.size := h.lt k hk
/-- What was turned was the call's own. -/
theorem kept_own_below {w w' : World} {B : Nat} {v : Value} {l : List UInt8} (h : OwnsB w B v l) (hk : Kept (fun k => v.ownBlock = some k) w w') (hB : B ≤ w.heap.size) : Below B w w' :=
  hk.below (fun _ hk => (own_lt h hk).1) hB

/-- 's = append(s, c)', s the call's own, of bytes. -/
theorem append_u8k {ops : Array Oper} {rest : List Oper} {o : Oper} {a : Act} {Q : Exit → Act → World → Prop} (hgd : o.guard = none) (s x : Operand)
    (ho : o.op = .call { callee := .builtin .append, args := #[s, x], argTypes := #[93, 93] })
    {w : World} {B p : Nat} {v : Value} {l : List UInt8} {n : Int} {c : UInt8} (hs : a.eval s = v) (hx : a.eval x = .slice (some ⟨p, 0, none⟩) 1 1) (hp : p = w.heap.size)
    (hn : n = (c.toNat : Int)) (hown : OwnsB w B v l) (hB : B ≤ w.heap.size) (hl : l.length + 1 ≤ 1000000)
    (h : ∀ v' w', OwnsB w' B v' (l ++ [c]) → Kept (fun k => v.ownBlock = some k) w w' → wpList Try.prog ops Q rest (a.put o.dst v') w') :
    wpList Try.prog ops Q (o :: rest) a (w.alloc (.cells #[.int .u8 n] 5)) := by
  subst hp
  obtain ⟨i0, hi, hz0, hz1, hz2⟩ := info_parts info_u8
  refine wpList_append_own _ hgd s x 93 ho B 5 i0 (.int .u8 0) 1 1 Try.underlying93 hi hz0 hz1 hz2 rfl (by decide) v l.length (bv l) hs (World.ownsRow.alloc hown _) ⟨w.heap.size, 0, none⟩ 1 1 [.int .u8 n] hx rfl (cell_one_new _ _ _) ?_ ?_ ?_ ?_ ?_
  · intro u hu; simp at hu; subst hu; rfl
  · simp only [maxLen]; omega
  · omega
  · simp; omega
  · intro v' w' hown' hgrow _
    refine h v' w' ?_ ?_
    · subst hn
      simpa [OwnsB, bv] using hown'
    · exact ((Kept.refl _ w).alloc _).grown hgrow fun k hk => .inl hk
/-- 's = append(s, t...)', s the call's own, of bytes, t a text. -/
theorem append_strk {ops : Array Oper} {rest : List Oper} {o : Oper} {a : Act} {Q : Exit → Act → World → Prop} (hgd : o.guard = none) (s x : Operand)
    (ho : o.op = .call { callee := .builtin .append, args := #[s, x], argTypes := #[93, 9] })
    {w : World} {B : Nat} {v : Value} {l : List UInt8} (t : ByteArray) (hs : a.eval s = v) (hx : a.eval x = .string t)
    (hown : OwnsB w B v l) (hB : B ≤ w.heap.size) (hl : l.length + t.size ≤ 1000000)
    (h : ∀ v' w', OwnsB w' B v' (l ++ t.data.toList) → Kept (fun k => v.ownBlock = some k) w w' → wpList Try.prog ops Q rest (a.put o.dst v') w') :
    wpList Try.prog ops Q (o :: rest) a w := by
  obtain ⟨i0, hi, hz0, hz1, hz2⟩ := info_parts info_u8
  refine Lib.wpList_append_own_string (w := w) hgd s x 93 9 ho B 5 i0 Try.underlying93 Try.underlying9 hi hz0 hz1 hz2 v l.length (bv l) hs hown t hx ?_ ?_ hB ?_
  · simp only [maxLen]; omega
  · omega
  · intro v' w' hown' hgrow _
    refine h v' w' ?_ ?_
    · have hlen : t.size = t.data.toList.length := Lib.size_eq t
      rw [hlen] at hown'
      simpa [OwnsB, bv, Lib.strCells] using hown'
    · exact (Kept.refl _ w).grown hgrow fun k hk => .inl hk
/-- '[]byte{c}'. -/
theorem ownsB_new (w : World) {n : Int} {c : UInt8} (hn : n = (c.toNat : Int)) : OwnsB (w.alloc (.cells #[.int .u8 n] 5)) w.heap.size (.slice (some ⟨w.heap.size, 0, none⟩) 1 1) [c] := by
  subst hn
  exact ⟨by simp [bv], .inr ⟨w.heap.size, 1, #[.int .u8 (c.toNat : Int)], rfl, Nat.le_refl _, heap_alloc_last w _, by simp, by unfold maxLen; simp, by simp, by simp [bv]⟩⟩
end Go.Proofs.Ytflabcmjbhmphaa
/-
  'string(s)' of one's own bytes, 'make([]int, 0, n)', and what stays while bytes are put behind one another beside a run's box.
-/
namespace Go.Proofs.Ytflabcmjbhmphaa
open Go.RowKit

/-- 'string(s)', s the call's own, of bytes. -/
theorem convert_all {w : World} {B : Nat} {v : Value} {l : List UInt8} (hown : OwnsB w B v l) :
    (convert 93 9 v).run Try.prog w = .ok (.string (str l)) w := by
  rcases Nat.eq_zero_or_pos l.length with h0 | hp
  · have hl : l = [] := List.eq_nil_of_length_eq_zero h0
    subst hl
    rcases hown.2 with ⟨rfl, _⟩ | ⟨g, cap, cur, rfl, _, _, _⟩
    · exact run_convert_bytes_nil w 93 5 Try.underlying93 Try.underlying5 _ _ 9 Try.underlying9
    · rw [run_convert_bytes_string w _ _ 5 _ _ _ Try.underlying93 Try.underlying5 Try.underlying9]
      have hload : (loadCells ⟨g, 0, none⟩ 0).run Try.prog w = .ok (([] : List Int).map (Value.int .u8)).toArray w := by
        have := run_loadCells_list (P := Try.prog) w ⟨g, 0, none⟩ [] (by intro j u h; simp at h)
        simpa using this
      have := run_bytesToString (P := Try.prog) w ⟨g, 0, none⟩ 0 cap [] hload
      exact this
  · exact convert_own hown hp
/-- 'make([]int, 0, n)'. -/
theorem make_i64 {ops : Array Oper} {rest : List Oper} {o : Oper} {a : Act} {Q : Exit → Act → World → Prop} (hgd : o.guard = none) (l c : Operand) (hop : o.op = Op.makeSlice 45 l c)
    {w : World} {C : Int} {n B : Nat} (hl : a.eval l = .int .i64 0) (hc : a.eval c = .int .i64 C) (hC : C = (n : Int)) (hn : n ≤ 1000000) (hB : B ≤ w.heap.size)
    (h : ∀ v' w', OwnsI w' B v' [] → Below B w w' → wpList Try.prog ops Q rest (a.put o.dst v') w') : wpList Try.prog ops Q (o :: rest) a w := by
  obtain ⟨i0, hi, hz0, hz1, hz2⟩ := info_parts info_i64
  refine wpList_make_own w hgd l c 45 hop B 3 i0 (.int .i64 0) 1 Try.underlying45 hi hz0 hz1 _ _ C n hl hc hC ?_ ?_ hB ?_
  · rw [hz2]; omega
  · unfold maxLen; omega
  · intro w' hown hg
    exact h _ w' hown ((Below.refl B w).grown hg hB (fun k hk => by cases hk))
/-- What stays: the bytes that are there, a run's box, what was there at first. -/
structure PutSt (w W : World) (g : Nat) (z f c : Int) (v : Value) (l : List UInt8) : Prop where
  own : OwnsB W w.heap.size v l
  box : Box W g 37 #[.int .i64 z, .int .i64 f, .int .i64 c]
  below : Below w.heap.size w W
section
variable {w W W' : World} {g : Nat} {z f c : Int} {v v' : Value} {l l' : List UInt8}
theorem PutSt.over (h : PutSt w W g z f c v l) (k : Below W.heap.size W W') : PutSt w W' g z f c v l := ⟨h.own.below k, h.box.over k, h.below.trans (k.mono h.below.size)⟩
theorem PutSt.app (h : PutSt w W g z f c v l) (k : Kept (fun k => v.ownBlock = some k) W W') (o : OwnsB W' w.heap.size v' l') : PutSt w W' g z f c v' l' :=
  ⟨o, h.box.kept k (own_ne_box h.own h.box (by decide)), h.below.trans (kept_own_below h.own k h.below.size)⟩
end
/-- 's = append(s, n)', s the call's own, of ints: which block alone is turned. -/
theorem append_i64k {ops : Array Oper} {rest : List Oper} {o : Oper} {a : Act} {Q : Exit → Act → World → Prop} (hgd : o.guard = none) (s x : Operand)
    (ho : o.op = .call { callee := .builtin .append, args := #[s, x], argTypes := #[45, 45] })
    {w : World} {B : Nat} {v : Value} {l : List (BitVec 64)} {n : Int} {c : BitVec 64} (hs : a.eval s = v) (hx : a.eval x = .slice (some ⟨w.heap.size, 0, none⟩) 1 1)
    (hn : n = c.toInt) (hown : OwnsI w B v l) (hB : B ≤ w.heap.size) (hl : l.length + 1 ≤ 1000000)
    (h : ∀ v' w', OwnsI w' B v' (l ++ [c]) → Kept (fun k => v.ownBlock = some k) w w' → wpList Try.prog ops Q rest (a.put o.dst v') w') :
    wpList Try.prog ops Q (o :: rest) a (w.alloc (.cells #[.int .i64 n] 3)) := by
  obtain ⟨i0, hi, hz0, hz1, hz2⟩ := info_parts info_i64
  refine wpList_append_own _ hgd s x 45 ho B 3 i0 (.int .i64 0) 1 8 Try.underlying45 hi hz0 hz1 hz2 rfl (by decide) v l.length (iv l) hs (World.ownsRow.alloc hown _) ⟨w.heap.size, 0, none⟩ 1 1 [.int .i64 n] hx rfl (cell_one_new _ _ _) ?_ ?_ ?_ ?_ ?_
  · intro u hu; simp at hu; subst hu; rfl
  · simp only [maxLen]; omega
  · omega
  · simp; omega
  · intro v' w' hown' hgrow _
    refine h v' w' ?_ ?_
    · subst hn
      simpa [OwnsI, iv] using hown'
    · exact ((Kept.refl _ w).alloc _).grown hgrow fun k hk => .inl hk
theorem kept_ownI_below {w w' : World} {B : Nat} {v : Value} {l : List (BitVec 64)} (h : OwnsI w B v l) (hk : Kept (fun k => v.ownBlock = some k) w w') (hB : B ≤ w.heap.size) : Below B w w' :=
  hk.below (fun _ hk => (own_lt h hk).1) hB
/-- What stays: the numbers that are there, a run's box, what was there at first. -/
structure FlatSt (w W : World) (g : Nat) (z f c : Int) (v : Value) (l : List (BitVec 64)) : Prop where
  own : OwnsI W w.heap.size v l
  box : Box W g 37 #[.int .i64 z, .int .i64 f, .int .i64 c]
  below : Below w.heap.size w W
theorem FlatSt.app {w W W' : World} {g : Nat} {z f c : Int} {v v' : Value} {l l' : List (BitVec 64)} (h : FlatSt w W g z f c v l) (k : Kept (fun k => v.ownBlock = some k) W W') (o : OwnsI W' w.heap.size v' l') : FlatSt w W' g z f c v' l' :=
  ⟨o, h.box.kept k (own_ne_box h.own h.box (by decide)), h.below.trans (kept_ownI_below h.own k h.below.size)⟩
end Go.Proofs.Ytflabcmjbhmphaa
/-
  The contract of package runs' Flat: the numbers of runs.
-/
namespace Go.Proofs.Ytflabcmjbhmphaa
open Go.RowKit

theorem flat_step {rs : List Rn} {k : Nat} {r : Rn} (hr : rs[k]? = some r) : flat (rs.take (k + 1)) = flat (rs.take k) ++ List.replicate r.c.toNat r.v := by
  rw [take_succ_of hr, flat_snoc]

set_option maxRecDepth 4000 in
set_option maxHeartbeats 4000000 in
theorem flat_no {w : World} {v : Value} {rs : List Rn} (h : RunsIs w v rs) (hl : rs.length ≤ 1000000) (hm : ¬ May rs) :
    Calls Try.prog 37 #[v] w fun e w' => e = .returned (.tuple #[.slice none 0 0, .int .i64 1]) ∧ Below w.heap.size w w' := by
  have hmb := mayBe_any h hl false (by simp [hm])
  obtain ⟨a, n, cap, rfl, hn, hcap⟩ := h.slice
  clear h hm
  go_enter Try.func37, Try.ntmps37
  go_wp2_with (go_at_call 49; refine hmb.mono ?_; rintro e w1 ⟨rfl, hb1⟩)
  go_ret2
  exact ⟨rfl, hb1⟩
/-- What Flat answers for runs that may be. -/
def FlatAns (w : World) (rs : List Rn) (e : Ending) (w' : World) : Prop := (∃ v, e = .returned (.tuple #[v, .int .i64 0]) ∧ OwnsI w' w.heap.size v (flat rs)) ∧ Below w.heap.size w w'

set_option maxRecDepth 4000 in
set_option maxHeartbeats 4000000 in
theorem flat_yes {w : World} {v : Value} {rs : List Rn} (h : RunsIs w v rs) (hm : May rs) :
    Calls Try.prog 37 #[v] w (FlatAns w rs) := by
  have hlen := chain_len hm.chain
  have hmb := mayBe_any h (by omega) true (by simp [hm])
  have hce := fun W (hW : Below w.heap.size w W) => end_any (h.below hW) hm.chain
  have hEb := end_bd hm.chain
  have hfl := flat_len hm.chain
  obtain ⟨E, hE⟩ : ∃ E : Nat, endR rs = (E : Int) := ⟨(endR rs).toNat, by omega⟩
  rw [hE] at hEb hfl
  rw [hE] at hce
  obtain ⟨a, n, cap, rfl, hn, hcap⟩ := h.slice
  have hn1 : (n : Int) ≤ 65536 := by omega
  have hE1 : E ≤ 65536 := by omega
  have HH : Hid (RunsIs w (.slice a n cap) rs ∧ rs.length = n ∧ May rs ∧ (flat rs).length = E) := ⟨h, hn, hm, by omega⟩
  clear h hm hn hlen hEb hfl hE
  go_enter Try.func37, Try.ntmps37
  go_wp2_with (first
    | (go_at_call 49; refine hmb.mono ?_; rintro e w1 ⟨rfl, hb1⟩)
    | (go_at_call 50; refine (hce _ hb1).mono ?_; rintro e w2 ⟨rfl, hb2⟩; have HB2 : Hid (Below w.heap.size w w2) := hb1.trans (hb2.mono hb1.size); clear hb1 hb2)
    | (refine make_i64 rfl _ _ rfl rfl rfl rfl (Nat.le_trans hE1 (by decide)) HB2.out.size ?_; intro v3 w3 h3 hb3; have HO3 : Hid (OwnsI w3 w.heap.size v3 []) := h3; have HB3 : Hid (Below w.heap.size w w3) := HB2.out.trans hb3; clear h3 hb3))
  go_loopg [4, 15] n (fun gg s4 s15 wx => ∃ k : Nat, k + gg = n ∧ s15 = .int .i64 k ∧ Hid (OwnsI wx w.heap.size s4 (flat (rs.take k))) ∧ Hid (Below w.heap.size w wx))
  case atStart => exact ⟨0, by omega, rfl, HO3, HB3⟩
  case round =>
    obtain ⟨k, hkg, rfl, HO, HB⟩ := hrel
    clear hmb hce HO3 HB3 HB2
    by_cases hk : k < n
    · have hkI : (k : Int) < (n : Int) := by omega
      obtain ⟨r, hr⟩ : ∃ r, rs[k]? = some r := ⟨_, List.getElem?_eq_getElem (by have := HH.out.2.1; omega)⟩
      obtain ⟨bb, off, rfl, hall⟩ := (HH.out.1.below HB.out).some (by rintro rfl; simp at hr)
      have hra := hall k r hr
      have q0 := hra.c0
      have q1 := hra.c1
      have q2 := hra.c2
      have hlt := hra.lt
      have hrb := run_bd HH.out.2.2.1.chain hr
      obtain ⟨C, hC⟩ : ∃ C : Nat, r.c = (C : Int) := ⟨r.c.toNat, by omega⟩
      have HE : Hid (flat (rs.take (k + 1)) = flat (rs.take k) ++ List.replicate C r.v) := by unfold Hid; rw [flat_step hr, hC]; rfl
      have hl0 : (flat (rs.take k)).length + C ≤ 65536 := by
        have h1 := flat_take_len HH.out.2.2.1.chain k (by have := HH.out.2.1; omega)
        have h2 := hrb.2.2.2.2.2.1
        omega
      rw [hC] at q2
      have hC1 : (C : Int) ≤ 65536 := by omega
      have hr2 : IntKind.i64.wrap ((k : Int) + 1) = (k : Int) + 1 := by rw [IntKind.wrap_i64]; omega
      generalize flat (rs.take k) = l at *
      generalize r.f = f at *
      obtain ⟨x, hx⟩ : ∃ x, x = r.v := ⟨_, rfl⟩
      rw [← hx] at HE q0
      clear hra hall hr hrb hx hC
      obtain ⟨z, hz⟩ : ∃ z, z = x.toInt := ⟨_, rfl⟩
      rw [← hz] at q0
      have HZ : Hid (z = x.toInt) := hz
      clear hz
      go_wp2_with fail
      generalize hW : wr.alloc (.cells #[.int .i64 z, .int .i64 f, .int .i64 C] 37) = W
      have HS : Hid (FlatSt w W wr.heap.size z f C u4 l) := by
        unfold Hid
        rw [← hW]
        exact ⟨HO.out.below (below1 _ _), box_new _ _ _, HB.out.trans ((below1 _ _).mono HB.out.size)⟩
      clear hW q0 q1 q2 HO HB
      generalize wr.heap.size = g at *
      go_loopg [4, 21] C (fun gj s4 s21 wx => ∃ i : Nat, i + gj = C ∧ s21 = .int .i64 i ∧ Hid (FlatSt w wx g z f C s4 (l ++ List.replicate i x)))
      case atStart => exact ⟨0, by omega, rfl, by unfold Hid; rw [List.replicate_zero, List.append_nil]; exact HS.out⟩
      case round =>
        obtain ⟨i, hig, rfl, HF⟩ := hrel
        clear HS
        by_cases hi : i < C
        · have hiI : (i : Int) < (C : Int) := by omega
          have b0 := HF.out.box.cell 0 _ rfl
          have HL : Hid ((l ++ List.replicate i x).length + 1 ≤ 1000000 ∧ l ++ List.replicate i x ++ [x] = l ++ List.replicate (i + 1) x) := ⟨by simp; omega, by rw [List.append_assoc, List.replicate_succ']⟩
          have hr3 : IntKind.i64.wrap ((i : Int) + 1) = (i : Int) + 1 := by rw [IntKind.wrap_i64]; omega
          generalize l ++ List.replicate i x = y at *
          go_wp2_with (at_builtin; refine append_i64k rfl (.tmp 23) (.tmp 26) rfl rfl rfl HZ.out HF.out.own HF.out.below.size HL.out.1 ?_; intro v5 w5 o5 k5; have HS5 : Hid (FlatSt w w5 g z f C v5 (y ++ [x])) := HF.out.app k5 o5; clear o5 k5)
          go_roundg (C - (i + 1))
          case measure => clear hr2 hr3; omega
          case rel => exact ⟨i + 1, by clear hr2 hr3; omega, by go_num, by unfold Hid; rw [← HL.out.2]; exact HS5.out⟩
        · have hiI : ¬ (i : Int) < (C : Int) := by omega
          obtain rfl : i = C := by omega
          go_wp2_with fail
          go_roundg (n - (k + 1))
          case measure => clear hr2; omega
          case rel => exact ⟨k + 1, by clear hr2; omega, by go_num, by unfold Hid; rw [HE.out]; exact HF.out.own, HF.out.below⟩
    · have hkI : ¬ (k : Int) < (n : Int) := by omega
      obtain rfl : k = n := by omega
      have HE : Hid (flat (rs.take k) = flat rs) := by unfold Hid; rw [List.take_of_length_le (by rw [HH.out.2.1]; exact Nat.le_refl _)]
      go_wp2_with fail
      go_ret2
      exact ⟨⟨_, rfl, by rw [← HE.out]; exact HO.out⟩, HB.out⟩
end Go.Proofs.Ytflabcmjbhmphaa
/-
  The contract of peristyleref10's May.
-/
namespace Go.Proofs.Ytflabcmjbhmphaa
open Go.RowKit

set_option maxRecDepth 4000 in
set_option maxHeartbeats 4000000 in
theorem refMay_any {w : World} {v : Value} {rs : List Rn} (h : RunsIs w v rs) (hl : rs.length ≤ 1000000) (b : Bool) (hb : b = true ↔ May rs) :
    Calls Try.prog 52 #[v] w fun e w' => e = .returned (.bool b) ∧ Below w.heap.size w w' := by
  obtain ⟨a, n, cap, rfl, hn, hcap⟩ := h.slice
  have hn1 : (n : Int) ≤ 1000000 := by omega
  have HH : Hid (RunsIs w (.slice a n cap) rs ∧ rs.length = n ∧ (b = true ↔ May rs)) := ⟨h, hn, hb⟩
  clear h hl hb hn
  go_enter Try.func52, Try.ntmps52
  go_wp2_with fail
  go_loopg [3, 4] n (fun gg s3 s4 wx => ∃ k : Nat, k + gg = n ∧ s4 = .int .i64 k ∧ s3 = .int .i64 (endR (rs.take k)) ∧ Hid (May (rs.take k)) ∧ Hid (Below w.heap.size w wx))
  case atStart => exact ⟨0, by omega, rfl, by rw [List.take_zero]; rfl, by unfold Hid; rw [List.take_zero]; exact may_nil, Below.refl _ _⟩
  case round =>
    obtain ⟨k, hkg, rfl, rfl, HM, HB⟩ := hrel
    by_cases hk : k < n
    · have hkI : (k : Int) < (n : Int) := by omega
      obtain ⟨r, hr⟩ : ∃ r, rs[k]? = some r := ⟨_, List.getElem?_eq_getElem (by have := HH.out.2.1; omega)⟩
      obtain ⟨bb, off, rfl, hall⟩ := (HH.out.1.below HB.out).some (by rintro rfl; simp at hr)
      have hra := hall k r hr
      have q0 := hra.c0
      have q1 := hra.c1
      have q2 := hra.c2
      have hr2 : IntKind.i64.wrap ((k : Int) + 1) = (k : Int) + 1 := by rw [IntKind.wrap_i64]; omega
      have HS : Hid (Fol (rs.take k) r → endR (rs.take (k + 1)) = endR (rs.take k) + r.c) := fun hf => by rw [take_succ_of hr, endR_snoc, hf.link.f]
      have HR : Hid (rs[k]? = some r) := hr
      have hEb := end_bd HM.out.chain
      have hlk : ∀ f c : Int, f = r.f → c = r.c → Link (rs.take k) r = (f = endR (rs.take k) ∧ 1 ≤ c ∧ c ≤ 65536 - endR (rs.take k)) := fun f c hf hc => by
        subst hf hc
        exact propext ⟨fun h => ⟨h.f, h.c1, h.c2⟩, fun ⟨a, b, c⟩ => ⟨a, b, c⟩⟩
      obtain ⟨f, hf⟩ : ∃ f, f = r.f := ⟨_, rfl⟩
      obtain ⟨c, hc⟩ : ∃ c, c = r.c := ⟨_, rfl⟩
      obtain ⟨z, hz⟩ : ∃ z, z = r.v.toInt := ⟨_, rfl⟩
      have hlk := hlk f c hf hc
      rw [← hf] at q1
      rw [← hc] at q2 HS
      rw [← hz] at q0
      have HZ : Hid (z = r.v.toInt) := hz
      have hlast : ∀ m : Nat, k = m + 1 → ∃ t : Rn, rs[m]? = some t ∧ (rs.take k).getLast? = some t ∧ wr.cell? ⟨bb, off + m * 3, none⟩ = some (.int .i64 t.v.toInt) := fun m hm => by
        obtain ⟨t, ht⟩ : ∃ t, rs[m]? = some t := ⟨_, List.getElem?_eq_getElem (by have := HH.out.2.1; omega)⟩
        refine ⟨t, ht, ?_, (hall m t ht).c0⟩
        subst hm
        rw [take_succ_of ht]; simp
      have hk0 : k = 0 → (rs.take k).getLast? = none := fun h => by subst h; simp
      obtain ⟨E, hE⟩ : ∃ E, E = endR (rs.take k) := ⟨_, rfl⟩
      rw [← hE] at HS hlk hEb
      rw [← hE]
      have hEb2 : 0 ≤ E ∧ E ≤ 65536 := by omega
      clear hra hall hr hf hc hz hEb hE
      by_cases hL : Link (rs.take k) r
      · have hL2 := hL
        rw [hlk] at hL2
        obtain ⟨l1, l2, l3⟩ := hL2
        have B1 : (f == E) = true := by simpa using l1
        have B2 : decide (c < 1) = false := by simp; omega
        have B3 : decide (65536 - E < c) = false := by simp; omega
        have hw : IntKind.i64.wrap (E + c) = E + c := by rw [IntKind.wrap_i64]; omega
        have HL : Hid (Link (rs.take k) r) := hL
        have hc2 : 1 ≤ c ∧ E + c ≤ 65536 := by omega
        clear hL hlk
        cases k with
        | zero =>
          have HF : Hid (Fol (rs.take 0) r) := ⟨HL.out, fun q hq => by rw [hk0 rfl] at hq; cases hq⟩
          clear hlast hk0
          subst l1
          clear B1
          go_wp2_with fail
          go_quiet (fail)
          go_wp2_with fail
          go_roundg (n - 1)
          case measure => clear hr2; omega
          case rel => exact ⟨1, by clear hr2; omega, rfl, by rw [HS.out HF.out], may_next HM.out HR.out HF.out, ⟨HB.out.os, HB.out.tape, HB.out.output, HB.out.size, HB.out.block⟩⟩
        | succ m =>
          obtain ⟨t, ht1, ht2, ht3⟩ := hlast m rfl
          have hm1 : (m : Int) ≤ 1000000 := by omega
          obtain ⟨y, hy⟩ : ∃ y, y = t.v.toInt := ⟨_, rfl⟩
          rw [← hy] at ht3
          subst l1
          by_cases hv : z = y
          · have HN : Hid (¬ Fol (rs.take (m + 1)) r) := fun h => h.diff t ht2 (BitVec.toInt_inj.1 (by rw [← hy, ← hv, HZ.out]))
            have B4 : (z == y) = true := by simpa using hv
            clear hlast hk0 ht1 ht2 hy hv B1
            go_wp2_with fail
            go_quiet (fail)
            go_wp2_with fail
            go_ret
            exact ⟨may_no HH.out.2.2 (fun h => HN.out (h _ r HR.out)), ⟨HB.out.os, HB.out.tape, HB.out.output, HB.out.size, HB.out.block⟩⟩
          · have HF : Hid (Fol (rs.take (m + 1)) r) := ⟨HL.out, fun q hq e => by rw [ht2] at hq; cases hq; exact hv (by rw [hy, e, HZ.out])⟩
            have B4 : (z == y) = false := by simpa using hv
            clear hlast hk0 ht1 ht2 hy hv B1
            go_wp2_with fail
            go_quiet (fail)
            go_wp2_with fail
            go_roundg (n - (m + 2))
            case measure => clear hr2; omega
            case rel => exact ⟨m + 2, by clear hr2; omega, by go_num, by rw [HS.out HF.out], may_next HM.out HR.out HF.out, ⟨HB.out.os, HB.out.tape, HB.out.output, HB.out.size, HB.out.block⟩⟩
      · have HN : Hid (¬ Fol (rs.take k) r) := fun h => hL h.link
        rw [hlk] at hL
        by_cases g1 : f = E
        · subst g1
          by_cases g2 : c < 1
          · have B2 : decide (c < 1) = true := by simpa using g2
            clear hL hlk hlast hk0
            go_wp2_with fail
            go_quiet (fail)
            go_wp2_with fail
            go_ret
            exact ⟨may_no HH.out.2.2 (fun h => HN.out (h _ r HR.out)), ⟨HB.out.os, HB.out.tape, HB.out.output, HB.out.size, HB.out.block⟩⟩
          · have B2 : decide (c < 1) = false := by simpa using g2
            have B3 : decide (65536 - f < c) = true := by simp; omega
            clear hL hlk hlast hk0
            go_wp2_with fail
            go_quiet (fail)
            go_wp2_with fail
            go_ret
            exact ⟨may_no HH.out.2.2 (fun h => HN.out (h _ r HR.out)), ⟨HB.out.os, HB.out.tape, HB.out.output, HB.out.size, HB.out.block⟩⟩
        · have B0 : (f == E) = false := by simpa using g1
          have B1 : (f != E) = true := by simpa using g1
          clear g1
          clear hL hlk hlast hk0
          go_wp2_with fail
          go_quiet (fail)
          go_wp2_with fail
          go_ret
          exact ⟨may_no HH.out.2.2 (fun h => HN.out (h _ r HR.out)), ⟨HB.out.os, HB.out.tape, HB.out.output, HB.out.size, HB.out.block⟩⟩
    · have hkI : ¬ (k : Int) < (n : Int) := by omega
      obtain rfl : k = n := by omega
      go_wp2_with fail
      go_ret
      exact ⟨may_yes HH.out.2.2 (by have := HM.out; rwa [List.take_of_length_le (by rw [HH.out.2.1]; exact Nat.le_refl _)] at this), HB.out⟩
end Go.Proofs.Ytflabcmjbhmphaa
/-
  The contract of peristyleref10's Flat.
-/
namespace Go.Proofs.Ytflabcmjbhmphaa
open Go.RowKit

set_option maxRecDepth 4000 in
set_option maxHeartbeats 4000000 in
theorem refFlat_no {w : World} {v : Value} {rs : List Rn} (h : RunsIs w v rs) (hl : rs.length ≤ 1000000) (hm : ¬ May rs) :
    Calls Try.prog 39 #[v] w fun e w' => e = .returned (.tuple #[.slice none 0 0, .int .i64 1]) ∧ Below w.heap.size w w' := by
  have hmb := refMay_any h hl false (by simp [hm])
  obtain ⟨a, n, cap, rfl, hn, hcap⟩ := h.slice
  clear h hm
  go_enter Try.func39, Try.ntmps39
  go_wp2_with (go_at_call 52; refine hmb.mono ?_; rintro e w1 ⟨rfl, hb1⟩)
  go_ret2
  exact ⟨rfl, hb1⟩
set_option maxRecDepth 4000 in
set_option maxHeartbeats 4000000 in
theorem refFlat_yes {w : World} {v : Value} {rs : List Rn} (h : RunsIs w v rs) (hm : May rs) :
    Calls Try.prog 39 #[v] w (FlatAns w rs) := by
  have hlen := chain_len hm.chain
  have hmb := refMay_any h (by omega) true (by simp [hm])
  have hEb := end_bd hm.chain
  have hfl := flat_len hm.chain
  obtain ⟨E, hE⟩ : ∃ E : Nat, endR rs = (E : Int) := ⟨(endR rs).toNat, by omega⟩
  rw [hE] at hEb hfl
  obtain ⟨a, n, cap, rfl, hn, hcap⟩ := h.slice
  have hn1 : (n : Int) ≤ 65536 := by omega
  have hE1 : E ≤ 65536 := by omega
  have HH : Hid (RunsIs w (.slice a n cap) rs ∧ rs.length = n ∧ May rs ∧ (flat rs).length = E) := ⟨h, hn, hm, by omega⟩
  clear h hm hn hlen hEb hfl hE
  go_enter Try.func39, Try.ntmps39
  go_wp2_with (first
    | (go_at_call 52; refine hmb.mono ?_; rintro e w1 ⟨rfl, hb1⟩; have HB3 : Hid (Below w.heap.size w w1) := hb1; clear hb1))
  go_loopg [4, 5] n (fun gg s4 s5 wx => ∃ k : Nat, k + gg = n ∧ s5 = .int .i64 k ∧ Hid (OwnsI wx w.heap.size s4 (flat (rs.take k))) ∧ Hid (Below w.heap.size w wx))
  case atStart => exact ⟨0, by omega, rfl, ownsI_nil _ _, HB3⟩
  case round =>
    obtain ⟨k, hkg, rfl, HO, HB⟩ := hrel
    clear hmb HB3
    by_cases hk : k < n
    · have hkI : (k : Int) < (n : Int) := by omega
      obtain ⟨r, hr⟩ : ∃ r, rs[k]? = some r := ⟨_, List.getElem?_eq_getElem (by have := HH.out.2.1; omega)⟩
      obtain ⟨bb, off, rfl, hall⟩ := (HH.out.1.below HB.out).some (by rintro rfl; simp at hr)
      have HBB : Hid (bb < w.heap.size) := by
        obtain ⟨b2, o2, e2, k2⟩ := HH.out.1.some (by rintro rfl; simp at hr)
        cases e2
        exact (k2 k r hr).lt
      have hra := hall k r hr
      have q0 := hra.c0
      have q1 := hra.c1
      have q2 := hra.c2
      have hlt := hra.lt
      have hrb := run_bd HH.out.2.2.1.chain hr
      obtain ⟨C, hC⟩ : ∃ C : Nat, r.c = (C : Int) := ⟨r.c.toNat, by omega⟩
      have HE : Hid (flat (rs.take (k + 1)) = flat (rs.take k) ++ List.replicate C r.v) := by unfold Hid; rw [flat_step hr, hC]; rfl
      have hl0 : (flat (rs.take k)).length + C ≤ 65536 := by
        have h1 := flat_take_len HH.out.2.2.1.chain k (by have := HH.out.2.1; omega)
        have h2 := hrb.2.2.2.2.2.1
        omega
      rw [hC] at q2
      have hC1 : (C : Int) ≤ 65536 := by omega
      have hr2 : IntKind.i64.wrap ((k : Int) + 1) = (k : Int) + 1 := by rw [IntKind.wrap_i64]; omega
      generalize flat (rs.take k) = l at *
      generalize r.f = f at *
      obtain ⟨x, hx⟩ : ∃ x, x = r.v := ⟨_, rfl⟩
      rw [← hx] at HE q0
      clear hra hall hr hrb hx hC
      obtain ⟨z, hz⟩ : ∃ z, z = x.toInt := ⟨_, rfl⟩
      rw [← hz] at q0
      have HZ : Hid (z = x.toInt) := hz
      clear hz
      have HR : Hid (wr.cell? ⟨bb, off + k * 3, none⟩ = some (.int .i64 z) ∧ wr.cell? ⟨bb, off + k * 3 + 2, none⟩ = some (.int .i64 (C : Int)) ∧ bb < w.heap.size) := ⟨q0, q2, HBB.out⟩
      have HZ2 : Hid (w.heap.size ≤ wr.heap.size) := HB.out.size
      clear q0 q1 q2 hlt
      go_wp2_with fail
      go_loopg [4, 6] C (fun gj s4 s6 wx => ∃ i : Nat, i + gj = C ∧ s6 = .int .i64 i ∧ Hid (OwnsI wx w.heap.size s4 (l ++ List.replicate i x)) ∧ Hid (Below w.heap.size wr wx))
      case atStart => exact ⟨0, by omega, rfl, by unfold Hid; rw [List.replicate_zero, List.append_nil]; exact HO.out, Below.refl _ _⟩
      case round =>
        obtain ⟨i, hig, rfl, HF, HJ⟩ := hrel
        have b0 := (HJ.out.cell (p := ⟨bb, off + k * 3, none⟩) HR.out.2.2).trans HR.out.1
        have b2 := (HJ.out.cell (p := ⟨bb, off + k * 3 + 2, none⟩) HR.out.2.2).trans HR.out.2.1
        by_cases hi : i < C
        · have hiI : (i : Int) < (C : Int) := by omega
          have HL : Hid ((l ++ List.replicate i x).length + 1 ≤ 1000000 ∧ l ++ List.replicate i x ++ [x] = l ++ List.replicate (i + 1) x) := ⟨by simp; omega, by rw [List.append_assoc, List.replicate_succ']⟩
          have hr3 : IntKind.i64.wrap ((i : Int) + 1) = (i : Int) + 1 := by rw [IntKind.wrap_i64]; omega
          generalize l ++ List.replicate i x = y at *
          go_wp2_with (at_builtin; refine append_i64 rfl (.tmp 25) (.tmp 31) rfl rfl rfl HZ.out HF.out (Nat.le_trans HZ2.out HJ.out.size) HL.out.1 ?_; intro v5 w5 o5 k5; have HO5 : Hid (OwnsI w5 w.heap.size v5 (y ++ [x])) := o5; have HJ5 := HJ.out.trans k5; clear o5 k5)
          go_roundg (C - (i + 1))
          case measure => clear hr2 hr3; omega
          case rel => exact ⟨i + 1, by clear hr2 hr3; omega, by go_num, by unfold Hid; rw [← HL.out.2]; exact HO5.out, HJ5⟩
        · have hiI : ¬ (i : Int) < (C : Int) := by omega
          obtain rfl : i = C := by omega
          go_wp2_with fail
          go_roundg (n - (k + 1))
          case measure => clear hr2; omega
          case rel => exact ⟨k + 1, by clear hr2; omega, by go_num, by unfold Hid; rw [HE.out]; exact HF.out, HB.out.trans HJ.out⟩
    · have hkI : ¬ (k : Int) < (n : Int) := by omega
      obtain rfl : k = n := by omega
      have HE : Hid (flat (rs.take k) = flat rs) := by unfold Hid; rw [List.take_of_length_le (by rw [HH.out.2.1]; exact Nat.le_refl _)]
      go_wp2_with fail
      go_ret2
      exact ⟨⟨_, rfl, by rw [← HE.out]; exact HO.out⟩, HB.out⟩
end Go.Proofs.Ytflabcmjbhmphaa
/-
  The contract of package runs' Of: the runs of numbers.
-/
namespace Go.Proofs.Ytflabcmjbhmphaa
open Go.RowKit

/-- The last run's Count, and what a store there makes. -/
theorem bump_at {w : World} {va : Option Addr} {q n vc : Nat} {p : List Rn} {r : Rn} (h : SRows w (.slice va n vc) 37 3 ((p ++ [r]).map rc)) (hn : n = q + 1) (hp : p.length = q) :
    ∃ g, va = some ⟨g, 0, none⟩ ∧ g < w.heap.size ∧ w.cell? ⟨g, q * 3 + 2, none⟩ = some (.int .i64 r.c) ∧ w.frozen? ⟨g, q * 3 + 2, none⟩ = false ∧
      ∀ u : Int, SRows (w.setCell ⟨g, q * 3 + 2, none⟩ (.int .i64 u)) (.slice (some ⟨g, 0, none⟩) n vc) 37 3 ((p ++ [(⟨r.v, r.f, u⟩ : Rn)]).map rc) := by
  rcases h with ⟨h1, h0⟩ | ⟨g, cap, h1, hc1, hc2, hrows⟩
  · simp at h0
  · cases h1
    have hat : ((p ++ [r]).map rc)[q]? = some (rc r) := by rw [← hp]; simp
    have hr := hrows.range hat
    have hone := fun u : Int => rows_setOne hrows hat (j := 2) (by omega) (.int .i64 u)
    refine ⟨g, rfl, hrows.lt, hr 2 _ rfl, ?_, fun u => ?_⟩
    · obtain ⟨cur, c1, _⟩ := hrows
      exact frozen_of_row w g _ cur _ c1
    · have e : ((p ++ [r]).map rc).set q ((rc r).set 2 (.int .i64 u)) = (p ++ [(⟨r.v, r.f, u⟩ : Rn)]).map rc := by
        rw [← hp]; simp
      have h2 := hone u
      rw [e] at h2
      refine .inr ⟨g, vc, by simp, by simpa using hc1, hc2, h2⟩
/-- What Of makes. -/
def OfAns (w : World) (l : List (BitVec 64)) (e : Ending) (w' : World) : Prop := (∃ v, e = .returned v ∧ RunsIs w' v (ofP l l.length)) ∧ Below w.heap.size w w'
theorem getD_some {l : List (BitVec 64)} {k : Nat} (h : k < l.length) : l[k]? = some (l.getD k 0#64) := by
  rw [List.getD_eq_getElem?_getD, List.getElem?_eq_getElem h]; rfl
theorem ofP_len (l : List (BitVec 64)) : ∀ k : Nat, (ofP l k).length ≤ k
  | 0 => by simp [ofP]
  | k + 1 => by
    have := ofP_len l k
    rw [ofP]
    split
    · rcases List.eq_nil_or_concat (ofP l k) with e | ⟨a, r, e⟩
      · rw [e]; simp [bump]
      · rw [List.concat_eq_append] at e
        rw [e, bump_snoc]
        rw [e] at this
        simp at this ⊢
        omega
    · simp; omega

set_option maxRecDepth 4000 in
set_option maxHeartbeats 4000000 in
theorem runsOf_row (w : World) (b off cap : Nat) (l : List (BitVec 64)) (hl : l.length ≤ 65536)
    (hcell : ∀ i, i < l.length → w.cell? ⟨b, off + i, none⟩ = some (.int .i64 (l.getD i 0#64).toInt)) :
    Calls Try.prog 34 #[.slice (some ⟨b, off, none⟩) l.length cap] w (OfAns w l) := by
  obtain ⟨n, hn⟩ : ∃ n, n = l.length := ⟨_, rfl⟩
  rw [← hn]
  have hn1 : (n : Int) ≤ 65536 := by omega
  have HN : Hid (n = l.length) := hn
  have HC : Hid (∀ i, i < n → w.cell? ⟨b, off + i, none⟩ = some (.int .i64 (l.getD i 0#64).toInt)) := by unfold Hid; rw [hn]; exact hcell
  obtain ⟨i0, hi0, hz0, hz1, hz2⟩ := info_parts info_run
  have HI : Hid (Try.prog.info? 37 = some i0 ∧ i0.zero = some (.agg #[.int .i64 0, .int .i64 0, .int .i64 0]) ∧ i0.size = 3 ∧ i0.bytes = 24) := ⟨hi0, hz0, hz1, hz2⟩
  clear hn hl hcell hi0 hz0 hz1 hz2
  go_enter Try.func34, Try.ntmps34
  go_wp2_with fail
  go_loopg [3, 11] n (fun gg s3 s11 wx => ∃ k : Nat, k + gg = n ∧ s11 = .int .i64 k ∧ Hid (SRows wx s3 37 3 ((ofP l k).map rc) ∧ ∀ x, s3.ownBlock = some x → w.heap.size ≤ x) ∧ Hid (Below w.heap.size w wx))
  case atStart => exact ⟨0, by omega, rfl, ⟨srows_nil _ _ _, noOwn _⟩, Below.refl _ _⟩
  case round =>
    obtain ⟨k, hkg, rfl, HS, HB⟩ := hrel
    by_cases hk : k < n
    · have hkI : (k : Int) < (n : Int) := by omega
      have hcell : wr.cell? ⟨b, off + k, none⟩ = some (.int .i64 (l.getD k 0#64).toInt) := (HB.out.cell (p := ⟨b, off + k, none⟩) (World.block_lt_of_cell? w _ (HC.out k hk))).trans (HC.out k hk)
      obtain ⟨x, hx⟩ : ∃ x, x = l.getD k 0#64 := ⟨_, rfl⟩
      obtain ⟨z, hz⟩ : ∃ z, z = x.toInt := ⟨_, rfl⟩
      rw [← hx, ← hz] at hcell
      have hO := of_is l k (by rw [← HN.out]; omega) (by omega)
      have hlen := ofP_len l k
      have hr2 : IntKind.i64.wrap ((k : Int) + 1) = (k : Int) + 1 := by rw [IntKind.wrap_i64]; omega
      obtain ⟨R, hR⟩ : ∃ R, R = ofP l k := ⟨_, rfl⟩
      rw [← hR] at HS hlen
      obtain ⟨a3, c3, h3⟩ := srows_slice HS.out.1
      rw [List.length_map] at h3
      subst h3
      by_cases hon : 0 < k ∧ l.getD k 0#64 = l.getD (k - 1) 0#64
      · obtain ⟨m, rfl⟩ : ∃ m, k = m + 1 := ⟨k - 1, by omega⟩
        obtain ⟨p, r, hp, hv⟩ := hO.last (by omega)
        have HE : Hid (ofP l (m + 1 + 1) = p ++ [⟨r.v, r.f, r.c + 1⟩]) := by unfold Hid; rw [ofP_on hon.1 hon.2, hp, bump_snoc]
        have hm := hO.may
        rw [hp] at hm hR
        subst hR
        have hrb := run_bd hm.chain (k := p.length) (r := r) (by simp)
        have hcc : 1 ≤ r.c ∧ r.c ≤ 65536 := ⟨hrb.2.1, hrb.2.2.1⟩
        obtain ⟨hS, hown⟩ := HS.out
        clear HS
        rw [List.length_append, List.length_singleton] at hS hown hlen
        rw [List.length_append, List.length_singleton]
        obtain ⟨g, rfl, hg, g1, g2, g3⟩ := bump_at hS rfl rfl
        have hwc : IntKind.i64.wrap (r.c + 1) = r.c + 1 := by rw [IntKind.wrap_i64]; omega
        have HO : Hid (w.heap.size ≤ g) := hown g rfl
        have hpm : (p.length : Int) ≤ 65536 := by omega
        have hcell2 : wr.cell? ⟨b, off + m, none⟩ = some (.int .i64 z) := by
          rw [hz, hx, hon.2]
          exact (HB.out.cell (p := ⟨b, off + m, none⟩) (World.block_lt_of_cell? w _ (HC.out m (by omega)))).trans (HC.out m (by omega))
        have hmI : (m : Int) ≤ 65536 := by omega
        clear hO hon hp hv hm hrb hS hx hz hown
        generalize p.length = q at *
        have HG : Hid (∀ u : Int, SRows (wr.setCell ⟨g, q * 3 + 2, none⟩ (.int .i64 u)) (.slice (some ⟨g, 0, none⟩) (q + 1) c3) 37 3 ((p ++ [(⟨r.v, r.f, u⟩ : Rn)]).map rc)) := g3
        clear g3
        generalize hc : r.c = c at *
        clear hc
        go_wp2_with fail
        go_roundg (n - (m + 2))
        case measure => clear hr2; omega
        case rel => exact ⟨m + 2, by clear hr2; omega, by go_num, ⟨by rw [HE.out]; exact HG.out _, fun x hx => by simp [Value.ownBlock] at hx; subst hx; exact HO.out⟩, HB.out.setCell HO.out _⟩
      · have hnew : k = 0 ∨ l.getD k 0#64 ≠ l.getD (k - 1) 0#64 := by
          rcases Nat.eq_zero_or_pos k with h0 | h0
          · exact .inl h0
          · exact .inr fun e => hon ⟨h0, e⟩
        have HZ : Hid (z = x.toInt) := hz
        have hqm : (R.length : Int) ≤ 65536 := by omega
        cases k with
        | zero =>
          rw [Nat.add_zero] at hcell
          have HE : Hid (ofP l (0 + 1) = R ++ [⟨x, 0, 1⟩]) := by unfold Hid; rw [ofP_new hnew, hR, hx]; rfl
          clear hnew hon hR hx hz hO
          have HV : Hid (SRows (wr.alloc (.cells #[.int .i64 z, .int .i64 0, .int .i64 0] 37)) (.slice a3 R.length c3) 37 3 (R.map rc) ∧ SRows (wr.alloc (.cells #[.int .i64 z, .int .i64 0, .int .i64 0] 37)) (.slice (some ⟨wr.heap.size, 0, none⟩) 1 1) 37 3 [rc ⟨x, 0, 0⟩]) :=
            ⟨HS.out.1.of_block (fun y hy => (below1 wr _).block y (HS.out.1.lt hy)), by rw [HZ.out]; exact srows_new wr (rc ⟨x, 0, 0⟩) 37 (sz := 3) rfl⟩
          have HX : Hid ((R.map rc).length + [rc ⟨x, 0, 0⟩].length = R.length + 1 ∧ R.map rc ++ [rc ⟨x, 0, 0⟩] = (R ++ [(⟨x, 0, 0⟩ : Rn)]).map rc ∧ R.length + 1 ≤ 1000000 ∧ w.heap.size ≤ (wr.alloc (.cells #[.int .i64 z, .int .i64 0, .int .i64 0] 37)).heap.size) :=
            ⟨by simp, by simp, by omega, by have := HB.out.size; simp; omega⟩
          have hone := rc_one ⟨x, 0, 0⟩
          go_wp2_with (at_builtin; refine append_rows rfl (.tmp 27) (.tmp 31) 27 37 i0 _ 3 24 rfl Try.underlying27 HI.out.1 HI.out.2.1 HI.out.2.2.1 HI.out.2.2.2 rfl (by decide) (by decide) rfl rfl HV.out.1 HV.out.2 HS.out.2 HX.out.2.2.2 hone (R.length + 1) HX.out.1 ((R ++ [(⟨x, 0, 0⟩ : Rn)]).map rc) HX.out.2.1 HX.out.2.2.1 ?_; intro va vc w4 h1 h2 h3; obtain ⟨g, rfl, hg, g1, g2, g3⟩ := bump_at h1 rfl rfl; have HG : Hid (∀ u : Int, SRows (w4.setCell ⟨g, R.length * 3 + 2, none⟩ (.int .i64 u)) (.slice (some ⟨g, 0, none⟩) (R.length + 1) vc) 37 3 ((R ++ [(⟨x, 0, u⟩ : Rn)]).map rc)) := g3; have HO : Hid (w.heap.size ≤ g) := h2 g rfl; have HB4 : Hid (Below w.heap.size w w4) := (HB.out.trans (belowOne _ HB.out.size _)).trans h3; clear h1 h2 h3 g3)
          go_roundg (n - (1))
          case measure => clear hr2; omega
          case rel => exact ⟨1, by clear hr2; omega, by go_num, ⟨by rw [HE.out]; exact HG.out _, fun x hx => by simp [Value.ownBlock] at hx; subst hx; exact HO.out⟩, HB4.out.setCell HO.out _⟩
        | succ m =>
          have HE : Hid (ofP l (m + 1 + 1) = R ++ [⟨x, (m : Int) + 1, 1⟩]) := by unfold Hid; rw [ofP_new hnew, hR, hx]; rfl
          have hne : l.getD (m + 1) 0#64 ≠ l.getD m 0#64 := by
            rcases hnew with h0 | h0
            · omega
            · exact h0
          have hcell2 : wr.cell? ⟨b, off + m, none⟩ = some (.int .i64 (l.getD m 0#64).toInt) := (HB.out.cell (p := ⟨b, off + m, none⟩) (World.block_lt_of_cell? w _ (HC.out m (by omega)))).trans (HC.out m (by omega))
          obtain ⟨y, hy⟩ : ∃ y, y = (l.getD m 0#64).toInt := ⟨_, rfl⟩
          rw [← hy] at hcell2
          have hzy : z ≠ y := fun e => hne (BitVec.toInt_inj.1 (by rw [← hy, ← e, hz, hx]))
          have B1 : (z == y) = false := by simpa using hzy
          have B2 : (z != y) = true := by simpa using hzy
          have hmI : (m : Int) ≤ 65536 := by omega
          clear hnew hon hR hx hz hO hne hy hzy
          have HV : Hid (SRows (wr.alloc (.cells #[.int .i64 z, .int .i64 ((m : Int) + 1), .int .i64 0] 37)) (.slice a3 R.length c3) 37 3 (R.map rc) ∧ SRows (wr.alloc (.cells #[.int .i64 z, .int .i64 ((m : Int) + 1), .int .i64 0] 37)) (.slice (some ⟨wr.heap.size, 0, none⟩) 1 1) 37 3 [rc ⟨x, ((m : Int) + 1), 0⟩]) :=
            ⟨HS.out.1.of_block (fun y hy => (below1 wr _).block y (HS.out.1.lt hy)), by rw [HZ.out]; exact srows_new wr (rc ⟨x, ((m : Int) + 1), 0⟩) 37 (sz := 3) rfl⟩
          have HX : Hid ((R.map rc).length + [rc ⟨x, ((m : Int) + 1), 0⟩].length = R.length + 1 ∧ R.map rc ++ [rc ⟨x, ((m : Int) + 1), 0⟩] = (R ++ [(⟨x, ((m : Int) + 1), 0⟩ : Rn)]).map rc ∧ R.length + 1 ≤ 1000000 ∧ w.heap.size ≤ (wr.alloc (.cells #[.int .i64 z, .int .i64 ((m : Int) + 1), .int .i64 0] 37)).heap.size) :=
            ⟨by simp, by simp, by omega, by have := HB.out.size; simp; omega⟩
          have hone := rc_one ⟨x, ((m : Int) + 1), 0⟩
          go_wp2_with (at_builtin; refine append_rows rfl (.tmp 27) (.tmp 31) 27 37 i0 _ 3 24 rfl Try.underlying27 HI.out.1 HI.out.2.1 HI.out.2.2.1 HI.out.2.2.2 rfl (by decide) (by decide) rfl rfl HV.out.1 HV.out.2 HS.out.2 HX.out.2.2.2 hone (R.length + 1) HX.out.1 ((R ++ [(⟨x, ((m : Int) + 1), 0⟩ : Rn)]).map rc) HX.out.2.1 HX.out.2.2.1 ?_; intro va vc w4 h1 h2 h3; obtain ⟨g, rfl, hg, g1, g2, g3⟩ := bump_at h1 rfl rfl; have HG : Hid (∀ u : Int, SRows (w4.setCell ⟨g, R.length * 3 + 2, none⟩ (.int .i64 u)) (.slice (some ⟨g, 0, none⟩) (R.length + 1) vc) 37 3 ((R ++ [(⟨x, ((m : Int) + 1), u⟩ : Rn)]).map rc)) := g3; have HO : Hid (w.heap.size ≤ g) := h2 g rfl; have HB4 : Hid (Below w.heap.size w w4) := (HB.out.trans (belowOne _ HB.out.size _)).trans h3; clear h1 h2 h3 g3)
          go_roundg (n - (m + 2))
          case measure => clear hr2; omega
          case rel => exact ⟨m + 2, by clear hr2; omega, by go_num, ⟨by rw [HE.out]; exact HG.out _, fun x hx => by simp [Value.ownBlock] at hx; subst hx; exact HO.out⟩, HB4.out.setCell HO.out _⟩
    · have hkI : ¬ (k : Int) < (n : Int) := by omega
      obtain rfl : k = n := by omega
      go_wp2_with fail
      go_ret
      exact ⟨⟨_, rfl, by rw [← HN.out]; exact runs_of_srows HS.out.1⟩, HB.out⟩
set_option maxHeartbeats 400000 in
theorem runsOf_none (w : World) (a : Option Addr) (c : Nat) : Calls Try.prog 34 #[.slice a 0 c] w (OfAns w []) := by
  go_enter Try.func34, Try.ntmps34
  go_wp2_with fail
  go_loopg [3, 11] 0 (fun g s3 s11 wx => g = 0 ∧ s3 = .slice none 0 0 ∧ s11 = .int .i64 0 ∧ wx = w)
  case atStart => exact ⟨rfl, rfl, rfl, rfl⟩
  case round =>
    obtain ⟨hg, rfl, rfl, rfl⟩ := hrel
    clear hg
    go_wp2_with fail
    go_ret
    exact ⟨⟨_, rfl, runs_nil _⟩, Below.refl _ _⟩
theorem runsOf_any {w : World} {v : Value} {l : List (BitVec 64)} (h : ReadsI w v l) (hl : l.length ≤ 65536) : Calls Try.prog 34 #[v] w (OfAns w l) := by
  rcases h with ⟨rfl, a1, c1, rfl⟩ | ⟨b1, off1, c1, rfl, hne, _, hc1⟩
  · exact runsOf_none w _ _
  · exact runsOf_row w _ _ _ l hl hc1
end Go.Proofs.Ytflabcmjbhmphaa
/-
  The contract of peristyleref10's Of.
-/
namespace Go.Proofs.Ytflabcmjbhmphaa
open Go.RowKit

set_option maxRecDepth 4000 in
set_option maxHeartbeats 4000000 in
theorem refRunsOf_row (w : World) (b off cap : Nat) (l : List (BitVec 64)) (hl : l.length ≤ 65536)
    (hcell : ∀ i, i < l.length → w.cell? ⟨b, off + i, none⟩ = some (.int .i64 (l.getD i 0#64).toInt)) :
    Calls Try.prog 35 #[.slice (some ⟨b, off, none⟩) l.length cap] w (OfAns w l) := by
  obtain ⟨n, hn⟩ : ∃ n, n = l.length := ⟨_, rfl⟩
  rw [← hn]
  have hn1 : (n : Int) ≤ 65536 := by omega
  have HN : Hid (n = l.length) := hn
  have HC : Hid (∀ i, i < n → w.cell? ⟨b, off + i, none⟩ = some (.int .i64 (l.getD i 0#64).toInt)) := by unfold Hid; rw [hn]; exact hcell
  obtain ⟨i0, hi0, hz0, hz1, hz2⟩ := info_parts info_run
  have HI : Hid (Try.prog.info? 37 = some i0 ∧ i0.zero = some (.agg #[.int .i64 0, .int .i64 0, .int .i64 0]) ∧ i0.size = 3 ∧ i0.bytes = 24) := ⟨hi0, hz0, hz1, hz2⟩
  clear hn hl hcell hi0 hz0 hz1 hz2
  go_enter Try.func35, Try.ntmps35
  go_wp2_with fail
  go_loopg [3, 4] n (fun gg s3 s4 wx => ∃ k : Nat, k + gg = n ∧ s4 = .int .i64 k ∧ Hid (SRows wx s3 37 3 ((ofP l k).map rc) ∧ ∀ x, s3.ownBlock = some x → w.heap.size ≤ x) ∧ Hid (Below w.heap.size w wx))
  case atStart => exact ⟨0, by omega, rfl, ⟨srows_nil _ _ _, noOwn _⟩, Below.refl _ _⟩
  case round =>
    obtain ⟨k, hkg, rfl, HS, HB⟩ := hrel
    by_cases hk : k < n
    · have hkI : (k : Int) < (n : Int) := by omega
      have hcell : wr.cell? ⟨b, off + k, none⟩ = some (.int .i64 (l.getD k 0#64).toInt) := (HB.out.cell (p := ⟨b, off + k, none⟩) (World.block_lt_of_cell? w _ (HC.out k hk))).trans (HC.out k hk)
      obtain ⟨x, hx⟩ : ∃ x, x = l.getD k 0#64 := ⟨_, rfl⟩
      obtain ⟨z, hz⟩ : ∃ z, z = x.toInt := ⟨_, rfl⟩
      rw [← hx, ← hz] at hcell
      have hO := of_is l k (by rw [← HN.out]; omega) (by omega)
      have hlen := ofP_len l k
      have hr2 : IntKind.i64.wrap ((k : Int) + 1) = (k : Int) + 1 := by rw [IntKind.wrap_i64]; omega
      obtain ⟨R, hR⟩ : ∃ R, R = ofP l k := ⟨_, rfl⟩
      rw [← hR] at HS hlen
      obtain ⟨a3, c3, h3⟩ := srows_slice HS.out.1
      rw [List.length_map] at h3
      subst h3
      have HZ : Hid (z = x.toInt) := hz
      have hqm : (R.length : Int) ≤ 65536 := by omega
      cases k with
      | zero =>
          rw [Nat.add_zero] at hcell
          have HE : Hid (ofP l (0 + 1) = R ++ [⟨x, 0, 1⟩]) := by unfold Hid; rw [ofP_new (.inl rfl), hR, hx]; rfl
          clear hR hx hz hO
          go_wp2_with fail
          go_quiet (fail)
          obtain ⟨W, hW⟩ : ∃ W, W = wr.drewN nq := ⟨_, rfl⟩
          rw [← hW]
          have HSW : Hid (SRows W (.slice a3 R.length c3) 37 3 (R.map rc) ∧ ∀ x, (Value.slice a3 R.length c3).ownBlock = some x → w.heap.size ≤ x) := by unfold Hid; rw [hW]; exact HS.out
          have HBW : Hid (Below w.heap.size w W) := by unfold Hid; rw [hW]; exact ⟨HB.out.os, HB.out.tape, HB.out.output, HB.out.size, HB.out.block⟩
          have hcW : W.cell? ⟨b, off, none⟩ = some (.int .i64 z) := by rw [hW]; exact hcell
          clear hW hcell HS HB
          have HV : Hid (SRows (W.alloc (.cells #[.int .i64 z, .int .i64 0, .int .i64 1] 37)) (.slice a3 R.length c3) 37 3 (R.map rc) ∧ SRows (W.alloc (.cells #[.int .i64 z, .int .i64 0, .int .i64 1] 37)) (.slice (some ⟨W.heap.size, 0, none⟩) 1 1) 37 3 [rc ⟨x, 0, 1⟩]) :=
            ⟨HSW.out.1.of_block (fun y hy => (below1 W _).block y (HSW.out.1.lt hy)), by rw [HZ.out]; exact srows_new W (rc ⟨x, 0, 1⟩) 37 (sz := 3) rfl⟩
          have HX : Hid ((R.map rc).length + [rc ⟨x, 0, 1⟩].length = R.length + 1 ∧ R.map rc ++ [rc ⟨x, 0, 1⟩] = (R ++ [(⟨x, 0, 1⟩ : Rn)]).map rc ∧ R.length + 1 ≤ 1000000 ∧ w.heap.size ≤ (W.alloc (.cells #[.int .i64 z, .int .i64 0, .int .i64 1] 37)).heap.size) :=
            ⟨by simp, by simp, by omega, by have := HBW.out.size; simp; omega⟩
          have hone := rc_one ⟨x, 0, 1⟩
          go_wp2_with (at_builtin; refine append_rows rfl (.tmp 40) (.tmp 47) 27 37 i0 _ 3 24 rfl Try.underlying27 HI.out.1 HI.out.2.1 HI.out.2.2.1 HI.out.2.2.2 rfl (by decide) (by decide) rfl rfl HV.out.1 HV.out.2 HSW.out.2 HX.out.2.2.2 hone (R.length + 1) HX.out.1 ((R ++ [(⟨x, 0, 1⟩ : Rn)]).map rc) HX.out.2.1 HX.out.2.2.1 ?_; intro va vc w4 h1 h2 h3; have H4 : Hid (SRows w4 (.slice va (R.length + 1) vc) 37 3 ((R ++ [(⟨x, 0, 1⟩ : Rn)]).map rc) ∧ ∀ k, (Value.slice va (R.length + 1) vc).ownBlock = some k → w.heap.size ≤ k) := ⟨h1, h2⟩; have HB4 : Hid (Below w.heap.size w w4) := (HBW.out.trans (belowOne _ HBW.out.size _)).trans h3; clear h1 h2 h3)
          go_roundg (n - (1))
          case measure => clear hr2; omega
          case rel => exact ⟨1, by clear hr2; omega, by go_num, ⟨by rw [HE.out]; exact H4.out.1, H4.out.2⟩, HB4⟩
      | succ m =>
        have hmI : (m : Int) ≤ 65536 := by omega
        have hcell2 : wr.cell? ⟨b, off + m, none⟩ = some (.int .i64 (l.getD m 0#64).toInt) := (HB.out.cell (p := ⟨b, off + m, none⟩) (World.block_lt_of_cell? w _ (HC.out m (by omega)))).trans (HC.out m (by omega))
        obtain ⟨y, hy⟩ : ∃ y, y = (l.getD m 0#64).toInt := ⟨_, rfl⟩
        rw [← hy] at hcell2
        by_cases hzy : z = y
        · have hon : l.getD (m + 1) 0#64 = l.getD m 0#64 := BitVec.toInt_inj.1 (by rw [← hy, ← hzy, hz, hx])
          have B1 : (z == y) = true := by simpa using hzy
          obtain ⟨p, r, hp, hv⟩ := hO.last (by omega)
          have HE : Hid (ofP l (m + 1 + 1) = p ++ [⟨r.v, r.f, r.c + 1⟩]) := by unfold Hid; rw [ofP_on (by omega) hon, hp, bump_snoc]
          have hm := hO.may
          rw [hp] at hm
          have hrb := run_bd hm.chain (k := p.length) (r := r) (by simp)
          have hcc : 1 ≤ r.c ∧ r.c ≤ 65536 := ⟨hrb.2.1, hrb.2.2.1⟩
          have HP : Hid (R = p ++ [r]) := by unfold Hid; rw [hR, hp]
          clear hR hx hz hO hon hy hzy hp hv hm hrb
          go_wp2_with fail
          go_quiet (fail)
          obtain ⟨W, hW⟩ : ∃ W, W = wr.drewN nq := ⟨_, rfl⟩
          rw [← hW]
          have HSW : Hid (SRows W (.slice a3 R.length c3) 37 3 (R.map rc) ∧ ∀ x, (Value.slice a3 R.length c3).ownBlock = some x → w.heap.size ≤ x) := by unfold Hid; rw [hW]; exact HS.out
          have HBW : Hid (Below w.heap.size w W) := by unfold Hid; rw [hW]; exact ⟨HB.out.os, HB.out.tape, HB.out.output, HB.out.size, HB.out.block⟩
          have hcW : W.cell? ⟨b, off + (m + 1), none⟩ = some (.int .i64 z) := by rw [hW]; exact hcell
          clear hW hcell HS HB
          obtain ⟨hS, hown⟩ := HSW.out
          clear HSW
          have hP := HP.out
          subst hP
          clear HP
          rw [List.length_append, List.length_singleton] at hS hown hlen hqm
          rw [List.length_append, List.length_singleton]
          obtain ⟨g, rfl, hg, g1, g2, g3⟩ := bump_at hS rfl rfl
          have hwc : IntKind.i64.wrap (r.c + 1) = r.c + 1 := by rw [IntKind.wrap_i64]; omega
          have HO : Hid (w.heap.size ≤ g) := hown g rfl
          have hpm : (p.length : Int) ≤ 65536 := by omega
          clear hS hown
          generalize p.length = q at *
          have HG : Hid (∀ u : Int, SRows (W.setCell ⟨g, q * 3 + 2, none⟩ (.int .i64 u)) (.slice (some ⟨g, 0, none⟩) (q + 1) c3) 37 3 ((p ++ [(⟨r.v, r.f, u⟩ : Rn)]).map rc)) := g3
          clear g3
          generalize hc : r.c = c at *
          clear hc
          go_wp2_with fail
          go_roundg (n - (m + 2))
          case measure => clear hr2; omega
          case rel => exact ⟨m + 2, by clear hr2; omega, by go_num, ⟨by rw [HE.out]; exact HG.out _, fun x hx => by simp [Value.ownBlock] at hx; subst hx; exact HO.out⟩, HBW.out.setCell HO.out _⟩
        · have hne : l.getD (m + 1) 0#64 ≠ l.getD m 0#64 := fun e => hzy (by rw [hz, hx, hy, e])
          have HE : Hid (ofP l (m + 1 + 1) = R ++ [⟨x, (m : Int) + 1, 1⟩]) := by unfold Hid; rw [ofP_new (.inr hne), hR, hx]; rfl
          have B1 : (z == y) = false := by simpa using hzy
          clear hR hx hz hO hne hy hzy
          go_wp2_with fail
          go_quiet (fail)
          obtain ⟨W, hW⟩ : ∃ W, W = wr.drewN nq := ⟨_, rfl⟩
          rw [← hW]
          have HSW : Hid (SRows W (.slice a3 R.length c3) 37 3 (R.map rc) ∧ ∀ x, (Value.slice a3 R.length c3).ownBlock = some x → w.heap.size ≤ x) := by unfold Hid; rw [hW]; exact HS.out
          have HBW : Hid (Below w.heap.size w W) := by unfold Hid; rw [hW]; exact ⟨HB.out.os, HB.out.tape, HB.out.output, HB.out.size, HB.out.block⟩
          have hcW : W.cell? ⟨b, off + (m + 1), none⟩ = some (.int .i64 z) := by rw [hW]; exact hcell
          clear hW hcell HS HB
          have HV : Hid (SRows (W.alloc (.cells #[.int .i64 z, .int .i64 ((m : Int) + 1), .int .i64 1] 37)) (.slice a3 R.length c3) 37 3 (R.map rc) ∧ SRows (W.alloc (.cells #[.int .i64 z, .int .i64 ((m : Int) + 1), .int .i64 1] 37)) (.slice (some ⟨W.heap.size, 0, none⟩) 1 1) 37 3 [rc ⟨x, ((m : Int) + 1), 1⟩]) :=
            ⟨HSW.out.1.of_block (fun y hy => (below1 W _).block y (HSW.out.1.lt hy)), by rw [HZ.out]; exact srows_new W (rc ⟨x, ((m : Int) + 1), 1⟩) 37 (sz := 3) rfl⟩
          have HX : Hid ((R.map rc).length + [rc ⟨x, ((m : Int) + 1), 1⟩].length = R.length + 1 ∧ R.map rc ++ [rc ⟨x, ((m : Int) + 1), 1⟩] = (R ++ [(⟨x, ((m : Int) + 1), 1⟩ : Rn)]).map rc ∧ R.length + 1 ≤ 1000000 ∧ w.heap.size ≤ (W.alloc (.cells #[.int .i64 z, .int .i64 ((m : Int) + 1), .int .i64 1] 37)).heap.size) :=
            ⟨by simp, by simp, by omega, by have := HBW.out.size; simp; omega⟩
          have hone := rc_one ⟨x, ((m : Int) + 1), 1⟩
          go_wp2_with (at_builtin; refine append_rows rfl (.tmp 40) (.tmp 47) 27 37 i0 _ 3 24 rfl Try.underlying27 HI.out.1 HI.out.2.1 HI.out.2.2.1 HI.out.2.2.2 rfl (by decide) (by decide) rfl rfl HV.out.1 HV.out.2 HSW.out.2 HX.out.2.2.2 hone (R.length + 1) HX.out.1 ((R ++ [(⟨x, ((m : Int) + 1), 1⟩ : Rn)]).map rc) HX.out.2.1 HX.out.2.2.1 ?_; intro va vc w4 h1 h2 h3; have H4 : Hid (SRows w4 (.slice va (R.length + 1) vc) 37 3 ((R ++ [(⟨x, ((m : Int) + 1), 1⟩ : Rn)]).map rc) ∧ ∀ k, (Value.slice va (R.length + 1) vc).ownBlock = some k → w.heap.size ≤ k) := ⟨h1, h2⟩; have HB4 : Hid (Below w.heap.size w w4) := (HBW.out.trans (belowOne _ HBW.out.size _)).trans h3; clear h1 h2 h3)
          go_roundg (n - (m + 2))
          case measure => clear hr2; omega
          case rel => exact ⟨m + 2, by clear hr2; omega, by go_num, ⟨by rw [HE.out]; exact H4.out.1, H4.out.2⟩, HB4⟩
    · have hkI : ¬ (k : Int) < (n : Int) := by omega
      obtain rfl : k = n := by omega
      go_wp2_with fail
      go_ret
      exact ⟨⟨_, rfl, by rw [← HN.out]; exact runs_of_srows HS.out.1⟩, HB.out⟩
set_option maxHeartbeats 400000 in
theorem refRunsOf_none (w : World) (a : Option Addr) (c : Nat) : Calls Try.prog 35 #[.slice a 0 c] w (OfAns w []) := by
  go_enter Try.func35, Try.ntmps35
  go_wp2_with fail
  go_loopg [3, 4] 0 (fun g s3 s4 wx => g = 0 ∧ s3 = .slice none 0 0 ∧ s4 = .int .i64 0 ∧ wx = w)
  case atStart => exact ⟨rfl, rfl, rfl, rfl⟩
  case round =>
    obtain ⟨hg, rfl, rfl, rfl⟩ := hrel
    clear hg
    go_wp2_with fail
    go_ret
    exact ⟨⟨_, rfl, runs_nil _⟩, Below.refl _ _⟩
theorem refRunsOf_any {w : World} {v : Value} {l : List (BitVec 64)} (h : ReadsI w v l) (hl : l.length ≤ 65536) : Calls Try.prog 35 #[v] w (OfAns w l) := by
  rcases h with ⟨rfl, a1, c1, rfl⟩ | ⟨b1, off1, c1, rfl, hne, _, hc1⟩
  · exact refRunsOf_none w _ _
  · exact refRunsOf_row w _ _ _ l hl hc1
end Go.Proofs.Ytflabcmjbhmphaa
/-
  The contract of peristyleref10's Same, where both are the same runs.
-/
namespace Go.Proofs.Ytflabcmjbhmphaa
open Go.RowKit

set_option maxRecDepth 4000 in
set_option maxHeartbeats 4000000 in
theorem sameR_any {w : World} {v1 v2 : Value} {rs : List Rn} (h1 : RunsIs w v1 rs) (h2 : RunsIs w v2 rs) (hl : rs.length ≤ 1000000) :
    Calls Try.prog 15 #[v1, v2] w fun e w' => e = .returned (.bool true) ∧ ∃ n, w' = w.drewN n := by
  obtain ⟨a1, n, c1, rfl, hn, _⟩ := h1.slice
  obtain ⟨a2, n2, c2, rfl, hn2, _⟩ := h2.slice
  obtain rfl : n = n2 := by omega
  have hn1 : (n : Int) ≤ 1000000 := by omega
  have HH : Hid (RunsIs w (.slice a1 n c1) rs ∧ RunsIs w (.slice a2 n c2) rs ∧ rs.length = n) := ⟨h1, h2, hn⟩
  clear h1 h2 hl hn hn2
  go_enter Try.func15, Try.ntmps15
  go_wp2_with fail
  go_loopg [5] n (fun gg s5 wx => ∃ i q : Nat, i + gg = n ∧ s5 = .int .i64 i ∧ wx = w.drewN q)
  case atStart => exact ⟨0, 0, by omega, rfl, rfl⟩
  case round =>
    obtain ⟨i, q, hig, rfl, rfl⟩ := hrel
    by_cases hi : i < n
    · have hiI : (i : Int) < (n : Int) := by omega
      obtain ⟨r, hr⟩ : ∃ r, rs[i]? = some r := ⟨_, List.getElem?_eq_getElem (by have := HH.out.2.2; omega)⟩
      obtain ⟨b1, o1, rfl, k1⟩ := HH.out.1.some (by rintro rfl; simp at hr)
      obtain ⟨b2, o2, rfl, k2⟩ := HH.out.2.1.some (by rintro rfl; simp at hr)
      have r1 := k1 i r hr
      have r2 := k2 i r hr
      have x0 := r1.c0
      have x1 := r1.c1
      have x2 := r1.c2
      have y0 := r2.c0
      have y1 := r2.c1
      have y2 := r2.c2
      generalize r.f = f at *
      generalize r.c = c at *
      generalize r.v.toInt = z at *
      have hr2 : IntKind.i64.wrap ((i : Int) + 1) = (i : Int) + 1 := by rw [IntKind.wrap_i64]; omega
      clear k1 k2 r1 r2 hr
      go_wp2_with fail
      go_quiet (fail)
      go_wp2_with fail
      go_roundg (n - (i + 1))
      case measure => clear hr2; omega
      case rel => exact ⟨i + 1, _, by clear hr2; omega, by go_num, rfl⟩
    · have hiI : ¬ (i : Int) < (n : Int) := by omega
      go_wp2_with fail
      go_ret
      exact ⟨rfl, _, rfl⟩
end Go.Proofs.Ytflabcmjbhmphaa
/-
  The contract of package runs' Put: the bytes of runs.
-/
namespace Go.Proofs.Ytflabcmjbhmphaa
open Go.RowKit

theorem encR_step {rs : List Rn} {k : Nat} {r : Rn} (hr : rs[k]? = some r) : encR (rs.take (k + 1)) = encR (rs.take k) ++ (str (enc1 r.v)).data.toList ++ (str (enc1 (BitVec.ofInt 64 r.c))).data.toList := by
  rw [take_succ_of hr, encR_snoc, str_list, str_list]
theorem encR_take_len (rs : List Rn) (k : Nat) : (encR (rs.take k)).length ≤ 20 * k := by
  have := (encR_len (rs.take k)).1
  rw [List.length_take] at this
  omega

end Go.Proofs.Ytflabcmjbhmphaa
