/-
  19 texts, one behind the other: YRefG, YRefH, YBack, YJoin, YBare, YQuote, YKey, YLaw, YRead, YVal, YFirst, YFirstS, YFirstW, YFirstN, YFirstT, YToks, YWalkA, YWalkB, YAll.
-/
import Derived.Test.YtoccbfgcmaahcaaDoorJoin2
import Derived.Deep.QuietTactic
import Derived.BigQuiet
import Derived.Lib.SmallJoins
/-
  The contract of the document's Tokens.
-/
namespace Go.Proofs.YtoccbfgcmaahcaaDoor
open Go.RowKit

/-- How far the tokens were told. -/
def TkTo (l : List UInt8) (done : List Tk) (p : Nat) : Prop := toksP l 0 = (done ++ (toksP (l.drop p) p).1, (toksP (l.drop p) p).2)
theorem tkTo_zero (l : List UInt8) : TkTo l [] 0 := by unfold TkTo; simp
theorem tkTo_blank {l : List UInt8} {done : List Tk} {p : Nat} {c : UInt8} {r : List UInt8} (h : TkTo l done p) (hd : l.drop p = c :: r) (hr : l.drop (p + 1) = r) (hb : bkB c = true) : TkTo l done (p + 1) := by
  unfold TkTo at h ⊢
  rw [h, hd, hr, toksP_blank hb]
theorem tkTo_one {l : List UInt8} {done : List Tk} {p n : Nat} {c : UInt8} {r : List UInt8} {t : Tk} (h : TkTo l done p) (hd : l.drop p = c :: r) (hb : bkB c = false) (ho : oneL (c :: r) p = some (t, n)) : TkTo l (done ++ [t]) (p + n) := by
  unfold TkTo at h ⊢
  rw [h, hd, toksP_one hb ho, ← hd, List.drop_drop]
  simp
theorem tkTo_no {l : List UInt8} {done : List Tk} {p : Nat} {c : UInt8} {r : List UInt8} (h : TkTo l done p) (hd : l.drop p = c :: r) (hb : bkB c = false) (ho : oneL (c :: r) p = none) : (toksP l 0).2 = some p := by
  unfold TkTo at h
  rw [h, hd, toksP_no hb ho]
theorem tkTo_end {l : List UInt8} {done : List Tk} {p : Nat} (h : TkTo l done p) (hd : l.drop p = []) : toksP l 0 = (done ++ [⟨0, [], 0, p⟩], none) := by
  unfold TkTo at h
  rw [h, hd, toksP_nil]
theorem tokens_no {l : List UInt8} {p : Nat} (hl : l.length ≤ 1024) (h : (toksP l 0).2 = some p) : tokensA l = ([], (p : Int), 300) := by
  unfold tokensA toksL; rw [if_neg (by omega)]
  unfold toksP at h; rw [h]
theorem tokens_yes {l : List UInt8} {x : List Tk} (hl : l.length ≤ 1024) (h : toksP l 0 = (x, none)) : tokensA l = (x, 0, 0) := by
  unfold tokensA toksL; rw [if_neg (by omega)]
  unfold toksP at h; rw [h]
theorem tokens_long {l : List UInt8} (hl : 1024 < l.length) : tokensA l = ([], 0, 4) := by
  unfold tokensA; rw [if_pos hl]
/-- What Tokens answers. -/
def TokAns (w : World) (l : List UInt8) (e : Ending) (w' : World) : Prop :=
  (∃ v, e = .returned (.tuple #[v, .int .i64 (tokensA l).2.1, .int .i64 (tokensA l).2.2]) ∧ OwnT w' w.heap.size v (tokensA l).1) ∧ Below w.heap.size w w'
theorem bk_ways (c : UInt8) : ∃ b1 b2 b3 b4 : Bool, ((c.toNat : Int) == 32) = b1 ∧ ((c.toNat : Int) == 9) = b2 ∧ ((c.toNat : Int) == 10) = b3 ∧ ((c.toNat : Int) == 13) = b4 ∧ bkB c = (b1 || (b2 || (b3 || b4))) := by
  refine ⟨_, _, _, _, rfl, rfl, rfl, rfl, ?_⟩
  unfold bkB
  rw [u8_beq c 32, u8_beq c 9, u8_beq c 10, u8_beq c 13]
  rfl
theorem oneL_some {l : List UInt8} {p : Nat} {k : Int} {b : ByteArray} {n q m : Int} (h : ansT (oneL l p) = .tuple #[.agg #[.int .i64 k, .string b, .int .i64 n, .int .i64 q], .int .i64 m]) : (oneL l p = none ∧ m = 0) ∨ ∃ (t : Tk) (j : Nat), oneL l p = some (t, j) ∧ m = (j : Int) ∧ 1 ≤ j ∧ j ≤ l.length ∧ #[Value.int .i64 k, .string b, .int .i64 n, .int .i64 q] = (tkR t).toArray := by
  cases e : oneL l p with
  | none => rw [e] at h; left; simp [ansT] at h; exact ⟨rfl, h.2.symm⟩
  | some x =>
    obtain ⟨t, j⟩ := x
    have hj := oneL_len e
    rw [e] at h
    right
    simp [ansT, tv] at h
    obtain ⟨⟨h1, h2, h3, h4⟩, h5⟩ := h
    exact ⟨t, j, rfl, h5.symm, hj.1, hj.2, by simp [tkR, h1, h2, h3, h4]⟩

end Go.Proofs.YtoccbfgcmaahcaaDoor
/-
  Tokens in memory, one by one; the contracts of the document's Same, where both are the same, Words and Keyword.
-/
namespace Go.Proofs.YtoccbfgcmaahcaaDoor
open Go.RowKit

theorem TkIs.slice {w : World} {v : Value} {l : List Tk} (h : TkIs w v l) : ∃ (a : Option Addr) (n cap : Nat), v = .slice a n cap ∧ n = l.length ∧ l.length ≤ cap := by
  rcases h with ⟨rfl, h0⟩ | ⟨g, cap, rfl, hc1, hc2, hrows⟩
  · have : l = [] := by simpa using h0
    subst this
    exact ⟨none, 0, 0, rfl, rfl, Nat.le_refl _⟩
  · exact ⟨_, _, _, rfl, by simp, by simpa using hc1⟩
theorem TkIs.at {w : World} {a : Option Addr} {n cap : Nat} {l : List Tk} (h : TkIs w (.slice a n cap) l) {i : Nat} {t : Tk} (hi : l[i]? = some t) : ∃ g, a = some ⟨g, 0, none⟩ ∧ g < w.heap.size ∧
    w.cell? ⟨g, i * 4, none⟩ = some (.int .i64 t.k) ∧ w.cell? ⟨g, i * 4 + 1, none⟩ = some (.string (str t.s)) ∧ w.cell? ⟨g, i * 4 + 2, none⟩ = some (.int .i64 t.n) ∧ w.cell? ⟨g, i * 4 + 3, none⟩ = some (.int .i64 t.p) := by
  rcases h with ⟨e, h0⟩ | ⟨g, cap2, e, hc1, hc2, hrows⟩
  · have : l = [] := by simpa using h0
    subst this
    simp at hi
  · cases e
    have hr := hrows.range (i := i) (r := tkR t) (by rw [List.getElem?_map, hi]; rfl)
    exact ⟨g, rfl, hrows.lt, hr 0 _ rfl, hr 1 _ rfl, hr 2 _ rfl, hr 3 _ rfl⟩

def kws : List (List UInt8) := [[97, 100, 118, 97, 110, 99, 101], [97, 110, 100], [97, 116], [98, 121], [99, 111, 117, 110, 116], [99, 114, 101, 97, 116, 101], [100, 101, 108, 101, 116, 101], [100, 101, 115, 99], [100, 114, 111, 112], [102, 111, 114, 103, 101, 116], [102, 114, 111, 109], [103, 114, 111, 117, 112], [104, 105, 110, 116], [105, 110, 115, 101, 114, 116], [105, 110, 116], [105, 110, 116, 111], [105, 115], [106, 111, 105, 110], [107, 101, 121, 115], [108, 105, 109, 105, 116], [109, 97, 120], [109, 105, 110], [109, 111, 118, 101], [110, 111, 116], [110, 117, 108, 108], [111, 110], [111, 114], [111, 114, 100, 101, 114], [112, 114, 111, 106, 101, 99, 116, 105, 111, 110], [115, 101, 108, 101, 99, 116], [115, 117, 109], [116, 97, 98, 108, 101], [116, 101, 120, 116], [117, 115, 105, 110, 103], [118, 97, 108, 117, 101, 115], [119, 104, 101, 114, 101]]
def keyB (l : List UInt8) : Bool := kws.any (· == l)
def kwV : Array Value := (kws.map fun g => Value.string (str g)).toArray
theorem kwV_is : kwV = #[Value.string ⟨#[97, 100, 118, 97, 110, 99, 101]⟩, Value.string ⟨#[97, 110, 100]⟩, Value.string ⟨#[97, 116]⟩, Value.string ⟨#[98, 121]⟩, Value.string ⟨#[99, 111, 117, 110, 116]⟩, Value.string ⟨#[99, 114, 101, 97, 116, 101]⟩, Value.string ⟨#[100, 101, 108, 101, 116, 101]⟩, Value.string ⟨#[100, 101, 115, 99]⟩, Value.string ⟨#[100, 114, 111, 112]⟩, Value.string ⟨#[102, 111, 114, 103, 101, 116]⟩, Value.string ⟨#[102, 114, 111, 109]⟩, Value.string ⟨#[103, 114, 111, 117, 112]⟩, Value.string ⟨#[104, 105, 110, 116]⟩, Value.string ⟨#[105, 110, 115, 101, 114, 116]⟩, Value.string ⟨#[105, 110, 116]⟩, Value.string ⟨#[105, 110, 116, 111]⟩, Value.string ⟨#[105, 115]⟩, Value.string ⟨#[106, 111, 105, 110]⟩, Value.string ⟨#[107, 101, 121, 115]⟩, Value.string ⟨#[108, 105, 109, 105, 116]⟩, Value.string ⟨#[109, 97, 120]⟩, Value.string ⟨#[109, 105, 110]⟩, Value.string ⟨#[109, 111, 118, 101]⟩, Value.string ⟨#[110, 111, 116]⟩, Value.string ⟨#[110, 117, 108, 108]⟩, Value.string ⟨#[111, 110]⟩, Value.string ⟨#[111, 114]⟩, Value.string ⟨#[111, 114, 100, 101, 114]⟩, Value.string ⟨#[112, 114, 111, 106, 101, 99, 116, 105, 111, 110]⟩, Value.string ⟨#[115, 101, 108, 101, 99, 116]⟩, Value.string ⟨#[115, 117, 109]⟩, Value.string ⟨#[116, 97, 98, 108, 101]⟩, Value.string ⟨#[116, 101, 120, 116]⟩, Value.string ⟨#[117, 115, 105, 110, 103]⟩, Value.string ⟨#[118, 97, 108, 117, 101, 115]⟩, Value.string ⟨#[119, 104, 101, 114, 101]⟩] := rfl
theorem kw_cell {W : World} {b : Nat} {t : TypeId} (h : Box W b t kwV) {i : Nat} {g : List UInt8} (hg : kws[i]? = some g) : W.cell? ⟨b, i, none⟩ = some (.string (str g)) := by
  refine h.cell i _ ?_
  unfold kwV
  simp [hg]
end Go.Proofs.YtoccbfgcmaahcaaDoor
/-
  Tokens that were told, as text again with blanks between, are told the same; each begins where it says. No program is spoken of.
-/
namespace Go.Proofs.YtoccbfgcmaahcaaDoor
open Go.RowKit

theorem spn_app {q : UInt8 → Bool} : ∀ (a r : List UInt8), (∀ c ∈ a, q c = true) → (∀ c, r.head? = some c → q c = false) → spn q (a ++ r) = a.length
  | [], [], _, _ => rfl
  | [], c :: r, _, h => by have := h c rfl; simp [spn, this]
  | c :: a, r, h, h2 => by
    have := spn_app a r (fun d hd => h d (by simp [hd])) h2
    simp only [List.cons_append, spn]
    rw [if_pos (h c (by simp)), this]
    rfl
theorem dg_ofNat {d : Nat} (h : d < 10) : dgB (UInt8.ofNat (48 + d)) = true := by
  unfold dgB
  rw [digit_nat h, decide_eq_true (by omega), decide_eq_true (by omega)]; rfl
theorem dec_digits (u : Nat) : ∀ c ∈ Lib.decDigits u, dgB c = true := by
  induction u using Nat.strongRecOn with
  | _ u ih =>
    intro c hc
    by_cases hs : u < 10
    · rw [Lib.decDigits_one hs] at hc
      rw [List.mem_singleton] at hc; subst hc; exact dg_ofNat hs
    · rw [Lib.decDigits, dif_neg hs] at hc
      rcases List.mem_append.1 hc with h | h
      · exact ih (u / 10) (by omega) c h
      · rw [List.mem_singleton] at h; subst h; exact dg_ofNat (Nat.mod_lt _ (by omega))
theorem dec_head1 (u : Nat) (hu : 0 < u) : ∃ d r, 1 ≤ d ∧ d < 10 ∧ Lib.decDigits u = UInt8.ofNat (48 + d) :: r := by
  induction u using Nat.strongRecOn with
  | _ u ih =>
    by_cases hs : u < 10
    · exact ⟨u, [], hu, hs, Lib.decDigits_one hs⟩
    · obtain ⟨d, r, hd1, hd, e⟩ := ih (u / 10) (by omega) (by omega)
      refine ⟨d, r ++ [UInt8.ofNat (48 + u % 10)], hd1, hd, ?_⟩
      rw [Lib.decDigits, dif_neg hs, e]
      rfl
theorem ofNat_ne {d k : Nat} (h : d < 10) (hk : k < 256) (h2 : 48 + d ≠ k) : ¬ UInt8.ofNat (48 + d) = UInt8.ofNat k := by
  intro e
  have := congrArg UInt8.toNat e
  rw [digit_nat h, UInt8.toNat_ofNat_of_lt' hk] at this
  exact h2 this
theorem strip_dec (u : Nat) : strip (Lib.decDigits u) = Lib.decDigits u := by
  by_cases hu : u = 0
  · subst hu; rw [Lib.decDigits_one (by omega)]; simp [strip]
  · obtain ⟨d, r, h1, h2, e⟩ := dec_head1 u (by omega)
    rw [e]
    simp only [strip]
    rw [if_neg]
    rintro ⟨h, _⟩
    exact ofNat_ne h2 (k := 48) (by omega) (by omega) h
theorem dec_ne (u : Nat) (hu : 0 < u) : Lib.decDigits u ≠ [48] := by
  obtain ⟨d, r, h1, h2, e⟩ := dec_head1 u hu
  rw [e]
  intro h
  exact ofNat_ne h2 (k := 48) (by omega) (by omega) (List.cons.inj h).1
theorem dec_pos (u : Nat) : 0 < (Lib.decDigits u).length := by
  obtain ⟨d, r, _, e⟩ := digits_head u
  rw [e]; simp
theorem read_itoa {n : Int} (h0 : -9223372036854775808 ≤ n) (h1 : n ≤ 9223372036854775807) : readA (Lib.itoa n) = (numC n, 0) :=
  readA_of ((read_iff _ _).2 ⟨by simp only [mayC, numC]; rfl, ⟨h0, h1⟩, by simp [showL, numC]⟩)
theorem bk_is {b : UInt8} (h : bkB b = true) : b = 32 ∨ b = 9 ∨ b = 10 ∨ b = 13 := by
  unfold bkB at h
  simpa using h
theorem numL_back {n : Int} (h0 : -9223372036854775808 ≤ n) (h1 : n ≤ 9223372036854775807) {b : UInt8} (hb : bkB b = true) (r : List UInt8) : numL (Lib.itoa n ++ b :: r) = some (n, (Lib.itoa n).length) := by
  have hbd : dgB b = false := by rcases bk_is hb with rfl | rfl | rfl | rfl <;> rfl
  by_cases hn : n < 0
  · obtain ⟨u, rfl⟩ : ∃ u : Nat, n = -(u : Int) := ⟨n.natAbs, by omega⟩
    have hu : 0 < u := by omega
    have e := Lib.itoa_neg u hu
    have hg : ngL (Lib.itoa (-(u : Int)) ++ b :: r) = 1 := by rw [e]; rfl
    have hd : (Lib.itoa (-(u : Int)) ++ b :: r).drop 1 = Lib.decDigits u ++ b :: r := by rw [e]; rfl
    have hk : dgL (Lib.itoa (-(u : Int)) ++ b :: r) = (Lib.decDigits u).length := by
      unfold dgL; rw [hg, hd]; exact spn_app _ _ (dec_digits u) (fun c hc => by simp at hc; subst hc; exact hbd)
    have hs : stL (Lib.itoa (-(u : Int)) ++ b :: r) = Lib.decDigits u := by
      unfold stL; rw [hg, hd, hk, List.take_left, strip_dec]
    have ht : utL (Lib.itoa (-(u : Int)) ++ b :: r) = Lib.itoa (-(u : Int)) := by
      unfold utL; rw [hs, if_pos hg, e]
    unfold numL
    rw [hk, if_neg (by have := dec_pos u; omega), ht, read_itoa h0 h1, if_pos rfl, hg]
    simp only [numC, Option.some.injEq, Prod.mk.injEq, true_and]
    rw [e]; simp; omega
  · obtain ⟨u, rfl⟩ : ∃ u : Nat, n = (u : Int) := ⟨n.toNat, by omega⟩
    have e := Lib.itoa_nonneg u
    obtain ⟨d, x, hd10, hx⟩ := digits_head u
    have hg : ngL (Lib.itoa (u : Int) ++ b :: r) = 0 := by
      unfold ngL; rw [e, hx, List.cons_append, List.head?_cons, if_neg]
      intro h
      exact ofNat_ne hd10 (k := 45) (by omega) (by omega) (Option.some.inj h)
    have hd : (Lib.itoa (u : Int) ++ b :: r).drop 0 = Lib.decDigits u ++ b :: r := by rw [e]; rfl
    have hk : dgL (Lib.itoa (u : Int) ++ b :: r) = (Lib.decDigits u).length := by
      unfold dgL; rw [hg, hd]; exact spn_app _ _ (dec_digits u) (fun c hc => by simp at hc; subst hc; exact hbd)
    have hs : stL (Lib.itoa (u : Int) ++ b :: r) = Lib.decDigits u := by
      unfold stL; rw [hg, hd, hk, List.take_left, strip_dec]
    have ht : utL (Lib.itoa (u : Int) ++ b :: r) = Lib.itoa (u : Int) := by
      unfold utL; rw [hs, if_neg (by rw [hg]; decide), e]
    unfold numL
    rw [hk, if_neg (by have := dec_pos u; omega), ht, read_itoa h0 h1, if_pos rfl, hg]
    simp only [numC, Option.some.injEq, Prod.mk.injEq, true_and]
    rw [e]; omega
theorem dbl_cons (c : UInt8) (s : List UInt8) : dbl (c :: s) = (if c = 39 then [39, 39] else [c]) ++ dbl s := by simp [dbl]
theorem qt_back {b : UInt8} (hb : ¬ b = 39) (r : List UInt8) : ∀ s : List UInt8, qtL (dbl s ++ 39 :: b :: r) = some (s, (dbl s).length + 1)
  | [] => by
    show qtL (39 :: b :: r) = _
    rw [qt_end (by simpa using hb)]; rfl
  | c :: s => by
    have ih := qt_back hb r s
    rw [dbl_cons]
    by_cases hc : c = 39
    · subst hc
      rw [if_pos rfl]
      show qtL (39 :: 39 :: (dbl s ++ 39 :: b :: r)) = _
      rw [qt_two, ih]; simp
    · rw [if_neg hc]
      show qtL (c :: (dbl s ++ 39 :: b :: r)) = _
      rw [qt_one hc, ih]; simp
theorem sg_back {g : List UInt8} (hg : g ∈ sgs) {b : UInt8} (hb : bkB b = true) (r : List UInt8) : sgL (g ++ b :: r) = g.length := by
  simp [sgs] at hg
  rcases bk_is hb with rfl | rfl | rfl | rfl <;> rcases hg with rfl | rfl | rfl | rfl | rfl | rfl | rfl | rfl | rfl | rfl | rfl <;> simp [sgL]

/-- A token as text. -/
def shownL (t : Tk) : List UInt8 := if t.k = 2 then Lib.itoa t.n else if t.k = 3 then 39 :: (dbl t.s ++ [39]) else t.s
/-- A token that may be, but for the end. -/
def TkOk (t : Tk) : Prop := (t.k = 1 ∧ t.n = 0 ∧ ∃ c r, t.s = c :: r ∧ ltB c = true ∧ ∀ d ∈ t.s, wdB d = true) ∨ (t.k = 2 ∧ t.s = [] ∧ -9223372036854775808 ≤ t.n ∧ t.n ≤ 9223372036854775807) ∨ (t.k = 3 ∧ t.n = 0 ∧ t.s.length ≤ 32) ∨ (t.k = 4 ∧ t.n = 0 ∧ t.s ∈ sgs)
theorem wd_bk {b : UInt8} (hb : bkB b = true) : wdB b = false := by rcases bk_is hb with rfl | rfl | rfl | rfl <;> rfl
theorem lt_facts {c : UInt8} (h : ltB c = true) : bkB c = false := by
  cases e : bkB c with
  | false => rfl
  | true => rcases bk_is e with rfl | rfl | rfl | rfl <;> cases h
theorem dg_facts {c : UInt8} (h : dgB c = true) : bkB c = false ∧ ltB c = false := by
  constructor
  · cases e : bkB c with
    | false => rfl
    | true => rcases bk_is e with rfl | rfl | rfl | rfl <;> cases h
  · unfold dgB at h; simp at h
    exact lt_no (by omega)
theorem one_back {t : Tk} (h : TkOk t) {b : UInt8} (hb : bkB b = true) (r : List UInt8) (p : Nat) : oneL (shownL t ++ b :: r) p = some (⟨t.k, t.s, t.n, p⟩, (shownL t).length) ∧ ∃ c x, shownL t = c :: x ∧ bkB c = false := by
  obtain ⟨k, s, n, p0⟩ := t
  rcases h with ⟨rfl, rfl, c, x, rfl, hc, hw⟩ | ⟨rfl, rfl, h0, h1⟩ | ⟨rfl, rfl, hl⟩ | ⟨rfl, rfl, hs⟩
  · refine ⟨?_, c, x, rfl, lt_facts hc⟩
    show oneL (c :: (x ++ b :: r)) p = _
    rw [one_word p hc]
    have : spn wdB (c :: (x ++ b :: r)) = (c :: x).length := spn_app (c :: x) (b :: r) hw (fun d hd => by simp at hd; subst hd; exact wd_bk hb)
    rw [this]
    show some (_, _) = some (_, _)
    congr 3
    exact List.take_left (l₁ := c :: x) (l₂ := b :: r)
  · show oneL (Lib.itoa n ++ b :: r) p = some (⟨2, [], n, p⟩, (Lib.itoa n).length) ∧ ∃ c x, Lib.itoa n = c :: x ∧ bkB c = false
    have hnum := numL_back h0 h1 hb r
    have hh : ∃ c x, Lib.itoa n = c :: x ∧ bkB c = false ∧ ltB c = false ∧ (dgB c = true ∨ c = 45) := by
      by_cases hn : n < 0
      · obtain ⟨u, rfl⟩ : ∃ u : Nat, n = -(u : Int) := ⟨n.natAbs, by omega⟩
        exact ⟨45, _, Lib.itoa_neg u (by omega), rfl, rfl, .inr rfl⟩
      · obtain ⟨u, rfl⟩ : ∃ u : Nat, n = (u : Int) := ⟨n.toNat, by omega⟩
        obtain ⟨d, x, hd, hx⟩ := digits_head u
        have := dg_facts (dg_ofNat hd)
        exact ⟨_, x, (Lib.itoa_nonneg u).trans hx, this.1, this.2, .inl (dg_ofNat hd)⟩
    obtain ⟨c, x, e, hc1, hc2, hc3⟩ := hh
    refine ⟨?_, c, x, e, hc1⟩
    rw [e] at hnum ⊢
    show oneL (c :: (x ++ b :: r)) p = _
    rw [one_num p hc2 hc3]
    show Option.map _ (numL ((c :: x) ++ b :: r)) = _
    rw [hnum]; rfl
  · refine ⟨?_, 39, dbl s ++ [39], rfl, rfl⟩
    show oneL (39 :: ((dbl s ++ [39]) ++ b :: r)) p = some (⟨3, s, 0, p⟩, (dbl s ++ [39]).length + 1)
    rw [one_txt p rfl (by decide) rfl, List.append_assoc]
    unfold txL
    show (match qtL (dbl s ++ 39 :: b :: r) with | some x => _ | none => none) = _
    rw [qt_back (by rcases bk_is hb with rfl | rfl | rfl | rfl <;> decide)]
    simp only
    rw [if_pos hl]; simp
  · have hsg := sg_back hs hb r
    have hne : ∃ c x, s = c :: x ∧ bkB c = false ∧ ltB c = false ∧ ¬ (dgB c = true ∨ c = 45) ∧ ¬ c = 39 := by
      have := hs
      simp [sgs] at this
      rcases this with rfl | rfl | rfl | rfl | rfl | rfl | rfl | rfl | rfl | rfl | rfl <;> exact ⟨_, _, rfl, by decide, by decide, by decide, by decide⟩
    obtain ⟨c, x, rfl, hc1, hc2, hc3, hc4⟩ := hne
    refine ⟨?_, c, x, rfl, hc1⟩
    show oneL (c :: (x ++ b :: r)) p = some (⟨4, c :: x, 0, p⟩, (c :: x).length)
    rw [one_sgn p hc2 hc3 hc4]
    unfold sgT
    have h2 : sgL (c :: (x ++ b :: r)) = (c :: x).length := hsg
    rw [h2, if_neg (by simp)]
    have h3 : (c :: (x ++ b :: r)).take (c :: x).length = c :: x := List.take_left (l₁ := c :: x) (l₂ := b :: r)
    rw [h3]
end Go.Proofs.YtoccbfgcmaahcaaDoor
/-
  What tokens are that were told: each may be, begins behind the one ahead, and is told again where blanks stand between. No program is spoken of.
-/
namespace Go.Proofs.YtoccbfgcmaahcaaDoor
open Go.RowKit

theorem num_rng {l : List UInt8} {x : Int × Nat} (h : numL l = some x) : -9223372036854775808 ≤ x.1 ∧ x.1 ≤ 9223372036854775807 := by
  unfold numL at h
  split at h
  · exact absurd h (by simp)
  · split at h
    · rename_i hr
      have e := Option.some.inj h
      subst e
      unfold readA at hr ⊢
      cases hc : readC (utL l) with
      | none => rw [hc] at hr; exact absurd hr (by decide)
      | some c => exact ((read_iff _ _).1 hc).2.1
    · exact absurd h (by simp)
theorem sg_in {l : List UInt8} (h : ¬ sgL l = 0) : l.take (sgL l) ∈ sgs := by
  cases l with
  | nil => exact absurd rfl h
  | cons c r =>
    by_cases h1 : (c = 60 ∧ (r.head? = some 61 ∨ r.head? = some 62)) ∨ (c = 62 ∧ r.head? = some 61)
    · have e : sgL (c :: r) = 2 := by simp only [sgL]; rw [if_pos h1]
      rw [e]
      cases r with
      | nil => simp at h1
      | cons d r =>
        simp at h1
        rcases h1 with ⟨rfl, rfl | rfl⟩ | ⟨rfl, rfl⟩ <;> simp [sgs]
    · have e : sgL (c :: r) = if c = 40 ∨ c = 41 ∨ c = 44 ∨ c = 46 ∨ c = 42 ∨ c = 61 ∨ c = 60 ∨ c = 62 then 1 else 0 := by simp only [sgL]; rw [if_neg h1]
      rw [e] at h ⊢
      by_cases h2 : c = 40 ∨ c = 41 ∨ c = 44 ∨ c = 46 ∨ c = 42 ∨ c = 61 ∨ c = 60 ∨ c = 62
      · rw [if_pos h2]
        rcases h2 with rfl | rfl | rfl | rfl | rfl | rfl | rfl | rfl <;> simp [sgs]
      · rw [if_neg h2] at h; exact absurd rfl h
theorem one_ok {l : List UInt8} {p : Nat} {t : Tk} {n : Nat} (h : oneL l p = some (t, n)) : TkOk t ∧ t.p = p ∧ ((t.k = 1 ∨ t.k = 4) → t.s = l.take n ∧ t.s.length = n) := by
  have hn := oneL_len h
  cases l with
  | nil => simp [oneL] at h
  | cons c r =>
    cases ht : ltB c with
    | true =>
      rw [one_word p ht] at h
      obtain ⟨rfl, rfl⟩ := Prod.mk.inj (Option.some.inj h)
      refine ⟨.inl ⟨rfl, rfl, ?_⟩, rfl, fun _ => ⟨rfl, by rw [List.length_take]; have := spn_le wdB (c :: r); omega⟩⟩
      refine ⟨c, r.take (spn wdB r), ?_, ht, ?_⟩
      · simp only [spn]; rw [if_pos (by unfold wdB; rw [ht]; simp)]; rfl
      · intro d hd
        obtain ⟨i, hi⟩ := List.getElem?_of_mem hd
        have hi2 : i < spn wdB (c :: r) := by have := (List.getElem?_eq_some_iff.1 hi).1; rw [List.length_take] at this; omega
        rw [List.getElem?_take_of_lt hi2] at hi
        obtain ⟨e, he, hq⟩ := spn_at wdB (c :: r) i hi2
        rw [he] at hi; obtain rfl := Option.some.inj hi; exact hq
    | false =>
      by_cases h2 : dgB c = true ∨ c = 45
      · rw [one_num p ht h2] at h
        cases e : numL (c :: r) with
        | none => rw [e] at h; simp at h
        | some x =>
          rw [e] at h
          obtain ⟨rfl, rfl⟩ := Prod.mk.inj (Option.some.inj h)
          exact ⟨.inr (.inl ⟨rfl, rfl, num_rng e⟩), rfl, fun h => by rcases h with h | h <;> cases h⟩
      · by_cases h3 : c = 39
        · rw [one_txt p ht h2 h3] at h
          unfold txL at h
          cases e : qtL r with
          | none => rw [e] at h; simp at h
          | some x =>
            rw [e] at h; simp only at h
            by_cases h4 : x.1.length ≤ 32
            · rw [if_pos h4] at h
              obtain ⟨rfl, rfl⟩ := Prod.mk.inj (Option.some.inj h)
              exact ⟨.inr (.inr (.inl ⟨rfl, rfl, h4⟩)), rfl, fun h => by rcases h with h | h <;> cases h⟩
            · rw [if_neg h4] at h; simp at h
        · rw [one_sgn p ht h2 h3] at h
          unfold sgT at h
          by_cases h4 : sgL (c :: r) = 0
          · rw [if_pos h4] at h; simp at h
          · rw [if_neg h4] at h
            obtain ⟨rfl, rfl⟩ := Prod.mk.inj (Option.some.inj h)
            exact ⟨.inr (.inr (.inr ⟨rfl, rfl, sg_in h4⟩)), rfl, fun _ => ⟨rfl, by rw [List.length_take]; have := sgL_le (c :: r); omega⟩⟩
/-- Each begins behind the one ahead, and a word and a sign stand there. -/
def Ch (L : List UInt8) : Nat → List Tk → Prop
  | p, [] => p ≤ L.length
  | p, t :: y => p ≤ t.p ∧ ∃ n, 1 ≤ n ∧ t.p + n ≤ L.length ∧ ((t.k = 1 ∨ t.k = 4) → t.s = (L.drop t.p).take n ∧ t.s.length = n) ∧ Ch L (t.p + n) y
theorem Ch.mono {L : List UInt8} {p q : Nat} {y : List Tk} (h : Ch L q y) (hp : p ≤ q) : Ch L p y := by
  cases y with
  | nil => exact Nat.le_trans hp h
  | cons t y => exact ⟨Nat.le_trans hp h.1, h.2⟩
theorem toks_all (L : List UInt8) : ∀ (g p : Nat), p ≤ L.length → L.length - p ≤ g → (toksP (L.drop p) p).2 = none → ∃ y, (toksP (L.drop p) p).1 = y ++ [⟨0, [], 0, L.length⟩] ∧ (∀ t ∈ y, TkOk t) ∧ Ch L p y ∧ y.length ≤ L.length - p := by
  intro g
  induction g with
  | zero =>
    intro p hp hg _
    have : p = L.length := by omega
    subst this
    rw [List.drop_length, toksP_nil]
    exact ⟨[], rfl, by simp, Nat.le_refl _, by simp⟩
  | succ g ih =>
    intro p hp hg hn
    by_cases he : p = L.length
    · subst he
      rw [List.drop_length, toksP_nil]
      exact ⟨[], rfl, by simp, Nat.le_refl _, by simp⟩
    · have hlt : p < L.length := by omega
      have hd := List.drop_eq_getElem_cons hlt
      rw [hd] at hn ⊢
      cases hb : bkB L[p] with
      | true =>
        rw [toksP_blank hb] at hn ⊢
        obtain ⟨y, h1, h2, h3, h4⟩ := ih (p + 1) (by omega) (by omega) hn
        exact ⟨y, h1, h2, h3.mono (by omega), by omega⟩
      | false =>
        cases ho : oneL (L[p] :: L.drop (p + 1)) p with
        | none => rw [toksP_no hb ho] at hn; cases hn
        | some x =>
          obtain ⟨t, n⟩ := x
          have hl := oneL_len ho
          have hk := one_ok ho
          rw [toksP_one hb ho, ← hd, List.drop_drop] at hn ⊢
          rw [← hd, List.length_drop] at hl
          rw [← hd] at hk
          obtain ⟨y, h1, h2, h3, h4⟩ := ih (p + n) (by omega) (by omega) hn
          refine ⟨t :: y, by simp only [h1, List.cons_append], ?_, ⟨by rw [hk.2.1]; exact Nat.le_refl _, n, hl.1, by rw [hk.2.1]; omega, fun h => by rw [hk.2.1]; exact hk.2.2 h, by rw [hk.2.1]; exact h3⟩, by simp; omega⟩
          intro u hu
          rcases List.mem_cons.1 hu with rfl | hu
          · exact hk.1
          · exact h2 u hu
/-- Tokens as text, blanks behind each. -/
def joinL : List (Tk × List UInt8) → List UInt8
  | [] => []
  | x :: r => shownL x.1 ++ (x.2 ++ joinL r)
def ksn (t : Tk) : Int × List UInt8 × Int := (t.k, t.s, t.n)
theorem toks_blanks : ∀ (b r : List UInt8) (p : Nat), (∀ c ∈ b, bkB c = true) → toksP (b ++ r) p = toksP r (p + b.length)
  | [], r, p, _ => rfl
  | c :: b, r, p, h => by
    show toksP (c :: (b ++ r)) p = _
    rw [toksP_blank (h c (by simp)), toks_blanks b r (p + 1) (fun d hd => h d (by simp [hd]))]
    simp only [List.length_cons]
    rw [show p + 1 + b.length = p + (b.length + 1) by omega]
theorem join_back : ∀ (y : List (Tk × List UInt8)) (e : List UInt8) (p : Nat), (∀ x ∈ y, TkOk x.1 ∧ x.2 ≠ [] ∧ ∀ c ∈ x.2, bkB c = true) → (∀ c ∈ e, bkB c = true) →
    (toksP (joinL y ++ e) p).2 = none ∧ (toksP (joinL y ++ e) p).1.map ksn = y.map (fun x => ksn x.1) ++ [(0, [], 0)]
  | [], e, p, _, he => by
    have := toks_blanks e [] p he
    rw [List.append_nil] at this
    show (toksP e p).2 = none ∧ _
    show (toksP e p).2 = none ∧ (toksP e p).1.map ksn = _
    rw [this, toksP_nil]
    exact ⟨rfl, rfl⟩
  | x :: y, e, p, h, he => by
    obtain ⟨ho, hb, hbb⟩ := h x (by simp)
    obtain ⟨b, bs, hbe⟩ : ∃ b bs, x.2 = b :: bs := by
      cases e : x.2 with
      | nil => exact absurd e hb
      | cons b bs => exact ⟨b, bs, rfl⟩
    have hbk : bkB b = true := hbb b (by rw [hbe]; simp)
    obtain ⟨h1, c, z, h2, h3⟩ := one_back ho hbk (bs ++ (joinL y ++ e)) p
    have ih := join_back y e (p + (shownL x.1).length + x.2.length) (fun u hu => h u (by simp [hu])) he
    have hl : joinL (x :: y) ++ e = shownL x.1 ++ (x.2 ++ (joinL y ++ e)) := by simp [joinL]
    have hl2 : joinL (x :: y) ++ e = c :: (z ++ (x.2 ++ (joinL y ++ e))) := by rw [hl, h2]; rfl
    have h4 : oneL (c :: (z ++ (x.2 ++ (joinL y ++ e)))) p = some (⟨x.1.k, x.1.s, x.1.n, p⟩, (shownL x.1).length) := by
      rw [← hl2, hl, hbe]; exact h1
    rw [hl2, toksP_one h3 h4, ← hl2, hl]
    have h5 : (shownL x.1 ++ (x.2 ++ (joinL y ++ e))).drop (shownL x.1).length = x.2 ++ (joinL y ++ e) := List.drop_left
    rw [h5, toks_blanks x.2 (joinL y ++ e) _ hbb]
    refine ⟨ih.1, ?_⟩
    simp only [List.map_cons, List.cons_append]
    rw [ih.2]
    rfl
end Go.Proofs.YtoccbfgcmaahcaaDoor
/-
  A number without the noughts ahead of it: the contract of package lex's bare.
-/
namespace Go.Proofs.YtoccbfgcmaahcaaDoor
open Go.RowKit

def brL (l : List UInt8) : List UInt8 := if l.head? = some 45 then 45 :: strip (l.drop 1) else strip l
theorem trimPrefix_any (s p : ByteArray) (w : World) :
    Calls Tryd.prog 35 #[.string s, .string p] w fun e w' => e = .returned (.string (str (Lib.trimPrefix s.data.toList p.data.toList))) ∧ w' = w := Any.strings_TrimPrefix Tryd.lays101 s p w
theorem strip_go {l : List UInt8} {k : Nat} (h : k + 1 < l.length) (hc : l[k]? = some 48) : strip (l.drop k) = strip (l.drop (k + 1)) := by
  have e : l[k] = 48 := by
    rw [List.getElem?_eq_getElem (by omega)] at hc
    exact Option.some.inj hc
  rw [List.drop_eq_getElem_cons (by omega : k < l.length)]
  simp only [strip]
  rw [if_pos ⟨e, by rw [List.drop_eq_getElem_cons h]; exact List.cons_ne_nil _ _⟩]
theorem strip_end {l : List UInt8} {k : Nat} (h : l.length ≤ k + 1 ∨ l[k]? ≠ some 48) : strip (l.drop k) = l.drop k := by
  by_cases hk : k < l.length
  · rw [List.drop_eq_getElem_cons hk]
    simp only [strip]
    rw [if_neg]
    rintro ⟨e, h2⟩
    rcases h with h | h
    · apply h2
      rw [List.drop_eq_nil_iff]; omega
    · apply h
      rw [List.getElem?_eq_getElem hk, e]
  · rw [List.drop_of_length_le (by omega)]; rfl
set_option maxHeartbeats 4000000 in
set_option maxRecDepth 4000 in
theorem bare_any (s : ByteArray) (hs : s.size ≤ 100000) (w : World) :
    Calls Tryd.prog 24 #[.string s] w fun e w' => e = .returned (.string (str (brL s.data.toList))) ∧ w' = w := by
  have htp := fun W => trimPrefix_any s ⟨#[45]⟩ W
  -- where the digits begin: 1 or 0
  obtain ⟨f, D, hf, hfl, hDs, hbr⟩ : ∃ (f : Nat) (D : ByteArray), str (Lib.trimPrefix s.data.toList [45]) = D ∧ f ≤ s.size ∧ D.size = s.size - f ∧ brL s.data.toList = (s.extract 0 f).data.toList ++ strip D.data.toList := by
    by_cases h : s.data.toList.head? = some 45
    · obtain ⟨r, hr⟩ : ∃ r, s.data.toList = 45 :: r := by
        cases e : s.data.toList with
        | nil => rw [e] at h; cases h
        | cons c r => rw [e] at h; obtain rfl := Option.some.inj h; exact ⟨r, rfl⟩
      have hl : s.size = r.length + 1 := by rw [Lib.size_eq, hr]; rfl
      refine ⟨1, str r, ?_, by omega, by rw [str_size]; omega, ?_⟩
      · rw [hr]; unfold Lib.trimPrefix Lib.hasPrefix; simp
      · rw [ext_list, hr]; unfold brL; simp [str]
    · refine ⟨0, s, ?_, by omega, by omega, ?_⟩
      · unfold Lib.trimPrefix Lib.hasPrefix
        rw [if_neg, str_data]
        intro h2
        apply h
        cases e : s.data.toList with
        | nil => rw [e] at h2; simp at h2
        | cons c r => rw [e] at h2; simp at h2; rw [h2]; rfl
      · unfold brL; rw [if_neg h, ext_list]; simp
  have hf2 : str (Lib.trimPrefix s.data.toList (⟨#[45]⟩ : ByteArray).data.toList) = D := hf
  rw [hf2] at htp
  have HB : Hid (brL s.data.toList = (s.extract 0 f).data.toList ++ strip D.data.toList) := hbr
  have hr1 : IntKind.i64.wrap ((s.size : Int) - (D.size : Int)) = (f : Int) := by rw [IntKind.wrap_i64]; omega
  have hm1 : (s.extract 0 f).size ≤ 100000 := by have := ext_size (s := s) (p := 0) (q := f); omega
  have HDs : Hid (D.size ≤ 100000) := by unfold Hid; omega
  clear hf hf2 hbr hDs
  go_enter Tryd.func24, Tryd.ntmps24
  go_wp2_with (go_at_call 35; refine (htp _).mono ?_; rintro e w1 ⟨rfl, hw⟩; replace hw := hw.symm; subst hw)
  go_loopg [3] (D.size + 1) (fun gg s3 wx => ∃ d : ByteArray, gg = d.size + 1 ∧ s3 = .string d ∧ Hid (strip d.data.toList = strip D.data.toList) ∧ d.size ≤ 100000 ∧ wx = w)
  case atStart => exact ⟨D, rfl, rfl, rfl, HDs.out, rfl⟩
  case round =>
    obtain ⟨d, hdg, rfl, HS, hds, rfl⟩ := hrel
    have HG : Hid (gk = d.size + 1) := hdg
    by_cases hi : 1 < d.size
    · have hiI : (1 : Int) < (d.size : Int) := by omega
      have h0 : 0 < d.size := by omega
      have hat := at_get d 0 h0
      have hl := Lib.size_eq d
      by_cases h48 : d[0]'h0 = 48
      · have hc : (((d[0]'h0).toNat : Int) == 48) = true := by rw [h48]; rfl
        have HS2 : Hid (strip (d.extract 1 d.size).data.toList = strip D.data.toList) := by
          unfold Hid
          rw [ext_list, ← HS.out, List.take_of_length_le (by rw [List.length_drop]; omega)]
          have := strip_go (l := d.data.toList) (k := 0) (by omega) (by rw [hat, h48])
          rw [List.drop_zero] at this
          exact this.symm
        have hsz : (d.extract 1 d.size).size = d.size - 1 := by rw [Lib.size_eq, ext_list, List.length_take, List.length_drop, ← hl]; omega
        clear hat hl hdg h48
        go_wp2_with fail
        go_roundg ((d.extract 1 d.size).size + 1)
        case measure => have := HG.out; omega
        case rel => exact ⟨_, rfl, rfl, HS2, by omega, rfl⟩
      · have hc : (((d[0]'h0).toNat : Int) == 48) = false := u8_no h48
        have HE : Hid (str (brL s.data.toList) = s.extract 0 f ++ d) := by
          unfold Hid
          have h2 := strip_end (l := d.data.toList) (k := 0) (.inr (by rw [hat]; simpa using h48))
          rw [List.drop_zero] at h2
          rw [HB.out, ← HS.out, h2, ← Go.Joins.data_append, str_data]
        clear hat hl hdg h48
        go_wp2_with fail
        go_ret
        exact ⟨by rw [HE.out]; rfl, rfl⟩
    · have hiI : ¬ (1 : Int) < (d.size : Int) := by omega
      have HE : Hid (str (brL s.data.toList) = s.extract 0 f ++ d) := by
        unfold Hid
        have h2 := strip_end (l := d.data.toList) (k := 0) (.inl (by rw [← Lib.size_eq]; omega))
        rw [List.drop_zero] at h2
        rw [HB.out, ← HS.out, h2, ← Go.Joins.data_append, str_data]
      clear hdg
      go_wp2_with fail
      go_ret
      exact ⟨by rw [HE.out]; rfl, rfl⟩
end Go.Proofs.YtoccbfgcmaahcaaDoor
/-
  How many bytes a text has: the contract of package lex's quoted.
-/
namespace Go.Proofs.YtoccbfgcmaahcaaDoor
open Go.RowKit

def nq (c : UInt8) : Bool := isN (kd0 c)
theorem nq_is (c : UInt8) : nq c = true ↔ ¬ c = 39 := by
  unfold nq isN
  rcases kd_ways c with ((rfl | rfl | rfl | rfl) | rfl | rfl | rfl) | ((rfl | rfl | rfl | rfl | rfl | rfl) | rfl | rfl) | hn
  case inr.inr =>
    have h := hn.2.2.2.2.2.2.1
    have hb : bkB c = false := by unfold bkB; simp [hn.1, hn.2.1, hn.2.2.1, hn.2.2.2.1]
    have h2 : kd0 c = 3 ∨ kd0 c = 4 ∨ kd0 c = 0 := by
      unfold kd0
      rw [if_neg (by rw [hb]; simp), if_neg hn.2.2.2.2.1, if_neg hn.2.2.2.2.2.1, if_neg h, if_neg (by simp [hn.2.2.2.2.2.2.2]), if_neg hn.2.2.2.2.2.2.2.2.2.2.2.2.2.1, if_neg hn.2.2.2.2.2.2.2.2.2.2.2.2.2.2]
      split
      · exact .inl rfl
      · split
        · exact .inr (.inl rfl)
        · exact .inr (.inr rfl)
    constructor
    · intro _; exact h
    · intro _; rcases h2 with h2 | h2 | h2 <;> rw [h2] <;> rfl
  all_goals simp [kd0, bkB]
/-- How many bytes the text has that bytes begin with (the quote among them, R what stands behind it); all, if it has no end. -/
def qnL (R : List UInt8) : Nat := match qtL R with
  | some x => x.2 + 1
  | none => R.length + 1
theorem qt_run : ∀ (a r : List UInt8), (∀ c ∈ a, ¬ c = 39) → qtL (a ++ r) = (qtL r).map fun x => (a ++ x.1, x.2 + a.length)
  | [], r, _ => by cases e : qtL r <;> simp [e]
  | c :: a, r, h => by
    have ih := qt_run a r (fun d hd => h d (by simp [hd]))
    rw [List.cons_append, qt_one (h c (by simp)), ih]
    cases qtL r with
    | none => rfl
    | some x => simp; omega
theorem qt_open (a : List UInt8) (h : ∀ c ∈ a, ¬ c = 39) : qtL a = none := by
  have := qt_run a [] h
  rw [List.append_nil] at this
  rw [this]; rfl
theorem spn_mem {q : UInt8 → Bool} {l : List UInt8} {c : UInt8} (h : c ∈ l.take (spn q l)) : q c = true := by
  obtain ⟨i, hi⟩ := List.getElem?_of_mem h
  have hi2 : i < spn q l := by have := (List.getElem?_eq_some_iff.1 hi).1; rw [List.length_take] at this; omega
  rw [List.getElem?_take_of_lt hi2] at hi
  obtain ⟨d, hd, hq⟩ := spn_at q l i hi2
  rw [hd] at hi; obtain rfl := Option.some.inj hi; exact hq
theorem spn_next {q : UInt8 → Bool} : ∀ (l : List UInt8) (c : UInt8), l[spn q l]? = some c → q c = false
  | [], c, h => by simp at h
  | d :: r, c, h => by
    simp only [spn] at h
    split at h
    · exact spn_next r c (by simpa using h)
    · rename_i hd
      simp at h; subst h; simpa using hd
/-- Behind a run without quotes: a quote, or nothing. -/
theorem nq_split (R : List UInt8) : (spn nq R = R.length ∧ qtL R = none) ∨ (spn nq R < R.length ∧ R = R.take (spn nq R) ++ 39 :: R.drop (spn nq R + 1) ∧ qtL R = (qtL (39 :: R.drop (spn nq R + 1))).map fun x => (R.take (spn nq R) ++ x.1, x.2 + spn nq R)) := by
  have hl := spn_le nq R
  have hm : ∀ c ∈ R.take (spn nq R), ¬ c = 39 := fun c hc => (nq_is c).1 (spn_mem hc)
  by_cases h : spn nq R = R.length
  · left
    refine ⟨h, ?_⟩
    rw [h, List.take_length] at hm
    exact qt_open R hm
  · right
    have hlt : spn nq R < R.length := by omega
    have e : R[spn nq R] = 39 := by
      have := spn_next (q := nq) R R[spn nq R] (List.getElem?_eq_getElem hlt)
      by_cases h39 : R[spn nq R] = 39
      · exact h39
      · rw [(nq_is _).2 h39] at this; cases this
    have hs : R = R.take (spn nq R) ++ 39 :: R.drop (spn nq R + 1) := by
      have := List.drop_eq_getElem_cons hlt
      rw [e] at this
      rw [← this, List.take_append_drop]
    refine ⟨hlt, hs, ?_⟩
    have h2 := qt_run (R.take (spn nq R)) (39 :: R.drop (spn nq R + 1)) hm
    rw [← hs] at h2
    rw [h2, List.length_take, Nat.min_eq_left hl]
/-- How far a text's bytes are told: nothing yet, to a quote, or beyond the end. -/
def QSt (R : List UInt8) (e : Nat) : Prop := e = 0 ∨ (2 ≤ e ∧ e ≤ R.length + 1 ∧ ∃ done, QtAt R done (e - 2) (39 :: R.drop (e - 1))) ∨ (e = R.length + 2 ∧ qtL R = none)
theorem qst_first (R : List UInt8) : QSt R (2 + spn nq R) := by
  rcases nq_split R with ⟨h1, h2⟩ | ⟨h1, h2, h3⟩
  · exact .inr (.inr ⟨by omega, h2⟩)
  · refine .inr (.inl ⟨by omega, by omega, R.take (spn nq R), ?_⟩)
    unfold QtAt
    rw [show 2 + spn nq R - 2 = spn nq R by omega, show 2 + spn nq R - 1 = spn nq R + 1 by omega]
    exact h3
theorem qst_next {R : List UInt8} {e : Nat} (h2 : 2 ≤ e) (h : QSt R e) (hq : R[e - 1]? = some 39) : QSt R (e + (2 + spn nq (R.drop e))) := by
  have hlt := (List.getElem?_eq_some_iff.1 hq).1
  rcases h with h | ⟨_, _, done, h⟩ | ⟨h, _⟩
  · omega
  · have hd : R.drop (e - 1) = 39 :: R.drop e := by
      rw [List.drop_eq_getElem_cons hlt, show e - 1 + 1 = e by omega]
      rw [List.getElem?_eq_getElem hlt] at hq
      rw [Option.some.inj hq]
    rw [hd] at h
    have h3 := qtAt_two h
    rw [show e - 2 + 2 = e by omega] at h3
    have hdl : (R.drop e).length = R.length - e := List.length_drop
    rcases nq_split (R.drop e) with ⟨h4, h5⟩ | ⟨h4, h5, h6⟩
    · refine .inr (.inr ⟨by omega, ?_⟩)
      unfold QtAt at h3
      rw [h3, h5]; rfl
    · refine .inr (.inl ⟨by omega, by omega, (done ++ [39]) ++ (R.drop e).take (spn nq (R.drop e)), ?_⟩)
      unfold QtAt at h3 ⊢
      rw [h3, h6, List.drop_drop, show e + (2 + spn nq (R.drop e)) - 1 = e + (spn nq (R.drop e) + 1) by omega]
      cases qtL (39 :: R.drop (e + (spn nq (R.drop e) + 1))) with
      | none => rfl
      | some x => simp; omega
  · omega
theorem qst_end {R : List UInt8} {e : Nat} (h : QSt R e) (h0 : ¬ e = 0) (hq : R[e - 1]? ≠ some 39) : min e (R.length + 1) = qnL R := by
  unfold qnL
  rcases h with h | ⟨h2, h3, done, h⟩ | ⟨h, hn⟩
  · exact absurd h h0
  · have := qtAt_end h (by rw [List.head?_drop]; exact hq)
    rw [this]
    simp only
    omega
  · rw [hn]; simp only; omega

set_option maxHeartbeats 4000000 in
set_option maxRecDepth 4000 in
theorem quoted_any (s : ByteArray) (hs : s.size ≤ 100000) {R : List UInt8} (hR : s.data.toList = 39 :: R) (w : World) :
    Calls Tryd.prog 25 #[.string s] w fun e w' => e = .returned (.int .i64 (qnL R)) ∧ w' = w := by
  have hsl : s.size = R.length + 1 := by rw [Lib.size_eq, hR]; rfl
  obtain ⟨m, hm⟩ : ∃ m, m = qnL R := ⟨_, rfl⟩
  have HM : Hid (m = qnL R ∧ s.data.toList = 39 :: R ∧ s.size = R.length + 1) := ⟨hm, hR, hsl⟩
  rw [← hm]
  have eg := enters_of Tryd.func36 (by kernel_rfl) rfl
  have HRUN : Hid (∀ (t : ByteArray), t.size ≤ 100000 → ∀ W, Calls Tryd.prog 20 #[.string t, .func (.func 36) #[] #[]] W fun e w' => e = .returned (.int .i64 (spn nq t.data.toList)) ∧ w' = W) := fun t ht W => run_any t ht 36 isN eg clN_any W
  clear hm hR hsl
  go_enter Tryd.func25, Tryd.ntmps25
  go_wp2_with fail
  go_loopg [3] (s.size + 2) (fun gg s3 wx => ∃ e : Nat, e + gg = s.size + 2 ∧ s3 = .int .i64 e ∧ Hid (QSt R e) ∧ e ≤ s.size + 1 ∧ wx = w)
  case atStart => exact ⟨0, by omega, rfl, .inl rfl, by omega, rfl⟩
  case round =>
    obtain ⟨e, heg, rfl, HQ, hel, rfl⟩ := hrel
    have HG : Hid (e + gk = s.size + 2) := heg
    by_cases hi : e < s.size
    · have hiI : (e : Int) < (s.size : Int) := by omega
      have hkd := fun W => kindOf_any s[e] W
      have hat := at_get s e hi
      by_cases h39 : s[e] = 39
      · have hk6 : kd0 s[e] = 6 := by rw [h39]; rfl
        rw [hk6] at hkd
        have hr1 : IntKind.i64.wrap ((e : Int) + 1) = (e : Int) + 1 := by rw [IntKind.wrap_i64]; omega
        have H39 : Hid (s.data.toList[e]? = some 39) := by rw [← h39]; exact hat
        clear hat h39 hk6 heg
        go_wp2_with fail
        refine (hkd _).mono ?_
        rintro x w1 ⟨rfl, hw⟩
        replace hw := hw.symm
        subst hw
        clear hkd
        have hx := HRUN.out (s.extract (e + 1) s.size) (by have := ext_size (s := s) (p := e + 1) (q := s.size); omega)
        obtain ⟨k, hk⟩ : ∃ k, k = spn nq (s.extract (e + 1) s.size).data.toList := ⟨_, rfl⟩
        rw [← hk] at hx
        have hkl : e + 1 + k ≤ s.size := by
          have := spn_le nq (s.extract (e + 1) s.size).data.toList
          rw [← hk, ext_list, List.length_take, List.length_drop, ← Lib.size_eq] at this
          omega
        have hkd2 : k = spn nq (s.data.toList.drop (e + 1)) := by
          rw [hk, ext_list, List.take_of_length_le (by rw [List.length_drop, ← Lib.size_eq]; omega)]
        have HQ2 : Hid (QSt R (e + (2 + k))) := by
          unfold Hid
          rw [hkd2, HM.out.2.1, List.drop_succ_cons]
          by_cases h0 : e = 0
          · subst h0; rw [List.drop_zero, Nat.zero_add]; exact qst_first R
          · have h1 := H39.out
            rw [HM.out.2.1] at h1
            have h2e : 2 ≤ e := by
              rcases HQ.out with h | h | h
              · exact absurd h h0
              · exact h.1
              · have := HM.out.2.2; omega
            refine qst_next h2e HQ.out ?_
            rw [show e = (e - 1) + 1 by omega, List.getElem?_cons_succ] at h1
            exact h1
        have hr2 : IntKind.i64.wrap (2 + (k : Int)) = 2 + (k : Int) := by rw [IntKind.wrap_i64]; omega
        have hr3 : IntKind.i64.wrap ((e : Int) + (2 + (k : Int))) = (e : Int) + (2 + (k : Int)) := by rw [IntKind.wrap_i64]; omega
        clear hk hkd2
        go_wp2_with fail
        refine (hx _).mono ?_
        rintro x w1 ⟨rfl, hw⟩
        replace hw := hw.symm
        subst hw
        clear hx
        go_wp2_with fail
        go_roundg (s.size + 2 - (e + (2 + k)))
        case measure => clear hr1 hr2 hr3; have := HG.out; omega
        case rel => exact ⟨e + (2 + k), by clear hr1 hr2 hr3; omega, by go_num, HQ2, by clear hr1 hr2 hr3; omega, rfl⟩
      · have hk6 : (kd0 s[e] == 6) = false := by
          have := (nq_is s[e]).2 h39
          unfold nq isN at this
          simpa using this
        obtain ⟨kk, hkk⟩ : ∃ kk, kk = kd0 s[e] := ⟨_, rfl⟩
        rw [← hkk] at hkd hk6
        have HE : Hid (min e s.size = m ∧ e < s.size) := by
          refine ⟨?_, hi⟩
          rw [HM.out.1, HM.out.2.2]
          have h0 : ¬ e = 0 := by
            intro h0; subst h0
            apply h39
            have := hat
            rw [HM.out.2.1] at this
            exact (Option.some.inj this).symm
          refine qst_end HQ.out h0 ?_
          intro h1
          apply h39
          have h2 : (39 :: R)[e]? = R[e - 1]? := by
            obtain ⟨f, hf⟩ : ∃ f, e = f + 1 := ⟨e - 1, by omega⟩
            clear hat h1
            rw [hf]; simp
          rw [HM.out.2.1, h2, h1] at hat
          exact (Option.some.inj hat).symm
        clear hat h39 heg hkk
        go_wp2_with fail
        refine (hkd _).mono ?_
        rintro x w1 ⟨rfl, hw⟩
        replace hw := hw.symm
        subst hw
        clear hkd
        go_wp2_with fail
        go_ret
        exact ⟨retI (by have := HE.out.1; omega), rfl⟩
    · have hiI : ¬ (e : Int) < (s.size : Int) := by omega
      have HE : Hid (min e s.size = m) := by
        unfold Hid
        rw [HM.out.1, HM.out.2.2]
        have := HM.out.2.2
        refine qst_end HQ.out (by omega) ?_
        rw [List.getElem?_eq_none (by omega)]
        simp
      clear heg
      go_wp2_with fail
      go_ret
      exact ⟨retI (by have := HE.out; omega), rfl⟩
end Go.Proofs.YtoccbfgcmaahcaaDoor
/-
  The contract of package lex's Keyword.
-/
namespace Go.Proofs.YtoccbfgcmaahcaaDoor
open Go.RowKit

/-- Which of them is the first one. -/
theorem first_of (x0 x1 x2 x3 x4 x5 x6 x7 x8 x9 x10 x11 x12 x13 x14 x15 x16 x17 x18 x19 x20 x21 x22 x23 x24 x25 x26 x27 x28 x29 x30 x31 x32 x33 x34 x35 : Bool) : x0 = true ∨ (x0 = false ∧ (x1 = true ∨ (x1 = false ∧ (x2 = true ∨ (x2 = false ∧ (x3 = true ∨ (x3 = false ∧ (x4 = true ∨ (x4 = false ∧ (x5 = true ∨ (x5 = false ∧ (x6 = true ∨ (x6 = false ∧ (x7 = true ∨ (x7 = false ∧ (x8 = true ∨ (x8 = false ∧ (x9 = true ∨ (x9 = false ∧ (x10 = true ∨ (x10 = false ∧ (x11 = true ∨ (x11 = false ∧ (x12 = true ∨ (x12 = false ∧ (x13 = true ∨ (x13 = false ∧ (x14 = true ∨ (x14 = false ∧ (x15 = true ∨ (x15 = false ∧ (x16 = true ∨ (x16 = false ∧ (x17 = true ∨ (x17 = false ∧ (x18 = true ∨ (x18 = false ∧ (x19 = true ∨ (x19 = false ∧ (x20 = true ∨ (x20 = false ∧ (x21 = true ∨ (x21 = false ∧ (x22 = true ∨ (x22 = false ∧ (x23 = true ∨ (x23 = false ∧ (x24 = true ∨ (x24 = false ∧ (x25 = true ∨ (x25 = false ∧ (x26 = true ∨ (x26 = false ∧ (x27 = true ∨ (x27 = false ∧ (x28 = true ∨ (x28 = false ∧ (x29 = true ∨ (x29 = false ∧ (x30 = true ∨ (x30 = false ∧ (x31 = true ∨ (x31 = false ∧ (x32 = true ∨ (x32 = false ∧ (x33 = true ∨ (x33 = false ∧ (x34 = true ∨ (x34 = false ∧ (x35 = true ∨ x35 = false)))))))))))))))))))))))))))))))))))))))))))))))))))))))))))))))))))))) := by
  cases x0 with
  | true => exact .inl rfl
  | false =>
  refine .inr ⟨rfl, ?_⟩
  cases x1 with
  | true => exact .inl rfl
  | false =>
  refine .inr ⟨rfl, ?_⟩
  cases x2 with
  | true => exact .inl rfl
  | false =>
  refine .inr ⟨rfl, ?_⟩
  cases x3 with
  | true => exact .inl rfl
  | false =>
  refine .inr ⟨rfl, ?_⟩
  cases x4 with
  | true => exact .inl rfl
  | false =>
  refine .inr ⟨rfl, ?_⟩
  cases x5 with
  | true => exact .inl rfl
  | false =>
  refine .inr ⟨rfl, ?_⟩
  cases x6 with
  | true => exact .inl rfl
  | false =>
  refine .inr ⟨rfl, ?_⟩
  cases x7 with
  | true => exact .inl rfl
  | false =>
  refine .inr ⟨rfl, ?_⟩
  cases x8 with
  | true => exact .inl rfl
  | false =>
  refine .inr ⟨rfl, ?_⟩
  cases x9 with
  | true => exact .inl rfl
  | false =>
  refine .inr ⟨rfl, ?_⟩
  cases x10 with
  | true => exact .inl rfl
  | false =>
  refine .inr ⟨rfl, ?_⟩
  cases x11 with
  | true => exact .inl rfl
  | false =>
  refine .inr ⟨rfl, ?_⟩
  cases x12 with
  | true => exact .inl rfl
  | false =>
  refine .inr ⟨rfl, ?_⟩
  cases x13 with
  | true => exact .inl rfl
  | false =>
  refine .inr ⟨rfl, ?_⟩
  cases x14 with
  | true => exact .inl rfl
  | false =>
  refine .inr ⟨rfl, ?_⟩
  cases x15 with
  | true => exact .inl rfl
  | false =>
  refine .inr ⟨rfl, ?_⟩
  cases x16 with
  | true => exact .inl rfl
  | false =>
  refine .inr ⟨rfl, ?_⟩
  cases x17 with
  | true => exact .inl rfl
  | false =>
  refine .inr ⟨rfl, ?_⟩
  cases x18 with
  | true => exact .inl rfl
  | false =>
  refine .inr ⟨rfl, ?_⟩
  cases x19 with
  | true => exact .inl rfl
  | false =>
  refine .inr ⟨rfl, ?_⟩
  cases x20 with
  | true => exact .inl rfl
  | false =>
  refine .inr ⟨rfl, ?_⟩
  cases x21 with
  | true => exact .inl rfl
  | false =>
  refine .inr ⟨rfl, ?_⟩
  cases x22 with
  | true => exact .inl rfl
  | false =>
  refine .inr ⟨rfl, ?_⟩
  cases x23 with
  | true => exact .inl rfl
  | false =>
  refine .inr ⟨rfl, ?_⟩
  cases x24 with
  | true => exact .inl rfl
  | false =>
  refine .inr ⟨rfl, ?_⟩
  cases x25 with
  | true => exact .inl rfl
  | false =>
  refine .inr ⟨rfl, ?_⟩
  cases x26 with
  | true => exact .inl rfl
  | false =>
  refine .inr ⟨rfl, ?_⟩
  cases x27 with
  | true => exact .inl rfl
  | false =>
  refine .inr ⟨rfl, ?_⟩
  cases x28 with
  | true => exact .inl rfl
  | false =>
  refine .inr ⟨rfl, ?_⟩
  cases x29 with
  | true => exact .inl rfl
  | false =>
  refine .inr ⟨rfl, ?_⟩
  cases x30 with
  | true => exact .inl rfl
  | false =>
  refine .inr ⟨rfl, ?_⟩
  cases x31 with
  | true => exact .inl rfl
  | false =>
  refine .inr ⟨rfl, ?_⟩
  cases x32 with
  | true => exact .inl rfl
  | false =>
  refine .inr ⟨rfl, ?_⟩
  cases x33 with
  | true => exact .inl rfl
  | false =>
  refine .inr ⟨rfl, ?_⟩
  cases x34 with
  | true => exact .inl rfl
  | false =>
  refine .inr ⟨rfl, ?_⟩
  cases x35 with
  | true => exact .inl rfl
  | false => exact .inr rfl

set_option maxHeartbeats 16000000 in
set_option maxRecDepth 16000 in
theorem keyword_any (s : ByteArray) (w : World) :
    Calls Tryd.prog 10 #[.string s] w fun e w' => e = .returned (.bool (keyB s.data.toList)) ∧ Below w.heap.size w w' := by
  obtain ⟨x0, h0⟩ : ∃ x, (s.toList == [97, 100, 118, 97, 110, 99, 101]) = x := ⟨_, rfl⟩
  obtain ⟨x1, h1⟩ : ∃ x, (s.toList == [97, 110, 100]) = x := ⟨_, rfl⟩
  obtain ⟨x2, h2⟩ : ∃ x, (s.toList == [97, 116]) = x := ⟨_, rfl⟩
  obtain ⟨x3, h3⟩ : ∃ x, (s.toList == [98, 121]) = x := ⟨_, rfl⟩
  obtain ⟨x4, h4⟩ : ∃ x, (s.toList == [99, 111, 117, 110, 116]) = x := ⟨_, rfl⟩
  obtain ⟨x5, h5⟩ : ∃ x, (s.toList == [99, 114, 101, 97, 116, 101]) = x := ⟨_, rfl⟩
  obtain ⟨x6, h6⟩ : ∃ x, (s.toList == [100, 101, 108, 101, 116, 101]) = x := ⟨_, rfl⟩
  obtain ⟨x7, h7⟩ : ∃ x, (s.toList == [100, 101, 115, 99]) = x := ⟨_, rfl⟩
  obtain ⟨x8, h8⟩ : ∃ x, (s.toList == [100, 114, 111, 112]) = x := ⟨_, rfl⟩
  obtain ⟨x9, h9⟩ : ∃ x, (s.toList == [102, 111, 114, 103, 101, 116]) = x := ⟨_, rfl⟩
  obtain ⟨x10, h10⟩ : ∃ x, (s.toList == [102, 114, 111, 109]) = x := ⟨_, rfl⟩
  obtain ⟨x11, h11⟩ : ∃ x, (s.toList == [103, 114, 111, 117, 112]) = x := ⟨_, rfl⟩
  obtain ⟨x12, h12⟩ : ∃ x, (s.toList == [104, 105, 110, 116]) = x := ⟨_, rfl⟩
  obtain ⟨x13, h13⟩ : ∃ x, (s.toList == [105, 110, 115, 101, 114, 116]) = x := ⟨_, rfl⟩
  obtain ⟨x14, h14⟩ : ∃ x, (s.toList == [105, 110, 116]) = x := ⟨_, rfl⟩
  obtain ⟨x15, h15⟩ : ∃ x, (s.toList == [105, 110, 116, 111]) = x := ⟨_, rfl⟩
  obtain ⟨x16, h16⟩ : ∃ x, (s.toList == [105, 115]) = x := ⟨_, rfl⟩
  obtain ⟨x17, h17⟩ : ∃ x, (s.toList == [106, 111, 105, 110]) = x := ⟨_, rfl⟩
  obtain ⟨x18, h18⟩ : ∃ x, (s.toList == [107, 101, 121, 115]) = x := ⟨_, rfl⟩
  obtain ⟨x19, h19⟩ : ∃ x, (s.toList == [108, 105, 109, 105, 116]) = x := ⟨_, rfl⟩
  obtain ⟨x20, h20⟩ : ∃ x, (s.toList == [109, 97, 120]) = x := ⟨_, rfl⟩
  obtain ⟨x21, h21⟩ : ∃ x, (s.toList == [109, 105, 110]) = x := ⟨_, rfl⟩
  obtain ⟨x22, h22⟩ : ∃ x, (s.toList == [109, 111, 118, 101]) = x := ⟨_, rfl⟩
  obtain ⟨x23, h23⟩ : ∃ x, (s.toList == [110, 111, 116]) = x := ⟨_, rfl⟩
  obtain ⟨x24, h24⟩ : ∃ x, (s.toList == [110, 117, 108, 108]) = x := ⟨_, rfl⟩
  obtain ⟨x25, h25⟩ : ∃ x, (s.toList == [111, 110]) = x := ⟨_, rfl⟩
  obtain ⟨x26, h26⟩ : ∃ x, (s.toList == [111, 114]) = x := ⟨_, rfl⟩
  obtain ⟨x27, h27⟩ : ∃ x, (s.toList == [111, 114, 100, 101, 114]) = x := ⟨_, rfl⟩
  obtain ⟨x28, h28⟩ : ∃ x, (s.toList == [112, 114, 111, 106, 101, 99, 116, 105, 111, 110]) = x := ⟨_, rfl⟩
  obtain ⟨x29, h29⟩ : ∃ x, (s.toList == [115, 101, 108, 101, 99, 116]) = x := ⟨_, rfl⟩
  obtain ⟨x30, h30⟩ : ∃ x, (s.toList == [115, 117, 109]) = x := ⟨_, rfl⟩
  obtain ⟨x31, h31⟩ : ∃ x, (s.toList == [116, 97, 98, 108, 101]) = x := ⟨_, rfl⟩
  obtain ⟨x32, h32⟩ : ∃ x, (s.toList == [116, 101, 120, 116]) = x := ⟨_, rfl⟩
  obtain ⟨x33, h33⟩ : ∃ x, (s.toList == [117, 115, 105, 110, 103]) = x := ⟨_, rfl⟩
  obtain ⟨x34, h34⟩ : ∃ x, (s.toList == [118, 97, 108, 117, 101, 115]) = x := ⟨_, rfl⟩
  obtain ⟨x35, h35⟩ : ∃ x, (s.toList == [119, 104, 101, 114, 101]) = x := ⟨_, rfl⟩
  have HE : Hid (keyB s.data.toList = (x0 || (x1 || (x2 || (x3 || (x4 || (x5 || (x6 || (x7 || (x8 || (x9 || (x10 || (x11 || (x12 || (x13 || (x14 || (x15 || (x16 || (x17 || (x18 || (x19 || (x20 || (x21 || (x22 || (x23 || (x24 || (x25 || (x26 || (x27 || (x28 || (x29 || (x30 || (x31 || (x32 || (x33 || (x34 || (x35 || false))))))))))))))))))))))))))))))))))))) := by
    unfold Hid keyB kws
    simp only [List.any_cons, List.any_nil]
    rw [← Lib.toList_data]
    rw [show ([97, 100, 118, 97, 110, 99, 101] == s.toList) = x0 from (BEq.comm).trans h0]
    rw [show ([97, 110, 100] == s.toList) = x1 from (BEq.comm).trans h1]
    rw [show ([97, 116] == s.toList) = x2 from (BEq.comm).trans h2]
    rw [show ([98, 121] == s.toList) = x3 from (BEq.comm).trans h3]
    rw [show ([99, 111, 117, 110, 116] == s.toList) = x4 from (BEq.comm).trans h4]
    rw [show ([99, 114, 101, 97, 116, 101] == s.toList) = x5 from (BEq.comm).trans h5]
    rw [show ([100, 101, 108, 101, 116, 101] == s.toList) = x6 from (BEq.comm).trans h6]
    rw [show ([100, 101, 115, 99] == s.toList) = x7 from (BEq.comm).trans h7]
    rw [show ([100, 114, 111, 112] == s.toList) = x8 from (BEq.comm).trans h8]
    rw [show ([102, 111, 114, 103, 101, 116] == s.toList) = x9 from (BEq.comm).trans h9]
    rw [show ([102, 114, 111, 109] == s.toList) = x10 from (BEq.comm).trans h10]
    rw [show ([103, 114, 111, 117, 112] == s.toList) = x11 from (BEq.comm).trans h11]
    rw [show ([104, 105, 110, 116] == s.toList) = x12 from (BEq.comm).trans h12]
    rw [show ([105, 110, 115, 101, 114, 116] == s.toList) = x13 from (BEq.comm).trans h13]
    rw [show ([105, 110, 116] == s.toList) = x14 from (BEq.comm).trans h14]
    rw [show ([105, 110, 116, 111] == s.toList) = x15 from (BEq.comm).trans h15]
    rw [show ([105, 115] == s.toList) = x16 from (BEq.comm).trans h16]
    rw [show ([106, 111, 105, 110] == s.toList) = x17 from (BEq.comm).trans h17]
    rw [show ([107, 101, 121, 115] == s.toList) = x18 from (BEq.comm).trans h18]
    rw [show ([108, 105, 109, 105, 116] == s.toList) = x19 from (BEq.comm).trans h19]
    rw [show ([109, 97, 120] == s.toList) = x20 from (BEq.comm).trans h20]
    rw [show ([109, 105, 110] == s.toList) = x21 from (BEq.comm).trans h21]
    rw [show ([109, 111, 118, 101] == s.toList) = x22 from (BEq.comm).trans h22]
    rw [show ([110, 111, 116] == s.toList) = x23 from (BEq.comm).trans h23]
    rw [show ([110, 117, 108, 108] == s.toList) = x24 from (BEq.comm).trans h24]
    rw [show ([111, 110] == s.toList) = x25 from (BEq.comm).trans h25]
    rw [show ([111, 114] == s.toList) = x26 from (BEq.comm).trans h26]
    rw [show ([111, 114, 100, 101, 114] == s.toList) = x27 from (BEq.comm).trans h27]
    rw [show ([112, 114, 111, 106, 101, 99, 116, 105, 111, 110] == s.toList) = x28 from (BEq.comm).trans h28]
    rw [show ([115, 101, 108, 101, 99, 116] == s.toList) = x29 from (BEq.comm).trans h29]
    rw [show ([115, 117, 109] == s.toList) = x30 from (BEq.comm).trans h30]
    rw [show ([116, 97, 98, 108, 101] == s.toList) = x31 from (BEq.comm).trans h31]
    rw [show ([116, 101, 120, 116] == s.toList) = x32 from (BEq.comm).trans h32]
    rw [show ([117, 115, 105, 110, 103] == s.toList) = x33 from (BEq.comm).trans h33]
    rw [show ([118, 97, 108, 117, 101, 115] == s.toList) = x34 from (BEq.comm).trans h34]
    rw [show ([119, 104, 101, 114, 101] == s.toList) = x35 from (BEq.comm).trans h35]
  rcases first_of x0 x1 x2 x3 x4 x5 x6 x7 x8 x9 x10 x11 x12 x13 x14 x15 x16 x17 x18 x19 x20 x21 x22 x23 x24 x25 x26 x27 x28 x29 x30 x31 x32 x33 x34 x35 with rfl | ⟨rfl, rfl | ⟨rfl, rfl | ⟨rfl, rfl | ⟨rfl, rfl | ⟨rfl, rfl | ⟨rfl, rfl | ⟨rfl, rfl | ⟨rfl, rfl | ⟨rfl, rfl | ⟨rfl, rfl | ⟨rfl, rfl | ⟨rfl, rfl | ⟨rfl, rfl | ⟨rfl, rfl | ⟨rfl, rfl | ⟨rfl, rfl | ⟨rfl, rfl | ⟨rfl, rfl | ⟨rfl, rfl | ⟨rfl, rfl | ⟨rfl, rfl | ⟨rfl, rfl | ⟨rfl, rfl | ⟨rfl, rfl | ⟨rfl, rfl | ⟨rfl, rfl | ⟨rfl, rfl | ⟨rfl, rfl | ⟨rfl, rfl | ⟨rfl, rfl | ⟨rfl, rfl | ⟨rfl, rfl | ⟨rfl, rfl | ⟨rfl, rfl | ⟨rfl, rfl | rfl⟩⟩⟩⟩⟩⟩⟩⟩⟩⟩⟩⟩⟩⟩⟩⟩⟩⟩⟩⟩⟩⟩⟩⟩⟩⟩⟩⟩⟩⟩⟩⟩⟩⟩⟩
  all_goals
    go_enter Tryd.func10, Tryd.ntmps10
    go_wp2_with fail
    go_ret
    exact ⟨ret_bool2 HE.out, Below.refl _ _⟩
end Go.Proofs.YtoccbfgcmaahcaaDoor
/-
  What the laws' walks need of package lex (the contracts of its two functions), and the law's awake.
-/
namespace Go.Proofs.YtoccbfgcmaahcaaDoor
open Go.RowKit

def LexT : Prop := ∀ (s : ByteArray) (W : World), s.size ≤ 100000 → Env W → Calls Tryd.prog 7 #[.string s] W (TokAns W s.data.toList)
def LexK : Prop := ∀ (s : ByteArray) (W : World), s.size ≤ 100000 → Env W → Calls Tryd.prog 10 #[.string s] W fun e w' => e = .returned (.bool (keyB s.data.toList)) ∧ Below W.heap.size W w'
def awT : List Tk := [⟨1, [97], 0, 0⟩, ⟨4, [60, 61], 0, 1⟩, ⟨3, [105, 116, 39, 115], 0, 3⟩, ⟨2, [], -7, 11⟩, ⟨0, [], 0, 14⟩]
theorem aw_num : oneL [45, 48, 55] 11 = some (⟨2, [], -7, 11⟩, 3) := by
  have e : Lib.itoa (-7) = [45, 55] := by
    rw [show (-7 : Int) = -((7 : Nat) : Int) by rfl, Lib.itoa_neg 7 (by decide), Lib.decDigits_one (by decide)]; rfl
  have h := read_itoa (n := -7) (by decide) (by decide)
  rw [e] at h
  have hn : numL [45, 48, 55] = some (-7, 3) := by
    have hu : utL [45, 48, 55] = [45, 55] := by decide
    unfold numL
    rw [if_neg (by decide), hu, h, if_pos rfl]
    rfl
  rw [one_num 11 (by decide) (.inr rfl), hn]
  rfl
theorem aw_one : tokensA [97, 60, 61, 39, 105, 116, 39, 39, 115, 39, 32, 45, 48, 55] = (awT, 0, 0) := by
  refine tokens_yes (by decide) ?_
  rw [toksP_one (c := 97) (t := ⟨1, [97], 0, 0⟩) (n := 1) rfl rfl]
  show (_ :: (toksP [60, 61, 39, 105, 116, 39, 39, 115, 39, 32, 45, 48, 55] 1).1, (toksP [60, 61, 39, 105, 116, 39, 39, 115, 39, 32, 45, 48, 55] 1).2) = _
  rw [toksP_one (c := 60) (t := ⟨4, [60, 61], 0, 1⟩) (n := 2) rfl rfl]
  show (_ :: _ :: (toksP [39, 105, 116, 39, 39, 115, 39, 32, 45, 48, 55] 3).1, (toksP [39, 105, 116, 39, 39, 115, 39, 32, 45, 48, 55] 3).2) = _
  rw [toksP_one (c := 39) (t := ⟨3, [105, 116, 39, 115], 0, 3⟩) (n := 7) rfl rfl]
  show (_ :: _ :: _ :: (toksP [32, 45, 48, 55] 10).1, (toksP [32, 45, 48, 55] 10).2) = _
  rw [toksP_blank (c := 32) rfl, toksP_one (c := 45) (t := ⟨2, [], -7, 11⟩) (n := 3) rfl aw_num]
  rfl
theorem aw_two : tokensA [97, 32, 35, 32, 98] = ([], 2, 300) := by
  refine tokens_no (p := 2) (by decide) ?_
  rw [toksP_one (c := 97) (t := ⟨1, [97], 0, 0⟩) (n := 1) rfl rfl]
  show (toksP [32, 35, 32, 98] 1).2 = _
  rw [toksP_blank (c := 32) rfl, toksP_no (c := 35) rfl rfl]
theorem aw_k1 : keyB [115, 101, 108, 101, 99, 116] = true := by decide
theorem aw_k2 : keyB [115, 101, 108, 101, 99, 116, 115] = false := by decide

set_option maxHeartbeats 4000000 in
set_option maxRecDepth 4000 in
theorem awake29_any (hT : LexT) (hK : LexK) {w : World} (hE : Env w) :
    Calls Tryd.prog 6 #[] w fun e w' => e = .returned (.bool true) ∧ Below w.heap.size w w' := by
  have h1 := hT ⟨#[97, 60, 61, 39, 105, 116, 39, 39, 115, 39, 32, 45, 48, 55]⟩ w (by decide) hE
  have h2 := fun W hW => hT ⟨#[97, 32, 35, 32, 98]⟩ W (by decide) (hE.below hW)
  have h3 := fun W hW => hK ⟨#[115, 101, 108, 101, 99, 116]⟩ W (by decide) (hE.below hW)
  have h4 := fun W hW => hK ⟨#[115, 101, 108, 101, 99, 116, 115]⟩ W (by decide) (hE.below hW)
  have e1 : tokensA (⟨#[97, 60, 61, 39, 105, 116, 39, 39, 115, 39, 32, 45, 48, 55]⟩ : ByteArray).data.toList = (awT, 0, 0) := aw_one
  have e2 : tokensA (⟨#[97, 32, 35, 32, 98]⟩ : ByteArray).data.toList = ([], 2, 300) := aw_two
  have e3 : keyB (⟨#[115, 101, 108, 101, 99, 116]⟩ : ByteArray).data.toList = true := aw_k1
  have e4 : keyB (⟨#[115, 101, 108, 101, 99, 116, 115]⟩ : ByteArray).data.toList = false := aw_k2
  unfold TokAns at h1 h2
  rw [e1] at h1
  rw [e2] at h2
  rw [e3] at h3
  rw [e4] at h4
  clear e1 e2 e3 e4 hE
  have H2 : Hid (∀ W, Below w.heap.size w W → _) := h2
  have H3 : Hid (∀ W, Below w.heap.size w W → _) := h3
  have H4 : Hid (∀ W, Below w.heap.size w W → _) := h4
  clear h2 h3 h4
  go_enter Tryd.func6, Tryd.ntmps6
  go_wp2_with fail
  refine h1.mono ?_
  rintro e w1 ⟨⟨v1, rfl, ho1⟩, hb1⟩
  clear h1
  go_wp2_with fail
  refine (H2.out _ hb1).mono ?_
  rintro e w2 ⟨⟨v2, rfl, ho2⟩, hb2⟩
  have hb3 := hb1.trans (hb2.mono hb1.size)
  have ht := ho1.1.over hb2
  obtain ⟨a, n, cap, rfl, hn, hcap⟩ := ht.slice
  obtain rfl : n = 5 := hn
  obtain ⟨g, rfl, _, _, p1, _, _⟩ := ht.at (i := 1) (t := ⟨4, [60, 61], 0, 1⟩) rfl
  obtain ⟨g2, eg, _, _, p2, _, _⟩ := ht.at (i := 2) (t := ⟨3, [105, 116, 39, 115], 0, 3⟩) rfl
  cases eg
  obtain ⟨g2, eg, _, _, _, p3, _⟩ := ht.at (i := 3) (t := ⟨2, [], -7, 11⟩) rfl
  cases eg
  obtain ⟨g2, eg, _, _, _, _, p4⟩ := ht.at (i := 4) (t := ⟨0, [], 0, 14⟩) rfl
  cases eg
  have HB : Hid (Below w.heap.size w w2) := hb3
  clear ht ho1 ho2 hb1 hb2 hb3 H2 hcap
  simp only [str, show (1 : Nat) * 4 + 1 = 5 by rfl, show (2 : Nat) * 4 + 1 = 9 by rfl, show (3 : Nat) * 4 + 2 = 14 by rfl, show (4 : Nat) * 4 + 3 = 19 by rfl] at p1 p2 p3 p4
  go_wp2_with fail
  refine (H3.out _ HB.out).mono ?_
  rintro e w3 ⟨rfl, hb3⟩
  have HB3 : Hid (Below w.heap.size w w3) := HB.out.trans (hb3.mono HB.out.size)
  clear hb3
  go_wp2_with fail
  refine (H4.out _ HB3.out).mono ?_
  rintro e w4 ⟨rfl, hb4⟩
  go_wp2_with fail
  go_ret
  exact ⟨rfl, HB3.out.trans (hb4.mono HB3.out.size)⟩
end Go.Proofs.YtoccbfgcmaahcaaDoor
/-
  What package lex makes of what layer 6 reads: numbers and texts. No program is spoken of.
-/
namespace Go.Proofs.YtoccbfgcmaahcaaDoor
open Go.RowKit

theorem read_cases (l : List UInt8) : (∃ c, readC l = some c ∧ readA l = (c, 0)) ∨ (readC l = none ∧ readA l = (cl0, 20)) := by
  cases e : readC l with
  | some c => exact .inl ⟨c, rfl, readA_of e⟩
  | none => exact .inr ⟨rfl, readA_none e⟩
theorem emp_of (s : ByteArray) (h : s.size = 0) : s = ⟨#[]⟩ := ByteArray.ext (Array.eq_empty_of_size_eq_zero h)
/-- What begins as a number is read as one, if at all. -/
theorem read_num {c : UInt8} {r : List UInt8} {x : Cl} (hc : dgB c = true ∨ c = 45) (h : readC (c :: r) = some x) : x.k = 1 ∧ x.s = ⟨#[]⟩ := by
  obtain ⟨hm, hok, hs⟩ := (read_iff _ _).1 h
  have h1 : ¬ x.k = 0 := by
    intro e
    unfold showL at hs
    rw [if_pos e] at hs
    obtain ⟨rfl, _⟩ := List.cons.inj hs
    rcases hc with hc | hc <;> cases hc
  have h2 : ¬ x.k = 2 := by
    intro e
    unfold showL at hs
    rw [if_neg (by rw [e]; decide), if_neg (by rw [e]; decide), if_pos e] at hs
    obtain ⟨rfl, _⟩ := List.cons.inj hs
    rcases hc with hc | hc <;> cases hc
  rcases may_kind hm with ⟨h, _⟩ | ⟨h, h3⟩ | ⟨h, _⟩
  · exact absurd h h1
  · exact ⟨h, emp_of _ h3⟩
  · exact absurd h h2
/-- - alone is none. -/
theorem read_dash : readC [45] = none := by
  cases e : readC [45] with
  | none => rfl
  | some x =>
    exfalso
    have h1 := read_num (.inr rfl) e
    obtain ⟨hm, hok, hs⟩ := (read_iff _ _).1 e
    unfold showL at hs
    rw [if_neg (by rw [h1.1]; decide), if_pos h1.1] at hs
    by_cases hn : x.n < 0
    · obtain ⟨u, hu⟩ : ∃ u : Nat, x.n = -(u : Int) := ⟨x.n.natAbs, by omega⟩
      rw [hu, Lib.itoa_neg u (by omega)] at hs
      have := (List.cons.inj hs).2
      have h2 := dec_pos u
      rw [this] at h2
      simp at h2
    · obtain ⟨u, hu⟩ : ∃ u : Nat, x.n = (u : Int) := ⟨x.n.toNat, by omega⟩
      obtain ⟨d, y, hd, hy⟩ := digits_head u
      rw [hu, Lib.itoa_nonneg u, hy] at hs
      exact ofNat_ne hd (k := 45) (by omega) (by omega) (List.cons.inj hs).1
theorem dg_not {c : UInt8} (h : dgB c = true) : ¬ c = 45 := by rintro rfl; cases h
/-- Behind -, and among digits. -/
theorem br_dash (r : List UInt8) (n : Nat) : brL ((45 :: r).take (1 + n)) = 45 :: strip (r.take n) := by
  rw [show (1 + n) = n + 1 by omega, List.take_succ_cons]
  unfold brL; simp
theorem br_digit {c : UInt8} (hc : dgB c = true) (r : List UInt8) (n : Nat) : brL ((c :: r).take (1 + n)) = strip (c :: r.take n) := by
  rw [show (1 + n) = n + 1 by omega, List.take_succ_cons]
  unfold brL
  rw [if_neg]
  simpa using dg_not hc
theorem num_dash (r : List UInt8) : numL (45 :: r) = if (readA (45 :: strip (r.take (spn dgB r)))).2 = 0 then some ((readA (45 :: strip (r.take (spn dgB r)))).1.n, 1 + spn dgB r) else none := by
  have hg : ngL (45 :: r) = 1 := rfl
  have hd : dgL (45 :: r) = spn dgB r := rfl
  have hs : stL (45 :: r) = strip (r.take (spn dgB r)) := rfl
  have hu : utL (45 :: r) = 45 :: strip (r.take (spn dgB r)) := by unfold utL; rw [if_pos hg, hs]
  unfold numL
  rw [hd, hu, hg]
  by_cases h0 : spn dgB r = 0
  · rw [if_pos h0, h0, List.take_zero]
    rw [show strip [] = [] from rfl, readA_none read_dash]
    rfl
  · rw [if_neg h0]
theorem num_digit {c : UInt8} (hc : dgB c = true) (r : List UInt8) : numL (c :: r) = if (readA (strip (c :: r.take (spn dgB r)))).2 = 0 then some ((readA (strip (c :: r.take (spn dgB r)))).1.n, 1 + spn dgB r) else none := by
  have hg : ngL (c :: r) = 0 := by unfold ngL; rw [if_neg]; simpa using dg_not hc
  have hd : dgL (c :: r) = 1 + spn dgB r := by
    unfold dgL; rw [hg, List.drop_zero]; simp only [spn]; rw [if_pos hc]; omega
  have hs : stL (c :: r) = strip (c :: r.take (spn dgB r)) := by
    unfold stL; rw [hg, hd, List.drop_zero, Nat.add_comm, List.take_succ_cons]
  have hu : utL (c :: r) = strip (c :: r.take (spn dgB r)) := by unfold utL; rw [if_neg (by rw [hg]; decide), hs]
  unfold numL
  rw [if_neg (by rw [hd]; omega), hu, hd, hg, Nat.zero_add]
theorem strip_dg : ∀ (l : List UInt8), l ≠ [] → (∀ d ∈ l, dgB d = true) → ∃ c r, strip l = c :: r ∧ dgB c = true
  | [], h, _ => absurd rfl h
  | d :: l, _, h => by
    simp only [strip]
    by_cases hz : d = 48 ∧ l ≠ []
    · rw [if_pos hz]; exact strip_dg l hz.2 (fun e he => h e (by simp [he]))
    · rw [if_neg hz]; exact ⟨d, l, rfl, h d (by simp)⟩
theorem take_dg {r : List UInt8} {c : UInt8} (h : c ∈ r.take (spn dgB r)) : dgB c = true := spn_mem h

/-- What a text says, with its quotes, is what stands there. -/
theorem qt_shown : ∀ (k : Nat) (R : List UInt8), R.length ≤ k → ∀ x, qtL R = some x → R.take x.2 = dbl x.1 ++ [39]
  | _, [], _, x, h => by simp [qtL] at h
  | 0, c :: r, hk, x, h => by simp at hk
  | k + 1, c :: r, hk, x, h => by
    simp at hk
    by_cases hc : c = 39
    · subst hc
      by_cases hr : r.head? = some 39
      · obtain ⟨d, hd⟩ : ∃ d, r = 39 :: d := by
          cases r with
          | nil => cases hr
          | cons a d => obtain rfl := Option.some.inj hr; exact ⟨d, rfl⟩
        subst hd
        rw [qt_two] at h
        cases e : qtL d with
        | none => rw [e] at h; cases h
        | some y =>
          rw [e] at h
          obtain rfl := Option.some.inj h
          have := qt_shown k d (by simp at hk; omega) y e
          simp only [List.take_succ_cons, dbl_cons, this]
          rfl
      · rw [qt_end hr] at h
        obtain rfl := Option.some.inj h
        rfl
    · rw [qt_one hc] at h
      cases e : qtL r with
      | none => rw [e] at h; cases h
      | some y =>
        rw [e] at h
        obtain rfl := Option.some.inj h
        have := qt_shown k r hk y e
        simp only [List.take_succ_cons, dbl_cons, this]
        rw [if_neg hc]; rfl
/-- A text is shown by these bytes alone. -/
theorem qt_of_shown (s : List UInt8) : qtL (dbl s ++ [39]) = some (s, (dbl s).length + 1) := by
  induction s with
  | nil => rfl
  | cons c s ih =>
    rw [dbl_cons]
    by_cases hc : c = 39
    · subst hc
      rw [if_pos rfl]
      show qtL (39 :: 39 :: (dbl s ++ [39])) = _
      rw [qt_two, ih]; simp
    · rw [if_neg hc]
      show qtL (c :: (dbl s ++ [39])) = _
      rw [qt_one hc, ih]; simp
theorem show_quote {x : Cl} {r : List UInt8} (hm : mayC x = true) (hs : showL x = 39 :: r) : x.k = 2 ∧ x.n = 0 ∧ x.s.size ≤ 32 ∧ r = dbl x.s.data.toList ++ [39] := by
  rcases may_kind hm with ⟨h, _⟩ | ⟨h, _⟩ | ⟨h, h2, h3⟩
  · unfold showL at hs; rw [if_pos h] at hs; cases hs
  · unfold showL at hs
    rw [if_neg (by rw [h]; decide), if_pos h] at hs
    exfalso
    by_cases hn : x.n < 0
    · obtain ⟨u, hu⟩ : ∃ u : Nat, x.n = -(u : Int) := ⟨x.n.natAbs, by omega⟩
      rw [hu, Lib.itoa_neg u (by omega)] at hs
      cases (List.cons.inj hs).1
    · obtain ⟨u, hu⟩ : ∃ u : Nat, x.n = (u : Int) := ⟨x.n.toNat, by omega⟩
      obtain ⟨d, y, hd, hy⟩ := digits_head u
      rw [hu, Lib.itoa_nonneg u, hy] at hs
      exact ofNat_ne hd (k := 39) (by omega) (by omega) (List.cons.inj hs).1
  · unfold showL at hs
    rw [if_neg (by rw [h]; decide), if_neg (by rw [h]; decide), if_pos h] at hs
    exact ⟨h, h2, h3, (List.cons.inj hs).2.symm⟩
/-- The text that bytes begin with, as it is read. -/
theorem txt_read (R : List UInt8) (p : Nat) : txL R p = match readC (39 :: R.take (qnL R - 1)) with
    | some x => some (⟨3, x.s.data.toList, 0, p⟩, qnL R)
    | none => none := by
  unfold txL
  cases e : qtL R with
  | none =>
    have hq : qnL R = R.length + 1 := by unfold qnL; rw [e]
    rw [hq, Nat.add_sub_cancel, List.take_length]
    cases e2 : readC (39 :: R) with
    | none => rfl
    | some x =>
      exfalso
      obtain ⟨hm, _, hs⟩ := (read_iff _ _).1 e2
      have := (show_quote hm hs).2.2.2
      rw [this, qt_of_shown] at e
      cases e
  | some y =>
    have hq : qnL R = y.2 + 1 := by unfold qnL; rw [e]
    rw [hq, Nat.add_sub_cancel, qt_shown R.length R (Nat.le_refl _) y e]
    by_cases h32 : y.1.length ≤ 32
    · have hr : readC (39 :: (dbl y.1 ++ [39])) = some (txtC (str y.1)) := (read_iff _ _).2 ⟨by unfold mayC txtC; simp [str_size, h32], ⟨by show (-9223372036854775808 : Int) ≤ 0; decide, by show (0 : Int) ≤ 9223372036854775807; decide⟩, by simp [showL, txtC, str]⟩
      rw [hr]
      simp only
      rw [if_pos h32]
      simp [txtC, str]
    · cases e2 : readC (39 :: (dbl y.1 ++ [39])) with
      | none => simp only; rw [if_neg h32]
      | some x =>
        exfalso
        obtain ⟨hm, _, hs⟩ := (read_iff _ _).1 e2
        have h := show_quote hm hs
        have h2 := qt_of_shown x.s.data.toList
        rw [← h.2.2.2, qt_of_shown] at h2
        have h3 := (Prod.mk.inj (Option.some.inj h2)).1
        apply h32
        rw [h3, ← Lib.size_eq]; exact h.2.2.1
end Go.Proofs.YtoccbfgcmaahcaaDoor
/-
  The token of a number or a text, if layer 6 reads it: the contract of package lex's value.
-/
namespace Go.Proofs.YtoccbfgcmaahcaaDoor
open Go.RowKit

def vlA (k : Int) (r : Cl × Int) (b : Nat) : Option (Tk × Nat) := if r.2 = 0 then some (⟨k, r.1.s.data.toList, r.1.n, 0⟩, b) else none
set_option maxHeartbeats 4000000 in
set_option maxRecDepth 4000 in
theorem value_any (k : Int) (s : ByteArray) (hs : s.size ≤ 100000) (b : Nat) {w : World} (hE : Env w) :
    Calls Tryd.prog 23 #[.int .i64 k, .string s, .int .i64 b] w fun e w' => e = .returned (ansT (vlA k (readA s.data.toList) b)) ∧ Below w.heap.size w w' := by
  have hrd := fun W (hW : Below w.heap.size w W) => read_any s (hE.below hW) hs
  obtain ⟨x, z, hx⟩ : ∃ x z, readA s.data.toList = (x, z) := ⟨_, _, rfl⟩
  rw [hx] at hrd
  rw [hx]
  have HRD : Hid (∀ W, Below w.heap.size w W → Calls Tryd.prog 34 #[.string s] W fun e w' => e = .returned (.tuple #[cv x, .int .i64 z]) ∧ Below W.heap.size W w') := hrd
  clear hrd hx hE
  obtain ⟨xk, xn, xs⟩ := x
  have bx0 := box_new w #[.int .i64 0, .string ⟨#[]⟩, .int .i64 0, .int .i64 0] 32
  by_cases hz : z = 0
  · subst hz
    have HE : Hid (vlA k ((⟨xk, xn, xs⟩ : Cl), 0) b = some (⟨k, xs.data.toList, xn, 0⟩, b)) := rfl
    have htone := tok_one k xn 0 xs
    go_enter Tryd.func23, Tryd.ntmps23
    go_wp2_with fail
    refine (HRD.out _ (below1 _ _)).mono ?_
    rintro e w1 ⟨rfl, hb1⟩
    have bx1 := bx0.over hb1
    have hB1 : Below w.heap.size w w1 := (below1 _ _).trans (hb1.mono (by simp))
    have HB : Hid (Below w.heap.size w (w1.alloc (.cells #[.int .i64 xk, .int .i64 xn, .string xs] 42))) := hB1.alloc hB1.size _
    have by0 := box_new w1 #[.int .i64 xk, .int .i64 xn, .string xs] 42
    have bx2 := bx1.over (below1 w1 (.cells #[.int .i64 xk, .int .i64 xn, .string xs] 42))
    have c1 := by0.cell 1 _ rfl
    have c2 := by0.cell 2 _ rfl
    clear hb1 hB1 bx1 bx0
    go_wp2_with (refine wpList_store_row rfl 32 _ _ rfl w.heap.size #[.int .i64 k, .string xs, .int .i64 xn, .int .i64 0] rfl rfl 32 _ bx2 size_tok rfl htone ?_)
    exact bodyPost_ret (res_box_slot Tryd.results23 _ rfl (bx2.setRow #[.int .i64 k, .string xs, .int .i64 xn, .int .i64 0]) Tryd.underlying32 rfl size_tok (.int .i64 b) rfl) rfl ⟨ans_txt (t := ⟨k, xs.data.toList, xn, 0⟩) HE.out rfl (str_of _), below_setRow HB.out (Nat.le_refl _) _⟩
  · have hzb : (z != 0) = true := by simpa using hz
    have HE : Hid (vlA k ((⟨xk, xn, xs⟩ : Cl), z) b = none) := by unfold Hid vlA; rw [if_neg hz]
    have htone := tok_one 0 0 0 ⟨#[]⟩
    go_enter Tryd.func23, Tryd.ntmps23
    go_wp2_with fail
    refine (HRD.out _ (below1 _ _)).mono ?_
    rintro e w1 ⟨rfl, hb1⟩
    have bx1 := bx0.over hb1
    have hB1 : Below w.heap.size w w1 := (below1 _ _).trans (hb1.mono (by simp))
    have HB : Hid (Below w.heap.size w (w1.alloc (.cells #[.int .i64 xk, .int .i64 xn, .string xs] 42))) := hB1.alloc hB1.size _
    have bx2 := bx1.over (below1 w1 (.cells #[.int .i64 xk, .int .i64 xn, .string xs] 42))
    clear hb1 hB1 bx1 bx0
    go_wp2_with (refine wpList_store_row rfl 32 _ _ rfl w.heap.size #[.int .i64 0, .string ⟨#[]⟩, .int .i64 0, .int .i64 0] rfl rfl 32 _ bx2 size_tok rfl htone ?_)
    exact bodyPost_ret (res_box_slot Tryd.results23 _ rfl (bx2.setRow #[.int .i64 0, .string ⟨#[]⟩, .int .i64 0, .int .i64 0]) Tryd.underlying32 rfl size_tok (.int .i64 0) rfl) rfl ⟨by rw [HE.out]; rfl, below_setRow HB.out (Nat.le_refl _) _⟩
end Go.Proofs.YtoccbfgcmaahcaaDoor
/-
  The token that bytes begin with: the contract of package lex's first.
-/
namespace Go.Proofs.YtoccbfgcmaahcaaDoor
open Go.RowKit

theorem isW_is (c : UInt8) : isW (kd0 c) = wdB c := by
  unfold isW wdB
  rcases kd_ways c with ((rfl | rfl | rfl | rfl) | rfl | rfl | rfl) | ((rfl | rfl | rfl | rfl | rfl | rfl) | rfl | rfl) | hn
  case inr.inr =>
    have hb : bkB c = false := by unfold bkB; simp [hn.1, hn.2.1, hn.2.2.1, hn.2.2.2.1]
    have h2 : kd0 c = if ltB c = true then 3 else if dgB c = true then 4 else 0 := by
      unfold kd0
      rw [if_neg (by rw [hb]; simp), if_neg hn.2.2.2.2.1, if_neg hn.2.2.2.2.2.1, if_neg hn.2.2.2.2.2.2.1, if_neg (by simp [hn.2.2.2.2.2.2.2]), if_neg hn.2.2.2.2.2.2.2.2.2.2.2.2.2.1, if_neg hn.2.2.2.2.2.2.2.2.2.2.2.2.2.2]
    have h95 : (c == 95) = false := by simpa using hn.2.2.2.2.1
    rw [h2, h95]
    cases e1 : ltB c with
    | true => simp
    | false => cases e2 : dgB c <;> simp
  all_goals decide
theorem isD_is (c : UInt8) : isD (kd0 c) = dgB c := by
  unfold isD
  rcases kd_ways c with ((rfl | rfl | rfl | rfl) | rfl | rfl | rfl) | ((rfl | rfl | rfl | rfl | rfl | rfl) | rfl | rfl) | hn
  case inr.inr =>
    have hb : bkB c = false := by unfold bkB; simp [hn.1, hn.2.1, hn.2.2.1, hn.2.2.2.1]
    have h2 : kd0 c = if ltB c = true then 3 else if dgB c = true then 4 else 0 := by
      unfold kd0
      rw [if_neg (by rw [hb]; simp), if_neg hn.2.2.2.2.1, if_neg hn.2.2.2.2.2.1, if_neg hn.2.2.2.2.2.2.1, if_neg (by simp [hn.2.2.2.2.2.2.2]), if_neg hn.2.2.2.2.2.2.2.2.2.2.2.2.2.1, if_neg hn.2.2.2.2.2.2.2.2.2.2.2.2.2.2]
    rw [h2]
    cases e1 : ltB c with
    | true =>
      have : dgB c = false := by
        cases e : dgB c with
        | false => rfl
        | true => rw [(dg_facts e).2] at e1; cases e1
      rw [this]; rfl
    | false => cases e2 : dgB c <;> simp
  all_goals decide
theorem kd_lt3 {c : UInt8} (h : ltB c = true) : kd0 c = 3 := by
  have hc : (97 : Int) ≤ (c.toNat : Int) ∧ (c.toNat : Int) ≤ 122 := by
    unfold ltB at h; simp at h; omega
  have hne : ∀ d : UInt8, d.toNat < 97 → ¬ c = d := by rintro d hd rfl; omega
  have hb : bkB c = false := lt_facts h
  unfold kd0
  rw [if_neg (by rw [hb]; simp), if_neg (hne 95 (by decide)), if_neg (hne 45 (by decide)), if_neg (hne 39 (by decide)), if_neg (by simp [hne 40 (by decide), hne 41 (by decide), hne 44 (by decide), hne 46 (by decide), hne 42 (by decide), hne 61 (by decide)]), if_neg (hne 62 (by decide)), if_neg (hne 60 (by decide)), if_pos h]
theorem kd_dg4 {c : UInt8} (h : dgB c = true) : kd0 c = 4 := by
  have := isD_is c
  rw [h] at this
  unfold isD at this
  simpa using this
theorem isN_nq : (fun c => isN (kd0 c)) = nq := rfl
/-- Signs: how many bytes, by what stands behind the first one. -/
theorem pre_head (r : List UInt8) (g : UInt8) : Lib.hasPrefix r [g] = (r.head? == some g) := by
  unfold Lib.hasPrefix
  cases r with
  | nil => rfl
  | cons d r =>
    simp only [List.isPrefixOf, List.head?_cons, Bool.and_true]
    rw [Bool.eq_iff_iff]
    simp only [beq_iff_eq, Option.some.injEq]
    exact ⟨fun h => h.symm, fun h => h.symm⟩
/-- What value makes of a number. -/
theorem one_number {c : UInt8} {r t : List UInt8} {n : Nat} (hc : dgB c = true ∨ c = 45) (ht : ∃ d x, t = d :: x ∧ (dgB d = true ∨ d = 45)) (hn : numL (c :: r) = if (readA t).2 = 0 then some ((readA t).1.n, n) else none) :
    oneL (c :: r) 0 = vlA 2 (readA t) n := by
  have hlt : ltB c = false := by
    rcases hc with h | rfl
    · exact (dg_facts h).2
    · rfl
  rw [one_num 0 hlt hc, hn]
  unfold vlA
  by_cases hz : (readA t).2 = 0
  · rw [if_pos hz, if_pos hz]
    obtain ⟨d, x, rfl, hd⟩ := ht
    rcases read_cases (d :: x) with ⟨y, h1, h2⟩ | ⟨h1, h2⟩
    · have h3 := read_num hd h1
      rw [h2]
      simp only [Option.map_some]
      rw [h3.2]
    · rw [h2] at hz; exact absurd hz (by decide)
  · rw [if_neg hz, if_neg hz]; rfl
end Go.Proofs.YtoccbfgcmaahcaaDoor
/-
  The token that bytes begin with: a sign, or none.
-/
namespace Go.Proofs.YtoccbfgcmaahcaaDoor
open Go.RowKit

/-- Whether = or > stands behind the first byte. -/
def sg2 (c : UInt8) (r : List UInt8) : Bool := (c == 60 && (r.head? == some 61 || r.head? == some 62)) || (c == 62 && r.head? == some 61)
theorem sgL_two {c : UInt8} {r : List UInt8} (h : sg2 c r = true) : sgL (c :: r) = 2 := by
  unfold sg2 at h
  simp only [sgL]
  rw [if_pos]
  simpa using h
theorem sgL_one {c : UInt8} {r : List UInt8} (h : sg2 c r = false) (hc : c = 40 ∨ c = 41 ∨ c = 44 ∨ c = 46 ∨ c = 42 ∨ c = 61 ∨ c = 60 ∨ c = 62) : sgL (c :: r) = 1 := by
  unfold sg2 at h
  simp only [sgL]
  rw [if_neg, if_pos hc]
  intro h2
  have : ((c == 60 && (r.head? == some 61 || r.head? == some 62)) || (c == 62 && r.head? == some 61)) = true := by simpa using h2
  rw [this] at h; cases h
theorem one_sign {c : UInt8} {r : List UInt8} {k : Nat} (hlt : ¬ ltB c = true) (hnum : ¬ (dgB c = true ∨ c = 45)) (hq : ¬ c = 39) (hk : sgL (c :: r) = k) (h1 : 1 ≤ k) : oneL (c :: r) 0 = some (⟨4, (c :: r).take k, 0, 0⟩, k) := by
  rw [one_sgn 0 (by simpa using hlt) hnum hq]
  unfold sgT
  rw [hk, if_neg (by omega)]
theorem kd_none {c : UInt8} (hlt : ¬ ltB c = true) (hnum : ¬ (dgB c = true ∨ c = 45)) (hq : ¬ c = 39) (hs : ¬ (c = 40 ∨ c = 41 ∨ c = 44 ∨ c = 46 ∨ c = 42 ∨ c = 61 ∨ c = 60 ∨ c = 62)) (r : List UInt8) : (kd0 c = 0 ∨ kd0 c = 1 ∨ kd0 c = 2) ∧ oneL (c :: r) 0 = none := by
  simp only [not_or] at hs hnum
  have hsg : sgL (c :: r) = 0 := by
    simp only [sgL]
    rw [if_neg, if_neg]
    · simp [hs]
    · simp [hs]
  refine ⟨?_, ?_⟩
  · unfold kd0
    split
    · exact .inr (.inl rfl)
    · split
      · exact .inr (.inr rfl)
      · left
        simp only [hnum.2, hs, hnum.1, if_false, or_self, Bool.false_eq_true]
  · rw [one_sgn 0 (by simpa using hlt) (by simp [hnum]) hq]
    unfold sgT
    rw [hsg, if_pos rfl]

set_option maxHeartbeats 8000000 in
set_option maxRecDepth 4000 in
theorem first_sign (s : ByteArray) (hs : s.size ≤ 100000) {c : UInt8} {r : List UInt8} (hcr : s.data.toList = c :: r) (hlt : ¬ ltB c = true) (hnum : ¬ (dgB c = true ∨ c = 45)) (hq : ¬ c = 39) (w : World) :
    Calls Tryd.prog 15 #[.string s] w fun e w' => e = .returned (ansT (oneL (c :: r) 0)) ∧ Below w.heap.size w w' := by
  have hsz : s.size = r.length + 1 := by rw [Lib.size_eq, hcr]; rfl
  have h0 : 0 < s.size := by omega
  have hc0 : s[0]'h0 = c := by
    have := at_get s 0 h0
    rw [hcr] at this
    exact (Option.some.inj this).symm
  have hkd := fun W => kindOf_any (s[0]'h0) W
  rw [hc0] at hkd
  have hu : (c.toNat : Int) = ((s[0]'h0).toNat : Int) := by rw [hc0]
  rw [hu] at hkd
  have bx0 := box_new w #[.int .i64 0, .string ⟨#[]⟩, .int .i64 0, .int .i64 0] 32
  have hx1 : (s.extract 1 s.size).data.toList = r := by
    rw [ext_list, hcr, List.drop_succ_cons, List.drop_zero, List.take_of_length_le (by omega)]
  have hp1 := fun W => hasPrefix_any (s.extract 1 s.size) ⟨#[62]⟩ W
  have hp2 := fun W => hasPrefix_any (s.extract 1 s.size) ⟨#[61]⟩ W
  rw [hx1, show (⟨#[62]⟩ : ByteArray).data.toList = [62] from rfl, pre_head] at hp1
  rw [hx1, show (⟨#[61]⟩ : ByteArray).data.toList = [61] from rfl, pre_head] at hp2
  obtain ⟨x, hx⟩ : ∃ x, (r.head? == some 62) = x := ⟨_, rfl⟩
  obtain ⟨y, hy⟩ : ∃ y, (r.head? == some 61) = y := ⟨_, rfl⟩
  rw [hx] at hp1
  rw [hy] at hp2
  by_cases hsg : c = 40 ∨ c = 41 ∨ c = 44 ∨ c = 46 ∨ c = 42 ∨ c = 61 ∨ c = 60 ∨ c = 62
  · -- how many bytes it has, and by which way it is told
    have hways : (kd0 c = 9 ∧ ((x = false ∧ y = false) ∨ (x = true ∧ y = false) ∨ y = true)) ∨ (kd0 c = 8 ∧ (y = false ∨ y = true)) ∨ kd0 c = 7 := by
      rcases hsg with rfl | rfl | rfl | rfl | rfl | rfl | rfl | rfl
      · exact .inr (.inr rfl)
      · exact .inr (.inr rfl)
      · exact .inr (.inr rfl)
      · exact .inr (.inr rfl)
      · exact .inr (.inr rfl)
      · exact .inr (.inr rfl)
      · refine .inl ⟨rfl, ?_⟩
        cases x <;> cases y <;> simp
      · refine .inr (.inl ⟨rfl, ?_⟩)
        cases y <;> simp
    have hk9 : kd0 c = 9 → c = 60 := by rcases hsg with rfl | rfl | rfl | rfl | rfl | rfl | rfl | rfl <;> decide
    have hk8 : kd0 c = 8 → c = 62 := by rcases hsg with rfl | rfl | rfl | rfl | rfl | rfl | rfl | rfl <;> decide
    have hk7 : kd0 c = 7 → sg2 c r = false := by
      intro h
      unfold sg2
      rcases hsg with rfl | rfl | rfl | rfl | rfl | rfl | rfl | rfl
      · rfl
      · rfl
      · rfl
      · rfl
      · rfl
      · rfl
      · exact absurd h (by decide)
      · exact absurd h (by decide)
    have hone : ∀ k : Nat, sgL (c :: r) = k → 1 ≤ k → oneL (c :: r) 0 = some (⟨4, (s.extract 0 k).data.toList, 0, 0⟩, k) ∧ k ≤ s.size := fun k h1 h2 => by
      have h3 := sgL_le (c :: r)
      refine ⟨?_, by rw [h1] at h3; simp only [List.length_cons] at h3; omega⟩
      rw [one_sign hlt hnum hq h1 h2, ext_list, hcr, Nat.sub_zero, List.drop_zero]
    have hs2 : sg2 c r = ((c == 60 && (y || x)) || (c == 62 && y)) := by unfold sg2; rw [hx, hy]
    obtain ⟨k, hk, hk1⟩ : ∃ k : Nat, sgL (c :: r) = k ∧ ((k = 2 ∧ sg2 c r = true) ∨ (k = 1 ∧ sg2 c r = false)) := by
      cases e : sg2 c r with
      | true => exact ⟨2, sgL_two e, .inl ⟨rfl, rfl⟩⟩
      | false => exact ⟨1, sgL_one e hsg, .inr ⟨rfl, rfl⟩⟩
    obtain ⟨h1, hkl⟩ := hone k hk (by omega)
    have HE : Hid (oneL (c :: r) 0 = some (⟨4, (s.extract 0 k).data.toList, 0, 0⟩, k)) := h1
    have htone := tok_one 4 0 0 (s.extract 0 k)
    have hways2 : (kd0 c = 9 ∧ ((k = 1 ∧ x = false ∧ y = false) ∨ (k = 2 ∧ x = true ∧ y = false) ∨ (k = 2 ∧ y = true))) ∨ (kd0 c = 8 ∧ ((k = 1 ∧ y = false) ∨ (k = 2 ∧ y = true))) ∨ (kd0 c = 7 ∧ k = 1) := by
      rcases hways with ⟨h, h2⟩ | ⟨h, h2⟩ | h
      · refine .inl ⟨h, ?_⟩
        rw [hk9 h] at hs2 hk1
        rw [hs2] at hk1
        rcases h2 with ⟨rfl, rfl⟩ | ⟨rfl, rfl⟩ | rfl
        · simp at hk1; exact .inl ⟨hk1, rfl, rfl⟩
        · simp at hk1; exact .inr (.inl ⟨hk1, rfl, rfl⟩)
        · simp at hk1; exact .inr (.inr ⟨hk1, rfl⟩)
      · refine .inr (.inl ⟨h, ?_⟩)
        rw [hk8 h] at hs2 hk1
        rw [hs2] at hk1
        rcases h2 with rfl | rfl
        · simp at hk1; exact .inl ⟨hk1, rfl⟩
        · simp at hk1; exact .inr ⟨hk1, rfl⟩
      · refine .inr (.inr ⟨h, ?_⟩)
        rw [hk7 h] at hk1
        simp at hk1; exact hk1
    have hk0 : 1 ≤ k := by omega
    clear hsz hc0 hu hx1 hx hy hways hk9 hk8 hk7 hone hs2 hk hk1 h1 hcr hlt hnum hq hsg hs hk0
    rcases hways2 with ⟨h, ⟨rfl, rfl, rfl⟩ | ⟨rfl, rfl, rfl⟩ | ⟨rfl, rfl⟩⟩ | ⟨h, ⟨rfl, rfl⟩ | ⟨rfl, rfl⟩⟩ | ⟨h, rfl⟩
    · rw [h] at hkd
      clear h
      go_enter Tryd.func15, Tryd.ntmps15
      go_wp2_with fail
      refine (hkd _).mono ?_
      rintro e w1 ⟨rfl, hw⟩
      replace hw := hw.symm
      subst hw
      go_wp2_with fail
      refine (hp1 _).mono ?_
      rintro e w1 ⟨rfl, hw⟩
      replace hw := hw.symm
      subst hw
      go_wp2_with fail
      refine (hp2 _).mono ?_
      rintro e w1 ⟨rfl, hw⟩
      replace hw := hw.symm
      subst hw
      go_wp2_with (refine wpList_store_row rfl 32 _ _ rfl w.heap.size #[.int .i64 4, .string (s.extract 0 1), .int .i64 0, .int .i64 0] rfl rfl 32 _ bx0 size_tok rfl htone ?_)
      exact bodyPost_ret (res_box_slot Tryd.results15 _ rfl (bx0.setRow #[.int .i64 4, .string (s.extract 0 1), .int .i64 0, .int .i64 0]) Tryd.underlying32 rfl size_tok (.int .i64 1) rfl) rfl ⟨ans_txt (t := ⟨4, (s.extract 0 1).data.toList, 0, 0⟩) HE.out rfl (str_of _), below_setRow (below1 _ _) (Nat.le_refl _) _⟩
    · rw [h] at hkd
      clear h
      go_enter Tryd.func15, Tryd.ntmps15
      go_wp2_with fail
      refine (hkd _).mono ?_
      rintro e w1 ⟨rfl, hw⟩
      replace hw := hw.symm
      subst hw
      go_wp2_with fail
      refine (hp1 _).mono ?_
      rintro e w1 ⟨rfl, hw⟩
      replace hw := hw.symm
      subst hw
      go_wp2_with fail
      refine (hp2 _).mono ?_
      rintro e w1 ⟨rfl, hw⟩
      replace hw := hw.symm
      subst hw
      go_wp2_with (refine wpList_store_row rfl 32 _ _ rfl w.heap.size #[.int .i64 4, .string (s.extract 0 2), .int .i64 0, .int .i64 0] rfl rfl 32 _ bx0 size_tok rfl htone ?_)
      exact bodyPost_ret (res_box_slot Tryd.results15 _ rfl (bx0.setRow #[.int .i64 4, .string (s.extract 0 2), .int .i64 0, .int .i64 0]) Tryd.underlying32 rfl size_tok (.int .i64 2) rfl) rfl ⟨ans_txt (t := ⟨4, (s.extract 0 2).data.toList, 0, 0⟩) HE.out rfl (str_of _), below_setRow (below1 _ _) (Nat.le_refl _) _⟩
    · rw [h] at hkd
      clear h
      cases x
      all_goals
        go_enter Tryd.func15, Tryd.ntmps15
        go_wp2_with fail
        refine (hkd _).mono ?_
        rintro e w1 ⟨rfl, hw⟩
        replace hw := hw.symm
        subst hw
        go_wp2_with fail
        refine (hp1 _).mono ?_
        rintro e w1 ⟨rfl, hw⟩
        replace hw := hw.symm
        subst hw
        go_wp2_with fail
        refine (hp2 _).mono ?_
        rintro e w1 ⟨rfl, hw⟩
        replace hw := hw.symm
        subst hw
        go_wp2_with (refine wpList_store_row rfl 32 _ _ rfl w.heap.size #[.int .i64 4, .string (s.extract 0 2), .int .i64 0, .int .i64 0] rfl rfl 32 _ bx0 size_tok rfl htone ?_)
        exact bodyPost_ret (res_box_slot Tryd.results15 _ rfl (bx0.setRow #[.int .i64 4, .string (s.extract 0 2), .int .i64 0, .int .i64 0]) Tryd.underlying32 rfl size_tok (.int .i64 2) rfl) rfl ⟨ans_txt (t := ⟨4, (s.extract 0 2).data.toList, 0, 0⟩) HE.out rfl (str_of _), below_setRow (below1 _ _) (Nat.le_refl _) _⟩
    · rw [h] at hkd
      clear h
      go_enter Tryd.func15, Tryd.ntmps15
      go_wp2_with fail
      refine (hkd _).mono ?_
      rintro e w1 ⟨rfl, hw⟩
      replace hw := hw.symm
      subst hw
      go_wp2_with fail
      refine (hp2 _).mono ?_
      rintro e w1 ⟨rfl, hw⟩
      replace hw := hw.symm
      subst hw
      go_wp2_with (refine wpList_store_row rfl 32 _ _ rfl w.heap.size #[.int .i64 4, .string (s.extract 0 1), .int .i64 0, .int .i64 0] rfl rfl 32 _ bx0 size_tok rfl htone ?_)
      exact bodyPost_ret (res_box_slot Tryd.results15 _ rfl (bx0.setRow #[.int .i64 4, .string (s.extract 0 1), .int .i64 0, .int .i64 0]) Tryd.underlying32 rfl size_tok (.int .i64 1) rfl) rfl ⟨ans_txt (t := ⟨4, (s.extract 0 1).data.toList, 0, 0⟩) HE.out rfl (str_of _), below_setRow (below1 _ _) (Nat.le_refl _) _⟩
    · rw [h] at hkd
      clear h
      go_enter Tryd.func15, Tryd.ntmps15
      go_wp2_with fail
      refine (hkd _).mono ?_
      rintro e w1 ⟨rfl, hw⟩
      replace hw := hw.symm
      subst hw
      go_wp2_with fail
      refine (hp2 _).mono ?_
      rintro e w1 ⟨rfl, hw⟩
      replace hw := hw.symm
      subst hw
      go_wp2_with (refine wpList_store_row rfl 32 _ _ rfl w.heap.size #[.int .i64 4, .string (s.extract 0 2), .int .i64 0, .int .i64 0] rfl rfl 32 _ bx0 size_tok rfl htone ?_)
      exact bodyPost_ret (res_box_slot Tryd.results15 _ rfl (bx0.setRow #[.int .i64 4, .string (s.extract 0 2), .int .i64 0, .int .i64 0]) Tryd.underlying32 rfl size_tok (.int .i64 2) rfl) rfl ⟨ans_txt (t := ⟨4, (s.extract 0 2).data.toList, 0, 0⟩) HE.out rfl (str_of _), below_setRow (below1 _ _) (Nat.le_refl _) _⟩
    · rw [h] at hkd
      clear h
      go_enter Tryd.func15, Tryd.ntmps15
      go_wp2_with fail
      refine (hkd _).mono ?_
      rintro e w1 ⟨rfl, hw⟩
      replace hw := hw.symm
      subst hw
      go_wp2_with (refine wpList_store_row rfl 32 _ _ rfl w.heap.size #[.int .i64 4, .string (s.extract 0 1), .int .i64 0, .int .i64 0] rfl rfl 32 _ bx0 size_tok rfl htone ?_)
      exact bodyPost_ret (res_box_slot Tryd.results15 _ rfl (bx0.setRow #[.int .i64 4, .string (s.extract 0 1), .int .i64 0, .int .i64 0]) Tryd.underlying32 rfl size_tok (.int .i64 1) rfl) rfl ⟨ans_txt (t := ⟨4, (s.extract 0 1).data.toList, 0, 0⟩) HE.out rfl (str_of _), below_setRow (below1 _ _) (Nat.le_refl _) _⟩
  · obtain ⟨hk, ho⟩ := kd_none hlt hnum hq hsg r
    have HE : Hid (oneL (c :: r) 0 = none) := ho
    have htone := tok_one 0 0 0 ⟨#[]⟩
    clear hsz hc0 hu hx1 hx hy hp1 hp2 hcr hlt hnum hq hsg ho hs
    rcases hk with hk | hk | hk
    all_goals
      rw [hk] at hkd
      clear hk
      go_enter Tryd.func15, Tryd.ntmps15
      go_wp2_with (first
        | (go_at_call 14; refine (hkd _).mono ?_; rintro e w1 ⟨rfl, hw⟩; replace hw := hw.symm; subst hw)
        | (refine wpList_store_row rfl 32 _ _ rfl w.heap.size #[.int .i64 0, .string ⟨#[]⟩, .int .i64 0, .int .i64 0] rfl rfl 32 _ bx0 size_tok rfl htone ?_))
      exact bodyPost_ret (res_box_slot Tryd.results15 _ rfl (bx0.setRow #[.int .i64 0, .string ⟨#[]⟩, .int .i64 0, .int .i64 0]) Tryd.underlying32 rfl size_tok (.int .i64 0) rfl) rfl ⟨by rw [HE.out]; rfl, below_setRow (below1 _ _) (Nat.le_refl _) _⟩
end Go.Proofs.YtoccbfgcmaahcaaDoor
/-
  The token that bytes begin with: a word.
-/
namespace Go.Proofs.YtoccbfgcmaahcaaDoor
open Go.RowKit

set_option maxHeartbeats 8000000 in
set_option maxRecDepth 4000 in
theorem first_word (s : ByteArray) (hs : s.size ≤ 100000) {c : UInt8} {r : List UInt8} (hcr : s.data.toList = c :: r) (hlt : ltB c = true) (w : World) :
    Calls Tryd.prog 15 #[.string s] w fun e w' => e = .returned (ansT (oneL (c :: r) 0)) ∧ Below w.heap.size w w' := by
  have hsz : s.size = r.length + 1 := by rw [Lib.size_eq, hcr]; rfl
  have h0 : 0 < s.size := by omega
  have hc0 : s[0]'h0 = c := by
    have := at_get s 0 h0
    rw [hcr] at this
    exact (Option.some.inj this).symm
  have hkd := fun W => kindOf_any (s[0]'h0) W
  rw [hc0] at hkd
  have hu : (c.toNat : Int) = ((s[0]'h0).toNat : Int) := by rw [hc0]
  rw [hu] at hkd
  have bx0 := box_new w #[.int .i64 0, .string ⟨#[]⟩, .int .i64 0, .int .i64 0] 32
  have hx1 : (s.extract 1 s.size).data.toList = r := by
    rw [ext_list, hcr, List.drop_succ_cons, List.drop_zero, List.take_of_length_le (by omega)]
  have hx1s : (s.extract 1 s.size).size ≤ 100000 := by have := ext_size (s := s) (p := 1) (q := s.size); omega
  have eW := enters_of Tryd.func21 (by kernel_rfl) rfl
  rw [kd_lt3 hlt] at hkd
  have hrun := fun W => run_any s hs 21 isW eW clW_any W
  rw [show (fun c => isW (kd0 c)) = wdB from funext isW_is, hcr] at hrun
  obtain ⟨n, hn⟩ : ∃ n, n = spn wdB (c :: r) := ⟨_, rfl⟩
  rw [← hn] at hrun
  have hnl : n ≤ s.size := by have := spn_le wdB (c :: r); simp only [List.length_cons] at this; omega
  have HE : Hid (oneL (c :: r) 0 = some (⟨1, (s.extract 0 n).data.toList, 0, 0⟩, n)) := by
    unfold Hid
    rw [one_word 0 hlt, ← hn, ext_list, hcr, Nat.sub_zero, List.drop_zero]
  have htone := tok_one 1 0 0 (s.extract 0 n)
  clear hn hcr hc0 hu hx1 hx1s hsz
  go_enter Tryd.func15, Tryd.ntmps15
  go_wp2_with (first
    | (go_at_call 14; refine (hkd _).mono ?_; rintro e w1 ⟨rfl, hw⟩; replace hw := hw.symm; subst hw)
    | (go_at_call 20; refine (hrun _).mono ?_; rintro e w1 ⟨rfl, hw⟩; replace hw := hw.symm; subst hw)
    | (refine wpList_store_row rfl 32 _ _ rfl w.heap.size #[.int .i64 1, .string (s.extract 0 n), .int .i64 0, .int .i64 0] rfl rfl 32 _ bx0 size_tok rfl htone ?_))
  exact bodyPost_ret (res_box_slot Tryd.results15 _ rfl (bx0.setRow #[.int .i64 1, .string (s.extract 0 n), .int .i64 0, .int .i64 0]) Tryd.underlying32 rfl size_tok (.int .i64 n) rfl) rfl ⟨ans_txt (t := ⟨1, (s.extract 0 n).data.toList, 0, 0⟩) HE.out rfl (str_of _), below_setRow (below1 _ _) (Nat.le_refl _) _⟩
end Go.Proofs.YtoccbfgcmaahcaaDoor
/-
  The token that bytes begin with: a number.
-/
namespace Go.Proofs.YtoccbfgcmaahcaaDoor
open Go.RowKit

set_option maxHeartbeats 8000000 in
set_option maxRecDepth 4000 in
theorem first_num (s : ByteArray) (hs : s.size ≤ 100000) {c : UInt8} {r : List UInt8} (hcr : s.data.toList = c :: r) (hlt : ¬ ltB c = true) (hnum : dgB c = true ∨ c = 45) {w : World} (hE : Env w) :
    Calls Tryd.prog 15 #[.string s] w fun e w' => e = .returned (ansT (oneL (c :: r) 0)) ∧ Below w.heap.size w w' := by
  have hsz : s.size = r.length + 1 := by rw [Lib.size_eq, hcr]; rfl
  have h0 : 0 < s.size := by omega
  have hc0 : s[0]'h0 = c := by
    have := at_get s 0 h0
    rw [hcr] at this
    exact (Option.some.inj this).symm
  have hkd := fun W => kindOf_any (s[0]'h0) W
  rw [hc0] at hkd
  have hu : (c.toNat : Int) = ((s[0]'h0).toNat : Int) := by rw [hc0]
  rw [hu] at hkd
  have bx0 := box_new w #[.int .i64 0, .string ⟨#[]⟩, .int .i64 0, .int .i64 0] 32
  have hx1 : (s.extract 1 s.size).data.toList = r := by
    rw [ext_list, hcr, List.drop_succ_cons, List.drop_zero, List.take_of_length_le (by omega)]
  have hx1s : (s.extract 1 s.size).size ≤ 100000 := by have := ext_size (s := s) (p := 1) (q := s.size); omega
  have eW := enters_of Tryd.func21 (by kernel_rfl) rfl
  have eD := enters_of Tryd.func22 (by kernel_rfl) rfl
  have hkc : kd0 c = 4 ∨ kd0 c = 5 := by
    rcases hnum with h | rfl
    · exact .inl (kd_dg4 h)
    · exact .inr rfl
  have hrun := fun W => run_any (s.extract 1 s.size) hx1s 22 isD eD clD_any W
  rw [show (fun c => isD (kd0 c)) = dgB from funext isD_is, hx1] at hrun
  obtain ⟨n, hn⟩ : ∃ n, n = spn dgB r := ⟨_, rfl⟩
  rw [← hn] at hrun
  have hnl : 1 + n ≤ s.size := by have := spn_le dgB r; omega
  have hbs : (s.extract 0 (1 + n)).size ≤ 100000 := by have := ext_size (s := s) (p := 0) (q := 1 + n); omega
  have hba := fun W => bare_any (s.extract 0 (1 + n)) hbs W
  have hext : (s.extract 0 (1 + n)).data.toList = (c :: r).take (1 + n) := by rw [ext_list, hcr, Nat.sub_zero, List.drop_zero]
  rw [hext] at hba
  obtain ⟨t, ht, htd, hnm⟩ : ∃ t, t = brL ((c :: r).take (1 + n)) ∧ (∃ d x, t = d :: x ∧ (dgB d = true ∨ d = 45)) ∧ numL (c :: r) = if (readA t).2 = 0 then some ((readA t).1.n, 1 + n) else none := by
    rcases hnum with h | rfl
    · refine ⟨_, rfl, ?_, ?_⟩
      · rw [br_digit h]
        obtain ⟨d, x, h1, h2⟩ := strip_dg (c :: r.take n) (by simp) (fun d hd => by
          rcases List.mem_cons.1 hd with rfl | hd
          · exact h
          · rw [hn] at hd; exact take_dg hd)
        exact ⟨d, x, h1, .inl h2⟩
      · rw [num_digit h, ← hn, br_digit h]
    · refine ⟨_, rfl, ⟨45, _, br_dash r n, .inr rfl⟩, ?_⟩
      rw [num_dash, ← hn, br_dash]
  rw [← ht] at hba
  have hts : (str t).size ≤ 100000 := by
    rw [str_size, ht]
    have h1 : ((c :: r).take (1 + n)).length ≤ s.size := by rw [List.length_take]; simp only [List.length_cons]; omega
    obtain ⟨l, hl⟩ : ∃ l, l = (c :: r).take (1 + n) := ⟨_, rfl⟩
    rw [← hl] at h1 ⊢
    unfold brL
    split
    · rename_i hh
      have h2 := strip_len (l.drop 1)
      have h3 : l ≠ [] := by rintro rfl; cases hh
      have h4 := List.length_pos_iff.2 h3
      rw [List.length_drop] at h2
      simp only [List.length_cons]
      omega
    · have h2 := strip_len l; omega
  have hva := fun W (hW : Below w.heap.size w W) => value_any 2 (str t) hts (1 + n) (hE.below hW)
  have hone := one_number hnum htd hnm
  rw [show (str t).data.toList = t from rfl, ← hone] at hva
  rw [show (((1 + n : Nat)) : Int) = 1 + (n : Int) by omega] at hva
  obtain ⟨x, hx⟩ : ∃ x, x = oneL (c :: r) 0 := ⟨_, rfl⟩
  rw [← hx] at hva ⊢
  obtain ⟨ck, cb, cn, cp, cm, hsh⟩ := ans_shape x
  rw [hsh] at hva ⊢
  obtain ⟨T, hT⟩ : ∃ T, T = str t := ⟨_, rfl⟩
  rw [← hT] at hba hva
  have HVA : Hid (∀ W, Below w.heap.size w W → Calls Tryd.prog 23 #[.int .i64 2, .string T, .int .i64 (1 + (n : Int))] W fun e w' => e = .returned (.tuple #[.agg #[.int .i64 ck, .string cb, .int .i64 cn, .int .i64 cp], .int .i64 cm]) ∧ Below W.heap.size W w') := hva
  have htone := tok_one ck cn cp cb
  have hr1 : IntKind.i64.wrap (1 + (n : Int)) = 1 + (n : Int) := by rw [IntKind.wrap_i64]; omega
  clear hn hcr hsz hc0 hu hx1 hx1s hext ht htd hnm hts hva hone hx hsh hT hbs hlt hnum
  rcases hkc with hk | hk
  all_goals
    rw [hk] at hkd
    clear hk
    go_enter Tryd.func15, Tryd.ntmps15
    go_wp2_with (first
      | (go_at_call 14; refine (hkd _).mono ?_; rintro e w1 ⟨rfl, hw⟩; replace hw := hw.symm; subst hw)
      | (go_at_call 20; refine (hrun _).mono ?_; rintro e w1 ⟨rfl, hw⟩; replace hw := hw.symm; subst hw)
      | (go_at_call 24; refine (hba _).mono ?_; rintro e w1 ⟨rfl, hw⟩; replace hw := hw.symm; subst hw)
      | (go_at_call 23; refine (HVA.out _ (below1 _ _)).mono ?_; rintro e w1 ⟨rfl, hb1⟩; have bx1 := bx0.over hb1)
      | (refine wpList_store_row rfl 32 _ _ rfl w.heap.size #[.int .i64 ck, .string cb, .int .i64 cn, .int .i64 cp] rfl rfl 32 _ bx1 size_tok rfl htone ?_))
    exact bodyPost_ret (res_box_slot Tryd.results15 _ rfl (bx1.setRow #[.int .i64 ck, .string cb, .int .i64 cn, .int .i64 cp]) Tryd.underlying32 rfl size_tok (.int .i64 cm) rfl) rfl ⟨rfl, below_setRow ((below1 _ _).trans (hb1.mono (by simp))) (Nat.le_refl _) _⟩
end Go.Proofs.YtoccbfgcmaahcaaDoor
/-
  The token that bytes begin with: a text.
-/
namespace Go.Proofs.YtoccbfgcmaahcaaDoor
open Go.RowKit

set_option maxHeartbeats 8000000 in
set_option maxRecDepth 4000 in
theorem first_txt (s : ByteArray) (hs : s.size ≤ 100000) {r : List UInt8} (hcr : s.data.toList = 39 :: r) {w : World} (hE : Env w) :
    Calls Tryd.prog 15 #[.string s] w fun e w' => e = .returned (ansT (oneL (39 :: r) 0)) ∧ Below w.heap.size w w' := by
  have hsz : s.size = r.length + 1 := by rw [Lib.size_eq, hcr]; rfl
  have h0 : 0 < s.size := by omega
  have hc0 : s[0]'h0 = 39 := by
    have := at_get s 0 h0
    rw [hcr] at this
    exact (Option.some.inj this).symm
  have hkd := fun W => kindOf_any (s[0]'h0) W
  rw [hc0] at hkd
  have hu : ((39 : UInt8).toNat : Int) = ((s[0]'h0).toNat : Int) := by rw [hc0]
  rw [hu] at hkd
  have bx0 := box_new w #[.int .i64 0, .string ⟨#[]⟩, .int .i64 0, .int .i64 0] 32
  have hx1 : (s.extract 1 s.size).data.toList = r := by
    rw [ext_list, hcr, List.drop_succ_cons, List.drop_zero, List.take_of_length_le (by omega)]
  have hx1s : (s.extract 1 s.size).size ≤ 100000 := by have := ext_size (s := s) (p := 1) (q := s.size); omega
  rw [show kd0 39 = 6 by rfl] at hkd
  have hqu := fun W => quoted_any s hs hcr W
  obtain ⟨m, hm⟩ : ∃ m, m = qnL r := ⟨_, rfl⟩
  rw [← hm] at hqu
  have hml : m ≤ s.size := by
    rw [hm]; unfold qnL
    cases e : qtL r with
    | none => simp only; omega
    | some y => have := qtL_len r.length r (Nat.le_refl _) y e; simp only; omega
  have hm1 : 1 ≤ m := by rw [hm]; unfold qnL; cases qtL r <;> simp
  have hbs : (s.extract 0 m).size ≤ 100000 := by have := ext_size (s := s) (p := 0) (q := m); omega
  have hext : (s.extract 0 m).data.toList = 39 :: r.take (m - 1) := by
    rw [ext_list, hcr, Nat.sub_zero, List.drop_zero]
    obtain ⟨j, rfl⟩ : ∃ j, m = j + 1 := ⟨m - 1, by omega⟩
    simp
  have hva := fun W (hW : Below w.heap.size w W) => value_any 3 (s.extract 0 m) hbs m (hE.below hW)
  have hone : oneL (39 :: r) 0 = vlA 3 (readA (39 :: r.take (m - 1))) m := by
    rw [one_txt 0 rfl (by decide) rfl, txt_read, ← hm]
    unfold vlA
    rcases read_cases (39 :: r.take (m - 1)) with ⟨y, h1, h2⟩ | ⟨h1, h2⟩
    · rw [h1, h2]
      obtain ⟨g1, _, g2⟩ := (read_iff _ _).1 h1
      have g3 := show_quote g1 g2
      simp only [if_true]
      rw [g3.2.1]
    · rw [h1, h2]; rfl
  rw [hext, ← hone] at hva
  obtain ⟨x, hx⟩ : ∃ x, x = oneL (39 :: r) 0 := ⟨_, rfl⟩
  rw [← hx] at hva ⊢
  obtain ⟨ck, cb, cn, cp, cm, hsh⟩ := ans_shape x
  rw [hsh] at hva ⊢
  have HVA : Hid (∀ W, Below w.heap.size w W → Calls Tryd.prog 23 #[.int .i64 3, .string (s.extract 0 m), .int .i64 (m : Int)] W fun e w' => e = .returned (.tuple #[.agg #[.int .i64 ck, .string cb, .int .i64 cn, .int .i64 cp], .int .i64 cm]) ∧ Below W.heap.size W w') := hva
  have htone := tok_one ck cn cp cb
  clear hm hcr hc0 hu hx1 hx1s hext hva hone hx hsh hbs
  go_enter Tryd.func15, Tryd.ntmps15
  go_wp2_with (first
    | (go_at_call 14; refine (hkd _).mono ?_; rintro e w1 ⟨rfl, hw⟩; replace hw := hw.symm; subst hw)
    | (go_at_call 25; refine (hqu _).mono ?_; rintro e w1 ⟨rfl, hw⟩; replace hw := hw.symm; subst hw)
    | (go_at_call 23; refine (HVA.out _ (below1 _ _)).mono ?_; rintro e w1 ⟨rfl, hb1⟩; have bx1 := bx0.over hb1)
    | (refine wpList_store_row rfl 32 _ _ rfl w.heap.size #[.int .i64 ck, .string cb, .int .i64 cn, .int .i64 cp] rfl rfl 32 _ bx1 size_tok rfl htone ?_))
  exact bodyPost_ret (res_box_slot Tryd.results15 _ rfl (bx1.setRow #[.int .i64 ck, .string cb, .int .i64 cn, .int .i64 cp]) Tryd.underlying32 rfl size_tok (.int .i64 cm) rfl) rfl ⟨rfl, below_setRow ((below1 _ _).trans (hb1.mono (by simp))) (Nat.le_refl _) _⟩
end Go.Proofs.YtoccbfgcmaahcaaDoor
/-
  The contract of package lex's Tokens.
-/
namespace Go.Proofs.YtoccbfgcmaahcaaDoor
open Go.RowKit

theorem first_any (s : ByteArray) (hs : s.size ≤ 100000) {c : UInt8} {r : List UInt8} (hcr : s.data.toList = c :: r) {w : World} (hE : Env w) :
    Calls Tryd.prog 15 #[.string s] w fun e w' => e = .returned (ansT (oneL (c :: r) 0)) ∧ Below w.heap.size w w' := by
  by_cases hlt : ltB c = true
  · exact first_word s hs hcr hlt w
  · by_cases hnum : dgB c = true ∨ c = 45
    · exact first_num s hs hcr hlt hnum hE
    · by_cases hq : c = 39
      · subst hq; exact first_txt s hs hcr hE
      · exact first_sign s hs hcr hlt hnum hq w
theorem clone0_any (s : ByteArray) (hs : s.size ≤ 100000) (w : World) :
    Calls Tryd.prog 19 #[.string s] w fun e w' => e = .returned (.string s) ∧ Below w.heap.size w w' := Any.stringslite_Clone Tryd.laysM316 s w (by omega)
set_option maxHeartbeats 4000000 in
set_option maxRecDepth 4000 in
theorem cloneS_any (s : ByteArray) (hs : s.size ≤ 100000) (w : World) :
    Calls Tryd.prog 13 #[.string s] w fun e w' => e = .returned (.string s) ∧ Below w.heap.size w w' := by
  have h := clone0_any s hs w
  go_enter Tryd.func13, Tryd.ntmps13
  go_wp2_with fail
  refine h.mono ?_
  rintro e w1 ⟨rfl, hb⟩
  go_wp2_with fail
  go_ret
  exact ⟨rfl, hb⟩
theorem kd_blank {c : UInt8} (h : bkB c = false) : ¬ kd0 c = 1 := by
  unfold kd0
  rw [if_neg (by rw [h]; simp)]
  repeat' split
  all_goals decide
theorem below_setC {B : Nat} {a w : World} {b k : Nat} (h : Below B a w) (hb : B ≤ b) (v : Value) : Below B a (w.setCell ⟨b, k, none⟩ v) :=
  h.trans ⟨rfl, rfl, rfl, by simp, fun j hj => heap_setCell_other w ⟨b, k, none⟩ j v (by show j ≠ b; omega)⟩
/-- A token at another place. -/
def atP (p : Nat) (x : Tk × Nat) : Tk × Nat := (⟨x.1.k, x.1.s, x.1.n, p⟩, x.2)
theorem oneL_at (l : List UInt8) (p : Nat) : oneL l p = (oneL l 0).map (atP p) := by
  cases l with
  | nil => rfl
  | cons c r =>
    simp only [oneL]
    split
    · rfl
    · split
      · cases numL (c :: r) <;> rfl
      · split
        · cases qtL r with
          | none => rfl
          | some x => simp only; split <;> rfl
        · split <;> rfl

set_option maxHeartbeats 8000000 in
set_option maxRecDepth 4000 in
theorem lexTokens_any : LexT := by
  intro s w hs hE
  have hsl := Lib.size_eq s
  by_cases hl : 1024 < s.size
  · have hlI : (1024 : Int) < (s.size : Int) := by omega
    have HE : Hid (tokensA s.data.toList = ([], 0, 4)) := tokens_long (by omega)
    clear hsl hE
    go_enter Tryd.func7, Tryd.ntmps7
    go_wp2_with fail
    go_ret3
    exact ⟨⟨_, by rw [HE.out]; rfl, by rw [HE.out]; exact ownT_nil _ _⟩, Below.refl _ _⟩
  · have hlI : ¬ (1024 : Int) < (s.size : Int) := by omega
    have hl2 : s.size ≤ 1024 := by omega
    have HS : Hid (s.size = s.data.toList.length) := hsl
    have HEN : Hid (Env w) := hE
    have hcl := cloneS_any s hs w
    clear hsl hl hE
    go_enter Tryd.func7, Tryd.ntmps7
    go_wp2_with (go_at_call 13; refine hcl.mono ?_; rintro e w0 ⟨rfl, hb0⟩)
    have HB0 : Hid (Below w.heap.size w w0) := hb0
    clear hb0 hcl
    go_loopg [5, 6] s.size (fun gg s5 s6 wx => ∃ (p : Nat) (done : List Tk), p + gg = s.size ∧ s6 = .int .i64 p ∧ Hid (OwnT wx w.heap.size s5 done) ∧ Hid (TkTo s.data.toList done p) ∧ done.length ≤ p ∧ Hid (Below w.heap.size w wx))
    case atStart => exact ⟨0, [], by omega, rfl, ownT_nil _ _, tkTo_zero _, by simp, HB0⟩
    case round =>
      clear HB0
      obtain ⟨p, done, hpg, rfl, HO, HT, hdl, HB⟩ := hrel
      have HG : Hid (p + gk = s.size) := hpg
      by_cases hp : p < s.size
      · have hpI : (p : Int) < (s.size : Int) := by omega
        have hd := drop_at s p hp
        have hkd := fun W => kindOf_any s[p] W
        have hr1 : IntKind.i64.wrap ((p : Int) + 1) = (p : Int) + 1 := by rw [IntKind.wrap_i64]; omega
        by_cases hb : bkB s[p] = true
        · have hk1 : kd0 s[p] = 1 := by unfold kd0; rw [if_pos hb]
          rw [hk1] at hkd
          have HT2 : Hid (TkTo s.data.toList done (p + 1)) := tkTo_blank HT.out hd rfl hb
          clear hd hb hk1 HT hpg
          go_wp2_with (go_at_call 14; refine (hkd _).mono ?_; rintro e w1 ⟨rfl, hw⟩; replace hw := hw.symm; subst hw)
          go_roundg (s.size - (p + 1))
          case measure => clear hr1; have := HG.out; omega
          case rel => exact ⟨p + 1, done, by clear hr1; omega, by go_num, HO, HT2, by omega, HB⟩
        · have hk1 : (kd0 s[p] == 1) = false := by
            have := kd_blank (c := s[p]) (by simpa using hb)
            simpa using this
          obtain ⟨kk, hkk⟩ : ∃ kk, kk = kd0 s[p] := ⟨_, rfl⟩
          rw [← hkk] at hkd hk1
          have hb2 : bkB s[p] = false := by simpa using hb
          have hxl : (s.extract p s.size).data.toList = s[p] :: s.data.toList.drop (p + 1) := by
            rw [ext_list, hd, List.take_of_length_le]
            rw [← hd, List.length_drop, ← HS.out]; exact Nat.le_refl _
          have hxs : (s.extract p s.size).size ≤ 100000 := by have := ext_size (s := s) (p := p) (q := s.size); omega
          have hfi := first_any (s.extract p s.size) hxs hxl (w := wr) (HEN.out.below HB.out)
          obtain ⟨ck, cb, cn, cp, cm, hsh⟩ := ans_shape (oneL (s[p] :: s.data.toList.drop (p + 1)) 0)
          rw [hsh] at hfi
          have hat := oneL_at (s[p] :: s.data.toList.drop (p + 1)) p
          have hcs := oneL_some hsh
          have htone := tok_one ck cn cp cb
          rcases hcs with ⟨ho, rfl⟩ | ⟨t, n, ho, rfl, hn1, hn2, hrow⟩
          · have HE : Hid (tokensA s.data.toList = ([], (p : Int), 300)) := tokens_no (by rw [← HS.out]; exact hl2) (tkTo_no HT.out hd hb2 (by rw [hat, ho]; rfl))
            clear hd hb hb2 hkk HT hsh ho hpg hat hxl hxs
            go_wp2_with (first
              | (go_at_call 14; refine (hkd _).mono ?_; rintro e w1 ⟨rfl, hw⟩; replace hw := hw.symm; subst hw)
              | (go_at_call 15; refine hfi.mono ?_; rintro e w1 ⟨rfl, hb1⟩; have bt := box_new w1 #[.int .i64 0, .string ⟨#[]⟩, .int .i64 0, .int .i64 0] 32)
              | (refine wpList_store_row rfl 32 _ _ rfl w1.heap.size #[.int .i64 ck, .string cb, .int .i64 cn, .int .i64 cp] rfl rfl 32 _ bt size_tok rfl htone ?_))
            go_ret3
            exact ⟨⟨_, by rw [HE.out]; rfl, by rw [HE.out]; exact ownT_nil _ _⟩, below_setRow ((HB.out.trans (hb1.mono HB.out.size)).alloc (Nat.le_trans HB.out.size hb1.size) _) (Nat.le_trans HB.out.size hb1.size) _⟩
          · have hat2 : oneL (s[p] :: s.data.toList.drop (p + 1)) p = some (⟨t.k, t.s, t.n, p⟩, n) := by rw [hat, ho]; rfl
            have HT2 : Hid (TkTo s.data.toList (done ++ [⟨t.k, t.s, t.n, p⟩]) (p + n)) := tkTo_one HT.out hd hb2 hat2
            have hn3 : p + n ≤ s.size := by
              rw [← hd, List.length_drop, ← HS.out] at hn2; omega
            have hnz : ((n : Int) == 0) = false := by simp; omega
            have HN : Hid (1 ≤ n ∧ p + n ≤ s.size) := ⟨hn1, hn3⟩
            have HR : Hid (#[Value.int .i64 ck, .string cb, .int .i64 cn, .int .i64 p] = (tkR ⟨t.k, t.s, t.n, p⟩).toArray) := by
              unfold Hid
              have h4 := congrArg Array.toList hrow
              simp only [tkR, List.cons.injEq, and_true] at h4
              rw [h4.1, h4.2.1, h4.2.2.1]
              rfl
            clear hd hb hb2 hkk HT hsh ho hpg hat hat2 hxl hxs hn1 hn2 hrow
            go_wp2_with (first
              | (go_at_call 14; refine (hkd _).mono ?_; rintro e w1 ⟨rfl, hw⟩; replace hw := hw.symm; subst hw)
              | (go_at_call 15; refine hfi.mono ?_; rintro e w1 ⟨rfl, hb1⟩; have bt := box_new w1 #[.int .i64 0, .string ⟨#[]⟩, .int .i64 0, .int .i64 0] 32; have bt2 := bt.setRow #[.int .i64 ck, .string cb, .int .i64 cn, .int .i64 cp]; have hf := bt2.frozen 3; have c3 := bt2.cell 3 _ rfl; have bt3 := bt2.set 3 (.int .i64 p); have d0 := bt3.cell 0 _ rfl; have d1 := bt3.cell 1 _ rfl; have d2 := bt3.cell 2 _ rfl; have d3 := bt3.cell 3 _ rfl; have HB1 : Hid (Below wr.heap.size wr (((w1.alloc (.cells #[.int .i64 0, .string ⟨#[]⟩, .int .i64 0, .int .i64 0] 32)).setRow w1.heap.size #[.int .i64 ck, .string cb, .int .i64 cn, .int .i64 cp]).setCell ⟨w1.heap.size, 3, none⟩ (.int .i64 p))) := below_setC (below_setRow (hb1.alloc hb1.size _) hb1.size _) hb1.size _; have HO2 := HO.out.over HB1.out; have hB2 := Nat.le_trans HB.out.size HB1.out.size; clear hb1)
              | (refine wpList_store_row rfl 32 _ _ rfl w1.heap.size #[.int .i64 ck, .string cb, .int .i64 cn, .int .i64 cp] rfl rfl 32 _ bt size_tok rfl htone ?_)
              | (at_builtin; refine append_tok rfl (.tmp 37) (.tmp 39) rfl HR.out rfl rfl (by simp) HO2 hB2 ?hl ?_; (case hl => have := HN.out; omega); intro va vc w4 HO4 hb4))
            go_roundg (s.size - (p + n))
            case measure => have := HG.out; have := HN.out; omega
            case rel => exact ⟨p + n, done ++ [⟨t.k, t.s, t.n, p⟩], by have := HN.out; omega, by go_num, HO4, HT2, by rw [List.length_append]; simp; have := HN.out; omega, HB.out.trans ((HB1.out.mono HB.out.size).trans hb4)⟩
      · have hpI : ¬ (p : Int) < (s.size : Int) := by omega
        have hps : p = s.size := by omega
        have HE : Hid (tokensA s.data.toList = (done ++ [⟨0, [], 0, s.size⟩], 0, 0)) := tokens_yes (by rw [← HS.out]; exact hl2) (by rw [← hps]; exact tkTo_end HT.out (List.drop_of_length_le (by rw [← HS.out]; omega)))
        have HR : Hid (#[Value.int .i64 0, .string ⟨#[]⟩, .int .i64 0, .int .i64 s.size] = (tkR ⟨0, [], 0, s.size⟩).toArray) := rfl
        have hB2 := HB.out.size
        clear HT hps
        go_wp2_with (at_builtin; refine append_tok rfl (.tmp 44) (.tmp 48) rfl HR.out rfl rfl rfl HO.out hB2 ?hl ?_; (case hl => omega); intro va vc w4 HO4 hb4)
        go_ret3
        exact ⟨⟨_, by rw [HE.out]; rfl, by rw [HE.out]; exact HO4.out⟩, HB.out.trans hb4⟩
end Go.Proofs.YtoccbfgcmaahcaaDoor
/-
  The walk of law 29's LexTokens, over contracts of lex: the tokens of any text, or where it is wrong; and whether it is a keyword.
-/
namespace Go.Proofs.YtoccbfgcmaahcaaDoor
open Go.RowKit

theorem tokens_cases (l : List UInt8) : (tokensA l).2.2 ≠ 0 ∧ (tokensA l).1 = [] ∨ (tokensA l).2.1 = 0 ∧ (tokensA l).2.2 = 0 ∧ l.length ≤ 1024 ∧ (toksP l 0).2 = none ∧ (tokensA l).1 = (toksP l 0).1 := by
  by_cases hl : 1024 < l.length
  · left; rw [tokens_long hl]; exact ⟨by decide, rfl⟩
  · cases e : (toksP l 0).2 with
    | some p => left; rw [tokens_no (by omega) e]; exact ⟨by simp, rfl⟩
    | none =>
      right
      have : toksP l 0 = ((toksP l 0).1, none) := by rw [← e]
      rw [tokens_yes (by omega) this]
      exact ⟨rfl, rfl, by omega, rfl, rfl⟩
theorem tokens_all {l : List UInt8} (h : (tokensA l).2.2 = 0) : ∃ y, (tokensA l).1 = y ++ [⟨0, [], 0, l.length⟩] ∧ (∀ t ∈ y, TkOk t) ∧ Ch l 0 y ∧ y.length ≤ l.length := by
  rcases tokens_cases l with ⟨h1, _⟩ | ⟨_, _, _, hn, he⟩
  · exact absurd h h1
  · obtain ⟨y, h1, h2, h3, h4⟩ := toks_all l l.length 0 (by omega) (by omega) (by rw [List.drop_zero]; exact hn)
    rw [List.drop_zero] at h1
    exact ⟨y, he.trans h1, h2, h3, by omega⟩
theorem tokens_len (l : List UInt8) : (tokensA l).1.length ≤ l.length + 1 := by
  by_cases h : (tokensA l).2.2 = 0
  · obtain ⟨y, h1, _, _, h4⟩ := tokens_all h
    rw [h1]; simp; omega
  · rcases tokens_cases l with ⟨_, h1⟩ | ⟨_, h1, _⟩
    · rw [h1]; simp
    · exact absurd h1 h

end Go.Proofs.YtoccbfgcmaahcaaDoor
/-
  The walk of law 29's LexPlaces, over contracts of lex: each token begins where it says, behind the one ahead; the last one is the end.
-/
namespace Go.Proofs.YtoccbfgcmaahcaaDoor
open Go.RowKit

theorem ok_kind {t : Tk} (h : TkOk t) : t.k = 1 ∨ t.k = 2 ∨ t.k = 3 ∨ t.k = 4 := by
  rcases h with h | h | h | h
  · exact .inl h.1
  · exact .inr (.inl h.1)
  · exact .inr (.inr (.inl h.1))
  · exact .inr (.inr (.inr h.1))
/-- A token, and where the next one begins. -/
theorem ch_at (L : List UInt8) : ∀ (y : List Tk) (p i : Nat) (t u : Tk), Ch L p y → (y ++ [⟨0, [], 0, L.length⟩])[i]? = some t → (y ++ [⟨0, [], 0, L.length⟩])[i + 1]? = some u →
    t ∈ y ∧ t.p < u.p ∧ u.p ≤ L.length ∧ ((t.k = 1 ∨ t.k = 4) → t.p + t.s.length ≤ u.p ∧ t.s = (L.drop t.p).take t.s.length)
  | [], p, i, t, u, _, h1, h2 => by
    exfalso
    cases i with
    | zero => simp at h2
    | succ i => simp at h1
  | x :: y, p, i, t, u, hc, h1, h2 => by
    obtain ⟨hp, n, hn1, hn2, hs, hc2⟩ := hc
    cases i with
    | zero =>
      simp at h1; subst h1
      have hu : x.p + n ≤ u.p ∧ u.p ≤ L.length := by
        cases y with
        | nil => simp at h2; subst h2; exact ⟨hn2, Nat.le_refl _⟩
        | cons z y =>
          simp at h2; subst h2
          obtain ⟨hz, m, hm1, hm2, _⟩ := hc2
          exact ⟨hz, by omega⟩
      refine ⟨by simp, by omega, hu.2, fun hk => ?_⟩
      have := hs hk
      rw [this.2]
      exact ⟨hu.1, this.1⟩
    | succ i =>
      have ih := ch_at L y (x.p + n) i t u hc2 (by simpa using h1) (by simpa using h2)
      exact ⟨by simp [ih.1], ih.2⟩

set_option maxHeartbeats 4000000 in
set_option maxRecDepth 4000 in
theorem walkLexPlacesH (hT : LexT) (hK : LexK) (s : ByteArray) (w : World) (hE : Env w) :
    Calls Tryd.prog 5 #[.string s] w fun e w' => e = .returned (.bool true) ∧ Below w.heap.size w w' := by
  have HA : Hid (∀ W, Below w.heap.size w W → Calls Tryd.prog 6 #[] W fun e w' => e = .returned (.bool true) ∧ Below W.heap.size W w') := fun W hW => awake29_any hT hK (hE.below hW)
  by_cases hl : (200 : Int) < (s.size : Int)
  · clear hE
    go_enter Tryd.func5, Tryd.ntmps5
    go_wp2_with fail
    refine (HA.out _ (Below.refl _ _)).mono ?_
    rintro e w1 ⟨rfl, hb1⟩
    go_wp2_with fail
    go_ret
    exact ⟨rfl, hb1⟩
  · have h1 := hT s w (by omega) hE
    unfold TokAns at h1
    by_cases hz : (tokensA s.data.toList).2.2 = 0
    · obtain ⟨y, hy, hok, hch, hyl⟩ := tokens_all hz
      obtain ⟨L, hL⟩ : ∃ L, L = s.data.toList := ⟨_, rfl⟩
      have hLs : L.length = s.size := by rw [hL]; exact (Lib.size_eq s).symm
      rw [← hL] at hy hch hyl h1 hz
      rw [hy, hz] at h1
      obtain ⟨m, hm⟩ : ∃ m, m = y.length := ⟨_, rfl⟩
      obtain ⟨X, hX⟩ : ∃ X, X = (tokensA L).2.1 := ⟨_, rfl⟩
      rw [← hX] at h1
      have HY : Hid (L = s.data.toList ∧ L.length = s.size ∧ (∀ t ∈ y, TkOk t) ∧ Ch L 0 y ∧ m = y.length ∧ m ≤ s.size ∧ s.size ≤ 200) := ⟨hL, hLs, hok, hch, hm, by omega, by omega⟩
      clear hy hok hch hyl hL hX hz hE hm hLs
      go_enter Tryd.func5, Tryd.ntmps5
      go_wp2_with fail
      refine h1.mono ?_
      rintro e w1 ⟨⟨v1, rfl, ho1⟩, hb1⟩
      clear h1
      have HB1 : Hid (Below w.heap.size w w1) := hb1
      obtain ⟨a, n, cap, rfl, hn, hcap⟩ := ho1.1.slice
      have hn2 : n = m + 1 := by rw [hn]; simp; exact HY.out.2.2.2.2.1.symm
      subst hn2
      have HO1 : Hid (TkIs w1 (.slice a (m + 1) cap) (y ++ [⟨0, [], 0, L.length⟩])) := ho1.1
      obtain ⟨g, rfl, hg, c0, c1, c2, c3⟩ := HO1.out.at (i := m) (t := ⟨0, [], 0, L.length⟩) (by rw [HY.out.2.2.2.2.1]; simp)
      have hls := HY.out.2.1
      rw [hls] at c3
      simp only [str] at c1
      have hm200 : m ≤ 200 := by have := HY.out.2.2.2.2.2; omega
      clear hb1 ho1 hn hcap hls
      go_wp2_with fail
      go_loopg [6, 7, 8] (m + 1) (fun gg s6 s7 s8 wx => ∃ i : Nat, i + gg = m + 1 ∧ i ≤ m ∧ s6 = .int .i64 i ∧ Hid (Below w1.heap.size w1 wx))
      case atStart => exact ⟨0, by omega, by omega, rfl, Below.refl _ _⟩
      case round =>
        clear c0 c1 c2 c3
        obtain ⟨i, hig, him, rfl, HB⟩ := hrel
        have HG : Hid (i + gk = m + 1) := hig
        by_cases hi : i < m
        · have hiI : (i : Int) + 1 < (m : Int) + 1 := by omega
          have hylen : (y ++ [⟨0, [], 0, L.length⟩] : List Tk).length = m + 1 := by rw [HY.out.2.2.2.2.1]; simp
          obtain ⟨t, hit⟩ : ∃ t, (y ++ [⟨0, [], 0, L.length⟩] : List Tk)[i]? = some t := ⟨_, List.getElem?_eq_getElem (by omega)⟩
          obtain ⟨u, hiu⟩ : ∃ u, (y ++ [⟨0, [], 0, L.length⟩] : List Tk)[i + 1]? = some u := ⟨_, List.getElem?_eq_getElem (by omega)⟩
          have hca := ch_at L y 0 i t u HY.out.2.2.2.1 hit hiu
          have hk := ok_kind (HY.out.2.2.1 t hca.1)
          obtain ⟨g1, e1, _, p0, p1, p2, p3⟩ := (HO1.out.over HB.out).at hit
          cases e1
          obtain ⟨g2, e2, _, q0, q1, q2, q3⟩ := (HO1.out.over HB.out).at hiu
          cases e2
          obtain ⟨tb, htb⟩ : ∃ tb, tb = str t.s := ⟨_, rfl⟩
          obtain ⟨tk, htk⟩ : ∃ tk, tk = t.k := ⟨_, rfl⟩
          obtain ⟨tp, htp⟩ : ∃ tp, tp = t.p := ⟨_, rfl⟩
          obtain ⟨up, hup⟩ : ∃ up, up = u.p := ⟨_, rfl⟩
          rw [← htk] at p0 hk
          rw [← htb] at p1
          rw [← htp] at p3
          rw [← hup] at q3
          have hts : tb.size = t.s.length := by rw [htb]; exact str_size _
          have hlt : tp < up := by rw [htp, hup]; exact hca.2.1
          have hle : up ≤ s.size := by rw [hup, ← HY.out.2.1]; exact hca.2.2.1
          have hws : (tk = 1 ∨ tk = 4) → tp + tb.size ≤ up ∧ (s.extract tp (tp + tb.size)).toList = tb.toList := fun h => by
            have := hca.2.2.2 (by rw [← htk]; exact h)
            rw [htp, hup, hts]
            refine ⟨this.1, ?_⟩
            rw [Lib.toList_data, ext_list, htb, toList_str, ← HY.out.1, show t.p + t.s.length - t.p = t.s.length by omega]
            exact this.2.symm
          have hltI : ¬ (up : Int) ≤ (tp : Int) := by omega
          have hleI : ¬ (s.size : Int) < (up : Int) := by omega
          have htpI : ¬ (tp : Int) < 0 := by omega
          have hr2 : IntKind.i64.wrap ((i : Int) + 1) = (i : Int) + 1 := by rw [IntKind.wrap_i64]; omega
          clear hit hiu hca htb htk htp hup hts p2 q0 q1 q2 hylen
          rcases hk with rfl | rfl | rfl | rfl
          · obtain ⟨hw1, hw2⟩ := hws (by decide)
            have hg1 : ¬ (up : Int) - (tp : Int) < (tb.size : Int) := by omega
            have hgd : decide ((up : Int) - (tp : Int) < (tb.size : Int)) = false := decide_eq_false hg1
            have hg2 : (tp : Int) + (tb.size : Int) ≤ (s.size : Int) := by omega
            have hg3 : ((s.extract tp (tp + tb.size)).toList == tb.toList) = true := by rw [hw2]; exact beq_self_eq_true _
            clear hws hw1 hw2
            go_wp2_with fail
            go_quiet (fail)
            go_wp2_with fail
            go_quiet (fail)
            go_wp2_with fail
            go_roundg (m + 1 - (i + 1))
            case measure => clear hr2; have := HG.out; omega
            case rel => exact ⟨i + 1, by clear hr2; have := HG.out; omega, by omega, by go_num, below_drewN2 HB.out _⟩
          · clear hws
            go_wp2_with fail
            go_quiet (fail)
            go_wp2_with fail
            go_quiet (fail)
            go_wp2_with fail
            go_roundg (m + 1 - (i + 1))
            case measure => clear hr2; have := HG.out; omega
            case rel => exact ⟨i + 1, by clear hr2; have := HG.out; omega, by omega, by go_num, below_drewN2 HB.out _⟩
          · clear hws
            go_wp2_with fail
            go_quiet (fail)
            go_wp2_with fail
            go_quiet (fail)
            go_wp2_with fail
            go_roundg (m + 1 - (i + 1))
            case measure => clear hr2; have := HG.out; omega
            case rel => exact ⟨i + 1, by clear hr2; have := HG.out; omega, by omega, by go_num, below_drewN2 HB.out _⟩
          · obtain ⟨hw1, hw2⟩ := hws (by decide)
            have hg1 : ¬ (up : Int) - (tp : Int) < (tb.size : Int) := by omega
            have hgd : decide ((up : Int) - (tp : Int) < (tb.size : Int)) = false := decide_eq_false hg1
            have hg2 : (tp : Int) + (tb.size : Int) ≤ (s.size : Int) := by omega
            have hg3 : ((s.extract tp (tp + tb.size)).toList == tb.toList) = true := by rw [hw2]; exact beq_self_eq_true _
            clear hws hw1 hw2
            go_wp2_with fail
            go_quiet (fail)
            go_wp2_with fail
            go_quiet (fail)
            go_wp2_with fail
            go_roundg (m + 1 - (i + 1))
            case measure => clear hr2; have := HG.out; omega
            case rel => exact ⟨i + 1, by clear hr2; have := HG.out; omega, by omega, by go_num, below_drewN2 HB.out _⟩
        · have hiI : ¬ (i : Int) + 1 < (m : Int) + 1 := by omega
          go_wp2_with fail
          refine (HA.out _ (HB1.out.trans (HB.out.mono HB1.out.size))).mono ?_
          rintro e w3 ⟨rfl, hb3⟩
          go_wp2_with fail
          go_ret
          exact ⟨rfl, (HB1.out.trans (HB.out.mono HB1.out.size)).trans (hb3.mono (HB1.out.trans (HB.out.mono HB1.out.size)).size)⟩
    · obtain ⟨Y, hY⟩ : ∃ Y, Y = (tokensA s.data.toList).2.2 := ⟨_, rfl⟩
      rw [← hY] at hz h1
      have hzb : (Y != 0) = true := by simpa using hz
      clear hY hE
      go_enter Tryd.func5, Tryd.ntmps5
      go_wp2_with fail
      refine h1.mono ?_
      rintro e w1 ⟨⟨v1, rfl, ho1⟩, hb1⟩
      clear h1 ho1
      go_wp2_with fail
      refine (HA.out _ hb1).mono ?_
      rintro e w2 ⟨rfl, hb2⟩
      go_wp2_with fail
      go_ret
      exact ⟨rfl, hb1.trans (hb2.mono hb1.size)⟩
end Go.Proofs.YtoccbfgcmaahcaaDoor
/-
  What the walks of law 29 stand on: the contracts of package lex.
-/
namespace Go.Proofs.YtoccbfgcmaahcaaDoor
open Go.RowKit

theorem lexKeyword_any : LexK := fun s W _ _ => keyword_any s W
end Go.Proofs.YtoccbfgcmaahcaaDoor
