/-
  Slices of truths; the contracts of peristyleref14's Set and Spans.
-/
import Derived.Test.YteijhnfciiblmaaSRefA
import Derived.Test.YteijhnfciiblmaaSMerge
import Derived.Laws.OwnMore
namespace Go.Proofs.Yteijhnfciiblmaa
open Go.RowKit

/-- n truths. -/
def tab (P : Nat → Bool) (n : Nat) : List Bool := (List.range n).map P
theorem tab_len (P : Nat → Bool) (n : Nat) : (tab P n).length = n := by simp [tab]
theorem tab_at (P : Nat → Bool) {n i : Nat} (h : i < n) : (tab P n)[i]? = some (P i) := by simp [tab, h]
theorem tab_congr {P Q : Nat → Bool} {n : Nat} (h : ∀ j, j < n → P j = Q j) : tab P n = tab Q n := by
  unfold tab
  exact List.map_congr_left fun j hj => h j (List.mem_range.1 hj)
theorem tab_set (P : Nat → Bool) {n k : Nat} (b : Bool) : (tab P n).set k b = tab (fun j => if j = k then b else P j) n := by
  apply List.ext_getElem?
  intro i
  rw [List.getElem?_set]
  by_cases hi : i < n
  · rw [tab_at _ hi, tab_at _ hi]
    by_cases e : k = i
    · subst e; simp [tab_len, hi]
    · rw [if_neg e, if_neg (fun h => e h.symm)]
  · rw [List.getElem?_eq_none (l := tab P n) (by rw [tab_len]; omega), List.getElem?_eq_none (l := tab _ n) (by rw [tab_len]; omega), tab_len]
    split
    · rw [if_neg (by omega)]
    · rfl
def tv (l : List Bool) : List Value := l.map .bool
def OwnsT (w : World) (B : Nat) (v : Value) (l : List Bool) : Prop := w.ownsRow B 4 1 v l.length (tv l)
theorem OwnsT.below {w w' : World} {B : Nat} {v : Value} {l : List Bool} (h : OwnsT w B v l) (hb : Below w.heap.size w w') : OwnsT w' B v l := ownsRow_below h hb
theorem info_bool : (Try.prog.info? 4).map (fun i => (i.zero, i.size, i.bytes)) = some (some (.bool false), 1, 1) := by kernel_rfl
/-- The slice v reads as the n truths P. -/
def ReadsT (w : World) (v : Value) (P : Nat → Bool) (n : Nat) : Prop :=
  ∃ g off cap, v = .slice (some ⟨g, off, none⟩) n cap ∧ n ≤ cap ∧ g < w.heap.size ∧ ∀ i, i < n → w.cell? ⟨g, off + i, none⟩ = some (.bool (P i))
theorem ReadsT.below {w w' : World} {v : Value} {P : Nat → Bool} {n : Nat} (h : ReadsT w v P n) (hb : Below w.heap.size w w') : ReadsT w' v P n := by
  obtain ⟨g, off, cap, hv, hc, hg, h⟩ := h
  exact ⟨g, off, cap, hv, hc, Nat.lt_of_lt_of_le hg hb.size, fun i hi => (hb.cell (p := ⟨g, off + i, none⟩) hg).trans (h i hi)⟩
theorem OwnsT.reads {w : World} {B g n cap : Nat} {P : Nat → Bool} (h : OwnsT w B (.slice (some ⟨g, 0, none⟩) n cap) (tab P n)) : ReadsT w (.slice (some ⟨g, 0, none⟩) n cap) P n := by
  unfold OwnsT at h
  rw [tab_len] at h
  have hc := @World.ownsRow.cells _ _ _ _ _ _ _ h
  have hlt := h.lt
  rcases h.2 with ⟨h0, _⟩ | ⟨g', cap', cur, e, hb, hg, hcap, _⟩
  · cases h0
  · cases e
    refine ⟨g, 0, cap, rfl, hcap, (hlt g rfl).2, fun i hi => ?_⟩
    have hx := hc rfl i (.bool (P i)) (by simp [tv, tab_at P hi])
    rw [add0] at hx
    rw [Nat.zero_add]
    exact hx
/-- 'make([]bool, n)'. -/
theorem make_t {ops : Array Oper} {rest : List Oper} {o : Oper} {a : Act} {Q : Exit → Act → World → Prop} (hgd : o.guard = none) (l c : Operand) (hop : o.op = Op.makeSlice 48 l c)
    {w : World} {C : Int} {n B : Nat} (hl : a.eval l = .int .i64 C) (hc : a.eval c = .int .i64 C) (hC : C = (n : Int)) (hn : n ≤ 1000000) (hB : B ≤ w.heap.size)
    (h : ∀ w', OwnsT w' B (.slice (some ⟨w.heap.size, 0, none⟩) n n) (tab (fun _ => false) n) → Below B w w' → wpList Try.prog ops Q rest (a.put o.dst (.slice (some ⟨w.heap.size, 0, none⟩) n n)) w') : wpList Try.prog ops Q (o :: rest) a w := by
  obtain ⟨i0, hi, hz0, hz1, hz2⟩ := info_parts info_bool
  refine wpList_make_full w hgd l c 48 hop B 4 i0 (.bool false) 1 Try.underlying48 hi hz0 hz1 _ _ C C n hl hc hC hC ?_ ?_ hB ?_
  · rw [hz2]; omega
  · unfold maxLen; omega
  · intro w' hown hg
    refine h w' ?_ ((Below.refl B w).grown hg hB (fun k hk => by cases hk))
    have e : (madeCells (Value.bool false).cells (n * 1)).toList = tv (tab (fun _ => false) n) := by
      rw [Nat.mul_one, show (Value.bool false).cells = #[.bool false] from rfl, toList_madeCells_one]
      apply List.ext_getElem?
      intro i
      by_cases hi : i < n
      · simp [tv, tab, hi]
      · rw [List.getElem?_eq_none (by simp; omega), List.getElem?_eq_none (by simp [tv, tab]; omega)]
    rw [e] at hown
    unfold OwnsT
    rw [tab_len]
    exact hown
/-- A store into such a slice. -/
theorem OwnsT.store {w : World} {B g n cap : Nat} {P : Nat → Bool} (h : OwnsT w B (.slice (some ⟨g, 0, none⟩) n cap) (tab P n)) {k : Nat} (hk : k < n) (b : Bool) :
    w.cell? ⟨g, k, none⟩ = some (.bool (P k)) ∧ w.frozen? ⟨g, k, none⟩ = false ∧ OwnsT (w.setCell ⟨g, k, none⟩ (.bool b)) B (.slice (some ⟨g, 0, none⟩) n cap) (tab (fun j => if j = k then b else P j) n) ∧ B ≤ g := by
  unfold OwnsT at h
  rw [tab_len] at h
  refine ⟨?_, World.ownsRow.frozenAt h k, ?_, (h.lt g rfl).1⟩
  · rw [World.ownsRow.cellAt h k (by omega)]
    simp [tv, tab_at P hk]
  · have := (World.ownsRow.stored h k (.bool b)).1
    unfold OwnsT
    rw [tab_len]
    have e : (tv (tab P n)).set k (.bool b) = tv (tab (fun j => if j = k then b else P j) n) := by rw [← tab_set]; simp [tv, List.map_set]
    rw [e] at this
    exact this

/-- The spans of the first k truths. -/
structure SpP (P : Nat → Bool) (k : Nat) (R : List Sn) : Prop where
  may : mayS R = true
  iff : ∀ x, InS R x ↔ 0 ≤ x ∧ x < (k : Int) ∧ P x.toNat = true
  gap : (∀ m, k = m + 1 → P m = false) → endS R < (k : Int)
  on : ∀ m, k = m + 1 → P m = true → ∃ p s, R = p ++ [s] ∧ s.hi = (k : Int)
  len : R.length ≤ k
section
variable {P : Nat → Bool} {k : Nat} {R : List Sn}
theorem spP_start (P : Nat → Bool) : SpP P 0 [] := ⟨rfl, fun x => by simp [in_nil]; omega, fun _ => by show (-1 : Int) < _; simp, fun m h => by simp at h, by simp⟩
theorem spP_off (h : SpP P k R) (hk : P k = false) : SpP P (k + 1) R := by
  have hen : endS R ≤ (k : Int) := by
    cases k with
    | zero => have := h.gap (fun m hm => by simp at hm); omega
    | succ m =>
      cases e : P m with
      | false => have := h.gap (fun m' hm => by cases hm; exact e); omega
      | true => obtain ⟨p, s, rfl, hs⟩ := h.on m rfl e; rw [end_snoc]; omega
  refine ⟨h.may, fun x => ?_, fun _ => by omega, fun m hm hp => ?_, by have := h.len; omega⟩
  · rw [h.iff]
    constructor
    · rintro ⟨a, b, c⟩; exact ⟨a, by omega, c⟩
    · rintro ⟨a, b, c⟩
      refine ⟨a, ?_, c⟩
      by_cases e : x = k
      · subst e; simp [hk] at c
      · omega
  · cases hm
    rw [hk] at hp
    cases hp
theorem spP_on (h : SpP P k R) (hk : P k = true) (hb : (k : Int) < 65536) {p : List Sn} {s : Sn} (e : R = p ++ [s]) (hs : s.hi = (k : Int)) : SpP P (k + 1) (p ++ [⟨s.lo, s.hi + 1⟩]) := by
  subst e
  obtain ⟨h1, h2, h3, h4⟩ := may_snoc.1 h.may
  have h5 := end_bd h1
  refine ⟨may_snoc.2 ⟨h1, h2, by simp only; omega, by simp only; omega⟩, fun x => ?_, fun hf => ?_, fun m hm _ => ⟨p, _, rfl, by simp only; omega⟩, by have := h.len; simp at this ⊢; omega⟩
  · have hi := h.iff x
    rw [in_append, in_one] at hi ⊢
    simp only
    constructor
    · rintro (hx | ⟨hx1, hx2⟩)
      · have := hi.1 (.inl hx); exact ⟨this.1, by omega, this.2.2⟩
      · by_cases e : x = (k : Int)
        · subst e; exact ⟨by omega, by omega, by simpa using hk⟩
        · have := hi.1 (.inr ⟨hx1, by omega⟩); exact ⟨this.1, by omega, this.2.2⟩
    · rintro ⟨a, b, c⟩
      by_cases e : x = (k : Int)
      · exact .inr ⟨by omega, by omega⟩
      · rcases hi.2 ⟨a, by omega, c⟩ with hx | ⟨hx1, hx2⟩
        · exact .inl hx
        · exact .inr ⟨hx1, by omega⟩
  · have := hf k rfl
    rw [hk] at this
    cases this
theorem spP_new (h : SpP P k R) (hk : P k = true) (hb : (k : Int) < 65536) (hg : ∀ m, k = m + 1 → P m = false) : SpP P (k + 1) (R ++ [⟨(k : Int), (k : Int) + 1⟩]) := by
  have hen := h.gap hg
  refine ⟨may_snoc.2 ⟨h.may, by simp only; omega, by simp only; omega, by simp only; omega⟩, fun x => ?_, fun hf => ?_, fun m hm _ => ⟨R, _, rfl, by simp only; omega⟩, by have := h.len; simp; omega⟩
  · rw [in_append, in_one, h.iff]
    simp only
    constructor
    · rintro (⟨a, b, c⟩ | ⟨a, b⟩)
      · exact ⟨a, by omega, c⟩
      · obtain rfl : x = (k : Int) := by omega
        exact ⟨by omega, by omega, by simpa using hk⟩
    · rintro ⟨a, b, c⟩
      by_cases e : x = (k : Int)
      · exact .inr ⟨by omega, by omega⟩
      · exact .inl ⟨a, by omega, c⟩
  · have := hf k rfl
    rw [hk] at this
    cases this
theorem spP_end (h : SpP P k R) : IsSet R (fun x => 0 ≤ x ∧ x < (k : Int) ∧ P x.toNat = true) := ⟨h.may, h.iff⟩
end

/-- What Spans answers. -/
def SpansAns (w : World) (P : Nat → Bool) (n : Nat) (e : Ending) (w' : World) : Prop :=
  (∃ v' R, e = .returned v' ∧ SpansIs w' v' R ∧ IsSet R (fun x => 0 ≤ x ∧ x < (n : Int) ∧ P x.toNat = true)) ∧ Below w.heap.size w w'
set_option maxRecDepth 100000 in
set_option maxHeartbeats 4000000 in
theorem refSpans_any {w : World} {v : Value} {P : Nat → Bool} {n : Nat} (h : ReadsT w v P n) (hn : n ≤ 65536) :
    Calls Try.prog 35 #[v] w (SpansAns w P n) := by
  obtain ⟨b, off, cap, rfl, hcap, hbw, hc⟩ := h
  have hn1 : (n : Int) ≤ 65536 := by omega
  have HC : Hid (∀ (W : World) (i : Nat), Below w.heap.size w W → i < n → W.cell? ⟨b, off + i, none⟩ = some (.bool (P i))) := fun W i hW hi => (hW.cell (p := ⟨b, off + i, none⟩) hbw).trans (hc i hi)
  obtain ⟨i0, hi0, hz0, hz1, hz2⟩ := info_parts info_span
  have HI : Hid (Try.prog.info? 43 = some i0 ∧ i0.zero = some (.agg #[.int .i64 0, .int .i64 0]) ∧ i0.size = 2 ∧ i0.bytes = 16) := ⟨hi0, hz0, hz1, hz2⟩
  clear hc hi0 hz0 hz1 hz2 hn hbw
  go_enter Try.func35, Try.ntmps35
  go_wp2_with fail
  go_loopg [3, 4] n (fun gg s3 s4 wx => ∃ (k : Nat) (R : List Sn), k + gg = n ∧ s4 = .int .i64 k ∧ Hid (SpP P k R) ∧ Hid (SRows wx s3 43 2 (R.map sc) ∧ ∀ x, s3.ownBlock = some x → w.heap.size ≤ x) ∧ Hid (Below w.heap.size w wx))
  case atStart => exact ⟨0, [], by omega, rfl, spP_start P, ⟨srows_nil _ _ _, noOwn _⟩, Below.refl _ _⟩
  case round =>
    obtain ⟨k, R, hkg, rfl, HR, HS, HB⟩ := hrel
    by_cases hk : k < n
    · have hkI : (k : Int) < (n : Int) := by omega
      have HK6 : Hid ((k : Int) < 65536) := by unfold Hid; omega
      have c0 := HC.out wr k HB.out hk
      have hr2 : IntKind.i64.wrap ((k : Int) + 1) = (k : Int) + 1 := by rw [IntKind.wrap_i64]; omega
      have hlen := HR.out.len
      obtain ⟨a3, c3, h3⟩ := srows_slice HS.out.1
      rw [List.length_map] at h3
      subst h3
      cases hpk : P k with
      | false =>
        rw [hpk] at c0
        have HN : Hid (SpP P (k + 1) R) := spP_off HR.out hpk
        clear hpk
        go_wp2_with fail
        go_roundg (n - (k + 1))
        case measure => clear hr2; omega
        case rel => exact ⟨k + 1, R, by clear hr2; omega, by go_num, HN, HS, HB⟩
      | true =>
        rw [hpk] at c0
        have hbc : (k = 0 ∨ ∃ m, k = m + 1 ∧ P m = false) ∨ ∃ m, k = m + 1 ∧ P m = true := by
          cases k with
          | zero => exact .inl (.inl rfl)
          | succ m => cases e : P m with
            | false => exact .inl (.inr ⟨m, rfl, e⟩)
            | true => exact .inr ⟨m, rfl, e⟩
        rcases hbc with hbc | ⟨m, hkm, hpm⟩
        · have HN : Hid (SpP P (k + 1) (R ++ [⟨(k : Int), (k : Int) + 1⟩])) := spP_new HR.out hpk HK6.out (fun m hm => by
            rcases hbc with h0 | ⟨m', h1, h2⟩
            · omega
            · obtain rfl : m = m' := by omega
              exact h2)
          have HV : Hid (SRows (wr.alloc (.cells #[.int .i64 (k : Int), .int .i64 ((k : Int) + 1)] 43)) (.slice a3 R.length c3) 43 2 (R.map sc) ∧ SRows (wr.alloc (.cells #[.int .i64 (k : Int), .int .i64 ((k : Int) + 1)] 43)) (.slice (some ⟨wr.heap.size, 0, none⟩) 1 1) 43 2 [sc ⟨(k : Int), (k : Int) + 1⟩]) :=
            ⟨HS.out.1.of_block (fun y hy => (below1 wr _).block y (HS.out.1.lt hy)), srows_new wr (sc ⟨(k : Int), (k : Int) + 1⟩) 43 (sz := 2) rfl⟩
          have HX : Hid ((R.map sc).length + [sc ⟨(k : Int), (k : Int) + 1⟩].length = R.length + 1 ∧ R.map sc ++ [sc ⟨(k : Int), (k : Int) + 1⟩] = (R ++ [(⟨(k : Int), (k : Int) + 1⟩ : Sn)]).map sc ∧ R.length + 1 ≤ 1000000 ∧ w.heap.size ≤ (wr.alloc (.cells #[.int .i64 (k : Int), .int .i64 ((k : Int) + 1)] 43)).heap.size) :=
            ⟨by simp, by simp, by omega, by have := HB.out.size; simp; omega⟩
          have hone := sc_one ⟨(k : Int), (k : Int) + 1⟩
          rcases hbc with h0 | ⟨m, hkm, hpm⟩
          · subst h0
            clear hpk
            rw [Nat.add_zero] at c0
            simp only [Int.natCast_zero, Int.zero_add] at HV HX HN hone ⊢
            go_wp2_with (at_builtin; refine append_rows rfl (.tmp 35) (.tmp 40) 22 43 i0 _ 2 16 rfl Try.underlying22 HI.out.1 HI.out.2.1 HI.out.2.2.1 HI.out.2.2.2 rfl (by decide) (by decide) rfl rfl HV.out.1 HV.out.2 HS.out.2 HX.out.2.2.2 hone (R.length + 1) HX.out.1 ((R ++ [(⟨0, 1⟩ : Sn)]).map sc) HX.out.2.1 HX.out.2.2.1 ?_; intro va vc w5 h1 h2 h3; have HS5 : Hid (SRows w5 (.slice va (R.length + 1) vc) 43 2 ((R ++ [(⟨0, 1⟩ : Sn)]).map sc) ∧ ∀ x, (Value.slice va (R.length + 1) vc).ownBlock = some x → w.heap.size ≤ x) := ⟨h1, h2⟩; have HB5 : Hid (Below w.heap.size w w5) := (HB.out.trans (belowOne _ HB.out.size _)).trans h3; clear h1 h2 h3)
            go_roundg (n - 1)
            case measure => clear hr2; omega
            case rel => exact ⟨1, _, by clear hr2; omega, by go_num, HN, HS5, HB5⟩
          · have c1 := HC.out wr m HB.out (by omega)
            rw [hpm] at c1
            have hk0 : (0 : Int) < (k : Int) := by omega
            have hsub : (k : Int) - 1 = (m : Int) := by omega
            have hmn : (m : Int) < (n : Int) := by omega
            have HKM : Hid (k = m + 1) := hkm
            have hRl : (R.length : Int) ≤ 65536 := by omega
            clear hpk hpm hkm hlen HK6
            go_wp2_with (at_builtin; refine append_rows rfl (.tmp 35) (.tmp 40) 22 43 i0 _ 2 16 rfl Try.underlying22 HI.out.1 HI.out.2.1 HI.out.2.2.1 HI.out.2.2.2 rfl (by decide) (by decide) rfl rfl HV.out.1 HV.out.2 HS.out.2 HX.out.2.2.2 hone (R.length + 1) HX.out.1 ((R ++ [(⟨(k : Int), (k : Int) + 1⟩ : Sn)]).map sc) HX.out.2.1 HX.out.2.2.1 ?_; intro va vc w5 h1 h2 h3; have HS5 : Hid (SRows w5 (.slice va (R.length + 1) vc) 43 2 ((R ++ [(⟨(k : Int), (k : Int) + 1⟩ : Sn)]).map sc) ∧ ∀ x, (Value.slice va (R.length + 1) vc).ownBlock = some x → w.heap.size ≤ x) := ⟨h1, h2⟩; have HB5 : Hid (Below w.heap.size w w5) := (HB.out.trans (belowOne _ HB.out.size _)).trans h3; clear h1 h2 h3)
            go_roundg (n - (k + 1))
            case measure => clear hr2; omega
            case rel => exact ⟨k + 1, _, by clear hr2; omega, by go_num, HN, HS5, HB5⟩
        · obtain ⟨p, s, rfl, hs⟩ := HR.out.on m hkm hpm
          have HN : Hid (SpP P (k + 1) (p ++ [⟨s.lo, s.hi + 1⟩])) := spP_on HR.out hpk HK6.out rfl hs
          have c1 := HC.out wr m HB.out (by omega)
          rw [hpm] at c1
          have hk0 : (0 : Int) < (k : Int) := by omega
          have hsub : (k : Int) - 1 = (m : Int) := by omega
          have hmn : (m : Int) < (n : Int) := by omega
          obtain ⟨hS, hown⟩ := HS.out
          rw [List.length_append, List.length_singleton] at hS hown hlen
          rw [List.length_append, List.length_singleton]
          obtain ⟨g, rfl, hg, g1, g2, g3⟩ := hi_at hS rfl rfl
          have hql : (p.length : Int) ≤ 65536 := by omega
          have HO : Hid (w.heap.size ≤ g) := hown g rfl
          have hhi : 0 ≤ s.hi ∧ s.hi ≤ 65536 := by omega
          have HG : Hid (∀ u : Int, SRows (wr.setCell ⟨g, p.length * 2 + 1, none⟩ (.int .i64 u)) (.slice (some ⟨g, 0, none⟩) (p.length + 1) c3) 43 2 ((p ++ [(⟨s.lo, u⟩ : Sn)]).map sc)) := g3
          clear hS hown g3 hs hpk hpm HS hkm hlen HK6
          obtain ⟨lo, hi⟩ := s
          simp only at g1 hhi HN HG
          go_wp2_with fail
          go_roundg (n - (k + 1))
          case measure => clear hr2; omega
          case rel => exact ⟨k + 1, _, by clear hr2; omega, by go_num, HN, ⟨HG.out _, fun x hx => by simp [Value.ownBlock] at hx; subst hx; exact HO.out⟩, HB.out.setCell HO.out _⟩
    · have hkI : ¬ (k : Int) < (n : Int) := by omega
      obtain rfl : k = n := by omega
      go_wp2_with fail
      go_ret
      exact ⟨⟨_, R, rfl, spans_of_srows HS.out.1, spP_end HR.out⟩, HB.out⟩
end Go.Proofs.Yteijhnfciiblmaa
