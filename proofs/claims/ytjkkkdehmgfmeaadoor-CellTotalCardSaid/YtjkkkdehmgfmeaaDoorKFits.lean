/-
  Whether rows fit columns: the contracts of package cell's fits and Fits, of slices.EqualFunc as Fits calls it, and of the document's Fits.
-/
import Derived.Test.YtjkkkdehmgfmeaaDoorKRows
namespace Go.Proofs.YtjkkkdehmgfmeaaDoor
open Go.RowKit

structure Col where
  nm : ByteArray
  kind : Int
  nul : Bool
abbrev colv (q : Col) : Value := .agg #[.string q.nm, .int .i64 q.kind, .bool q.nul]
/-- May a cell stand in a column? -/
def fitC (c : Cl) (q : Col) : Bool := mayC c && (if c.k = 0 then q.nul else c.k == q.kind)
def fitsR : List Cl → List Col → Bool
  | [], [] => true
  | c :: r, q :: qs => fitC c q && fitsR r qs
  | [], _ :: _ => false
  | _ :: _, [] => false
theorem fitsR_len : ∀ (r : List Cl) (qs : List Col), r.length ≠ qs.length → fitsR r qs = false
  | [], [], h => absurd rfl h
  | c :: r, q :: qs, h => by
    have := fitsR_len r qs (fun e => h (by simp [e]))
    simp [fitsR, this]
  | [], _ :: _, _ => rfl
  | _ :: _, [], _ => rfl
theorem fitsR_step {r : List Cl} {qs : List Col} {i : Nat} {c : Cl} {q : Col} (hc : r[i]? = some c) (hq : qs[i]? = some q) : fitsR (r.drop i) (qs.drop i) = (fitC c q && fitsR (r.drop (i + 1)) (qs.drop (i + 1))) := by
  rw [drop_cons hc, drop_cons hq]; rfl
theorem may_zero {c : Cl} (h : mayC c = true) (hk : c.k = 0) : c.n = 0 ∧ c.s.toList.isEmpty = true := by
  unfold mayC at h
  rw [hk] at h
  rw [emp_size]
  simpa using h

/-- Columns in memory. -/
def ColsIs (w : World) (v : Value) (qs : List Col) : Prop :=
  ∃ a cap, v = .slice a qs.length cap ∧ (qs ≠ [] → ∃ b off, a = some ⟨b, off, none⟩ ∧ b < w.heap.size ∧ ∀ i (q : Col), qs[i]? = some q → w.cell? ⟨b, off + i * 3, none⟩ = some (.string q.nm) ∧ w.cell? ⟨b, off + i * 3 + 1, none⟩ = some (.int .i64 q.kind) ∧ w.cell? ⟨b, off + i * 3 + 2, none⟩ = some (.bool q.nul))
theorem ColsIs.below {w w' : World} {v : Value} {qs : List Col} (h : ColsIs w v qs) (k : Below w.heap.size w w') : ColsIs w' v qs := by
  obtain ⟨a, cap, rfl, h⟩ := h
  refine ⟨a, cap, rfl, fun hr => ?_⟩
  obtain ⟨b, off, rfl, hb, hc⟩ := h hr
  refine ⟨b, off, rfl, Nat.lt_of_lt_of_le hb k.size, fun i q hi => ?_⟩
  obtain ⟨x0, x1, x2⟩ := hc i q hi
  exact ⟨(k.cell (p := ⟨b, off + i * 3, none⟩) hb).trans x0, (k.cell (p := ⟨b, off + i * 3 + 1, none⟩) hb).trans x1, (k.cell (p := ⟨b, off + i * 3 + 2, none⟩) hb).trans x2⟩

set_option maxHeartbeats 1000000 in
theorem fits_any (c : Cl) (q : Col) (w : World) :
    Calls Tryd.prog 38 #[cv c, colv q] w fun e w' => e = .returned (.bool (fitC c q)) ∧ Below w.heap.size w w' := by
  obtain ⟨k, n, s⟩ := c
  obtain ⟨nm, kd, nl⟩ := q
  simp only [cv, colv]
  have hck : ∀ w, Calls Tryd.prog 12 #[.agg #[.int .i64 k, .int .i64 n, .string s]] w fun e w' => e = .returned (.int .i64 (errC ⟨k, n, s⟩)) ∧ Below w.heap.size w w' := fun w => check_any ⟨k, n, s⟩ w
  by_cases hz : k = 0 ∧ n = 0 ∧ s.toList.isEmpty = true
  · obtain ⟨rfl, rfl, he⟩ := hz
    have HE : Hid (fitC ⟨0, 0, s⟩ ⟨nm, kd, nl⟩ = nl) := by
      unfold Hid fitC mayC
      rw [emp_size] at he
      simp [he]
    clear hck
    go_enter Tryd.func38, Tryd.ntmps38
    go_wp2_with fail
    go_ret
    exact ⟨retB HE.out, below2 _ _ _⟩
  · have hcase : ((k == 0) = false) ∨ ((k == 0) = true ∧ (n == 0) = false) ∨ ((k == 0) = true ∧ (n == 0) = true ∧ s.toList.isEmpty = false) := by
      by_cases a1 : k = 0
      · by_cases a2 : n = 0
        · cases a3 : s.toList.isEmpty with
          | true => exact absurd ⟨a1, a2, a3⟩ hz
          | false => exact .inr (.inr ⟨by simpa using a1, by simpa using a2, rfl⟩)
        · exact .inr (.inl ⟨by simpa using a1, by simpa using a2⟩)
      · exact .inl (by simpa using a1)
    cases hm : mayC ⟨k, n, s⟩ with
    | true =>
      have hk0 : k ≠ 0 := fun e => hz ⟨e, may_zero hm e⟩
      have e0 : errC ⟨k, n, s⟩ = 0 := by unfold errC; rw [if_pos hm]
      rw [e0] at hck
      have HE : Hid (fitC ⟨k, n, s⟩ ⟨nm, kd, nl⟩ = (k == kd)) := by unfold Hid fitC; rw [hm, if_neg hk0]; rfl
      have hk' : (k == 0) = false := by simpa using hk0
      clear hcase hz hm e0 hk0
      go_enter Tryd.func38, Tryd.ntmps38
      go_wp2_with (go_at_call 12; refine (hck _).mono ?_; rintro e w1 ⟨rfl, hb1⟩; obtain ⟨B1, B2, hB⟩ := two_box hb1; clear hb1; have q0 := B1.cell 0 _ rfl; have q1 := B2.cell 1 _ rfl)
      go_ret
      exact ⟨retB HE.out, hB⟩
    | false =>
      have e0 : errC ⟨k, n, s⟩ = 1 := by unfold errC; rw [if_neg (by rw [hm]; simp)]
      rw [e0] at hck
      have HE : Hid (fitC ⟨k, n, s⟩ ⟨nm, kd, nl⟩ = false) := by unfold Hid fitC; rw [hm]; rfl
      clear hz hm e0
      rcases hcase with e1 | ⟨e1, e2⟩ | ⟨e1, e2, e3⟩
      all_goals
        go_enter Tryd.func38, Tryd.ntmps38
        go_wp2_with (go_at_call 12; refine (hck _).mono ?_; rintro e w1 ⟨rfl, hb1⟩; obtain ⟨B1, B2, hB⟩ := two_box hb1; clear hb1; have q0 := B1.cell 0 _ rfl; have q1 := B2.cell 1 _ rfl)
        go_ret
        exact ⟨retB HE.out, hB⟩

set_option maxRecDepth 4000 in
set_option maxHeartbeats 4000000 in
theorem equalFunc_any {w : World} {v1 v2 : Value} {r : List Cl} {qs : List Col} (h1 : RowIs w v1 r) (h2 : ColsIs w v2 qs) (hm : r.length ≤ maxLen) :
    Calls Tryd.prog 37 #[v1, v2, .func (.func 38) #[] #[]] w fun e w' => e = .returned (.bool (fitsR r qs)) ∧ Below w.heap.size w w' := by
  unfold maxLen at hm
  obtain ⟨a1, cap1, rfl, h1⟩ := h1
  obtain ⟨a2, cap2, rfl, h2⟩ := h2
  by_cases hlen : r.length = qs.length
  · rw [← hlen]
    obtain ⟨n, hn⟩ : ∃ n, n = r.length := ⟨_, rfl⟩
    rw [← hn] at hm hlen
    rw [← hn]
    have HN : Hid (n = r.length ∧ n = qs.length) := ⟨hn, hlen⟩
    have H1 : Hid (r ≠ [] → ∃ b off, a1 = some ⟨b, off, none⟩ ∧ b < w.heap.size ∧ ∀ i c, r[i]? = some c → CellAt w b (off + i * 3) c) := h1
    have H2 : Hid (qs ≠ [] → ∃ b off, a2 = some ⟨b, off, none⟩ ∧ b < w.heap.size ∧ ∀ i (q : Col), qs[i]? = some q → w.cell? ⟨b, off + i * 3, none⟩ = some (.string q.nm) ∧ w.cell? ⟨b, off + i * 3 + 1, none⟩ = some (.int .i64 q.kind) ∧ w.cell? ⟨b, off + i * 3 + 2, none⟩ = some (.bool q.nul)) := h2
    clear hn h1 h2 hlen
    go_enter Tryd.func37, Tryd.ntmps37
    go_wp2_with fail
    go_loopg [17] n (fun gg s17 wx => ∃ i : Nat, i + gg = n ∧ s17 = .int .i64 i ∧ Hid (fitsR r qs = fitsR (r.drop i) (qs.drop i)) ∧ Below w.heap.size w wx)
    case atStart => exact ⟨0, by omega, rfl, by unfold Hid; rw [List.drop_zero, List.drop_zero], Below.refl _ _⟩
    case round =>
      obtain ⟨i, hig, rfl, hfit, hb⟩ := hrel
      by_cases hi : i < n
      · have hiI : (i : Int) < (n : Int) := by omega
        have hrn := HN.out
        have hne : r ≠ [] := by rintro rfl; simp at hrn; omega
        have hne2 : qs ≠ [] := by rintro rfl; simp at hrn; omega
        obtain ⟨b1, off1, rfl, hb1, hc1⟩ := H1.out hne
        obtain ⟨b2, off2, rfl, hb2, hc2⟩ := H2.out hne2
        obtain ⟨c, hic⟩ : ∃ c, r[i]? = some c := ⟨_, List.getElem?_eq_getElem (by omega)⟩
        obtain ⟨q, hiq⟩ : ∃ q, qs[i]? = some q := ⟨_, List.getElem?_eq_getElem (by omega)⟩
        have hb1r : b1 < wr.heap.size := Nat.lt_of_lt_of_le hb1 hb.size
        have hb2r : b2 < wr.heap.size := Nat.lt_of_lt_of_le hb2 hb.size
        have x1 := (hc1 i c hic).below hb1 hb
        obtain ⟨y0, y1, y2⟩ := hc2 i q hiq
        have p0 := x1.c0
        have p1 := x1.c1
        have p2 := x1.c2
        have q0 := (hb.cell (p := ⟨b2, off2 + i * 3, none⟩) hb2).trans y0
        have q1 := (hb.cell (p := ⟨b2, off2 + i * 3 + 1, none⟩) hb2).trans y1
        have q2 := (hb.cell (p := ⟨b2, off2 + i * 3 + 2, none⟩) hb2).trans y2
        have hr2 : IntKind.i64.wrap ((i : Int) + 1) = (i : Int) + 1 := by rw [IntKind.wrap_i64]; omega
        have HB : Hid (Below w.heap.size w wr) := hb
        have HE : Hid (fitsR r qs = (fitC c q && fitsR (r.drop (i + 1)) (qs.drop (i + 1)))) := by unfold Hid; rw [hfit.out, fitsR_step hic hiq]
        have n1 : b1 ≠ wr.heap.size := by omega
        have n2 : b2 ≠ wr.heap.size := by omega
        have n3 : b2 ≠ wr.heap.size + 1 := by omega
        have hck : ∀ w, Calls Tryd.prog 38 #[cv c, colv q] w fun e w' => e = .returned (.bool (fitC c q)) ∧ Below w.heap.size w w' := fun w => fits_any c q w
        obtain ⟨f, hf⟩ : ∃ f, f = fitC c q := ⟨_, rfl⟩
        rw [← hf] at HE hck
        clear hic hiq hc1 hc2 x1 y0 y1 y2 hb hne hne2 hrn hfit hf
        cases f with
        | true =>
          have HR : Hid (fitsR r qs = fitsR (r.drop (i + 1)) (qs.drop (i + 1))) := by unfold Hid; rw [HE.out]; rfl
          clear HE
          go_wp2_with (go_at_call 38; refine (hck _).mono ?_; rintro e w1 ⟨rfl, hb3⟩; obtain ⟨-, -, hB⟩ := two_box hb3; clear hb3)
          go_roundg (n - (i + 1))
          case measure => clear hr2; omega
          case rel => exact ⟨i + 1, by clear hr2; omega, by go_num, HR, HB.out.trans (hB.mono HB.out.size)⟩
        | false =>
          have HR : Hid (fitsR r qs = false) := by unfold Hid; rw [HE.out]; rfl
          clear HE
          go_wp2_with (go_at_call 38; refine (hck _).mono ?_; rintro e w1 ⟨rfl, hb3⟩; obtain ⟨-, -, hB⟩ := two_box hb3; clear hb3)
          go_ret
          exact ⟨retB HR.out, HB.out.trans (hB.mono HB.out.size)⟩
      · have hiI : ¬ (i : Int) < (n : Int) := by omega
        have HB : Hid (Below w.heap.size w wr) := hb
        have HR : Hid (fitsR r qs = true) := by
          have := HN.out
          unfold Hid; rw [hfit.out, List.drop_of_length_le (by omega), List.drop_of_length_le (by omega)]; rfl
        clear hb hfit
        go_wp2_with fail
        go_ret
        exact ⟨retB HR.out, HB.out⟩
  · have HR : Hid (fitsR r qs = false) := fitsR_len r qs hlen
    have hl : ((r.length : Int) == (qs.length : Int)) = false := by simp; omega
    have hl2 : ((r.length : Int) != (qs.length : Int)) = true := by simp; omega
    generalize r.length = m at *
    generalize qs.length = m2 at *
    clear h1 h2 hlen
    go_enter Tryd.func37, Tryd.ntmps37
    go_wp2_with fail
    go_ret
    exact ⟨retB HR.out, Below.refl _ _⟩
set_option maxHeartbeats 1000000 in
theorem fitsRow_any {w : World} {v1 v2 : Value} {r : List Cl} {qs : List Col} (h1 : RowIs w v1 r) (h2 : ColsIs w v2 qs) (hm : r.length ≤ maxLen) :
    Calls Tryd.prog 22 #[v1, v2] w fun e w' => e = .returned (.int .i64 (if fitsR r qs = true then 0 else 1)) ∧ Below w.heap.size w w' := by
  have hc := equalFunc_any h1 h2 hm
  obtain ⟨f, hf⟩ : ∃ f, f = fitsR r qs := ⟨_, rfl⟩
  rw [← hf] at hc
  rw [← hf]
  clear hf h1 h2 hm
  cases f with
  | true =>
    go_enter Tryd.func22, Tryd.ntmps22
    go_wp2_with (go_at_call 37; refine hc.mono ?_; rintro e w1 ⟨rfl, hb1⟩)
    go_ret
    exact ⟨rfl, hb1⟩
  | false =>
    go_enter Tryd.func22, Tryd.ntmps22
    go_wp2_with (go_at_call 37; refine hc.mono ?_; rintro e w1 ⟨rfl, hb1⟩)
    go_ret
    exact ⟨rfl, hb1⟩
end Go.Proofs.YtjkkkdehmgfmeaaDoor
