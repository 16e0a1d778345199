/-
  3 texts, one behind the other: MLives, MRefL, MSame.
-/
import Derived.Test.YtflabcmjbhmphaaJoin9
import Derived.Test.YtflabcmjbhmphaaJoin2
import Derived.Test.YtflabcmjbhmphaaJoin3
/-
  The contracts of mover's areOf and Lives.
-/
namespace Go.Proofs.Ytflabcmjbhmphaa
open Go.RowKit

/-- May marks be, and are they of so many rows? -/
def arB (ms : List Mk) (cnt : Nat) : Bool := mayF (-1) ms && (decide (ms.length = 0) || decide (lastA ms < (cnt : Int)))
set_option maxRecDepth 4000 in
set_option maxHeartbeats 4000000 in
theorem areOf_any {w : World} {v : Value} {ms : List Mk} (h : MksIs w v ms) (hl : ms.length ≤ 1000) (cnt : Nat) :
    Calls Try.prog 38 #[.int .i64 (cnt : Int), v] w fun e w' => e = .returned (.bool (arB ms cnt)) ∧ Below w.heap.size w w' := by
  have hp := eput_any h hl
  obtain ⟨a, n, cap, rfl, hn, hcap⟩ := h.slice
  have hn1 : (n : Int) ≤ 1000 := by omega
  have HH : Hid (MksIs w (.slice a n cap) ms ∧ ms.length = n) := ⟨h, hn⟩
  obtain ⟨q, hq⟩ : ∃ q, q = mayF (-1) ms := ⟨_, rfl⟩
  have HQ : Hid (q = mayF (-1) ms) := hq
  rw [← hq] at hp
  clear h hl hn hcap hq
  go_enter Try.func38, Try.ntmps38
  go_wp2_with fail
  refine hp.mono ?_
  rintro e w1 ⟨⟨t, rfl⟩, hb1⟩
  have HB : Hid (Below w.heap.size w w1) := hb1
  clear hp hb1
  cases q with
  | false =>
    simp only [Bool.false_eq_true, if_false]
    go_wp2_with fail
    go_ret
    exact ⟨ret_bool (by unfold arB; rw [← HQ.out]; rfl), HB.out⟩
  | true =>
    simp only [if_true]
    cases n with
    | zero =>
      go_wp2_with fail
      go_ret
      exact ⟨ret_bool (by unfold arB; rw [← HQ.out, HH.out.2]; rfl), HB.out⟩
    | succ j =>
      obtain ⟨m, b, off, hm, rfl, _, c0, _⟩ := at_mk (HH.out.1.over stays_mk HB.out) (k := j) (by omega)
      have HE : Hid (lastA ms = m.a) := by
        unfold Hid
        have := take_succ_of hm
        rw [List.take_of_length_le (by rw [HH.out.2]; exact Nat.le_refl _)] at this
        rw [this, lastA_snoc]
      have hr : IntKind.i64.wrap ((j : Int) + 1 - 1) = (j : Int) := by rw [IntKind.wrap_i64]; omega
      have hj1 : ((j : Int) + 1 == 0) = false := by simp; omega
      have hjI : (j : Int) ≤ 1000 := by omega
      obtain ⟨z, hz⟩ : ∃ z, z = m.a := ⟨_, rfl⟩
      rw [← hz] at HE c0
      clear hm hz
      by_cases h1 : z < (cnt : Int)
      · have HA : Hid (arB ms cnt = true) := by unfold Hid arB; rw [← HQ.out, HE.out]; simp [h1]
        go_wp2_with fail
        go_ret
        exact ⟨ret_bool HA.out.symm, HB.out⟩
      · have HA : Hid (arB ms cnt = false) := by unfold Hid arB; rw [← HQ.out, HE.out, HH.out.2]; simp [h1]
        go_wp2_with fail
        go_ret
        exact ⟨ret_bool HA.out.symm, HB.out⟩
def lvB (b : Bool) (rows : List (List Cl)) (bs : List (BitVec 64)) (ms : List Mk) : Bool := b && (decide (bs.length = rows.length) && arB ms rows.length)
/-- What Lives answers; b: may the births be? -/
def LivesAns (w : World) (b : Bool) (rows : List (List Cl)) (bs : List (BitVec 64)) (ms : List Mk) (e : Ending) (w' : World) : Prop :=
  (if lvB b rows bs ms then ∃ v, e = .returned (.tuple #[v, .int .i64 0]) ∧ LfsIs w' v (livesA rows bs ms) else e = .returned (.tuple #[.slice none 0 0, .int .i64 1])) ∧ Below w.heap.size w w'
theorem lives_no {w w' : World} {b : Bool} {rows : List (List Cl)} {bs : List (BitVec 64)} {ms : List Mk} (h : lvB b rows bs ms = false) (hb : Below w.heap.size w w') : LivesAns w b rows bs ms (.returned (.tuple #[.slice none 0 0, .int .i64 1])) w' := ⟨by rw [if_neg (by simp [h])], hb⟩
theorem lives_yes {w w' : World} {b : Bool} {rows : List (List Cl)} {bs : List (BitVec 64)} {ms : List Mk} {v : Value} (h : lvB b rows bs ms = true) (hv : LfsIs w' v (livesA rows bs ms)) (hb : Below w.heap.size w w') : LivesAns w b rows bs ms (.returned (.tuple #[v, .int .i64 0])) w' := ⟨by rw [if_pos h]; exact ⟨v, rfl, hv⟩, hb⟩
/-- Marks that may be rise. -/
theorem may_rise {ms : List Mk} {x : Int} (h : mayF x ms = true) : ∀ (k : Nat) (m : Mk), ms[k]? = some m → x < m.a ∧ (∀ (j : Nat) (y : Mk), j < k → ms[j]? = some y → y.a < m.a) ∧ m.a ≤ lastA ms := by
  induction ms generalizing x with
  | nil => intro k m hm; simp at hm
  | cons y r ih =>
    intro k m hm
    simp only [mayF, Bool.and_eq_true, decide_eq_true_eq] at h
    have hlast : lastA (y :: r) = if r = [] then y.a else lastA r := by
      unfold lastA
      cases r with
      | nil => simp
      | cons z t => simp [List.getLast?_cons_cons]
    cases k with
    | zero =>
      simp at hm
      subst hm
      refine ⟨h.1.1.1, fun j z hj => by omega, ?_⟩
      rw [hlast]
      split
      · exact Int.le_refl _
      · rename_i hr
        obtain ⟨z, t, rfl⟩ := List.exists_cons_of_ne_nil hr
        have := ih h.2 0 z rfl
        omega
    | succ k =>
      have hm' : r[k]? = some m := by simpa using hm
      obtain ⟨h1, h2, h3⟩ := ih h.2 k m hm'
      refine ⟨by have := h.1.1.1; omega, fun j z hj hz => ?_, ?_⟩
      · cases j with
        | zero => simp at hz; subst hz; exact h1
        | succ j => exact h2 j z (by omega) (by simpa using hz)
      · rw [hlast, if_neg (by rintro rfl; simp at hm')]
        exact h3
theorem gone_nil (i : Int) : goneA [] i = 0 := rfl
theorem gone_snoc_same {p : List Mk} {m : Mk} (h : ∀ x ∈ p, x.a < m.a) : goneA (p ++ [m]) m.a = m.g := by
  unfold goneA
  rw [List.find?_append]
  have : p.find? (fun y => y.a == m.a) = none := by
    rw [List.find?_eq_none]
    intro x hx
    have := h x hx
    simp; omega
  rw [this]
  simp
theorem gone_snoc_other {p : List Mk} {m : Mk} {i : Int} (h : m.a ≠ i) : goneA (p ++ [m]) i = goneA p i := by
  unfold goneA
  rw [List.find?_append]
  cases p.find? (fun y => y.a == i) with
  | some y => rfl
  | none => simp [h]
/-- One mark more. -/
theorem lives_mark {rows : List (List Cl)} {bs : List (BitVec 64)} {p : List Mk} {m : Mk} {i : Nat} (hi : i < rows.length) (ha : m.a = (i : Int)) (h : ∀ x ∈ p, x.a < m.a) : (livesA rows bs p).set i ⟨rows.getD i [], bs.getD i 0#64, m.g⟩ = livesA rows bs (p ++ [m]) := by
  apply List.ext_getElem?
  intro j
  by_cases hj : j < rows.length
  · rw [livesA_at hj]
    by_cases e : i = j
    · subst e
      rw [List.getElem?_set_self (by rw [livesA_len]; exact hi)]
      unfold lifeA
      rw [← ha, gone_snoc_same h]
    · rw [List.getElem?_set_ne e, livesA_at hj]
      unfold lifeA
      rw [gone_snoc_other (by omega)]
  · rw [List.getElem?_eq_none (by rw [List.length_set, livesA_len]; omega), List.getElem?_eq_none (by rw [livesA_len]; omega)]
theorem lfX_zero (G : Nat → Prop) (w : World) : LfX G w ⟨[], 0#64, 0⟩ [.slice none 0 0, .int .i64 0, .int .i64 0] := ⟨_, rfl, slX_nil _ _ _ _ _ _⟩
theorem size_lv : (Try.prog.info? 61).map (·.size) = some 3 := by kernel_rfl
set_option maxRecDepth 4000 in
set_option maxHeartbeats 8000000 in
theorem lives_any {w : World} {vr vb vm : Value} {rows : List (List Cl)} {rs : List Rn} {ms : List Mk} (h1 : RwsIs w vr rows) (h2 : RunsIs w vb rs) (h3 : MksIs w vm ms) (l1 : rows.length ≤ 100) (l2 : rs.length ≤ 1000) (l3 : ms.length ≤ 1000) (hr : ∀ r ∈ rows, r.length ≤ 1000) (b : Bool) (hb : b = true ↔ May rs) :
    Calls Try.prog 18 #[vr, vb, vm] w (LivesAns w b rows (flat rs) ms) := by
  obtain ⟨ar, n, cr, rfl, hn, hcr⟩ := h1.slice
  obtain ⟨ab, nb, cb, rfl, hnb, hcb⟩ := h2.slice
  obtain ⟨am, nm, cm, rfl, hnm, hcm⟩ := h3.slice
  have hnI : (n : Int) ≤ 100 := by omega
  have hnmI : (nm : Int) ≤ 1000 := by omega
  have HH : Hid (RwsIs w (.slice ar n cr) rows ∧ MksIs w (.slice am nm cm) ms ∧ rows.length = n ∧ ms.length = nm ∧ n ≤ 100 ∧ nm ≤ 1000 ∧ ∀ r ∈ rows, r.length ≤ 1000) := ⟨h1, h3, hn, hnm, by omega, by omega, hr⟩
  cases b with
  | false =>
    have hf := flat_no h2 (by omega) (fun hm => by have := hb.2 hm; simp at this)
    clear h1 h2 h3 l1 l2 l3 hr hb hn hnb hnm hcr hcb hcm
    go_enter Try.func18, Try.ntmps18
    go_wp2_with (go_at_call 37; refine hf.mono ?_; rintro e w1 ⟨rfl, hb1⟩)
    go_ret2
    exact lives_no rfl hb1
  | true =>
    have hf := flat_yes h2 (hb.1 rfl)
    have har := fun W (hW : Below w.heap.size w W) => areOf_any (h3.over stays_mk hW) (by omega) n
    obtain ⟨q, hq⟩ : ∃ q, q = arB ms n := ⟨_, rfl⟩
    rw [← hq] at har
    have HAR : Hid ((∀ W, Below w.heap.size w W → Calls Try.prog 38 #[.int .i64 (n : Int), .slice am nm cm] W fun e w' => e = .returned (.bool q) ∧ Below W.heap.size W w') ∧ q = arB ms rows.length) := ⟨har, by rw [hn]; exact hq⟩
    have HF : Hid ((flat rs).length ≤ 65536) := by
      have e1 := flat_len (hb.1 rfl).chain
      have e2 := end_bd (hb.1 rfl).chain
      unfold Hid; omega
    clear h1 h2 h3 l1 l2 l3 hr hb hn hnb hnm hcr hcb hcm hq har
    go_enter Try.func18, Try.ntmps18
    go_wp2_with fail
    refine hf.mono ?_
    rintro e w1 ⟨⟨v1, rfl, ho1⟩, hb1⟩
    have HE : Hid (IntsIs w1 v1 (flat rs)) := ints_of_own ho1
    have HB1 : Hid (Below w.heap.size w w1) := hb1
    obtain ⟨ae, ne, ce, rfl, hne, hce⟩ := (ints_of_own ho1).slice
    have HNE : Hid ((flat rs).length = ne ∧ ne ≤ 65536) := ⟨hne, by rw [← hne]; exact HF.out⟩
    have hneI : (ne : Int) ≤ 65536 := by have := HNE.out.2; omega
    clear hf ho1 hb1 hne hce HF
    by_cases hlen : ne = n
    · subst hlen
      have HCA : Hid (Calls Try.prog 38 #[.int .i64 (ne : Int), .slice am nm cm] w1 fun e w' => e = .returned (.bool q) ∧ Below w1.heap.size w1 w') := HAR.out.1 w1 HB1.out
      cases q with
      | false =>
        go_wp2_with (go_at_call 38; refine HCA.out.mono ?_; rintro e w2 ⟨rfl, hb2⟩; have HB2 : Hid (Below w.heap.size w w2) := HB1.out.trans (hb2.mono HB1.out.size); clear hb2)
        go_ret2
        exact lives_no (by unfold lvB; rw [← HAR.out.2]; simp) HB2.out
      | true =>
        have HLV : Hid (lvB true rows (flat rs) ms = true) := by unfold Hid lvB; rw [← HAR.out.2, HNE.out.1, HH.out.2.2.1]; simp
        have HRise : Hid (∀ (k : Nat) (m : Mk), ms[k]? = some m → ∃ i : Nat, m.a = (i : Int) ∧ i < ne ∧ ∀ x ∈ ms.take k, x.a < m.a) := fun k m hm => by
          have h0 := HAR.out.2
          unfold arB at h0
          have h1 : mayF (-1) ms = true := by
            cases e : mayF (-1) ms with
            | true => rfl
            | false => rw [e] at h0; simp at h0
          rw [h1, Bool.true_and] at h0
          obtain ⟨r1, r2, r3⟩ := may_rise h1 k m hm
          have hl : ms.length ≠ 0 := by have := (List.getElem?_eq_some_iff.1 hm).1; omega
          rw [decide_eq_false hl, Bool.false_or] at h0
          have h2 : lastA ms < (rows.length : Int) := by simpa using h0.symm
          rw [HH.out.2.2.1] at h2
          refine ⟨m.a.toNat, by omega, by omega, fun x hx => ?_⟩
          obtain ⟨j, hj⟩ := List.mem_iff_getElem?.1 hx
          rw [List.getElem?_take] at hj
          split at hj
          · exact r2 j x (by assumption) hj
          · cases hj
        clear HAR
        go_wp2_with (first
          | (go_at_call 38; refine HCA.out.mono ?_; rintro e w2 ⟨rfl, hb2⟩; have HB2 : Hid (Below w1.heap.size w1 w2) := hb2; clear hb2)
          | (refine make_rows rfl _ _ 22 61 (.agg #[.slice none 0 0, .int .i64 0, .int .i64 0]) 3 40 rfl Try.underlying22 infos_lf rfl (by decide) (by decide) rfl rfl rfl (Nat.le_trans HH.out.2.2.2.2.1 (by decide)) ?_; intro w3 hs3 hb3))
        obtain ⟨g0, hg0⟩ : ∃ g0, g0 = w2.heap.size := ⟨_, rfl⟩
        have HO : Hid (OwnX LfX 3 61 (fun _ => False) w2 w3 (.slice (some ⟨g0, 0, none⟩) ne ne) (List.replicate ne ⟨[], 0#64, 0⟩)) := by
          rw [hg0]
          exact ownX_made hs3.out (Below.refl _ _) hb3.out (fun G => lfX_zero G w3) (fun _ h => h.elim) (fun h => h)
        have HB : Hid (Below w.heap.size w w2 ∧ Below w1.heap.size w1 w2) := ⟨HB1.out.trans (HB2.out.mono HB1.out.size), HB2.out⟩
        rw [← hg0]
        clear hs3 hb3 hg0 HCA HB1 HB2
        go_loopg [41] ne (fun gg s41 wx => ∃ (k : Nat) (L : List Lf), k + gg = ne ∧ s41 = .int .i64 k ∧ Hid (L.length = ne ∧ (∀ j, j < k → L[j]? = (livesA rows (flat rs) [])[j]?) ∧ OwnX LfX 3 61 (fun _ => False) w2 wx (.slice (some ⟨g0, 0, none⟩) ne ne) L))
        case atStart => exact ⟨0, _, by omega, rfl, by simp, fun j hj => by omega, HO.out⟩
        case round =>
          clear HO
          obtain ⟨k, L, hkg, rfl, HL⟩ := hrel
          have HBr : Hid (Below w.heap.size w wr ∧ Below w1.heap.size w1 wr) := ⟨HB.out.1.trans (HL.out.2.2.bel.mono HB.out.1.size), HB.out.2.trans (HL.out.2.2.bel.mono HB.out.2.size)⟩
          by_cases hk : k < ne
          · have hkI : (k : Int) < (ne : Int) := by omega
            have hr2 : IntKind.i64.wrap ((k : Int) + 1) = (k : Int) + 1 := by rw [IntKind.wrap_i64]; omega
            obtain ⟨r, b1, o1, a2, n2, c2, hx, rfl, _, x0, hv, hn2, _⟩ := at_rw (HH.out.1.over stays_rw HBr.out.1) hk
            obtain ⟨z, be, oe, hz, rfl, hbe, e00⟩ := at_int HE.out hk
            have e0 := (HBr.out.2.cell (p := ⟨be, oe + k, none⟩) hbe).trans e00
            obtain ⟨zi, hzi⟩ : ∃ zi, zi = z.toInt := ⟨_, rfl⟩
            rw [← hzi] at e0 e00
            have HX : Hid (rows[k]? = some r ∧ (flat rs)[k]? = some z ∧ zi = z.toInt ∧ be < w1.heap.size ∧ w1.cell? ⟨be, oe + k, none⟩ = some (.int .i64 zi) ∧ SlIs CE 3 wr (.slice a2 n2 c2) r ∧ r.length ≤ 1000) := ⟨hx, hz, hzi, hbe, e00, hv, HH.out.2.2.2.2.2.2 r (List.mem_of_getElem? hx)⟩
            clear hx hz hzi hbe e00 hv hn2
            go_wp2_with fail
            refine wp_region_held_then (fun W' : World => W'.cell? ⟨be, oe + k, none⟩ = some (.int .i64 zi)) _ (by kernel_rfl) rfl (by kernel_rfl) ?_
            have hHeld : (fun W' : World => W'.cell? ⟨be, oe + k, none⟩ = some (.int .i64 zi)) wr.drew := e0
            dsimp only [List.dropLast, List.length, List.getLast]
            ((refine takeL 0 (v := ?_) rfl (by kernel_rfl) (by kernel_rfl) (by kernel_rfl) (fun _ _ _ h => h) (by rfl) hHeld ?_ ?_; rotate_left; focus (intro w hSw; (try dsimp only at hSw); go_simp <;> with_reducible rfl); (try simp only [Act.put, List.setIfInBounds_toArray, List.set_cons_zero, List.set_cons_succ])); (refine takeL 1 (v := ?_) rfl (by kernel_rfl) (by kernel_rfl) (by kernel_rfl) (fun _ _ _ h => h) (by rfl) hHeld ?_ ?_; rotate_left; focus (intro w hSw; (try dsimp only at hSw); go_simp <;> with_reducible rfl); (try simp only [Act.put, List.setIfInBounds_toArray, List.set_cons_zero, List.set_cons_succ])); (refine takeL 2 (v := ?_) rfl (by kernel_rfl) (by kernel_rfl) (by kernel_rfl) (fun _ _ _ h => h) (by rfl) hHeld ?_ ?_; rotate_left; focus (intro w hSw; (try dsimp only at hSw); go_simp <;> with_reducible rfl); (try simp only [Act.put, List.setIfInBounds_toArray, List.set_cons_zero, List.set_cons_succ])); (refine takeL 4 (v := ?_) rfl (by kernel_rfl) (by kernel_rfl) (by kernel_rfl) (fun _ _ _ h => h) (by rfl) hHeld ?_ ?_; rotate_left; focus (intro w hSw; (try dsimp only at hSw); go_simp <;> with_reducible rfl); (try simp only [Act.put, List.setIfInBounds_toArray, List.set_cons_zero, List.set_cons_succ])))
            dsimp only [Act.put]
            simp only [List.setIfInBounds_toArray, List.set_cons_zero, List.set_cons_succ]
            ((refine takeL 5 (v := ?_) rfl (by kernel_rfl) (by kernel_rfl) (by kernel_rfl) (fun _ _ _ h => h) (by rfl) hHeld ?_ ?_; rotate_left; focus (intro w hSw; (try dsimp only at hSw); go_simp <;> with_reducible rfl); (try simp only [Act.put, List.setIfInBounds_toArray, List.set_cons_zero, List.set_cons_succ])); (refine takeL 6 (v := ?_) rfl (by kernel_rfl) (by kernel_rfl) (by kernel_rfl) (fun _ _ _ h => h) (by rfl) hHeld ?_ ?_; rotate_left; focus (intro w hSw; (try dsimp only at hSw); go_simp <;> with_reducible rfl); (try simp only [Act.put, List.setIfInBounds_toArray, List.set_cons_zero, List.set_cons_succ])); (refine takeL 7 (v := ?_) rfl (by kernel_rfl) (by kernel_rfl) (by kernel_rfl) (fun _ _ _ h => h) (by rfl) hHeld ?_ ?_; rotate_left; focus (intro w hSw; (try dsimp only at hSw); go_simp <;> with_reducible rfl); (try simp only [Act.put, List.setIfInBounds_toArray, List.set_cons_zero, List.set_cons_succ])))
            dsimp only [Act.put]
            simp only [List.setIfInBounds_toArray, List.set_cons_zero, List.set_cons_succ]
            refine callL 3 (f := 33) (vs := #[.slice a2 n2 c2]) rfl (by kernel_rfl) (by rfl) (by go_simp) ?_
            refine Calls.mono (cloneR_any (w := wr.drew) (v := .slice a2 n2 c2) (l := r) (HX.out.2.2.2.2.2.1.over stays_c ((Below.refl _ wr).drew)) (by have := HX.out.2.2.2.2.2.2; omega)) ?_
            rintro e w5 ⟨⟨v5, R5, rfl, hs5, hE5, ho5⟩, hb5⟩
            have hb5' : Below wr.heap.size wr w5 := ((Below.refl _ wr).drew).trans hb5
            have hHeld2 : (fun W' : World => W'.cell? ⟨be, oe + k, none⟩ = some (.int .i64 zi)) w5 := ((HBr.out.2.trans (hb5'.mono HBr.out.2.size)).cell (p := ⟨be, oe + k, none⟩) HX.out.2.2.2.1).trans HX.out.2.2.2.2.1
            obtain ⟨a5, n5, c5, rfl⟩ : ∃ a n c, v5 = .slice a n c := by rcases hs5 with ⟨rfl, _⟩ | ⟨g, c, rfl, _⟩ <;> exact ⟨_, _, _, rfl⟩
            have hglt := (HL.out.2.2.own (k := g0) rfl).2.2
            obtain ⟨g, cap', x', r', e, _, _, _, hx', hrl', _, _, hth, _, hset⟩ := (HL.out.2.2.over xok_lf hb5').at xok_lf (i := k) (by rw [HL.out.1]; exact hk)
            rw [HL.out.1] at e
            cases e
            have hth2 : w5.there g0 (k * 3) (#[.slice a5 n5 c5, .int .i64 zi, .int .i64 0] : Array Value).size := hth
            have hone : (#[.slice a5 n5 c5, .int .i64 zi, .int .i64 0] : Array Value).all (fun c => c.oneCell') = true := one_three (by intro u hu; simp only [List.mem_cons, List.not_mem_nil, or_false] at hu; rcases hu with rfl | rfl | rfl <;> rfl)
            have HR : Hid ((∀ j, j < k + 1 → (L.set k ⟨r, z, 0⟩)[j]? = (livesA rows (flat rs) [])[j]?) ∧ OwnX LfX 3 61 (fun _ => False) w2 (w5.setCells g0 (k * 3) [.slice a5 n5 c5, .int .i64 zi, .int .i64 0]) (.slice (some ⟨g0, 0, none⟩) ne ne) (L.set k ⟨r, z, 0⟩)) := by
              refine ⟨prefix_step HL.out.2.1 (by rw [HL.out.1]; exact hk) ?_, ?_⟩
              · rw [livesA_at (by rw [HH.out.2.2.1]; exact hk)]
                unfold lifeA
                rw [List.getD_eq_getElem?_getD, List.getD_eq_getElem?_getD, HX.out.1, HX.out.2.1, gone_nil]
                rfl
              · exact hset [.slice a5 n5 c5, .int .i64 zi, .int .i64 0] ⟨r, z, 0⟩ rfl ⟨_, by rw [HX.out.2.2.1], cloned_x hs5 hE5 ho5 (fun y hy => by
                  rcases hy with hy | hy
                  · have e : some g0 = some y := hy
                    cases e; exact hglt
                  · exact hy.elim)⟩
            have HLL : Hid (L.length = ne) := HL.out.1
            clear hs5 hE5 ho5 hb5 hb5' hx' hrl' hth hset hHeld e0 x0 hglt
            refine ⟨_, rfl, hHeld2, ?_⟩
            try dsimp only [Act.put]
            try simp only [List.setIfInBounds_toArray, List.set_cons_zero, List.set_cons_succ]
            ((refine takeL 8 (v := ?_) rfl (by kernel_rfl) (by kernel_rfl) (by kernel_rfl) (fun _ _ _ h => h) (by rfl) hHeld2 ?_ ?_; rotate_left; focus (intro w hSw; (try dsimp only at hSw); go_simp <;> with_reducible rfl); (try simp only [Act.put, List.setIfInBounds_toArray, List.set_cons_zero, List.set_cons_succ])); (refine takeL 9 (v := ?_) rfl (by kernel_rfl) (by kernel_rfl) (by kernel_rfl) (fun _ _ _ h => h) (by rfl) hHeld2 ?_ ?_; rotate_left; focus (intro w hSw; (try dsimp only at hSw); go_simp <;> with_reducible rfl); (try simp only [Act.put, List.setIfInBounds_toArray, List.set_cons_zero, List.set_cons_succ])))
            refine doneL (by kernel_rfl) ?_
            try dsimp only [Act.put]
            try simp only [List.setIfInBounds_toArray, List.set_cons_zero, List.set_cons_succ]
            clear hHeld2
            refine wp_store_mid 61 _ _ rfl g0 (k * 3) #[.slice a5 n5 c5, .int .i64 zi, .int .i64 0] (by go_simp) (by go_simp) hth2 size_lv hone ?_
            try dsimp only [Act.put]
            go_wp2_with fail
            go_roundg (ne - (k + 1))
            case measure => clear hr2; omega
            case rel => exact ⟨k + 1, _, by clear hr2; omega, by go_num, by rw [List.length_set]; exact HLL.out, HR.out.1, HR.out.2⟩
          · have hkI : ¬ (k : Int) < (ne : Int) := by omega
            obtain rfl : k = ne := by omega
            have HLE : Hid (OwnX LfX 3 61 (fun _ => False) w2 wr (.slice (some ⟨g0, 0, none⟩) k k) (livesA rows (flat rs) [])) := by
              have := prefix_done HL.out.2.1 HL.out.1 (by rw [livesA_len]; exact HH.out.2.2.1)
              rw [← this]; exact HL.out.2.2
            clear HL HBr
            go_wp2_with fail
            go_loopg [59] nm (fun gg s59 wx => ∃ i : Nat, i + gg = nm ∧ s59 = .int .i64 i ∧ Hid (OwnX LfX 3 61 (fun _ => False) w2 wx (.slice (some ⟨g0, 0, none⟩) k k) (livesA rows (flat rs) (ms.take i))))
            case atStart => exact ⟨0, by omega, rfl, by rw [List.take_zero]; exact HLE⟩
            case round =>
              clear HLE
              obtain ⟨i, hig, rfl, HL⟩ := hrel
              have HBr : Hid (Below w.heap.size w wr) := HB.out.1.trans (HL.out.bel.mono HB.out.1.size)
              by_cases hi : i < nm
              · have hiI : (i : Int) < (nm : Int) := by omega
                have hr2 : IntKind.i64.wrap ((i : Int) + 1) = (i : Int) + 1 := by rw [IntKind.wrap_i64]; omega
                obtain ⟨m, bm, om, hm, rfl, _, m0, m1⟩ := at_mk (HH.out.2.1.over stays_mk HBr.out) hi
                obtain ⟨p, hp1, hp2, hp3⟩ := HRise.out i m hm
                rw [hp1] at m0
                obtain ⟨c, hc⟩ : ∃ c, c = m.g := ⟨_, rfl⟩
                rw [← hc] at m1
                have hpI : (p : Int) < (k : Int) := by omega
                obtain ⟨W, hW⟩ : ∃ W, W = wr.alloc (.cells #[.int .i64 p, .int .i64 c] 66) := ⟨_, rfl⟩
                have hbW : Below wr.heap.size wr W := by rw [hW]; exact below1 _ _
                have hlen : (livesA rows (flat rs) (ms.take i)).length = k := by rw [livesA_len]; exact HH.out.2.2.1
                obtain ⟨g, cap', x', r', e, _, _, _, hx', hrl', hE', hcells, _, hset, _⟩ := (HL.out.over xok_lf hbW).at xok_lf (i := p) (by rw [hlen]; exact hp2)
                rw [hlen] at e
                cases e
                obtain ⟨v', rfl, hv'⟩ := hE'
                have hc2 := hcells 2 _ rfl
                have k0 := hc2.1
                have k1 := hc2.2
                have HN : Hid (OwnX LfX 3 61 (fun _ => False) w2 (W.setCell ⟨g0, p * 3 + 2, none⟩ (.int .i64 c)) (.slice (some ⟨g0, 0, none⟩) k k) (livesA rows (flat rs) (ms.take (i + 1)))) := by
                  have hpr : p < rows.length := by rw [HH.out.2.2.1]; exact hp2
                  rw [livesA_at hpr] at hx'
                  obtain rfl := Option.some.inj hx'
                  have := hset 2 (.int .i64 c) ⟨rows.getD p [], (flat rs).getD p 0#64, c⟩ (by decide) ⟨v', rfl, hv'⟩
                  rw [hc, lives_mark hpr hp1 hp3, ← take_succ_of hm] at this
                  rw [hc]
                  exact this
                rw [hW] at k0 k1 HN
                clear hm hp1 hp3 hc hW hbW hlen hx' hrl' hv' hcells hset hc2
                go_wp2_with fail
                go_roundg (nm - (i + 1))
                case measure => clear hr2; omega
                case rel => exact ⟨i + 1, by clear hr2; omega, by go_num, HN⟩
              · have hiI : ¬ (i : Int) < (nm : Int) := by omega
                have e : ms.take i = ms := List.take_of_length_le (by rw [HH.out.2.2.2.1]; omega)
                have HF : Hid (OwnX LfX 3 61 (fun _ => False) w2 wr (.slice (some ⟨g0, 0, none⟩) k k) (livesA rows (flat rs) ms)) := by have := HL.out; rw [e] at this; exact this
                clear e HL
                go_wp2_with fail
                go_ret2
                exact lives_yes HLV.out (HF.out.is xok_lf) HBr.out
    · have hx : ¬ (ne : Int) = (n : Int) := by omega
      have hxb : ((ne : Int) != (n : Int)) = true := by simpa using hx
      go_wp2_with fail
      go_ret2
      exact lives_no (by unfold lvB; rw [decide_eq_false (by rw [HNE.out.1, HH.out.2.2.1]; exact hlen)]; rfl) HB1.out
end Go.Proofs.Ytflabcmjbhmphaa
/-
  The contract of the document's Lives.
-/
namespace Go.Proofs.Ytflabcmjbhmphaa
open Go.RowKit

set_option maxRecDepth 20000 in
set_option maxHeartbeats 8000000 in
theorem refLives_any {w : World} {vr vb vm : Value} {rows : List (List Cl)} {rs : List Rn} {ms : List Mk} (h1 : RwsIs w vr rows) (h2 : RunsIs w vb rs) (h3 : MksIs w vm ms) (l1 : rows.length ≤ 100) (l2 : rs.length ≤ 1000) (l3 : ms.length ≤ 1000) (b : Bool) (hb : b = true ↔ May rs) :
    Calls Try.prog 19 #[vr, vb, vm] w (LivesAns w b rows (flat rs) ms) := by
  obtain ⟨ar, n, cr, rfl, hn, hcr⟩ := h1.slice
  obtain ⟨ab, nb, cb, rfl, hnb, hcb⟩ := h2.slice
  obtain ⟨am, nm, cm, rfl, hnm, hcm⟩ := h3.slice
  have hnI : (n : Int) ≤ 100 := by omega
  have hnmI : (nm : Int) ≤ 1000 := by omega
  have HH : Hid (RwsIs w (.slice ar n cr) rows ∧ MksIs w (.slice am nm cm) ms ∧ rows.length = n ∧ ms.length = nm ∧ n ≤ 100 ∧ nm ≤ 1000) := ⟨h1, h3, hn, hnm, by omega, by omega⟩
  cases b with
  | false =>
    have hf := refFlat_no h2 (by omega) (fun hm => by have := hb.2 hm; simp at this)
    clear h1 h2 h3 l1 l2 l3 hb hn hnb hnm hcr hcb hcm
    go_enter Try.func19, Try.ntmps19
    go_wp2_with (go_at_call 39; refine hf.mono ?_; rintro e w1 ⟨rfl, hb1⟩)
    go_ret2
    exact lives_no rfl hb1
  | true =>
    have hf := refFlat_yes h2 (hb.1 rfl)
    have HMM : Hid (∀ W, Below w.heap.size w W → Calls Try.prog 40 #[.slice am nm cm] W fun e w' => e = .returned (.bool (mayF (-1) ms)) ∧ Below W.heap.size W w') := fun W (hW : Below w.heap.size w W) => refMayM_any (h3.over stays_mk hW) (by omega)
    have HF : Hid ((flat rs).length ≤ 65536) := by
      have e1 := flat_len (hb.1 rfl).chain
      have e2 := end_bd (hb.1 rfl).chain
      unfold Hid; omega
    clear h1 h2 h3 l1 l2 l3 hb hn hnb hnm hcr hcb hcm
    go_enter Try.func19, Try.ntmps19
    go_wp2_with fail
    refine hf.mono ?_
    rintro e w1 ⟨⟨v1, rfl, ho1⟩, hb1⟩
    have HE : Hid (IntsIs w1 v1 (flat rs)) := ints_of_own ho1
    have HB1 : Hid (Below w.heap.size w w1) := hb1
    obtain ⟨ae, ne, ce, rfl, hne, hce⟩ := (ints_of_own ho1).slice
    have HNE : Hid ((flat rs).length = ne ∧ ne ≤ 65536) := ⟨hne, by rw [← hne]; exact HF.out⟩
    have hneI : (ne : Int) ≤ 65536 := by have := HNE.out.2; omega
    clear hf ho1 hb1 hne hce HF
    by_cases hlen : ne = n
    · subst hlen
      have HCA := HMM.out w1 HB1.out
      obtain ⟨q, hq⟩ : ∃ q, q = mayF (-1) ms := ⟨_, rfl⟩
      rw [← hq] at HCA
      have HCA : Hid (Calls Try.prog 40 #[.slice am nm cm] w1 fun e w' => e = .returned (.bool q) ∧ Below w1.heap.size w1 w') := HCA
      have HQ : Hid (q = mayF (-1) ms) := hq
      clear hq HMM
      cases q with
      | false =>
        go_wp2_with (go_at_call 40; refine HCA.out.mono ?_; rintro e w2 ⟨rfl, hb2⟩; have HB2 : Hid (Below w.heap.size w w2) := HB1.out.trans (hb2.mono HB1.out.size); clear hb2)
        go_ret2
        exact lives_no (by unfold lvB arB; rw [← HQ.out]; simp) HB2.out
      | true =>
        rcases (show (nm = 0 ∧ lvB true rows (flat rs) ms = true) ∨ (∃ j m b off, nm = j + 1 ∧ ms[j]? = some m ∧ lastA ms = m.a ∧ am = some ⟨b, off, none⟩ ∧ b < w.heap.size ∧ w.cell? ⟨b, off + j * 2, none⟩ = some (.int .i64 m.a) ∧ ((m.a < (ne : Int) ∧ lvB true rows (flat rs) ms = true) ∨ (¬ m.a < (ne : Int) ∧ lvB true rows (flat rs) ms = false))) by
          cases nm with
          | zero => exact .inl ⟨rfl, by unfold lvB arB; rw [← HQ.out, HH.out.2.2.2.1, HNE.out.1, HH.out.2.2.1]; simp⟩
          | succ j =>
            obtain ⟨m, b, off, hm, hb, hlt, c0, _⟩ := at_mk HH.out.2.1 (k := j) (by omega)
            have e : lastA ms = m.a := by
              have := take_succ_of hm
              rw [List.take_of_length_le (by rw [HH.out.2.2.2.1]; exact Nat.le_refl _)] at this
              rw [this, lastA_snoc]
            refine .inr ⟨j, m, b, off, rfl, hm, e, hb, hlt, c0, ?_⟩
            by_cases h1 : m.a < (ne : Int)
            · exact .inl ⟨h1, by unfold lvB arB; rw [← HQ.out, HNE.out.1, HH.out.2.2.1, e]; simp [h1]⟩
            · exact .inr ⟨h1, by unfold lvB arB; rw [← HQ.out, HNE.out.1, HH.out.2.2.1, HH.out.2.2.2.1, e]; simp [h1]⟩) with ⟨rfl, hlv⟩ | ⟨j, m, bm, om, rfl, hm, he, rfl, hbm, mc, ⟨hz, hlv⟩ | ⟨hz, hlv⟩⟩
        case' inl =>
          have HLV : Hid (lvB true rows (flat rs) ms = true) := hlv
          clear hlv
          go_wp2_with (go_at_call 40; refine HCA.out.mono ?_; rintro e w2 ⟨rfl, hb2⟩; have HB2 : Hid (Below w1.heap.size w1 w2) := hb2; clear hb2)
        case' inr.inr =>
          obtain ⟨z, hzz⟩ : ∃ z, z = m.a := ⟨_, rfl⟩
          rw [← hzz] at mc hz
          have hr : IntKind.i64.wrap ((j : Int) + 1 - 1) = (j : Int) := by rw [IntKind.wrap_i64]; omega
          have hjI : (j : Int) ≤ 1000 := by omega
          have hj0 : (0 : Int) < (j : Int) + 1 := by omega
          have HLV : Hid (lvB true rows (flat rs) ms = false ∧ bm < w.heap.size ∧ w.cell? ⟨bm, om + j * 2, none⟩ = some (.int .i64 z)) := ⟨hlv, hbm, mc⟩
          have hzI : (ne : Int) ≤ z := by omega
          clear hm he hbm mc hlv hzz hz
          go_wp2_with (go_at_call 40; refine HCA.out.mono ?_; rintro e w2 ⟨rfl, hb2⟩; have HB2 : Hid (Below w.heap.size w w2) := HB1.out.trans (hb2.mono HB1.out.size); clear hb2; have mc2 := (HB2.out.cell (p := ⟨bm, om + j * 2, none⟩) HLV.out.2.1).trans HLV.out.2.2)
          go_ret2
          exact lives_no HLV.out.1 HB2.out
        case' inr.inl =>
          obtain ⟨z, hzz⟩ : ∃ z, z = m.a := ⟨_, rfl⟩
          rw [← hzz] at mc hz
          have hr : IntKind.i64.wrap ((j : Int) + 1 - 1) = (j : Int) := by rw [IntKind.wrap_i64]; omega
          have hjI : (j : Int) ≤ 1000 := by omega
          have hj0 : (0 : Int) < (j : Int) + 1 := by omega
          have HLV : Hid (lvB true rows (flat rs) ms = true) := hlv
          have HMC : Hid (bm < w.heap.size ∧ w.cell? ⟨bm, om + j * 2, none⟩ = some (.int .i64 z)) := ⟨hbm, mc⟩
          have hzI : ¬ (ne : Int) ≤ z := by omega
          clear hm he hbm mc hlv hzz hz
          go_wp2_with (go_at_call 40; refine HCA.out.mono ?_; rintro e w2 ⟨rfl, hb2⟩; have HB2 : Hid (Below w1.heap.size w1 w2) := hb2; have hBB := HB1.out.trans (hb2.mono HB1.out.size); clear hb2; have mc2 := (hBB.cell (p := ⟨bm, om + j * 2, none⟩) HMC.out.1).trans HMC.out.2; clear hBB)
          clear mc2 hr hjI hj0 hzI HMC
        all_goals
          have HB : Hid (Below w.heap.size w w2 ∧ Below w1.heap.size w1 w2) := ⟨HB1.out.trans (HB2.out.mono HB1.out.size), HB2.out⟩
          have HO : Hid (OwnS LfE 3 61 w2 w2 (.slice none 0 0) []) := ownS_nil _ _ _ (Below.refl _ _)
          clear HCA HB1 HB2
          go_loopg [10, 11] ne (fun gg s10 s11 wx => ∃ (k : Nat) (ao : Option Addr) (co : Nat), k + gg = ne ∧ s11 = .int .i64 k ∧ s10 = .slice ao k co ∧ Hid (OwnS LfE 3 61 w2 wx (.slice ao k co) ((livesA rows (flat rs) ms).take k)))
          case atStart => exact ⟨0, none, 0, by omega, rfl, rfl, by rw [List.take_zero]; exact HO⟩
          case round =>
            clear HO
            obtain ⟨k, ao, co, hkg, rfl, rfl, HL⟩ := hrel
            have HBr : Hid (Below w.heap.size w wr ∧ Below w1.heap.size w1 wr) := ⟨HB.out.1.trans (HL.out.bel.mono HB.out.1.size), HB.out.2.trans (HL.out.bel.mono HB.out.2.size)⟩
            by_cases hk : k < ne
            · have hkI : (k : Int) < (ne : Int) := by omega
              have hr2 : IntKind.i64.wrap ((k : Int) + 1) = (k : Int) + 1 := by rw [IntKind.wrap_i64]; omega
              obtain ⟨r, b1, o1, a2, n2, c2, hx, rfl, hb1, x00, hv, hn2, _⟩ := at_rw HH.out.1 hk
              obtain ⟨z, be, oe, hz, rfl, hbe, e00⟩ := at_int HE.out hk
              obtain ⟨zi, hzi⟩ : ∃ zi, zi = z.toInt := ⟨_, rfl⟩
              rw [← hzi] at e00
              have HS : Hid (∀ W, Below w2.heap.size w2 W → W.cell? ⟨b1, o1 + k, none⟩ = some (.slice a2 n2 c2) ∧ W.cell? ⟨be, oe + k, none⟩ = some (.int .i64 zi)) := fun W hW =>
                ⟨((HB.out.1.trans (hW.mono HB.out.1.size)).cell (p := ⟨b1, o1 + k, none⟩) hb1).trans x00, ((HB.out.2.trans (hW.mono HB.out.2.size)).cell (p := ⟨be, oe + k, none⟩) hbe).trans e00⟩
              have HX : Hid (LfE w2 (lifeA rows (flat rs) ms k) [.slice a2 n2 c2, .int .i64 zi, .int .i64 (goneA ms k)]) := by
                refine ⟨.slice a2 n2 c2, ?_, ?_⟩
                · have e : (flat rs).getD k 0#64 = z := by rw [List.getD_eq_getElem?_getD, hz]; rfl
                  show _ = [Value.slice a2 n2 c2, Value.int .i64 ((flat rs).getD k 0#64).toInt, Value.int .i64 (goneA ms k)]
                  rw [e, hzi]
                · have e : rows.getD k [] = r := by rw [List.getD_eq_getElem?_getD, hx]; rfl
                  show SlIs CE 3 w2 _ (rows.getD k [])
                  rw [e]
                  exact hv.over stays_c HB.out.1
              obtain ⟨gn, hgn⟩ : ∃ gn, gn = goneA ms k := ⟨_, rfl⟩
              rw [← hgn] at HX
              have HG : Hid (∀ W, Below w.heap.size w W → Calls Try.prog 41 #[_, .int .i64 (k : Int)] W fun e w' => e = .returned (.int .i64 gn) ∧ Below W.heap.size W w') := fun W hW => by
                rw [hgn]; exact refGone_any (HH.out.2.1.over stays_mk hW) (by have := HH.out.2.2.2.1; have := HH.out.2.2.2.2.2; omega) k
              clear hx hb1 x00 hv hn2 hz hbe e00 hzi hgn
              have hc := HS.out wr HL.out.bel
              obtain ⟨x0, e0⟩ := hc
              go_wp2_with fail
              refine wp_region_held_then (fun W' : World => W'.cell? ⟨b1, o1 + k, none⟩ = some (.slice a2 n2 c2) ∧ W'.cell? ⟨be, oe + k, none⟩ = some (.int .i64 zi)) _ (by kernel_rfl) rfl (by kernel_rfl) ?_
              have H0 : Hid (OwnS LfE 3 61 w2 wr.drew (.slice ao k co) ((livesA rows (flat rs) ms).take k)) := HL.out.over ((Below.refl _ wr).drew)
              have hHeld := HS.out _ H0.out.bel
              dsimp only [List.dropLast, List.length, List.getLast]
              ((refine takeL 0 (v := ?_) rfl (by kernel_rfl) (by kernel_rfl) (by kernel_rfl) (fun _ _ _ h => h) (by rfl) hHeld ?_ ?_; rotate_left; focus (intro w hSw; (try dsimp only at hSw); go_simp <;> with_reducible rfl); (try simp only [Act.put, List.setIfInBounds_toArray, List.set_cons_zero, List.set_cons_succ])); (refine takeL 1 (v := ?_) rfl (by kernel_rfl) (by kernel_rfl) (by kernel_rfl) (fun _ _ _ h => h) (by rfl) hHeld ?_ ?_; rotate_left; focus (intro w hSw; (try dsimp only at hSw); go_simp <;> with_reducible rfl); (try simp only [Act.put, List.setIfInBounds_toArray, List.set_cons_zero, List.set_cons_succ])); (refine takeL 2 (v := ?_) rfl (by kernel_rfl) (by kernel_rfl) (by kernel_rfl) (fun _ _ _ h => h) (by rfl) hHeld ?_ ?_; rotate_left; focus (intro w hSw; (try dsimp only at hSw); go_simp <;> with_reducible rfl); (try simp only [Act.put, List.setIfInBounds_toArray, List.set_cons_zero, List.set_cons_succ])); (refine takeL 3 (v := ?_) rfl (by kernel_rfl) (by kernel_rfl) (by kernel_rfl) (fun _ _ _ h => h) (by rfl) hHeld ?_ ?_; rotate_left; focus (intro w hSw; (try dsimp only at hSw); go_simp <;> with_reducible rfl); (try simp only [Act.put, List.setIfInBounds_toArray, List.set_cons_zero, List.set_cons_succ])))
              dsimp only [Act.put]
              simp only [List.setIfInBounds_toArray, List.set_cons_zero, List.set_cons_succ]
              ((refine takeL 4 (v := ?_) rfl (by kernel_rfl) (by kernel_rfl) (by kernel_rfl) (fun _ _ _ h => h) (by rfl) hHeld ?_ ?_; rotate_left; focus (intro w hSw; (try dsimp only at hSw); go_simp <;> with_reducible rfl); (try simp only [Act.put, List.setIfInBounds_toArray, List.set_cons_zero, List.set_cons_succ])); (refine takeL 5 (v := ?_) rfl (by kernel_rfl) (by kernel_rfl) (by kernel_rfl) (fun _ _ _ h => h) (by rfl) hHeld ?_ ?_; rotate_left; focus (intro w hSw; (try dsimp only at hSw); go_simp <;> with_reducible rfl); (try simp only [Act.put, List.setIfInBounds_toArray, List.set_cons_zero, List.set_cons_succ])); (refine takeL 6 (v := ?_) rfl (by kernel_rfl) (by kernel_rfl) (by kernel_rfl) (fun _ _ _ h => h) (by rfl) hHeld ?_ ?_; rotate_left; focus (intro w hSw; (try dsimp only at hSw); go_simp <;> with_reducible rfl); (try simp only [Act.put, List.setIfInBounds_toArray, List.set_cons_zero, List.set_cons_succ])); (refine takeL 7 (v := ?_) rfl (by kernel_rfl) (by kernel_rfl) (by kernel_rfl) (fun _ _ _ h => h) (by rfl) hHeld ?_ ?_; rotate_left; focus (intro w hSw; (try dsimp only at hSw); go_simp <;> with_reducible rfl); (try simp only [Act.put, List.setIfInBounds_toArray, List.set_cons_zero, List.set_cons_succ])))
              dsimp only [Act.put]
              simp only [List.setIfInBounds_toArray, List.set_cons_zero, List.set_cons_succ]
              ((refine takeL 8 (v := ?_) rfl (by kernel_rfl) (by kernel_rfl) (by kernel_rfl) (fun _ _ _ h => h) (by rfl) hHeld ?_ ?_; rotate_left; focus (intro w hSw; (try dsimp only at hSw); go_simp <;> with_reducible rfl); (try simp only [Act.put, List.setIfInBounds_toArray, List.set_cons_zero, List.set_cons_succ])); (refine takeL 9 (v := ?_) rfl (by kernel_rfl) (by kernel_rfl) (by kernel_rfl) (fun _ _ _ h => h) (by rfl) hHeld ?_ ?_; rotate_left; focus (intro w hSw; (try dsimp only at hSw); go_simp <;> with_reducible rfl); (try simp only [Act.put, List.setIfInBounds_toArray, List.set_cons_zero, List.set_cons_succ])); (refine takeL 10 (v := ?_) rfl (by kernel_rfl) (by kernel_rfl) (by kernel_rfl) (fun _ _ _ h => h) (by rfl) hHeld ?_ ?_; rotate_left; focus (intro w hSw; (try dsimp only at hSw); go_simp <;> with_reducible rfl); (try simp only [Act.put, List.setIfInBounds_toArray, List.set_cons_zero, List.set_cons_succ])))
              dsimp only [Act.put]
              simp only [List.setIfInBounds_toArray, List.set_cons_zero, List.set_cons_succ]
              first | (refine callL 11 (f := 41) (vs := #[.slice am 0 cm, .int .i64 (k : Int)]) rfl (by kernel_rfl) (by rfl) (by go_simp) ?_) | (refine callL 11 (f := 41) (vs := #[.slice (some ⟨bm, om, none⟩) (j + 1) cm, .int .i64 (k : Int)]) rfl (by kernel_rfl) (by rfl) (by go_simp) ?_)
              refine Calls.mono (HG.out wr.drew (HB.out.1.trans (H0.out.bel.mono HB.out.1.size))) ?_
              rintro e w5 ⟨rfl, hb5⟩
              have H5 := H0.out.over hb5
              have hHeld2 := HS.out _ H5.bel
              refine ⟨_, rfl, hHeld2, ?_⟩
              try dsimp only [Act.put]
              try simp only [List.setIfInBounds_toArray, List.set_cons_zero, List.set_cons_succ]
              ((refine takeL 12 (v := ?_) rfl (by kernel_rfl) (by kernel_rfl) (by kernel_rfl) (fun _ _ _ h => h) (by rfl) hHeld2 ?_ ?_; rotate_left; focus (intro w hSw; (try dsimp only at hSw); go_simp <;> with_reducible rfl); (try simp only [Act.put, List.setIfInBounds_toArray, List.set_cons_zero, List.set_cons_succ])))
              dsimp only [Act.put]
              simp only [List.setIfInBounds_toArray, List.set_cons_zero, List.set_cons_succ]
              have hkl : k < rows.length := by rw [HH.out.2.2.1]; exact hk
              obtain ⟨va, vc, w6, hrun, ho6⟩ := run_append_one (E := LfE) 22 61 (.agg #[.slice none 0 0, .int .i64 0, .int .i64 0]) 3 40 Try.underlying22 infos_lf rfl (by decide) (by decide) (cs := #[.slice a2 n2 c2, .int .i64 zi, .int .i64 gn]) rfl (fun _ _ h => one_lf h) H5 (y := lifeA rows (flat rs) ms k) HX.out (k + 1) (by rw [List.length_take, livesA_len]; omega) (by clear hr2; omega) 22
              have HW6 : Hid (OwnS LfE 3 61 w2 w6 (.slice va (k + 1) vc) ((livesA rows (flat rs) ms).take (k + 1))) := by unfold Hid; rw [take_succ_of (livesA_at hkl)]; exact ho6
              have hHeld3 := HS.out _ (H5.alloc (.cells #[.slice a2 n2 c2, .int .i64 zi, .int .i64 gn] 61)).bel
              have hHeld4 := HS.out _ HW6.out.bel
              refine newL 13 (w5.alloc (.cells #[.slice a2 n2 c2, .int .i64 zi, .int .i64 gn] 61)) (.slice (some ⟨w5.heap.size, 0, none⟩) 1 1) rfl (by kernel_rfl) (by rfl) (by go_simp) hHeld3 ?_
              dsimp only [Act.put]
              simp only [List.setIfInBounds_toArray, List.set_cons_zero, List.set_cons_succ]
              refine newL 14 w6 (.slice va (k + 1) vc) rfl (by kernel_rfl) (by rfl) ?_ hHeld4 ?_
              · unfold execOp
                simp only [resolve, invoke, builtin, Sem.run_bind, Sem.run_pure, Result.andThen_ok, List.map_toArray, List.map_cons, List.map_nil]
                exact then_val hrun
              refine doneL (by kernel_rfl) ?_
              dsimp only [Act.put]
              unfold Oper.wp
              clear hHeld hHeld2 hHeld3 hHeld4 H5 hb5 hrun ho6 x0 e0 HX HS HG
              go_simp
              go_wp2_with fail
              go_roundg (ne - (k + 1))
              case measure => clear hr2; omega
              case rel => exact ⟨k + 1, _, _, by clear hr2; omega, by go_num, rfl, HW6⟩
            · have hkI : ¬ (k : Int) < (ne : Int) := by omega
              obtain rfl : k = ne := by omega
              have e : (livesA rows (flat rs) ms).take k = livesA rows (flat rs) ms := List.take_of_length_le (by rw [livesA_len, HH.out.2.2.1]; exact Nat.le_refl _)
              have HF : Hid (OwnS LfE 3 61 w2 wr (.slice ao k co) (livesA rows (flat rs) ms)) := by have := HL.out; rw [e] at this; exact this
              clear e HL
              go_wp2_with fail
              go_ret2
              exact lives_yes HLV.out (HF.out.is stays_lf) HBr.out.1
    · have hx : ¬ (ne : Int) = (n : Int) := by omega
      have hxb : ((ne : Int) != (n : Int)) = true := by simpa using hx
      go_wp2_with fail
      go_ret2
      exact lives_no (by unfold lvB; rw [decide_eq_false (by rw [HNE.out.1, HH.out.2.2.1]; exact hlen)]; rfl) HB1.out
end Go.Proofs.Ytflabcmjbhmphaa
/-
  The contracts of the document's Same of rows, lives and marks, where both are the same; and of its Light.
-/
namespace Go.Proofs.Ytflabcmjbhmphaa
open Go.RowKit

theorem sameC_any {w : World} {v1 v2 : Value} {r : List Cl} (h1 : SlIs CE 3 w v1 r) (h2 : SlIs CE 3 w v2 r) (hm : r.length ≤ 1000000) :
    Calls Try.prog 36 #[v1, v2] w fun e w' => e = .returned (.bool true) ∧ Below w.heap.size w w' := same_yes (rowIs_of h1).1 (rowIs_of h2).1 (by unfold maxLen; omega)
set_option maxRecDepth 4000 in
set_option maxHeartbeats 4000000 in
theorem sameRows_any {w : World} {v1 v2 : Value} {l : List (List Cl)} (h1 : RwsIs w v1 l) (h2 : RwsIs w v2 l) (hl : l.length ≤ 1000) (hr : ∀ r ∈ l, r.length ≤ 1000) :
    Calls Try.prog 14 #[v1, v2] w fun e w' => e = .returned (.bool true) ∧ Below w.heap.size w w' := by
  obtain ⟨a1, n, c1, rfl, hn, hc1⟩ := h1.slice
  obtain ⟨a2, n2, c2, rfl, hn2, hc2⟩ := h2.slice
  obtain rfl : n = n2 := by omega
  have hnI : (n : Int) ≤ 1000 := by omega
  have HH : Hid (RwsIs w (.slice a1 n c1) l ∧ RwsIs w (.slice a2 n c2) l ∧ ∀ r ∈ l, r.length ≤ 1000) := ⟨h1, h2, hr⟩
  clear h1 h2 hl hr hn hn2 hc1 hc2
  go_enter Try.func14, Try.ntmps14
  go_wp2_with fail
  go_loopg [5] n (fun gg s5 wx => ∃ i : Nat, i + gg = n ∧ s5 = .int .i64 i ∧ Hid (Below w.heap.size w wx))
  case atStart => exact ⟨0, by omega, rfl, Below.refl _ _⟩
  case round =>
    obtain ⟨i, hig, rfl, HB⟩ := hrel
    by_cases hi : i < n
    · have hiI : (i : Int) < (n : Int) := by omega
      have hr2 : IntKind.i64.wrap ((i : Int) + 1) = (i : Int) + 1 := by rw [IntKind.wrap_i64]; omega
      obtain ⟨r, b1, o1, p1, m1, k1, hx, rfl, _, x1, hv1, _, _⟩ := at_rw (HH.out.1.over stays_rw HB.out) hi
      obtain ⟨r', b2, o2, p2, m2, k2, hx', rfl, _, x2, hv2, _, _⟩ := at_rw (HH.out.2.1.over stays_rw HB.out) hi
      obtain rfl := Option.some.inj (hx.symm.trans hx')
      have e1 := above_cell x1
      have e2 := above_cell x2
      have hrl := HH.out.2.2 r (List.mem_of_getElem? hx)
      have hce : ∀ q : Above wr, Calls Try.prog 36 #[.slice p1 m1 k1, .slice p2 m2 k2] q.it fun e w' => e = .returned (.bool true) ∧ Below q.it.heap.size q.it w' := fun q => sameC_any (hv1.over stays_c q.is) (hv2.over stays_c q.is) (by omega)
      clear hx hx' x1 x2 hv1 hv2 hrl
      go_wp2_with fail
      refine wp_region_above (by kernel_rfl) (by kernel_rfl) ?_
      intro hne
      repeat (go_big_quiet_step (first | (go_at_call 36; exact above_of (hce _))))
      refine wpQuiet_nil ?_
      rintro _ ⟨kq, rfl⟩
      have HB2 : Hid (Below w.heap.size w kq.it) := HB.out.trans (kq.is.mono HB.out.size)
      go_wp2_with fail
      go_roundg (n - (i + 1))
      case measure => clear hr2; omega
      case rel => exact ⟨i + 1, by clear hr2; omega, by go_num, HB2⟩
    · have hiI : ¬ (i : Int) < (n : Int) := by omega
      go_wp2_with fail
      go_ret
      exact ⟨rfl, HB.out⟩
set_option maxRecDepth 4000 in
set_option maxHeartbeats 8000000 in
theorem sameL_any {w : World} {v1 v2 : Value} {l : List Lf} (h1 : LfsIs w v1 l) (h2 : LfsIs w v2 l) (hl : l.length ≤ 1000) (hr : ∀ x ∈ l, x.r.length ≤ 1000) :
    Calls Try.prog 12 #[v1, v2] w fun e w' => e = .returned (.bool true) ∧ Below w.heap.size w w' := by
  obtain ⟨a1, n, c1, rfl, hn, hc1⟩ := h1.slice
  obtain ⟨a2, n2, c2, rfl, hn2, hc2⟩ := h2.slice
  obtain rfl : n = n2 := by omega
  have hnI : (n : Int) ≤ 1000 := by omega
  have HH : Hid (LfsIs w (.slice a1 n c1) l ∧ LfsIs w (.slice a2 n c2) l ∧ ∀ x ∈ l, x.r.length ≤ 1000) := ⟨h1, h2, hr⟩
  clear h1 h2 hl hr hn hn2 hc1 hc2
  go_enter Try.func12, Try.ntmps12
  go_wp2_with fail
  go_loopg [5] n (fun gg s5 wx => ∃ i : Nat, i + gg = n ∧ s5 = .int .i64 i ∧ Hid (Below w.heap.size w wx))
  case atStart => exact ⟨0, by omega, rfl, Below.refl _ _⟩
  case round =>
    obtain ⟨i, hig, rfl, HB⟩ := hrel
    by_cases hi : i < n
    · have hiI : (i : Int) < (n : Int) := by omega
      have hr2 : IntKind.i64.wrap ((i : Int) + 1) = (i : Int) + 1 := by rw [IntKind.wrap_i64]; omega
      obtain ⟨x, b1, o1, p1, m1, k1, hx, rfl, _, x1, y1, z1, hv1, _, _⟩ := at_lf (HH.out.1.over stays_lf HB.out) hi
      obtain ⟨x', b2, o2, p2, m2, k2, hx', rfl, _, x2, y2, z2, hv2, _, _⟩ := at_lf (HH.out.2.1.over stays_lf HB.out) hi
      obtain rfl := Option.some.inj (hx.symm.trans hx')
      obtain ⟨zb, hzb⟩ : ∃ zb, zb = x.b.toInt := ⟨_, rfl⟩
      rw [← hzb] at y1 y2
      obtain ⟨zg, hzg⟩ : ∃ zg, zg = x.g := ⟨_, rfl⟩
      rw [← hzg] at z1 z2
      have e1 := above_cell x1
      have e2 := above_cell x2
      have f1 := above_cell y1
      have f2 := above_cell y2
      have g1 := above_cell z1
      have g2 := above_cell z2
      have d1 : (zb != zb) = false := by simp
      have d2 : (zg != zg) = false := by simp
      have hrl := HH.out.2.2 x (List.mem_of_getElem? hx)
      have hce : ∀ q : Above wr, Calls Try.prog 36 #[.slice p1 m1 k1, .slice p2 m2 k2] q.it fun e w' => e = .returned (.bool true) ∧ Below q.it.heap.size q.it w' := fun q => sameC_any (hv1.over stays_c q.is) (hv2.over stays_c q.is) (by omega)
      clear hx hx' x1 x2 y1 y2 z1 z2 hv1 hv2 hrl hzb hzg
      go_wp2_with fail
      refine wp_region_above (by kernel_rfl) (by kernel_rfl) ?_
      intro hne
      repeat (go_big_quiet_step (first | (go_at_call 36; exact above_of (hce _))))
      refine wpQuiet_nil ?_
      rintro _ ⟨kq, rfl⟩
      have HB2 : Hid (Below w.heap.size w kq.it) := HB.out.trans (kq.is.mono HB.out.size)
      go_wp2_with fail
      go_roundg (n - (i + 1))
      case measure => clear hr2; omega
      case rel => exact ⟨i + 1, by clear hr2; omega, by go_num, HB2⟩
    · have hiI : ¬ (i : Int) < (n : Int) := by omega
      go_wp2_with fail
      go_ret
      exact ⟨rfl, HB.out⟩
set_option maxRecDepth 4000 in
set_option maxHeartbeats 4000000 in
theorem sameM_any {w : World} {v1 v2 : Value} {l : List Mk} (h1 : MksIs w v1 l) (h2 : MksIs w v2 l) (hl : l.length ≤ 100000) :
    Calls Try.prog 16 #[v1, v2] w fun e w' => e = .returned (.bool true) ∧ Below w.heap.size w w' := by
  obtain ⟨a1, n, c1, rfl, hn, hc1⟩ := h1.slice
  obtain ⟨a2, n2, c2, rfl, hn2, hc2⟩ := h2.slice
  obtain rfl : n = n2 := by omega
  have hnI : (n : Int) ≤ 100000 := by omega
  have HH : Hid (MksIs w (.slice a1 n c1) l ∧ MksIs w (.slice a2 n c2) l) := ⟨h1, h2⟩
  clear h1 h2 hl hn hn2 hc1 hc2
  go_enter Try.func16, Try.ntmps16
  go_wp2_with fail
  go_loopg [5] n (fun gg s5 wx => ∃ i : Nat, i + gg = n ∧ s5 = .int .i64 i ∧ Hid (Below w.heap.size w wx))
  case atStart => exact ⟨0, by omega, rfl, Below.refl _ _⟩
  case round =>
    obtain ⟨i, hig, rfl, HB⟩ := hrel
    by_cases hi : i < n
    · have hiI : (i : Int) < (n : Int) := by omega
      have hr2 : IntKind.i64.wrap ((i : Int) + 1) = (i : Int) + 1 := by rw [IntKind.wrap_i64]; omega
      obtain ⟨m, b1, o1, hx, rfl, _, p0, p1⟩ := at_mk (HH.out.1.over stays_mk HB.out) hi
      obtain ⟨m', b2, o2, hx', rfl, _, q0, q1⟩ := at_mk (HH.out.2.over stays_mk HB.out) hi
      obtain rfl := Option.some.inj (hx.symm.trans hx')
      clear hx hx'
      go_wp2_with fail
      go_quiet (fail)
      go_wp2_with fail
      go_roundg (n - (i + 1))
      case measure => clear hr2; omega
      case rel => exact ⟨i + 1, by clear hr2; omega, by go_num, below_drewN HB.out _⟩
    · have hiI : ¬ (i : Int) < (n : Int) := by omega
      go_wp2_with fail
      go_ret
      exact ⟨rfl, HB.out⟩
/-- Few lives, of few cells. -/
def litL (most : Nat) (l : List Lf) : Prop := l.length ≤ most ∧ ∀ x ∈ l, x.r.length ≤ 20
theorem lightC_len {r : List Cl} (h : lightC r = true) : r.length ≤ 20 := by
  unfold lightC at h
  simp only [Bool.and_eq_true, decide_eq_true_eq] at h
  exact h.1
/-- What Light answers. -/
def LitAns (w : World) (most : Nat) (l : List Lf) (e : Ending) (w' : World) : Prop := (∃ q, e = .returned (.bool q) ∧ (q = true → litL most l)) ∧ Below w.heap.size w w'
theorem lightR_any {w : World} {v : Value} {r : List Cl} (h : SlIs CE 3 w v r) (hm : r.length ≤ maxLen) : Calls Try.prog 17 #[v] w fun e w' => (∃ q, e = .returned (.bool q) ∧ (q = true → r.length ≤ 20)) ∧ Below w.heap.size w w' := by
  refine (light_any w v r (rowIs_of h).1 hm).mono ?_
  rintro e w' ⟨rfl, hb⟩
  exact ⟨⟨_, rfl, lightC_len⟩, hb⟩
set_option maxRecDepth 4000 in
set_option maxHeartbeats 4000000 in
theorem litL_any {w : World} {v : Value} {l : List Lf} (h : LfsIs w v l) (hm : ∀ x ∈ l, x.r.length ≤ maxLen) :
    Calls Try.prog 7 #[v, .int .i64 30] w (LitAns w 30 l) := by
  obtain ⟨a, n, cap, rfl, hn, hcap⟩ := h.slice
  have HH : Hid (LfsIs w (.slice a n cap) l ∧ l.length = n ∧ ∀ x ∈ l, x.r.length ≤ maxLen) := ⟨h, hn, hm⟩
  clear h hn hcap hm
  go_enter Try.func7, Try.ntmps7
  go_wp2_with fail
  go_loopg [5] 31 (fun gg s5 wx => ∃ i : Nat, i + gg = 31 ∧ i ≤ 30 ∧ s5 = .int .i64 i ∧ Hid (∀ (j : Nat) (x : Lf), j < i → l[j]? = some x → x.r.length ≤ 20) ∧ Hid (Below w.heap.size w wx))
  case atStart => exact ⟨0, by omega, by omega, rfl, fun j x hj => by omega, Below.refl _ _⟩
  case round =>
    obtain ⟨i, hig, hi30, rfl, HL, HB⟩ := hrel
    by_cases hi : i < n
    · have hiI : (i : Int) < (n : Int) := by omega
      by_cases h3 : i < 30
      · have h3I : (i : Int) < 30 := by omega
        have hr2 : IntKind.i64.wrap ((i : Int) + 1) = (i : Int) + 1 := by rw [IntKind.wrap_i64]; omega
        obtain ⟨x, b1, o1, p1, m1, k1, hx, rfl, _, x1, _, _, hv1, _, _⟩ := at_lf (HH.out.1.over stays_lf HB.out) hi
        have hc := lightR_any hv1 (HH.out.2.2 x (List.mem_of_getElem? hx))
        have HX : Hid (l[i]? = some x) := hx
        clear hx hv1
        go_wp2_with fail
        refine hc.mono ?_
        rintro e w1 ⟨⟨q, rfl, hq⟩, hb1⟩
        have HB1 : Hid (Below w.heap.size w w1) := HB.out.trans (hb1.mono HB.out.size)
        have HQ : Hid (q = true → x.r.length ≤ 20) := hq
        clear hc hb1 hq x1
        cases q with
        | false =>
          go_wp2_with fail
          go_ret
          exact ⟨⟨_, rfl, by simp⟩, HB1.out⟩
        | true =>
          go_wp2_with fail
          go_roundg (31 - (i + 1))
          case measure => clear hr2; omega
          case rel => exact ⟨i + 1, by clear hr2; omega, by clear hr2; omega, by go_num, fun j y hj hy => by
            by_cases e : j = i
            · subst e
              obtain rfl := Option.some.inj (HX.out.symm.trans hy)
              exact HQ.out (by trivial)
            · exact HL.out j y (by clear hr2; omega) hy, HB1⟩
      · have h3I : ¬ (i : Int) < 30 := by omega
        have hiI2 : (i : Int) = 30 := by omega
        have HN : Hid (30 < n) := by unfold Hid; omega
        have hnI : (30 : Int) < (n : Int) := by omega
        go_wp2_with fail
        go_ret
        refine ⟨⟨_, rfl, fun h => ?_⟩, HB.out⟩
        have := HN.out
        simp at h
        omega
    · have hiI : ¬ (i : Int) < (n : Int) := by omega
      have HN : Hid (n ≤ i ∧ n ≤ 30) := by unfold Hid; omega
      go_wp2_with fail
      go_ret
      exact ⟨⟨_, rfl, fun _ => ⟨by rw [HH.out.2.1]; exact HN.out.2, fun x hx => by
        obtain ⟨j, hj⟩ := List.getElem?_of_mem hx
        exact HL.out j x (by have := (List.getElem?_eq_some_iff.1 hj).1; have := HH.out.2.1; have := HN.out.1; omega) hj⟩⟩, HB.out⟩
end Go.Proofs.Ytflabcmjbhmphaa
