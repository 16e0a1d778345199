/-
  2 texts, one behind the other: MWalk2, WMoverProjects.
-/
import Derived.Test.YtflabcmjbhmphaaJoin11
/-
  The answers of Project, Kinds and Lives, each told in one way.
-/
namespace Go.Proofs.Ytflabcmjbhmphaa
open Go.RowKit

def projL (rows : List (List Cl)) (cols : List (BitVec 64)) : List (List Cl) := if pokB rows cols then projA rows cols else []
def projE (rows : List (List Cl)) (cols : List (BitVec 64)) : Int := if pokB rows cols then 0 else 1
theorem proj_uni {w w' : World} {rows : List (List Cl)} {cols : List (BitVec 64)} {e : Ending} (h : ProjAns w rows cols e w') : ∃ v, e = .returned (.tuple #[v, .int .i64 (projE rows cols)]) ∧ RwsIs w' v (projL rows cols) := by
  unfold projE projL
  have h1 := h.1
  cases hp : pokB rows cols with
  | true =>
    rw [hp, if_pos rfl] at h1
    obtain ⟨v, rfl, hv⟩ := h1
    exact ⟨v, rfl, hv⟩
  | false =>
    rw [hp, if_neg (by simp)] at h1
    exact ⟨_, h1, slIs_nil _ _ _ _ _⟩
theorem projL_len {rows : List (List Cl)} {cols : List (BitVec 64)} (h1 : rows.length ≤ 30) (h2 : cols.length ≤ 10) : (projL rows cols).length ≤ 1000 ∧ ∀ r ∈ projL rows cols, r.length ≤ 1000 := by
  unfold projL
  split
  · refine ⟨by unfold projA; rw [List.length_map]; omega, fun r hr => ?_⟩
    unfold projA at hr
    obtain ⟨x, _, rfl⟩ := List.mem_map.1 hr
    unfold rowA
    rw [List.length_map]; omega
  · exact ⟨by simp, fun r hr => by simp at hr⟩
def kindL (t : List Col) (cols : List (BitVec 64)) : List (BitVec 64) := if kokB t cols then kindsA t cols else []
def kindE (t : List Col) (cols : List (BitVec 64)) : Int := if kokB t cols then 0 else 1
theorem kind_uni {w w' : World} {t : List Col} {cols : List (BitVec 64)} {e : Ending} (h : KindsAns w t cols e w') : ∃ v, e = .returned (.tuple #[v, .int .i64 (kindE t cols)]) ∧ IntsIs w' v (kindL t cols) := by
  unfold kindE kindL
  have h1 := h.1
  cases hp : kokB t cols with
  | true =>
    rw [hp, if_pos rfl] at h1
    obtain ⟨v, rfl, hv⟩ := h1
    exact ⟨v, rfl, hv⟩
  | false =>
    rw [hp, if_neg (by simp)] at h1
    exact ⟨_, h1, slIs_nil _ _ _ _ _⟩
theorem kindL_len {t : List Col} {cols : List (BitVec 64)} (h2 : cols.length ≤ 10) : (kindL t cols).length ≤ 1000 := by
  unfold kindL
  split
  · unfold kindsA; rw [List.length_map]; omega
  · simp
def liveL (b : Bool) (rows : List (List Cl)) (bs : List (BitVec 64)) (ms : List Mk) : List Lf := if lvB b rows bs ms then livesA rows bs ms else []
def liveE (b : Bool) (rows : List (List Cl)) (bs : List (BitVec 64)) (ms : List Mk) : Int := if lvB b rows bs ms then 0 else 1
theorem live_uni {w w' : World} {b : Bool} {rows : List (List Cl)} {bs : List (BitVec 64)} {ms : List Mk} {e : Ending} (h : LivesAns w b rows bs ms e w') : ∃ v, e = .returned (.tuple #[v, .int .i64 (liveE b rows bs ms)]) ∧ LfsIs w' v (liveL b rows bs ms) := by
  unfold liveE liveL
  have h1 := h.1
  cases hp : lvB b rows bs ms with
  | true =>
    rw [hp, if_pos rfl] at h1
    obtain ⟨v, rfl, hv⟩ := h1
    exact ⟨v, rfl, hv⟩
  | false =>
    rw [hp, if_neg (by simp)] at h1
    exact ⟨_, h1, slIs_nil _ _ _ _ _⟩
theorem getD_len {rows : List (List Cl)} (h : ∀ r ∈ rows, r.length ≤ 20) (i : Nat) : (rows.getD i []).length ≤ 20 := by
  rw [List.getD_eq_getElem?_getD]
  cases hi : rows[i]? with
  | none => simp
  | some r => exact h r (List.mem_of_getElem? hi)
theorem liveL_len {b : Bool} {rows : List (List Cl)} {bs : List (BitVec 64)} {ms : List Mk} (h1 : rows.length ≤ 60) (h2 : ∀ r ∈ rows, r.length ≤ 20) : (liveL b rows bs ms).length ≤ 1000 ∧ ∀ x ∈ liveL b rows bs ms, x.r.length ≤ 1000 := by
  unfold liveL
  split
  · refine ⟨by rw [livesA_len]; omega, fun x hx => ?_⟩
    unfold livesA at hx
    obtain ⟨i, _, rfl⟩ := List.mem_map.1 hx
    have := getD_len h2 i
    unfold lifeA
    simp only
    omega
  · exact ⟨by simp, fun x hx => by simp at hx⟩
theorem one_tbs {w : World} {t : Tb} {v0 v1 v2 : Value} (h : TbE w t [v0, v1, v2]) : TabsIs (w.alloc (.cells #[v0, v1, v2] 49)) (.slice (some ⟨w.heap.size, 0, none⟩) 1 1) [t] := by
  refine slIs_of_srows (srows_made (sz := 3) (n := 1) (R := [[v0, v1, v2]]) (by decide) rfl (by simp) rfl (by decide)) ⟨rfl, fun i z r hx hr => ?_⟩
  match i with
  | 0 => simp at hx hr; subst hx hr; exact stays_tb _ _ _ _ h (below1 _ _)
  | i + 1 => simp at hx
end Go.Proofs.Ytflabcmjbhmphaa
/-
  The walk of law 27's MoverProjects.
-/
namespace Go.Proofs.Ytflabcmjbhmphaa
open Go.RowKit

set_option maxRecDepth 4000 in
set_option maxHeartbeats 8000000 in
theorem walkMoverProjects {w : World} (a0 : Option Addr) (n0 c0 : Nat) (h0 : RowsIn w (.slice a0 n0 c0)) (a1 : Option Addr) (n1 c1 : Nat) (z1 : List Int) (h1 : IsRow .i64 w a1 n1 c1 z1) (v0 v1 v2 : Value) (t : Tb) (ht : TbE w t [v0, v1, v2]) :
    Calls Try.prog 5 #[.slice a0 n0 c0, .slice a1 n1 c1, .agg #[v0, v1, v2]] w fun e w' => e = .returned (.bool true) ∧ Below w.heap.size w w' := by
  obtain ⟨rows, hr, hrl, hrr⟩ := h0
  obtain ⟨cols, hc⟩ := ints_of_isrow h1
  have HA : Hid (∀ W, Calls Try.prog 8 #[] W fun e w' => e = .returned (.bool true) ∧ Below W.heap.size W w') := awake_any
  have hlen := hr.len.1
  have hcl := hc.len.1
  obtain ⟨rfl, aC, nC, capC, aP, nP, capP, rfl, rfl, hnC, hnP, hC, hP⟩ := tb_cells ht
  obtain ⟨W0, hW0⟩ : ∃ W0, W0 = w.alloc (.cells #[.string t.name, .slice aC nC capC, .slice aP nP capP] 49) := ⟨_, rfl⟩
  have b0 : Below w.heap.size w W0 := by rw [hW0]; exact below1 _ _
  have B0 : Box W0 w.heap.size 49 #[.string t.name, .slice aC nC capC, .slice aP nP capP] := by rw [hW0]; exact box_new _ _ _
  obtain ⟨Bt, hBt⟩ : ∃ Bt, Bt = w.heap.size := ⟨_, rfl⟩
  rw [← hBt] at B0
  have HW0 : Hid (W0 = w.alloc (.cells #[.string t.name, .slice aC nC capC, .slice aP nP capP] 49) ∧ Bt = w.heap.size) := ⟨hW0, hBt⟩
  have HH : Hid (RwsIs w (.slice a0 n0 c0) rows ∧ IntsIs w (.slice a1 n1 c1) cols ∧ rows.length = n0 ∧ cols.length = n1 ∧ (∀ r ∈ rows, r.length ≤ maxLen) ∧ TbE w t [.string t.name, .slice aC nC capC, .slice aP nP capP] ∧ ColsIs w (.slice aC nC capC) t.cols) := ⟨hr, hc, hlen, hcl, hrr, ht, hC⟩
  have HX : Hid (Below w.heap.size w W0 ∧ Box W0 Bt 49 #[.string t.name, .slice aC nC capC, .slice aP nP capP]) := ⟨b0, B0⟩
  clear hr hrl hrr hc h1 ht hlen hcl hnC hnP hC hP hW0 b0 B0 hBt
  have fin : ∀ (W w' : World), Below w.heap.size w W → Below W.heap.size W w' → Below w.heap.size w w' := fun W w' h1 h2 => h1.trans (h2.mono h1.size)
  have HFIN : Hid (∀ (W w' : World), Below w.heap.size w W → Below W.heap.size W w' → Below w.heap.size w w') := fin
  clear fin
  by_cases hn0 : 30 < n0
  · have hn0I : (30 : Int) < (n0 : Int) := by omega
    go_enter Try.func5, Try.ntmps5
    go_wp2_with fail
    rw [← HW0.out.1]
    refine (HA.out _).mono ?_
    rintro e w1 ⟨rfl, hb1⟩
    have HB1 : Hid (Below w.heap.size w w1) := HFIN.out _ _ HX.out.1 hb1
    clear hb1
    go_wp2_with fail
    go_ret
    exact ⟨rfl, HB1.out⟩
  · have hn0I : ¬ (30 : Int) < (n0 : Int) := by omega
    by_cases hn1 : 10 < n1
    · have hn1I : (10 : Int) < (n1 : Int) := by omega
      go_enter Try.func5, Try.ntmps5
      go_wp2_with fail
      rw [← HW0.out.1]
      refine (HA.out _).mono ?_
      rintro e w1 ⟨rfl, hb1⟩
      have HB1 : Hid (Below w.heap.size w w1) := HFIN.out _ _ HX.out.1 hb1
      clear hb1
      go_wp2_with fail
      go_ret
      exact ⟨rfl, HB1.out⟩
    · have hn1I : ¬ (10 : Int) < (n1 : Int) := by omega
      have HN : Hid (n0 ≤ 30 ∧ n1 ≤ 10) := by unfold Hid; omega
      have cl := refLight25_any (one_tbs (stays_tb _ _ _ _ HH.out.2.2.2.2.2.1 HX.out.1))
      obtain ⟨W1, hW1⟩ : ∃ W1, W1 = W0.alloc (.cells #[.string t.name, .slice aC nC capC, .slice aP nP capP] 49) := ⟨_, rfl⟩
      have bW1 : Below W0.heap.size W0 W1 := by rw [hW1]; exact below1 _ _
      rw [← hW1] at cl
      have hsz : W0.heap.size = Bt + 1 := by rw [HW0.out.1, World.size_alloc, HW0.out.2]
      rw [hsz] at cl
      have HW1 : Hid (W1 = W0.alloc (.cells #[.string t.name, .slice aC nC capC, .slice aP nP capP] 49) ∧ Below w.heap.size w W1 ∧ Box W1 Bt 49 #[.string t.name, .slice aC nC capC, .slice aP nP capP]) := ⟨hW1, HFIN.out _ _ HX.out.1 bW1, HX.out.2.over bW1⟩
      clear hW1 bW1 hsz
      go_enter Try.func5, Try.ntmps5
      go_wp2_with fail
      rw [← HW0.out.1, ← HW0.out.2, ← HW1.out.1]
      refine cl.mono ?_
      rintro e w2 ⟨⟨q, rfl, hq⟩, hb2⟩
      have H2 : Hid (Below w.heap.size w w2 ∧ Box w2 Bt 49 #[.string t.name, .slice aC nC capC, .slice aP nP capP]) := ⟨HFIN.out _ _ HW1.out.2.1 hb2, HW1.out.2.2.over hb2⟩
      clear cl hb2
      cases q with
      | false =>
        clear hq
        go_wp2_with fail
        refine (HA.out _).mono ?_
        rintro e w3 ⟨rfl, hb3⟩
        have HB3 : Hid (Below w.heap.size w w3) := HFIN.out _ _ H2.out.1 hb3
        clear hb3
        go_wp2_with fail
        go_ret
        exact ⟨rfl, HB3.out⟩
      | true =>
        have HS : Hid (t.cols.length ≤ 12) := ((hq rfl).2 t (by simp)).2.1
        clear hq
        go_wp2_with fail
        go_loopg [7] n0 (fun gg s7 wx => ∃ i : Nat, i + gg = n0 ∧ s7 = .int .i64 i ∧ Hid (∀ (j : Nat) (r : List Cl), j < i → rows[j]? = some r → r.length ≤ 20) ∧ Hid (Below w.heap.size w wx ∧ Box wx Bt 49 #[.string t.name, .slice aC nC capC, .slice aP nP capP]))
        case atStart => exact ⟨0, by omega, rfl, fun j r hj => by omega, H2⟩
        case round =>
          clear H2
          obtain ⟨i, hig, rfl, HL, HB⟩ := hrel
          by_cases hi : i < n0
          · have hiI : (i : Int) < (n0 : Int) := by omega
            have hr2 : IntKind.i64.wrap ((i : Int) + 1) = (i : Int) + 1 := by rw [IntKind.wrap_i64]; omega
            obtain ⟨r, b, off, a2, n2, c2, hx, rfl, _, x0, hv, hn2, _⟩ := at_rw (HH.out.1.over stays_rw HB.out.1) hi
            have hc := lightR_any hv (HH.out.2.2.2.2.1 r (List.mem_of_getElem? hx))
            have HR : Hid (rows[i]? = some r) := hx
            clear hx hv hn2
            go_wp2_with fail
            refine hc.mono ?_
            rintro e w3 ⟨⟨q, rfl, hq⟩, hb3⟩
            have H3 : Hid (Below w.heap.size w w3 ∧ Box w3 Bt 49 #[.string t.name, .slice aC nC capC, .slice aP nP capP]) := ⟨HFIN.out _ _ HB.out.1 hb3, HB.out.2.over hb3⟩
            have HQ : Hid (q = true → r.length ≤ 20) := hq
            clear hc hb3 hq x0
            cases q with
            | false =>
              go_wp2_with fail
              refine (HA.out _).mono ?_
              rintro e w4 ⟨rfl, hb4⟩
              have HB4 : Hid (Below w.heap.size w w4) := HFIN.out _ _ H3.out.1 hb4
              clear hb4
              go_wp2_with fail
              go_ret
              exact ⟨rfl, HB4.out⟩
            | true =>
              go_wp2_with fail
              go_roundg (n0 - (i + 1))
              case measure => clear hr2; omega
              case rel => exact ⟨i + 1, by clear hr2; omega, by go_num, fun j y hj hy => by
                by_cases e : j = i
                · subst e
                  obtain rfl := Option.some.inj (HR.out.symm.trans hy)
                  exact HQ.out (by trivial)
                · exact HL.out j y (by clear hr2; omega) hy, H3⟩
          · have hiI : ¬ (i : Int) < (n0 : Int) := by omega
            have HRL : Hid (∀ r ∈ rows, r.length ≤ 20) := fun r hr => by
              obtain ⟨j, hj⟩ := List.getElem?_of_mem hr
              exact HL.out j r (by have := (List.getElem?_eq_some_iff.1 hj).1; have := HH.out.2.2.1; omega) hj
            obtain ⟨W4, hW4⟩ : ∃ W4, W4 = wr.alloc (.cells #[.string ⟨#[]⟩, .slice a1 n1 c1, .int .i64 0] 53) := ⟨_, rfl⟩
            have bW4 : Below wr.heap.size wr W4 := by rw [hW4]; exact below1 _ _
            obtain ⟨Bp, hBp⟩ : ∃ Bp, Bp = wr.heap.size := ⟨_, rfl⟩
            have H4 : Hid (Below w.heap.size w W4 ∧ Box W4 Bt 49 #[.string t.name, .slice aC nC capC, .slice aP nP capP] ∧ Box W4 Bp 53 #[.string ⟨#[]⟩, .slice a1 n1 c1, .int .i64 0] ∧ W4 = wr.alloc (.cells #[.string ⟨#[]⟩, .slice a1 n1 c1, .int .i64 0] 53) ∧ Bp = wr.heap.size) := ⟨HFIN.out _ _ HB.out.1 bW4, HB.out.2.over bW4, by rw [hW4, hBp]; exact box_new _ _ _, hW4, hBp⟩
            clear hW4 bW4 hBp HL HB
            go_wp2_with fail
            rw [← H4.out.2.2.2.1, ← H4.out.2.2.2.2]
            refine (project_any (HH.out.1.over stays_rw H4.out.1) (HH.out.2.1.over stays_int H4.out.1) (by have := HN.out.1; have := HH.out.2.2.1; omega) (by have := HN.out.2; have := HH.out.2.2.2.1; omega) (fun r hr => by have := HRL.out r hr; omega)).mono ?_
            rintro e w5 hp5
            have hb5 := hp5.2
            obtain ⟨v5, rfl, s5⟩ := proj_uni hp5
            obtain ⟨a5, n5, c5, rfl, _, _⟩ := s5.slice
            have H5 : Hid (Below w.heap.size w w5 ∧ Box w5 Bt 49 #[.string t.name, .slice aC nC capC, .slice aP nP capP] ∧ Box w5 Bp 53 #[.string ⟨#[]⟩, .slice a1 n1 c1, .int .i64 0] ∧ RwsIs w5 (.slice a5 n5 c5) (projL rows cols)) := ⟨HFIN.out _ _ H4.out.1 hb5, H4.out.2.1.over hb5, H4.out.2.2.1.over hb5, s5⟩
            obtain ⟨eP, heP⟩ : ∃ eP, eP = projE rows cols := ⟨_, rfl⟩
            rw [← heP]
            have HEP : Hid (eP = projE rows cols) := heP
            clear s5 hb5 hp5 heP H4
            go_wp2_with fail
            refine (refProject_any (HH.out.1.over stays_rw H5.out.1) (HH.out.2.1.over stays_int H5.out.1) (by have := HN.out.1; have := HH.out.2.2.1; omega) (by have := HN.out.2; have := HH.out.2.2.2.1; omega) (fun r hr => by have := HRL.out r hr; omega)).mono ?_
            rintro e w6 hp6
            have hb6 := hp6.2
            obtain ⟨v6, rfl, s6⟩ := proj_uni hp6
            obtain ⟨a6, n6, c6, rfl, _, _⟩ := s6.slice
            have H6 : Hid (Below w.heap.size w w6 ∧ Box w6 Bt 49 #[.string t.name, .slice aC nC capC, .slice aP nP capP] ∧ Box w6 Bp 53 #[.string ⟨#[]⟩, .slice a1 n1 c1, .int .i64 0] ∧ RwsIs w6 (.slice a5 n5 c5) (projL rows cols) ∧ RwsIs w6 (.slice a6 n6 c6) (projL rows cols)) := ⟨HFIN.out _ _ H5.out.1 hb6, H5.out.2.1.over hb6, H5.out.2.2.1.over hb6, H5.out.2.2.2.over stays_rw hb6, s6⟩
            rw [← HEP.out]
            have t0 := H6.out.2.1.cell 0 _ rfl
            have t1 := H6.out.2.1.cell 1 _ rfl
            have t2 := H6.out.2.1.cell 2 _ rfl
            have p0 := H6.out.2.2.1.cell 0 _ rfl
            have p1 := H6.out.2.2.1.cell 1 _ rfl
            have p2 := H6.out.2.2.1.cell 2 _ rfl
            clear s6 hb6 hp6 H5
            go_wp2_with fail
            clear t0 t1 t2 p0 p1 p2
            refine (kinds_any (t := t.cols) (cols := cols) (HH.out.2.2.2.2.2.2.over stays_col H6.out.1) (HH.out.2.1.over stays_int H6.out.1) (by have := HN.out.2; have := HH.out.2.2.2.1; omega) (by have := HS.out; omega) ⟨_, _, _, rfl⟩).mono ?_
            rintro e w7 hp7
            have hb7 := hp7.2
            obtain ⟨v7, rfl, s7⟩ := kind_uni hp7
            obtain ⟨a7, n7, c7, rfl, _, _⟩ := s7.slice
            have H7 : Hid (Below w.heap.size w w7 ∧ Box w7 Bt 49 #[.string t.name, .slice aC nC capC, .slice aP nP capP] ∧ Box w7 Bp 53 #[.string ⟨#[]⟩, .slice a1 n1 c1, .int .i64 0] ∧ RwsIs w7 (.slice a5 n5 c5) (projL rows cols) ∧ RwsIs w7 (.slice a6 n6 c6) (projL rows cols) ∧ IntsIs w7 (.slice a7 n7 c7) (kindL t.cols cols)) := ⟨HFIN.out _ _ H6.out.1 hb7, H6.out.2.1.over hb7, H6.out.2.2.1.over hb7, H6.out.2.2.2.1.over stays_rw hb7, H6.out.2.2.2.2.over stays_rw hb7, s7⟩
            obtain ⟨eK, heK⟩ : ∃ eK, eK = kindE t.cols cols := ⟨_, rfl⟩
            rw [← heK]
            have HEK : Hid (eK = kindE t.cols cols) := heK
            have t0 := H7.out.2.1.cell 0 _ rfl
            have t1 := H7.out.2.1.cell 1 _ rfl
            have t2 := H7.out.2.1.cell 2 _ rfl
            have p0 := H7.out.2.2.1.cell 0 _ rfl
            have p1 := H7.out.2.2.1.cell 1 _ rfl
            have p2 := H7.out.2.2.1.cell 2 _ rfl
            clear s7 hb7 hp7 H6 heK
            go_wp2_with fail
            clear t0 t1 t2 p0 p1 p2
            refine (refKinds_any (t := t.cols) (cols := cols) (HH.out.2.2.2.2.2.2.over stays_col H7.out.1) (HH.out.2.1.over stays_int H7.out.1) (by have := HN.out.2; have := HH.out.2.2.2.1; omega) (by have := HS.out; omega) ⟨_, _, _, rfl⟩).mono ?_
            rintro e w8 hp8
            have hb8 := hp8.2
            obtain ⟨v8, rfl, s8⟩ := kind_uni hp8
            obtain ⟨a8, n8, c8, rfl, _, _⟩ := s8.slice
            have H8 : Hid (Below w.heap.size w w8 ∧ RwsIs w8 (.slice a5 n5 c5) (projL rows cols) ∧ RwsIs w8 (.slice a6 n6 c6) (projL rows cols) ∧ IntsIs w8 (.slice a7 n7 c7) (kindL t.cols cols) ∧ IntsIs w8 (.slice a8 n8 c8) (kindL t.cols cols)) := ⟨HFIN.out _ _ H7.out.1 hb8, H7.out.2.2.2.1.over stays_rw hb8, H7.out.2.2.2.2.1.over stays_rw hb8, H7.out.2.2.2.2.2.over stays_int hb8, s8⟩
            rw [← HEK.out]
            have HPL : Hid ((projL rows cols).length ≤ 1000 ∧ ∀ r ∈ projL rows cols, r.length ≤ 1000) := projL_len (by have := HN.out.1; have := HH.out.2.2.1; omega) (by have := HN.out.2; have := HH.out.2.2.2.1; omega)
            have HKL : Hid ((kindL t.cols cols).length ≤ 1000) := kindL_len (by have := HN.out.2; have := HH.out.2.2.2.1; omega)
            have dP : (eP == eP) = true := by simp
            have dK : (eK == eK) = true := by simp
            clear s8 hb8 hp8 H7
            go_wp2_with fail
            refine (sameRows_any H8.out.2.1 H8.out.2.2.1 HPL.out.1 HPL.out.2).mono ?_
            rintro e w9 ⟨rfl, hb9⟩
            have H9 : Hid (Below w.heap.size w w9 ∧ IntsIs w9 (.slice a7 n7 c7) (kindL t.cols cols) ∧ IntsIs w9 (.slice a8 n8 c8) (kindL t.cols cols)) := ⟨HFIN.out _ _ H8.out.1 hb9, H8.out.2.2.2.1.over stays_int hb9, H8.out.2.2.2.2.over stays_int hb9⟩
            clear hb9 H8
            go_wp2_with fail
            refine (same_any w9 _ _ (kindL t.cols cols) (by have := HKL.out; omega) (IntsIs.reads H9.out.2.1) (IntsIs.reads H9.out.2.2)).mono ?_
            rintro e w10 ⟨rfl, m10, hw10⟩
            have hb10 : Below w9.heap.size w9 w10 := by rw [hw10]; exact below_drewN (Below.refl _ _) _
            have H10 : Hid (Below w.heap.size w w10) := HFIN.out _ _ H9.out.1 hb10
            clear hb10 hw10 H9
            go_wp2_with fail
            refine (HA.out _).mono ?_
            rintro e w11 ⟨rfl, hb11⟩
            have H11 : Hid (Below w.heap.size w w11) := HFIN.out _ _ H10.out hb11
            clear hb11 H10
            go_wp2_with fail
            go_ret
            exact ⟨rfl, H11.out⟩
end Go.Proofs.Ytflabcmjbhmphaa
