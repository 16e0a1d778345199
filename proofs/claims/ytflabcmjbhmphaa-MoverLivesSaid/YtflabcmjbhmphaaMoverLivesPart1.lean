/-
  2 texts, one behind the other: MWalk2, WMoverLives.
-/
import Derived.Test.YtflabcmjbhmphaaJoin11
/-
  The answers of Project, Kinds and Lives, each told in one way.
-/
namespace Go.Proofs.Ytflabcmjbhmphaa
open Go.RowKit

def projL (rows : List (List Cl)) (cols : List (BitVec 64)) : List (List Cl) := if pokB rows cols then projA rows cols else []
def projE (rows : List (List Cl)) (cols : List (BitVec 64)) : Int := if pokB rows cols then 0 else 1
theorem proj_uni {w w' : World} {rows : List (List Cl)} {cols : List (BitVec 64)} {e : Ending} (h : ProjAns w rows cols e w') : ∃ v, e = .returned (.tuple #[v, .int .i64 (projE rows cols)]) ∧ RwsIs w' v (projL rows cols) := by
  unfold projE projL
  have h1 := h.1
  cases hp : pokB rows cols with
  | true =>
    rw [hp, if_pos rfl] at h1
    obtain ⟨v, rfl, hv⟩ := h1
    exact ⟨v, rfl, hv⟩
  | false =>
    rw [hp, if_neg (by simp)] at h1
    exact ⟨_, h1, slIs_nil _ _ _ _ _⟩
theorem projL_len {rows : List (List Cl)} {cols : List (BitVec 64)} (h1 : rows.length ≤ 30) (h2 : cols.length ≤ 10) : (projL rows cols).length ≤ 1000 ∧ ∀ r ∈ projL rows cols, r.length ≤ 1000 := by
  unfold projL
  split
  · refine ⟨by unfold projA; rw [List.length_map]; omega, fun r hr => ?_⟩
    unfold projA at hr
    obtain ⟨x, _, rfl⟩ := List.mem_map.1 hr
    unfold rowA
    rw [List.length_map]; omega
  · exact ⟨by simp, fun r hr => by simp at hr⟩
def kindL (t : List Col) (cols : List (BitVec 64)) : List (BitVec 64) := if kokB t cols then kindsA t cols else []
def kindE (t : List Col) (cols : List (BitVec 64)) : Int := if kokB t cols then 0 else 1
theorem kind_uni {w w' : World} {t : List Col} {cols : List (BitVec 64)} {e : Ending} (h : KindsAns w t cols e w') : ∃ v, e = .returned (.tuple #[v, .int .i64 (kindE t cols)]) ∧ IntsIs w' v (kindL t cols) := by
  unfold kindE kindL
  have h1 := h.1
  cases hp : kokB t cols with
  | true =>
    rw [hp, if_pos rfl] at h1
    obtain ⟨v, rfl, hv⟩ := h1
    exact ⟨v, rfl, hv⟩
  | false =>
    rw [hp, if_neg (by simp)] at h1
    exact ⟨_, h1, slIs_nil _ _ _ _ _⟩
theorem kindL_len {t : List Col} {cols : List (BitVec 64)} (h2 : cols.length ≤ 10) : (kindL t cols).length ≤ 1000 := by
  unfold kindL
  split
  · unfold kindsA; rw [List.length_map]; omega
  · simp
def liveL (b : Bool) (rows : List (List Cl)) (bs : List (BitVec 64)) (ms : List Mk) : List Lf := if lvB b rows bs ms then livesA rows bs ms else []
def liveE (b : Bool) (rows : List (List Cl)) (bs : List (BitVec 64)) (ms : List Mk) : Int := if lvB b rows bs ms then 0 else 1
theorem live_uni {w w' : World} {b : Bool} {rows : List (List Cl)} {bs : List (BitVec 64)} {ms : List Mk} {e : Ending} (h : LivesAns w b rows bs ms e w') : ∃ v, e = .returned (.tuple #[v, .int .i64 (liveE b rows bs ms)]) ∧ LfsIs w' v (liveL b rows bs ms) := by
  unfold liveE liveL
  have h1 := h.1
  cases hp : lvB b rows bs ms with
  | true =>
    rw [hp, if_pos rfl] at h1
    obtain ⟨v, rfl, hv⟩ := h1
    exact ⟨v, rfl, hv⟩
  | false =>
    rw [hp, if_neg (by simp)] at h1
    exact ⟨_, h1, slIs_nil _ _ _ _ _⟩
theorem getD_len {rows : List (List Cl)} (h : ∀ r ∈ rows, r.length ≤ 20) (i : Nat) : (rows.getD i []).length ≤ 20 := by
  rw [List.getD_eq_getElem?_getD]
  cases hi : rows[i]? with
  | none => simp
  | some r => exact h r (List.mem_of_getElem? hi)
theorem liveL_len {b : Bool} {rows : List (List Cl)} {bs : List (BitVec 64)} {ms : List Mk} (h1 : rows.length ≤ 60) (h2 : ∀ r ∈ rows, r.length ≤ 20) : (liveL b rows bs ms).length ≤ 1000 ∧ ∀ x ∈ liveL b rows bs ms, x.r.length ≤ 1000 := by
  unfold liveL
  split
  · refine ⟨by rw [livesA_len]; omega, fun x hx => ?_⟩
    unfold livesA at hx
    obtain ⟨i, _, rfl⟩ := List.mem_map.1 hx
    have := getD_len h2 i
    unfold lifeA
    simp only
    omega
  · exact ⟨by simp, fun x hx => by simp at hx⟩
theorem one_tbs {w : World} {t : Tb} {v0 v1 v2 : Value} (h : TbE w t [v0, v1, v2]) : TabsIs (w.alloc (.cells #[v0, v1, v2] 49)) (.slice (some ⟨w.heap.size, 0, none⟩) 1 1) [t] := by
  refine slIs_of_srows (srows_made (sz := 3) (n := 1) (R := [[v0, v1, v2]]) (by decide) rfl (by simp) rfl (by decide)) ⟨rfl, fun i z r hx hr => ?_⟩
  match i with
  | 0 => simp at hx hr; subst hx hr; exact stays_tb _ _ _ _ h (below1 _ _)
  | i + 1 => simp at hx
end Go.Proofs.Ytflabcmjbhmphaa
/-
  The walk of law 27's MoverLives.
-/
namespace Go.Proofs.Ytflabcmjbhmphaa
open Go.RowKit

/-- How many numbers runs have, each counted from 0 to 1024. -/
def cntP (rs : List Rn) : Nat → Int
  | 0 => 0
  | k + 1 => match rs[k]? with | some r => cntP rs k + min 1024 (max 0 r.c) | none => cntP rs k
theorem cntP_at {rs : List Rn} {k : Nat} {r : Rn} (h : rs[k]? = some r) : cntP rs (k + 1) = cntP rs k + min 1024 (max 0 r.c) := by
  rw [cntP]; simp only [h]
theorem cntP_bd (rs : List Rn) : ∀ k, 0 ≤ cntP rs k ∧ cntP rs k ≤ 1024 * (k : Int)
  | 0 => by simp [cntP]
  | k + 1 => by
    have := cntP_bd rs k
    rw [cntP]
    split <;> omega
theorem run_at {w : World} {a : Option Addr} {n cap : Nat} {rs : List Rn} (h : RunsIs w (.slice a n cap) rs) {k : Nat} (hk : k < n) : ∃ (r : Rn) (b off : Nat), rs[k]? = some r ∧ a = some ⟨b, off, none⟩ ∧ w.cell? ⟨b, off + k * 3 + 2, none⟩ = some (.int .i64 r.c) := by
  have hl := h.len.1
  obtain ⟨r, hr⟩ : ∃ r, rs[k]? = some r := ⟨_, List.getElem?_eq_getElem (by omega)⟩
  obtain ⟨b, off, e, hall⟩ := h.some (by rintro rfl; simp at hr)
  exact ⟨r, b, off, hr, e, (hall k r hr).c2⟩
set_option maxRecDepth 4000 in
set_option maxHeartbeats 8000000 in
theorem walkMoverLives {w : World} (a0 : Option Addr) (n0 c0 : Nat) (h0 : RowsIn w (.slice a0 n0 c0)) (a1 : Option Addr) (n1 c1 : Nat) (h1 : RunsAre w a1 n1 c1) (a2 : Option Addr) (n2 c2 : Nat) (h2 : MarksIn w (.slice a2 n2 c2)) :
    Calls Try.prog 4 #[.slice a0 n0 c0, .slice a1 n1 c1, .slice a2 n2 c2] w fun e w' => e = .returned (.bool true) ∧ Below w.heap.size w w' := by
  obtain ⟨rows, hr, hrl, hrr⟩ := h0
  obtain ⟨rs, hs, hsl⟩ := h1
  obtain ⟨ms, hm, hml⟩ := h2
  have HA : Hid (∀ W, Calls Try.prog 8 #[] W fun e w' => e = .returned (.bool true) ∧ Below W.heap.size W w') := awake_any
  have l0 := hr.len.1
  have l1 := hs.len.1
  have l2 := hm.len.1
  have HH : Hid (RwsIs w (.slice a0 n0 c0) rows ∧ RunsIs w (.slice a1 n1 c1) rs ∧ MksIs w (.slice a2 n2 c2) ms ∧ rows.length = n0 ∧ rs.length = n1 ∧ ms.length = n2 ∧ (∀ r ∈ rows, r.length ≤ maxLen)) := ⟨hr, hs, hm, l0, l1, l2, hrr⟩
  clear hr hrl hrr hs hsl hm hml l0 l1 l2
  have HFIN : Hid (∀ (W w' : World), Below w.heap.size w W → Below W.heap.size W w' → Below w.heap.size w w') := fun W w' h1 h2 => h1.trans (h2.mono h1.size)
  go_enter Try.func4, Try.ntmps4
  go_wp2_with fail
  go_loopg [7, 8] 61 (fun gg s7 s8 wx => ∃ (i : Nat) (z : Int), i + gg = 61 ∧ i ≤ 60 ∧ s8 = .int .i64 i ∧ s7 = .int .i64 z ∧ Hid (z = cntP rs i) ∧ wx = w)
  case atStart => exact ⟨0, 0, by omega, by omega, rfl, rfl, rfl, rfl⟩
  case round =>
    obtain ⟨i, z, hig, hi60, rfl, rfl, HZ, hw⟩ := hrel
    subst hw
    have hzb := cntP_bd rs i
    rw [← HZ.out] at hzb
    have hz0 : 0 ≤ z ∧ z ≤ 100000 := by omega
    clear hzb
    by_cases hgo : i < n1 ∧ i < 60 ∧ z ≤ 1024
    · obtain ⟨g1, g2, g3⟩ := hgo
      have g1I : (i : Int) < (n1 : Int) := by omega
      have g2I : (i : Int) < 60 := by omega
      have hr2 : IntKind.i64.wrap ((i : Int) + 1) = (i : Int) + 1 := by rw [IntKind.wrap_i64]; omega
      obtain ⟨r, b, off, hr, rfl, q2⟩ := run_at HH.out.2.1 g1
      obtain ⟨c, hc⟩ : ∃ c, c = r.c := ⟨_, rfl⟩
      rw [← hc] at q2
      have HS : Hid (cntP rs (i + 1) = z + min 1024 (max 0 c)) := by unfold Hid; rw [cntP_at hr, ← HZ.out, hc]
      clear hr hc
      by_cases k1 : c ≤ 0
      · have HS2 : Hid (z = cntP rs (i + 1)) := by unfold Hid; rw [HS.out]; omega
        have hw3 : IntKind.i64.wrap (z + 0) = z := by rw [IntKind.wrap_i64]; omega
        go_wp2_with fail
        go_roundg (61 - (i + 1))
        case measure => clear hr2 hw3; omega
        case rel => exact ⟨i + 1, _, by clear hr2 hw3; omega, by clear hr2 hw3; omega, by go_num, rfl, HS2, rfl⟩
      · by_cases k2 : 1024 ≤ c
        · have hw3 : IntKind.i64.wrap (z + 1024) = z + 1024 := by rw [IntKind.wrap_i64]; omega
          have HS2 : Hid (z + 1024 = cntP rs (i + 1)) := by unfold Hid; rw [HS.out]; omega
          go_wp2_with fail
          go_roundg (61 - (i + 1))
          case measure => clear hr2 hw3; omega
          case rel => exact ⟨i + 1, _, by clear hr2 hw3; omega, by clear hr2 hw3; omega, by go_num, rfl, HS2, rfl⟩
        · have hw3 : IntKind.i64.wrap (z + c) = z + c := by rw [IntKind.wrap_i64]; omega
          have HS2 : Hid (z + c = cntP rs (i + 1)) := by unfold Hid; rw [HS.out]; omega
          go_wp2_with fail
          go_roundg (61 - (i + 1))
          case measure => clear hr2 hw3; omega
          case rel => exact ⟨i + 1, _, by clear hr2 hw3; omega, by clear hr2 hw3; omega, by go_num, rfl, HS2, rfl⟩
    · rcases (show (¬ i < n1) ∨ (i < n1 ∧ ¬ i < 60) ∨ (i < n1 ∧ i < 60 ∧ ¬ z ≤ 1024) by omega) with hl | hl | hl
      · rcases (show (60 < n0) ∨ (¬ 60 < n0 ∧ 60 < n1) ∨ (¬ 60 < n0 ∧ ¬ 60 < n1 ∧ 1024 < z) ∨ (¬ 60 < n0 ∧ ¬ 60 < n1 ∧ ¬ 1024 < z ∧ 60 < n2) ∨ (¬ 60 < n0 ∧ ¬ 60 < n1 ∧ ¬ 1024 < z ∧ ¬ 60 < n2) by omega) with hc | hc | hc | hc | hc
        · have hI0 : True := trivial
          have hl0 : ¬ (i : Int) < (n1 : Int) := by omega
          have hc0 : (60 : Int) < (n0 : Int) := by omega
          clear hl hc hgo hI0
          go_wp2_with fail
          refine (HA.out _).mono ?_
          rintro e w1 ⟨rfl, hb1⟩
          have HB1 : Hid (Below wr.heap.size wr w1) := hb1
          clear hb1
          go_wp2_with fail
          go_ret
          exact ⟨rfl, HB1.out⟩
        · exact absurd hc (by omega)
        · have hI0 : True := trivial
          have hl0 : ¬ (i : Int) < (n1 : Int) := by omega
          have hc0 : ¬ (60 : Int) < (n0 : Int) := by omega
          have hc1 : ¬ (60 : Int) < (n1 : Int) := by omega
          have hc2 : 1024 < z := by omega
          clear hl hc hgo hI0
          go_wp2_with fail
          refine (HA.out _).mono ?_
          rintro e w1 ⟨rfl, hb1⟩
          have HB1 : Hid (Below wr.heap.size wr w1) := hb1
          clear hb1
          go_wp2_with fail
          go_ret
          exact ⟨rfl, HB1.out⟩
        · have hI0 : True := trivial
          have hl0 : ¬ (i : Int) < (n1 : Int) := by omega
          have hc0 : ¬ (60 : Int) < (n0 : Int) := by omega
          have hc1 : ¬ (60 : Int) < (n1 : Int) := by omega
          have hc2 : ¬ 1024 < z := by omega
          have hc3 : (60 : Int) < (n2 : Int) := by omega
          clear hl hc hgo hI0
          go_wp2_with fail
          refine (HA.out _).mono ?_
          rintro e w1 ⟨rfl, hb1⟩
          have HB1 : Hid (Below wr.heap.size wr w1) := hb1
          clear hb1
          go_wp2_with fail
          go_ret
          exact ⟨rfl, HB1.out⟩
        · have hI0 : True := trivial
          have hl0 : ¬ (i : Int) < (n1 : Int) := by omega
          have hc0 : ¬ (60 : Int) < (n0 : Int) := by omega
          have hc1 : ¬ (60 : Int) < (n1 : Int) := by omega
          have hc2 : ¬ 1024 < z := by omega
          have hc3 : ¬ (60 : Int) < (n2 : Int) := by omega
          have HN : Hid (n0 ≤ 60 ∧ n1 ≤ 60 ∧ n2 ≤ 60) := by unfold Hid; omega
          clear hi60 HZ hl hc hgo hI0
          obtain ⟨W0, rfl⟩ : ∃ x, x = wr := ⟨_, rfl⟩
          go_wp2_with fail
          go_loopg [9] n0 (fun gg s9 wx => ∃ i : Nat, i + gg = n0 ∧ s9 = .int .i64 i ∧ Hid (∀ (j : Nat) (r : List Cl), j < i → rows[j]? = some r → r.length ≤ 20) ∧ Hid (Below W0.heap.size W0 wx))
          case atStart => exact ⟨0, by omega, rfl, fun j r hj => by omega, Below.refl _ _⟩
          case round =>
            obtain ⟨i, hig2, rfl, HL, HB⟩ := hrel
            by_cases hi : i < n0
            · have hiI : (i : Int) < (n0 : Int) := by omega
              have hr2 : IntKind.i64.wrap ((i : Int) + 1) = (i : Int) + 1 := by rw [IntKind.wrap_i64]; omega
              obtain ⟨r, b, off, a3, n3, c3, hx, rfl, _, x0, hv, hn3, _⟩ := at_rw (HH.out.1.over stays_rw HB.out) hi
              have hc := lightR_any hv (HH.out.2.2.2.2.2.2 r (List.mem_of_getElem? hx))
              have HR : Hid (rows[i]? = some r) := hx
              clear hx hv hn3
              go_wp2_with fail
              refine hc.mono ?_
              rintro e w3 ⟨⟨q, rfl, hq⟩, hb3⟩
              have H3 : Hid (Below W0.heap.size W0 w3) := HFIN.out _ _ HB.out hb3
              have HQ : Hid (q = true → r.length ≤ 20) := hq
              clear hc hb3 hq x0
              cases q with
              | false =>
                go_wp2_with fail
                refine (HA.out _).mono ?_
                rintro e w4 ⟨rfl, hb4⟩
                have HB4 : Hid (Below W0.heap.size W0 w4) := HFIN.out _ _ H3.out hb4
                clear hb4
                go_wp2_with fail
                go_ret
                exact ⟨rfl, HB4.out⟩
              | true =>
                go_wp2_with fail
                go_roundg (n0 - (i + 1))
                case measure => clear hr2; omega
                case rel => exact ⟨i + 1, by clear hr2; omega, by go_num, fun j y hj hy => by
                  by_cases e : j = i
                  · subst e
                    obtain rfl := Option.some.inj (HR.out.symm.trans hy)
                    exact HQ.out (by trivial)
                  · exact HL.out j y (by clear hr2; omega) hy, H3⟩
            · have hiI : ¬ (i : Int) < (n0 : Int) := by omega
              have HRL : Hid (∀ r ∈ rows, r.length ≤ 20) := fun r hr => by
                obtain ⟨j, hj⟩ := List.getElem?_of_mem hr
                exact HL.out j r (by have := (List.getElem?_eq_some_iff.1 hj).1; have := HH.out.2.2.2.1; omega) hj
              obtain ⟨b, hb⟩ : ∃ b : Bool, b = true ↔ May rs := by
                by_cases hm : May rs
                · exact ⟨true, by simp [hm]⟩
                · exact ⟨false, by simp [hm]⟩
              have HLB : Hid (rows.length ≤ 60 ∧ rs.length ≤ 1000 ∧ ms.length ≤ 1000 ∧ (b = true ↔ May rs)) := ⟨by have := HN.out.1; have := HH.out.2.2.2.1; omega, by have := HN.out.2.1; have := HH.out.2.2.2.2.1; omega, by have := HN.out.2.2; have := HH.out.2.2.2.2.2.1; omega, hb⟩
              clear hb HL
              go_wp2_with fail
              refine (lives_any (HH.out.1.over stays_rw HB.out) (HH.out.2.1.below HB.out) (HH.out.2.2.1.over stays_mk HB.out) (by have := HLB.out.1; omega) HLB.out.2.1 HLB.out.2.2.1 (fun r hr => by have := HRL.out r hr; omega) b HLB.out.2.2.2).mono ?_
              rintro e w5 hp5
              have hb5 := hp5.2
              obtain ⟨v5, rfl, s5⟩ := live_uni hp5
              obtain ⟨a5, n5, c5, rfl, _, _⟩ := s5.slice
              obtain ⟨eL, heL⟩ : ∃ eL, eL = liveE b rows (flat rs) ms := ⟨_, rfl⟩
              rw [← heL]
              have H5 : Hid (Below W0.heap.size W0 w5 ∧ LfsIs w5 (.slice a5 n5 c5) (liveL b rows (flat rs) ms) ∧ eL = liveE b rows (flat rs) ms) := ⟨HFIN.out _ _ HB.out hb5, s5, heL⟩
              clear hp5 hb5 s5 heL HB
              go_wp2_with fail
              refine (refLives_any (HH.out.1.over stays_rw H5.out.1) (HH.out.2.1.below H5.out.1) (HH.out.2.2.1.over stays_mk H5.out.1) (by have := HLB.out.1; omega) HLB.out.2.1 HLB.out.2.2.1 b HLB.out.2.2.2).mono ?_
              rintro e w6 hp6
              have hb6 := hp6.2
              obtain ⟨v6, rfl, s6⟩ := live_uni hp6
              obtain ⟨a6, n6, c6, rfl, _, _⟩ := s6.slice
              have H6 : Hid (Below W0.heap.size W0 w6 ∧ LfsIs w6 (.slice a5 n5 c5) (liveL b rows (flat rs) ms) ∧ LfsIs w6 (.slice a6 n6 c6) (liveL b rows (flat rs) ms)) := ⟨HFIN.out _ _ H5.out.1 hb6, H5.out.2.1.over stays_lf hb6, s6⟩
              rw [← H5.out.2.2]
              have HLL : Hid ((liveL b rows (flat rs) ms).length ≤ 1000 ∧ ∀ x ∈ liveL b rows (flat rs) ms, x.r.length ≤ 1000) := liveL_len HLB.out.1 HRL.out
              have dL : (eL == eL) = true := by simp
              clear hp6 hb6 s6 H5
              go_wp2_with fail
              refine (sameL_any H6.out.2.1 H6.out.2.2 HLL.out.1 HLL.out.2).mono ?_
              rintro e w7 ⟨rfl, hb7⟩
              have H7 : Hid (Below W0.heap.size W0 w7) := HFIN.out _ _ H6.out.1 hb7
              clear hb7 H6
              go_wp2_with fail
              refine (HA.out _).mono ?_
              rintro e w8 ⟨rfl, hb8⟩
              have H8 : Hid (Below W0.heap.size W0 w8) := HFIN.out _ _ H7.out hb8
              clear hb8 H7
              go_wp2_with fail
              go_ret
              exact ⟨rfl, H8.out⟩
      · rcases (show (60 < n0) ∨ (¬ 60 < n0 ∧ 60 < n1) ∨ (¬ 60 < n0 ∧ ¬ 60 < n1 ∧ 1024 < z) ∨ (¬ 60 < n0 ∧ ¬ 60 < n1 ∧ ¬ 1024 < z ∧ 60 < n2) ∨ (¬ 60 < n0 ∧ ¬ 60 < n1 ∧ ¬ 1024 < z ∧ ¬ 60 < n2) by omega) with hc | hc | hc | hc | hc
        · have hI0 : True := trivial
          have hl0 : (i : Int) < (n1 : Int) := by omega
          have hl1 : ¬ (i : Int) < 60 := by omega
          have hc0 : (60 : Int) < (n0 : Int) := by omega
          clear hl hc hgo hI0
          go_wp2_with fail
          refine (HA.out _).mono ?_
          rintro e w1 ⟨rfl, hb1⟩
          have HB1 : Hid (Below wr.heap.size wr w1) := hb1
          clear hb1
          go_wp2_with fail
          go_ret
          exact ⟨rfl, HB1.out⟩
        · have hI0 : True := trivial
          have hl0 : (i : Int) < (n1 : Int) := by omega
          have hl1 : ¬ (i : Int) < 60 := by omega
          have hc0 : ¬ (60 : Int) < (n0 : Int) := by omega
          have hc1 : (60 : Int) < (n1 : Int) := by omega
          clear hl hc hgo hI0
          go_wp2_with fail
          refine (HA.out _).mono ?_
          rintro e w1 ⟨rfl, hb1⟩
          have HB1 : Hid (Below wr.heap.size wr w1) := hb1
          clear hb1
          go_wp2_with fail
          go_ret
          exact ⟨rfl, HB1.out⟩
        · exact absurd hc (by omega)
        · exact absurd hc (by omega)
        · exact absurd hc (by omega)
      · rcases (show (60 < n0) ∨ (¬ 60 < n0 ∧ 60 < n1) ∨ (¬ 60 < n0 ∧ ¬ 60 < n1 ∧ 1024 < z) ∨ (¬ 60 < n0 ∧ ¬ 60 < n1 ∧ ¬ 1024 < z ∧ 60 < n2) ∨ (¬ 60 < n0 ∧ ¬ 60 < n1 ∧ ¬ 1024 < z ∧ ¬ 60 < n2) by omega) with hc | hc | hc | hc | hc
        · have hI0 : True := trivial
          have hl0 : (i : Int) < (n1 : Int) := by omega
          have hl1 : (i : Int) < 60 := by omega
          have hl2 : ¬ z ≤ 1024 := by omega
          have hc0 : (60 : Int) < (n0 : Int) := by omega
          clear hl hc hgo hI0
          go_wp2_with fail
          refine (HA.out _).mono ?_
          rintro e w1 ⟨rfl, hb1⟩
          have HB1 : Hid (Below wr.heap.size wr w1) := hb1
          clear hb1
          go_wp2_with fail
          go_ret
          exact ⟨rfl, HB1.out⟩
        · have hI0 : True := trivial
          have hl0 : (i : Int) < (n1 : Int) := by omega
          have hl1 : (i : Int) < 60 := by omega
          have hl2 : ¬ z ≤ 1024 := by omega
          have hc0 : ¬ (60 : Int) < (n0 : Int) := by omega
          have hc1 : (60 : Int) < (n1 : Int) := by omega
          clear hl hc hgo hI0
          go_wp2_with fail
          refine (HA.out _).mono ?_
          rintro e w1 ⟨rfl, hb1⟩
          have HB1 : Hid (Below wr.heap.size wr w1) := hb1
          clear hb1
          go_wp2_with fail
          go_ret
          exact ⟨rfl, HB1.out⟩
        · have hI0 : True := trivial
          have hl0 : (i : Int) < (n1 : Int) := by omega
          have hl1 : (i : Int) < 60 := by omega
          have hl2 : ¬ z ≤ 1024 := by omega
          have hc0 : ¬ (60 : Int) < (n0 : Int) := by omega
          have hc1 : ¬ (60 : Int) < (n1 : Int) := by omega
          have hc2 : 1024 < z := by omega
          clear hl hc hgo hI0
          go_wp2_with fail
          refine (HA.out _).mono ?_
          rintro e w1 ⟨rfl, hb1⟩
          have HB1 : Hid (Below wr.heap.size wr w1) := hb1
          clear hb1
          go_wp2_with fail
          go_ret
          exact ⟨rfl, HB1.out⟩
        · exact absurd hc (by omega)
        · exact absurd hc (by omega)
end Go.Proofs.Ytflabcmjbhmphaa
