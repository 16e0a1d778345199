/-
  The walk of law 17's TestBounds: which of any numbers, rising, pass any test.
-/
import Derived.Test.YtnnnkmgkijijdaaTAwake
import Derived.Test.YtnnnkmgkijijdaaTOpen
namespace Go.Proofs.Ytnnnkmgkijijdaa
open Go.RowKit

/-- What stays: the test. -/
structure Tb (w w' : World) (t : Ts) : Prop where
  bt : Box w' w.heap.size 25 (ta t)
  bel : Below w.heap.size w w'
theorem Tb.over {w w1 w2 : World} {t : Ts} (h : Tb w w1 t) (hb : Below w1.heap.size w1 w2) : Tb w w2 t := ⟨h.bt.over hb, h.bel.trans (hb.mono h.bel.size)⟩
theorem tb_new (w : World) (t : Ts) : Tb w (w.alloc (.cells (ta t) 25)) t := ⟨box_new _ _ _, below1 _ _⟩
/-- Each of the first numbers is greater than the one ahead. -/
def Steps (l : List Int) (m : Nat) : Prop := ∀ (k : Nat) (x y : Int), k + 1 < m → l[k]? = some x → l[k + 1]? = some y → x < y
theorem rise_of {l : List Int} (h : Steps l l.length) : Rise l := by
  have key : ∀ (d i : Nat) (x y : Int), l[i]? = some x → l[i + 1 + d]? = some y → x < y := by
    intro d
    induction d with
    | zero =>
      intro i x y hx hy
      exact h i x y (List.getElem?_eq_some_iff.1 hy).1 hx hy
    | succ d ih =>
      intro i x y hx hy
      have hl := (List.getElem?_eq_some_iff.1 hy).1
      have hz : l[i + 1 + d]? = some l[i + 1 + d] := List.getElem?_eq_getElem (by omega)
      have h1 := ih i x _ hx hz
      have h2 := h (i + 1 + d) _ y (by omega) hz hy
      omega
  intro i j x y hij hx hy
  obtain ⟨d, rfl⟩ : ∃ d, j = i + 1 + d := ⟨j - (i + 1), by omega⟩
  exact key d i x y hx hy

set_option maxRecDepth 4000 in
set_option maxHeartbeats 16000000 in
theorem walkTestBounds (t : Ts) {w : World} (a : Option Addr) (len cap : Nat) (zs : List Int) (hz : IsRow .i64 w a len cap zs) :
    Calls Try.prog 7 #[tv t, .slice a len cap] w fun e w' => e = .returned (.bool true) ∧ Below w.heap.size w w' := by
  obtain ⟨l, hl, hN⟩ := nums_of hz
  have haw := awake_any
  have T0 := tb_new w t
  have k1 : ∀ w, _ := fun w => refMayT_any t w
  have k2 : ∀ x w, _ := fun x w => refMatch_any t (numC x) w
  have k3 : ∀ x w, _ := fun x w => num_any x w
  have HK : Hid (Rise l → l.length ≤ 1000000 → ∀ W, Below w.heap.size w W → Calls Try.prog 23 #[tv t, .slice a len cap] W fun e w' => (∃ (f u : Nat), e = .returned (.tuple #[.int .i64 f, .int .i64 u]) ∧ BoundsAns t l f u) ∧ Below W.heap.size W w') := fun hr hm W hW => bounds_any (hN.below hW) hr hm t
  have HN : Hid (l.length = len) := hl
  have HH : Hid (l ≠ [] → ∃ b off, a = some ⟨b, off, none⟩ ∧ b < w.heap.size ∧ ∀ (i : Nat) (x : Int), l[i]? = some x → w.cell? ⟨b, off + i, none⟩ = some (.int .i64 x)) := by
    obtain ⟨a', cap', e, h⟩ := hN
    injection e with e1 e2 e3
    rw [e1]
    exact h
  clear hz hl hN
  have HT : Hid (t = t) := rfl
  obtain ⟨T, hT⟩ : ∃ T, T = t := ⟨_, rfl⟩
  rw [← hT] at HK k1 k2 T0
  have HTT : Hid (T = t) := hT
  clear hT HT
  obtain ⟨op, ⟨vk, vn, vs⟩⟩ := t
  by_cases h1 : (60 : Int) < (len : Int)
  · clear k1 k2 k3 T0
    go_enter Try.func7, Try.ntmps7
    go_wp2_with (go_at_call 8; refine (haw _).mono ?_; rintro e w2 ⟨rfl, hb2⟩)
    go_ret
    exact ⟨rfl, (below1 _ _).trans (hb2.mono (by simp))⟩
  by_cases h2 : (100 : Int) < (vs.size : Int)
  · clear k1 k2 k3 T0
    go_enter Try.func7, Try.ntmps7
    go_wp2_with (go_at_call 8; refine (haw _).mono ?_; rintro e w2 ⟨rfl, hb2⟩)
    go_ret
    exact ⟨rfl, (below1 _ _).trans (hb2.mono (by simp))⟩
  have T0 : Hid (Tb w (w.alloc (.cells (ta ⟨op, ⟨vk, vn, vs⟩⟩) 25)) T) := by rw [HTT.out] at T0 ⊢; exact T0
  go_enter Try.func7, Try.ntmps7
  go_wp2_with fail
  go_loopg [5] (len - 1) (fun g s5 wx => ∃ i : Nat, i + g = len - 1 ∧ s5 = .int .i64 ((i : Int) + 1) ∧ Hid (Steps l (i + 1)) ∧ Hid (Tb w wx T))
  case atStart => exact ⟨0, by omega, rfl, (fun k x y hk => by omega : Steps l 1), T0⟩
  case round =>
    clear T0
    obtain ⟨i, hig, rfl, HS, HB⟩ := hrel
    by_cases hi : i + 1 < len
    · have hiI : (i : Int) + 1 < (len : Int) := by omega
      have hrn := HN.out
      have hne : l ≠ [] := by rintro rfl; simp at hrn; omega
      obtain ⟨b, off, rfl, hb, hc⟩ := HH.out hne
      obtain ⟨y, hy⟩ : ∃ y, l[i]? = some y := ⟨_, List.getElem?_eq_getElem (by omega)⟩
      obtain ⟨x, hx⟩ : ∃ x, l[i + 1]? = some x := ⟨_, List.getElem?_eq_getElem (by omega)⟩
      have q0 : ∀ q : Above wr, q.it.cell? ⟨b, off + (i + 1), none⟩ = some (.int .i64 x) := fun q => ((HB.out.bel.trans (q.is.mono HB.out.bel.size)).cell (p := ⟨b, off + (i + 1), none⟩) hb).trans (hc _ x hx)
      have q1 : ∀ q : Above wr, q.it.cell? ⟨b, off + i, none⟩ = some (.int .i64 y) := fun q => ((HB.out.bel.trans (q.is.mono HB.out.bel.size)).cell (p := ⟨b, off + i, none⟩) hb).trans (hc _ y hy)
      have hw1 : IntKind.i64.wrap ((i : Int) + 1 - 1) = (i : Int) := by rw [IntKind.wrap_i64]; omega
      have hw2 : IntKind.i64.wrap ((i : Int) + 1 + 1) = (i : Int) + 1 + 1 := by rw [IntKind.wrap_i64]; omega
      have hi0 : (i : Int) < (len : Int) := by omega
      have hiN : i + 1 < len := hi
      have hiN0 : i < len := by omega
      have HXY : Hid (l[i]? = some y ∧ l[i + 1]? = some x) := ⟨hy, hx⟩
      clear hrn hne hc hy hx hb
      by_cases hxy : x ≤ y
      · go_wp2_with fail
        refine wp_region_above (by kernel_rfl) (by kernel_rfl) ?_
        intro hne
        repeat (go_big_quiet_step (fail))
        refine wpQuiet_nil ?_
        rintro _ ⟨kq, rfl⟩
        have HB2 := HB.out.over kq.is
        clear q0 q1
        go_wp2_with (go_at_call 8; refine (haw _).mono ?_; rintro e w2 ⟨rfl, hb2⟩)
        go_ret
        exact ⟨rfl, (HB2.over hb2).bel⟩
      · go_wp2_with fail
        refine wp_region_above (by kernel_rfl) (by kernel_rfl) ?_
        intro hne
        repeat (go_big_quiet_step (fail))
        refine wpQuiet_nil ?_
        rintro _ ⟨kq, rfl⟩
        have HB2 : Hid (Tb w kq.it T) := HB.out.over kq.is
        clear q0 q1
        go_wp2_with fail
        go_roundg (len - 1 - (i + 1))
        case measure => clear hw1 hw2; omega
        case rel =>
          refine ⟨i + 1, by clear hw1 hw2; omega, by go_num, (fun k u v hk hu hv => ?_ : Steps l (i + 1 + 1)), HB2⟩
          clear hw1 hw2
          by_cases e : k = i
          · subst e
            rw [HXY.out.1] at hu
            rw [HXY.out.2] at hv
            obtain rfl := Option.some.inj hu
            obtain rfl := Option.some.inj hv
            omega
          · exact HS.out k u v (by omega) hu hv
    · have hiI : ¬ (i : Int) + 1 < (len : Int) := by omega
      have hri : Rise l := rise_of fun k x y hk => HS.out k x y (by have := HN.out; omega)
      have kb := HK.out hri (by have := HN.out; omega) _ HB.out.bel
      rw [HTT.out] at kb
      have hb1 := HB.out.bt
      rw [HTT.out] at hb1
      obtain ⟨t0, t1, t2, t3⟩ := test_cells hb1
      clear hri hb1 HS HK
      go_wp2_with fail
      refine kb.mono ?_
      rintro e w1 ⟨⟨f, u, rfl, hA⟩, hb1⟩
      have HA : Hid (BoundsAns T l f u) := by rw [HTT.out]; exact hA
      have HB1 : Hid (Tb w w1 T) := HB.out.over hb1
      clear kb hb1 hA HB t0 t1 t2 t3
      have hb1 := HB1.out.bt
      rw [HTT.out] at hb1
      obtain ⟨t0, t1, t2, t3⟩ := test_cells hb1
      clear hb1
      by_cases h2p : op = 2
      · obtain ⟨rfl, rfl⟩ : f = 0 ∧ u = 0 := HA.out.2.2.1 (.inr (by rw [HTT.out]; exact h2p))
        subst h2p
        clear k1 k2 k3 HA
        go_wp2_with (go_at_call 8; refine (haw _).mono ?_; rintro e w2 ⟨rfl, hb2⟩)
        go_ret
        exact ⟨rfl, (HB1.out.over hb2).bel⟩
      have h2b : (op == 2) = false := by simpa using h2p
      have k1' := k1
      rw [HTT.out] at k1'
      cases hmt : mayT T with
      | false =>
        rw [HTT.out] at hmt
        rw [hmt] at k1'
        obtain ⟨rfl, rfl⟩ : f = 0 ∧ u = 0 := HA.out.2.2.1 (.inl (by rw [HTT.out]; exact hmt))
        clear k1 k2 k3 HA hmt h2p
        go_wp2_with (first
          | (go_at_call 12; refine (k1' _).mono ?_; rintro e w2 ⟨rfl, hb2⟩)
          | (go_at_call 8; refine (haw _).mono ?_; rintro e w3 ⟨rfl, hb3⟩))
        go_ret
        exact ⟨rfl, ((HB1.out.over hb2).over hb3).bel⟩
      | true =>
        have HP : Hid ((f < u ∨ (f = 0 ∧ u = 0)) ∧ u ≤ l.length ∧ ∀ (j : Nat) (x : Int), l[j]? = some x → (matchT T (numC x) = true ↔ f ≤ j ∧ j < u)) := ⟨HA.out.1, HA.out.2.1, HA.out.2.2.2 hmt (by rw [HTT.out]; exact h2p)⟩
        rw [HTT.out] at hmt
        rw [hmt] at k1'
        clear HA hmt h2p k1
        go_wp2_with fail
        refine (k1' _).mono ?_
        rintro e w2 ⟨rfl, hb2⟩
        have HB2 : Hid (Tb w w2 T) := HB1.out.over hb2
        clear hb2 HB1 t0 t1 t2 t3 k1'
        go_wp2_with fail
        go_loopg [8, 9] len (fun g s8 s9 wx => ∃ i : Nat, i + g = len ∧ s9 = .int .i64 i ∧ ∃ sb : Bool, s8 = .bool sb ∧ Hid (sb = true ↔ ∃ (j : Nat) (x : Int), j < i ∧ l[j]? = some x ∧ matchT T (numC x) = true) ∧ Hid (Tb w wx T))
        case atStart => exact ⟨0, by omega, rfl, false, rfl, (⟨fun h => (by cases h), fun ⟨j, _, hj, _⟩ => (by omega)⟩ : false = true ↔ ∃ (j : Nat) (x : Int), j < 0 ∧ l[j]? = some x ∧ matchT T (numC x) = true), HB2⟩
        case round =>
          clear HB2
          obtain ⟨i, hig, rfl, sb, rfl, HS, HB⟩ := hrel
          by_cases hi : i < len
          · have hiI : (i : Int) < (len : Int) := by omega
            have hrn := HN.out
            have hne : l ≠ [] := by rintro rfl; simp at hrn; omega
            obtain ⟨b, off, rfl, hb, hc⟩ := HH.out hne
            obtain ⟨x, hx⟩ : ∃ x, l[i]? = some x := ⟨_, List.getElem?_eq_getElem (by omega)⟩
            have q0 : ∀ q : Above wr, q.it.cell? ⟨b, off + i, none⟩ = some (.int .i64 x) := fun q => ((HB.out.bel.trans (q.is.mono HB.out.bel.size)).cell (p := ⟨b, off + i, none⟩) hb).trans (hc _ x hx)
            have hbt : ∀ q : Above wr, Box q.it w.heap.size 25 (ta ⟨op, ⟨vk, vn, vs⟩⟩) := fun q => by
              have := (HB.out.over q.is).bt
              rwa [HTT.out] at this
            have t0 := fun q => (hbt q).cell 0 (.int .i64 op) rfl
            have t1 := fun q => (hbt q).cell 1 (.int .i64 vk) rfl
            have t2 := fun q => (hbt q).cell 2 (.int .i64 vn) rfl
            have t3 := fun q => (hbt q).cell 3 (.string vs) rfl
            have hr2 : IntKind.i64.wrap ((i : Int) + 1) = (i : Int) + 1 := by rw [IntKind.wrap_i64]; omega
            have hP := HP.out.2.2 i x hx
            have k2x := k2 x
            have k3x := k3 x
            obtain ⟨m, hm⟩ : ∃ m, m = matchT T (numC x) := ⟨_, rfl⟩
            rw [← hm] at k2x hP
            have HM : Hid (l[i]? = some x ∧ m = matchT T (numC x)) := ⟨hx, hm⟩
            rw [HTT.out] at k2x
            clear hrn hne hc hx hm hbt hb
            have HS2 : Hid ((sb || m) = true ↔ ∃ (j : Nat) (x : Int), j < i + 1 ∧ l[j]? = some x ∧ matchT T (numC x) = true) := by
              unfold Hid
              rw [Bool.or_eq_true, HS.out]
              constructor
              · rintro (⟨j, y, hj, h1, h2⟩ | h)
                · exact ⟨j, y, by omega, h1, h2⟩
                · exact ⟨i, x, by omega, HM.out.1, by rw [← HM.out.2]; exact h⟩
              · rintro ⟨j, y, hj, h1, h2⟩
                by_cases e : j = i
                · subst e
                  rw [HM.out.1] at h1
                  obtain rfl := Option.some.inj h1
                  exact .inr (HM.out.2.trans h2)
                · exact .inl ⟨j, y, by omega, h1, h2⟩
            have hcs : (m = true ∧ (f : Int) ≤ (i : Int) ∧ (i : Int) < (u : Int)) ∨ (m = false ∧ ¬ (f : Int) ≤ (i : Int)) ∨ (m = false ∧ (f : Int) ≤ (i : Int) ∧ ¬ (i : Int) < (u : Int)) := by
              cases m with
              | true => exact .inl ⟨rfl, by have := hP.1 rfl; omega⟩
              | false =>
                by_cases e : f ≤ i
                · refine .inr (.inr ⟨rfl, by omega, ?_⟩)
                  intro e2
                  have := hP.2 ⟨e, by omega⟩
                  cases this
                · exact .inr (.inl ⟨rfl, by omega⟩)
            clear hP HS
            rcases hcs with ⟨rfl, g1, g2⟩ | ⟨rfl, g1⟩ | ⟨rfl, g1, g2⟩
            all_goals
              go_wp2_with fail
              refine wp_region_above (by kernel_rfl) (by kernel_rfl) ?_
              intro hne
              repeat (go_big_quiet_step (first
                | (go_at_call 24; exact above_of (k3x _))
                | (go_at_call 11; exact above_of (k2x _))))
              refine wpQuiet_nil ?_
              rintro _ ⟨kq, rfl⟩
              have HB2 : Hid (Tb w kq.it T) := HB.out.over kq.is
              clear q0 t0 t1 t2 t3 k2x k3x
              cases sb
              all_goals
                go_wp2_with fail
                go_roundg (len - (i + 1))
                case measure => clear hr2; omega
                case rel => exact ⟨i + 1, by clear hr2; omega, by go_num, _, rfl, HS2, HB2⟩
          · have hiI : ¬ (i : Int) < (len : Int) := by omega
            obtain rfl : i = len := by omega
            cases sb with
            | true =>
              clear k2 k3
              go_wp2_with (go_at_call 8; refine (haw _).mono ?_; rintro e w3 ⟨rfl, hb3⟩)
              go_ret
              exact ⟨rfl, (HB.out.over hb3).bel⟩
            | false =>
              obtain ⟨rfl, rfl⟩ : f = 0 ∧ u = 0 := by
                obtain ⟨p1, p2, p3⟩ := HP.out
                rcases p1 with p1 | p1
                · have hl := HN.out
                  have hx : l[f]? = some l[f] := List.getElem?_eq_getElem (by omega)
                  have := HS.out.2 ⟨f, _, by omega, hx, (p3 f _ hx).2 ⟨Nat.le_refl _, p1⟩⟩
                  cases this
                · exact p1
              clear k2 k3
              go_wp2_with (go_at_call 8; refine (haw _).mono ?_; rintro e w3 ⟨rfl, hb3⟩)
              go_ret
              exact ⟨rfl, (HB.out.over hb3).bel⟩
end Go.Proofs.Ytnnnkmgkijijdaa
