/-
  The walk of law 14's SpanSets: sets go together as they must.
-/
import Derived.Test.YteijhnfciiblmaaWSpanBoth
import Derived.Test.YteijhnfciiblmaaWSpanOf
namespace Go.Proofs.Yteijhnfciiblmaa
open Go.RowKit

theorem cnt_add (f g : Nat → Bool) : ∀ l : List Nat, l.countP (fun j => f j || g j) + l.countP (fun j => f j && g j) = l.countP f + l.countP g
  | [] => by simp
  | a :: l => by
    have ih := cnt_add f g l
    simp only [List.countP_cons]
    cases f a <;> cases g a <;> simp <;> omega
theorem pl_count {R : List Sn} (h : mayS R = true) : (pl R).length = (List.range 65536).countP fun j : Nat => inB R (j : Int) := by
  have e : (List.range 65536).countP (fun j : Nat => inB R (j : Int)) = (((List.range 65536).filter fun j : Nat => inB R (j : Int)).map fun j : Nat => (j : Int)).length := by
    rw [List.length_map, List.countP_eq_length_filter]
  rw [e]
  apply Nat.le_antisymm
  · refine sub_len _ _ ?_ fun x hx => ?_
    · rw [List.pairwise_iff_getElem]
      intro i j hi hj hij e
      have := pl_rise h i j _ _ hij (List.getElem?_eq_getElem hi) (List.getElem?_eq_getElem hj)
      omega
    · have hi := (mem_pl h).1 hx
      have hb := in_may h hi
      rw [List.mem_map]
      refine ⟨x.toNat, ?_, by omega⟩
      rw [List.mem_filter, List.mem_range]
      exact ⟨by omega, by rw [show ((x.toNat : Nat) : Int) = x by omega]; exact inB_iff.2 hi⟩
  · refine sub_len _ _ ?_ fun x hx => ?_
    · rw [List.pairwise_map]
      have hr : ((List.range 65536).filter fun j : Nat => inB R (j : Int)).Pairwise (· < ·) := List.pairwise_lt_range.filter _
      rw [List.pairwise_iff_getElem] at hr ⊢
      intro i j hi hj hij e
      have := hr i j hi hj hij
      omega
    · rw [List.mem_map] at hx
      obtain ⟨j, hj, rfl⟩ := hx
      rw [List.mem_filter] at hj
      exact (mem_pl h).2 (inB_iff.1 hj.2)
theorem in_set {R : List Sn} {f : Bool → Bool → Bool} {a b : List Sn} (h : IsSet R (Wn f a b)) (x : Int) : inB R x = f (inB a x) (inB b x) := by
  rw [Bool.eq_iff_iff, inB_iff, h.iff]
  rfl
theorem count_both {A B X Z : List Sn} (ma : mayS A = true) (mb : mayS B = true) (hX : IsSet X (Wn (fun p q => p && q) A B)) (hZ : IsSet Z (Wn (fun p q => p || q) A B)) : (pl Z).length + (pl X).length = (pl A).length + (pl B).length := by
  rw [pl_count hZ.may, pl_count hX.may, pl_count ma, pl_count mb]
  have e1 : (fun j : Nat => inB Z (j : Int)) = fun j : Nat => (inB A (j : Int) || inB B (j : Int)) := funext fun j => in_set hZ _
  have e2 : (fun j : Nat => inB X (j : Int)) = fun j : Nat => (inB A (j : Int) && inB B (j : Int)) := funext fun j => in_set hX _
  rw [e1, e2]
  exact cnt_add _ _ _
theorem wn_comm {f : Bool → Bool → Bool} (hf : ∀ p q, f p q = f q p) {a b R R' : List Sn} (h : IsSet R (Wn f a b)) (h' : IsSet R' (Wn f b a)) : R = R' := h.unique h' fun x => by unfold Wn; rw [hf]
theorem wn_whole {A B X L T : List Sn} (ma : mayS A = true) (hX : IsSet X (Wn (fun p q => p && q) A B)) (hL : IsSet L (Wn (fun p q => p && !q) A B)) (hT : IsSet T (Wn (fun p q => p || q) X L)) : T = A :=
  hT.unique (isSet_self ma) fun x => by
    unfold Wn
    rw [in_set hX, in_set hL, ← inB_iff]
    cases inB A x <;> cases inB B x <;> simp
theorem wn_none {A B X L N : List Sn} (hX : IsSet X (Wn (fun p q => p && q) A B)) (hL : IsSet L (Wn (fun p q => p && !q) A B)) (hN : IsSet N (Wn (fun p q => p && q) X L)) : N = [] := by
  refine hN.unique (R' := []) (P' := fun _ => False) ⟨rfl, fun x => by simp [in_nil]⟩ fun x => ?_
  unfold Wn
  rw [in_set hX, in_set hL]
  cases inB A x <;> cases inB B x <;> simp
theorem BothAns.yes {w : World} {f : Bool → Bool → Bool} {a b : List Sn} {e : Ending} {w' : World} (h : BothAns w f a b e w') (ma : mayS a = true) (mb : mayS b = true) : (∃ v R, e = .returned (.tuple #[v, .int .i64 0]) ∧ SpansIs w' v R ∧ IsSet R (Wn f a b)) ∧ Below w.heap.size w w' := by
  refine ⟨?_, h.2⟩
  rcases h.1 with ⟨_, h⟩ | ⟨hm, _⟩
  · exact h
  · rw [ma, mb] at hm; cases hm
theorem few_big {R : List Sn} (h : mayS R = true) : R.length ≤ 1000000 := by have := may_len h; omega

set_option maxRecDepth 100000 in
set_option maxHeartbeats 8000000 in
theorem walkSpanSets {w : World} (a : Option Addr) (na ca : Nat) (ha : SpansAre w a na ca) (b : Option Addr) (nb cb : Nat) (hb : SpansAre w b nb cb) :
    Calls Try.prog 6 #[.slice a na ca, .slice b nb cb] w fun e w' => e = .returned (.bool true) ∧ Below w.heap.size w w' := by
  obtain ⟨A, sa, _⟩ := ha
  obtain ⟨B, sb, _⟩ := hb
  have H0 : Hid (Sps w w [(.slice a na ca, A), (.slice b nb cb, B)]) := ⟨fun p hp => by
    simp only [List.mem_cons, List.not_mem_nil, or_false] at hp
    rcases hp with rfl | rfl
    · exact sa
    · exact sb, Below.refl _ _⟩
  clear sa sb
  have hfa := few_any (H0.out.get (.slice a na ca) A (by simp))
  cases hf : fewA A with
  | false =>
    rw [hf] at hfa
    clear hf
    go_enter Try.func6, Try.ntmps6
    go_wp2_with fail
    refine hfa.mono ?_
    rintro e w1 ⟨rfl, q1, hw1⟩
    have hb1 : Below w.heap.size w w1 := by rw [hw1]; exact below_self_drewN _ _
    clear hfa hw1 H0
    go_wp2_with (go_at_call 9; refine (awake_any _).mono ?_; rintro e w2 ⟨rfl, hb2⟩)
    go_ret
    exact ⟨rfl, hb1.trans (hb2.mono hb1.size)⟩
  | true =>
    rw [hf] at hfa
    have hl := few_len hf
    clear hf
    go_enter Try.func6, Try.ntmps6
    go_wp2_with fail
    refine hfa.mono ?_
    rintro e w1 ⟨rfl, q1, hw1⟩
    have H1 : Hid (Sps w w1 [(.slice a na ca, A), (.slice b nb cb, B)]) := H0.out.over (by rw [hw1]; exact below_self_drewN _ _)
    clear hfa hw1 H0
    have hfb := few_any (H1.out.get (.slice b nb cb) B (by simp))
    cases hf2 : fewA B with
    | false =>
      rw [hf2] at hfb
      clear hf2
      go_wp2_with fail
      refine hfb.mono ?_
      rintro e w2 ⟨rfl, q2, hw2⟩
      have hb2 : Below w.heap.size w w2 := (H1.out.over (by rw [hw2]; exact below_self_drewN _ _)).below
      clear hfb hw2 H1
      go_wp2_with (go_at_call 9; refine (awake_any _).mono ?_; rintro e w3 ⟨rfl, hb3⟩)
      go_ret
      exact ⟨rfl, hb2.trans (hb3.mono hb2.size)⟩
    | true =>
      rw [hf2] at hfb
      have hl2 := few_len hf2
      have HL : Hid (A.length ≤ 1000000 ∧ B.length ≤ 1000000) := ⟨by omega, by omega⟩
      clear hf2 hl hl2
      go_wp2_with fail
      refine hfb.mono ?_
      rintro e w2 ⟨rfl, q2, hw2⟩
      have H2 : Hid (Sps w w2 [(.slice a na ca, A), (.slice b nb cb, B)]) := H1.out.over (by rw [hw2]; exact below_self_drewN _ _)
      clear hfb hw2 H1
      have hma := refMay_any (H2.out.get (.slice a na ca) A (by simp)) HL.out.1
      cases ema : mayS A with
      | false =>
        rw [ema] at hma
        clear ema
        go_wp2_with fail
        refine hma.mono ?_
        rintro e w3 ⟨rfl, q3, hw3⟩
        have hb3 : Below w.heap.size w w3 := (H2.out.over (by rw [hw3]; exact below_self_drewN _ _)).below
        clear hma hw3 H2
        go_wp2_with (go_at_call 9; refine (awake_any _).mono ?_; rintro e w4 ⟨rfl, hb4⟩)
        go_ret
        exact ⟨rfl, hb3.trans (hb4.mono hb3.size)⟩
      | true =>
        rw [ema] at hma
        have HMA : Hid (mayS A = true) := ema
        clear ema
        go_wp2_with fail
        refine hma.mono ?_
        rintro e w3 ⟨rfl, q3, hw3⟩
        have H3 : Hid (Sps w w3 [(.slice a na ca, A), (.slice b nb cb, B)]) := H2.out.over (by rw [hw3]; exact below_self_drewN _ _)
        clear hma hw3 H2
        have hmb := refMay_any (H3.out.get (.slice b nb cb) B (by simp)) HL.out.2
        cases emb : mayS B with
        | false =>
          rw [emb] at hmb
          clear emb
          go_wp2_with fail
          refine hmb.mono ?_
          rintro e w4 ⟨rfl, q4, hw4⟩
          have hb4 : Below w.heap.size w w4 := (H3.out.over (by rw [hw4]; exact below_self_drewN _ _)).below
          clear hmb hw4 H3
          go_wp2_with (go_at_call 9; refine (awake_any _).mono ?_; rintro e w5 ⟨rfl, hb5⟩)
          go_ret
          exact ⟨rfl, hb4.trans (hb5.mono hb4.size)⟩
        | true =>
          rw [emb] at hmb
          have HMB : Hid (mayS B = true) := emb
          clear emb
          go_wp2_with fail
          refine hmb.mono ?_
          rintro e w4 ⟨rfl, q4, hw4⟩
          have H4 : Hid (Sps w w4 [(.slice a na ca, A), (.slice b nb cb, B)]) := H3.out.over (by rw [hw4]; exact below_self_drewN _ _)
          clear hmb hw4 H3
          -- x
          have hc := and_any (H4.out.get (.slice a na ca) A (by simp)) (H4.out.get (.slice b nb cb) B (by simp)) HL.out.1 HL.out.2
          go_wp2_with fail
          refine hc.mono ?_
          intro e w5 hans
          obtain ⟨⟨x, X, rfl, hx, hX⟩, hb5⟩ := hans.yes HMA.out HMB.out
          have H5 : Hid (Sps w w5 [(x, X), (.slice a na ca, A), (.slice b nb cb, B)]) := (H4.out.over hb5).add hx
          have HX : Hid (IsSet X (Wn (fun p q => p && q) A B)) := hX
          clear hc hans hx hX hb5 H4
          -- y
          have hc := and_any (H5.out.get (.slice b nb cb) B (by simp)) (H5.out.get (.slice a na ca) A (by simp)) HL.out.2 HL.out.1
          go_wp2_with fail
          refine hc.mono ?_
          intro e w6 hans
          obtain ⟨⟨y, Y, rfl, hy, hY⟩, hb6⟩ := hans.yes HMB.out HMA.out
          obtain rfl : X = Y := wn_comm (fun p q => Bool.and_comm p q) HX.out hY
          have H6 : Hid (Sps w w6 [(y, X), (x, X), (.slice a na ca, A), (.slice b nb cb, B)]) := (H5.out.over hb6).add hy
          clear hc hans hy hY hb6 H5
          -- z
          have hc := or_any (H6.out.get (.slice a na ca) A (by simp)) (H6.out.get (.slice b nb cb) B (by simp)) HL.out.1 HL.out.2
          go_wp2_with fail
          refine hc.mono ?_
          intro e w7 hans
          obtain ⟨⟨z, Z, rfl, hz, hZ⟩, hb7⟩ := hans.yes HMA.out HMB.out
          have H7 : Hid (Sps w w7 [(z, Z), (y, X), (x, X), (.slice a na ca, A), (.slice b nb cb, B)]) := (H6.out.over hb7).add hz
          have HZ : Hid (IsSet Z (Wn (fun p q => p || q) A B)) := hZ
          clear hc hans hz hZ hb7 H6
          -- w
          have hc := or_any (H7.out.get (.slice b nb cb) B (by simp)) (H7.out.get (.slice a na ca) A (by simp)) HL.out.2 HL.out.1
          go_wp2_with fail
          refine hc.mono ?_
          intro e w8 hans
          obtain ⟨⟨u, U, rfl, hu, hU⟩, hb8⟩ := hans.yes HMB.out HMA.out
          obtain rfl : Z = U := wn_comm (fun p q => Bool.or_comm p q) HZ.out hU
          have H8 : Hid (Sps w w8 [(u, Z), (z, Z), (y, X), (x, X), (.slice a na ca, A), (.slice b nb cb, B)]) := (H7.out.over hb8).add hu
          clear hc hans hu hU hb8 H7
          -- l
          have hc := less_any (H8.out.get (.slice a na ca) A (by simp)) (H8.out.get (.slice b nb cb) B (by simp)) HL.out.1 HL.out.2
          go_wp2_with fail
          refine hc.mono ?_
          intro e w9 hans
          obtain ⟨⟨l, L, rfl, hl, hL⟩, hb9⟩ := hans.yes HMA.out HMB.out
          have H9 : Hid (Sps w w9 [(l, L), (u, Z), (z, Z), (y, X), (x, X), (.slice a na ca, A), (.slice b nb cb, B)]) := (H8.out.over hb9).add hl
          have HLL : Hid (IsSet L (Wn (fun p q => p && !q) A B)) := hL
          clear hc hans hl hL hb9 H8
          -- both
          have hc := or_any (H9.out.get x X (by simp)) (H9.out.get l L (by simp)) (few_big HX.out.may) (few_big HLL.out.may)
          go_wp2_with fail
          refine hc.mono ?_
          intro e w10 hans
          obtain ⟨⟨t, T, rfl, ht, hT⟩, hb10⟩ := hans.yes HX.out.may HLL.out.may
          obtain rfl : T = A := wn_whole HMA.out HX.out HLL.out hT
          have H10 : Hid (Sps w w10 [(t, T), (l, L), (u, Z), (z, Z), (y, X), (x, X), (.slice a na ca, T), (.slice b nb cb, B)]) := (H9.out.over hb10).add ht
          clear hc hans ht hT hb10 H9
          -- none
          have hc := and_any (H10.out.get x X (by simp)) (H10.out.get l L (by simp)) (few_big HX.out.may) (few_big HLL.out.may)
          go_wp2_with fail
          refine hc.mono ?_
          intro e w11 hans
          obtain ⟨⟨o, O, rfl, ho, hO⟩, hb11⟩ := hans.yes HX.out.may HLL.out.may
          obtain rfl : O = [] := wn_none HX.out HLL.out hO
          obtain ⟨oa, on, oc, rfl, hon, _⟩ := ho.slice
          obtain rfl : on = 0 := hon.symm
          have H11 : Hid (Sps w w11 [(t, T), (l, L), (u, Z), (z, Z), (y, X), (x, X), (.slice a na ca, T), (.slice b nb cb, B)]) := H10.out.over hb11
          clear hc hans ho hO hb11 H10 hon
          -- the sames
          have hc := sameS_any (H11.out.get x X (by simp)) (H11.out.get y X (by simp)) (few_big HX.out.may)
          go_wp2_with fail
          refine hc.mono ?_
          rintro e w12 ⟨rfl, q12, hw12⟩
          have H12 : Hid (Sps w w12 [(t, T), (l, L), (u, Z), (z, Z), (y, X), (x, X), (.slice a na ca, T), (.slice b nb cb, B)]) := H11.out.over (by rw [hw12]; exact below_self_drewN _ _)
          clear hc hw12 H11
          have hc := sameS_any (H12.out.get z Z (by simp)) (H12.out.get u Z (by simp)) (few_big HZ.out.may)
          go_wp2_with fail
          refine hc.mono ?_
          rintro e w13 ⟨rfl, q13, hw13⟩
          have H13 : Hid (Sps w w13 [(t, T), (l, L), (u, Z), (z, Z), (y, X), (x, X), (.slice a na ca, T), (.slice b nb cb, B)]) := H12.out.over (by rw [hw13]; exact below_self_drewN _ _)
          clear hc hw13 H12
          have hc := sameS_any (H13.out.get t T (by simp)) (H13.out.get (.slice a na ca) T (by simp)) HL.out.1
          go_wp2_with fail
          refine hc.mono ?_
          rintro e w14 ⟨rfl, q14, hw14⟩
          have H14 : Hid (Sps w w14 [(t, T), (l, L), (u, Z), (z, Z), (y, X), (x, X), (.slice a na ca, T), (.slice b nb cb, B)]) := H13.out.over (by rw [hw14]; exact below_self_drewN _ _)
          clear hc hw14 H13
          -- the counts
          have hsum := count_both HMA.out HMB.out HX.out HZ.out
          have kz : rankA Z 65536 = ((pl Z).length : Int) := by unfold rankA; rw [if_pos HZ.out.may]; exact count_is HZ.out.may
          have kx : rankA X 65536 = ((pl X).length : Int) := by unfold rankA; rw [if_pos HX.out.may]; exact count_is HX.out.may
          have kt : rankA T 65536 = ((pl T).length : Int) := by unfold rankA; rw [if_pos HMA.out]; exact count_is HMA.out
          have kb : rankA B 65536 = ((pl B).length : Int) := by unfold rankA; rw [if_pos HMB.out]; exact count_is HMB.out
          have lz := pl_len HZ.out.may
          have lx := pl_len HX.out.may
          have lt := pl_len HMA.out
          have lb := pl_len HMB.out
          obtain ⟨cz, ez⟩ : ∃ cz, cz = (pl Z).length := ⟨_, rfl⟩
          obtain ⟨cx, ex⟩ : ∃ cx, cx = (pl X).length := ⟨_, rfl⟩
          obtain ⟨ct, et⟩ : ∃ ct, ct = (pl T).length := ⟨_, rfl⟩
          obtain ⟨cc, eb⟩ : ∃ cc, cc = (pl B).length := ⟨_, rfl⟩
          rw [← ez] at hsum kz lz
          rw [← ex] at hsum kx lx
          rw [← et] at hsum kt lt
          rw [← eb] at hsum kb lb
          have HK : Hid (rankA Z 65536 = (cz : Int) ∧ rankA X 65536 = (cx : Int) ∧ rankA T 65536 = (ct : Int) ∧ rankA B 65536 = (cc : Int)) := ⟨kz, kx, kt, kb⟩
          have b1 : (cz : Int) ≤ 65537 := by omega
          have b2 : (cx : Int) ≤ 65537 := by omega
          have b3 : (ct : Int) ≤ 65537 := by omega
          have b4 : (cc : Int) ≤ 65537 := by omega
          have HSUM : Hid ((cz : Int) + (cx : Int) = (ct : Int) + (cc : Int)) := by unfold Hid; omega
          clear hsum kz kx kt kb lz lx lt lb ez ex et eb
          have hc := count_any (H14.out.get z Z (by simp)) (few_big HZ.out.may)
          rw [HK.out.1] at hc
          go_wp2_with fail
          refine hc.mono ?_
          rintro e w15 ⟨rfl, hb15⟩
          have H15 : Hid (Sps w w15 [(t, T), (l, L), (u, Z), (z, Z), (y, X), (x, X), (.slice a na ca, T), (.slice b nb cb, B)]) := H14.out.over hb15
          clear hc hb15 H14
          have hc := count_any (H15.out.get x X (by simp)) (few_big HX.out.may)
          rw [HK.out.2.1] at hc
          go_wp2_with fail
          refine hc.mono ?_
          rintro e w16 ⟨rfl, hb16⟩
          have H16 : Hid (Sps w w16 [(t, T), (l, L), (u, Z), (z, Z), (y, X), (x, X), (.slice a na ca, T), (.slice b nb cb, B)]) := H15.out.over hb16
          clear hc hb16 H15
          have hc := count_any (H16.out.get (.slice a na ca) T (by simp)) HL.out.1
          rw [HK.out.2.2.1] at hc
          go_wp2_with fail
          refine hc.mono ?_
          rintro e w17 ⟨rfl, hb17⟩
          have H17 : Hid (Sps w w17 [(t, T), (l, L), (u, Z), (z, Z), (y, X), (x, X), (.slice a na ca, T), (.slice b nb cb, B)]) := H16.out.over hb17
          clear hc hb17 H16
          have hc := count_any (H17.out.get (.slice b nb cb) B (by simp)) HL.out.2
          rw [HK.out.2.2.2] at hc
          go_wp2_with fail
          refine hc.mono ?_
          rintro e w18 ⟨rfl, hb18⟩
          have H18 : Hid (Sps w w18 [(t, T), (l, L), (u, Z), (z, Z), (y, X), (x, X), (.slice a na ca, T), (.slice b nb cb, B)]) := H17.out.over hb18
          clear hc hb18 H17
          have hc := may_any (H18.out.get z Z (by simp)) (few_big HZ.out.may)
          rw [HZ.out.may] at hc
          have B1 : ((cz : Int) + (cx : Int) == (ct : Int) + (cc : Int)) = true := by simpa using HSUM.out
          go_wp2_with fail
          refine hc.mono ?_
          rintro e w19 ⟨rfl, hb19⟩
          have H19 : Hid (Sps w w19 [(t, T), (l, L), (u, Z), (z, Z), (y, X), (x, X), (.slice a na ca, T), (.slice b nb cb, B)]) := H18.out.over hb19
          clear hc hb19 H18 B1
          go_wp2_with (go_at_call 9; refine (awake_any _).mono ?_; rintro e w20 ⟨rfl, hb20⟩)
          go_ret
          exact ⟨rfl, (H19.out.over hb20).below⟩
end Go.Proofs.Yteijhnfciiblmaa
