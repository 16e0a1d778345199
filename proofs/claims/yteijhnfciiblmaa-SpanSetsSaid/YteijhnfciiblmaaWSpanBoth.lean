/-
  The walk of law 14's SpanBoth: what is in both of any two, in one, and in the first alone.
-/
import Derived.Test.YteijhnfciiblmaaWSpanRanks
import Derived.Test.YteijhnfciiblmaaSRefE
namespace Go.Proofs.Yteijhnfciiblmaa
open Go.RowKit

/-- What stays: slices of spans, and what was there at first. -/
structure Sps (w W : World) (L : List (Value × List Sn)) : Prop where
  all : ∀ p ∈ L, SpansIs W p.1 p.2
  below : Below w.heap.size w W
theorem Sps.over {w W W' : World} {L : List (Value × List Sn)} (h : Sps w W L) (k : Below W.heap.size W W') : Sps w W' L := ⟨fun p hp => (h.all p hp).below k, h.below.trans (k.mono h.below.size)⟩
theorem Sps.add {w W : World} {L : List (Value × List Sn)} {v : Value} {R : List Sn} (h : Sps w W L) (k : SpansIs W v R) : Sps w W ((v, R) :: L) :=
  ⟨fun p hp => by
    rcases List.mem_cons.1 hp with rfl | hp
    · exact k
    · exact h.all p hp, h.below⟩
theorem Sps.get {w W : World} {L : List (Value × List Sn)} (h : Sps w W L) (v : Value) (R : List Sn) (hm : (v, R) ∈ L) : SpansIs W v R := h.all _ hm
/-- What And, Or and Less tell, whatever spans there are. -/
def boE (a b : List Sn) : Int := if (mayS a && mayS b) = true then 0 else 1
structure BoR (f : Bool → Bool → Bool) (a b R : List Sn) : Prop where
  yes : (mayS a && mayS b) = true → IsSet R (Wn f a b)
  no : (mayS a && mayS b) = false → R = []
  len : R.length ≤ 65537
theorem BoR.unique {f : Bool → Bool → Bool} {a b R R' : List Sn} (h : BoR f a b R) (h' : BoR f a b R') : R = R' := by
  cases hm : mayS a && mayS b with
  | true => exact (h.yes hm).unique (h'.yes hm) fun _ => Iff.rfl
  | false => rw [h.no hm, h'.no hm]
theorem BothAns.all {w : World} {f : Bool → Bool → Bool} {a b : List Sn} {e : Ending} {w' : World} (h : BothAns w f a b e w') : (∃ v R, e = .returned (.tuple #[v, .int .i64 (boE a b)]) ∧ SpansIs w' v R ∧ BoR f a b R) ∧ Below w.heap.size w w' := by
  refine ⟨?_, h.2⟩
  rcases h.1 with ⟨hm, v, R, rfl, hv, hR⟩ | ⟨hm, rfl⟩
  · exact ⟨v, R, by rw [boE, if_pos hm], hv, ⟨fun _ => hR, (fun h => by rw [hm] at h; cases h), may_len hR.may⟩⟩
  · exact ⟨.slice none 0 0, [], by simp [boE, hm], spans_nil _, ⟨(fun h => by rw [hm] at h; cases h), fun _ => rfl, by simp⟩⟩

set_option maxRecDepth 100000 in
set_option maxHeartbeats 8000000 in
theorem walkSpanBoth {w : World} (a : Option Addr) (na ca : Nat) (ha : SpansAre w a na ca) (b : Option Addr) (nb cb : Nat) (hb : SpansAre w b nb cb) :
    Calls Try.prog 3 #[.slice a na ca, .slice b nb cb] w fun e w' => e = .returned (.bool true) ∧ Below w.heap.size w w' := by
  obtain ⟨A, sa, _⟩ := ha
  obtain ⟨B, sb, _⟩ := hb
  have H0 : Hid (Sps w w [(.slice a na ca, A), (.slice b nb cb, B)]) := ⟨fun p hp => by
    simp only [List.mem_cons, List.not_mem_nil, or_false] at hp
    rcases hp with rfl | rfl
    · exact sa
    · exact sb, Below.refl _ _⟩
  clear sa sb
  have hfa := few_any (H0.out.get (.slice a na ca) A (by simp))
  cases hf : fewA A with
  | false =>
    rw [hf] at hfa
    clear hf
    go_enter Try.func3, Try.ntmps3
    go_wp2_with fail
    refine hfa.mono ?_
    rintro e w1 ⟨rfl, q1, hw1⟩
    have hb1 : Below w.heap.size w w1 := by rw [hw1]; exact below_self_drewN _ _
    clear hfa hw1 H0
    go_wp2_with (go_at_call 9; refine (awake_any _).mono ?_; rintro e w2 ⟨rfl, hb2⟩)
    go_ret
    exact ⟨rfl, hb1.trans (hb2.mono hb1.size)⟩
  | true =>
    rw [hf] at hfa
    have hl := few_len hf
    clear hf
    go_enter Try.func3, Try.ntmps3
    go_wp2_with fail
    refine hfa.mono ?_
    rintro e w1 ⟨rfl, q1, hw1⟩
    have H1 : Hid (Sps w w1 [(.slice a na ca, A), (.slice b nb cb, B)]) := H0.out.over (by rw [hw1]; exact below_self_drewN _ _)
    clear hfa hw1 H0
    have hfb := few_any (H1.out.get (.slice b nb cb) B (by simp))
    cases hf2 : fewA B with
    | false =>
      rw [hf2] at hfb
      clear hf2
      go_wp2_with fail
      refine hfb.mono ?_
      rintro e w2 ⟨rfl, q2, hw2⟩
      have hb2 : Below w.heap.size w w2 := (H1.out.over (by rw [hw2]; exact below_self_drewN _ _)).below
      clear hfb hw2 H1
      go_wp2_with (go_at_call 9; refine (awake_any _).mono ?_; rintro e w3 ⟨rfl, hb3⟩)
      go_ret
      exact ⟨rfl, hb2.trans (hb3.mono hb2.size)⟩
    | true =>
      rw [hf2] at hfb
      have hl2 := few_len hf2
      have HL : Hid (A.length ≤ 1000000 ∧ B.length ≤ 1000000) := ⟨by omega, by omega⟩
      clear hf2 hl hl2
      go_wp2_with fail
      refine hfb.mono ?_
      rintro e w2 ⟨rfl, q2, hw2⟩
      have H2 : Hid (Sps w w2 [(.slice a na ca, A), (.slice b nb cb, B)]) := H1.out.over (by rw [hw2]; exact below_self_drewN _ _)
      clear hfb hw2 H1
      obtain ⟨E, hE⟩ : ∃ E, E = boE A B := ⟨_, rfl⟩
      have HE : Hid (E = boE A B) := hE
      clear hE
      have h3 := and_any (H2.out.get (.slice a na ca) A (by simp)) (H2.out.get (.slice b nb cb) B (by simp)) HL.out.1 HL.out.2
      go_wp2_with fail
      refine h3.mono ?_
      intro e w3 hans
      obtain ⟨⟨x, X, rfl, hx, hX⟩, hb3⟩ := hans.all
      rw [← HE.out]
      have H3 : Hid (Sps w w3 [(x, X), (.slice a na ca, A), (.slice b nb cb, B)] ∧ BoR (fun p q => p && q) A B X) := ⟨(H2.out.over hb3).add hx, hX⟩
      clear h3 hans hx hX hb3 H2
      have h4 := or_any (H3.out.1.get (.slice a na ca) A (by simp)) (H3.out.1.get (.slice b nb cb) B (by simp)) HL.out.1 HL.out.2
      go_wp2_with fail
      refine h4.mono ?_
      intro e w4 hans
      obtain ⟨⟨y, Y, rfl, hy, hY⟩, hb4⟩ := hans.all
      rw [← HE.out]
      have H4 : Hid (Sps w w4 [(y, Y), (x, X), (.slice a na ca, A), (.slice b nb cb, B)] ∧ BoR (fun p q => p && q) A B X ∧ BoR (fun p q => p || q) A B Y) := ⟨(H3.out.1.over hb4).add hy, H3.out.2, hY⟩
      clear h4 hans hy hY hb4 H3
      have h5 := less_any (H4.out.1.get (.slice a na ca) A (by simp)) (H4.out.1.get (.slice b nb cb) B (by simp)) HL.out.1 HL.out.2
      go_wp2_with fail
      refine h5.mono ?_
      intro e w5 hans
      obtain ⟨⟨z, Z, rfl, hz, hZ⟩, hb5⟩ := hans.all
      rw [← HE.out]
      have H5 : Hid (Sps w w5 [(z, Z), (y, Y), (x, X), (.slice a na ca, A), (.slice b nb cb, B)] ∧ BoR (fun p q => p && q) A B X ∧ BoR (fun p q => p || q) A B Y ∧ BoR (fun p q => p && !q) A B Z) := ⟨(H4.out.1.over hb5).add hz, H4.out.2.1, H4.out.2.2, hZ⟩
      clear h5 hans hz hZ hb5 H4
      have h6 := refBoth_any (H5.out.1.get (.slice a na ca) A (by simp)) (H5.out.1.get (.slice b nb cb) B (by simp)) HL.out.1 HL.out.2 0 (.inl rfl)
      go_wp2_with fail
      refine h6.mono ?_
      intro e w6 hans
      obtain ⟨⟨p, P, rfl, hp, hP⟩, hb6⟩ := hans.all
      rw [← HE.out]
      obtain rfl : P = X := BoR.unique (f := fun p q => p && q) hP H5.out.2.1
      have H6 : Hid (Sps w w6 [(p, P), (z, Z), (y, Y), (x, P), (.slice a na ca, A), (.slice b nb cb, B)] ∧ BoR (fun p q => p && q) A B P ∧ BoR (fun p q => p || q) A B Y ∧ BoR (fun p q => p && !q) A B Z) := ⟨(H5.out.1.over hb6).add hp, H5.out.2⟩
      clear h6 hans hp hP hb6 H5
      have h7 := refBoth_any (H6.out.1.get (.slice a na ca) A (by simp)) (H6.out.1.get (.slice b nb cb) B (by simp)) HL.out.1 HL.out.2 1 (.inr (.inl rfl))
      go_wp2_with fail
      refine h7.mono ?_
      intro e w7 hans
      obtain ⟨⟨q, Q, rfl, hq, hQ⟩, hb7⟩ := hans.all
      rw [← HE.out]
      obtain rfl : Q = Y := BoR.unique (f := fun p q => p || q) hQ H6.out.2.2.1
      have H7 : Hid (Sps w w7 [(q, Q), (p, P), (z, Z), (y, Q), (x, P), (.slice a na ca, A), (.slice b nb cb, B)] ∧ BoR (fun p q => p && q) A B P ∧ BoR (fun p q => p || q) A B Q ∧ BoR (fun p q => p && !q) A B Z) := ⟨(H6.out.1.over hb7).add hq, H6.out.2⟩
      clear h7 hans hq hQ hb7 H6
      have h8 := refBoth_any (H7.out.1.get (.slice a na ca) A (by simp)) (H7.out.1.get (.slice b nb cb) B (by simp)) HL.out.1 HL.out.2 2 (.inr (.inr rfl))
      go_wp2_with fail
      refine h8.mono ?_
      intro e w8 hans
      obtain ⟨⟨r, T, rfl, hr, hT⟩, hb8⟩ := hans.all
      rw [← HE.out]
      obtain rfl : T = Z := BoR.unique (f := fun p q => p && !q) hT H7.out.2.2.2
      have H8 : Hid (Sps w w8 [(r, T), (q, Q), (p, P), (z, T), (y, Q), (x, P), (.slice a na ca, A), (.slice b nb cb, B)] ∧ P.length ≤ 1000000 ∧ Q.length ≤ 1000000 ∧ T.length ≤ 1000000) := ⟨(H7.out.1.over hb8).add hr, by have := H7.out.2.1.len; omega, by have := H7.out.2.2.1.len; omega, by have := H7.out.2.2.2.len; omega⟩
      clear h8 hans hr hT hb8 H7 HE
      have h9 := sameS_any (H8.out.1.get x P (by simp)) (H8.out.1.get p P (by simp)) H8.out.2.1
      go_wp2_with fail
      refine h9.mono ?_
      rintro e w9 ⟨rfl, q9, hw9⟩
      have H9 : Hid (Sps w w9 [(r, T), (q, Q), (p, P), (z, T), (y, Q), (x, P), (.slice a na ca, A), (.slice b nb cb, B)] ∧ P.length ≤ 1000000 ∧ Q.length ≤ 1000000 ∧ T.length ≤ 1000000) := ⟨H8.out.1.over (by rw [hw9]; exact below_self_drewN _ _), H8.out.2⟩
      clear h9 hw9 H8
      have h10 := sameS_any (H9.out.1.get y Q (by simp)) (H9.out.1.get q Q (by simp)) H9.out.2.2.1
      go_wp2_with fail
      refine h10.mono ?_
      rintro e w10 ⟨rfl, q10, hw10⟩
      have H10 : Hid (Sps w w10 [(r, T), (q, Q), (p, P), (z, T), (y, Q), (x, P), (.slice a na ca, A), (.slice b nb cb, B)] ∧ T.length ≤ 1000000) := ⟨H9.out.1.over (by rw [hw10]; exact below_self_drewN _ _), H9.out.2.2.2⟩
      clear h10 hw10 H9
      have h11 := sameS_any (H10.out.1.get z T (by simp)) (H10.out.1.get r T (by simp)) H10.out.2
      go_wp2_with fail
      refine h11.mono ?_
      rintro e w11 ⟨rfl, q11, hw11⟩
      have H11 : Hid (Sps w w11 [(.slice a na ca, A)]) := by
        have h := H10.out.1.over (show Below w10.heap.size w10 w11 by rw [hw11]; exact below_self_drewN _ _)
        exact ⟨fun p hp => by simp only [List.mem_singleton] at hp; subst hp; exact h.get _ _ (by simp), h.below⟩
      clear h11 hw11 H10
      obtain ⟨t, ht⟩ : ∃ t, t = mayS A := ⟨_, rfl⟩
      have h12 := may_any (H11.out.get (.slice a na ca) A (by simp)) HL.out.1
      have h13 := fun W (hW : Sps w W [(.slice a na ca, A)]) => refMay_any (hW.get (.slice a na ca) A (by simp)) HL.out.1
      rw [← ht] at h12 h13
      clear ht
      go_wp2_with fail
      refine h12.mono ?_
      rintro e w12 ⟨rfl, hb12⟩
      have H12 : Hid (Sps w w12 [(.slice a na ca, A)]) := H11.out.over hb12
      have h13' := h13 w12 H12.out
      clear h12 h13 hb12 H11
      go_wp2_with fail
      refine h13'.mono ?_
      rintro e w13 ⟨rfl, q13, hw13⟩
      have H13 : Hid (Sps w w13 [(.slice a na ca, A)]) := H12.out.over (by rw [hw13]; exact below_self_drewN _ _)
      clear h13' hw13 H12
      go_wp2_with (go_at_call 9; refine (awake_any _).mono ?_; rintro e w14 ⟨rfl, hb14⟩)
      go_ret
      exact ⟨rfl, (H13.out.over hb14).below⟩
end Go.Proofs.Yteijhnfciiblmaa
