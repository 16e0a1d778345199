/-
  The walk of law 14's SpanOf: the spans of any places; they have just these.
-/
import Derived.Test.YteijhnfciiblmaaWSpanRanks
import Derived.Test.YteijhnfciiblmaaSRefF
namespace Go.Proofs.Yteijhnfciiblmaa
open Go.RowKit

theorem sub_len : ∀ (p l : List Int), (p.Pairwise fun x y => x ≠ y) → (∀ x ∈ p, x ∈ l) → p.length ≤ l.length
  | [], _, _, _ => by simp
  | a :: p, l, hp, h => by
    rw [List.pairwise_cons] at hp
    have ha := h a (by simp)
    have ih := sub_len p (l.erase a) hp.2 fun x hx => (List.mem_erase_of_ne (hp.1 x hx).symm).2 (h x (by simp [hx]))
    rw [List.length_erase_of_mem ha] at ih
    have := List.length_pos_of_mem ha
    simp only [List.length_cons]
    omega
theorem set_count {R : List Sn} {l : List Int} (h : IsSet R (fun x => x ∈ l)) : (pl R).length ≤ l.length := by
  refine sub_len _ _ ?_ fun x hx => (h.iff x).1 ((mem_pl h.may).1 hx)
  rw [List.pairwise_iff_getElem]
  intro i j hi hj hij e
  have := pl_rise h.may i j _ _ hij (List.getElem?_eq_getElem hi) (List.getElem?_eq_getElem hj)
  omega
/-- What stays: the numbers that came in, and two slices of spans that read alike. -/
structure InO (w W : World) (v p q : Value) (l : List Int) (R : List Sn) : Prop where
  a : ReadsZ W v l
  p : SpansIs W p R
  q : SpansIs W q R
  below : Below w.heap.size w W
theorem InO.over {w W W' : World} {v p q : Value} {l : List Int} {R : List Sn} (h : InO w W v p q l R) (k : Below W.heap.size W W') : InO w W' v p q l R := ⟨h.a.below k, h.p.below k, h.q.below k, h.below.trans (k.mono h.below.size)⟩
/-- What the two Ofs tell, whatever numbers there are. -/
def ofE (l : List Int) : Int := if l.any badB = true then 1 else 0
theorem OfAns.all {w : World} {l : List Int} {e : Ending} {w' : World} (h : OfAns w l e w') : (∃ v R, e = .returned (.tuple #[v, .int .i64 (ofE l)]) ∧ SpansIs w' v R ∧ mayS R = true ∧ (l.any badB = false → IsSet R (fun x => x ∈ l)) ∧ (l.any badB = true → R = [])) ∧ Below w.heap.size w w' := by
  refine ⟨?_, h.2⟩
  rcases h.1 with ⟨hb, v, R, rfl, hv, hR⟩ | ⟨hb, rfl⟩
  · exact ⟨v, R, by simp [ofE, hb], hv, hR.may, fun _ => hR, fun h => by rw [hb] at h; cases h⟩
  · exact ⟨.slice none 0 0, [], by simp [ofE, hb], spans_nil _, rfl, (fun h => by rw [hb] at h; cases h), fun _ => rfl⟩

set_option maxRecDepth 100000 in
set_option maxHeartbeats 4000000 in
theorem walkSpanOf {w : World} (a : Option Addr) (len cap : Nat) (zs : List Int) (h : IsRow .i64 w a len cap zs) :
    Calls Try.prog 5 #[.slice a len cap] w fun e w' => e = .returned (.bool true) ∧ Below w.heap.size w w' := by
  obtain ⟨l, hl, hr, _⟩ := readsZ_of h
  clear h
  by_cases hc : len ≤ 100
  · have hcI : (len : Int) ≤ 100 := by omega
    have HH : Hid (ReadsZ w (.slice a len cap) l ∧ l.length = len ∧ l.length ≤ 100000) := ⟨hr, hl, by omega⟩
    clear hr hl hc
    go_enter Try.func5, Try.ntmps5
    go_wp2_with fail
    go_loopg [3] len (fun gg s3 wx => ∃ k : Nat, k + gg = len ∧ s3 = .int .i64 k ∧ wx = w)
    case atStart => exact ⟨0, by omega, rfl, rfl⟩
    case round =>
      obtain ⟨k, hkg, rfl, hwr⟩ := hrel
      replace hwr := hwr.symm
      subst hwr
      by_cases hk : k < len
      · have hkI : (k : Int) < (len : Int) := by omega
        obtain ⟨y, b, off, hy, rfl, c0⟩ := HH.out.1.at hk
        have hr2 : IntKind.i64.wrap ((k : Int) + 1) = (k : Int) + 1 := by rw [IntKind.wrap_i64]; omega
        clear hy
        by_cases g1 : 2048 ≤ y
        · by_cases g2 : 65536 ≤ y
          · go_wp2_with fail
            go_roundg (len - (k + 1))
            case measure => clear hr2; omega
            case rel => exact ⟨k + 1, by clear hr2; omega, by go_num, rfl⟩
          · have g3 : y ≤ 65535 := by omega
            go_wp2_with (go_at_call 9; refine (awake_any _).mono ?_; rintro e w1 ⟨rfl, hb1⟩)
            go_ret
            exact ⟨rfl, hb1⟩
        · go_wp2_with fail
          go_roundg (len - (k + 1))
          case measure => clear hr2; omega
          case rel => exact ⟨k + 1, by clear hr2; omega, by go_num, rfl⟩
      · have hkI : ¬ (k : Int) < (len : Int) := by omega
        clear hkg
        have h1 := of_any HH.out.1 HH.out.2.2
        go_wp2_with fail
        refine h1.mono ?_
        intro e w1 hans
        obtain ⟨⟨v1, R, rfl, hv1, hm1, hs1, he1⟩, hb1⟩ := hans.all
        have h2 := refOf_any (HH.out.1.below hb1) HH.out.2.2
        obtain ⟨E, hE⟩ : ∃ E, E = ofE l := ⟨_, rfl⟩
        rw [← hE]
        have HE : Hid (E = ofE l) := hE
        have H1 : Hid (SpansIs w1 v1 R ∧ mayS R = true ∧ (l.any badB = false → IsSet R (fun x => x ∈ l)) ∧ (l.any badB = true → R = []) ∧ Below w.heap.size w w1) := ⟨hv1, hm1, hs1, he1, hb1⟩
        clear h1 hans hv1 hm1 hs1 he1 hb1 hE
        go_wp2_with fail
        refine h2.mono ?_
        intro e w2 hans
        obtain ⟨⟨v2, R2, rfl, hv2, hm2, hs2, he2⟩, hb2⟩ := hans.all
        rw [← HE.out]
        have hRR : R = R2 := by
          cases hbb : l.any badB with
          | false => exact (H1.out.2.2.1 hbb).unique (hs2 hbb) (fun _ => Iff.rfl)
          | true => rw [H1.out.2.2.2.1 hbb, he2 hbb]
        subst hRR
        have H2 : Hid (InO w w2 (.slice a len cap) v1 v2 l R) := ⟨(HH.out.1.below H1.out.2.2.2.2).below hb2, H1.out.1.below hb2, hv2, H1.out.2.2.2.2.trans (hb2.mono H1.out.2.2.2.2.size)⟩
        have HR : Hid (mayS R = true ∧ R.length ≤ 1000000 ∧ (l.any badB = false → IsSet R (fun x => x ∈ l))) := ⟨hm2, by have := may_len hm2; omega, hs2⟩
        clear h2 hans hv2 hm2 hs2 he2 hb2 H1
        obtain ⟨va, vn, vc, rfl, _, _⟩ := H2.out.p.slice
        have h3 := sameS_any H2.out.p H2.out.q HR.out.2.1
        go_wp2_with fail
        refine h3.mono ?_
        rintro e w3 ⟨rfl, q3, hw3⟩
        have H3 : Hid (InO w w3 (.slice a len cap) (.slice va vn vc) v2 l R) := H2.out.over (by rw [hw3]; exact below_self_drewN _ _)
        clear h3 hw3 H2
        cases hbb : l.any badB with
        | true =>
          obtain rfl : E = 1 := by rw [HE.out, ofE, if_pos hbb]
          clear hbb HE
          go_wp2_with fail
          go_loopg [8] 0 (fun gg s8 wx => s8 = .int .i64 0 ∧ gg = 0 ∧ wx = w3)
          case atStart => exact ⟨rfl, rfl, rfl⟩
          case round =>
            obtain ⟨rfl, hgg, hwr⟩ := hrel
            clear hgg
            replace hwr := hwr.symm
            subst hwr
            rcases Nat.eq_zero_or_pos len with h0 | hp
            · have hnl : ¬ (0 : Int) < (len : Int) := by omega
              go_wp2_with (go_at_call 9; refine (awake_any _).mono ?_; rintro e w4 ⟨rfl, hb4⟩)
              go_ret
              exact ⟨rfl, (H3.out.over hb4).below⟩
            · have hnl : (0 : Int) < (len : Int) := by omega
              go_wp2_with (go_at_call 9; refine (awake_any _).mono ?_; rintro e w4 ⟨rfl, hb4⟩)
              go_ret
              exact ⟨rfl, (H3.out.over hb4).below⟩
        | false =>
          obtain rfl : E = 0 := by rw [HE.out, ofE, hbb]; rfl
          have HS : Hid (IsSet R (fun x => x ∈ l)) := HR.out.2.2 hbb
          clear hbb HE
          go_wp2_with fail
          go_loopg [8] len (fun gg s8 wx => ∃ i : Nat, i + gg = len ∧ s8 = .int .i64 i ∧ Hid (InO w wx (.slice a len cap) (.slice va vn vc) v2 l R))
          case atStart => exact ⟨0, by omega, rfl, H3⟩
          case round =>
            obtain ⟨i, hig, rfl, HI⟩ := hrel
            clear H3
            by_cases hi : i < len
            · have hiI : (i : Int) < (len : Int) := by omega
              obtain ⟨y, b, off, hy, rfl, c0⟩ := HI.out.a.at hi
              have hhs := has_any HI.out.p HR.out.2.1 y
              have hyh : hasA R y = true := by
                unfold hasA
                rw [HR.out.1, inB_iff.2 ((HS.out.iff y).2 (List.mem_of_getElem? hy))]
                rfl
              rw [hyh] at hhs
              have hr3 : IntKind.i64.wrap ((i : Int) + 1) = (i : Int) + 1 := by rw [IntKind.wrap_i64]; omega
              clear hy hyh
              go_wp2_with fail
              refine hhs.mono ?_
              rintro e w4 ⟨rfl, hb4⟩
              have HI4 : Hid (InO w w4 (.slice (some ⟨b, off, none⟩) len cap) (.slice va vn vc) v2 l R) := HI.out.over hb4
              clear hhs hb4
              go_wp2_with fail
              go_roundg (len - (i + 1))
              case measure => clear hr3; omega
              case rel => exact ⟨i + 1, by clear hr3; omega, by go_num, HI4⟩
            · have hiI : ¬ (i : Int) < (len : Int) := by omega
              have hmy := may_any HI.out.p HR.out.2.1
              rw [HR.out.1] at hmy
              clear hig
              go_wp2_with fail
              refine hmy.mono ?_
              rintro e w4 ⟨rfl, hb4⟩
              have HI4 : Hid (InO w w4 (.slice a len cap) (.slice va vn vc) v2 l R) := HI.out.over hb4
              clear hmy hb4 HI
              have hcn := count_any HI4.out.p HR.out.2.1
              have hce : rankA R 65536 = ((pl R).length : Int) := by unfold rankA; rw [if_pos HR.out.1]; exact count_is HR.out.1
              rw [hce] at hcn
              have hcl : ((pl R).length : Int) ≤ (len : Int) := by have h1 := set_count HS.out; have h2 := HH.out.2.1; omega
              generalize (pl R).length = C at *
              clear hce
              go_wp2_with fail
              refine hcn.mono ?_
              rintro e w5 ⟨rfl, hb5⟩
              have HI5 : Hid (InO w w5 (.slice a len cap) (.slice va vn vc) v2 l R) := HI4.out.over hb5
              clear hcn hb5 HI4
              go_wp2_with (go_at_call 9; refine (awake_any _).mono ?_; rintro e w6 ⟨rfl, hb6⟩)
              go_ret
              exact ⟨rfl, (HI5.out.over hb6).below⟩
  · have hcI : (100 : Int) < (len : Int) := by omega
    clear hl hr hc
    go_enter Try.func5, Try.ntmps5
    go_wp2_with (go_at_call 9; refine (awake_any _).mono ?_; rintro e w1 ⟨rfl, hb1⟩)
    go_ret
    exact ⟨rfl, hb1⟩
end Go.Proofs.Yteijhnfciiblmaa
