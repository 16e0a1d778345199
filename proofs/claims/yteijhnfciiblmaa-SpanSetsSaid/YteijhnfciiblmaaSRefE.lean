/-
  The contracts of peristyleref14's Both and Of.
-/
import Derived.Test.YteijhnfciiblmaaSRefD
import Derived.Test.YteijhnfciiblmaaSOf
namespace Go.Proofs.Yteijhnfciiblmaa
open Go.RowKit

theorem top_in {rs : List Sn} (h : mayS rs = true) {x : Int} (hx : InS rs x) : 0 ≤ x ∧ x < topS rs := by
  have h1 := in_may h hx
  have h2 := top_bd h
  omega
theorem wn_set {f : Bool → Bool → Bool} (hf : f false false = false) {a b : List Sn} (ma : mayS a = true) (mb : mayS b = true) {n : Nat} (ha : topS a ≤ (n : Int)) (hb : topS b ≤ (n : Int)) {R : List Sn}
    (h : IsSet R (fun x => 0 ≤ x ∧ x < (n : Int) ∧ f (inB a (x.toNat : Int)) (inB b (x.toNat : Int)) = true)) : IsSet R (Wn f a b) := by
  refine ⟨h.may, fun x => (h.iff x).trans ?_⟩
  unfold Wn
  by_cases hx : 0 ≤ x ∧ x < (n : Int)
  · rw [show ((x.toNat : Nat) : Int) = x by omega]
    exact ⟨fun h => h.2.2, fun h => ⟨hx.1, hx.2, h⟩⟩
  · have i1 : inB a x = false := inB_no fun h => by have := top_in ma h; omega
    have i2 : inB b x = false := inB_no fun h => by have := top_in mb h; omega
    rw [i1, i2, hf]
    constructor
    · rintro ⟨h1, h2, _⟩; exact absurd ⟨h1, h2⟩ hx
    · intro h; cases h
/-- What the number how stands for. -/
def howF (how : Nat) : Bool → Bool → Bool := match how with | 0 => fun p q => p && q | 1 => fun p q => p || q | _ => fun p q => p && !q
/-- What stays in Both's loop. -/
structure BoSt (w w5 wx : World) (gx gy g n k : Nat) (P X Y : Nat → Bool) : Prop where
  out : OwnsT wx w5.heap.size (.slice (some ⟨g, 0, none⟩) n n) (tab (fun t => if t < k then P t else false) n)
  x : ReadsT w5 (.slice (some ⟨gx, 0, none⟩) n n) X n
  y : ReadsT w5 (.slice (some ⟨gy, 0, none⟩) n n) Y n
  below : Below w5.heap.size w5 wx
theorem readsT_cell {w : World} {g n cap : Nat} {P : Nat → Bool} (h : ReadsT w (.slice (some ⟨g, 0, none⟩) n cap) P n) {i : Nat} (hi : i < n) : w.cell? ⟨g, i, none⟩ = some (.bool (P i)) := by
  obtain ⟨g', off, cap', e, _, _, hc⟩ := h
  cases e
  have := hc i hi
  rwa [Nat.zero_add] at this

set_option maxRecDepth 100000 in
set_option maxHeartbeats 8000000 in
theorem refBoth_yes {w : World} {va vb : Value} {a b : List Sn} (sa : SpansIs w va a) (sb : SpansIs w vb b) (ma : mayS a = true) (mb : mayS b = true) (how : Nat) (hh : how = 0 ∨ how = 1 ∨ how = 2) :
    Calls Try.prog 13 #[.int .i64 (how : Int), va, vb] w (WhereAns w (Wn (howF how) a b)) := by
  have lna := may_len ma
  have lnb := may_len mb
  obtain ⟨pa, na, ca, rfl, hna, hca⟩ := sa.slice
  obtain ⟨pb, nb, cb, rfl, hnb, hcb⟩ := sb.slice
  have HS : Hid (SpansIs w (.slice pa na ca) a ∧ SpansIs w (.slice pb nb cb) b ∧ mayS a = true ∧ mayS b = true ∧ a.length ≤ 1000000 ∧ b.length ≤ 1000000) := ⟨sa, sb, ma, mb, by omega, by omega⟩
  have hm1 := refMay_any sa (by omega)
  have hm2 := fun q : Nat => refMay_any (w := w.drewN q) (sb.below (below_drewN (Below.refl _ _) q)) (by omega)
  have ht1 := fun q : Nat => refTop_any (w := w.drewN q) (sa.below (below_drewN (Below.refl _ _) q)) (by omega)
  have ht2 := fun q : Nat => refTop_any (w := w.drewN q) (sb.below (below_drewN (Below.refl _ _) q)) (by omega)
  rw [ma] at hm1
  rw [mb] at hm2
  have hta := top_bd ma
  have htb := top_bd mb
  obtain ⟨A, hA⟩ : ∃ A, A = topS a := ⟨_, rfl⟩
  obtain ⟨B, hB⟩ : ∃ B, B = topS b := ⟨_, rfl⟩
  rw [← hA] at ht1 hta
  rw [← hB] at ht2 htb
  obtain ⟨n, hn⟩ : ∃ n : Nat, (n : Int) = max A B := ⟨(max A B).toNat, by omega⟩
  have hn1 : (n : Int) ≤ 65536 := by omega
  have hn2 : n ≤ 1000000 := by omega
  have HN : Hid (topS a ≤ (n : Int) ∧ topS b ≤ (n : Int) ∧ n ≤ 65536) := ⟨by omega, by omega, by omega⟩
  have hs1 := fun q : Nat => refSet_any (w := w.drewN q) (sa.below (below_drewN (Below.refl _ _) q)) ma n (by omega) (by omega)
  have hs2 := fun W (hW : Below w.heap.size w W) => refSet_any (sb.below hW) mb n (by omega) (by omega)
  have hmax : max A B = (n : Int) := by omega
  have HF : Hid (howF how false false = false) := by rcases hh with rfl | rfl | rfl <;> rfl
  clear sa sb hna hnb ma mb lna lnb hA hB hn
  go_enter Try.func13, Try.ntmps13
  go_wp2_with fail
  refine hm1.mono ?_
  rintro e w1 ⟨rfl, q1, rfl⟩
  clear hm1
  have hm2' := hm2 q1
  go_wp2_with fail
  refine hm2'.mono ?_
  rintro e w2 ⟨rfl, q2, hw2⟩
  rw [drewN_add] at hw2
  subst hw2
  clear hm2 hm2'
  generalize q1 + q2 = q at *
  have ht1' := ht1 q
  have ht2' := ht2 q
  have hs1' := hs1 q
  clear ht1 ht2 hs1
  go_wp2_with fail
  refine ht1'.mono ?_
  rintro e w3 ⟨rfl, rfl⟩
  go_wp2_with fail
  refine ht2'.mono ?_
  rintro e w4 ⟨rfl, rfl⟩
  clear ht1' ht2'
  go_wp2_with fail
  refine hs1'.mono ?_
  rintro e w3 ⟨⟨gx, rfl, hx⟩, hb3⟩
  have H3 : Hid (ReadsT w3 (.slice (some ⟨gx, 0, none⟩) n n) (fun j => inB a (j : Int)) n ∧ Below w.heap.size w w3) := ⟨hx.reads, (below_drewN (Below.refl w.heap.size w) q).trans hb3⟩
  clear hs1' hx hb3
  have hs2' := hs2 w3 H3.out.2
  clear hs2
  go_wp2_with fail
  refine hs2'.mono ?_
  rintro e w5 ⟨⟨gy, rfl, hy⟩, hb5⟩
  have H5 : Hid (ReadsT w5 (.slice (some ⟨gx, 0, none⟩) n n) (fun j => inB a (j : Int)) n ∧ ReadsT w5 (.slice (some ⟨gy, 0, none⟩) n n) (fun j => inB b (j : Int)) n ∧ Below w.heap.size w w5) := ⟨H3.out.1.below hb5, hy.reads, H3.out.2.trans (hb5.mono H3.out.2.size)⟩
  clear hs2' hy hb5 H3
  go_wp2_with (refine make_t rfl _ _ rfl rfl rfl rfl hn2 (Nat.le_refl _) ?_; intro w6 h6 hb6; have HO6 : Hid (OwnsT w6 w5.heap.size (.slice (some ⟨w5.heap.size, 0, none⟩) n n) (tab (fun _ => false) n) ∧ Below w5.heap.size w5 w6) := ⟨h6, hb6⟩; clear h6 hb6)
  obtain ⟨g, hg⟩ : ∃ g, g = w5.heap.size := ⟨_, rfl⟩
  have HGG : Hid (w5.heap.size ≤ g) := by unfold Hid; omega
  have HB6 : Hid (BoSt w w5 w6 gx gy g n 0 (fun t => howF how (inB a (t : Int)) (inB b (t : Int))) (fun j => inB a (j : Int)) (fun j => inB b (j : Int))) := by
    refine ⟨?_, H5.out.1, H5.out.2.1, HO6.out.2⟩
    rw [tab_congr (Q := fun _ => false) (fun t _ => by simp), hg]
    exact HO6.out.1
  rw [← hg]
  clear hg HO6
  go_loopg [12] n (fun gg s12 wx => ∃ k : Nat, k + gg = n ∧ s12 = .int .i64 k ∧ Hid (BoSt w w5 wx gx gy g n k (fun t => howF how (inB a (t : Int)) (inB b (t : Int))) (fun j => inB a (j : Int)) (fun j => inB b (j : Int))))
  case atStart => exact ⟨0, by omega, rfl, HB6⟩
  case round =>
    obtain ⟨k, hkg, rfl, HB⟩ := hrel
    clear HB6
    by_cases hk : k < n
    · have hkI : (k : Int) < (n : Int) := by omega
      have cx := readsT_cell (HB.out.x.below HB.out.below) hk
      have cy := readsT_cell (HB.out.y.below HB.out.below) hk
      have hr2 : IntKind.i64.wrap ((k : Int) + 1) = (k : Int) + 1 := by rw [IntKind.wrap_i64]; omega
      have hst := fun z : Bool => HB.out.out.store (k := k) hk z
      have HST : Hid (∀ z : Bool, z = howF how (inB a (k : Int)) (inB b (k : Int)) → BoSt w w5 (wr.setCell ⟨g, k, none⟩ (.bool z)) gx gy g n (k + 1) (fun t => howF how (inB a (t : Int)) (inB b (t : Int))) (fun j => inB a (j : Int)) (fun j => inB b (j : Int))) := fun z hz => by
        refine ⟨?_, HB.out.x, HB.out.y, HB.out.below.setCell HGG.out _⟩
        rw [tab_congr (Q := fun t => if t = k then z else if t < k then howF how (inB a (t : Int)) (inB b (t : Int)) else false) (fun t _ => by
          by_cases e : t = k
          · subst e; simp [hz]
          · simp only [e, if_false]
            by_cases e2 : t < k
            · rw [if_pos e2, if_pos (by omega)]
            · rw [if_neg e2, if_neg (by omega)])]
        exact (hst z).2.2.1
      obtain ⟨t1, t2, _, _⟩ := hst true
      (try dsimp only at cx cy t1)
      generalize (if k < k then howF how (inB a (k : Int)) (inB b (k : Int)) else false) = z at t1
      clear hst
      generalize inB a (k : Int) = p at *
      generalize inB b (k : Int) = q2 at *
      rcases hh with rfl | rfl | rfl
      all_goals cases p <;> cases q2
      all_goals
        go_wp2_with fail
        go_roundg (n - (k + 1))
        case measure => clear hr2; omega
        case rel => exact ⟨k + 1, by clear hr2; omega, by go_num, HST.out _ rfl⟩
    · have hkI : ¬ (k : Int) < (n : Int) := by omega
      obtain rfl : k = n := by omega
      have hsp := refSpans_any (P := fun t => howF how (inB a (t : Int)) (inB b (t : Int))) (n := k) (by
        have h1 := HB.out.out
        rw [tab_congr (Q := fun t => howF how (inB a (t : Int)) (inB b (t : Int))) (fun t ht => by simp [ht])] at h1
        exact h1.reads) HN.out.2.2
      go_wp2_with fail
      refine hsp.mono ?_
      rintro e w7 ⟨⟨v7, R, rfl, h7, h8⟩, hb7⟩
      have H7 : Hid (WhereAns w (Wn (howF how) a b) (.returned (.tuple #[v7, .int .i64 0])) w7) := by
        have hb5 := H5.out.2.2.trans (HB.out.below.mono H5.out.2.2.size)
        exact ⟨⟨v7, R, rfl, h7, wn_set HF.out HS.out.2.2.1 HS.out.2.2.2.1 HN.out.1 HN.out.2.1 h8⟩, hb5.trans (hb7.mono hb5.size)⟩
      clear hsp h7 h8 hb7
      go_wp2_with fail
      go_ret2
      exact H7.out
set_option maxRecDepth 100000 in
set_option maxHeartbeats 4000000 in
theorem refBoth_no {w : World} {va vb : Value} {a b : List Sn} (sa : SpansIs w va a) (sb : SpansIs w vb b) (la : a.length ≤ 1000000) (lb : b.length ≤ 1000000) (hm : (mayS a && mayS b) = false) (how : Nat) :
    Calls Try.prog 13 #[.int .i64 (how : Int), va, vb] w fun e w' => e = .returned (.tuple #[.slice none 0 0, .int .i64 1]) ∧ Below w.heap.size w w' := by
  obtain ⟨pa, na, ca, rfl, hna, hca⟩ := sa.slice
  obtain ⟨pb, nb, cb, rfl, hnb, hcb⟩ := sb.slice
  have hm1 := refMay_any sa la
  have hm2 := fun q : Nat => refMay_any (w := w.drewN q) (sb.below (below_drewN (Below.refl _ _) q)) lb
  clear sa sb la lb hna hnb
  cases ea : mayS a with
  | false =>
    rw [ea] at hm1
    clear hm ea hm2
    go_enter Try.func13, Try.ntmps13
    go_wp2_with fail
    refine hm1.mono ?_
    rintro e w1 ⟨rfl, q1, rfl⟩
    go_wp2_with fail
    go_ret2
    exact ⟨rfl, below_drewN (Below.refl _ _) _⟩
  | true =>
    rw [ea] at hm1 hm
    rw [Bool.true_and] at hm
    rw [hm] at hm2
    clear hm ea
    go_enter Try.func13, Try.ntmps13
    go_wp2_with fail
    refine hm1.mono ?_
    rintro e w1 ⟨rfl, q1, rfl⟩
    have hm2' := hm2 q1
    clear hm1 hm2
    go_wp2_with fail
    refine hm2'.mono ?_
    rintro e w2 ⟨rfl, q2, rfl⟩
    go_wp2_with fail
    go_ret2
    exact ⟨rfl, below_drewN (Below.refl _ _) _⟩
theorem refBoth_any {w : World} {va vb : Value} {a b : List Sn} (sa : SpansIs w va a) (sb : SpansIs w vb b) (la : a.length ≤ 1000000) (lb : b.length ≤ 1000000) (how : Nat) (hh : how = 0 ∨ how = 1 ∨ how = 2) :
    Calls Try.prog 13 #[.int .i64 (how : Int), va, vb] w (BothAns w (howF how) a b) := by
  cases hm : mayS a && mayS b with
  | false => exact (refBoth_no sa sb la lb hm how).mono fun e w' ⟨h1, h2⟩ => ⟨.inr ⟨hm, h1⟩, h2⟩
  | true =>
    have hm' := hm
    rw [Bool.and_eq_true] at hm'
    exact (refBoth_yes sa sb hm'.1 hm'.2 how hh).mono fun e w' ⟨h1, h2⟩ => ⟨.inl ⟨hm, h1⟩, h2⟩
end Go.Proofs.Yteijhnfciiblmaa
