/-
  The contracts of package span's Pick and Places.
-/
import Derived.Test.YteijhnfciiblmaaSRank
namespace Go.Proofs.Yteijhnfciiblmaa
open Go.RowKit

/-- What Pick answers. -/
def pickA (rs : List Sn) (k : Int) : Int × Int :=
  if mayS rs = true then (if k < 0 then (0, 3) else match (pl rs)[k.toNat]? with | some x => (x, 0) | none => (0, 3)) else (0, 1)
theorem pick_low {rs : List Sn} {k : Int} (hm : mayS rs = true) (h : k < 0) : pickA rs k = (0, 3) := by simp [pickA, hm, h]
theorem pick_none {rs : List Sn} {k : Int} (hm : mayS rs = true) (h0 : 0 ≤ k) (h : ((pl rs).length : Int) ≤ k) : pickA rs k = (0, 3) := by
  have h1 : ¬ k < 0 := by omega
  have h2 : (pl rs)[k.toNat]? = none := List.getElem?_eq_none (by omega)
  simp [pickA, hm, h1, h2]
theorem pick_some {rs : List Sn} {k x : Int} (hm : mayS rs = true) (h0 : 0 ≤ k) (h : (pl rs)[k.toNat]? = some x) : pickA rs k = (x, 0) := by
  have h1 : ¬ k < 0 := by omega
  simp [pickA, hm, h1, h]
theorem pick_no {rs : List Sn} (k : Int) (hm : mayS rs = false) : pickA rs k = (0, 1) := by simp [pickA, hm]
theorem pl_here {rs : List Sn} {i : Nat} {s : Sn} (hs : rs[i]? = some s) {k : Int} (h1 : ((pl (rs.take i)).length : Int) ≤ k) (h2 : k - (pl (rs.take i)).length < s.hi - s.lo) : (pl rs)[k.toNat]? = some (s.lo + (k - (pl (rs.take i)).length)) := by
  rw [pl_part rs (i + 1), pl_next hs, List.append_assoc, List.getElem?_append_right (by omega), List.getElem?_append_left (by rw [rng_len]; omega), rng_at _ _ _ (by omega)]
  congr 1
  omega
theorem ret_pair {p q : Int × Int} (h : p = q) : Ending.returned (.tuple #[.int .i64 p.1, .int .i64 p.2]) = .returned (.tuple #[.int .i64 q.1, .int .i64 q.2]) := by rw [h]

set_option maxRecDepth 4000 in
set_option maxHeartbeats 4000000 in
theorem pick_any {w : World} {v : Value} {rs : List Sn} (h : SpansIs w v rs) (hl : rs.length ≤ 1000000) (x : Int) (hx : x ≤ 9223372036854775807) :
    Calls Try.prog 19 #[v, .int .i64 x] w fun e w' => e = .returned (.tuple #[.int .i64 (pickA rs x).1, .int .i64 (pickA rs x).2]) ∧ Below w.heap.size w w' := by
  obtain ⟨a, n, cap, rfl, hn, hcap⟩ := h.slice
  have hn1 : (n : Int) ≤ 1000000 := by omega
  have hmay := may_any h hl
  cases hm : mayS rs with
  | false =>
    rw [hm] at hmay
    have HP : Hid (pickA rs x = (0, 1)) := pick_no x hm
    clear h hl hn hm
    go_enter Try.func19, Try.ntmps19
    go_wp2_with fail
    refine hmay.mono ?_
    rintro e w1 ⟨rfl, hb1⟩
    go_wp2_with fail
    go_ret2
    exact ⟨ret_pair (p := (0, 1)) HP.out.symm, hb1⟩
  | true =>
    rw [hm] at hmay
    by_cases h0 : x < 0
    · have HP : Hid (pickA rs x = (0, 3)) := pick_low hm h0
      clear h hl hn hm
      go_enter Try.func19, Try.ntmps19
      go_wp2_with fail
      refine hmay.mono ?_
      rintro e w1 ⟨rfl, hb1⟩
      go_wp2_with fail
      go_ret2
      exact ⟨ret_pair (p := (0, 3)) HP.out.symm, hb1⟩
    · have HH : Hid (SpansIs w (.slice a n cap) rs ∧ rs.length = n ∧ mayS rs = true) := ⟨h, hn, hm⟩
      clear h hl hn hm
      go_enter Try.func19, Try.ntmps19
      go_wp2_with fail
      refine hmay.mono ?_
      rintro e w1 ⟨rfl, hb1⟩
      have H1 : Hid (Below w.heap.size w w1) := hb1
      clear hb1 hmay
      go_wp2_with fail
      go_loopg [1, 15] n (fun gg s1 s15 wx => ∃ k : Nat, k + gg = n ∧ s15 = .int .i64 k ∧ s1 = .int .i64 (x - (pl (rs.take k)).length) ∧ Hid (((pl (rs.take k)).length : Int) ≤ x) ∧ Hid (Below w.heap.size w wx))
      case atStart => exact ⟨0, by omega, rfl, by rw [List.take_zero]; simp [pl], by unfold Hid; rw [List.take_zero]; simp [pl]; omega, H1⟩
      case round =>
        obtain ⟨k, hkg, rfl, rfl, HX, HB⟩ := hrel
        by_cases hk : k < n
        · have hkI : (k : Int) < (n : Int) := by omega
          obtain ⟨s, b, off, hs, rfl, hat⟩ := (HH.out.1.below HB.out).at hk
          have c0 := hat.c0
          have c1 := hat.c1
          have hbd := may_at HH.out.2.2 hs
          have heb := end_bd (may_take HH.out.2.2 k)
          have hnx := pl_next hs
          have HS : Hid (rs[k]? = some s ∧ pl (rs.take (k + 1)) = pl (rs.take k) ++ rng s.lo (s.hi - s.lo).toNat) := ⟨hs, hnx⟩
          have hxx := HX.out
          have hr2 : IntKind.i64.wrap ((k : Int) + 1) = (k : Int) + 1 := by rw [IntKind.wrap_i64]; omega
          have HP : Hid (x - (pl (rs.take k)).length < s.hi - s.lo → pickA rs x = (s.lo + (x - (pl (rs.take k)).length), 0)) := fun h => pick_some HH.out.2.2 (by omega) (pl_here hs hxx h)
          obtain ⟨K, hK⟩ : ∃ K : Int, K = x - (pl (rs.take k)).length := ⟨_, rfl⟩
          have HK : Hid (K = x - (pl (rs.take k)).length) := hK
          rw [← hK] at HP
          rw [← hK]
          have hK0 : 0 ≤ K ∧ K ≤ 9223372036854775807 := by omega
          clear hat hs hnx hK hxx
          have HB2 : ∀ A, Hid (Below w.heap.size w (wr.alloc A)) := fun A => HB.out.trans (belowOne _ HB.out.size _)
          obtain ⟨lo, hi⟩ := s
          simp only at c0 c1 hbd HP
          have hlo : 0 ≤ lo ∧ lo ≤ 65536 ∧ lo < hi ∧ hi ≤ 65536 := by omega
          clear hbd heb
          by_cases hc : K < hi - lo
          · go_wp2_with fail
            go_ret2
            exact ⟨ret_pair (p := (lo + K, 0)) (HP.out hc).symm, (HB2 _).out⟩
          · clear HP
            go_wp2_with fail
            go_roundg (n - (k + 1))
            case measure => clear hr2; omega
            case rel =>
              have hlen : ((pl (rs.take (k + 1))).length : Int) = (pl (rs.take k)).length + (hi - lo) := by
                rw [HS.out.2, List.length_append, rng_len]; omega
              have := HK.out
              exact ⟨k + 1, by clear hr2; omega, by go_num, by rw [hlen] <;> (congr 1; omega), by unfold Hid; omega, HB2 _⟩
        · have hkI : ¬ (k : Int) < (n : Int) := by omega
          obtain rfl : k = n := by omega
          have HP : Hid (pickA rs x = (0, 3)) := pick_none HH.out.2.2 (by omega) (by have := HX.out; rwa [List.take_of_length_le (by rw [HH.out.2.1]; exact Nat.le_refl _)] at this)
          go_wp2_with fail
          go_ret2
          exact ⟨ret_pair (p := (0, 3)) HP.out.symm, HB.out⟩

theorem own_ne_box {w : World} {B : Nat} {e t : TypeId} {size : Nat} {v : Value} {n : Nat} {xs : List Value} {g : Nat} {c : Array Value} (h : w.ownsRow B e size v n xs) (hb : Box w g t c) (hne : e ≠ t) : ¬ v.ownBlock = some g := by
  intro hv
  rcases h.2 with ⟨rfl, _⟩ | ⟨g', cap, cur, rfl, _, hg, _⟩
  · simp [Value.ownBlock] at hv
  · simp only [Value.ownBlock, Option.some.injEq] at hv
    subst hv
    unfold Box at hb
    rw [hb] at hg
    simp only [Option.some.injEq, Obj.cells.injEq] at hg
    exact hne hg.2.1.symm
/-- What stays: the places that are there, a span's box, what was there at first. -/
structure PlSt (w W : World) (g : Nat) (lo hi : Int) (v : Value) (l : List Int) : Prop where
  own : OwnsZ W w.heap.size v l
  box : Box W g 43 #[.int .i64 lo, .int .i64 hi]
  below : Below w.heap.size w W
theorem PlSt.app {w W W' : World} {g : Nat} {lo hi : Int} {v v' : Value} {l l' : List Int} (h : PlSt w W g lo hi v l) (k : Kept (fun k => v.ownBlock = some k) W W') (o : OwnsZ W' w.heap.size v' l') : PlSt w W' g lo hi v' l' :=
  ⟨o, h.box.kept k (own_ne_box h.own h.box (by decide)), h.below.trans (kept_ownZ_below h.own k h.below.size)⟩
/-- What Places answers. -/
def PlacesAns (w : World) (rs : List Sn) (e : Ending) (w' : World) : Prop :=
  ((mayS rs = true ∧ ∃ v, e = .returned (.tuple #[v, .int .i64 0]) ∧ OwnsZ w' w.heap.size v (pl rs)) ∨ (mayS rs = false ∧ e = .returned (.tuple #[.slice none 0 0, .int .i64 1]))) ∧ Below w.heap.size w w'

set_option maxRecDepth 4000 in
set_option maxHeartbeats 4000000 in
theorem places_any {w : World} {v : Value} {rs : List Sn} (h : SpansIs w v rs) (hl : rs.length ≤ 1000000) :
    Calls Try.prog 17 #[v] w (PlacesAns w rs) := by
  obtain ⟨a, n, cap, rfl, hn, hcap⟩ := h.slice
  have hn1 : (n : Int) ≤ 1000000 := by omega
  have hmay := may_any h hl
  cases hm : mayS rs with
  | false =>
    rw [hm] at hmay
    have HM : Hid (mayS rs = false) := hm
    clear h hl hn hm
    go_enter Try.func17, Try.ntmps17
    go_wp2_with fail
    refine hmay.mono ?_
    rintro e w1 ⟨rfl, hb1⟩
    go_wp2_with fail
    go_ret2
    exact ⟨.inr ⟨HM.out, rfl⟩, hb1⟩
  | true =>
    rw [hm] at hmay
    have hcn := fun W (hW : Below w.heap.size w W) => count_any (h.below hW) hl
    have hre : rankA rs 65536 = ((pl rs).length : Int) := by unfold rankA; rw [if_pos hm]; exact count_is hm
    rw [hre] at hcn
    have hpl := pl_len hm
    obtain ⟨E, hE⟩ : ∃ E, E = (pl rs).length := ⟨_, rfl⟩
    rw [← hE] at hcn hpl
    have hE1 : E ≤ 1000000 := by omega
    have HH : Hid (SpansIs w (.slice a n cap) rs ∧ rs.length = n ∧ mayS rs = true ∧ (pl rs).length = E) := ⟨h, hn, hm, hE.symm⟩
    clear h hl hn hm hre hE
    go_enter Try.func17, Try.ntmps17
    go_wp2_with (first
      | (go_at_call 15; refine hmay.mono ?_; rintro e w1 ⟨rfl, hb1⟩)
      | (go_at_call 22; refine (hcn _ hb1).mono ?_; rintro e w2 ⟨rfl, hb2⟩; have HB2 : Hid (Below w.heap.size w w2) := hb1.trans (hb2.mono hb1.size); clear hb1 hb2)
      | (refine make_z rfl _ _ rfl rfl rfl rfl hE1 HB2.out.size ?_; intro v3 w3 h3 hb3; have HO3 : Hid (OwnsZ w3 w.heap.size v3 []) := h3; have HB3 : Hid (Below w.heap.size w w3) := HB2.out.trans hb3; clear h3 hb3))
    go_loopg [4, 16] n (fun gg s4 s16 wx => ∃ k : Nat, k + gg = n ∧ s16 = .int .i64 k ∧ Hid (OwnsZ wx w.heap.size s4 (pl (rs.take k))) ∧ Hid (Below w.heap.size w wx))
    case atStart => exact ⟨0, by omega, rfl, HO3, HB3⟩
    case round =>
      obtain ⟨k, hkg, rfl, HO, HB⟩ := hrel
      clear hmay hcn HO3 HB3 HB2
      by_cases hk : k < n
      · have hkI : (k : Int) < (n : Int) := by omega
        obtain ⟨s, b, off, hs, rfl, hat⟩ := (HH.out.1.below HB.out).at hk
        have c0 := hat.c0
        have c1 := hat.c1
        have hbd := may_at HH.out.2.2.1 hs
        have heb := end_bd (may_take HH.out.2.2.1 k)
        obtain ⟨lo, hi⟩ := s
        simp only at c0 c1 hbd
        obtain ⟨C, hC⟩ : ∃ C : Nat, hi = lo + (C : Int) := ⟨(hi - lo).toNat, by omega⟩
        have HE : Hid (pl (rs.take (k + 1)) = pl (rs.take k) ++ rng lo C) := by
          unfold Hid; rw [pl_next hs]; simp only; rw [show (hi - lo).toNat = C by omega]
        have hl0 : (pl (rs.take k)).length + C ≤ 65537 := by
          have := pl_len (may_take HH.out.2.2.1 (k + 1))
          rwa [HE.out, List.length_append, rng_len] at this
        have hlo : 0 ≤ lo ∧ lo ≤ 65536 ∧ hi ≤ 65536 := by omega
        have hC1 : (C : Int) ≤ 65536 := by omega
        have HC : Hid (hi = lo + (C : Int)) := hC
        have hr2 : IntKind.i64.wrap ((k : Int) + 1) = (k : Int) + 1 := by rw [IntKind.wrap_i64]; omega
        generalize pl (rs.take k) = l at *
        clear hat hs hbd heb hC
        go_wp2_with fail
        generalize hW : wr.alloc (.cells #[.int .i64 lo, .int .i64 hi] 43) = W
        have HS : Hid (PlSt w W wr.heap.size lo hi u4 l) := by
          unfold Hid
          rw [← hW]
          exact ⟨HO.out.below (below1 _ _), box_new _ _ _, HB.out.trans ((below1 _ _).mono HB.out.size)⟩
        have e0 : W.cell? ⟨wr.heap.size, 0, none⟩ = some (.int .i64 lo) := HS.out.box.cell 0 _ rfl
        clear hW c0 c1 HO HB
        generalize wr.heap.size = g at *
        go_loopg [4, 7] C (fun gj s4 s7 wx => ∃ i : Nat, i + gj = C ∧ s7 = .int .i64 (lo + (i : Int)) ∧ Hid (PlSt w wx g lo hi s4 (l ++ rng lo i)))
        case atStart => exact ⟨0, by omega, by simp, by unfold Hid; rw [rng, List.append_nil]; exact HS.out⟩
        case round =>
          obtain ⟨i, hig, rfl, HF⟩ := hrel
          clear HS e0
          have b1 := HF.out.box.cell 1 _ rfl
          by_cases hi2 : i < C
          · have hiI : lo + (i : Int) < hi := by have := HC.out; omega
            have HL : Hid ((l ++ rng lo i).length + 1 ≤ 1000000 ∧ l ++ rng lo i ++ [lo + (i : Int)] = l ++ rng lo (i + 1)) := ⟨by rw [List.length_append, rng_len]; omega, by rw [List.append_assoc, rng_snoc]⟩
            have hr3 : IntKind.i64.wrap (lo + (i : Int) + 1) = lo + (i : Int) + 1 := by rw [IntKind.wrap_i64]; omega
            generalize l ++ rng lo i = y at *
            go_wp2_with (at_builtin; refine append_z rfl (.tmp 28) (.tmp 30) rfl rfl rfl HF.out.own HF.out.below.size HL.out.1 ?_; intro v5 w5 o5 k5; have HS5 : Hid (PlSt w w5 g lo hi v5 (y ++ [lo + (i : Int)])) := HF.out.app k5 o5; clear o5 k5)
            go_roundg (C - (i + 1))
            case measure => clear hr2 hr3; omega
            case rel => exact ⟨i + 1, by clear hr2 hr3; omega, by congr 1; clear hr2 hr3; omega, by unfold Hid; rw [← HL.out.2]; exact HS5.out⟩
          · have hiI : ¬ lo + (i : Int) < hi := by have := HC.out; omega
            obtain rfl : i = C := by omega
            go_wp2_with fail
            go_roundg (n - (k + 1))
            case measure => clear hr2; omega
            case rel => exact ⟨k + 1, by clear hr2; omega, by go_num, by unfold Hid; rw [HE.out]; exact HF.out.own, HF.out.below⟩
      · have hkI : ¬ (k : Int) < (n : Int) := by omega
        obtain rfl : k = n := by omega
        have HE : Hid (pl (rs.take k) = pl rs) := by unfold Hid; rw [List.take_of_length_le (by rw [HH.out.2.1]; exact Nat.le_refl _)]
        go_wp2_with fail
        go_ret2
        exact ⟨.inl ⟨HH.out.2.2.1, _, rfl, by rw [← HE.out]; exact HO.out⟩, HB.out⟩
end Go.Proofs.Yteijhnfciiblmaa
