/-
  The walk of law 17's TestSound: of the zone of cells it is told that none passes only if none does, and that all pass only if all do.
-/
import Derived.Test.YtnnnkmgkijijdaaTAwake
import Derived.Test.YtnnnkmgkijijdaaTOpen
import Derived.Test.YtnnnkmgkijijdaaTLight
namespace Go.Proofs.Ytnnnkmgkijijdaa
open Go.RowKit

theorem three_ways {sn sa x : Bool} (h1 : sn = true → x = false) (h2 : sa = true → x = true) : (sn = false ∧ sa = false) ∨ (sn = true ∧ sa = false ∧ x = false) ∨ (sn = false ∧ sa = true ∧ x = true) := by
  cases sn <;> cases sa <;> cases x <;> simp_all
def oppA : Array Value := #[.int .i64 0, .int .i64 2, .int .i64 1, .int .i64 6, .int .i64 5, .int .i64 4, .int .i64 3, .int .i64 8, .int .i64 7]
theorem opp_at {o : Nat} (h1 : 1 ≤ (o : Int)) (h8 : (o : Int) ≤ 8) : oppA[o]? = some (.int .i64 (oppO o)) := by
  have : o = 1 ∨ o = 2 ∨ o = 3 ∨ o = 4 ∨ o = 5 ∨ o = 6 ∨ o = 7 ∨ o = 8 := by omega
  rcases this with rfl | rfl | rfl | rfl | rfl | rfl | rfl | rfl <;> rfl
theorem opp_get {o : Nat} (h1 : 1 ≤ (o : Int)) (h8 : (o : Int) ≤ 8) : ∀ h : o < ([.int .i64 0, .int .i64 2, .int .i64 1, .int .i64 6, .int .i64 5, .int .i64 4, .int .i64 3, .int .i64 8, .int .i64 7] : List Value).length, ([.int .i64 0, .int .i64 2, .int .i64 1, .int .i64 6, .int .i64 5, .int .i64 4, .int .i64 3, .int .i64 8, .int .i64 7] : List Value)[o]'h = .int .i64 (oppO o) := by
  have : o = 1 ∨ o = 2 ∨ o = 3 ∨ o = 4 ∨ o = 5 ∨ o = 6 ∨ o = 7 ∨ o = 8 := by omega
  rcases this with rfl | rfl | rfl | rfl | rfl | rfl | rfl | rfl <;> intro _ <;> rfl
/-- What stays: the test, and its opposite. -/
structure Ss (w w' : World) (p : Nat) (t n : Ts) : Prop where
  bt : Box w' w.heap.size 25 (ta t)
  bn : Box w' p 25 (ta n)
  bel : Below w.heap.size w w'
theorem Ss.over {w w1 w2 : World} {p : Nat} {t n : Ts} (h : Ss w w1 p t n) (hb : Below w1.heap.size w1 w2) : Ss w w2 p t n := ⟨h.bt.over hb, h.bn.over hb, h.bel.trans (hb.mono h.bel.size)⟩
/-- The opposite is laid. -/
theorem ss_new {w w1 : World} {t : Ts} (x : Ts) (hb : Below w.heap.size w w1) (h : Box w1 w.heap.size 25 (ta t)) :
    Ss w ((w1.alloc (.cells (ta x) 25)).alloc (.cells oppA 3)) w1.heap.size t x :=
  ⟨h.over (below2 _ _ _), (box_new w1 _ _).over (below1 _ _), hb.trans ((below2 _ _ _).mono hb.size)⟩
theorem Ss.put {w w1 : World} {p : Nat} {t x : Ts} (h : Ss w w1 p t x) (hp : w.heap.size < p) (y : Int) : Ss w (w1.setCell ⟨p, 0, none⟩ (.int .i64 y)) p t ⟨y, x.v⟩ :=
  ⟨h.bt.other (a := ⟨p, 0, none⟩) (by simp; omega) _, h.bn.set 0 _, h.bel.setCell (p := ⟨p, 0, none⟩) (by simp; omega) _⟩

set_option maxRecDepth 4000 in
set_option maxHeartbeats 16000000 in
theorem walkTestSound (t : Ts) {w : World} (a : Option Addr) (len cap : Nat) (hz : RowsAre w a len cap) :
    Calls Try.prog 6 #[tv t, .slice a len cap] w fun e w' => e = .returned (.bool true) ∧ Below w.heap.size w w' := by
  obtain ⟨-, l, hR⟩ := hz
  have haw := awake_any
  have k1 := light_any _ _ l (hR.below (below1 w (.cells (ta t) 25))) 60 (by omega)
  have HN : Hid (l.length = len) := by
    obtain ⟨a', cap', e, h⟩ := hR
    injection e with e1 e2 e3
    exact e2.symm
  cases hL : lightM 60 l with
  | false =>
    rw [hL] at k1
    obtain ⟨op, ⟨vk, vn, vs⟩⟩ := t
    clear hL HN hR
    go_enter Try.func6, Try.ntmps6
    go_wp2_with (first
      | (go_at_call 13; refine k1.mono ?_; rintro e w1 ⟨rfl, hb1⟩; obtain ⟨-, hB⟩ := one_box hb1)
      | (go_at_call 8; refine (haw _).mono ?_; rintro e w2 ⟨rfl, hb2⟩))
    go_ret
    exact ⟨rfl, hB.trans (hb2.mono hB.size)⟩
  | true =>
    rw [hL] at k1
    have hll := light_len hL
    have k2 : ∀ w, _ := fun w => tcheck_any t w
    by_cases h1 : (100 : Int) < (t.v.s.size : Int)
    · obtain ⟨op, ⟨vk, vn, vs⟩⟩ := t
      clear hL HN hR hll k2
      go_enter Try.func6, Try.ntmps6
      go_wp2_with (first
        | (go_at_call 13; refine k1.mono ?_; rintro e w1 ⟨rfl, hb1⟩; obtain ⟨b0, hB⟩ := one_box hb1; have t3 := b0.cell 3 _ rfl)
        | (go_at_call 8; refine (haw _).mono ?_; rintro e w2 ⟨rfl, hb2⟩))
      go_ret
      exact ⟨rfl, hB.trans (hb2.mono hB.size)⟩
    cases hm : mayT t with
    | false =>
      rw [errT_no hm] at k2
      obtain ⟨op, ⟨vk, vn, vs⟩⟩ := t
      simp only at h1
      clear hL HN hR hll hm
      go_enter Try.func6, Try.ntmps6
      go_wp2_with (first
        | (go_at_call 13; refine k1.mono ?_; rintro e w1 ⟨rfl, hb1⟩; obtain ⟨b0, hB⟩ := one_box hb1; have t3 := b0.cell 3 _ rfl; have t0 := b0.cell 0 _ rfl; have t1 := b0.cell 1 _ rfl; have t2 := b0.cell 2 _ rfl)
        | (go_at_call 9; refine (k2 _).mono ?_; rintro e w3 ⟨rfl, hb3⟩)
        | (go_at_call 8; refine (haw _).mono ?_; rintro e w2 ⟨rfl, hb2⟩))
      go_ret
      exact ⟨rfl, (hB.trans (hb3.mono hB.size)).trans (hb2.mono (hB.trans (hb3.mono hB.size)).size)⟩
    | true =>
      rw [errT_yes hm] at k2
      obtain ⟨o1, o8⟩ := mayT_op hm
      obtain ⟨o, ho⟩ : ∃ o : Nat, t.op = (o : Int) := ⟨t.op.toNat, by omega⟩
      obtain ⟨op, v⟩ := t
      simp only at ho o1 o8 h1
      subst ho
      have k3 : ∀ W, Below w.heap.size w W → _ := fun W hW => zone_any (hR.below hW) (by omega)
      obtain ⟨T, hT⟩ : ∃ T : Ts, T = ⟨(o : Int), v⟩ := ⟨_, rfl⟩
      have HM : Hid (mayT T = true ∧ T = ⟨(o : Int), v⟩) := ⟨by rw [hT]; exact hm, hT⟩
      have HR : Hid (RowIs w (.slice a len cap) l) := hR
      have B0 : Hid (Box (w.alloc (.cells (ta ⟨(o : Int), v⟩) 25)) w.heap.size 25 (ta ⟨(o : Int), v⟩)) := box_new _ _ _
      obtain ⟨vk, vn, vs⟩ := v
      simp only at h1
      clear hL hR hT hm
      go_enter Try.func6, Try.ntmps6
      go_wp2_with fail
      refine k1.mono ?_
      rintro e w1 ⟨rfl, hb1⟩
      obtain ⟨b0, hB1⟩ := one_box hb1
      have t0 := b0.cell 0 _ rfl
      have t1 := b0.cell 1 _ rfl
      have t2 := b0.cell 2 _ rfl
      have t3 := b0.cell 3 _ rfl
      clear hb1 k1 B0
      go_wp2_with fail
      refine (k2 _).mono ?_
      rintro e w2 ⟨rfl, hb2⟩
      have hB2 := hB1.trans (hb2.mono hB1.size)
      have b2 := b0.over hb2
      clear b0 hb2 t0 t1 t2 t3 hB1 k2
      have k3x := k3 _ hB2
      clear k3
      go_wp2_with fail
      refine k3x.mono ?_
      rintro e w3 ⟨⟨z, rfl, hz⟩, hb3⟩
      have HZ : Hid (IsZone l z) := hz
      have hB3 := hB2.trans (hb3.mono hB2.size)
      have b3 := b2.over hb3
      clear b2 hb3 hB2 k3x hz
      have n1 : ∀ w, _ := fun w => none_any ⟨(o : Int), ⟨vk, vn, vs⟩⟩ z w
      have n2 : ∀ w, _ := fun w => all_any ⟨(o : Int), ⟨vk, vn, vs⟩⟩ z w
      obtain ⟨sn, hsn⟩ : ∃ b, b = noneT ⟨(o : Int), ⟨vk, vn, vs⟩⟩ z := ⟨_, rfl⟩
      obtain ⟨sa, hsa⟩ : ∃ b, b = allT ⟨(o : Int), ⟨vk, vn, vs⟩⟩ z := ⟨_, rfl⟩
      rw [← hsn] at n1
      rw [← hsa] at n2
      have HSN : Hid ((sn = true → ∀ c ∈ l, matchT T c = false) ∧ (sa = true → ∀ c ∈ l, matchT T c = true)) := by
        refine ⟨fun h => ?_, fun h => ?_⟩
        · refine none_sound HZ.out HM.out.1 ?_
          rw [HM.out.2, ← hsn]; exact h
        · refine all_sound HZ.out HM.out.1 ?_
          rw [HM.out.2, ← hsa]; exact h
      clear hsn hsa HZ
      have bz := box_new w3 (za z) 34
      have b4 := b3.over (below1 w3 (.cells (za z) 34))
      have hB4 := hB3.trans ((below1 w3 (.cells (za z) 34)).mono hB3.size)
      have HQ : ∀ q : Above (w3.alloc (.cells (za z) 34)), Box q.it w3.heap.size 34 (za z) ∧ Box q.it w.heap.size 25 (ta ⟨(o : Int), ⟨vk, vn, vs⟩⟩) := fun q => ⟨bz.over q.is, b4.over q.is⟩
      have a0 := fun q => (box_cells (HQ q).1).1
      have a1 := fun q => (box_cells (HQ q).1).2.1
      have a2 := fun q => (box_cells (HQ q).1).2.2.1
      have a3 := fun q => (box_cells (HQ q).1).2.2.2.1
      have a4 := fun q => (box_cells (HQ q).1).2.2.2.2.1
      have a5 := fun q => (box_cells (HQ q).1).2.2.2.2.2.1
      have a6 := fun q => (box_cells (HQ q).1).2.2.2.2.2.2.1
      have a7 := fun q => (box_cells (HQ q).1).2.2.2.2.2.2.2
      have t0 := fun q => (test_cells (HQ q).2).1
      have t1 := fun q => (test_cells (HQ q).2).2.1
      have t2 := fun q => (test_cells (HQ q).2).2.2.1
      have t3 := fun q => (test_cells (HQ q).2).2.2.2
      clear HQ bz b3 hB3
      go_wp2_with fail
      refine wp_region_above (by kernel_rfl) (by kernel_rfl) ?_
      intro hne
      repeat (go_big_quiet_step (first
        | (go_at_call 18; exact above_of (n1 _))
        | (go_at_call 20; exact above_of (n2 _))))
      refine wpQuiet_nil ?_
      rintro _ ⟨kq, rfl⟩
      have b5 := b4.over kq.is
      have hB5 := hB4.trans (kq.is.mono hB4.size)
      clear a0 a1 a2 a3 a4 a5 a6 a7 t0 t1 t2 t3 n1 n2 b4 hB4
      obtain ⟨t0, t1, t2, t3⟩ := test_cells b5
      have S0 := ss_new ⟨0, ⟨vk, vn, vs⟩⟩ hB5 b5
      have hpl : w.heap.size < kq.it.heap.size := b5.lt
      obtain ⟨s0, -, -, -⟩ := test_cells S0.bt
      have bo := box_new (kq.it.alloc (.cells (ta ⟨0, ⟨vk, vn, vs⟩⟩) 25)) oppA 3
      rw [World.size_alloc] at bo
      have so := bo.cell o _ (opp_at o1 o8)
      have sg := opp_get o1 o8
      have HS0 : Hid (Ss w ((kq.it.alloc (.cells (ta ⟨oppO o, ⟨vk, vn, vs⟩⟩) 25)).alloc (.cells oppA 3)) kq.it.heap.size ⟨(o : Int), ⟨vk, vn, vs⟩⟩ ⟨oppO o, ⟨vk, vn, vs⟩⟩) := ss_new ⟨oppO o, ⟨vk, vn, vs⟩⟩ hB5 b5
      have f0 := S0.bn.frozen 0
      have n0 := S0.bn.cell 0 _ rfl
      have ho9 : (o : Int) < 9 := by omega
      have hoN : o < 9 := by omega
      clear bo S0 b5 hB5
      go_wp2_with fail
      obtain ⟨p, hp⟩ : ∃ p, p = kq.it.heap.size := ⟨_, rfl⟩
      have HS1 : Hid (Ss w ((kq.it.alloc (.cells (ta ⟨oppO o, ⟨vk, vn, vs⟩⟩) 25)).alloc (.cells oppA 3)) p ⟨(o : Int), ⟨vk, vn, vs⟩⟩ ⟨oppO o, ⟨vk, vn, vs⟩⟩) := by rw [hp]; exact HS0.out
      rw [← hp]
      clear HS0 f0 n0 ho9 hoN s0 so sg t0 t1 t2 t3 hp hpl
      obtain ⟨y, hy⟩ : ∃ y, y = oppO o := ⟨_, rfl⟩
      have HY : Hid (y = oppO o) := hy
      rw [← hy] at HS1
      rw [← hy]
      clear hy
      go_loopg [10] len (fun g s10 wx => ∃ i : Nat, i + g = len ∧ s10 = .int .i64 i ∧ Hid (Ss w wx p ⟨(o : Int), ⟨vk, vn, vs⟩⟩ ⟨y, ⟨vk, vn, vs⟩⟩))
      case atStart => exact ⟨0, by omega, rfl, HS1⟩
      case round =>
        clear HS1
        obtain ⟨i, hig, rfl, HS⟩ := hrel
        by_cases hi : i < len
        · have hiI : (i : Int) < (len : Int) := by omega
          have hln := HN.out
          have hne2 : l ≠ [] := by rintro rfl; simp at hln; omega
          obtain ⟨a', cap', e, h⟩ := HR.out
          injection e with e1 e2 e3
          subst e1 e3
          obtain ⟨b, off, rfl, hb, hc⟩ := h hne2
          obtain ⟨c, hic⟩ : ∃ c, l[i]? = some c := ⟨_, List.getElem?_eq_getElem (by omega)⟩
          have HL : Hid (∀ W, Below w.heap.size w W → CellAt W b (off + i * 3) c) := fun W hW => (hc i c hic).below hb hW
          have hmem : c ∈ l := List.mem_of_getElem? hic
          have hr2 : IntKind.i64.wrap ((i : Int) + 1) = (i : Int) + 1 := by rw [IntKind.wrap_i64]; omega
          have km : ∀ w, _ := fun w => may_any c w
          have x1 := HL.out wr HS.out.bel
          have p0 := x1.c0
          have p1 := x1.c1
          have p2 := x1.c2
          have m1 : ∀ w, _ := fun w => match_any ⟨(o : Int), ⟨vk, vn, vs⟩⟩ c w
          have m2 : ∀ w, _ := fun w => match_any ⟨y, ⟨vk, vn, vs⟩⟩ c w
          have HX : Hid ((sn = true → matchT ⟨(o : Int), ⟨vk, vn, vs⟩⟩ c = false) ∧ (sa = true → matchT ⟨(o : Int), ⟨vk, vn, vs⟩⟩ c = true) ∧ (c.k ≠ 0 → matchT ⟨y, ⟨vk, vn, vs⟩⟩ c = !matchT ⟨(o : Int), ⟨vk, vn, vs⟩⟩ c)) := by
            have hh := HSN.out
            have hm := HM.out.1
            rw [HM.out.2] at hh hm
            refine ⟨fun h => hh.1 h c hmem, fun h => hh.2 h c hmem, fun hk => ?_⟩
            rw [HY.out]
            exact match_not hm hk
          obtain ⟨x, hx⟩ : ∃ x, x = matchT ⟨(o : Int), ⟨vk, vn, vs⟩⟩ c := ⟨_, rfl⟩
          obtain ⟨x', hx'⟩ : ∃ x, x = matchT ⟨y, ⟨vk, vn, vs⟩⟩ c := ⟨_, rfl⟩
          rw [← hx] at m1 HX
          rw [← hx'] at m2 HX
          clear hc hic hmem x1 hne2 hln h e2 hx hx' hb
          cases hmc : mayC c with
          | false =>
            rw [hmc] at km
            obtain ⟨ck, cn, cs⟩ := c
            clear m1 m2 hmc HX
            go_wp2_with (first
              | (go_at_call 22; refine (km _).mono ?_; rintro e w4 ⟨rfl, hb4⟩)
              | (go_at_call 8; refine (haw _).mono ?_; rintro e w5 ⟨rfl, hb5⟩))
            go_ret
            exact ⟨rfl, ((HS.out.over hb4).over hb5).bel⟩
          | true =>
            rw [hmc] at km
            obtain ⟨ck, cn, cs⟩ := c
            simp only at HX
            clear hmc
            go_wp2_with fail
            refine (km _).mono ?_
            rintro e w4 ⟨rfl, hb4⟩
            have HS4 : Hid (Ss w w4 p ⟨(o : Int), ⟨vk, vn, vs⟩⟩ ⟨y, ⟨vk, vn, vs⟩⟩) := HS.out.over hb4
            clear hb4 HS km p0 p1 p2
            have HQ : ∀ q : Above w4, Ss w q.it p ⟨(o : Int), ⟨vk, vn, vs⟩⟩ ⟨y, ⟨vk, vn, vs⟩⟩ := fun q => HS4.out.over q.is
            have p0 := fun q => (HL.out _ (HQ q).bel).c0
            have p1 := fun q => (HL.out _ (HQ q).bel).c1
            have p2 := fun q => (HL.out _ (HQ q).bel).c2
            have t0 := fun q => (test_cells (HQ q).bt).1
            have t1 := fun q => (test_cells (HQ q).bt).2.1
            have t2 := fun q => (test_cells (HQ q).bt).2.2.1
            have t3 := fun q => (test_cells (HQ q).bt).2.2.2
            have u0 := fun q => (test_cells (HQ q).bn).1
            have u1 := fun q => (test_cells (HQ q).bn).2.1
            have u2 := fun q => (test_cells (HQ q).bn).2.2.1
            have u3 := fun q => (test_cells (HQ q).bn).2.2.2
            clear HQ
            go_wp2_with fail
            refine wp_region_above (by kernel_rfl) (by kernel_rfl) ?_
            intro hne3
            repeat (go_big_quiet_step (fail))
            go_big_quiet_step (first | (go_at_call 10; exact above_of (m1 _)))
            repeat (go_big_quiet_step (fail))
            go_big_quiet_step (first | (go_at_call 10; exact above_of (m2 _)))
            repeat (go_big_quiet_step (fail))
            refine wpQuiet_nil ?_
            rintro _ ⟨kp, rfl⟩
            have HS5 : Hid (Ss w kp.it p ⟨(o : Int), ⟨vk, vn, vs⟩⟩ ⟨y, ⟨vk, vn, vs⟩⟩) := HS4.out.over kp.is
            have c0 := p0 kp
            clear p0 p1 p2 t0 t1 t2 t3 u0 u1 u2 u3 m1 m2 HS4
            have hcs := three_ways HX.out.1 HX.out.2.1
            by_cases hk : ck = 0
            · subst hk
              rcases hcs with ⟨rfl, rfl⟩ | ⟨rfl, rfl, rfl⟩ | ⟨rfl, rfl, rfl⟩
              all_goals
                go_wp2_with fail
                go_roundg (len - (i + 1))
                case measure => clear hr2; omega
                case rel => exact ⟨i + 1, by clear hr2; omega, by go_num, HS5⟩
            · have hkb : (ck == 0) = false := by simpa using hk
              have hkc : (ck != 0) = true := by simpa using hk
              obtain rfl : x' = !x := HX.out.2.2 hk
              clear hk HX
              rcases hcs with ⟨rfl, rfl⟩ | ⟨rfl, rfl, rfl⟩ | ⟨rfl, rfl, rfl⟩
              · cases x
                all_goals
                  go_wp2_with fail
                  go_roundg (len - (i + 1))
                  case measure => clear hr2; omega
                  case rel => exact ⟨i + 1, by clear hr2; omega, by go_num, HS5⟩
              all_goals
                go_wp2_with fail
                go_roundg (len - (i + 1))
                case measure => clear hr2; omega
                case rel => exact ⟨i + 1, by clear hr2; omega, by go_num, HS5⟩
        · have hiI : ¬ (i : Int) < (len : Int) := by omega
          go_wp2_with (go_at_call 8; refine (haw _).mono ?_; rintro e w5 ⟨rfl, hb5⟩)
          go_ret
          exact ⟨rfl, (HS.out.over hb5).bel⟩
end Go.Proofs.Ytnnnkmgkijijdaa
