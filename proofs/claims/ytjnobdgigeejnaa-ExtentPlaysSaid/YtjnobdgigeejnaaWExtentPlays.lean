/-
  The walk of law 5's ExtentPlays: whatever is taken and let free, a map is the document's.
-/
import Derived.Test.YtjnobdgigeejnaaEPlay
import Derived.Test.YtjnobdgigeejnaaEExts
namespace Go.Proofs.Ytjnobdgigeejnaa
open Go.RowKit

set_option maxRecDepth 4000 in
set_option maxHeartbeats 8000000 in
theorem walkExtentPlays (n0 : Int) (wn : (Lit.int .i64 n0).wf = true) (a0 : Option Addr) (len cap0 : Nat) (w : World) (hl : ActsAre w a0 len) :
    Calls Try.prog 3 #[.int .i64 n0, .slice a0 len cap0] w fun e w' => e = .returned (.bool true) ∧ Below w.heap.size w w' := by
  have hl63 : (len : Int) ≤ 9223372036854775807 := by have := hl.1; unfold maxLen at this; omega
  have HL : Hid (ActsAre w a0 len) := hl
  clear hl
  by_cases hn : 1 ≤ n0 ∧ n0 ≤ 4096
  · obtain ⟨n, rfl⟩ : ∃ n : Nat, n0 = n := ⟨n0.toNat, by omega⟩
    have cn := new_own n w (by omega) (by omega)
    have HN : Hid (1 ≤ n ∧ n ≤ 4096) := ⟨by omega, by omega⟩
    clear wn hn
    go_enter Try.func3, Try.ntmps3
    go_wp2_with fail
    refine cn.mono ?_
    rintro e w1 ⟨p, rfl, g1, O1⟩
    have cr := rnew_any n w1 HN.out.1 HN.out.2
    have HO1 : Hid (Own w w1 p g1 n [(0, n)]) := O1
    clear cn O1
    go_wp2_with fail
    refine cr.mono ?_
    rintro e w2 ⟨⟨b1, c1, rfl, M2, hb1⟩, b2⟩
    have B2 : Both w w2 p g1 b1 c1 n [(0, n)] (fun _ => false) := ⟨HO1.out.over b2, M2, fun b hb => by simp only [free_cons, free_nil, or_false]; simp; omega, by have := HO1.out.lt; omega, by have := HO1.out.lt; omega⟩
    have HB2 : Hid (Both w w2 p g1 b1 c1 n [(0, n)] (fun _ => false)) := B2
    clear cr M2 hb1 b2 B2
    go_wp2_with fail
    go_loopg [7, 9] len (fun gg s7 s9 wx => ∃ (i g b c : Nat) (hs : List (Nat × Nat)) (tk : Nat → Bool), i + gg = len ∧ s9 = .int .i64 i ∧ s7 = .slice (some ⟨b, 0, none⟩) n c ∧ Both w wx p g b c n hs tk)
    case atStart => exact ⟨0, g1, b1, c1, _, _, by omega, rfl, rfl, HB2.out⟩
    case round =>
      obtain ⟨i, g, b, c, hs, tk, hig, rfl, rfl, B⟩ := hrel
      clear HB2
      by_cases hst : i < len ∧ i < 60
      · obtain ⟨hi, h60⟩ := hst
        have hiI : (i : Int) < (len : Int) := by omega
        have h60I : (i : Int) < 60 := by omega
        obtain ⟨ab, off, kd, x, y, rfl, hab, k0, k1, k2, hx, hy⟩ := HL.out.2 i hi
        have at_ : ∀ wx : World, Below w.heap.size w wx → wx.cell? ⟨ab, off + i * 3, none⟩ = some (.int .i64 kd) ∧ wx.cell? ⟨ab, off + i * 3 + 1, none⟩ = some (.int .i64 x) ∧ wx.cell? ⟨ab, off + i * 3 + 2, none⟩ = some (.int .i64 y) := fun wx hb => ⟨(hb.cell (p := ⟨ab, off + i * 3, none⟩) hab).trans k0, (hb.cell (p := ⟨ab, off + i * 3 + 1, none⟩) hab).trans k1, (hb.cell (p := ⟨ab, off + i * 3 + 2, none⟩) hab).trans k2⟩
        have hr2 : IntKind.i64.wrap ((i : Int) + 1) = (i : Int) + 1 := by rw [IntKind.wrap_i64]; omega
        have HA : Hid ((∀ wx : World, Below w.heap.size w wx → wx.cell? ⟨ab, off + i * 3, none⟩ = some (.int .i64 kd) ∧ wx.cell? ⟨ab, off + i * 3 + 1, none⟩ = some (.int .i64 x) ∧ wx.cell? ⟨ab, off + i * 3 + 2, none⟩ = some (.int .i64 y)) ∧ (-9223372036854775808 ≤ x ∧ x < 9223372036854775808) ∧ (-9223372036854775808 ≤ y ∧ y < 9223372036854775808) ∧ i < len) := ⟨at_, hx, hy, hi⟩
        have HB : Hid (Both w wr p g b c n hs tk) := B
        obtain ⟨z0, z1, z2⟩ := at_ wr B.own.bel
        clear hab k0 k1 k2 hx hy hi h60 at_ B
        by_cases h1 : kd = 1
        · subst h1
          have ca := falloc HB.out y
          go_wp2_with fail
          refine ca.mono ?_
          rintro e w3 ⟨xa, za, v, rfl, T⟩
          have bX := below1 w3 (.cells #[.int .i64 xa, .int .i64 za] 32)
          have T4 := T.over bX
          have hbel : Below w.heap.size w (w3.alloc (.cells #[.int .i64 xa, .int .i64 za] 32)) := by obtain ⟨_, _, O, _⟩ := T4; exact O.bel
          have X4 := box_new w3 #[.int .i64 xa, .int .i64 za] 32
          have cr := ralloc_law T4 HA.out.2.2.1.2
          obtain ⟨z0, z1, z2⟩ := HA.out.1 _ hbel
          have HX4 : Hid (Box (w3.alloc (.cells #[.int .i64 xa, .int .i64 za] 32)) w3.heap.size 32 #[.int .i64 xa, .int .i64 za]) := X4
          clear ca T bX T4 hbel X4
          go_wp2_with fail
          refine cr.mono ?_
          rintro e w6 ⟨b', c', rfl, ⟨g', hs', tk', B6⟩, b6⟩
          have bY := below1 w6 (.cells #[.int .i64 xa, .int .i64 za] 32)
          have X6 := (HX4.out.over b6).over bY
          have Y6 := box_new w6 #[.int .i64 xa, .int .i64 za] 32
          have x0 := X6.cell 0 _ rfl
          have x1 := X6.cell 1 _ rfl
          have y0 := Y6.cell 0 _ rfl
          have y1 := Y6.cell 1 _ rfl
          have B4 := B6.over bY
          have cs := lsame_any B4
          have HB4 : Hid (Both w (w6.alloc (.cells #[.int .i64 xa, .int .i64 za] 32)) p g' b' c' n hs' tk') := B4
          clear cr B6 b6 bY X6 Y6 B4 z0 z1 z2
          go_wp2_with fail
          refine cs.mono ?_
          rintro e w5 ⟨rfl, b5⟩
          have HB5 : Hid (Both w w5 p g' b' c' n hs' tk') := HB4.out.over b5
          clear cs b5
          go_wp2_with fail
          go_roundg (len - (i + 1))
          case measure => clear hr2; have := HA.out.2.2.2; omega
          case rel => exact ⟨i + 1, g', b', c', hs', tk', by clear hr2; have := HA.out.2.2.2; omega, by go_num, rfl, HB5.out⟩
        · have h1b : (kd == 1) = false := by simpa using h1
          by_cases h2 : kd = 2
          · subst h2
            have cf := ffree HB.out x y HA.out.2.1
            clear h1
            go_wp2_with fail
            refine cf.mono ?_
            rintro e w3 ⟨v, rfl, T⟩
            have hbel : Below w.heap.size w w3 := by obtain ⟨_, _, O, _⟩ := T; exact O.bel
            have cr := rfree_law T HA.out.2.1
            obtain ⟨z0, z1, z2⟩ := HA.out.1 w3 hbel
            clear cf T hbel
            go_wp2_with fail
            refine cr.mono ?_
            rintro e w4 ⟨b', c', rfl, g', hs', tk', B4⟩
            have cs := lsame_any B4
            have HB4 : Hid (Both w w4 p g' b' c' n hs' tk') := B4
            clear cr B4 z0 z1 z2
            go_wp2_with fail
            refine cs.mono ?_
            rintro e w5 ⟨rfl, b5⟩
            have HB5 : Hid (Both w w5 p g' b' c' n hs' tk') := HB4.out.over b5
            clear cs b5
            go_wp2_with fail
            go_roundg (len - (i + 1))
            case measure => clear hr2; have := HA.out.2.2.2; omega
            case rel => exact ⟨i + 1, g', b', c', hs', tk', by clear hr2; have := HA.out.2.2.2; omega, by go_num, rfl, HB5.out⟩
          · have h2b : (kd == 2) = false := by simpa using h2
            have cf := ftake HB.out x y HA.out.2.1
            clear h1 h2
            go_wp2_with fail
            refine cf.mono ?_
            rintro e w3 ⟨v, rfl, T⟩
            have hbel : Below w.heap.size w w3 := by obtain ⟨_, _, O, _⟩ := T; exact O.bel
            have cr := rtake_law T HA.out.2.1
            obtain ⟨z0, z1, z2⟩ := HA.out.1 w3 hbel
            clear cf T hbel
            go_wp2_with fail
            refine cr.mono ?_
            rintro e w4 ⟨b', c', rfl, g', hs', tk', B4⟩
            have cs := lsame_any B4
            have HB4 : Hid (Both w w4 p g' b' c' n hs' tk') := B4
            clear cr B4 z0 z1 z2
            go_wp2_with fail
            refine cs.mono ?_
            rintro e w5 ⟨rfl, b5⟩
            have HB5 : Hid (Both w w5 p g' b' c' n hs' tk') := HB4.out.over b5
            clear cs b5
            go_wp2_with fail
            go_roundg (len - (i + 1))
            case measure => clear hr2; have := HA.out.2.2.2; omega
            case rel => exact ⟨i + 1, g', b', c', hs', tk', by clear hr2; have := HA.out.2.2.2; omega, by go_num, rfl, HB5.out⟩
      · by_cases hi : i < len
        case' pos =>
          have hiI : (i : Int) < (len : Int) := by omega
          have h60I : ¬ (i : Int) < 60 := by omega
        case' neg =>
          have hiI : ¬ (i : Int) < (len : Int) := by omega
        all_goals
          clear hst hi
          have ca := awake_any wr
          have HB : Hid (Below w.heap.size w wr) := B.own.bel
          clear B
          go_wp2_with fail
          refine ca.mono ?_
          rintro e w5 ⟨rfl, b5⟩
          have HB5 : Hid (Below w.heap.size w w5) := HB.out.trans (b5.mono HB.out.size)
          clear ca b5
          go_wp2_with fail
          go_ret
          exact ⟨rfl, HB5.out⟩
  · have cn := new_bad n0 w hn
    have cr := rnew_bad n0 w hn
    have ca := awake_any w
    clear hn wn
    go_enter Try.func3, Try.ntmps3
    go_wp2_with fail
    refine cn.mono ?_
    rintro e w1 ⟨rfl, hw1⟩
    replace hw1 := hw1.symm
    subst hw1
    clear cn
    go_wp2_with fail
    refine cr.mono ?_
    rintro e w1 ⟨rfl, hw1⟩
    replace hw1 := hw1.symm
    subst hw1
    clear cr
    go_wp2_with fail
    go_loopg [9] 0 (fun _ s9 wx => s9 = .int .i64 0 ∧ wx = w)
    case atStart => exact ⟨rfl, rfl⟩
    case round =>
      obtain ⟨rfl, rfl⟩ := hrel
      by_cases hi : 0 < len
      case' pos =>
        have hiI : (0 : Int) < (len : Int) := by omega
      case' neg =>
        have hiI : ¬ (0 : Int) < (len : Int) := by omega
      all_goals
        clear hi
        go_wp2_with fail
        refine ca.mono ?_
        rintro e w5 ⟨rfl, b5⟩
        have HB5 : Hid (Below wr.heap.size wr w5) := b5
        clear ca b5
        go_wp2_with fail
        go_ret
        exact ⟨rfl, HB5.out⟩
end Go.Proofs.Ytjnobdgigeejnaa
