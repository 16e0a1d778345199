/-
  1 texts, one behind the other: WJournalNobody.
-/
import Derived.Test.YtfcflefkjccfgaaJoin5
import Derived.Lib.SmallJoins
/-
  The walk of law JournalNobody: it answers true, for every extent, every turn and every string.
-/
namespace Go.Proofs.Ytfcflefkjccfgaa
open Go.RowKit Leb

set_option maxRecDepth 100000 in
/-- An extent that came in. -/
theorem ext_of {H : Type} {enc : TypeId × Value → H} {W : World} {base b0 : Nat} {sp : Nat → Bool} {hd : Bool} {r : Reach} {v : Value} {d : DataW H} {p : List MemPlace}
    (hv : Value.okWide Try.prog W r b0 37 v) (h : DataW.Trod enc Try.prog W base sp hd 37 v d p) :
    ∃ a c, v = .agg #[.int .i64 a, .int .i64 c] ∧ (Lit.int .i64 a).wf = true ∧ (Lit.int .i64 c).wf = true := by
  obtain ⟨v0, v1, y0, y1, n, rfl, _, _, h0, h1⟩ := Go.Joins.open_agg2 Try.underlying37 (by kernel_rfl) (by kernel_rfl) hv h
  obtain ⟨a, e0, _, w0⟩ := DataW.trod_int Try.underlying3 h0
  obtain ⟨c, e1, _, w1⟩ := DataW.trod_int Try.underlying3 h1
  simp only [List.cons.injEq, and_true] at e0 e1
  subst e0 e1
  exact ⟨a, c, rfl, w0, w1⟩
theorem zeros_ok {n f c : Nat} : ∀ b ∈ extL (List.replicate n zeros) f c, okB b = true := by
  intro b hb
  unfold extL at hb
  have h := List.mem_of_mem_drop (List.mem_of_mem_take hb)
  rw [List.eq_of_mem_replicate h]
  exact okB_zeros
theorem open20 {w : World} {H : Hnd} (D : DevIs w H (St.new 20)) (a c : Int) (tb : BitVec 64) (hm : mayJ 20 a c tb.toInt = true) :
    Calls Try.prog 23 #[.pointer (some ⟨H.p, 0, none⟩), .agg #[.int .i64 a, .int .i64 c], .int .i64 tb.toInt] w fun e w' => (∃ ad, e = .returned (.tuple #[.pointer (some ad), .int .i64 0])) ∧ Below w.heap.size w w' := by
  have hl : (St.new 20).sure.length = 20 := rfl
  obtain ⟨f, k, rfl, rfl, h1, h2, _, _⟩ := mayJ_nat hm
  refine (jopen_on D rfl f k h1 (by rw [hl]; exact h2) (by rw [hl]; omega) D.blks tb (by rw [hl]; exact hm)).mono ?_
  rintro e w' ⟨h, hb⟩
  refine ⟨?_, hb⟩
  rcases h with ⟨_, J, u, out, he, _⟩ | ⟨⟨b, hb1, hb2⟩, _⟩
  · exact ⟨_, he⟩
  · rw [zeros_ok (n := 20) b hb1] at hb2; cases hb2
theorem up20 {w : World} {H : Hnd} (D : DevIs w H (St.new 20)) : SizeUp (.pointer (some ⟨H.p, 0, none⟩)) 20 w := by
  have hup := D.up
  rw [show (St.new 20).sure.length = 20 from rfl] at hup
  exact hup
theorem may_none (a c t : Int) : mayJ 0 a c t = false := by
  rw [Bool.eq_false_iff]
  intro h
  obtain ⟨f, k, _, _, h1, h2, _⟩ := mayJ_nat h
  omega
/-- The two journals that nobody opened. -/
structure Two (w wx : World) (l z : Nat) : Prop where
  row : Box wx l 33 #[.pointer none, .pointer (some ⟨z, 0, none⟩)]
  zero : wx.cell? ⟨z, 0, none⟩ = some (.pointer none)
  zl : z < wx.heap.size
  bel : Below w.heap.size w wx
theorem Two.over {w w1 w2 : World} {l z : Nat} (o : Two w w1 l z) (b : Below w1.heap.size w1 w2) : Two w w2 l z :=
  ⟨o.row.over b, (b.cell (p := ⟨z, 0, none⟩) o.zl).trans o.zero, Nat.lt_of_lt_of_le o.zl b.size, o.bel.trans (b.mono o.bel.size)⟩
set_option maxRecDepth 4000 in
set_option maxHeartbeats 2000000 in
theorem walkJournalNobody (a c : Int) (ra : (Lit.int .i64 a).wf = true) (_ : (Lit.int .i64 c).wf = true) (t : Int) (rt : (Lit.int .i64 t).wf = true) (s : ByteArray) (_ : s.size ≤ maxLen) (w : World) :
    Calls Try.prog 7 #[.agg #[.int .i64 a, .int .i64 c], .int .i64 t, .string s] w fun e w' => e = .returned (.bool true) ∧ Below w.heap.size w w' := by
  have ha : a < 9223372036854775808 := by
    obtain ⟨x, rfl⟩ := Wd.word_of a ra
    have := BitVec.toInt_lt (x := x)
    omega
  obtain ⟨tb, htb⟩ := Wd.word_of t rt
  have B0 := box_new w #[.int .i64 a, .int .i64 c] 37
  have b0 := below1 w (.cells #[.int .i64 a, .int .i64 c] 37)
  have HA : Hid (a < 9223372036854775808 ∧ t = tb.toInt) := ⟨ha, htb⟩
  clear ra rt ha htb
  by_cases hs : (100 : Int) < (s.size : Int)
  · go_enter Try.func7, Try.ntmps7
    go_wp2_with fail
    refine (awake23 _).mono ?_
    rintro e w1 ⟨rfl, b1⟩
    go_wp2_with fail
    go_ret
    exact ⟨rfl, b0.trans (b1.mono b0.size)⟩
  · have cnew := new_any 20 (by omega) (by omega) (w.alloc (.cells #[.int .i64 a, .int .i64 c] 37))
    have HB0 : Hid (Box (w.alloc (.cells #[.int .i64 a, .int .i64 c] 37)) w.heap.size 37 #[.int .i64 a, .int .i64 c] ∧ Below w.heap.size w (w.alloc (.cells #[.int .i64 a, .int .i64 c] 37))) := ⟨B0, b0⟩
    clear B0 b0
    have cmay := fun W => refMay_any 20 (by omega) a c t W
    cases hm : mayJ 20 a c t with
    | false =>
      rw [hm] at cmay
      have HM : Hid (mayJ 20 a c t = false) := hm
      clear hm
      go_enter Try.func7, Try.ntmps7
      go_wp2_with fail
      refine cnew.mono ?_
      rintro e w1 ⟨H, rfl, D1, b1, _⟩
      have HD : Hid (DevIs w1 H (St.new 20) ∧ Box w1 w.heap.size 37 #[.int .i64 a, .int .i64 c] ∧ Below w.heap.size w w1) := ⟨D1, HB0.out.1.over b1, HB0.out.2.trans (b1.mono HB0.out.2.size)⟩
      obtain ⟨hp, hhp⟩ : ∃ hp, hp = H.p := ⟨_, rfl⟩
      have HH : Hid (hp = H.p) := hhp
      rw [← hhp]
      clear D1 b1 cnew hhp HB0
      have co := jopen_no (.pointer (some ⟨H.p, 0, none⟩)) 20 (by omega) a c t HA.out.1 w1 (up20 HD.out.1) HM.out
      rw [← HH.out] at co
      have z0 : w1.cell? ⟨w.heap.size, 0, none⟩ = some (.int .i64 a) := HD.out.2.1.cell 0 _ rfl
      have z1 : w1.cell? ⟨w.heap.size, 1, none⟩ = some (.int .i64 c) := HD.out.2.1.cell 1 _ rfl
      go_wp2_with fail
      refine co.mono ?_
      rintro e w2 ⟨rfl, b2⟩
      clear co z0 z1
      have HD2 : Hid (DevIs w2 H (St.new 20) ∧ Box w2 w.heap.size 37 #[.int .i64 a, .int .i64 c] ∧ Below w.heap.size w w2) := ⟨HD.out.1.below b2, HD.out.2.1.over b2, HD.out.2.2.trans (b2.mono HD.out.2.2.size)⟩
      clear b2
      have cb := jbegin_no (.pointer (some ⟨H.p, 0, none⟩)) 20 (by omega) a c t HA.out.1 w2 (up20 HD2.out.1) HM.out
      rw [← HH.out] at cb
      have z0 : w2.cell? ⟨w.heap.size, 0, none⟩ = some (.int .i64 a) := HD2.out.2.1.cell 0 _ rfl
      have z1 : w2.cell? ⟨w.heap.size, 1, none⟩ = some (.int .i64 c) := HD2.out.2.1.cell 1 _ rfl
      go_wp2_with fail
      refine cb.mono ?_
      rintro e w3 ⟨rfl, b3⟩
      clear cb z0 z1
      have HD3 : Hid (Box w3 w.heap.size 37 #[.int .i64 a, .int .i64 c] ∧ Below w.heap.size w w3) := ⟨HD2.out.2.1.over b3, HD2.out.2.2.trans (b3.mono HD2.out.2.2.size)⟩
      clear b3
      have cn := jopen_no (.pointer none) 0 (by omega) a c t HA.out.1 w3 (sizeUp_nil w3) (may_none a c t)
      have z0 : w3.cell? ⟨w.heap.size, 0, none⟩ = some (.int .i64 a) := HD3.out.1.cell 0 _ rfl
      have z1 : w3.cell? ⟨w.heap.size, 1, none⟩ = some (.int .i64 c) := HD3.out.1.cell 1 _ rfl
      go_wp2_with fail
      refine cn.mono ?_
      rintro e w4 ⟨rfl, b4⟩
      clear cn z0 z1
      have HD4 : Hid (Box w4 w.heap.size 37 #[.int .i64 a, .int .i64 c] ∧ Below w.heap.size w w4) := ⟨HD3.out.1.over b4, HD3.out.2.trans (b4.mono HD3.out.2.size)⟩
      clear b4
      have z0 : w4.cell? ⟨w.heap.size, 0, none⟩ = some (.int .i64 a) := HD4.out.1.cell 0 _ rfl
      have z1 : w4.cell? ⟨w.heap.size, 1, none⟩ = some (.int .i64 c) := HD4.out.1.cell 1 _ rfl
      go_wp2_with fail
      refine (cmay _).mono ?_
      rintro e w5 ⟨rfl, b5⟩
      have HB5 : Hid (Below w.heap.size w w5) := HD4.out.2.trans (b5.mono HD4.out.2.size)
      clear z0 z1 b5
      go_wp2_with fail
      go_loopg [17] 2 (fun g s17 wx => ∃ k : Nat, k + g = 2 ∧ s17 = .int .i64 k ∧ Two w wx (w5.heap.size + 1) w5.heap.size)
      case atStart =>
        refine ⟨0, rfl, rfl, ?_, ?_, ?_, HB5.out.trans ((below2 _ _ _).mono HB5.out.size)⟩
        · have := box_new (w5.alloc (.cells (jc (.pointer none) 0 0 0 (.slice none 0 0) 0) 73)) #[.pointer none, .pointer (some ⟨w5.heap.size, 0, none⟩)] 33
          rw [World.size_alloc] at this
          exact this
        · exact jc0 (box_old w5 (jc (.pointer none) 0 0 0 (.slice none 0 0) 0) 73 _)
        · simp; omega
      case round =>
        obtain ⟨k, hkg, rfl, hT⟩ := hrel
        have HT : Hid (Two w wr (w5.heap.size + 1) w5.heap.size) := hT
        have y0 : wr.cell? ⟨w5.heap.size + 1, 0, none⟩ = some (.pointer none) := hT.row.cell 0 _ rfl
        have y1 : wr.cell? ⟨w5.heap.size + 1, 1, none⟩ = some (.pointer (some ⟨w5.heap.size, 0, none⟩)) := hT.row.cell 1 _ rfl
        have n0 : NoJ (.pointer none) wr := .inl rfl
        have n1 : NoJ (.pointer (some ⟨w5.heap.size, 0, none⟩)) wr := .inr ⟨_, rfl, hT.zero⟩
        clear hT
        match k, hkg with
        | 0, hkg =>
          have c1 := jrecords_noj n0
          have c2 := jadd_noj n0 s
          have c3 := jroom_noj n0
          clear n0 n1
          go_wp2_with (first
            | (go_at_call 15; refine c1.mono ?_; rintro e w6 ⟨rfl, hw6⟩; replace hw6 := hw6.symm; subst hw6)
            | (go_at_call 21; refine c2.mono ?_; rintro e w6 ⟨rfl, hw6⟩; replace hw6 := hw6.symm; subst hw6)
            | (go_at_call 16; refine c3.mono ?_; rintro e w6 ⟨rfl, hw6⟩; replace hw6 := hw6.symm; subst hw6))
          go_roundg 1
          case measure => omega
          case rel => exact ⟨1, rfl, by go_num, HT.out⟩
        | 1, hkg =>
          have c1 := jrecords_noj n1
          have c2 := jadd_noj n1 s
          have c3 := jroom_noj n1
          clear n0 n1
          go_wp2_with (first
            | (go_at_call 15; refine c1.mono ?_; rintro e w6 ⟨rfl, hw6⟩; replace hw6 := hw6.symm; subst hw6)
            | (go_at_call 21; refine c2.mono ?_; rintro e w6 ⟨rfl, hw6⟩; replace hw6 := hw6.symm; subst hw6)
            | (go_at_call 16; refine c3.mono ?_; rintro e w6 ⟨rfl, hw6⟩; replace hw6 := hw6.symm; subst hw6))
          go_roundg 0
          case measure => omega
          case rel => exact ⟨2, rfl, by go_num, HT.out⟩
        | 2, hkg =>
          clear n0 n1
          go_wp2_with fail
          refine (awake23 _).mono ?_
          rintro e w7 ⟨rfl, b7⟩
          go_wp2_with fail
          go_ret
          exact ⟨rfl, HT.out.bel.trans (b7.mono HT.out.bel.size)⟩
        | k + 3, hkg => omega
    | true =>
      rw [hm] at cmay
      have HM : Hid (mayJ 20 a c t = true) := hm
      clear hm
      go_enter Try.func7, Try.ntmps7
      go_wp2_with fail
      refine cnew.mono ?_
      rintro e w1 ⟨H, rfl, D1, b1, _⟩
      have HD : Hid (DevIs w1 H (St.new 20) ∧ Box w1 w.heap.size 37 #[.int .i64 a, .int .i64 c] ∧ Below w.heap.size w w1) := ⟨D1, HB0.out.1.over b1, HB0.out.2.trans (b1.mono HB0.out.2.size)⟩
      obtain ⟨hp, hhp⟩ : ∃ hp, hp = H.p := ⟨_, rfl⟩
      have HH : Hid (hp = H.p) := hhp
      rw [← hhp]
      clear D1 b1 cnew hhp HB0
      have co := open20 HD.out.1 a c tb (by rw [← HA.out.2]; exact HM.out)
      rw [← HA.out.2] at co
      rw [← HH.out] at co
      have z0 : w1.cell? ⟨w.heap.size, 0, none⟩ = some (.int .i64 a) := HD.out.2.1.cell 0 _ rfl
      have z1 : w1.cell? ⟨w.heap.size, 1, none⟩ = some (.int .i64 c) := HD.out.2.1.cell 1 _ rfl
      go_wp2_with fail
      refine co.mono ?_
      rintro e w2 ⟨⟨ad1, rfl⟩, b2⟩
      clear co z0 z1
      have HD2 : Hid (DevIs w2 H (St.new 20) ∧ Box w2 w.heap.size 37 #[.int .i64 a, .int .i64 c] ∧ Below w.heap.size w w2) := ⟨HD.out.1.below b2, HD.out.2.1.over b2, HD.out.2.2.trans (b2.mono HD.out.2.2.size)⟩
      clear b2
      have cb := jbegin_yes (some ⟨H.p, 0, none⟩) 20 (by omega) a c t HA.out.1 w2 (up20 HD2.out.1) HM.out
      rw [← HH.out] at cb
      have z0 : w2.cell? ⟨w.heap.size, 0, none⟩ = some (.int .i64 a) := HD2.out.2.1.cell 0 _ rfl
      have z1 : w2.cell? ⟨w.heap.size, 1, none⟩ = some (.int .i64 c) := HD2.out.2.1.cell 1 _ rfl
      go_wp2_with fail
      refine cb.mono ?_
      rintro e w3 ⟨⟨ad2, rfl, _, _⟩, b3⟩
      clear cb z0 z1
      have HD3 : Hid (Box w3 w.heap.size 37 #[.int .i64 a, .int .i64 c] ∧ Below w.heap.size w w3) := ⟨HD2.out.2.1.over b3, HD2.out.2.2.trans (b3.mono HD2.out.2.2.size)⟩
      clear b3
      have cn := jopen_no (.pointer none) 0 (by omega) a c t HA.out.1 w3 (sizeUp_nil w3) (may_none a c t)
      have z0 : w3.cell? ⟨w.heap.size, 0, none⟩ = some (.int .i64 a) := HD3.out.1.cell 0 _ rfl
      have z1 : w3.cell? ⟨w.heap.size, 1, none⟩ = some (.int .i64 c) := HD3.out.1.cell 1 _ rfl
      go_wp2_with fail
      refine cn.mono ?_
      rintro e w4 ⟨rfl, b4⟩
      clear cn z0 z1
      have HD4 : Hid (Box w4 w.heap.size 37 #[.int .i64 a, .int .i64 c] ∧ Below w.heap.size w w4) := ⟨HD3.out.1.over b4, HD3.out.2.trans (b4.mono HD3.out.2.size)⟩
      clear b4
      have z0 : w4.cell? ⟨w.heap.size, 0, none⟩ = some (.int .i64 a) := HD4.out.1.cell 0 _ rfl
      have z1 : w4.cell? ⟨w.heap.size, 1, none⟩ = some (.int .i64 c) := HD4.out.1.cell 1 _ rfl
      go_wp2_with fail
      refine (cmay _).mono ?_
      rintro e w5 ⟨rfl, b5⟩
      have HB5 : Hid (Below w.heap.size w w5) := HD4.out.2.trans (b5.mono HD4.out.2.size)
      clear z0 z1 b5
      go_wp2_with fail
      go_loopg [17] 2 (fun g s17 wx => ∃ k : Nat, k + g = 2 ∧ s17 = .int .i64 k ∧ Two w wx (w5.heap.size + 1) w5.heap.size)
      case atStart =>
        refine ⟨0, rfl, rfl, ?_, ?_, ?_, HB5.out.trans ((below2 _ _ _).mono HB5.out.size)⟩
        · have := box_new (w5.alloc (.cells (jc (.pointer none) 0 0 0 (.slice none 0 0) 0) 73)) #[.pointer none, .pointer (some ⟨w5.heap.size, 0, none⟩)] 33
          rw [World.size_alloc] at this
          exact this
        · exact jc0 (box_old w5 (jc (.pointer none) 0 0 0 (.slice none 0 0) 0) 73 _)
        · simp; omega
      case round =>
        obtain ⟨k, hkg, rfl, hT⟩ := hrel
        have HT : Hid (Two w wr (w5.heap.size + 1) w5.heap.size) := hT
        have y0 : wr.cell? ⟨w5.heap.size + 1, 0, none⟩ = some (.pointer none) := hT.row.cell 0 _ rfl
        have y1 : wr.cell? ⟨w5.heap.size + 1, 1, none⟩ = some (.pointer (some ⟨w5.heap.size, 0, none⟩)) := hT.row.cell 1 _ rfl
        have n0 : NoJ (.pointer none) wr := .inl rfl
        have n1 : NoJ (.pointer (some ⟨w5.heap.size, 0, none⟩)) wr := .inr ⟨_, rfl, hT.zero⟩
        clear hT
        match k, hkg with
        | 0, hkg =>
          have c1 := jrecords_noj n0
          have c2 := jadd_noj n0 s
          have c3 := jroom_noj n0
          clear n0 n1
          go_wp2_with (first
            | (go_at_call 15; refine c1.mono ?_; rintro e w6 ⟨rfl, hw6⟩; replace hw6 := hw6.symm; subst hw6)
            | (go_at_call 21; refine c2.mono ?_; rintro e w6 ⟨rfl, hw6⟩; replace hw6 := hw6.symm; subst hw6)
            | (go_at_call 16; refine c3.mono ?_; rintro e w6 ⟨rfl, hw6⟩; replace hw6 := hw6.symm; subst hw6))
          go_roundg 1
          case measure => omega
          case rel => exact ⟨1, rfl, by go_num, HT.out⟩
        | 1, hkg =>
          have c1 := jrecords_noj n1
          have c2 := jadd_noj n1 s
          have c3 := jroom_noj n1
          clear n0 n1
          go_wp2_with (first
            | (go_at_call 15; refine c1.mono ?_; rintro e w6 ⟨rfl, hw6⟩; replace hw6 := hw6.symm; subst hw6)
            | (go_at_call 21; refine c2.mono ?_; rintro e w6 ⟨rfl, hw6⟩; replace hw6 := hw6.symm; subst hw6)
            | (go_at_call 16; refine c3.mono ?_; rintro e w6 ⟨rfl, hw6⟩; replace hw6 := hw6.symm; subst hw6))
          go_roundg 0
          case measure => omega
          case rel => exact ⟨2, rfl, by go_num, HT.out⟩
        | 2, hkg =>
          clear n0 n1
          go_wp2_with fail
          refine (awake23 _).mono ?_
          rintro e w7 ⟨rfl, b7⟩
          go_wp2_with fail
          go_ret
          exact ⟨rfl, HT.out.bel.trans (b7.mono HT.out.bel.size)⟩
        | k + 3, hkg => omega
end Go.Proofs.Ytfcflefkjccfgaa
