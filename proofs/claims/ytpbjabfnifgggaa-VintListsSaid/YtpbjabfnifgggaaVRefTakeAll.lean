/-
  The contract of package peristyleref02's TakeAll.
-/
import Derived.Test.YtpbjabfnifgggaaVTakeAll
import Derived.Test.YtpbjabfnifgggaaVRefTake
namespace Go.Proofs.Ytpbjabfnifgggaa
open Go.RowKit Leb

theorem refTake_from (s : ByteArray) (u : Nat) (w : World) :
    Calls Try.prog 12 #[.string (s.extract u s.size)] w fun e w' => e = .returned (.tuple #[.int .i64 (zagW (tk (s.data.toList.drop u)).1).toInt, .int .i64 (tk (s.data.toList.drop u)).2.1, .int .i64 (tk (s.data.toList.drop u)).2.2]) ∧ Below w.heap.size w w' := by
  have h := refTake_any (s.extract u s.size) w
  rw [extract_end] at h
  exact h

set_option maxRecDepth 4000 in
set_option maxHeartbeats 2000000 in
theorem refTakeAll_any (s : ByteArray) (hs : s.size ≤ 1000000) (w : World) :
    Calls Try.prog 17 #[.string s] w (Took s w) := by
  rcases tk_cases s.data.toList with ⟨z, hz, e0⟩ | ⟨_, e0⟩
  · have tx : ∀ w, Calls Try.prog 12 #[.string s] w fun e w' => e = .returned (.tuple #[.int .i64 (zagW z).toInt, .int .i64 (lenW z), .int .i64 0]) ∧ Below w.heap.size w w' := fun w => by
      have := refTake_any s w; rw [take_tuple_ok e0] at this; exact this
    have HZ : Hid (tk s.data.toList = (z, lenW z, 0)) := e0
    obtain ⟨x, hx⟩ : ∃ x, x = zagW z := ⟨_, rfl⟩
    have hLs : lenW z ≤ s.size := by have := hz.length_le; simpa [lenW] using this
    clear e0 hz
    by_cases hneg : x.toInt < 0
    · have HT : Hid (ta s.data.toList = ([], 0, 20)) := ta_neg HZ.out (by rw [← hx]; exact hneg)
      rw [← hx] at tx
      obtain ⟨L, hL⟩ : ∃ L, L = lenW z := ⟨_, rfl⟩
      rw [← hL] at tx
      clear hx hL
      go_enter Try.func17, Try.ntmps17
      go_wp2_with (go_at_call 12; refine (tx _).mono ?_; rintro e w1 ⟨rfl, hb1⟩)
      go_ret3
      exact took_no rfl HT.out hb1
    · by_cases hbig : 65536 < x.toInt
      · have HT : Hid (ta s.data.toList = ([], 0, 4)) := ta_many HZ.out (by rw [← hx]; exact hbig)
        rw [← hx] at tx
        obtain ⟨L, hL⟩ : ∃ L, L = lenW z := ⟨_, rfl⟩
        rw [← hL] at tx
        clear hx hL
        go_enter Try.func17, Try.ntmps17
        go_wp2_with (go_at_call 12; refine (tx _).mono ?_; rintro e w1 ⟨rfl, hb1⟩)
        go_ret3
        exact took_no rfl HT.out hb1
      · obtain ⟨N, hN⟩ : ∃ N : Nat, x.toInt = N := ⟨x.toInt.toNat, by omega⟩
        have hN2 : N ≤ 65536 := by omega
        rw [← hx, hN] at tx
        have HN : Hid ((zagW z).toInt = N) := by show _ = _; rw [← hx, hN]
        obtain ⟨L, hL⟩ : ∃ L, L = lenW z := ⟨_, rfl⟩
        rw [← hL] at tx hLs
        have HL : Hid (L = lenW z) := hL
        clear hx hL hN hbig hneg
        have hsI : (s.size : Int) ≤ 1000000 := by omega
        go_enter Try.func17, Try.ntmps17
        go_wp2_with (go_at_call 12; refine (tx _).mono ?_; rintro e w1 ⟨rfl, hb1⟩)
        go_loopg [6, 8, 9] N (fun g s6 s8 s9 wx => ∃ (k u : Nat) (d : List (BitVec 64)), k + g = N ∧ s9 = .int .i64 k ∧ s6 = .int .i64 u ∧ u ≤ s.size ∧ d.length = k ∧ tkF N s.data.toList [] L = tkF g s.data.toList d u ∧ OwnsI wx w.heap.size s8 d ∧ Below w.heap.size w wx)
        case atStart => exact ⟨0, L, [], by omega, rfl, rfl, hLs, rfl, rfl, ownsI_nil _ _, hb1⟩
        case round =>
          obtain ⟨k, u, d, hkg, rfl, rfl, hu, hd, hf, hown, hb⟩ := hrel
          have HF : Hid (tkF N s.data.toList [] L = tkF gk s.data.toList d u) := hf
          have HD : Hid (d.length = k) := hd
          have hdl : d.length + 1 ≤ 1000000 := by omega
          have huI : (u : Int) ≤ (s.size : Int) := by omega
          clear hf hd hb1 tx
          cases gk with
          | zero =>
            have hkI : ¬ (k : Int) < (N : Int) := by omega
            have HT : Hid (ta s.data.toList = (d, u, 0)) := ta_some HZ.out N HN.out hN2 (by rw [← HL.out, HF.out, tkF_zero])
            go_wp2
            go_ret3
            exact took_yes HT.out hown hb
          | succ g =>
            have hkI : (k : Int) < (N : Int) := by omega
            rcases tk_cases (s.data.toList.drop u) with ⟨z1, hz1, e1⟩ | ⟨_, e1⟩
            · have ty : ∀ w, Calls Try.prog 12 #[.string (s.extract u s.size)] w fun e w' => e = .returned (.tuple #[.int .i64 (zagW z1).toInt, .int .i64 (lenW z1), .int .i64 0]) ∧ Below w.heap.size w w' := fun w => by
                have := refTake_from s u w; rw [take_tuple_ok e1] at this; exact this
              have HF2 : Hid (tkF N s.data.toList [] L = tkF g s.data.toList (d ++ [zagW z1]) (u + lenW z1)) := by show _ = _; rw [HF.out, tkF_ok e1]
              have hL2 := lenW_bd z1
              have hL3 : u + lenW z1 ≤ s.size := by have := hz1.length_le; rw [List.length_drop] at this; simp [lenW] at this ⊢; omega
              obtain ⟨x1, hx1⟩ : ∃ x1, x1 = zagW z1 := ⟨_, rfl⟩
              obtain ⟨L1, hL1'⟩ : ∃ L1, L1 = lenW z1 := ⟨_, rfl⟩
              rw [← hx1, ← hL1'] at ty HF2
              rw [← hL1'] at hL2 hL3
              clear hz1 e1 hx1 hL1'
              go_wp2_with (first
                | (go_at_call 12; refine (ty _).mono ?_; rintro e w1 ⟨rfl, hb1⟩; replace hown := hown.below hb1; replace hb := hb.trans (hb1.mono hb.size); clear hb1)
                | (at_builtin; refine append_i64 rfl (.tmp 42) (.tmp 44) rfl rfl rfl rfl hown hb.size hdl ?_; intro v3 w3 hown3 hb3))
              go_roundg g
              case measure => omega
              case rel => exact ⟨k + 1, u + L1, d ++ [x1], by omega, by go_num, by go_num, hL3, by rw [List.length_append, HD.out]; rfl, HF2.out, hown3, hb.trans hb3⟩
            · have ty : ∀ w, Calls Try.prog 12 #[.string (s.extract u s.size)] w fun e w' => e = .returned (.tuple #[.int .i64 0, .int .i64 0, .int .i64 20]) ∧ Below w.heap.size w w' := fun w => by
                have := refTake_from s u w; rw [take_tuple_no e1] at this; exact this
              have HT : Hid (ta s.data.toList = ([], 0, 20)) := ta_none HZ.out N HN.out hN2 (by rw [← HL.out, HF.out, tkF_no e1])
              clear e1
              go_wp2_with (go_at_call 12; refine (ty _).mono ?_; rintro e w1 ⟨rfl, hb1⟩)
              go_ret3
              exact took_no rfl HT.out (hb.trans (hb1.mono hb.size))
  · have tx : ∀ w, Calls Try.prog 12 #[.string s] w fun e w' => e = .returned (.tuple #[.int .i64 0, .int .i64 0, .int .i64 20]) ∧ Below w.heap.size w w' := fun w => by
      have := refTake_any s w; rw [take_tuple_no e0] at this; exact this
    have HT : Hid (ta s.data.toList = ([], 0, 20)) := ta_form e0
    clear e0
    go_enter Try.func17, Try.ntmps17
    go_wp2_with (go_at_call 12; refine (tx _).mono ?_; rintro e w1 ⟨rfl, hb1⟩)
    go_ret3
    exact took_no rfl HT.out hb1
end Go.Proofs.Ytpbjabfnifgggaa
