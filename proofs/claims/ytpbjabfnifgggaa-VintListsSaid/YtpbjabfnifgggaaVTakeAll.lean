/-
  The contract of package vint's TakeAll.
-/
import Derived.Test.YtpbjabfnifgggaaVAll
import Derived.Test.YtpbjabfnifgggaaVSame
namespace Go.Proofs.Ytpbjabfnifgggaa
open Go.RowKit Leb

theorem extract_end (s : ByteArray) (u : Nat) : (s.extract u s.size).data.toList = s.data.toList.drop u := by
  rw [Lib.extract_data, List.take_of_length_le]
  simp
theorem extract_le (s : ByteArray) (u : Nat) : (s.extract u s.size).size ≤ s.size := by
  rw [ByteArray.size_extract]; omega
/-- Take of the bytes from u on. -/
theorem take_from (s : ByteArray) (hs : s.size ≤ 1000000) (u : Nat) (w : World) :
    Calls Try.prog 9 #[.string (s.extract u s.size)] w fun e w' => e = .returned (.tuple #[.int .i64 (zagW (tk (s.data.toList.drop u)).1).toInt, .int .i64 (tk (s.data.toList.drop u)).2.1, .int .i64 (tk (s.data.toList.drop u)).2.2]) ∧ w' = w := by
  have h := take_any (s.extract u s.size) (by have := extract_le s u; unfold maxLen; omega) w
  rw [extract_end] at h
  exact h
theorem take_tuple_no {s : List UInt8} (h : tk s = (0#64, 0, 20)) :
    Value.tuple #[.int .i64 (zagW (tk s).1).toInt, .int .i64 (tk s).2.1, .int .i64 (tk s).2.2] = .tuple #[.int .i64 0, .int .i64 0, .int .i64 20] := by
  rw [h, zag_zero]; rfl
theorem take_tuple_ok {s : List UInt8} {z : BitVec 64} (h : tk s = (z, lenW z, 0)) :
    Value.tuple #[.int .i64 (zagW (tk s).1).toInt, .int .i64 (tk s).2.1, .int .i64 (tk s).2.2] = .tuple #[.int .i64 (zagW z).toInt, .int .i64 (lenW z), .int .i64 0] := by
  rw [h]; rfl
/-- What TakeAll's end is. -/
def Took (s : ByteArray) (w : World) (e : Ending) (w' : World) : Prop :=
  (∃ v, e = .returned (.tuple #[v, .int .i64 (ta s.data.toList).2.1, .int .i64 (ta s.data.toList).2.2]) ∧ OwnsI w' w.heap.size v (ta s.data.toList).1) ∧ Below w.heap.size w w'
theorem took_no {s : ByteArray} {w w' : World} {k : Nat} {n : Int} (hn : n = (k : Int)) (h : ta s.data.toList = ([], 0, k)) (hb : Below w.heap.size w w') : Took s w (.returned (.tuple #[.slice none 0 0, .int .i64 0, .int .i64 n])) w' := by
  refine ⟨⟨.slice none 0 0, ?_, ?_⟩, hb⟩
  · rw [h, hn]; rfl
  · rw [h]; exact ownsI_nil _ _
theorem took_yes {s : ByteArray} {w w' : World} {v : Value} {d : List (BitVec 64)} {u : Nat} (h : ta s.data.toList = (d, u, 0)) (hv : OwnsI w' w.heap.size v d) (hb : Below w.heap.size w w') : Took s w (.returned (.tuple #[v, .int .i64 u, .int .i64 0])) w' := by
  refine ⟨⟨v, ?_, ?_⟩, hb⟩
  · rw [h]; rfl
  · rw [h]; exact hv

/-- 'make([]int, 0, n)'. -/
theorem make_i64 {ops : Array Oper} {rest : List Oper} {o : Oper} {a : Act} {Q : Exit → Act → World → Prop} (hgd : o.guard = none) (l c : Operand) (hop : o.op = Op.makeSlice 31 l c)
    {w : World} {C : Int} {n B : Nat} (hl : a.eval l = .int .i64 0) (hc : a.eval c = .int .i64 C) (hC : C = (n : Int)) (hn : n ≤ 1000000) (hB : B ≤ w.heap.size)
    (h : ∀ v' w', OwnsI w' B v' [] → Below B w w' → wpList Try.prog ops Q rest (a.put o.dst v') w') : wpList Try.prog ops Q (o :: rest) a w := by
  obtain ⟨i0, hi, hz0, hz1, hz2⟩ := info_parts info_i64
  refine wpList_make_own w hgd l c 31 hop B 3 i0 (.int .i64 0) 1 Try.underlying31 hi hz0 hz1 _ _ C n hl hc hC ?_ ?_ hB ?_
  · rw [hz2]; omega
  · unfold maxLen; omega
  · intro w' hown hg
    exact h _ w' hown ((Below.refl B w).grown hg hB (fun k hk => by cases hk))

set_option maxRecDepth 4000 in
set_option maxHeartbeats 2000000 in
theorem takeAll_any (s : ByteArray) (hs : s.size ≤ 1000000) (w : World) :
    Calls Try.prog 14 #[.string s] w (Took s w) := by
  have hs0 : s.size ≤ maxLen := by unfold maxLen; omega
  rcases tk_cases s.data.toList with ⟨z, hz, e0⟩ | ⟨_, e0⟩
  · have tx : ∀ w, Calls Try.prog 9 #[.string s] w fun e w' => e = .returned (.tuple #[.int .i64 (zagW z).toInt, .int .i64 (lenW z), .int .i64 0]) ∧ w' = w := fun w => by
      have := take_any s hs0 w; rw [take_tuple_ok e0] at this; exact this
    have HZ : Hid (tk s.data.toList = (z, lenW z, 0)) := e0
    obtain ⟨x, hx⟩ : ∃ x, x = zagW z := ⟨_, rfl⟩
    have hLs : lenW z ≤ s.size := by have := hz.length_le; simpa [lenW] using this
    have hL1 := (lenW_bd z).1
    clear e0 hz
    by_cases hneg : x.toInt < 0
    · have HT : Hid (ta s.data.toList = ([], 0, 20)) := ta_neg HZ.out (by rw [← hx]; exact hneg)
      rw [← hx] at tx
      obtain ⟨L, hL⟩ : ∃ L, L = lenW z := ⟨_, rfl⟩
      rw [← hL] at tx
      clear hx hL
      go_enter Try.func14, Try.ntmps14
      go_wp2_with (go_at_call 9; refine (tx _).mono ?_; rintro e w1 ⟨rfl, rfl⟩)
      go_ret3
      exact took_no rfl HT.out (Below.refl _ _)
    · by_cases hbig : 65536 < x.toInt
      · have HT : Hid (ta s.data.toList = ([], 0, 4)) := ta_many HZ.out (by rw [← hx]; exact hbig)
        rw [← hx] at tx
        obtain ⟨L, hL⟩ : ∃ L, L = lenW z := ⟨_, rfl⟩
        rw [← hL] at tx
        clear hx hL
        go_enter Try.func14, Try.ntmps14
        go_wp2_with (go_at_call 9; refine (tx _).mono ?_; rintro e w1 ⟨rfl, rfl⟩)
        go_ret3
        exact took_no rfl HT.out (Below.refl _ _)
      · obtain ⟨N, hN⟩ : ∃ N : Nat, x.toInt = N := ⟨x.toInt.toNat, by omega⟩
        have hN2 : N ≤ 65536 := by omega
        rw [← hx, hN] at tx
        have HN : Hid ((zagW z).toInt = N) := by show _ = _; rw [← hx, hN]
        obtain ⟨L, hL⟩ : ∃ L, L = lenW z := ⟨_, rfl⟩
        rw [← hL] at tx hLs hL1
        have HL : Hid (L = lenW z) := hL
        clear hx hL hN hbig hneg
        obtain ⟨C, hC1, hC2⟩ : ∃ C : Nat, ((s.size : Int) - (L : Int) < (N : Int) → (s.size : Int) - (L : Int) = C) ∧ (¬ (s.size : Int) - (L : Int) < (N : Int) → (N : Int) = C) := ⟨min N (s.size - L), by omega, by omega⟩
        have hsI : (s.size : Int) ≤ 1000000 := by omega
        by_cases hmin : (s.size : Int) - (L : Int) < (N : Int)
        case' pos => have HC : Hid ((s.size : Int) - (L : Int) = C) := hC1 hmin
        case' neg => have HC : Hid ((N : Int) = C) := hC2 hmin
        all_goals
          have hCn : C ≤ 1000000 := by have := HC.out; omega
          clear hC1 hC2
          go_enter Try.func14, Try.ntmps14
          go_wp2_with (first
            | (go_at_call 9; refine (tx _).mono ?_; rintro e w1 ⟨rfl, hw1⟩; replace hw1 := hw1.symm; subst hw1)
            | (at_make; refine make_i64 rfl _ _ rfl rfl rfl HC.out hCn (Nat.le_refl _) ?_; intro v2 w2 hown2 hb2))
          go_loopg [6, 8, 36] N (fun g s6 s8 s36 wx => ∃ (k u : Nat) (d : List (BitVec 64)), k + g = N ∧ s36 = .int .i64 k ∧ s6 = .int .i64 u ∧ u ≤ s.size ∧ d.length = k ∧ tkF N s.data.toList [] L = tkF g s.data.toList d u ∧ OwnsI wx w.heap.size s8 d ∧ Below w.heap.size w wx)
          case atStart => exact ⟨0, L, [], by omega, rfl, rfl, hLs, rfl, rfl, hown2, hb2⟩
          case round =>
            obtain ⟨k, u, d, hkg, rfl, rfl, hu, hd, hf, hown, hb⟩ := hrel
            have HF : Hid (tkF N s.data.toList [] L = tkF gk s.data.toList d u) := hf
            have HD : Hid (d.length = k) := hd
            have hdl : d.length + 1 ≤ 1000000 := by omega
            have huI : (u : Int) ≤ (s.size : Int) := by omega
            have hsz := hb.size
            clear hf hd hown2 hb2 tx
            cases gk with
            | zero =>
              have hkI : ¬ (k : Int) < (N : Int) := by omega
              have HT : Hid (ta s.data.toList = (d, u, 0)) := ta_some HZ.out N HN.out hN2 (by rw [← HL.out, HF.out, tkF_zero])
              go_wp2
              go_ret3
              exact took_yes HT.out hown hb
            | succ g =>
              have hkI : (k : Int) < (N : Int) := by omega
              rcases tk_cases (s.data.toList.drop u) with ⟨z1, hz1, e1⟩ | ⟨_, e1⟩
              · have ty : ∀ w, Calls Try.prog 9 #[.string (s.extract u s.size)] w fun e w' => e = .returned (.tuple #[.int .i64 (zagW z1).toInt, .int .i64 (lenW z1), .int .i64 0]) ∧ w' = w := fun w => by
                  have := take_from s hs u w; rw [take_tuple_ok e1] at this; exact this
                have HF2 : Hid (tkF N s.data.toList [] L = tkF g s.data.toList (d ++ [zagW z1]) (u + lenW z1)) := by show _ = _; rw [HF.out, tkF_ok e1]
                have hL2 := lenW_bd z1
                have hL3 : u + lenW z1 ≤ s.size := by have := hz1.length_le; rw [List.length_drop] at this; simp [lenW] at this ⊢; omega
                obtain ⟨x1, hx1⟩ : ∃ x1, x1 = zagW z1 := ⟨_, rfl⟩
                obtain ⟨L1, hL1'⟩ : ∃ L1, L1 = lenW z1 := ⟨_, rfl⟩
                rw [← hx1, ← hL1'] at ty HF2
                rw [← hL1'] at hL2 hL3
                clear hz1 e1 hx1 hL1'
                go_wp2_with (first
                  | (go_at_call 9; refine (ty _).mono ?_; rintro e w1 ⟨rfl, hw1⟩; replace hw1 := hw1.symm; subst hw1)
                  | (at_builtin; refine append_i64 rfl (.tmp 49) (.tmp 51) rfl rfl rfl rfl hown hsz hdl ?_; intro v3 w3 hown3 hb3))
                go_roundg g
                case measure => omega
                case rel => exact ⟨k + 1, u + L1, d ++ [x1], by omega, by go_num, by go_num, hL3, by rw [List.length_append, HD.out]; rfl, HF2.out, hown3, hb.trans hb3⟩
              · have ty : ∀ w, Calls Try.prog 9 #[.string (s.extract u s.size)] w fun e w' => e = .returned (.tuple #[.int .i64 0, .int .i64 0, .int .i64 20]) ∧ w' = w := fun w => by
                  have := take_from s hs u w; rw [take_tuple_no e1] at this; exact this
                have HT : Hid (ta s.data.toList = ([], 0, 20)) := ta_none HZ.out N HN.out hN2 (by rw [← HL.out, HF.out, tkF_no e1])
                clear e1
                go_wp2_with (go_at_call 9; refine (ty _).mono ?_; rintro e w1 ⟨rfl, hw1⟩; replace hw1 := hw1.symm; subst hw1)
                go_ret3
                exact took_no rfl HT.out hb
  · have tx : ∀ w, Calls Try.prog 9 #[.string s] w fun e w' => e = .returned (.tuple #[.int .i64 0, .int .i64 0, .int .i64 20]) ∧ w' = w := fun w => by
      have := take_any s hs0 w; rw [take_tuple_no e0] at this; exact this
    have HT : Hid (ta s.data.toList = ([], 0, 20)) := ta_form e0
    clear e0
    go_enter Try.func14, Try.ntmps14
    go_wp2_with (go_at_call 9; refine (tx _).mono ?_; rintro e w1 ⟨rfl, rfl⟩)
    go_ret3
    exact took_no rfl HT.out (Below.refl _ _)
end Go.Proofs.Ytpbjabfnifgggaa
