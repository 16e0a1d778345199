/-
  The contracts of the document's number and Read.
-/
import Derived.Test.YtjkkkdehmgfmeaaDoorKRefShow
import Derived.Test.YtjkkkdehmgfmeaaDoorKNum
import Derived.Test.YtjkkkdehmgfmeaaDoorKTake
namespace Go.Proofs.YtjkkkdehmgfmeaaDoor
open Go.RowKit

theorem num_no {l : List UInt8} (h : pn 0 (if downB l = true then l.drop 1 else l) = none) : numA l = (0, false) := by
  unfold numA; rw [h]
theorem down_head (s : ByteArray) (h : 0 < s.size) : downB s.data.toList = ((s[0].toNat : Int) == 45) := by
  rw [head_list s h]
  unfold downB
  simp only [List.head?_cons]
  rw [Bool.eq_iff_iff, beq_iff_eq, beq_iff_eq, Option.some.injEq]
  constructor
  · intro e; rw [e]; rfl
  · intro e
    apply UInt8.toNat_inj.1
    have : (45 : UInt8).toNat = 45 := rfl
    omega
theorem drop_at (s : ByteArray) (i : Nat) (h : i < s.size) : s.data.toList.drop i = s[i] :: s.data.toList.drop (i + 1) := by
  rw [List.drop_eq_getElem_cons (by rw [← Lib.size_eq]; exact h)]
  rfl
theorem retIB {a b : Int} {x y : Bool} (h : (b, y) = (a, x)) : Ending.returned (.tuple #[.int .i64 a, .bool x]) = .returned (.tuple #[.int .i64 b, .bool y]) := by
  obtain ⟨rfl, rfl⟩ := Prod.mk.inj h
  rfl

set_option maxHeartbeats 4000000 in
set_option maxRecDepth 4000 in
theorem number_ref (s : ByteArray) (hs : s.size ≤ 100000) (w : World) :
    Calls Tryd.prog 40 #[.string s] w fun e w' => e = .returned (.tuple #[.int .i64 (numA s.data.toList).1, .bool (numA s.data.toList).2]) ∧ Below w.heap.size w w' := by
  have hsl := Lib.size_eq s
  obtain ⟨down, fr, hdn, hfr, hcase⟩ : ∃ (down : Bool) (fr : Nat), downB s.data.toList = down ∧ (if down = true then s.data.toList.drop 1 else s.data.toList) = s.data.toList.drop fr ∧ ((s.size = 0 ∧ down = false ∧ fr = 0) ∨ (0 < s.size ∧ (∃ h : 0 < s.size, ((s[0].toNat : Int) == 45) = down) ∧ fr = (if down = true then 1 else 0))) := by
    by_cases h0 : s.size = 0
    · have : s.data.toList = [] := List.eq_nil_of_length_eq_zero (by omega)
      refine ⟨false, 0, by rw [this]; rfl, rfl, .inl ⟨h0, rfl, rfl⟩⟩
    · have hp : 0 < s.size := by omega
      refine ⟨downB s.data.toList, if downB s.data.toList = true then 1 else 0, rfl, ?_, .inr ⟨hp, ⟨hp, (down_head s hp).symm⟩, rfl⟩⟩
      split <;> simp
  have HD : Hid (numA s.data.toList = (match pn 0 (s.data.toList.drop fr) with
      | none => (0, false)
      | some a => if down = false ∧ a = -9223372036854775808 then (0, false) else if down = true then (a, Lib.itoa a == s.data.toList) else (-a, Lib.itoa (-a) == s.data.toList))) := by
    unfold Hid
    conv => lhs; unfold numA
    rw [hdn, hfr]
    rfl
  have HS : Hid (s.size = s.data.toList.length) := hsl
  clear hsl hdn hfr
  rcases hcase with ⟨hz, rfl, rfl⟩ | ⟨hp, ⟨_, h45⟩, hfr⟩
  · have hpI : ¬ (0 : Int) < (s.size : Int) := by omega
    clear hz
    go_enter Tryd.func40, Tryd.ntmps40
    go_wp2_with fail
    go_loopg [6, 7] (s.size - 0) (fun gg s6 s7 wx => ∃ (i : Nat) (x : Int), i + gg = s.size ∧ s7 = .int .i64 i ∧ s6 = .int .i64 x ∧ Hid (pn 0 (s.data.toList.drop 0) = pn x (s.data.toList.drop i)) ∧ -9223372036854775808 ≤ x ∧ x ≤ 0 ∧ wx = w)
    case atStart => exact ⟨0, 0, by omega, rfl, rfl, rfl, by omega, by omega, rfl⟩
    case round =>
      obtain ⟨i, x, hig, rfl, rfl, hpn, hx1, hx2, rfl⟩ := hrel
      by_cases hi : i < s.size
      · have hiI : (i : Int) < (s.size : Int) := by omega
        have hb8 : (s[i].toNat : Int) < 256 := by have := s[i].toNat_lt; omega
        have hdrop := drop_at s i hi
        have hr2 : IntKind.i64.wrap ((i : Int) + 1) = (i : Int) + 1 := by rw [IntKind.wrap_i64]; omega
        by_cases h1 : (s[i].toNat : Int) - 48 < 0
        · have HE : Hid (numA s.data.toList = (0, false)) := by
            unfold Hid; rw [HD.out, hpn.out, hdrop]; simp only [pn]; rw [if_pos (.inl h1)]
          clear hdrop hpn HD
          go_wp2_with fail
          go_ret2
          exact ⟨retIB HE.out, Below.refl _ _⟩
        · by_cases h2 : (9 : Int) < (s[i].toNat : Int) - 48
          · have HE : Hid (numA s.data.toList = (0, false)) := by
              unfold Hid; rw [HD.out, hpn.out, hdrop]; simp only [pn]; rw [if_pos (.inr (.inl h2))]
            clear hdrop hpn HD
            go_wp2_with fail
            go_ret2
            exact ⟨retIB HE.out, Below.refl _ _⟩
          · by_cases h3 : x < (-9223372036854775808 + ((s[i].toNat : Int) - 48)).tdiv 10
            · have HE : Hid (numA s.data.toList = (0, false)) := by
                unfold Hid; rw [HD.out, hpn.out, hdrop]; simp only [pn]; rw [if_pos (.inr (.inr h3))]
              clear hdrop hpn HD
              go_wp2_with fail
              go_ret2
              exact ⟨retIB HE.out, Below.refl _ _⟩
            · have ht := tdiv_min ((s[i].toNat : Int) - 48) (by omega) (by omega)
              have hw : wrap64 (wrap64 (10 * x) - ((s[i].toNat : Int) - 48)) = 10 * x - ((s[i].toNat : Int) - 48) := by unfold wrap64; omega
              have HP : Hid (pn 0 (s.data.toList.drop 0) = pn (10 * x - ((s[i].toNat : Int) - 48)) (s.data.toList.drop (i + 1)) ∧ -9223372036854775808 ≤ 10 * x - ((s[i].toNat : Int) - 48) ∧ 10 * x - ((s[i].toNat : Int) - 48) ≤ 0) := by
                refine ⟨?_, by omega, by omega⟩
                rw [hpn.out, hdrop, pn_step (by omega) (by omega) h3]
              have HW : Hid (wrap64 (wrap64 (10 * x) - ((s[i].toNat : Int) - 48)) = 10 * x - ((s[i].toNat : Int) - 48)) := hw
              clear hdrop hpn ht hw
              go_wp2_with fail
              go_roundg (s.size - (i + 1))
              case measure => clear hr2; omega
              case rel => exact ⟨i + 1, 10 * x - ((s[i].toNat : Int) - 48), by clear hr2; omega, by go_num, by first | rfl | rw [HW.out], HP.out.1, HP.out.2.1, HP.out.2.2, rfl⟩
      · have hiI : ¬ (i : Int) < (s.size : Int) := by omega
        have hdn : s.data.toList.drop i = [] := List.drop_of_length_le (by rw [← HS.out]; omega)
        have hpx : pn 0 (s.data.toList.drop 0) = some x := by rw [hpn.out, hdn]; rfl
        by_cases hmin : x = -9223372036854775808
        · have HE : Hid (numA s.data.toList = (0, false)) := by
            unfold Hid; rw [HD.out, hpx]; simp only; rw [if_pos ⟨trivial, hmin⟩]
          have hmb : (x == -9223372036854775808) = true := by simpa using hmin
          clear hdn hpx hpn HD hmin
          go_wp2_with fail
          go_ret2
          exact ⟨retIB HE.out, Below.refl _ _⟩
        · have hmb : (x == -9223372036854775808) = false := by simpa using hmin
          have hx3 : -9223372036854775807 ≤ x := by omega
          obtain ⟨b, hb⟩ : ∃ b, b = (Lib.itoa (-x) == s.data.toList) := ⟨_, rfl⟩
          have HE : Hid (numA s.data.toList = (-x, b)) := by
            unfold Hid; rw [HD.out, hpx, hb]; simp only; rw [if_neg (by rintro ⟨_, h⟩; exact hmin h)]; rfl
          obtain ⟨t, ht⟩ : ∃ t, t = str (Lib.itoa (-x)) := ⟨_, rfl⟩
          have hsh : ∀ w, Calls Tryd.prog 27 #[.agg #[.int .i64 1, .int .i64 (-x), .string ⟨#[]⟩]] w fun e w' => e = .returned (.string t) ∧ Below w.heap.size w w' := fun w => by
            have := refShow_any ⟨1, -x, ⟨#[]⟩⟩ w ⟨by simp only; omega, by simp only; omega⟩ (by simp only [ByteArray.size]; decide)
            have e : showL ⟨1, -x, ⟨#[]⟩⟩ = Lib.itoa (-x) := by simp [showL]
            rw [e, ← ht] at this
            exact this
          have hb2 : (t.toList == s.toList) = b := by rw [hb, ht, toList_str, Lib.toList_data]
          clear hdn hpx hpn hb ht HD hmin
          go_wp2_with (go_at_call 27; refine (hsh _).mono ?_; rintro e w1 ⟨rfl, hb1⟩)
          go_ret2
          exact ⟨retIB HE.out, hb1⟩
  · cases down with
    | true =>
      obtain rfl : fr = 1 := hfr
      have hpI : (0 : Int) < (s.size : Int) := by omega
      go_enter Tryd.func40, Tryd.ntmps40
      go_wp2_with fail
      go_loopg [6, 7] (s.size - 1) (fun gg s6 s7 wx => ∃ (i : Nat) (x : Int), i + gg = s.size ∧ s7 = .int .i64 i ∧ s6 = .int .i64 x ∧ Hid (pn 0 (s.data.toList.drop 1) = pn x (s.data.toList.drop i)) ∧ -9223372036854775808 ≤ x ∧ x ≤ 0 ∧ wx = w)
      case atStart => exact ⟨1, 0, by omega, rfl, rfl, rfl, by omega, by omega, rfl⟩
      case round =>
        obtain ⟨i, x, hig, rfl, rfl, hpn, hx1, hx2, rfl⟩ := hrel
        by_cases hi : i < s.size
        · have hiI : (i : Int) < (s.size : Int) := by omega
          have hb8 : (s[i].toNat : Int) < 256 := by have := s[i].toNat_lt; omega
          have hdrop := drop_at s i hi
          have hr2 : IntKind.i64.wrap ((i : Int) + 1) = (i : Int) + 1 := by rw [IntKind.wrap_i64]; omega
          by_cases h1 : (s[i].toNat : Int) - 48 < 0
          · have HE : Hid (numA s.data.toList = (0, false)) := by
              unfold Hid; rw [HD.out, hpn.out, hdrop]; simp only [pn]; rw [if_pos (.inl h1)]
            clear hdrop hpn HD
            go_wp2_with fail
            go_ret2
            exact ⟨retIB HE.out, Below.refl _ _⟩
          · by_cases h2 : (9 : Int) < (s[i].toNat : Int) - 48
            · have HE : Hid (numA s.data.toList = (0, false)) := by
                unfold Hid; rw [HD.out, hpn.out, hdrop]; simp only [pn]; rw [if_pos (.inr (.inl h2))]
              clear hdrop hpn HD
              go_wp2_with fail
              go_ret2
              exact ⟨retIB HE.out, Below.refl _ _⟩
            · by_cases h3 : x < (-9223372036854775808 + ((s[i].toNat : Int) - 48)).tdiv 10
              · have HE : Hid (numA s.data.toList = (0, false)) := by
                  unfold Hid; rw [HD.out, hpn.out, hdrop]; simp only [pn]; rw [if_pos (.inr (.inr h3))]
                clear hdrop hpn HD
                go_wp2_with fail
                go_ret2
                exact ⟨retIB HE.out, Below.refl _ _⟩
              · have ht := tdiv_min ((s[i].toNat : Int) - 48) (by omega) (by omega)
                have hw : wrap64 (wrap64 (10 * x) - ((s[i].toNat : Int) - 48)) = 10 * x - ((s[i].toNat : Int) - 48) := by unfold wrap64; omega
                have HP : Hid (pn 0 (s.data.toList.drop 1) = pn (10 * x - ((s[i].toNat : Int) - 48)) (s.data.toList.drop (i + 1)) ∧ -9223372036854775808 ≤ 10 * x - ((s[i].toNat : Int) - 48) ∧ 10 * x - ((s[i].toNat : Int) - 48) ≤ 0) := by
                  refine ⟨?_, by omega, by omega⟩
                  rw [hpn.out, hdrop, pn_step (by omega) (by omega) h3]
                have HW : Hid (wrap64 (wrap64 (10 * x) - ((s[i].toNat : Int) - 48)) = 10 * x - ((s[i].toNat : Int) - 48)) := hw
                clear hdrop hpn ht hw
                go_wp2_with fail
                go_roundg (s.size - (i + 1))
                case measure => clear hr2; omega
                case rel => exact ⟨i + 1, 10 * x - ((s[i].toNat : Int) - 48), by clear hr2; omega, by go_num, by first | rfl | rw [HW.out], HP.out.1, HP.out.2.1, HP.out.2.2, rfl⟩
        · have hiI : ¬ (i : Int) < (s.size : Int) := by omega
          have hdn : s.data.toList.drop i = [] := List.drop_of_length_le (by rw [← HS.out]; omega)
          have hpx : pn 0 (s.data.toList.drop 1) = some x := by rw [hpn.out, hdn]; rfl
          obtain ⟨b, hb⟩ : ∃ b, b = (Lib.itoa x == s.data.toList) := ⟨_, rfl⟩
          have HE : Hid (numA s.data.toList = (x, b)) := by
            unfold Hid; rw [HD.out, hpx, hb]; rfl
          obtain ⟨t, ht⟩ : ∃ t, t = str (Lib.itoa x) := ⟨_, rfl⟩
          have hsh : ∀ w, Calls Tryd.prog 27 #[.agg #[.int .i64 1, .int .i64 x, .string ⟨#[]⟩]] w fun e w' => e = .returned (.string t) ∧ Below w.heap.size w w' := fun w => by
            have := refShow_any ⟨1, x, ⟨#[]⟩⟩ w ⟨hx1, by simp only; omega⟩ (by simp only [ByteArray.size]; decide)
            have e : showL ⟨1, x, ⟨#[]⟩⟩ = Lib.itoa x := by simp [showL]
            rw [e, ← ht] at this
            exact this
          have hb2 : (t.toList == s.toList) = b := by rw [hb, ht, toList_str, Lib.toList_data]
          clear hdn hpx hpn hb ht HD
          go_wp2_with (go_at_call 27; refine (hsh _).mono ?_; rintro e w1 ⟨rfl, hb1⟩)
          go_ret2
          exact ⟨retIB HE.out, hb1⟩
    | false =>
      obtain rfl : fr = 0 := hfr
      have hpI : (0 : Int) < (s.size : Int) := by omega
      go_enter Tryd.func40, Tryd.ntmps40
      go_wp2_with fail
      go_loopg [6, 7] (s.size - 0) (fun gg s6 s7 wx => ∃ (i : Nat) (x : Int), i + gg = s.size ∧ s7 = .int .i64 i ∧ s6 = .int .i64 x ∧ Hid (pn 0 (s.data.toList.drop 0) = pn x (s.data.toList.drop i)) ∧ -9223372036854775808 ≤ x ∧ x ≤ 0 ∧ wx = w)
      case atStart => exact ⟨0, 0, by omega, rfl, rfl, rfl, by omega, by omega, rfl⟩
      case round =>
        obtain ⟨i, x, hig, rfl, rfl, hpn, hx1, hx2, rfl⟩ := hrel
        by_cases hi : i < s.size
        · have hiI : (i : Int) < (s.size : Int) := by omega
          have hb8 : (s[i].toNat : Int) < 256 := by have := s[i].toNat_lt; omega
          have hdrop := drop_at s i hi
          have hr2 : IntKind.i64.wrap ((i : Int) + 1) = (i : Int) + 1 := by rw [IntKind.wrap_i64]; omega
          by_cases h1 : (s[i].toNat : Int) - 48 < 0
          · have HE : Hid (numA s.data.toList = (0, false)) := by
              unfold Hid; rw [HD.out, hpn.out, hdrop]; simp only [pn]; rw [if_pos (.inl h1)]
            clear hdrop hpn HD
            go_wp2_with fail
            go_ret2
            exact ⟨retIB HE.out, Below.refl _ _⟩
          · by_cases h2 : (9 : Int) < (s[i].toNat : Int) - 48
            · have HE : Hid (numA s.data.toList = (0, false)) := by
                unfold Hid; rw [HD.out, hpn.out, hdrop]; simp only [pn]; rw [if_pos (.inr (.inl h2))]
              clear hdrop hpn HD
              go_wp2_with fail
              go_ret2
              exact ⟨retIB HE.out, Below.refl _ _⟩
            · by_cases h3 : x < (-9223372036854775808 + ((s[i].toNat : Int) - 48)).tdiv 10
              · have HE : Hid (numA s.data.toList = (0, false)) := by
                  unfold Hid; rw [HD.out, hpn.out, hdrop]; simp only [pn]; rw [if_pos (.inr (.inr h3))]
                clear hdrop hpn HD
                go_wp2_with fail
                go_ret2
                exact ⟨retIB HE.out, Below.refl _ _⟩
              · have ht := tdiv_min ((s[i].toNat : Int) - 48) (by omega) (by omega)
                have hw : wrap64 (wrap64 (10 * x) - ((s[i].toNat : Int) - 48)) = 10 * x - ((s[i].toNat : Int) - 48) := by unfold wrap64; omega
                have HP : Hid (pn 0 (s.data.toList.drop 0) = pn (10 * x - ((s[i].toNat : Int) - 48)) (s.data.toList.drop (i + 1)) ∧ -9223372036854775808 ≤ 10 * x - ((s[i].toNat : Int) - 48) ∧ 10 * x - ((s[i].toNat : Int) - 48) ≤ 0) := by
                  refine ⟨?_, by omega, by omega⟩
                  rw [hpn.out, hdrop, pn_step (by omega) (by omega) h3]
                have HW : Hid (wrap64 (wrap64 (10 * x) - ((s[i].toNat : Int) - 48)) = 10 * x - ((s[i].toNat : Int) - 48)) := hw
                clear hdrop hpn ht hw
                go_wp2_with fail
                go_roundg (s.size - (i + 1))
                case measure => clear hr2; omega
                case rel => exact ⟨i + 1, 10 * x - ((s[i].toNat : Int) - 48), by clear hr2; omega, by go_num, by first | rfl | rw [HW.out], HP.out.1, HP.out.2.1, HP.out.2.2, rfl⟩
        · have hiI : ¬ (i : Int) < (s.size : Int) := by omega
          have hdn : s.data.toList.drop i = [] := List.drop_of_length_le (by rw [← HS.out]; omega)
          have hpx : pn 0 (s.data.toList.drop 0) = some x := by rw [hpn.out, hdn]; rfl
          by_cases hmin : x = -9223372036854775808
          · have HE : Hid (numA s.data.toList = (0, false)) := by
              unfold Hid; rw [HD.out, hpx]; simp only; rw [if_pos ⟨trivial, hmin⟩]
            have hmb : (x == -9223372036854775808) = true := by simpa using hmin
            clear hdn hpx hpn HD hmin
            go_wp2_with fail
            go_ret2
            exact ⟨retIB HE.out, Below.refl _ _⟩
          · have hmb : (x == -9223372036854775808) = false := by simpa using hmin
            have hx3 : -9223372036854775807 ≤ x := by omega
            obtain ⟨b, hb⟩ : ∃ b, b = (Lib.itoa (-x) == s.data.toList) := ⟨_, rfl⟩
            have HE : Hid (numA s.data.toList = (-x, b)) := by
              unfold Hid; rw [HD.out, hpx, hb]; simp only; rw [if_neg (by rintro ⟨_, h⟩; exact hmin h)]; rfl
            obtain ⟨t, ht⟩ : ∃ t, t = str (Lib.itoa (-x)) := ⟨_, rfl⟩
            have hsh : ∀ w, Calls Tryd.prog 27 #[.agg #[.int .i64 1, .int .i64 (-x), .string ⟨#[]⟩]] w fun e w' => e = .returned (.string t) ∧ Below w.heap.size w w' := fun w => by
              have := refShow_any ⟨1, -x, ⟨#[]⟩⟩ w ⟨by simp only; omega, by simp only; omega⟩ (by simp only [ByteArray.size]; decide)
              have e : showL ⟨1, -x, ⟨#[]⟩⟩ = Lib.itoa (-x) := by simp [showL]
              rw [e, ← ht] at this
              exact this
            have hb2 : (t.toList == s.toList) = b := by rw [hb, ht, toList_str, Lib.toList_data]
            clear hdn hpx hpn hb ht HD hmin
            go_wp2_with (go_at_call 27; refine (hsh _).mono ?_; rintro e w1 ⟨rfl, hb1⟩)
            go_ret2
            exact ⟨retIB HE.out, hb1⟩
end Go.Proofs.YtjkkkdehmgfmeaaDoor
