/-
  The walk of law 2's VintApart: no two numbers have bytes of which the one begins with the other; a number nearer to 0 has not more.
-/
import Derived.Test.YtpbjabfnifgggaaVAwake
import Derived.Test.YtpbjabfnifgggaaZigEq
import Derived.Lib.Strings
namespace Go.Proofs.Ytpbjabfnifgggaa
open Go.RowKit Leb

theorem zig_val_pos (x : BitVec 64) (h : 0 ≤ x.toInt) : ((zigW x).toNat : Int) = 2 * x.toInt := by
  have hm : x.msb = false := by
    cases e : x.msb
    · rfl
    · exact absurd ((Wd.neg_iff x).2 e) (by omega)
  have hlt := BitVec.toInt_lt (x := x)
  rw [zigW, if_neg (by simp [hm]), BitVec.toNat_shiftLeft, Nat.shiftLeft_eq]
  rw [BitVec.toInt_eq_toNat_bmod, Int.bmod_def] at h hlt ⊢
  have := x.isLt
  omega
theorem zig_val_neg (x : BitVec 64) (h : x.toInt < 0) : ((zigW x).toNat : Int) = -2 * x.toInt - 1 := by
  have hm : x.msb = true := (Wd.neg_iff x).1 h
  have hle := BitVec.le_toInt (x := x)
  rw [zigW, if_pos hm, BitVec.toNat_not, BitVec.toNat_shiftLeft, Nat.shiftLeft_eq]
  rw [BitVec.toInt_eq_toNat_bmod, Int.bmod_def] at h hle ⊢
  have := x.isLt
  omega
theorem near_len (x y : BitVec 64) (h : 0 ≤ x.toInt ∧ x.toInt ≤ y.toInt ∨ x.toInt < 0 ∧ y.toInt ≤ x.toInt) : (lenW (zigW x) : Int) ≤ lenW (zigW y) := by
  have : (leb (zigW x).toNat).length ≤ (leb (zigW y).toNat).length := by
    apply leb_len_mono
    rcases h with ⟨h1, h2⟩ | ⟨h1, h2⟩
    · have a := zig_val_pos x h1
      have b := zig_val_pos y (by omega)
      omega
    · have a := zig_val_neg x h1
      have b := zig_val_neg y (by omega)
      omega
  simpa [lenW] using this
theorem zig_inj {x y : BitVec 64} (h : zigW x = zigW y) : x = y := by rw [← zag_zig x, h, zag_zig]
theorem enc1_inj {x y : BitVec 64} (h : enc1 x <+: enc1 y) : x = y :=
  zig_inj (BitVec.eq_of_toNat_eq (leb_prefix h (List.prefix_refl _)))
theorem str_inj {a b : List UInt8} (h : str a = str b) : a = b := by
  have := congrArg (fun s => s.data.toList) h
  simpa [str] using this
theorem str_extract (l : List UInt8) (k : Nat) : (str l).extract 0 k = str (l.take k) := by
  apply ByteArray.ext
  simp [str, ByteArray.data_extract]

theorem begins_eq (x y : BitVec 64) : (((str (enc1 y)).extract 0 (str (enc1 x)).size).toList == (str (enc1 x)).toList) = (x.toInt == y.toInt) := by
  rw [str_extract, str_size, toList_str, toList_str, Wd.i64_beq, Bool.eq_iff_iff, beq_iff_eq, beq_iff_eq]
  constructor
  · intro h
    apply enc1_inj
    rw [← h]
    exact List.take_prefix _ _
  · rintro rfl
    exact List.take_length
theorem beq_comm' (x y : Int) : (x == y) = (y == x) := by rw [Bool.eq_iff_iff, beq_iff_eq, beq_iff_eq]; exact eq_comm
theorem near_cases (x y : Int) : (0 ≤ x ∧ x ≤ y) ∨ (x < 0 ∧ y ≤ x) ∨ (0 ≤ x ∧ y < x) ∨ (x < 0 ∧ x < y) := by omega

set_option maxRecDepth 4000 in
set_option maxHeartbeats 1000000 in
theorem walkVintApart (a0 : Int) (w0 : (Lit.int .i64 a0).wf = true) (a1 : Int) (w1 : (Lit.int .i64 a1).wf = true) (w : World) :
    Calls Try.prog 5 #[.int .i64 a0, .int .i64 a1] w fun e w' => e = .returned (.bool true) ∧ Below w.heap.size w w' := by
  obtain ⟨x, rfl⟩ := Wd.word_of a0 w0
  obtain ⟨y, rfl⟩ := Wd.word_of a1 w1
  obtain ⟨S, hS⟩ : ∃ S, S = str (enc1 x) := ⟨_, rfl⟩
  obtain ⟨T, hT⟩ : ∃ T, T = str (enc1 y) := ⟨_, rfl⟩
  have cx : ∀ w, Calls Try.prog 8 #[.int .i64 x.toInt] w fun e w' => e = .returned (.string S) ∧ Below w.heap.size w w' := fun w => hS ▸ put_any x w
  have cy : ∀ w, Calls Try.prog 8 #[.int .i64 y.toInt] w fun e w' => e = .returned (.string T) ∧ Below w.heap.size w w' := fun w => hT ▸ put_any y w
  have hs1 : 1 ≤ S.size ∧ S.size ≤ 10 := by rw [hS]; exact lenW_bd (zigW x)
  have ht1 : 1 ≤ T.size ∧ T.size ≤ 10 := by rw [hT]; exact lenW_bd (zigW y)
  obtain ⟨hs1, hs2⟩ := hs1
  obtain ⟨ht1, ht2⟩ := ht1
  have HN : Hid (0 ≤ x.toInt ∧ x.toInt ≤ y.toInt ∨ x.toInt < 0 ∧ y.toInt ≤ x.toInt → (lenW (zigW x) : Int) ≤ lenW (zigW y)) := near_len x y
  have hs0 : ((S.size : Int) == 0) = false := by rw [beq_eq_false_iff_ne]; omega
  have ht0 : ((T.size : Int) == 0) = false := by rw [beq_eq_false_iff_ne]; omega
  have hacc := Below.refl w.heap.size w
  by_cases hle : S.size ≤ T.size
  case' pos =>
    have hlt : ¬ T.size < S.size := by omega
    have hq : ((T.extract 0 S.size).toList == S.toList) = (x.toInt == y.toInt) := by rw [hS, hT]; exact begins_eq x y
  case' neg =>
    have hlt : T.size < S.size := by omega
    have hlt2 : ¬ S.size < T.size := by omega
    have hq : ((S.extract 0 T.size).toList == T.toList) = (x.toInt == y.toInt) := by rw [hS, hT, beq_comm']; exact begins_eq y x
  all_goals
    clear hS hT
    rcases near_cases x.toInt y.toInt with ⟨h1, h2⟩ | ⟨h1, h2⟩ | ⟨h1, h2⟩ | ⟨h1, h2⟩
    case' inl => have hn := HN.out (.inl ⟨h1, h2⟩)
    case' inr.inl => have hn := HN.out (.inr ⟨h1, h2⟩)
    all_goals
      go_enter Try.func5, Try.ntmps5
      go_wp2_with (first
        | (go_at_call 8; (first | refine (cx _).mono ?_ | refine (cy _).mono ?_); rintro e w2 ⟨rfl, hb2⟩; replace hacc := hacc.trans (hb2.mono hacc.size); clear hb2)
        | (go_at_call 11; refine (len_any _ _).mono ?_; rintro e w2 ⟨rfl, rfl⟩)
        | (go_at_call 7; refine (awake_any _).mono ?_; rintro e w2 ⟨rfl, hb2⟩; replace hacc := hacc.trans (hb2.mono hacc.size); clear hb2))
      go_ret
      exact ⟨rfl, hacc⟩
end Go.Proofs.Ytpbjabfnifgggaa
