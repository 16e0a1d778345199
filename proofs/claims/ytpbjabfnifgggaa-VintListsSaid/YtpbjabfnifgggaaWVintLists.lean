/-
  The walk of law 2's VintLists: any numbers as bytes, and the numbers of any bytes, or why there are none.
-/
import Derived.Test.YtpbjabfnifgggaaVAwake
import Derived.Test.YtpbjabfnifgggaaVRefPutAll
import Derived.Test.YtpbjabfnifgggaaVRefTakeAll
import Derived.Test.YtpbjabfnifgggaaVRow
namespace Go.Proofs.Ytpbjabfnifgggaa
open Go.RowKit Leb

theorem tkN_len : ∀ (c : Nat) {s : List UInt8} {p : List (BitVec 64) × Nat}, tkN c s = some p → p.1.length = c := by
  intro c
  induction c with
  | zero => intro s p h; simp [tkN] at h; rw [← h]; rfl
  | succ c ih =>
    intro s p h
    simp only [tkN] at h
    split at h
    · obtain ⟨q, hq, rfl⟩ := Option.map_eq_some_iff.1 h
      simp [ih hq]
    · cases h
theorem ta_len (s : List UInt8) : (ta s).1.length ≤ 65536 := by
  unfold ta
  split
  · split
    · simp
    · split
      · simp
      · split
        · rename_i p hp
          obtain ⟨q, hq, rfl⟩ := Option.map_eq_some_iff.1 hp
          have := tkN_len _ hq
          simp only [List.nil_append]
          omega
        · simp
  · simp
theorem takeAll_enc (l : List (BitVec 64)) (hl : l.length ≤ 1000) (s : ByteArray) (hs : s.size ≤ 1000) (w : World) :
    Calls Try.prog 14 #[.string (str (encAll l) ++ s)] w fun e w' => (∃ v, e = .returned (.tuple #[v, .int .i64 (str (encAll l)).size, .int .i64 0]) ∧ OwnsI w' w.heap.size v l) ∧ Below w.heap.size w w' := by
  have hel := encAll_len l
  have hsz : (str (encAll l) ++ s).size ≤ 1000000 := by rw [ByteArray.size_append, str_size]; omega
  refine (takeAll_any _ hsz w).mono ?_
  rintro e w' ⟨⟨v, rfl, hown⟩, hb⟩
  have ht : ta (str (encAll l) ++ s).data.toList = (l, (encAll l).length, 0) := by
    rw [ByteArray.toList_data_append, str_list]
    exact ta_enc l (by omega) _
  rw [ht] at hown ⊢
  exact ⟨⟨v, rfl, hown⟩, hb⟩

set_option maxRecDepth 4000 in
set_option maxHeartbeats 2000000 in
theorem walkVintLists (a0 : Option Addr) (len0 cap0 : Nat) (z0 : List Int) (w : World) (w0 : IsRow .i64 w a0 len0 cap0 z0) (s : ByteArray) (_ : s.size ≤ maxLen) :
    Calls Try.prog 6 #[.slice a0 len0 cap0, .string s] w fun e w' => e = .returned (.bool true) ∧ Below w.heap.size w w' := by
  by_cases h100 : (100 : Int) < (len0 : Int)
  · go_enter Try.func6, Try.ntmps6
    go_wp2_with (go_at_call 7; refine (awake_any _).mono ?_; rintro e w2 ⟨rfl, hb2⟩)
    go_ret
    exact ⟨rfl, hb2⟩
  · by_cases h512 : (512 : Int) < (s.size : Int)
    · go_enter Try.func6, Try.ntmps6
      go_wp2_with (go_at_call 7; refine (awake_any _).mono ?_; rintro e w2 ⟨rfl, hb2⟩)
      go_ret
      exact ⟨rfl, hb2⟩
    · obtain ⟨l, hll, hr⟩ := reads_of_row w0
      have hl : l.length ≤ 100 := by omega
      have hs : s.size ≤ 512 := by omega
      obtain ⟨v0, hv0⟩ : ∃ v0, v0 = Value.slice a0 len0 cap0 := ⟨_, rfl⟩
      obtain ⟨T, hT⟩ : ∃ T, T = str (encAll l) := ⟨_, rfl⟩
      have hTs : T.size ≤ 1010 := by rw [hT, str_size]; have := encAll_len l; omega
      have c1 : ∀ w1, Below w.heap.size w w1 → Calls Try.prog 13 #[.slice a0 len0 cap0] w1 fun e w' => e = .returned (.string T) ∧ Below w1.heap.size w1 w' := fun w1 hb => hT ▸ putAll_any _ l w1 (by omega) (hr.below hb)
      have c2 : ∀ w1, Below w.heap.size w w1 → Calls Try.prog 15 #[.slice a0 len0 cap0] w1 fun e w' => e = .returned (.string T) ∧ Below w1.heap.size w1 w' := fun w1 hb => hT ▸ refPutAll_any _ l w1 (by omega) (hr.below hb)
      have c3 : ∀ w1, Calls Try.prog 14 #[.string (T ++ s)] w1 fun e w' => (∃ v, e = .returned (.tuple #[v, .int .i64 T.size, .int .i64 0]) ∧ OwnsI w' w1.heap.size v l) ∧ Below w1.heap.size w1 w' := fun w1 => hT ▸ takeAll_enc l (by omega) s (by omega) w1
      have c4 := takeAll_any s (by omega)
      have c5 := refTakeAll_any s (by omega)
      have hta := ta_len s.data.toList
      have HR : Hid (ReadsI w (.slice a0 len0 cap0) l) := hr
      have HL : Hid (l.length ≤ 1000000 ∧ (ta s.data.toList).1.length ≤ 1000000) := ⟨by omega, by omega⟩
      clear hT hv0 hll hr hta hl w0
      go_enter Try.func6, Try.ntmps6
      go_wp2_with fail
      refine (c1 _ (Below.refl _ _)).mono ?_
      rintro e w1 ⟨rfl, hb1⟩
      go_wp2_with fail
      refine (c3 _).mono ?_
      rintro e w2 ⟨⟨v2, rfl, hown2⟩, hb2⟩
      have hbb := hb1.trans (hb2.mono hb1.size)
      clear hb1 hb2
      go_wp2_with fail
      refine (c2 _ hbb).mono ?_
      rintro e w3 ⟨rfl, hb3⟩
      have hr2 := (hown2.reads).below hb3
      replace hbb := hbb.trans (hb3.mono hbb.size)
      clear hb3 hown2 c1 c2 c3
      have hsame := same_any _ _ _ l HL.out.1 hr2 (HR.out.below hbb)
      clear hr2
      go_wp2_with fail
      refine hsame.mono ?_
      clear hsame
      rintro e w4 ⟨rfl, n4, hw4⟩
      replace hbb : Below w.heap.size w w4 := by rw [hw4]; exact ⟨hbb.os, hbb.tape, hbb.output, hbb.size, hbb.block⟩
      clear hw4
      go_wp2_with fail
      refine (c4 _).mono ?_
      rintro e w5 ⟨⟨v5, rfl, hown5⟩, hb5⟩
      replace hbb := hbb.trans (hb5.mono hbb.size)
      clear hb5
      go_wp2_with fail
      refine (c5 _).mono ?_
      rintro e w6 ⟨⟨v6, rfl, hown6⟩, hb6⟩
      replace hbb := hbb.trans (hb6.mono hbb.size)
      have hsame := same_any _ _ _ _ HL.out.2 (hown5.reads.below hb6) hown6.reads
      clear hb6 hown5 hown6 c4 c5
      obtain ⟨i, hi⟩ : ∃ i, i = (ta s.data.toList).2.1 := ⟨_, rfl⟩
      obtain ⟨f, hf⟩ : ∃ f, f = (ta s.data.toList).2.2 := ⟨_, rfl⟩
      rw [← hi, ← hf]
      clear hi hf
      go_wp2_with fail
      refine hsame.mono ?_
      clear hsame
      rintro e w7 ⟨rfl, n7, hw7⟩
      replace hbb : Below w.heap.size w w7 := by rw [hw7]; exact ⟨hbb.os, hbb.tape, hbb.output, hbb.size, hbb.block⟩
      clear hw7
      go_wp2_with (go_at_call 7; refine (awake_any _).mono ?_; rintro e w8 ⟨rfl, hb8⟩)
      go_ret
      exact ⟨rfl, hbb.trans (hb8.mono hbb.size)⟩
end Go.Proofs.Ytpbjabfnifgggaa
