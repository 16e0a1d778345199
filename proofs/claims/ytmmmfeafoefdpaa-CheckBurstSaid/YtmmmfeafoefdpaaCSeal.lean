/-
  The contracts of Seal and Open, of package check and of package peristyleref03.
-/
import Derived.Test.YtmmmfeafoefdpaaCTail
import Derived.Lib.Strings
import Derived.WalkSmall
namespace Go.Proofs.Ytmmmfeafoefdpaa
open Go.RowKit

/-- Sealed bytes. -/
def sealL (l : List UInt8) : List UInt8 := l ++ Crc.four (Crc.sum l)
def sealS (s : ByteArray) : ByteArray := s ++ strB (Crc.four (Crc.sum s.data.toList))
theorem sealL_len (l : List UInt8) : (sealL l).length = l.length + 4 := by
  rw [sealL, List.length_append, Crc.four_len]
theorem sealS_list (s : ByteArray) : (sealS s).data.toList = sealL s.data.toList := by
  rw [sealS, ByteArray.toList_data_append, strB_list]; rfl
theorem sealS_size (s : ByteArray) : (sealS s).size = s.size + 4 := by
  rw [sealS, ByteArray.size_append, strB_size, Crc.four_len]
theorem extract_head (s : ByteArray) (k : Nat) : (s.extract 0 k).data.toList = s.data.toList.take k := by
  rw [Lib.extract_data]; simp
theorem extract_rest (s : ByteArray) (u : Nat) : (s.extract u s.size).data.toList = s.data.toList.drop u := by
  rw [Lib.extract_data, List.take_of_length_le]
  simp
theorem toList_data (s : ByteArray) : s.toList = s.data.toList := ByteArray.toList_eq s
theorem extract_head_le (s : ByteArray) (k : Nat) (hs : s.size ≤ maxLen) : (s.extract 0 k).size ≤ maxLen := by
  rw [ByteArray.size_extract]; omega

set_option maxHeartbeats 400000 in
theorem seal_any (s : ByteArray) (hs : s.size ≤ 1000000) (w : World) :
    Calls Try.prog 14 #[.string s] w fun e w' => e = .returned (.string (sealS s)) ∧ Below w.heap.size w w' := by
  have hs0 : s.size ≤ maxLen := by unfold maxLen; omega
  have hsz := strB_size (Crc.four (Crc.sum s.data.toList))
  rw [Crc.four_len] at hsz
  have c := tail_any s hs0
  obtain ⟨T, hT⟩ : ∃ T, T = strB (Crc.four (Crc.sum s.data.toList)) := ⟨_, rfl⟩
  rw [← hT] at c hsz
  have HT : Hid (s ++ T = sealS s) := by show _ = _; rw [hT]; rfl
  clear hT
  go_enter Try.func14, Try.ntmps14
  go_wp2_with (go_at_call 17; refine (c _).mono ?_; rintro e w1 ⟨rfl, hb⟩)
  go_ret
  exact ⟨congrArg (fun x => Ending.returned (.string x)) HT.out, hb⟩

/-- Bytes that are sealed. -/
theorem sealed_cut {l : List UInt8} {e : Nat} (he : e + 4 = l.length) : (∃ t, l = sealL t) ↔ l.drop e = Crc.four (Crc.sum (l.take e)) := by
  constructor
  · rintro ⟨t, rfl⟩
    rw [sealL_len] at he
    have e1 : e = t.length := by omega
    subst e1
    unfold sealL
    simp
  · intro h
    refine ⟨l.take e, ?_⟩
    rw [sealL, ← h, List.take_append_drop]
theorem sealed_is {l t : List UInt8} {e : Nat} (he : e + 4 = l.length) (h : l = sealL t) : l.take e = t ∧ l.drop e = Crc.four (Crc.sum t) := by
  subst h
  rw [sealL_len] at he
  have e1 : e = t.length := by omega
  subst e1
  unfold sealL
  simp

set_option maxRecDepth 4000 in
set_option maxHeartbeats 1000000 in
theorem open_yes (s : ByteArray) (hs : s.size ≤ maxLen) (t : List UInt8) (h : s.data.toList = sealL t) (w : World) :
    Calls Try.prog 13 #[.string s] w fun e w' => e = .returned (.tuple #[.string (strB t), .int .i64 0]) ∧ Below w.heap.size w w' := by
  have hl := congrArg List.length h
  rw [sealL_len] at hl
  have hl2 : s.size = t.length + 4 := by simpa using hl
  obtain ⟨n, hn⟩ : ∃ n, n = t.length := ⟨_, rfl⟩
  have hn2 : s.size = n + 4 := by omega
  have hcut := sealed_is (e := n) (l := s.data.toList) (t := t) (by simpa using hn2.symm) h
  have he : s.extract 0 n = strB t := by
    rw [← strB_of (s.extract 0 n), extract_head, hcut.1]
  have c := tail_any (s.extract 0 n) (extract_head_le s n hs)
  rw [extract_head, hcut.1] at c
  have hq : ((s.extract n s.size).toList == (strB (Crc.four (Crc.sum t))).toList) = true := by
    rw [beq_iff_eq, toList_data, extract_rest, strB_toList, hcut.2]
  obtain ⟨T, hT⟩ : ∃ T, T = strB (Crc.four (Crc.sum t)) := ⟨_, rfl⟩
  rw [← hT] at c hq
  have HE : Hid (s.extract 0 n = strB t) := he
  have hsI : (s.size : Int) = (n : Int) + 4 := by omega
  have hsm : (n : Int) + 4 ≤ 9223372036854775807 := by unfold maxLen at hs; omega
  have r1 : wrap64 ((n : Int) + 4 - 4) = (n : Int) := by unfold wrap64; omega
  have hg : decide ((n : Int) < 0) = false := by simp
  have hbd : 0 ≤ (n : Int) ∧ (n : Int) ≤ (s.size : Int) := by omega
  clear hT he hcut h hl hl2 hn hn2
  go_enter Try.func13, Try.ntmps13
  go_wp2_with fail
  refine wp_region_above (by kernel_rfl) (by kernel_rfl) ?_
  intro hne
  repeat (go_big_quiet_step ((go_at_call 17; exact above_of (c _))))
  refine wpQuiet_nil ?_
  rintro _ ⟨kq, rfl⟩
  have hbq := kq.is
  go_wp2
  go_ret2
  exact ⟨congrArg (fun x => Ending.returned (.tuple #[.string x, .int .i64 0])) HE.out, hbq⟩

set_option maxRecDepth 4000 in
set_option maxHeartbeats 1000000 in
theorem open_no (s : ByteArray) (hs : s.size ≤ maxLen) (h : ¬ ∃ t, s.data.toList = sealL t) (w : World) :
    Calls Try.prog 13 #[.string s] w fun e w' => e = .returned (.tuple #[.string { data := #[] }, .int .i64 5]) ∧ Below w.heap.size w w' := by
  by_cases h4 : s.size < 4
  · have r1 : wrap64 ((s.size : Int) - 4) = (s.size : Int) - 4 := by unfold wrap64; omega
    have hg : decide ((s.size : Int) - 4 < 0) = true := by simp; omega
    clear h
    go_enter Try.func13, Try.ntmps13
    go_wp2_with fail
    refine wp_region_above (by kernel_rfl) (by kernel_rfl) ?_
    intro hne
    repeat (go_big_quiet_step (fail))
    refine wpQuiet_nil ?_
    rintro _ ⟨kq, rfl⟩
    have hbq := kq.is
    go_wp2
    go_ret2
    exact ⟨rfl, hbq⟩
  · obtain ⟨n, hn⟩ : ∃ n, s.size = n + 4 := ⟨s.size - 4, by omega⟩
    rw [sealed_cut (e := n) (by simpa using hn.symm)] at h
    have c := tail_any (s.extract 0 n) (extract_head_le s n hs)
    rw [extract_head] at c
    have hq : ((s.extract n s.size).toList == (strB (Crc.four (Crc.sum (s.data.toList.take n)))).toList) = false := by
      rw [beq_eq_false_iff_ne, toList_data, extract_rest, strB_toList]; exact h
    obtain ⟨T, hT⟩ : ∃ T, T = strB (Crc.four (Crc.sum (s.data.toList.take n))) := ⟨_, rfl⟩
    rw [← hT] at c hq
    have hsI : (s.size : Int) = (n : Int) + 4 := by omega
    have hsm : (n : Int) + 4 ≤ 9223372036854775807 := by unfold maxLen at hs; omega
    have r1 : wrap64 ((n : Int) + 4 - 4) = (n : Int) := by unfold wrap64; omega
    have hg : decide ((n : Int) < 0) = false := by simp
    have hbd : 0 ≤ (n : Int) ∧ (n : Int) ≤ (s.size : Int) := by omega
    clear hT h hn
    go_enter Try.func13, Try.ntmps13
    go_wp2_with fail
    refine wp_region_above (by kernel_rfl) (by kernel_rfl) ?_
    intro hne
    repeat (go_big_quiet_step ((go_at_call 17; exact above_of (c _))))
    refine wpQuiet_nil ?_
    rintro _ ⟨kq, rfl⟩
    have hbq := kq.is
    go_wp2
    go_ret2
    exact ⟨rfl, hbq⟩
end Go.Proofs.Ytmmmfeafoefdpaa
