/-
  What law 7's awake answers: true.
-/
import Derived.Test.YtmhbpijefohopaaPSame
import Derived.Test.YtmhbpijefohopaaPRefPutI
import Derived.Test.YtmhbpijefohopaaPRefTakeI
import Derived.Test.YtmhbpijefohopaaPRefPutT
import Derived.Deep.WholeRow
namespace Go.Proofs.Ytmhbpijefohopaa
open Go.RowKit

theorem reads_new (w : World) (cs : Array Value) (l : List (BitVec 64)) (h : cs.toList = iv l) (hl : l ≠ []) : ReadsI (w.alloc (.cells cs 3)) (.slice (some ⟨w.heap.size, 0, none⟩) l.length l.length) l := by
  refine .inr ⟨w.heap.size, 0, l.length, rfl, hl, by simp, fun i hi => ?_⟩
  rw [cell_of_row _ _ _ cs 3 _ (heap_alloc_last w _), ← Array.getElem?_toList, h]
  simp [iv, hi]
theorem readsS_new (w : World) (cs : Array Value) (l : List ByteArray) (h : cs.toList = sv l) (hl : l ≠ []) : ReadsS (w.alloc (.cells cs 9)) (.slice (some ⟨w.heap.size, 0, none⟩) l.length l.length) l := by
  refine .inr ⟨w.heap.size, 0, l.length, rfl, hl, by simp, fun i t hi => ?_⟩
  rw [cell_of_row _ _ _ cs 9 _ (heap_alloc_last w _), ← Array.getElem?_toList, h]
  simp [sv, hi]
theorem takeInts_enc (l : List (BitVec 64)) (hl : l.length ≤ 1000) (w : World) :
    Calls Try.prog 8 #[.string (Pl.txt (Pl.encI l)), .int .i64 (l.length : Int)] w fun e w' => (∃ v, e = .returned (.tuple #[v, .int .i64 0]) ∧ OwnsI w' w.heap.size v l) ∧ Below w.heap.size w w' := by
  have hn : (BitVec.ofNat 64 l.length).toInt = (l.length : Int) := Wd.toInt_of_small _ (by omega)
  have hsz : (Pl.txt (Pl.encI l)).size ≤ 100000 := by rw [Pl.txt_size, Pl.encI_len]; omega
  have h := takeInts_any (Pl.txt (Pl.encI l)) hsz (BitVec.ofNat 64 l.length) w
  rw [hn, Pl.txt_list] at h
  refine h.mono ?_
  rintro e w' ⟨⟨v, rfl, hown⟩, hb⟩
  have ht : tiA (Pl.encI l) (l.length : Int) = (l, 0) := by rw [tiA_ok (Pl.encI_len l), Pl.dec_enc]
  rw [ht] at hown ⊢
  exact ⟨⟨v, rfl, hown⟩, hb⟩
theorem takeTexts_enc (l : List ByteArray) (hl : l.length ≤ 1000) (ho : Pl.okT l) (w : World) :
    Calls Try.prog 15 #[.string (Pl.txt (Pl.encT l)), .int .i64 (l.length : Int)] w fun e w' => (∃ v, e = .returned (.tuple #[v, .int .i64 0]) ∧ OwnsS w' w.heap.size v l) ∧ Below w.heap.size w w' := by
  have hn : (BitVec.ofNat 64 l.length).toInt = (l.length : Int) := Wd.toInt_of_small _ (by omega)
  have hel := Pl.encT_len l ho
  have hsz : (Pl.txt (Pl.encT l)).size ≤ 100000 := by rw [Pl.txt_size]; omega
  have h := takeTexts_any (Pl.txt (Pl.encT l)) hsz (BitVec.ofNat 64 l.length) w
  rw [hn, Pl.txt_list] at h
  refine h.mono ?_
  rintro e w' ⟨⟨v, rfl, hown⟩, hb⟩
  have ht : ttA (Pl.encT l) (l.length : Int) = (l, 0) := ttA_ok (Pl.tt_enc l ho)
  rw [ht] at hown ⊢
  exact ⟨⟨v, rfl, hown⟩, hb⟩

theorem pt_awake : ptA [⟨#[97, 98]⟩, ⟨#[]⟩] = (⟨#[2, 97, 98, 0]⟩, 0) := by
  rw [ptA_ok]
  · rfl
  · intro t ht
    simp at ht
    rcases ht with rfl | rfl <;> decide
theorem puts_awake (w : World) : Calls Try.prog 7 #[.slice (some ⟨w.heap.size, 0, none⟩) 2 2] (w.alloc (.cells #[.int .i64 258, .int .i64 (-1)] 3)) fun e w' => e = .returned (.string (Pl.txt (Pl.encI [258#64, -1#64]))) ∧ Below (w.heap.size + 1) (w.alloc (.cells #[.int .i64 258, .int .i64 (-1)] 3)) w' := by
  have h := putInts_any _ [258#64, -1#64] _ (by simp) (reads_new w #[.int .i64 258, .int .i64 (-1)] [258#64, -1#64] rfl (by simp))
  simpa using h
theorem takes_awake (w : World) : Calls Try.prog 8 #[.string (Pl.txt (Pl.encI [258#64, -1#64])), .int .i64 2] w fun e w' => (∃ v, e = .returned (.tuple #[v, .int .i64 0]) ∧ OwnsI w' w.heap.size v [258#64, -1#64]) ∧ Below w.heap.size w w' := takeInts_enc [258#64, -1#64] (by simp) w
theorem texts_awake (w : World) : Calls Try.prog 13 #[.slice (some ⟨w.heap.size, 0, none⟩) 2 2] (w.alloc (.cells #[.string ⟨#[97, 98]⟩, .string ⟨#[]⟩] 9)) fun e w' => e = .returned (.tuple #[.string ⟨#[2, 97, 98, 0]⟩, .int .i64 0]) ∧ Below (w.heap.size + 1) (w.alloc (.cells #[.string ⟨#[97, 98]⟩, .string ⟨#[]⟩] 9)) w' := by
  have h := putTexts_any _ [⟨#[97, 98]⟩, ⟨#[]⟩] _ (by simp) (readsS_new w #[.string ⟨#[97, 98]⟩, .string ⟨#[]⟩] [⟨#[97, 98]⟩, ⟨#[]⟩] rfl (by simp))
  rw [pt_awake] at h
  simpa using h
theorem below_new (w : World) (o : Obj) {w' : World} (h : Below (w.heap.size + 1) (w.alloc o) w') : Below w.heap.size w w' :=
  ((Below.refl _ _).alloc (Nat.le_refl _) _).trans (h.mono (by omega))

set_option maxRecDepth 4000 in
set_option maxHeartbeats 1000000 in
theorem awake_any (w : World) :
    Calls Try.prog 6 #[] w fun e w' => e = .returned (.bool true) ∧ Below w.heap.size w w' := by
  go_enter Try.func6, Try.ntmps6
  go_wp2_with fail
  refine (puts_awake _).mono ?_
  rintro e w1 ⟨rfl, hb1⟩
  replace hb1 := below_new _ _ hb1
  go_wp2_with fail
  refine (takes_awake _).mono ?_
  rintro e w2 ⟨⟨v2, rfl, hown2⟩, hb2⟩
  replace hb1 := hb1.trans (hb2.mono hb1.size)
  clear hb2
  go_wp2_with fail
  refine (texts_awake _).mono ?_
  rintro e w3 ⟨rfl, hb3⟩
  replace hb3 := below_new _ _ hb3
  replace hown2 := (OwnsI.below hown2 hb3).reads
  replace hb1 := hb1.trans (hb3.mono hb1.size)
  clear hb3
  have hsame := same_any (w3.alloc (.cells #[.int .i64 258, .int .i64 (-1)] 3)) v2 _ [258#64, -1#64] (by simp) (hown2.below ((Below.refl _ _).alloc (Nat.le_refl _) _)) (reads_new w3 #[.int .i64 258, .int .i64 (-1)] [258#64, -1#64] rfl (by simp))
  go_wp2_with fail
  refine hsame.mono ?_
  clear hsame
  rintro e w4 ⟨rfl, n4, hw4⟩
  replace hb1 : Below w.heap.size w w4 := by
    rw [hw4]
    have := hb1.alloc hb1.size (.cells #[.int .i64 258, .int .i64 (-1)] 3)
    exact ⟨this.os, this.tape, this.output, this.size, this.block⟩
  clear hw4
  go_wp2
  go_ret
  exact ⟨rfl, hb1⟩
end Go.Proofs.Ytmhbpijefohopaa
