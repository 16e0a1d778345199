/-
  The contract of package peristyleref07's PutTexts.
-/
import Derived.Test.YtmhbpijefohopaaPPutT
namespace Go.Proofs.Ytmhbpijefohopaa
open Go.RowKit

set_option maxRecDepth 4000 in
set_option maxHeartbeats 1000000 in
theorem refPutTexts_row (b off c : Nat) (l : List ByteArray) (w : World) (hb : b < w.heap.size)
    (hz : ∀ i t, l[i]? = some t → w.cell? ⟨b, off + i, none⟩ = some (.string t)) (hl : l.length ≤ 1000) :
    Calls Try.prog 14 #[.slice (some ⟨b, off, none⟩) l.length c] w fun e w' => e = .returned (.tuple #[.string (ptA l).1, .int .i64 (ptA l).2]) ∧ Below w.heap.size w w' := by
  obtain ⟨m, hm⟩ : ∃ m, m = l.length := ⟨_, rfl⟩
  rw [← hm]
  have hm9 : (m : Int) ≤ 1000 := by omega
  have HM : Hid (m = l.length) := hm
  clear hm
  go_enter Try.func14, Try.ntmps14
  go_wp2
  go_loopg [4, 5] m (fun g s4 s5 wx => ∃ k : Nat, k + g = m ∧ s5 = .int .i64 k ∧ OwnsB wx w.heap.size s4 (Pl.encT (l.take k)) ∧ Pl.okT (l.take k) ∧ Below w.heap.size w wx)
  case atStart => exact ⟨0, by omega, rfl, ownsB_nil _ _, fun _ h => by simp at h, Below.refl _ _⟩
  case round =>
    obtain ⟨k, hkg, rfl, hown1, hok, hb1⟩ := hrel
    by_cases hk : k < m
    · have hkI : (k : Int) < (m : Int) := by omega
      have hkl : k < l.length := by rw [← HM.out]; exact hk
      obtain ⟨t, ht⟩ : ∃ t, l[k]? = some t := ⟨_, List.getElem?_eq_getElem hkl⟩
      have hcell := (hb1.cell (p := ⟨b, off + k, none⟩) hb).trans (hz k t ht)
      by_cases h32 : (32 : Int) < (t.size : Int)
      · have HP : Hid (ptA l = (ByteArray.empty, 1)) := ptA_no ht (by omega)
        clear ht
        go_wp2
        go_ret2
        exact ⟨by rw [HP.out]; rfl, hb1⟩
      · have h33 : t.size ≤ 32 := by omega
        have h33I : (t.size : Int) ≤ 32 := by omega
        have hl2 := Pl.encT_len (l.take k) hok
        rw [List.length_take] at hl2
        have HS : Hid (Pl.encT (l.take (k + 1)) = Pl.encT (l.take k) ++ Pl.enc1 t) := Pl.encT_snoc l k t ht
        have HO : Hid (Pl.okT (l.take (k + 1))) := okT_snoc ht h33 hok
        have r2 : Hid ((t.size : Int) = ((UInt8.ofNat t.size).toNat : Int)) := len_byte t h33
        obtain ⟨L, hL⟩ : ∃ L, L = Pl.encT (l.take k) := ⟨_, rfl⟩
        rw [← hL] at hown1 hl2 HS
        have hL1 : L.length + 1 ≤ 1000000 := by omega
        have hL2 : (L ++ [UInt8.ofNat t.size]).length + t.size ≤ 1000000 := by rw [List.length_append, List.length_singleton]; omega
        have hsz := hb1.size
        clear hL ht hl2 h32 hok
        go_wp2_with (first
          | (at_builtin; refine append_u8 rfl (.tmp 18) (.tmp 25) rfl rfl rfl r2.out hown1 hsz hL1 ?_; intro v3 w3 hown3 hb3; have hcell3 := (hb3.cell (p := ⟨b, off + k, none⟩) hb).trans hcell)
          | (at_builtin; refine append_str rfl (.tmp 27) (.tmp 31) rfl t rfl rfl hown3 (Nat.le_trans hsz hb3.size) hL2 ?_; intro v4 w4 hown4 hb4))
        go_roundg (m - (k + 1))
        case measure => omega
        case rel =>
          refine ⟨k + 1, by omega, by go_num, ?_, HO.out, (hb1.trans hb3).trans hb4⟩
          rw [HS.out]
          simpa [Pl.enc1] using hown4
    · have hkI : ¬ (k : Int) < (m : Int) := by omega
      have e : l.take k = l := List.take_of_length_le (by rw [← HM.out]; omega)
      rw [e] at hown1 hok
      have hcv := convert_all hown1
      have HP : Hid (ptA l = (Pl.txt (Pl.encT l), 0)) := ptA_ok hok
      clear e hok
      go_wp2
      go_ret2
      exact ⟨by rw [HP.out]; rfl, hb1⟩
set_option maxHeartbeats 400000 in
theorem refPutTexts_none (a : Option Addr) (c : Nat) (w : World) :
    Calls Try.prog 14 #[.slice a 0 c] w fun e w' => e = .returned (.tuple #[.string (ptA []).1, .int .i64 (ptA []).2]) ∧ Below w.heap.size w w' := by
  have hcv := convert_all (ownsB_nil w w.heap.size)
  go_enter Try.func14, Try.ntmps14
  go_wp2
  go_loopg [4, 5] 0 (fun g s4 s5 wx => g = 0 ∧ s4 = .slice none 0 0 ∧ s5 = .int .i64 0 ∧ wx = w)
  case atStart => exact ⟨rfl, rfl, rfl, rfl⟩
  case round =>
    obtain ⟨hg, rfl, rfl, rfl⟩ := hrel
    clear hg
    go_wp2
    go_ret2
    exact ⟨rfl, Below.refl _ _⟩
theorem refPutTexts_any (v : Value) (l : List ByteArray) (w : World) (hl : l.length ≤ 1000) (hr : ReadsS w v l) :
    Calls Try.prog 14 #[v] w fun e w' => e = .returned (.tuple #[.string (ptA l).1, .int .i64 (ptA l).2]) ∧ Below w.heap.size w w' := by
  rcases hr with ⟨rfl, a, c, rfl⟩ | ⟨b, off, c, rfl, _, hb, hc⟩
  · exact refPutTexts_none a c w
  · exact refPutTexts_row b off c l w hb hc hl
end Go.Proofs.Ytmhbpijefohopaa
