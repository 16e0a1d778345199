/-
  The contract of package plain's PutTexts.
-/
import Derived.Test.YtmhbpijefohopaaPNum
import Derived.Lib.AppendStr
import Derived.Lib.Strings
namespace Go.Proofs.Ytmhbpijefohopaa
open Go.RowKit

/-- 's = append(s, t...)', s the call's own, of bytes, t a text. -/
theorem append_str {ops : Array Oper} {rest : List Oper} {o : Oper} {a : Act} {Q : Exit → Act → World → Prop} (hgd : o.guard = none) (s x : Operand)
    (ho : o.op = .call { callee := .builtin .append, args := #[s, x], argTypes := #[39, 9] })
    {w : World} {B : Nat} {v : Value} {l : List UInt8} (t : ByteArray) (hs : a.eval s = v) (hx : a.eval x = .string t)
    (hown : OwnsB w B v l) (hB : B ≤ w.heap.size) (hl : l.length + t.size ≤ 1000000)
    (h : ∀ v' w', OwnsB w' B v' (l ++ t.data.toList) → Below B w w' → wpList Try.prog ops Q rest (a.put o.dst v') w') :
    wpList Try.prog ops Q (o :: rest) a w := by
  obtain ⟨i0, hi, hz0, hz1, hz2⟩ := info_parts info_u8
  refine Lib.wpList_append_own_string (w := w) hgd s x 39 9 ho B 5 i0 Try.underlying39 Try.underlying9 hi hz0 hz1 hz2 v l.length (bv l) hs hown t hx ?_ ?_ hB ?_
  · simp only [maxLen]; omega
  · omega
  · intro v' w' hown' hgrow _
    refine h v' w' ?_ ?_
    · have hlen : t.size = t.data.toList.length := Lib.size_eq t
      rw [hlen] at hown'
      simpa [OwnsB, bv, Lib.strCells] using hown'
    · exact (Below.refl B w).grown hgrow hB fun k hk => (hown.lt k hk).1

/-- What PutTexts answers. -/
def okB (l : List ByteArray) : Bool := l.all fun t => decide (t.size ≤ 32)
theorem okB_iff (l : List ByteArray) : okB l = true ↔ Pl.okT l := by simp [okB, Pl.okT]
def ptA (l : List ByteArray) : ByteArray × Nat := if okB l then (Pl.txt (Pl.encT l), 0) else (ByteArray.empty, 1)
theorem ptA_ok {l : List ByteArray} (h : Pl.okT l) : ptA l = (Pl.txt (Pl.encT l), 0) := by rw [ptA, if_pos ((okB_iff l).2 h)]
theorem ptA_no {l : List ByteArray} {k : Nat} {t : ByteArray} (h : l[k]? = some t) (ht : 32 < t.size) : ptA l = (ByteArray.empty, 1) := by
  rw [ptA, if_neg]
  intro e
  have := (okB_iff l).1 e t (List.mem_of_getElem? h)
  omega
theorem okT_snoc {l : List ByteArray} {k : Nat} {t : ByteArray} (h : l[k]? = some t) (ht : t.size ≤ 32) (ho : Pl.okT (l.take k)) : Pl.okT (l.take (k + 1)) := by
  obtain ⟨hk, rfl⟩ := List.getElem?_eq_some_iff.1 h
  rw [List.take_succ_eq_append_getElem hk]
  intro x hx
  rw [List.mem_append] at hx
  rcases hx with hx | hx
  · exact ho x hx
  · simp at hx; subst hx; exact ht
theorem len_byte (t : ByteArray) (h : t.size ≤ 32) : (t.size : Int) = ((UInt8.ofNat t.size).toNat : Int) := by simp; omega

set_option maxRecDepth 4000 in
set_option maxHeartbeats 1000000 in
theorem putTexts_row (b off c : Nat) (l : List ByteArray) (w : World) (hb : b < w.heap.size)
    (hz : ∀ i t, l[i]? = some t → w.cell? ⟨b, off + i, none⟩ = some (.string t)) (hl : l.length ≤ 1000) :
    Calls Try.prog 13 #[.slice (some ⟨b, off, none⟩) l.length c] w fun e w' => e = .returned (.tuple #[.string (ptA l).1, .int .i64 (ptA l).2]) ∧ Below w.heap.size w w' := by
  obtain ⟨m, hm⟩ : ∃ m, m = l.length := ⟨_, rfl⟩
  rw [← hm]
  have hm9 : (m : Int) ≤ 1000 := by omega
  have HM : Hid (m = l.length) := hm
  clear hm
  go_enter Try.func13, Try.ntmps13
  go_wp2
  go_loopg [4, 9] m (fun g s4 s9 wx => ∃ k : Nat, k + g = m ∧ s9 = .int .i64 k ∧ OwnsB wx w.heap.size s4 (Pl.encT (l.take k)) ∧ Pl.okT (l.take k) ∧ Below w.heap.size w wx)
  case atStart => exact ⟨0, by omega, rfl, ownsB_nil _ _, fun _ h => by simp at h, Below.refl _ _⟩
  case round =>
    obtain ⟨k, hkg, rfl, hown1, hok, hb1⟩ := hrel
    by_cases hk : k < m
    · have hkI : (k : Int) < (m : Int) := by omega
      have hkl : k < l.length := by rw [← HM.out]; exact hk
      obtain ⟨t, ht⟩ : ∃ t, l[k]? = some t := ⟨_, List.getElem?_eq_getElem hkl⟩
      have hcell := (hb1.cell (p := ⟨b, off + k, none⟩) hb).trans (hz k t ht)
      by_cases h32 : (32 : Int) < (t.size : Int)
      · have HP : Hid (ptA l = (ByteArray.empty, 1)) := ptA_no ht (by omega)
        clear ht
        go_wp2
        go_ret2
        exact ⟨by rw [HP.out]; rfl, hb1⟩
      · have h33 : t.size ≤ 32 := by omega
        have h33I : (t.size : Int) ≤ 32 := by omega
        have hl2 := Pl.encT_len (l.take k) hok
        rw [List.length_take] at hl2
        have HS : Hid (Pl.encT (l.take (k + 1)) = Pl.encT (l.take k) ++ Pl.enc1 t) := Pl.encT_snoc l k t ht
        have HO : Hid (Pl.okT (l.take (k + 1))) := okT_snoc ht h33 hok
        have r2 : Hid ((t.size : Int) = ((UInt8.ofNat t.size).toNat : Int)) := len_byte t h33
        obtain ⟨L, hL⟩ : ∃ L, L = Pl.encT (l.take k) := ⟨_, rfl⟩
        rw [← hL] at hown1 hl2 HS
        have hL1 : L.length + 1 ≤ 1000000 := by omega
        have hL2 : (L ++ [UInt8.ofNat t.size]).length + t.size ≤ 1000000 := by rw [List.length_append, List.length_singleton]; omega
        have hsz := hb1.size
        clear hL ht hl2 h32 hok
        go_wp2_with (first
          | (at_builtin; refine append_u8 rfl (.tmp 16) (.tmp 20) rfl rfl rfl r2.out hown1 hsz hL1 ?_; intro v3 w3 hown3 hb3)
          | (at_builtin; refine append_str rfl (.tmp 22) (.tmp 23) rfl t rfl rfl hown3 (Nat.le_trans hsz hb3.size) hL2 ?_; intro v4 w4 hown4 hb4))
        go_roundg (m - (k + 1))
        case measure => omega
        case rel =>
          refine ⟨k + 1, by omega, by go_num, ?_, HO.out, (hb1.trans hb3).trans hb4⟩
          rw [HS.out]
          simpa [Pl.enc1] using hown4
    · have hkI : ¬ (k : Int) < (m : Int) := by omega
      have e : l.take k = l := List.take_of_length_le (by rw [← HM.out]; omega)
      rw [e] at hown1 hok
      have hcv := convert_all hown1
      have HP : Hid (ptA l = (Pl.txt (Pl.encT l), 0)) := ptA_ok hok
      clear e hok
      go_wp2
      go_ret2
      exact ⟨by rw [HP.out]; rfl, hb1⟩
set_option maxHeartbeats 400000 in
theorem putTexts_none (a : Option Addr) (c : Nat) (w : World) :
    Calls Try.prog 13 #[.slice a 0 c] w fun e w' => e = .returned (.tuple #[.string (ptA []).1, .int .i64 (ptA []).2]) ∧ Below w.heap.size w w' := by
  have hcv := convert_all (ownsB_nil w w.heap.size)
  go_enter Try.func13, Try.ntmps13
  go_wp2
  go_loopg [4, 9] 0 (fun g s4 s9 wx => g = 0 ∧ s4 = .slice none 0 0 ∧ s9 = .int .i64 0 ∧ wx = w)
  case atStart => exact ⟨rfl, rfl, rfl, rfl⟩
  case round =>
    obtain ⟨hg, rfl, rfl, rfl⟩ := hrel
    clear hg
    go_wp2
    go_ret2
    exact ⟨rfl, Below.refl _ _⟩
theorem putTexts_any (v : Value) (l : List ByteArray) (w : World) (hl : l.length ≤ 1000) (hr : ReadsS w v l) :
    Calls Try.prog 13 #[v] w fun e w' => e = .returned (.tuple #[.string (ptA l).1, .int .i64 (ptA l).2]) ∧ Below w.heap.size w w' := by
  rcases hr with ⟨rfl, a, c, rfl⟩ | ⟨b, off, c, rfl, _, hb, hc⟩
  · exact putTexts_none a c w
  · exact putTexts_row b off c l w hb hc hl
end Go.Proofs.Ytmhbpijefohopaa
