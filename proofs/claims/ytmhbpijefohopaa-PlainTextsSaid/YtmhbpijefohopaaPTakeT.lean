/-
  The contract of package plain's TakeTexts.
-/
import Derived.Test.YtmhbpijefohopaaPPutT
import Derived.Test.YtmhbpijefohopaaPTakeI
namespace Go.Proofs.Ytmhbpijefohopaa
open Go.RowKit

/-- What TakeTexts answers. -/
def ttA (s : List UInt8) (n : Int) : List ByteArray × Nat := if n < 0 then ([], 20) else match Pl.tt n.toNat s with | some l => (l, 0) | none => ([], 20)
theorem ttA_neg {s : List UInt8} {n : Int} (h : n < 0) : ttA s n = ([], 20) := by rw [ttA, if_pos h]
theorem ttA_many {s : List UInt8} {n : Int} (h : (s.length : Int) < n) : ttA s n = ([], 20) := by
  rw [ttA, if_neg (by omega), Pl.tt_many _ _ (by omega)]
theorem ttA_no {s : List UInt8} {m : Nat} (h : Pl.tt m s = none) : ttA s (m : Int) = ([], 20) := by
  rw [ttA, if_neg (by omega), Int.toNat_natCast, h]
theorem ttA_ok {s : List UInt8} {m : Nat} {l : List ByteArray} (h : Pl.tt m s = some l) : ttA s (m : Int) = (l, 0) := by
  rw [ttA, if_neg (by omega), Int.toNat_natCast, h]
/-- What TakeTexts' end is. -/
def TookT (s : List UInt8) (n : Int) (w : World) (e : Ending) (w' : World) : Prop :=
  (∃ v, e = .returned (.tuple #[v, .int .i64 (ttA s n).2]) ∧ OwnsS w' w.heap.size v (ttA s n).1) ∧ Below w.heap.size w w'
theorem tookT_no {s : List UInt8} {n : Int} {w w' : World} (h : ttA s n = ([], 20)) (hb : Below w.heap.size w w') : TookT s n w (.returned (.tuple #[.slice none 0 0, .int .i64 20])) w' := by
  refine ⟨⟨.slice none 0 0, ?_, ?_⟩, hb⟩
  · rw [h]; rfl
  · rw [h]; exact ownsS_nil _ _
theorem tookT_yes {s : List UInt8} {n : Int} {w w' : World} {v : Value} {d : List ByteArray} (h : ttA s n = (d, 0)) (hv : OwnsS w' w.heap.size v d) (hb : Below w.heap.size w w') : TookT s n w (.returned (.tuple #[v, .int .i64 0])) w' := by
  refine ⟨⟨v, ?_, ?_⟩, hb⟩
  · rw [h]; rfl
  · rw [h]; exact hv
theorem ba_at (s : ByteArray) (u : Nat) (_ : u < s.size) (h2 : u < s.data.toList.length) : s.data.toList[u]'h2 = s[u] := by simp; rfl
theorem ext_txt (s : ByteArray) (u b : Nat) : s.extract u (u + b) = Pl.txt ((s.data.toList.drop u).take b) := by
  have := Lib.extract_data s u (u + b)
  rw [show u + b - u = b by omega] at this
  rw [← this, Pl.txt_of]
/-- The text that the bytes from u on begin with. -/
theorem first_yes (s : ByteArray) (u : Nat) (hs : s.size ≤ 100000) (hu : u < s.size) (h : s[u].toNat ≤ 32 ∧ u + 1 + s[u].toNat ≤ s.size) (w : World) :
    Calls Try.prog 19 #[.string (s.extract u s.size)] w fun e w' => e = .returned (.tuple #[.string (Pl.txt ((s.data.toList.drop (u + 1)).take s[u].toNat)), .int .i64 ((1 + s[u].toNat : Nat) : Int)]) ∧ w' = w := by
  have hsz : (s.extract u s.size).size = s.size - u := by rw [ByteArray.size_extract]; omega
  have h0 : 0 < (s.extract u s.size).size := by omega
  have e0 : (s.extract u s.size)[0]'h0 = s[u] := by
    have := ba_at (s.extract u s.size) 0 h0 (by simpa using h0)
    rw [← this]
    simp only [extract_end]
    simp
    rfl
  have e1 : fstA (s.extract u s.size) = (Pl.txt ((s.data.toList.drop (u + 1)).take s[u].toNat), 1 + s[u].toNat) := by
    rw [fstA, dif_pos h0, e0, if_pos ⟨h.1, by omega⟩, ext_txt, extract_end, List.drop_drop]
  have := first_any (s.extract u s.size) (by omega) w
  rw [e1] at this
  exact this
theorem first_no (s : ByteArray) (u : Nat) (hs : s.size ≤ 100000) (hu : u < s.size) (h : ¬ (s[u].toNat ≤ 32 ∧ u + 1 + s[u].toNat ≤ s.size)) (w : World) :
    Calls Try.prog 19 #[.string (s.extract u s.size)] w fun e w' => e = .returned (.tuple #[.string ByteArray.empty, .int .i64 0]) ∧ w' = w := by
  have hsz : (s.extract u s.size).size = s.size - u := by rw [ByteArray.size_extract]; omega
  have h0 : 0 < (s.extract u s.size).size := by omega
  have e0 : (s.extract u s.size)[0]'h0 = s[u] := by
    have := ba_at (s.extract u s.size) 0 h0 (by simpa using h0)
    rw [← this]
    simp only [extract_end]
    simp
    rfl
  have e1 : fstA (s.extract u s.size) = (ByteArray.empty, 0) := by
    rw [fstA, dif_pos h0, e0, if_neg (by omega)]
  have := first_any (s.extract u s.size) (by omega) w
  rw [e1] at this
  exact this
theorem first_nil (s : ByteArray) (u : Nat) (hu : s.size ≤ u) (w : World) :
    Calls Try.prog 19 #[.string (s.extract u s.size)] w fun e w' => e = .returned (.tuple #[.string ByteArray.empty, .int .i64 0]) ∧ w' = w := by
  have hsz : (s.extract u s.size).size = 0 := by rw [ByteArray.size_extract]; omega
  have e1 : fstA (s.extract u s.size) = (ByteArray.empty, 0) := by rw [fstA, dif_neg (by omega)]
  have := first_any (s.extract u s.size) (by omega) w
  rw [e1] at this
  exact this

set_option maxRecDepth 4000 in
set_option maxHeartbeats 2000000 in
theorem takeTexts_any (s : ByteArray) (hs : s.size ≤ 100000) (n : BitVec 64) (w : World) :
    Calls Try.prog 15 #[.string s, .int .i64 n.toInt] w (TookT s.data.toList n.toInt w) := by
  have hsl : s.data.toList.length = s.size := by simp
  have hsI : (s.size : Int) ≤ 100000 := by omega
  obtain ⟨z, hz⟩ : ∃ z, z = n.toInt := ⟨_, rfl⟩
  rw [← hz]
  clear hz
  by_cases h0 : z < 0
  · have HT : Hid (ttA s.data.toList z = ([], 20)) := ttA_neg h0
    clear hsl
    go_enter Try.func15, Try.ntmps15
    go_wp2
    go_ret2
    exact tookT_no HT.out (Below.refl _ _)
  · by_cases h1 : (s.size : Int) < z
    · have HT : Hid (ttA s.data.toList z = ([], 20)) := ttA_many (by omega)
      have h2 : 0 ≤ z := by omega
      clear hsl
      go_enter Try.func15, Try.ntmps15
      go_wp2
      go_ret2
      exact tookT_no HT.out (Below.refl _ _)
    · obtain ⟨m, rfl⟩ : ∃ m : Nat, z = (m : Int) := ⟨z.toNat, by omega⟩
      have hms : m ≤ s.size := by omega
      have hmI : (m : Int) ≤ (s.size : Int) := by omega
      have hmN : m ≤ 1000000 := by omega
      have hq1 : decide ((m : Int) < 0) = false := by rw [decide_eq_false_iff_not]; omega
      have hq2 : decide (s.size < m) = false := by rw [decide_eq_false_iff_not]; omega
      have HL : Hid (s.data.toList.length = s.size) := hsl
      clear h0 h1 hsl
      go_enter Try.func15, Try.ntmps15
      go_wp2_with (at_make; refine make_strs rfl _ _ rfl rfl rfl rfl hmN (Nat.le_refl _) ?_; intro w2 hown2 hb2)
      go_loopg [7, 22] m (fun g s7 s22 wx => ∃ (k u : Nat) (d : List ByteArray), k + g = m ∧ s22 = .int .i64 k ∧ s7 = .int .i64 u ∧ u ≤ s.size ∧ d.length = k ∧ Pl.tt m s.data.toList = Pl.tF g s.data.toList d u ∧ OwnsS wx w.heap.size (.slice (some ⟨w.heap.size, 0, none⟩) m m) (d ++ List.replicate g ByteArray.empty) ∧ Below w.heap.size w wx)
      case atStart => exact ⟨0, 0, [], by omega, rfl, rfl, by omega, rfl, (Pl.tF_start _ _).symm, by simpa using hown2, hb2⟩
      case round =>
        obtain ⟨k, u, d, hkg, rfl, rfl, hu, hd, hf, hown, hb⟩ := hrel
        have HF : Hid (Pl.tt m s.data.toList = Pl.tF gk s.data.toList d u) := hf
        have HD : Hid (d.length = k) := hd
        have huI : (u : Int) ≤ (s.size : Int) := by omega
        clear hf hd hown2 hb2
        cases gk with
        | zero =>
          have hkI : ¬ (k : Int) < (m : Int) := by omega
          rw [List.replicate_zero, List.append_nil] at hown
          by_cases hus : (u : Int) < (s.size : Int)
          · have HT : Hid (ttA s.data.toList (m : Int) = ([], 20)) := ttA_no (by rw [HF.out, Pl.tF_more (by rw [HL.out]; omega)])
            go_wp2
            go_ret2
            exact tookT_no HT.out hb
          · have HT : Hid (ttA s.data.toList (m : Int) = (d, 0)) := ttA_ok (by rw [HF.out, Pl.tF_end (by rw [HL.out]; omega)])
            go_wp2
            go_ret2
            exact tookT_yes HT.out hown hb
        | succ g =>
          have hkI : (k : Int) < (m : Int) := by omega
          by_cases hus : u < s.size
          · have hul : u < s.data.toList.length := by rw [HL.out]; exact hus
            have hcs := Pl.tF_cons (g := g) (d := d) hul
            rw [ba_at s u hus hul, HL.out] at hcs
            by_cases hc : s[u].toNat ≤ 32 ∧ u + 1 + s[u].toNat ≤ s.size
            · have hfy := first_yes s u hs hus hc
              obtain ⟨t, ht⟩ : ∃ t, t = Pl.txt ((s.data.toList.drop (u + 1)).take s[u].toNat) := ⟨_, rfl⟩
              obtain ⟨q, hq⟩ : ∃ q, q = 1 + s[u].toNat := ⟨_, rfl⟩
              rw [if_pos hc, ← ht, show u + 1 + s[u].toNat = u + q by omega] at hcs
              rw [← ht, ← hq] at hfy
              have HF2 : Hid (Pl.tt m s.data.toList = Pl.tF g s.data.toList (d ++ [t]) (u + q)) := by show _ = _; rw [HF.out, hcs]
              have hq1 : 1 ≤ q := by omega
              have hq3 : u + q ≤ s.size := by omega
              have hqI : (q : Int) ≤ 33 := by omega
              have hqb : ((q : Int) == 0) = false := by rw [beq_eq_false_iff_ne]; omega
              have hll : (d ++ List.replicate (g + 1) ByteArray.empty).length = m := by rw [List.length_append, HD.out, List.length_replicate]; omega
              obtain ⟨⟨y, hcl⟩, hfz, hset, hBg⟩ := OwnsS.store hown hll.symm k (by rw [hll]; omega) t
              rw [set_mid _ _ _ _ _ HD.out] at hset
              clear hcs ht hq hc hul hll hown
              go_wp2_with (go_at_call 19; refine (hfy _).mono ?_; rintro e w1 ⟨rfl, hw1⟩; replace hw1 := hw1.symm; subst hw1)
              go_roundg g
              case measure => omega
              case rel => exact ⟨k + 1, u + q, d ++ [t], by omega, by go_num, by go_num, hq3, by rw [List.length_append, HD.out]; rfl, HF2.out, hset, hb.setCell (Nat.le_refl _) _⟩
            · have hfn := first_no s u hs hus hc
              have HT : Hid (ttA s.data.toList (m : Int) = ([], 20)) := ttA_no (by rw [HF.out, hcs, if_neg hc])
              clear hcs hc hul
              go_wp2_with (go_at_call 19; refine (hfn _).mono ?_; rintro e w1 ⟨rfl, hw1⟩; replace hw1 := hw1.symm; subst hw1)
              go_ret2
              exact tookT_no HT.out hb
          · have hfn := first_nil s u (by omega)
            have HT : Hid (ttA s.data.toList (m : Int) = ([], 20)) := ttA_no (by rw [HF.out, Pl.tF_nil (by rw [HL.out]; omega)])
            go_wp2_with (go_at_call 19; refine (hfn _).mono ?_; rintro e w1 ⟨rfl, hw1⟩; replace hw1 := hw1.symm; subst hw1)
            go_ret2
            exact tookT_no HT.out hb
end Go.Proofs.Ytmhbpijefohopaa
