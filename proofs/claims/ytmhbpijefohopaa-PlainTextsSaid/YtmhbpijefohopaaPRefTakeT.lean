/-
  The contract of package peristyleref07's TakeTexts.
-/
import Derived.Test.YtmhbpijefohopaaPTakeT
namespace Go.Proofs.Ytmhbpijefohopaa
open Go.RowKit

set_option maxRecDepth 4000 in
set_option maxHeartbeats 2000000 in
theorem refTakeTexts_any (s : ByteArray) (hs : s.size ≤ 100000) (n : BitVec 64) (w : World) :
    Calls Try.prog 16 #[.string s, .int .i64 n.toInt] w (TookT s.data.toList n.toInt w) := by
  have hsl : s.data.toList.length = s.size := by simp
  have hsI : (s.size : Int) ≤ 100000 := by omega
  obtain ⟨z, hz⟩ : ∃ z, z = n.toInt := ⟨_, rfl⟩
  rw [← hz]
  clear hz
  by_cases h0 : z < 0
  · have HT : Hid (ttA s.data.toList z = ([], 20)) := ttA_neg h0
    clear hsl
    go_enter Try.func16, Try.ntmps16
    go_wp2
    go_ret2
    exact tookT_no HT.out (Below.refl _ _)
  · by_cases h1 : (s.size : Int) < z
    · have HT : Hid (ttA s.data.toList z = ([], 20)) := ttA_many (by omega)
      have h2 : 0 ≤ z := by omega
      clear hsl
      go_enter Try.func16, Try.ntmps16
      go_wp2
      go_ret2
      exact tookT_no HT.out (Below.refl _ _)
    · obtain ⟨m, rfl⟩ : ∃ m : Nat, z = (m : Int) := ⟨z.toNat, by omega⟩
      have hms : m ≤ s.size := by omega
      have hmI : (m : Int) ≤ (s.size : Int) := by omega
      have hq1 : decide ((m : Int) < 0) = false := by rw [decide_eq_false_iff_not]; omega
      have hq2 : decide (s.size < m) = false := by rw [decide_eq_false_iff_not]; omega
      have HL : Hid (s.data.toList.length = s.size) := hsl
      clear h0 h1 hsl
      go_enter Try.func16, Try.ntmps16
      go_wp2
      go_loopg [6, 7, 8] m (fun g s6 s7 s8 wx => ∃ (k u : Nat) (d : List ByteArray), k + g = m ∧ s8 = .int .i64 k ∧ s7 = .int .i64 u ∧ u ≤ s.size ∧ d.length = k ∧ Pl.tt m s.data.toList = Pl.tF g s.data.toList d u ∧ OwnsS wx w.heap.size s6 d ∧ Below w.heap.size w wx)
      case atStart => exact ⟨0, 0, [], by omega, rfl, rfl, by omega, rfl, (Pl.tF_start _ _).symm, ownsS_nil _ _, Below.refl _ _⟩
      case round =>
        obtain ⟨k, u, d, hkg, rfl, rfl, hu, hd, hf, hown, hb⟩ := hrel
        have HF : Hid (Pl.tt m s.data.toList = Pl.tF gk s.data.toList d u) := hf
        have HD : Hid (d.length = k) := hd
        have hdl : d.length + 1 ≤ 1000000 := by omega
        have huI : (u : Int) ≤ (s.size : Int) := by omega
        have hsz := hb.size
        clear hf hd
        cases gk with
        | zero =>
          have hkI : ¬ (k : Int) < (m : Int) := by omega
          by_cases hus : u = s.size
          · have HT : Hid (ttA s.data.toList (m : Int) = (d, 0)) := ttA_ok (by rw [HF.out, Pl.tF_end (by rw [HL.out]; omega)])
            have hqb : ((u : Int) != (s.size : Int)) = false := by rw [bne_eq_false_iff_eq]; omega
            have hqc : (u != s.size) = false := by rw [bne_eq_false_iff_eq]; omega
            clear hus
            go_wp2
            go_ret2
            exact tookT_yes HT.out hown hb
          · have HT : Hid (ttA s.data.toList (m : Int) = ([], 20)) := ttA_no (by rw [HF.out, Pl.tF_more (by rw [HL.out]; omega)])
            have hqb : ((u : Int) != (s.size : Int)) = true := by rw [bne_iff_ne]; omega
            have hqc : (u != s.size) = true := by rw [bne_iff_ne]; omega
            clear hus
            go_wp2
            go_ret2
            exact tookT_no HT.out hb
        | succ g =>
          have hkI : (k : Int) < (m : Int) := by omega
          by_cases hus : u < s.size
          · have hul : u < s.data.toList.length := by rw [HL.out]; exact hus
            have hcs := Pl.tF_cons (g := g) (d := d) hul
            rw [ba_at s u hus hul, HL.out] at hcs
            have hb2 := s[u].toNat_lt
            by_cases hc : s[u].toNat ≤ 32 ∧ u + 1 + s[u].toNat ≤ s.size
            · obtain ⟨hc1, hc2⟩ := hc
              have hx := ext_txt s (u + 1) s[u].toNat
              have HF2 : Hid (Pl.tt m s.data.toList = Pl.tF g s.data.toList (d ++ [s.extract (u + 1) (u + 1 + s[u].toNat)]) (u + 1 + s[u].toNat)) := by show _ = _; rw [HF.out, hcs, if_pos ⟨hc1, hc2⟩, hx]
              clear hcs hx
              go_wp2_with (at_builtin; refine append_s rfl (.tmp 52) (.tmp 58) rfl rfl rfl hown hsz hdl ?_; intro v3 w3 hown3 hb3)
              go_roundg g
              case measure => omega
              case rel => exact ⟨k + 1, u + 1 + s[u].toNat, _, by omega, by go_num, by go_num, hc2, by rw [List.length_append, HD.out]; rfl, HF2.out, hown3, hb.trans hb3⟩
            · have HT : Hid (ttA s.data.toList (m : Int) = ([], 20)) := ttA_no (by rw [HF.out, hcs, if_neg hc])
              clear hcs
              by_cases h32 : (32 : Int) < (s[u].toNat : Int)
              · clear hc
                go_wp2
                go_ret2
                exact tookT_no HT.out hb
              · have hls : (s.size : Int) - (u : Int) - 1 < (s[u].toNat : Int) := by omega
                clear hc
                go_wp2
                go_ret2
                exact tookT_no HT.out hb
          · have HT : Hid (ttA s.data.toList (m : Int) = ([], 20)) := ttA_no (by rw [HF.out, Pl.tF_nil (by rw [HL.out]; omega)])
            have hge : (s.size : Int) ≤ (u : Int) := by omega
            clear hus
            go_wp2
            go_ret2
            exact tookT_no HT.out hb
end Go.Proofs.Ytmhbpijefohopaa
