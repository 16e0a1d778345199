/-
  The contract of package plain's TakeInts.
-/
import Derived.Test.YtmhbpijefohopaaPPutI
import Derived.Lib.Strings
namespace Go.Proofs.Ytmhbpijefohopaa
open Go.RowKit

/-- What TakeInts answers. -/
def tiA (s : List UInt8) (n : Int) : List (BitVec 64) × Nat := if (s.length : Int) = 8 * n then (Pl.decI n.toNat s, 0) else ([], 20)
theorem tiA_no {s : List UInt8} {n : Int} (h : ¬ (s.length : Int) = 8 * n) : tiA s n = ([], 20) := by rw [tiA, if_neg h]
theorem tiA_ok {s : List UInt8} {m : Nat} (h : s.length = 8 * m) : tiA s (m : Int) = (Pl.decI m s, 0) := by
  rw [tiA, if_pos (by omega)]; rfl
/-- What TakeInts' end is. -/
def TookI (s : List UInt8) (n : Int) (w : World) (e : Ending) (w' : World) : Prop :=
  (∃ v, e = .returned (.tuple #[v, .int .i64 (tiA s n).2]) ∧ OwnsI w' w.heap.size v (tiA s n).1) ∧ Below w.heap.size w w'
theorem tookI_no {s : List UInt8} {n : Int} {w w' : World} (h : tiA s n = ([], 20)) (hb : Below w.heap.size w w') : TookI s n w (.returned (.tuple #[.slice none 0 0, .int .i64 20])) w' := by
  refine ⟨⟨.slice none 0 0, ?_, ?_⟩, hb⟩
  · rw [h]; rfl
  · rw [h]; exact ownsI_nil _ _
theorem tookI_yes {s : List UInt8} {n : Int} {w w' : World} {v : Value} {d : List (BitVec 64)} (h : tiA s n = (d, 0)) (hv : OwnsI w' w.heap.size v d) (hb : Below w.heap.size w w') : TookI s n w (.returned (.tuple #[v, .int .i64 0])) w' := by
  refine ⟨⟨v, ?_, ?_⟩, hb⟩
  · rw [h]; rfl
  · rw [h]; exact hv
theorem extract_end (s : ByteArray) (u : Nat) : (s.extract u s.size).data.toList = s.data.toList.drop u := by
  rw [Lib.extract_data, List.take_of_length_le]
  simp
theorem number_from (s : ByteArray) (u : Nat) (h : u + 8 ≤ s.size) (w : World) :
    Calls Try.prog 18 #[.string (s.extract u s.size)] w fun e w' => e = .returned (.int .i64 (Pl.num (s.data.toList.drop u)).toInt) ∧ w' = w := by
  have := number_any (s.extract u s.size) (by rw [ByteArray.size_extract]; omega) w
  rw [extract_end] at this
  exact this

set_option maxRecDepth 4000 in
set_option maxHeartbeats 1000000 in
theorem takeInts_any (s : ByteArray) (hs : s.size ≤ 100000) (n : BitVec 64) (w : World) :
    Calls Try.prog 8 #[.string s, .int .i64 n.toInt] w (TookI s.data.toList n.toInt w) := by
  have hsl : s.data.toList.length = s.size := by simp
  have hsI : (s.size : Int) ≤ 100000 := by omega
  by_cases hmod : (s.size : Int) % 8 = 0
  · by_cases hn : (s.size : Int) / 8 = n.toInt
    · obtain ⟨m, hm⟩ : ∃ m : Nat, m = s.size / 8 := ⟨_, rfl⟩
      have hms : s.size = 8 * m := by omega
      have hnm : n.toInt = (m : Int) := by omega
      have HT : Hid (tiA s.data.toList (m : Int) = (Pl.decI m s.data.toList, 0)) := tiA_ok (by omega)
      have HS : Hid (s.size = 8 * m) := hms
      have hq : (s.size : Int) / 8 = (m : Int) := by omega
      have hmI : (m : Int) ≤ 100000 := by omega
      have hmN : m ≤ 1000000 := by omega
      rw [hnm]
      clear hnm hn hm hms hsl
      go_enter Try.func8, Try.ntmps8
      go_wp2_with (at_make; refine make_ints rfl _ _ rfl rfl rfl rfl hmN (Nat.le_refl _) ?_; intro w2 hown2 hb2)
      go_loopg [22] m (fun g s22 wx => ∃ k : Nat, k + g = m ∧ s22 = .int .i64 k ∧ OwnsI wx w.heap.size (.slice (some ⟨w.heap.size, 0, none⟩) m m) (Pl.decI k s.data.toList ++ List.replicate g 0#64) ∧ Below w.heap.size w wx)
      case atStart => exact ⟨0, by omega, rfl, by simpa [Pl.decI] using hown2, hb2⟩
      case round =>
        obtain ⟨k, hkg, rfl, hown, hb⟩ := hrel
        clear hown2 hb2
        cases gk with
        | zero =>
          have hkI : ¬ (k : Int) < (m : Int) := by omega
          obtain rfl : k = m := by omega
          rw [List.replicate_zero, List.append_nil] at hown
          go_wp2
          go_ret2
          exact tookI_yes HT.out hown hb
        | succ g =>
          have hkI : (k : Int) < (m : Int) := by omega
          have hk8 : (k : Int) * 8 ≤ (s.size : Int) := by have := HS.out; omega
          have hkn : k * 8 + 8 ≤ s.size := by have := HS.out; omega
          have hdl := Pl.decI_len k s.data.toList
          have hll : (Pl.decI k s.data.toList ++ List.replicate (g + 1) 0#64).length = m := by rw [List.length_append, hdl, List.length_replicate]; omega
          obtain ⟨x, hx⟩ : ∃ x, x = Pl.num (s.data.toList.drop (k * 8)) := ⟨_, rfl⟩
          have hnum : ∀ w, Calls Try.prog 18 #[.string (s.extract (k * 8) s.size)] w fun e w' => e = .returned (.int .i64 x.toInt) ∧ w' = w := fun w => hx ▸ number_from s (k * 8) hkn w
          obtain ⟨hc, hf, hset, hBg⟩ := OwnsI.store hown hll.symm k (by rw [hll]; omega) x
          rw [set_mid _ _ _ _ _ hdl] at hset
          have e : Pl.decI (k + 1) s.data.toList = Pl.decI k s.data.toList ++ [x] := by rw [Pl.decI_snoc, hx, Nat.mul_comm]
          rw [← e] at hset
          clear e hx hown
          obtain ⟨y, hy⟩ : ∃ y, y = ((Pl.decI k s.data.toList ++ List.replicate (g + 1) 0#64).getD k 0#64).toInt := ⟨_, rfl⟩
          rw [← hy] at hc
          clear hy hll hdl
          go_wp2_with (go_at_call 18; refine (hnum _).mono ?_; rintro e w1 ⟨rfl, hw1⟩; replace hw1 := hw1.symm; subst hw1)
          go_roundg g
          case measure => omega
          case rel => exact ⟨k + 1, by omega, by go_num, hset, hb.setCell (Nat.le_refl _) _⟩
    · have HT : Hid (tiA s.data.toList n.toInt = ([], 20)) := tiA_no (by rw [hsl]; omega)
      obtain ⟨z, hz⟩ : ∃ z, z = n.toInt := ⟨_, rfl⟩
      rw [← hz] at HT hn ⊢
      have hn2 : ((s.size : Int) / 8 == z) = false := by simpa using hn
      clear hz hsl hn
      go_enter Try.func8, Try.ntmps8
      go_wp2
      go_ret2
      exact tookI_no HT.out (Below.refl _ _)
  · have HT : Hid (tiA s.data.toList n.toInt = ([], 20)) := tiA_no (by rw [hsl]; omega)
    obtain ⟨z, hz⟩ : ∃ z, z = n.toInt := ⟨_, rfl⟩
    rw [← hz] at HT ⊢
    clear hz hsl
    have hn2 : ((s.size : Int) % 8 == 0) = false := by simpa using hmod
    go_enter Try.func8, Try.ntmps8
    go_wp2
    go_ret2
    exact tookI_no HT.out (Below.refl _ _)
end Go.Proofs.Ytmhbpijefohopaa
