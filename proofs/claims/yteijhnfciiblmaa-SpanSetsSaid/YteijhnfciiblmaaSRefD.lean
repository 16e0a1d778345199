/-
  The contracts of peristyleref14's Set and Both.
-/
import Derived.Test.YteijhnfciiblmaaSRefC
import Derived.Test.YteijhnfciiblmaaSWhere
import Derived.Test.YteijhnfciiblmaaSIdx
namespace Go.Proofs.Yteijhnfciiblmaa
open Go.RowKit

/-- What Set makes. -/
def SetAns (w : World) (rs : List Sn) (n : Nat) (e : Ending) (w' : World) : Prop :=
  (∃ g, e = .returned (.slice (some ⟨g, 0, none⟩) n n) ∧ OwnsT w' w.heap.size (.slice (some ⟨g, 0, none⟩) n n) (tab (fun j => inB rs (j : Int)) n)) ∧ Below w.heap.size w w'

set_option maxRecDepth 100000 in
set_option maxHeartbeats 4000000 in
theorem refSet_any {w : World} {v : Value} {rs : List Sn} (h : SpansIs w v rs) (hm : mayS rs = true) (N : Nat) (hN : N ≤ 65536) (hend : endS rs ≤ (N : Int)) :
    Calls Try.prog 34 #[v, .int .i64 (N : Int)] w (SetAns w rs N) := by
  have hl := may_len hm
  obtain ⟨a, n, cap, rfl, hn, hcap⟩ := h.slice
  have hn1 : (n : Int) ≤ 65537 := by omega
  have hN1 : (N : Int) ≤ 65536 := by omega
  have hN2 : N ≤ 1000000 := by omega
  have HH : Hid (SpansIs w (.slice a n cap) rs ∧ rs.length = n ∧ mayS rs = true ∧ endS rs ≤ (N : Int)) := ⟨h, hn, hm, hend⟩
  clear h hn hm hend hl hN
  go_enter Try.func34, Try.ntmps34
  go_wp2_with (refine make_t rfl _ _ rfl rfl rfl rfl hN2 (Nat.le_refl _) ?_; intro w3 h3 hb3; have HO3 : Hid (OwnsT w3 w.heap.size (.slice (some ⟨w.heap.size, 0, none⟩) N N) (tab (fun _ => false) N)) := h3; have HB3 : Hid (Below w.heap.size w w3) := hb3; clear h3 hb3)
  have HG : Hid (w.heap.size ≤ w.heap.size) := Nat.le_refl _
  obtain ⟨g, hg⟩ : ∃ g, g = w.heap.size := ⟨_, rfl⟩
  rw [← hg] at HO3
  rw [← hg]
  have HGG : Hid (w.heap.size ≤ g) := by unfold Hid; omega
  have HO3' : Hid (OwnsT w3 w.heap.size (.slice (some ⟨g, 0, none⟩) N N) (tab (fun _ => false) N)) := by unfold Hid; rw [← hg]; exact HO3.out
  clear HG hg HO3
  go_loopg [6] n (fun gg s6 wx => ∃ k : Nat, k + gg = n ∧ s6 = .int .i64 k ∧ Hid (OwnsT wx w.heap.size (.slice (some ⟨g, 0, none⟩) N N) (tab (fun j => inB (rs.take k) (j : Int)) N)) ∧ Hid (Below w.heap.size w wx))
  case atStart => exact ⟨0, by omega, rfl, by unfold Hid; rw [List.take_zero]; exact HO3'.out, HB3⟩
  case round =>
    obtain ⟨k, hkg, rfl, HO, HB⟩ := hrel
    clear HO3' HB3
    by_cases hk : k < n
    · have hkI : (k : Int) < (n : Int) := by omega
      obtain ⟨s, b, off, hs, rfl, hat⟩ := (HH.out.1.below HB.out).at hk
      have c0 := hat.c0
      have hbd := may_at HH.out.2.2.1 hs
      have heb := end_bd (may_take HH.out.2.2.1 k)
      have hle : s.hi ≤ (N : Int) := by
        have h1 := HH.out.2.2.1
        have h2 := HH.out.2.2.2
        rw [← List.take_append_drop (k + 1) rs, mayS, mayF_append] at h1
        rw [← List.take_append_drop (k + 1) rs, endS, endF_append] at h2
        simp only [Bool.and_eq_true] at h1
        have h3 := endF_le h1.2
        have h4 := end_next hs
        unfold endS at h4
        omega
      have HAT : Hid (∀ W, Below w.heap.size w W → W.cell? ⟨b, off + k * 2 + 1, none⟩ = some (.int .i64 s.hi)) := fun W hW => by
        obtain ⟨s', b', off', hs', e, hat'⟩ := (HH.out.1.below hW).at hk
        cases e
        obtain rfl : s = s' := by rw [hs] at hs'; cases hs'; rfl
        exact hat'.c1
      have HT : Hid (∀ x, inB (rs.take (k + 1)) x = (inB (rs.take k) x || decide (s.lo ≤ x ∧ x < s.hi))) := fun x => in_take x hs
      obtain ⟨lo, hi⟩ := s
      simp only at c0 hbd HAT HT hle
      obtain ⟨L, rfl⟩ : ∃ L : Nat, lo = (L : Int) := ⟨lo.toNat, by omega⟩
      obtain ⟨H, rfl⟩ : ∃ H : Nat, hi = (H : Int) := ⟨hi.toNat, by omega⟩
      have hLH : (L : Int) ≤ (H : Int) ∧ (H : Int) ≤ (N : Int) := by omega
      have hLHn : L ≤ H ∧ H ≤ N := by omega
      have hr2 : IntKind.i64.wrap ((k : Int) + 1) = (k : Int) + 1 := by rw [IntKind.wrap_i64]; omega
      clear hat hs hbd heb hle
      go_wp2_with fail
      go_loopg [7] (H - L) (fun gj s7 wx => ∃ j : Nat, j + gj = H ∧ L ≤ j ∧ s7 = .int .i64 j ∧ Hid (OwnsT wx w.heap.size (.slice (some ⟨g, 0, none⟩) N N) (tab (fun t => inB (rs.take k) (t : Int) || decide (L ≤ t ∧ t < j)) N)) ∧ Hid (Below w.heap.size w wx))
      case atStart =>
        refine ⟨L, by omega, Nat.le_refl _, rfl, ?_, HB⟩
        unfold Hid
        rw [tab_congr (Q := fun j => inB (rs.take k) (j : Int)) (fun t _ => by simp; omega)]
        exact HO.out
      case round =>
        obtain ⟨j, hjg, hLj, rfl, HF, HB1⟩ := hrel
        clear HO HB c0
        have b1 := HAT.out _ HB1.out
        by_cases hj : j < H
        · have hjI : (j : Int) < (H : Int) := by omega
          have hjN : (j : Int) < (N : Int) := by omega
          obtain ⟨t1, t2, t3, t4⟩ := HF.out.store (k := j) (by omega) true
          have HS5 : Hid (OwnsT (wr.setCell ⟨g, j, none⟩ (.bool true)) w.heap.size (.slice (some ⟨g, 0, none⟩) N N) (tab (fun t => inB (rs.take k) (t : Int) || decide (L ≤ t ∧ t < j + 1)) N)) := by
            unfold Hid
            rw [tab_congr (Q := fun t => if t = j then true else inB (rs.take k) (t : Int) || decide (L ≤ t ∧ t < j)) (fun t _ => by
              by_cases e : t = j
              · subst e; simp [hLj]
              · simp only [e, if_false]; congr 2; apply propext; omega)]
            exact t3
          have hr3 : IntKind.i64.wrap ((j : Int) + 1) = (j : Int) + 1 := by rw [IntKind.wrap_i64]; omega
          generalize (inB (rs.take k) (j : Int) || decide (L ≤ j ∧ j < j)) = z at t1
          clear t3 t4
          go_wp2_with fail
          go_roundg (H - (j + 1))
          case measure => clear hr2 hr3; omega
          case rel => exact ⟨j + 1, by clear hr2 hr3; omega, by omega, by go_num, HS5, HB1.out.setCell HGG.out _⟩
        · have hjI : ¬ (j : Int) < (H : Int) := by omega
          obtain rfl : j = H := by omega
          go_wp2_with fail
          go_roundg (n - (k + 1))
          case measure => clear hr2; omega
          case rel =>
            refine ⟨k + 1, by clear hr2; omega, by go_num, ?_, HB1⟩
            unfold Hid
            rw [tab_congr (Q := fun t => inB (rs.take k) (t : Int) || decide (L ≤ t ∧ t < j)) (fun t _ => by rw [HT.out]; congr 2; apply propext; omega)]
            exact HF.out
    · have hkI : ¬ (k : Int) < (n : Int) := by omega
      obtain rfl : k = n := by omega
      have HE : Hid (rs.take k = rs) := by unfold Hid; rw [List.take_of_length_le (by rw [HH.out.2.1]; exact Nat.le_refl _)]
      go_wp2_with fail
      go_ret
      exact ⟨⟨g, rfl, by have := HO.out; rwa [HE.out] at this⟩, HB.out⟩
end Go.Proofs.Yteijhnfciiblmaa
