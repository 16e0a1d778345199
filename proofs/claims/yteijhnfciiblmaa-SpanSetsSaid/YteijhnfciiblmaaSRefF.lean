/-
  The contract of peristyleref14's Of.
-/
import Derived.Test.YteijhnfciiblmaaSRefC
import Derived.Test.YteijhnfciiblmaaSOf
namespace Go.Proofs.Yteijhnfciiblmaa
open Go.RowKit

theorem bad_here {l : List Int} {k : Nat} {y : Int} (hs : l[k]? = some y) (h : y < 0 ∨ 65536 ≤ y) : l.any badB = true := List.any_eq_true.2 ⟨y, List.mem_of_getElem? hs, by simpa [badB] using h⟩
theorem of_set {l : List Int} {T : Nat} {R : List Sn} (hb : l.any badB = false) (hT : ∀ x ∈ l, x < (T : Int)) (h : IsSet R (fun x => 0 ≤ x ∧ x < (T : Int) ∧ decide (((x.toNat : Nat) : Int) ∈ l) = true)) : IsSet R (fun x => x ∈ l) := by
  refine ⟨h.may, fun x => (h.iff x).trans ?_⟩
  constructor
  · rintro ⟨h1, h2, h3⟩
    rw [show ((x.toNat : Nat) : Int) = x by omega] at h3
    simpa using h3
  · intro hx
    have h1 := good_of hb x hx
    have h2 := hT x hx
    refine ⟨h1.1, h2, ?_⟩
    rw [show ((x.toNat : Nat) : Int) = x by omega]
    simpa using hx

set_option maxRecDepth 100000 in
set_option maxHeartbeats 4000000 in
theorem refOf_any {w : World} {v : Value} {l : List Int} (h : ReadsZ w v l) (hl : l.length ≤ 100000) :
    Calls Try.prog 28 #[v] w (OfAns w l) := by
  obtain ⟨a, n, cap, rfl, hn, hcap⟩ := h.slice
  have hn1 : (n : Int) ≤ 100000 := by omega
  have HH : Hid (ReadsZ w (.slice a n cap) l ∧ l.length = n) := ⟨h, hn⟩
  clear h hl hn
  go_enter Try.func28, Try.ntmps28
  go_wp2_with fail
  go_loopg [4, 5] n (fun gg s4 s5 wx => ∃ k T : Nat, k + gg = n ∧ s5 = .int .i64 k ∧ s4 = .int .i64 T ∧ T ≤ 65536 ∧ Hid ((l.take k).any badB = false ∧ ∀ x ∈ l.take k, x < (T : Int)) ∧ wx = w)
  case atStart => exact ⟨0, 0, by omega, rfl, rfl, by omega, ⟨by rw [List.take_zero]; rfl, fun x hx => by simp at hx⟩, rfl⟩
  case round =>
    obtain ⟨k, T, hkg, rfl, rfl, hT, HL, hwr⟩ := hrel
    replace hwr := hwr.symm
    subst hwr
    have hTI : (T : Int) ≤ 65536 := by omega
    by_cases hk : k < n
    · have hkI : (k : Int) < (n : Int) := by omega
      obtain ⟨y, b, off, hy, rfl, c0⟩ := HH.out.1.at hk
      have hr2 : IntKind.i64.wrap ((k : Int) + 1) = (k : Int) + 1 := by rw [IntKind.wrap_i64]; omega
      by_cases g1 : y < 0
      · have HB : Hid (l.any badB = true) := bad_here hy (.inl g1)
        clear hy
        go_wp2_with fail
        go_ret2
        exact ⟨.inr ⟨HB.out, rfl⟩, Below.refl _ _⟩
      · by_cases g2 : 65536 ≤ y
        · have HB : Hid (l.any badB = true) := bad_here hy (.inr g2)
          clear hy
          go_wp2_with fail
          go_ret2
          exact ⟨.inr ⟨HB.out, rfl⟩, Below.refl _ _⟩
        · obtain ⟨T', hT'⟩ : ∃ T' : Nat, max (T : Int) (y + 1) = (T' : Int) := ⟨(max (T : Int) (y + 1)).toNat, by omega⟩
          have HT : Hid (T' ≤ 65536 ∧ (l.take (k + 1)).any badB = false ∧ ∀ x ∈ l.take (k + 1), x < (T' : Int)) := by
            refine ⟨by omega, ?_, fun x hx => ?_⟩
            · rw [any_take hy, HL.out.1]; simp [badB]; omega
            · rw [take_succ_of hy, List.mem_append, List.mem_singleton] at hx
              rcases hx with hx | hx
              · have := HL.out.2 x hx; omega
              · omega
          have hyb : y ≤ 65536 := by omega
          clear hy
          go_wp2_with fail
          go_roundg (n - (k + 1))
          case measure => clear hr2; omega
          case rel => exact ⟨k + 1, T', by clear hr2; omega, by go_num, rfl, HT.out.1, HT.out.2, rfl⟩
    · have hkI : ¬ (k : Int) < (n : Int) := by omega
      obtain rfl : k = n := by omega
      have HA : Hid (l.any badB = false ∧ ∀ x ∈ l, x < (T : Int)) := by
        have := HL.out
        rwa [List.take_of_length_le (by rw [HH.out.2]; exact Nat.le_refl _)] at this
      have hT2 : T ≤ 1000000 := by omega
      clear HL
      go_wp2_with (refine make_t rfl _ _ rfl rfl rfl rfl hT2 (Nat.le_refl _) ?_; intro w6 h6 hb6; have HO6 : Hid (OwnsT w6 w.heap.size (.slice (some ⟨w.heap.size, 0, none⟩) T T) (tab (fun _ => false) T) ∧ Below w.heap.size w w6) := ⟨h6, hb6⟩; clear h6 hb6)
      obtain ⟨g, hg⟩ : ∃ g, g = w.heap.size := ⟨_, rfl⟩
      have HGG : Hid (w.heap.size ≤ g) := by unfold Hid; omega
      have HO : Hid (OwnsT w6 w.heap.size (.slice (some ⟨g, 0, none⟩) T T) (tab (fun t => decide ((t : Int) ∈ l.take 0)) T) ∧ Below w.heap.size w w6) := by
        refine ⟨?_, HO6.out.2⟩
        rw [tab_congr (Q := fun _ => false) (fun t _ => by simp), hg]
        exact HO6.out.1
      rw [← hg]
      clear hg HO6
      go_loopg [7] k (fun gg s7 wx => ∃ i : Nat, i + gg = k ∧ s7 = .int .i64 i ∧ Hid (OwnsT wx w.heap.size (.slice (some ⟨g, 0, none⟩) T T) (tab (fun t => decide ((t : Int) ∈ l.take i)) T) ∧ Below w.heap.size w wx))
      case atStart => exact ⟨0, by omega, rfl, HO⟩
      case round =>
        obtain ⟨i, hig, rfl, HB⟩ := hrel
        clear HO
        by_cases hi : i < k
        · have hiI : (i : Int) < (k : Int) := by omega
          obtain ⟨y, b, off, hy, rfl, c0⟩ := (HH.out.1.below HB.out.2).at hi
          have hyg := good_of HA.out.1 y (List.mem_of_getElem? hy)
          have hyT := HA.out.2 y (List.mem_of_getElem? hy)
          obtain ⟨Y, rfl⟩ : ∃ Y : Nat, y = (Y : Int) := ⟨y.toNat, by omega⟩
          obtain ⟨t1, t2, t3, t4⟩ := HB.out.1.store (k := Y) (by omega) true
          have HS5 : Hid (OwnsT (wr.setCell ⟨g, Y, none⟩ (.bool true)) w.heap.size (.slice (some ⟨g, 0, none⟩) T T) (tab (fun t => decide ((t : Int) ∈ l.take (i + 1))) T) ∧ Below w.heap.size w (wr.setCell ⟨g, Y, none⟩ (.bool true))) := by
            refine ⟨?_, HB.out.2.setCell HGG.out _⟩
            rw [tab_congr (Q := fun t => if t = Y then true else decide ((t : Int) ∈ l.take i)) (fun t _ => by
              rw [take_succ_of hy]
              by_cases e : t = Y
              · subst e; simp
              · have e2 : ¬ (t : Int) = (Y : Int) := by omega
                simp [e, e2])]
            exact t3
          have hr3 : IntKind.i64.wrap ((i : Int) + 1) = (i : Int) + 1 := by rw [IntKind.wrap_i64]; omega
          generalize decide ((Y : Int) ∈ l.take i) = z at t1
          clear t3 t4 hy hyg
          go_wp2_with fail
          go_roundg (k - (i + 1))
          case measure => clear hr3; omega
          case rel => exact ⟨i + 1, by clear hr3; omega, by go_num, HS5⟩
        · have hiI : ¬ (i : Int) < (k : Int) := by omega
          obtain rfl : i = k := by omega
          have hsp := refSpans_any (P := fun t => decide ((t : Int) ∈ l)) (n := T) (by
            have h1 := HB.out.1
            rw [List.take_of_length_le (by rw [HH.out.2]; exact Nat.le_refl _)] at h1
            exact h1.reads) hT
          go_wp2_with fail
          refine hsp.mono ?_
          rintro e w7 ⟨⟨v7, R, rfl, h7, h8⟩, hb7⟩
          have H7 : Hid (OfAns w l (.returned (.tuple #[v7, .int .i64 0])) w7) := ⟨.inl ⟨HA.out.1, v7, R, rfl, h7, of_set HA.out.1 HA.out.2 h8⟩, HB.out.2.trans (hb7.mono HB.out.2.size)⟩
          clear hsp h7 h8 hb7
          go_wp2_with fail
          go_ret2
          exact H7.out
end Go.Proofs.Yteijhnfciiblmaa
