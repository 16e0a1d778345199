/-
  The contracts of slices.BinarySearchFunc with package test's closure, and of around.
-/
import Derived.Test.YtnnnkmgkijijdaaTBin
namespace Go.Proofs.Ytnnnkmgkijijdaa
open Go.RowKit

set_option maxRecDepth 4000 in
set_option maxHeartbeats 8000000 in
theorem bsf_any {w : World} {v : Value} {l : List Int} (h : NumsIs w v l) (hr : Rise l) (hm : l.length ≤ 1000000) (c : Cl) :
    Calls Try.prog 38 #[v, cv c, .func (.func 39) #[] #[]] w fun e w' => (∃ (k : Nat) (f : Bool), e = .returned (.tuple #[.int .i64 k, .bool f]) ∧ BinIs l c k f) ∧ Below w.heap.size w w' := by
  have k1 : ∀ (x : Int) (w : World), _ := fun x w => around1_any x c w
  obtain ⟨a, cap, rfl, h⟩ := h
  obtain ⟨n, hn⟩ : ∃ n, n = l.length := ⟨_, rfl⟩
  rw [← hn] at hm
  rw [← hn]
  have HN : Hid (n = l.length) := hn
  have HR : Hid (Rise l) := hr
  have HH : Hid (l ≠ [] → ∃ b off, a = some ⟨b, off, none⟩ ∧ b < w.heap.size ∧ ∀ (i : Nat) (x : Int), l[i]? = some x → w.cell? ⟨b, off + i, none⟩ = some (.int .i64 x)) := h
  obtain ⟨F, hF⟩ : ∃ F : Int → Int, F = fun x => cmpC (numC x) c := ⟨_, rfl⟩
  have HF : Hid (∀ x, F x = cmpC (numC x) c) := fun x => by rw [hF]
  have k1 : ∀ (x : Int) (w : World), Calls Try.prog 39 #[.int .i64 x, cv c] w fun e w' => e = .returned (.int .i64 (F x)) ∧ Below w.heap.size w w' := fun x w => by rw [hF]; exact k1 x w
  have HB0 : Hid (Below w.heap.size w (w.alloc (.cells (ca c) 23))) := below1 _ _
  have HX0 : Hid (Box (w.alloc (.cells (ca c) 23)) w.heap.size 23 (ca c)) := box_new _ _ _
  clear hn h hr hF
  obtain ⟨ck, cn, cs⟩ := c
  go_enter Try.func38, Try.ntmps38
  go_wp2_with fail
  go_loopg [9, 10] n (fun gg s9 s10 wx => ∃ (i j : Nat), j - i ≤ gg ∧ i ≤ j ∧ j ≤ n ∧ s9 = .int .i64 i ∧ s10 = .int .i64 j ∧ Hid ((∀ (k : Nat) (x : Int), k < i → l[k]? = some x → F x < 0) ∧ (∀ (k : Nat) (x : Int), j ≤ k → l[k]? = some x → 0 ≤ F x)) ∧ Hid (Below w.heap.size w wx) ∧ Hid (Box wx w.heap.size 23 (ca ⟨ck, cn, cs⟩)))
  case atStart =>
    refine ⟨0, n, by omega, by omega, by omega, rfl, rfl, ⟨fun k x hk => by omega, fun k x hk hx => ?_⟩, HB0, HX0⟩
    have := (List.getElem?_eq_some_iff.1 hx).1
    have := HN.out
    omega
  case round =>
    obtain ⟨i, j, hg, hij, hjq, rfl, rfl, HI, HB, HX⟩ := hrel
    by_cases hlt : i < j
    · have hltI : (i : Int) < (j : Int) := by omega
      obtain ⟨h, hh⟩ : ∃ h, h = (i + j) / 2 := ⟨_, rfl⟩
      have hhj : h < j := by omega
      have hih : i ≤ h := by omega
      have hrn := HN.out
      have hne : l ≠ [] := by rintro rfl; simp at hrn; omega
      obtain ⟨b, off, rfl, hb, hc⟩ := HH.out hne
      obtain ⟨x, hx⟩ : ∃ x, l[h]? = some x := ⟨_, List.getElem?_eq_getElem (by omega)⟩
      have q0 : ∀ q : Above wr, q.it.cell? ⟨b, off + h, none⟩ = some (.int .i64 x) := fun q => ((HB.out.trans (q.is.mono HB.out.size)).cell (p := ⟨b, off + h, none⟩) hb).trans (hc h x hx)
      have r0 : ∀ q : Above wr, q.it.cell? ⟨w.heap.size, 0, none⟩ = some (.int .i64 ck) := fun q => (HX.out.over q.is).cell 0 _ rfl
      have r1 : ∀ q : Above wr, q.it.cell? ⟨w.heap.size, 1, none⟩ = some (.int .i64 cn) := fun q => (HX.out.over q.is).cell 1 _ rfl
      have r2 : ∀ q : Above wr, q.it.cell? ⟨w.heap.size, 2, none⟩ = some (.string cs) := fun q => (HX.out.over q.is).cell 2 _ rfl
      have HL : Hid (l[h]? = some x) := hx
      have HX2 : Hid (h = (i + j) / 2) := hh
      have kx := k1 x
      have hhn : (h : Int) < (n : Int) := by omega
      have hhN : h < n := by omega
      clear hh hx hc hne hrn hb
      go_wp2_with fail
      rw [show ((i : Int) + (j : Int)) / 2 = (h : Int) by have := HX2.out; omega]
      refine wp_region_above (by kernel_rfl) (by kernel_rfl) ?_
      intro hne
      repeat (go_big_quiet_step ((go_at_call 39; exact above_of (kx _))))
      refine wpQuiet_nil ?_
      rintro _ ⟨kq, rfl⟩
      have HB2 : Hid (Below w.heap.size w kq.it) := HB.out.trans (kq.is.mono HB.out.size)
      have HX3 : Hid (Box kq.it w.heap.size 23 (ca ⟨ck, cn, cs⟩)) := HX.out.over kq.is
      clear q0 r0 r1 r2 kx
      by_cases hxa : F x < 0
      · have HA : Hid (F x < 0) := hxa
        have hw1 : IntKind.i64.wrap ((h : Int) + 1) = (h : Int) + 1 := by rw [IntKind.wrap_i64]; omega
        go_wp2_with fail
        go_roundg (j - (h + 1))
        case measure => clear hw1; omega
        case rel =>
          refine ⟨h + 1, j, Nat.le_refl _, by clear hw1; omega, hjq, by go_num, rfl, ⟨fun k y hk hy => ?_, HI.out.2⟩, HB2, HX3⟩
          clear hw1
          have ha := HA.out
          rw [HF.out] at ha ⊢
          by_cases e : k = h
          · subst e
            have := HL.out
            rw [hy] at this
            obtain rfl := Option.some.inj this
            exact ha
          · exact cmp_up (Int.le_of_lt (HR.out k h y x (by omega) hy HL.out)) ha
      · have HA : Hid (¬ F x < 0) := hxa
        go_wp2_with fail
        go_roundg (h - i)
        case measure => omega
        case rel =>
          refine ⟨i, h, Nat.le_refl _, hih, by omega, rfl, rfl, ⟨HI.out.1, fun k y hk hy => ?_⟩, HB2, HX3⟩
          have ha := HA.out
          rw [HF.out] at ha ⊢
          by_cases e : k = h
          · subst e
            have := HL.out
            rw [hy] at this
            obtain rfl := Option.some.inj this
            omega
          · have := cmp_up2 (c := ⟨ck, cn, cs⟩) (HR.out h k x y (by omega) HL.out hy) (by omega)
            omega
    · have hltI : ¬ (i : Int) < (j : Int) := by omega
      obtain rfl : i = j := by omega
      by_cases hin : i < n
      · have hrn := HN.out
        have hne : l ≠ [] := by rintro rfl; simp at hrn; omega
        obtain ⟨b, off, rfl, hb, hc⟩ := HH.out hne
        obtain ⟨x, hx⟩ : ∃ x, l[i]? = some x := ⟨_, List.getElem?_eq_getElem (by omega)⟩
        have q0 : ∀ q : Above wr, q.it.cell? ⟨b, off + i, none⟩ = some (.int .i64 x) := fun q => ((HB.out.trans (q.is.mono HB.out.size)).cell (p := ⟨b, off + i, none⟩) hb).trans (hc i x hx)
        have r0 : ∀ q : Above wr, q.it.cell? ⟨w.heap.size, 0, none⟩ = some (.int .i64 ck) := fun q => (HX.out.over q.is).cell 0 _ rfl
        have r1 : ∀ q : Above wr, q.it.cell? ⟨w.heap.size, 1, none⟩ = some (.int .i64 cn) := fun q => (HX.out.over q.is).cell 1 _ rfl
        have r2 : ∀ q : Above wr, q.it.cell? ⟨w.heap.size, 2, none⟩ = some (.string cs) := fun q => (HX.out.over q.is).cell 2 _ rfl
        have HL : Hid (l[i]? = some x) := hx
        have kx := k1 x
        have hinI : (i : Int) < (n : Int) := by omega
        clear hx hc hne hrn hb
        go_wp2_with fail
        refine wp_region_above (by kernel_rfl) (by kernel_rfl) ?_
        intro hne
        repeat (go_big_quiet_step ((go_at_call 39; exact above_of (kx _))))
        refine wpQuiet_nil ?_
        rintro _ ⟨kq, rfl⟩
        have HB2 : Hid (Below w.heap.size w kq.it) := HB.out.trans (kq.is.mono HB.out.size)
        clear q0 r0 r1 r2 kx
        go_wp2_with fail
        go_ret2
        refine ⟨⟨i, (F x == 0), rfl, ?_⟩, HB2.out⟩
        have hrn := HN.out
        refine ⟨by omega, fun k y hk hy => ?_, fun k y hk hy => ?_, ?_⟩
        · rw [← HF.out]; exact HI.out.1 k y hk hy
        · rw [← HF.out]; exact HI.out.2 k y hk hy
        · rw [beq_iff_eq, HF.out]
          constructor
          · exact fun e => ⟨x, HL.out, e⟩
          · rintro ⟨y, hy, e⟩
            rw [HL.out] at hy
            obtain rfl := Option.some.inj hy
            exact e
      · have hinI : ¬ (i : Int) < (n : Int) := by omega
        obtain rfl : i = n := by omega
        go_wp2_with fail
        refine wp_region_above (by kernel_rfl) (by kernel_rfl) ?_
        intro hne
        repeat (go_big_quiet_step (fail))
        refine wpQuiet_nil ?_
        rintro _ ⟨kq, rfl⟩
        have HB2 : Hid (Below w.heap.size w kq.it) := HB.out.trans (kq.is.mono HB.out.size)
        go_wp2_with fail
        go_ret2
        refine ⟨⟨i, false, rfl, ?_⟩, HB2.out⟩
        have hrn := HN.out
        refine ⟨by omega, fun k y hk hy => ?_, fun k y hk hy => ?_, ?_⟩
        · rw [← HF.out]; exact HI.out.1 k y hk hy
        · rw [← HF.out]; exact HI.out.2 k y hk hy
        · constructor
          · intro e; cases e
          · rintro ⟨y, hy, e⟩
            have := (List.getElem?_eq_some_iff.1 hy).1
            omega

set_option maxRecDepth 4000 in
set_option maxHeartbeats 4000000 in
theorem around_any {w : World} {v : Value} {l : List Int} (h : NumsIs w v l) (hr : Rise l) (hm : l.length ≤ 1000000) (c : Cl) :
    Calls Try.prog 34 #[v, cv c] w fun e w' => (∃ (k m : Nat), e = .returned (.tuple #[.int .i64 k, .int .i64 m]) ∧ AroundIs l c k m) ∧ Below w.heap.size w w' := by
  have k1 := bsf_any (h.below (below1 w (.cells (ca c) 23))) hr hm c
  have HR : Hid (Rise l ∧ l.length ≤ 1000000) := ⟨hr, hm⟩
  obtain ⟨a, cap, rfl, -⟩ := h
  obtain ⟨n, hn⟩ : ∃ n, n = l.length := ⟨_, rfl⟩
  rw [← hn] at k1
  rw [← hn]
  clear hn hr hm
  obtain ⟨ck, cn, cs⟩ := c
  go_enter Try.func34, Try.ntmps34
  go_wp2_with fail
  refine k1.mono ?_
  rintro e w1 ⟨⟨k, f, rfl, hk⟩, hb1⟩
  obtain ⟨-, hB⟩ := one_box hb1
  have hkl : (k : Int) ≤ 1000000 := by have := hk.1; have := HR.out.2; omega
  have HK : Hid (AroundIs l ⟨ck, cn, cs⟩ k (if f = true then k + 1 else k)) := around_of HR.out.1 hk
  clear k1 hb1 hk
  cases f with
  | true =>
    have hw1 : IntKind.i64.wrap ((k : Int) + 1) = (k : Int) + 1 := by rw [IntKind.wrap_i64]; omega
    go_wp2_with fail
    go_ret2
    exact ⟨⟨k, k + 1, by go_num, HK.out⟩, hB⟩
  | false =>
    go_wp2_with fail
    go_ret2
    exact ⟨⟨k, k, rfl, HK.out⟩, hB⟩
end Go.Proofs.Ytnnnkmgkijijdaa
