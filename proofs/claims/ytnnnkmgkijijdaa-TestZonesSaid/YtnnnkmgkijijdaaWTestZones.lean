/-
  The walk of law 17's TestZones: what is known of any cells, and of two lists of cells together.
-/
import Derived.Test.YtnnnkmgkijijdaaTAwake
import Derived.Test.YtnnnkmgkijijdaaTOpen
import Derived.Test.YtnnnkmgkijijdaaTLight
import Derived.Test.YtnnnkmgkijijdaaTApp
import Derived.Test.YtnnnkmgkijijdaaTRefZone
namespace Go.Proofs.Ytnnnkmgkijijdaa
open Go.RowKit

set_option maxRecDepth 4000 in
set_option maxHeartbeats 16000000 in
theorem walkTestZones {w : World} (a : Option Addr) (len cap : Nat) (ha : RowsAre w a len cap) (a' : Option Addr) (len' cap' : Nat) (hb : RowsAre w a' len' cap') :
    Calls Try.prog 4 #[.slice a len cap, .slice a' len' cap'] w fun e w' => e = .returned (.bool true) ∧ Below w.heap.size w w' := by
  obtain ⟨na, l, hA⟩ := ha
  obtain ⟨nb, l', hB⟩ := hb
  have haw := awake_any
  have k1 : ∀ W, Below w.heap.size w W → _ := fun W hW => light_any W _ l (hA.below hW) 60 (by omega)
  have k2 : ∀ W, Below w.heap.size w W → _ := fun W hW => light_any W _ l' (hB.below hW) 60 (by omega)
  have HN : Hid (l.length = len ∧ l'.length = len') := by
    obtain ⟨_, _, e, _⟩ := hA
    injection e with e1 e2 e3
    obtain ⟨_, _, e', _⟩ := hB
    injection e' with e1' e2' e3'
    exact ⟨e2.symm, e2'.symm⟩
  cases hL : lightM 60 l with
  | false =>
    rw [hL] at k1
    clear hL HN hA hB na nb k2
    go_enter Try.func4, Try.ntmps4
    go_wp2_with (first
      | (go_at_call 13; refine (k1 _ (Below.refl _ _)).mono ?_; rintro e w1 ⟨rfl, hb1⟩)
      | (go_at_call 8; refine (haw _).mono ?_; rintro e w2 ⟨rfl, hb2⟩))
    go_ret
    exact ⟨rfl, hb1.trans (hb2.mono hb1.size)⟩
  | true =>
    rw [hL] at k1
    have hl1 := light_len hL
    cases hL' : lightM 60 l' with
    | false =>
      rw [hL'] at k2
      clear hL hL' hl1 HN hA hB na nb
      go_enter Try.func4, Try.ntmps4
      go_wp2_with fail
      refine (k1 _ (Below.refl _ _)).mono ?_
      rintro e w1 ⟨rfl, hb1⟩
      clear k1
      go_wp2_with fail
      refine (k2 _ hb1).mono ?_
      rintro e w2 ⟨rfl, hb2⟩
      have hB2 := hb1.trans (hb2.mono hb1.size)
      clear k2 hb1 hb2
      go_wp2_with (go_at_call 8; refine (haw _).mono ?_; rintro e w3 ⟨rfl, hb3⟩)
      go_ret
      exact ⟨rfl, hB2.trans (hb3.mono hB2.size)⟩
    | true =>
      rw [hL'] at k2
      have hl2 := light_len hL'
      have HA : Hid (RowIs w (.slice a len cap) l ∧ (a = none → len = 0 ∧ cap = 0)) := ⟨hA, na⟩
      have HB : Hid (RowIs w (.slice a' len' cap') l' ∧ (a' = none → len' = 0 ∧ cap' = 0)) := ⟨hB, nb⟩
      have z1 : ∀ W, Below w.heap.size w W → _ := fun W hW => zone_any (hA.below hW) (by omega)
      have z2 : ∀ W, Below w.heap.size w W → _ := fun W hW => zone_any (hB.below hW) (by omega)
      have z3 : ∀ W, Below w.heap.size w W → _ := fun W hW => refZone_any (hA.below hW) (by omega)
      have hsum : len + len' ≤ 1000 ∧ (l ++ l').length ≤ 1000000 := by have h1 := HN.out.1; have h2 := HN.out.2; rw [List.length_append]; omega
      have HL : Hid (l.length = len ∧ l'.length = len') := HN.out
      clear hL hL' hA hB na nb HN
      go_enter Try.func4, Try.ntmps4
      go_wp2_with fail
      refine (k1 _ (Below.refl _ _)).mono ?_
      rintro e w1 ⟨rfl, hb1⟩
      clear k1
      go_wp2_with fail
      refine (k2 _ hb1).mono ?_
      rintro e w2 ⟨rfl, hb2⟩
      have hB2 := hb1.trans (hb2.mono hb1.size)
      clear k2 hb1 hb2
      have HR1 : Hid (RowIs w2 (.slice a len cap) l) := HA.out.1.below hB2
      have HZ0 : Hid (SRows w2 (.slice none 0 0) 23 3 (([] : List Cl).map c3)) := srows_nil _ _ _
      have HM1 : Hid (([] : List Cl).length + l.length = len) := by have := HL.out.1; unfold Hid; simp; omega
      have HM2 : Hid (len ≤ 1000) := by unfold Hid; omega
      have HO0 : Hid (∀ k, (Value.slice none 0 0).ownBlock = some k → w.heap.size ≤ k) := noOwn _
      go_wp2_with (first
        | (at_builtin; refine append_row rfl (.tmp 15) (.tmp 16) rfl rfl rfl HZ0.out HO0.out hB2.size HR1.out HA.out.2 len HM1.out HM2.out ?_; intro va vc w3 HR3 HO3 HB3; have hB3 := hB2.trans HB3.out; have HR4 : Hid (RowIs w3 (.slice a' len' cap') l') := HB.out.1.below hB3; have HM3 : Hid (([] ++ l : List Cl).length + l'.length = len + len') := (by have h1 := HL.out.1; have h2 := HL.out.2; unfold Hid; simp; omega))
        | (at_builtin; refine append_row rfl (.tmp 18) (.tmp 19) rfl rfl rfl HR3.out HO3.out hB3.size HR4.out HB.out.2 (len + len') HM3.out hsum.1 ?_; intro vb vd w4 HR5 HO5 HB5; have hB5 := hB3.trans HB5.out))
      have HB5' : Hid (RowIs w4 (.slice vb (len + len') vd) (l ++ l')) := row_of_srows (by have := HR5.out; simpa using this)
      clear HR5 HO5 HB5 HR3 HO3 HB3 HR4 HM3 HR1 HZ0 HM1 HM2 HO0 hB2 hB3
      refine (z1 _ hB5).mono ?_
      rintro e w5 ⟨⟨y1, rfl, hy1⟩, hb5⟩
      have hB6 := hB5.trans (hb5.mono hB5.size)
      have HB6 : Hid (RowIs w5 (.slice vb (len + len') vd) (l ++ l')) := HB5'.out.below hb5
      have HY1 : Hid (IsZone l y1) := hy1
      clear hB5 hb5 HB5' hy1
      go_wp2_with fail
      refine (z3 _ hB6).mono ?_
      rintro e w6 ⟨⟨y2, rfl, hy2⟩, hb6⟩
      obtain rfl := hy2.unique HY1.out
      have hB7 := hB6.trans (hb6.mono hB6.size)
      have HB7 : Hid (RowIs w6 (.slice vb (len + len') vd) (l ++ l')) := HB6.out.below hb6
      clear hB6 hb6 HB6 hy2 z3
      go_wp2_with fail
      refine (z1 _ hB7).mono ?_
      rintro e w7 ⟨⟨y3, rfl, hy3⟩, hb7⟩
      obtain rfl := hy3.unique HY1.out
      have hB8 := hB7.trans (hb7.mono hB7.size)
      have HB8 : Hid (RowIs w7 (.slice vb (len + len') vd) (l ++ l')) := HB7.out.below hb7
      clear hB7 hb7 HB7 hy3 z1
      go_wp2_with fail
      refine (z2 _ hB8).mono ?_
      rintro e w8 ⟨⟨y4, rfl, hy4⟩, hb8⟩
      have hB9 := hB8.trans (hb8.mono hB8.size)
      have HB9 : Hid (RowIs w8 (.slice vb (len + len') vd) (l ++ l')) := HB8.out.below hb8
      have cm := merge_any y3 y4 (by have h1 := HY1.out.bd; have h2 := hy4.bd; rw [IntKind.wrap_i64]; omega) (by have h1 := HY1.out.bd; have h2 := hy4.bd; rw [IntKind.wrap_i64]; omega)
      have HY5 : Hid (IsZone (l ++ l') (mergeZ y3 y4)) := isZone_merge HY1.out hy4
      obtain ⟨y, hy⟩ : ∃ y, y = mergeZ y3 y4 := ⟨_, rfl⟩
      rw [← hy] at cm HY5
      clear hB8 hb8 HB8 hy4 z2 hy
      go_wp2_with fail
      refine (cm _).mono ?_
      rintro e w9 ⟨rfl, hb9⟩
      have hB10 := hB9.trans (hb9.mono hB9.size)
      have z5 := refZone_any (HB9.out.below hb9) hsum.2
      clear hB9 hb9 HB9 cm
      go_wp2_with fail
      refine z5.mono ?_
      rintro e w10 ⟨⟨y6, rfl, hy6⟩, hb10⟩
      obtain rfl := hy6.unique HY5.out
      have hB11 := hB10.trans (hb10.mono hB10.size)
      clear hB10 hb10 z5 hy6
      go_wp2_with (go_at_call 8; refine (haw _).mono ?_; rintro e w11 ⟨rfl, hb11⟩)
      go_ret
      exact ⟨rfl, hB11.trans (hb11.mono hB11.size)⟩
end Go.Proofs.Ytnnnkmgkijijdaa
