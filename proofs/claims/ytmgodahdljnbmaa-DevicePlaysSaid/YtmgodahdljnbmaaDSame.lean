/-
  The contract of law 4's same: where a device and the document's device are in one state.
-/
import Derived.Test.YtmgodahdljnbmaaDSpo
import Derived.Test.YtmgodahdljnbmaaDRefP
namespace Go.Proofs.Ytmgodahdljnbmaa
open Go.RowKit

theorem ats_take (wt : List (Nat × List UInt8)) (i : Nat) (x : Nat × List UInt8) (hx : wt[i]? = some x) : ats (wt.take (i + 1)) = ats (wt.take i) ++ [BitVec.ofNat 64 x.1] := by
  rw [List.take_add_one, hx]
  simp [ats]

set_option maxRecDepth 4000 in
set_option maxHeartbeats 4000000 in
theorem same_is {w : World} {H : Hnd} {s : St} (D : DevIs w H s) {R : RH} (r : RefIs w H.foot R s.sure s.wait) (f : Int) :
    Calls Try.prog 11 #[.pointer (some ⟨H.p, 0, none⟩), .agg #[.slice R.sa s.sure.length R.sc, .slice R.wa s.wait.length R.wc, .int .i64 f, .bool s.off]] w fun e w' => e = .returned (.bool true) ∧ Below w.heap.size w w' := by
  obtain ⟨n, hn⟩ : ∃ n, n = s.sure.length := ⟨_, rfl⟩
  obtain ⟨m, hm⟩ : ∃ m, m = s.wait.length := ⟨_, rfl⟩
  obtain ⟨off, hoff⟩ : ∃ off, off = s.off := ⟨_, rfl⟩
  obtain ⟨sa, sc, wa, wc⟩ := R
  simp only at r ⊢
  rw [← hn, ← hm, ← hoff]
  have hm6 : m ≤ 1000000 := by rw [hm]; exact D.few
  have hn4 : n ≤ 4096 := by rw [hn]; exact D.top
  have HN : Hid (n = s.sure.length ∧ m = s.wait.length ∧ off = s.off) := ⟨hn, hm, hoff⟩
  have HD : Hid (DevIs w H s ∧ RefIs w H.foot ⟨sa, sc, wa, wc⟩ s.sure s.wait) := ⟨D, r⟩
  have hx6 : ∀ x ∈ s.wait, x.1 < 1000000 := fun x hx => by have := (D.ats x hx).1; have := D.top; omega
  clear D r hn hm hoff
  go_enter Try.func11, Try.ntmps11
  go_wp2_with fail
  obtain ⟨W, hW⟩ : ∃ W, W = w.alloc (.cells (rd sa n sc wa m wc f off) 30) := ⟨_, rfl⟩
  show Code.wp _ _ _ _ (w.alloc (.cells (rd sa n sc wa m wc f off) 30))
  rw [← hW]
  have B0 : Box W w.heap.size 30 (rd sa n sc wa m wc f off) := by rw [hW]; exact box_new _ _ _
  have hB0 : Below w.heap.size w W := by rw [hW]; exact below1 _ _
  have HB0 : Hid (Box W w.heap.size 30 (rd sa n sc wa m wc f off) ∧ Below w.heap.size w W) := ⟨B0, hB0⟩
  clear hW B0 hB0
  go_loopg [5, 6] m (fun g s5 s6 wx => ∃ i : Nat, i + g = m ∧ s6 = .int .i64 i ∧ OwnsI wx W.heap.size s5 (ats (s.wait.take i)) ∧ Below W.heap.size W wx)
  case atStart => exact ⟨0, by omega, rfl, ownsI_nil _ _, Below.refl _ _⟩
  case round =>
    obtain ⟨i, hig, rfl, hown, hbel⟩ := hrel
    have B := HB0.out.1.over hbel
    have p1 := B.cell 1 _ rfl
    have HO : Hid (OwnsI wr W.heap.size u5 (ats (s.wait.take i)) ∧ Below W.heap.size W wr) := ⟨hown, hbel⟩
    by_cases hi : i < m
    · have hiI : (i : Int) < (m : Int) := by omega
      obtain ⟨x, hx⟩ : ∃ x, s.wait[i]? = some x := ⟨_, List.getElem?_eq_getElem (by have := HN.out.2.1; omega)⟩
      have hwt := HD.out.2.wait
      simp only at hwt
      have hwt2 := hwt.over (HB0.out.2.trans (hbel.mono HB0.out.2.size))
      obtain ⟨g, hgg, e0, e1, hgl⟩ := w2_at hwt2 hx
      subst hgg
      have hst := ats_take s.wait i x hx
      have HST : Hid (ats (s.wait.take (i + 1)) = ats (s.wait.take i) ++ [BitVec.ofNat 64 x.1]) := hst
      have hr2 : IntKind.i64.wrap ((i : Int) + 1) = (i : Int) + 1 := by rw [IntKind.wrap_i64]; omega
      have hW3 : W.heap.size ≤ wr.heap.size := hbel.size
      have hl7 : (ats (s.wait.take i)).length + 1 ≤ 1000000 := by
        rw [ats_len, List.length_take]
        have := HN.out.2.1
        clear hr2
        omega
      have HN2 : Hid ((x.1 : Int) = (BitVec.ofNat 64 x.1).toInt) := (toInt_small x.1 (hx6 x (List.mem_of_getElem? hx))).symm
      obtain ⟨x1, hx1⟩ : ∃ x1 : Int, x1 = (x.1 : Int) := ⟨_, rfl⟩
      rw [← hx1] at e0
      have HX1 : Hid (x1 = (x.1 : Int)) := hx1
      clear hx hwt hwt2 hst hown hbel B e1 hx1
      go_wp2_with (at_builtin; refine append_i64 rfl (.tmp 19) (.tmp 26) rfl rfl rfl (HX1.out.trans HN2.out) HO.out.1 hW3 hl7 ?_; intro v4 w4 hown4 hb4)
      go_roundg (m - (i + 1))
      case measure => clear hr2; omega
      case rel => exact ⟨i + 1, by clear hr2; omega, by go_num, by rw [HST.out]; exact hown4, HO.out.2.trans hb4⟩
    · have hiI : ¬ (i : Int) < (m : Int) := by omega
      obtain rfl : i = m := by omega
      have ht : s.wait.take i = s.wait := List.take_of_length_le (by have := HN.out.2.1; omega)
      rw [ht] at hown
      obtain ⟨W2, hW2⟩ : ∃ W2, W2 = wr := ⟨_, rfl⟩
      subst hW2
      have hbw := HB0.out.2.trans (hbel.mono HB0.out.2.size)
      have D2 := HD.out.1.below hbw
      have r2 := HD.out.2.below hbw
      have p0 := B.cell 0 _ rfl
      have p3 := B.cell 3 _ rfl
      have D2d : DevIs W2.drew H s := D2.below ((Below.refl _ W2).drew)
      have c17 := off_any D2d
      have c20 := D2d.size W2.drew rfl
      have c15 := waiting_any D2d
      rw [← HN.out.2.2] at c17
      rw [← HN.out.1] at c20
      rw [← HN.out.2.1] at c15
      have hblt : w.heap.size < W2.heap.size := B.lt
      have HWW : Hid (DevIs W2 H s ∧ RefIs W2 H.foot ⟨sa, sc, wa, wc⟩ s.sure s.wait ∧ Box W2 w.heap.size 30 (rd sa n sc wa i wc f off) ∧ Below w.heap.size w W2) := ⟨D2, r2, B, hbw⟩
      have hrd := hown.reads
      have HRD : Hid (ReadsI W2.drew u5 (ats s.wait)) := hrd.below ((Below.refl _ W2).drew)
      have hl8 : (ats s.wait).length ≤ 1000000 := by rw [ats_len, ← HN.out.2.1]; exact hm6
      clear ht HO D2 r2 D2d B hbw hbel hown hrd
      go_wp2_with fail
      go_region_held3 (fun w' => w'.cell? ⟨w.heap.size, 0, none⟩ = some (.slice sa n sc) ∧ w'.cell? ⟨w.heap.size, 3, none⟩ = some (.bool off))
        (first
          | exact ⟨p0, p3⟩
          | exact ⟨(hb3.cell (p := ⟨w.heap.size, 0, none⟩) hblt).trans p0, (hb3.cell (p := ⟨w.heap.size, 3, none⟩) hblt).trans p3⟩)
        (first
          | (go_at_call 17; refine c17.mono ?_; rintro e w1 ⟨rfl, hw1⟩; subst hw1)
          | (go_at_call 20; refine c20.mono ?_; rintro e w1 ⟨rfl, hw1⟩; subst hw1)
          | (go_at_call 15; refine c15.mono ?_; rintro e w3 ⟨⟨b3, rfl, hrd3⟩, hb3⟩)
          | (go_at_call 28; refine (same_any w3 _ _ (ats s.wait) hl8 hrd3 (HRD.out.below hb3)).mono ?_; rintro e w4 ⟨rfl, n4, hw4⟩; subst hw4))
      have hb4 : Below W2.heap.size W2 (w3.drewN n4) := ((Below.refl W2.heap.size W2).drew.trans hb3).trans ⟨rfl, rfl, rfl, Nat.le_refl _, fun _ _ => rfl⟩
      obtain ⟨W4, hW4⟩ : ∃ W4, W4 = w3.drewN n4 := ⟨_, rfl⟩
      rw [← hW4] at hb4 ⊢
      have HW4 : Hid (DevIs W4 H s ∧ RefIs W4 H.foot ⟨sa, sc, wa, wc⟩ s.sure s.wait ∧ Box W4 w.heap.size 30 (rd sa n sc wa i wc f off) ∧ Below w.heap.size w W4) := ⟨HWW.out.1.below hb4, HWW.out.2.1.below hb4, HWW.out.2.2.1.over hb4, HWW.out.2.2.2.trans (hb4.mono HWW.out.2.2.2.size)⟩
      clear hW4 hb4 HWW p0 p1 p3 hb3 hrd3 c17 c20 c15 HRD
      go_wp2_with fail
      go_loopg [7] n (fun g s7 wx => ∃ j : Nat, j + g = n ∧ s7 = .int .i64 j ∧ Below W4.heap.size W4 wx)
      case atStart => exact ⟨0, by omega, rfl, Below.refl _ _⟩
      case round =>
        obtain ⟨j, hjg, rfl, hbel⟩ := hrel
        have B := HW4.out.2.2.1.over hbel
        have p0 := B.cell 0 _ rfl
        have hbw := HW4.out.2.2.2.trans (hbel.mono HW4.out.2.2.2.size)
        by_cases hj : j < n
        · have hjI : (j : Int) < (n : Int) := by omega
          have D5 := HW4.out.1.below hbel
          have r5 := HW4.out.2.1.below hbel
          obtain ⟨str, er, cR, cQ⟩ : ∃ (str : ByteArray) (er : Int), (Calls Try.prog 18 #[.pointer (some ⟨H.p, 0, none⟩), .int .i64 j] wr fun e w' => e = .returned (.tuple #[.string str, .int .i64 er]) ∧ w' = wr) ∧ (Calls Try.prog 27 #[.agg #[.slice sa n sc, .slice wa i wc, .int .i64 f, .bool off], .int .i64 j] wr fun e w' => e = .returned (.tuple #[.string str, .int .i64 er]) ∧ Below wr.heap.size wr w') := by
            cases hoff : off with
            | true => exact ⟨_, _, read_off D5 j (by rw [← HN.out.1]; exact hj) (by rw [← HN.out.2.2]; exact hoff), rread_off sa n sc wa i wc f j wr hj⟩
            | false =>
              obtain ⟨l, hl⟩ : ∃ l, (lay s.sure s.wait)[j]? = some l := ⟨_, List.getElem?_eq_getElem (by rw [lay_len, ← HN.out.1]; exact hj)⟩
              have h5 := rread_on r5.sure r5.wait (by rw [← HN.out.2.1]; exact hm6) f j l hl
              simp only at h5
              rw [← HN.out.1, ← HN.out.2.1] at h5
              exact ⟨_, _, read_on D5 j l hl (by rw [← HN.out.2.2]; exact hoff), h5⟩
          have hr2 : IntKind.i64.wrap ((j : Int) + 1) = (j : Int) + 1 := by rw [IntKind.wrap_i64]; omega
          have HBL : Hid (Below W4.heap.size W4 wr) := hbel
          clear D5 r5 hbel hbw
          go_wp2_with fail
          refine cR.mono ?_
          rintro e w5 ⟨rfl, hw5⟩
          replace hw5 := hw5.symm
          subst hw5
          go_wp2_with (refine wpList_load_row rfl 30 _ rfl w.heap.size rfl 30 (rd sa n sc wa i wc f off) (0, 0) _ B Try.underlying30 rfl size_rd ?_)
          refine cQ.mono ?_
          rintro e w6 ⟨rfl, hb6⟩
          go_wp2_with fail
          go_roundg (n - (j + 1))
          case measure => clear hr2; omega
          case rel => exact ⟨j + 1, by clear hr2; omega, by go_num, HBL.out.trans (hb6.mono HBL.out.size)⟩
        · have hjI : ¬ (j : Int) < (n : Int) := by omega
          clear hbel B
          go_wp2_with fail
          go_ret
          exact ⟨rfl, hbw⟩
end Go.Proofs.Ytmgodahdljnbmaa
