/-
  does, where the call is Fuse, and where it is Crash.
-/
import Derived.Test.YtmgodahdljnbmaaDDo2
namespace Go.Proofs.Ytmgodahdljnbmaa
open Go.RowKit

set_option maxRecDepth 4000 in
set_option maxHeartbeats 4000000 in
theorem does_fuse {w : World} {H : Hnd} {R : RH} {s : St} (B : Both w H R s) (at_ : Int) (hat : -9223372036854775808 ≤ at_ ∧ at_ < 9223372036854775808) (c : UInt8) (text : ByteArray) (ka : Option Addr) (kn kc : Nat) :
    Calls Try.prog 10 #[.pointer (some ⟨H.p, 0, none⟩), .agg #[.slice R.sa s.sure.length R.sc, .slice R.wa s.wait.length R.wc, .int .i64 s.fz, .bool s.off], .agg #[.int .i64 3, .int .i64 at_, .int .u8 (c.toNat : Int), .string text, .slice ka kn kc]] w (DoesAns w H s) := by
  have HB : Hid (Both w H R s ∧ (-9223372036854775808 ≤ at_ ∧ at_ < 9223372036854775808)) := ⟨B, hat⟩
  clear B hat
  go_enter Try.func10, Try.ntmps10
  go_wp2_with fail
  refine (filled_str c _).mono ?_
  rintro e w1 ⟨rfl, b1⟩
  have Dr := door_new b1
  have B1 := HB.out.1.below Dr.bel
  have a0 := Dr.ba.cell 0 _ rfl
  have a1 := Dr.ba.cell 1 _ rfl
  have a3 := Dr.ba.cell 3 _ rfl
  have q0 := Dr.bq.cell 0 _ rfl
  have q1 := Dr.bq.cell 1 _ rfl
  have q2 := Dr.bq.cell 2 _ rfl
  have q3 := Dr.bq.cell 3 _ rfl
  have cr := rfuse_any R.sa s.sure.length R.sc R.wa s.wait.length R.wc s.fz s.off at_ w1.drew
  have HD : Hid (Door w w1 (rd R.sa s.sure.length R.sc R.wa s.wait.length R.wc s.fz s.off) #[.int .i64 3, .int .i64 at_, .int .u8 (c.toNat : Int), .string text, .slice ka kn kc] ∧ DevIs w1 H s) := ⟨Dr, B1.dev⟩
  clear b1 Dr B1
  cases hte : text.toList.isEmpty
  all_goals
    go_wp2_with fail
    refine wp_region_held_then (fun w' => w'.cell? ⟨w.heap.size, 0, none⟩ = some (.slice R.sa s.sure.length R.sc) ∧ w'.cell? ⟨w.heap.size, 1, none⟩ = some (.slice R.wa s.wait.length R.wc) ∧ w'.cell? ⟨w.heap.size, 2, none⟩ = some (.int .i64 s.fz) ∧ w'.cell? ⟨w.heap.size, 3, none⟩ = some (.bool s.off) ∧ w'.cell? ⟨w.heap.size + 1, 1, none⟩ = some (.int .i64 at_)) _ (by kernel_rfl) rfl (by kernel_rfl) ?_
    have hHeld : (fun w' : World => w'.cell? ⟨w.heap.size, 0, none⟩ = some (.slice R.sa s.sure.length R.sc) ∧ w'.cell? ⟨w.heap.size, 1, none⟩ = some (.slice R.wa s.wait.length R.wc) ∧ w'.cell? ⟨w.heap.size, 2, none⟩ = some (.int .i64 s.fz) ∧ w'.cell? ⟨w.heap.size, 3, none⟩ = some (.bool s.off) ∧ w'.cell? ⟨w.heap.size + 1, 1, none⟩ = some (.int .i64 at_)) w1.drew := ⟨q0, q1, q2, q3, a1⟩
    dsimp only [List.dropLast, List.length, List.getLast]
    ((refine takeL 0 (v := ?_) rfl (by kernel_rfl) (by kernel_rfl) (by kernel_rfl) (fun _ _ _ h => h) (by rfl) hHeld ?_ ?_; rotate_left; focus (intro w hSw; (try dsimp only at hSw); go_simp <;> with_reducible rfl); (try simp only [Act.put, List.setIfInBounds_toArray, List.set_cons_zero, List.set_cons_succ])); (refine takeL 1 (v := ?_) rfl (by kernel_rfl) (by kernel_rfl) (by kernel_rfl) (fun _ _ _ h => h) (by rfl) hHeld ?_ ?_; rotate_left; focus (intro w hSw; (try dsimp only at hSw); go_simp <;> with_reducible rfl); (try simp only [Act.put, List.setIfInBounds_toArray, List.set_cons_zero, List.set_cons_succ])); (refine takeL 2 (v := ?_) rfl (by kernel_rfl) (by kernel_rfl) (by kernel_rfl) (fun _ _ _ h => h) (by rfl) hHeld ?_ ?_; rotate_left; focus (intro w hSw; (try dsimp only at hSw); go_simp <;> with_reducible rfl); (try simp only [Act.put, List.setIfInBounds_toArray, List.set_cons_zero, List.set_cons_succ])); (refine takeL 4 (v := ?_) rfl (by kernel_rfl) (by kernel_rfl) (by kernel_rfl) (fun _ _ _ h => h) (by rfl) hHeld ?_ ?_; rotate_left; focus (intro w hSw; (try dsimp only at hSw); go_simp <;> with_reducible rfl); (try simp only [Act.put, List.setIfInBounds_toArray, List.set_cons_zero, List.set_cons_succ])); (refine takeL 5 (v := ?_) rfl (by kernel_rfl) (by kernel_rfl) (by kernel_rfl) (fun _ _ _ h => h) (by rfl) hHeld ?_ ?_; rotate_left; focus (intro w hSw; (try dsimp only at hSw); go_simp <;> with_reducible rfl); (try simp only [Act.put, List.setIfInBounds_toArray, List.set_cons_zero, List.set_cons_succ])); (refine takeL 6 (v := ?_) rfl (by kernel_rfl) (by kernel_rfl) (by kernel_rfl) (fun _ _ _ h => h) (by rfl) hHeld ?_ ?_; rotate_left; focus (intro w hSw; (try dsimp only at hSw); go_simp <;> with_reducible rfl); (try simp only [Act.put, List.setIfInBounds_toArray, List.set_cons_zero, List.set_cons_succ])))
    dsimp only [Act.put]
    simp only [List.setIfInBounds_toArray, List.set_cons_zero, List.set_cons_succ]
    refine callL 3 (f := 24) (vs := #[.agg #[.slice R.sa s.sure.length R.sc, .slice R.wa s.wait.length R.wc, .int .i64 s.fz, .bool s.off], .int .i64 at_]) rfl (by kernel_rfl) (by rfl) (by go_simp) ?_
    refine cr.mono ?_
    rintro e w2 ⟨rfl, b2⟩
    refine ⟨_, rfl, ?_⟩
    have bd : Below w1.heap.size w1 w2 := ((Below.refl _ w1).drew).trans b2
    have D2 := HD.out.1.over bd
    have Dv2 := HD.out.2.below bd
    have cd := fuse_any Dv2 at_ HB.out.2
    have hHeld2 : (fun w' : World => w'.cell? ⟨w.heap.size, 0, none⟩ = some (.slice R.sa s.sure.length R.sc) ∧ w'.cell? ⟨w.heap.size, 1, none⟩ = some (.slice R.wa s.wait.length R.wc) ∧ w'.cell? ⟨w.heap.size, 2, none⟩ = some (.int .i64 s.fz) ∧ w'.cell? ⟨w.heap.size, 3, none⟩ = some (.bool s.off) ∧ w'.cell? ⟨w.heap.size + 1, 1, none⟩ = some (.int .i64 at_)) w2 := ⟨D2.bq.cell 0 _ rfl, D2.bq.cell 1 _ rfl, D2.bq.cell 2 _ rfl, D2.bq.cell 3 _ rfl, D2.ba.cell 1 _ rfl⟩
    refine ⟨hHeld2, ?_⟩
    have r2 := gd_ref HB.out.1 D2.bel
    have hlf := HB.out.1.lt
    have hlt := D2.size
    dsimp only [Act.put]
    simp only [List.setIfInBounds_toArray, List.set_cons_zero, List.set_cons_succ]
    refine callL 7 (f := 19) (vs := #[.pointer (some ⟨H.p, 0, none⟩), .int .i64 at_]) rfl (by kernel_rfl) (by rfl) (by go_simp) ?_
    refine cd.mono ?_
    rintro e w4 ⟨rfl, D4, T4⟩
    refine ⟨_, rfl, ?_⟩
    have Bq4 := D2.bq.kept T4.kept (fun h => by have := hlf _ h; omega)
    have Ba4 := D2.ba.kept T4.kept (fun h => by have := hlf _ h; omega)
    have Bz := D2.bz.kept T4.kept (fun h => by have := hlf _ h; omega)
    have hHeld3 : (fun w' : World => w'.cell? ⟨w.heap.size, 0, none⟩ = some (.slice R.sa s.sure.length R.sc) ∧ w'.cell? ⟨w.heap.size, 1, none⟩ = some (.slice R.wa s.wait.length R.wc) ∧ w'.cell? ⟨w.heap.size, 2, none⟩ = some (.int .i64 s.fz) ∧ w'.cell? ⟨w.heap.size, 3, none⟩ = some (.bool s.off) ∧ w'.cell? ⟨w.heap.size + 1, 1, none⟩ = some (.int .i64 at_)) w4 := ⟨Bq4.cell 0 _ rfl, Bq4.cell 1 _ rfl, Bq4.cell 2 _ rfl, Bq4.cell 3 _ rfl, Ba4.cell 1 _ rfl⟩
    refine ⟨hHeld3, ?_⟩
    have k4 := kept_four (F := fun k => k = w.heap.size + 1 + 1) (Kept.refl _ w4) (.inl rfl) (.slice R.sa s.sure.length R.sc) (.slice R.wa s.wait.length R.wc) (.int .i64 (max at_ (-1))) (.bool s.off)
    have Bq5 := Bq4.kept k4 (fun e => by omega)
    have Ba5 := Ba4.kept k4 (fun e => by omega)
    have F5 := box_four Bz rfl (.slice R.sa s.sure.length R.sc) (.slice R.wa s.wait.length R.wc) (.int .i64 (max at_ (-1))) (.bool s.off)
    have z0 := Bz.cell 0 _ rfl
    have z1 := Bz.cell 1 _ rfl
    have z2 := Bz.cell 2 _ rfl
    have z3 := Bz.cell 3 _ rfl
    have y0 := Bz.frozen 0
    have y1 := Bz.frozen 1
    have y2 := Bz.frozen 2
    have y3 := Bz.frozen 3
    have hend := does_end (s' := { s with fuse := at_ }) r2 (Below.refl _ _) D2.bel D4 T4 (fun k hk => .inl hk) (z := w.heap.size + 1 + 1) (.inr ⟨by omega, by omega⟩) (by omega) D2.bz.lt (fun h => by have := hlf _ h; omega) (.slice R.sa s.sure.length R.sc) (.slice R.wa s.wait.length R.wc) (.int .i64 (max at_ (-1))) (.bool s.off)
    have HE := (show Hid _ from hend)
    clear D4 T4 Bz Ba4 Bq4 k4 hend r2 hlf D2 Dv2 cd
    ((refine takeL 8 (v := ?_) rfl (by kernel_rfl) (by kernel_rfl) (by kernel_rfl) (fun _ _ _ h => h) (by rfl) hHeld3 ?_ ?_; rotate_left; focus (intro w hSw; (try dsimp only at hSw); go_simp <;> with_reducible rfl); (try simp only [Act.put, List.setIfInBounds_toArray, List.set_cons_zero, List.set_cons_succ])))
    dsimp only [Act.put]
    simp only [List.setIfInBounds_toArray, List.set_cons_zero, List.set_cons_succ]
    refine stepL 9 ((((w4.setCell ⟨w.heap.size + 1 + 1, 0, none⟩ (.slice R.sa s.sure.length R.sc)).setCell ⟨w.heap.size + 1 + 1, 1, none⟩ (.slice R.wa s.wait.length R.wc)).setCell ⟨w.heap.size + 1 + 1, 2, none⟩ (.int .i64 (max at_ (-1)))).setCell ⟨w.heap.size + 1 + 1, 3, none⟩ (.bool s.off)) rfl (by kernel_rfl) (by rfl) (by go_simp) ⟨Bq5.cell 0 _ rfl, Bq5.cell 1 _ rfl, Bq5.cell 2 _ rfl, Bq5.cell 3 _ rfl, Ba5.cell 1 _ rfl⟩ ?_
    refine doneL (by kernel_rfl) ?_
    dsimp only [Act.put]
    unfold Oper.wp
    go_simp
    go_wp2_with fail
    exact bodyPost_ret (res_box_slot Try.results10 _ rfl F5 Try.underlying30 rfl size_rd _ rfl) rfl ⟨H, R, { s with fuse := at_ }, rfl, HE.out.1, HE.out.2, Nat.le_succ _, rfl⟩

set_option maxRecDepth 4000 in
set_option maxHeartbeats 4000000 in
theorem does_crash {w : World} {H : Hnd} {R : RH} {s : St} (B : Both w H R s) (at_ : Int) (c : UInt8) (text : ByteArray) (ka : Option Addr) (kn kc : Nat) (l : List (BitVec 64)) (hv : ReadsI w (.slice ka kn kc) l) (hll : l.length ≤ maxLen) :
    Calls Try.prog 10 #[.pointer (some ⟨H.p, 0, none⟩), .agg #[.slice R.sa s.sure.length R.sc, .slice R.wa s.wait.length R.wc, .int .i64 s.fz, .bool s.off], .agg #[.int .i64 4, .int .i64 at_, .int .u8 (c.toNat : Int), .string text, .slice ka kn kc]] w (DoesAns w H s) := by
  have HB : Hid (Both w H R s ∧ ReadsI w (.slice ka kn kc) l ∧ l.length ≤ maxLen) := ⟨B, hv, hll⟩
  obtain ⟨s', hs'⟩ : ∃ s', s' = s.crashed (among l) := ⟨_, rfl⟩
  have HSM : Hid (s'.wait.length ≤ s.wait.length + 1 ∧ s'.sure.length = s.sure.length ∧ s' = s.crashed (among l)) := ⟨by rw [hs']; exact Nat.zero_le _, by rw [hs']; exact lay_len _ _, hs'⟩
  clear B hv hll hs'
  go_enter Try.func10, Try.ntmps10
  go_wp2_with fail
  refine (filled_str c _).mono ?_
  rintro e w1 ⟨rfl, b1⟩
  have Dr := door_new b1
  have Drd := Dr.over ((Below.refl _ w1).drew)
  have B1 := HB.out.1.below Drd.bel
  have a0 := Dr.ba.cell 0 _ rfl
  have a4 := Dr.ba.cell 4 _ rfl
  have a3 := Dr.ba.cell 3 _ rfl
  have q0 := Dr.bq.cell 0 _ rfl
  have q1 := Dr.bq.cell 1 _ rfl
  have q2 := Dr.bq.cell 2 _ rfl
  have q3 := Dr.bq.cell 3 _ rfl
  have cr := rcrash_all (w := w1.drew) B1.dev (gd_ref HB.out.1 Drd.bel) (gd_lt HB.out.1 Drd.size) (.slice ka kn kc) l (HB.out.2.1.below Drd.bel) HB.out.2.2
  rw [← HSM.out.2.2] at cr
  have HD : Hid (Door w w1.drew (rd R.sa s.sure.length R.sc R.wa s.wait.length R.wc s.fz s.off) #[.int .i64 4, .int .i64 at_, .int .u8 (c.toNat : Int), .string text, .slice ka kn kc] ∧ DevIs w1.drew H s) := ⟨Drd, B1.dev⟩
  clear b1 Dr Drd B1
  cases hte : text.toList.isEmpty
  all_goals
    go_wp2_with fail
    refine wp_region_held_then (fun w' => w'.cell? ⟨w.heap.size, 0, none⟩ = some (.slice R.sa s.sure.length R.sc) ∧ w'.cell? ⟨w.heap.size, 1, none⟩ = some (.slice R.wa s.wait.length R.wc) ∧ w'.cell? ⟨w.heap.size, 2, none⟩ = some (.int .i64 s.fz) ∧ w'.cell? ⟨w.heap.size, 3, none⟩ = some (.bool s.off) ∧ w'.cell? ⟨w.heap.size + 1, 4, none⟩ = some (.slice ka kn kc)) _ (by kernel_rfl) rfl (by kernel_rfl) ?_
    have hHeld : (fun w' : World => w'.cell? ⟨w.heap.size, 0, none⟩ = some (.slice R.sa s.sure.length R.sc) ∧ w'.cell? ⟨w.heap.size, 1, none⟩ = some (.slice R.wa s.wait.length R.wc) ∧ w'.cell? ⟨w.heap.size, 2, none⟩ = some (.int .i64 s.fz) ∧ w'.cell? ⟨w.heap.size, 3, none⟩ = some (.bool s.off) ∧ w'.cell? ⟨w.heap.size + 1, 4, none⟩ = some (.slice ka kn kc)) w1.drew := ⟨q0, q1, q2, q3, a4⟩
    dsimp only [List.dropLast, List.length, List.getLast]
    ((refine takeL 0 (v := ?_) rfl (by kernel_rfl) (by kernel_rfl) (by kernel_rfl) (fun _ _ _ h => h) (by rfl) hHeld ?_ ?_; rotate_left; focus (intro w hSw; (try dsimp only at hSw); go_simp <;> with_reducible rfl); (try simp only [Act.put, List.setIfInBounds_toArray, List.set_cons_zero, List.set_cons_succ])); (refine takeL 1 (v := ?_) rfl (by kernel_rfl) (by kernel_rfl) (by kernel_rfl) (fun _ _ _ h => h) (by rfl) hHeld ?_ ?_; rotate_left; focus (intro w hSw; (try dsimp only at hSw); go_simp <;> with_reducible rfl); (try simp only [Act.put, List.setIfInBounds_toArray, List.set_cons_zero, List.set_cons_succ])); (refine takeL 2 (v := ?_) rfl (by kernel_rfl) (by kernel_rfl) (by kernel_rfl) (fun _ _ _ h => h) (by rfl) hHeld ?_ ?_; rotate_left; focus (intro w hSw; (try dsimp only at hSw); go_simp <;> with_reducible rfl); (try simp only [Act.put, List.setIfInBounds_toArray, List.set_cons_zero, List.set_cons_succ])); (refine takeL 4 (v := ?_) rfl (by kernel_rfl) (by kernel_rfl) (by kernel_rfl) (fun _ _ _ h => h) (by rfl) hHeld ?_ ?_; rotate_left; focus (intro w hSw; (try dsimp only at hSw); go_simp <;> with_reducible rfl); (try simp only [Act.put, List.setIfInBounds_toArray, List.set_cons_zero, List.set_cons_succ])); (refine takeL 5 (v := ?_) rfl (by kernel_rfl) (by kernel_rfl) (by kernel_rfl) (fun _ _ _ h => h) (by rfl) hHeld ?_ ?_; rotate_left; focus (intro w hSw; (try dsimp only at hSw); go_simp <;> with_reducible rfl); (try simp only [Act.put, List.setIfInBounds_toArray, List.set_cons_zero, List.set_cons_succ])); (refine takeL 6 (v := ?_) rfl (by kernel_rfl) (by kernel_rfl) (by kernel_rfl) (fun _ _ _ h => h) (by rfl) hHeld ?_ ?_; rotate_left; focus (intro w hSw; (try dsimp only at hSw); go_simp <;> with_reducible rfl); (try simp only [Act.put, List.setIfInBounds_toArray, List.set_cons_zero, List.set_cons_succ])))
    dsimp only [Act.put]
    simp only [List.setIfInBounds_toArray, List.set_cons_zero, List.set_cons_succ]
    refine callL 3 (f := 25) (vs := #[.agg #[.slice R.sa s.sure.length R.sc, .slice R.wa s.wait.length R.wc, .int .i64 s.fz, .bool s.off], .slice ka kn kc]) rfl (by kernel_rfl) (by rfl) (by go_simp) ?_
    refine cr.mono ?_
    rintro e w2 ⟨⟨R', rfl, r2⟩, b2⟩
    refine ⟨_, rfl, ?_⟩
    have D2 := HD.out.1.over b2
    have Dv2 := HD.out.2.below b2
    have cd := crash_any Dv2 (.slice ka kn kc) l (HB.out.2.1.below D2.bel) HB.out.2.2
    rw [← HSM.out.2.2] at cd
    have hHeld2 : (fun w' : World => w'.cell? ⟨w.heap.size, 0, none⟩ = some (.slice R.sa s.sure.length R.sc) ∧ w'.cell? ⟨w.heap.size, 1, none⟩ = some (.slice R.wa s.wait.length R.wc) ∧ w'.cell? ⟨w.heap.size, 2, none⟩ = some (.int .i64 s.fz) ∧ w'.cell? ⟨w.heap.size, 3, none⟩ = some (.bool s.off) ∧ w'.cell? ⟨w.heap.size + 1, 4, none⟩ = some (.slice ka kn kc)) w2 := ⟨D2.bq.cell 0 _ rfl, D2.bq.cell 1 _ rfl, D2.bq.cell 2 _ rfl, D2.bq.cell 3 _ rfl, D2.ba.cell 4 _ rfl⟩
    refine ⟨hHeld2, ?_⟩
    have hlf := HB.out.1.lt
    have hlt := D2.size
    dsimp only [Act.put]
    simp only [List.setIfInBounds_toArray, List.set_cons_zero, List.set_cons_succ]
    refine callL 7 (f := 16) (vs := #[.pointer (some ⟨H.p, 0, none⟩), .slice ka kn kc]) rfl (by kernel_rfl) (by rfl) (by go_simp) ?_
    refine cd.mono ?_
    rintro e w4 ⟨rfl, H', D4, T4⟩
    refine ⟨_, rfl, ?_⟩
    have Bq4 := D2.bq.kept T4.kept (fun h => by have := hlf _ h; omega)
    have Ba4 := D2.ba.kept T4.kept (fun h => by have := hlf _ h; omega)
    have Bz := D2.bz.kept T4.kept (fun h => by have := hlf _ h; omega)
    have hHeld3 : (fun w' : World => w'.cell? ⟨w.heap.size, 0, none⟩ = some (.slice R.sa s.sure.length R.sc) ∧ w'.cell? ⟨w.heap.size, 1, none⟩ = some (.slice R.wa s.wait.length R.wc) ∧ w'.cell? ⟨w.heap.size, 2, none⟩ = some (.int .i64 s.fz) ∧ w'.cell? ⟨w.heap.size, 3, none⟩ = some (.bool s.off) ∧ w'.cell? ⟨w.heap.size + 1, 4, none⟩ = some (.slice ka kn kc)) w4 := ⟨Bq4.cell 0 _ rfl, Bq4.cell 1 _ rfl, Bq4.cell 2 _ rfl, Bq4.cell 3 _ rfl, Ba4.cell 4 _ rfl⟩
    refine ⟨hHeld3, ?_⟩
    have k4 := kept_four (F := fun k => k = w.heap.size + 1 + 1) (Kept.refl _ w4) (.inl rfl) (.slice R'.sa s'.sure.length R'.sc) (.slice R'.wa s'.wait.length R'.wc) (.int .i64 s'.fz) (.bool s'.off)
    have Bq5 := Bq4.kept k4 (fun e => by omega)
    have Ba5 := Ba4.kept k4 (fun e => by omega)
    have F5 := box_four Bz rfl (.slice R'.sa s'.sure.length R'.sc) (.slice R'.wa s'.wait.length R'.wc) (.int .i64 s'.fz) (.bool s'.off)
    have z0 := Bz.cell 0 _ rfl
    have z1 := Bz.cell 1 _ rfl
    have z2 := Bz.cell 2 _ rfl
    have z3 := Bz.cell 3 _ rfl
    have y0 := Bz.frozen 0
    have y1 := Bz.frozen 1
    have y2 := Bz.frozen 2
    have y3 := Bz.frozen 3
    have hend := does_end r2 (Below.refl _ _) D2.bel D4 T4 (fun k hk => .inl hk) (z := w.heap.size + 1 + 1) (.inr ⟨by omega, by omega⟩) (by omega) D2.bz.lt (fun h => by have := hlf _ h; omega) (.slice R'.sa s'.sure.length R'.sc) (.slice R'.wa s'.wait.length R'.wc) (.int .i64 s'.fz) (.bool s'.off)
    have HE := (show Hid _ from hend)
    clear D4 T4 Bz Ba4 Bq4 k4 hend r2 hlf D2 Dv2 cd cr
    ((refine takeL 8 (v := ?_) rfl (by kernel_rfl) (by kernel_rfl) (by kernel_rfl) (fun _ _ _ h => h) (by rfl) hHeld3 ?_ ?_; rotate_left; focus (intro w hSw; (try dsimp only at hSw); go_simp <;> with_reducible rfl); (try simp only [Act.put, List.setIfInBounds_toArray, List.set_cons_zero, List.set_cons_succ])))
    dsimp only [Act.put]
    simp only [List.setIfInBounds_toArray, List.set_cons_zero, List.set_cons_succ]
    refine stepL 9 ((((w4.setCell ⟨w.heap.size + 1 + 1, 0, none⟩ (.slice R'.sa s'.sure.length R'.sc)).setCell ⟨w.heap.size + 1 + 1, 1, none⟩ (.slice R'.wa s'.wait.length R'.wc)).setCell ⟨w.heap.size + 1 + 1, 2, none⟩ (.int .i64 s'.fz)).setCell ⟨w.heap.size + 1 + 1, 3, none⟩ (.bool s'.off)) rfl (by kernel_rfl) (by rfl) (by go_simp) ⟨Bq5.cell 0 _ rfl, Bq5.cell 1 _ rfl, Bq5.cell 2 _ rfl, Bq5.cell 3 _ rfl, Ba5.cell 4 _ rfl⟩ ?_
    refine doneL (by kernel_rfl) ?_
    dsimp only [Act.put]
    unfold Oper.wp
    go_simp
    go_wp2_with fail
    exact bodyPost_ret (res_box_slot Try.results10 _ rfl F5 Try.underlying30 rfl size_rd _ rfl) rfl ⟨H', R', s', rfl, HE.out.1, HE.out.2, HSM.out.1, HSM.out.2.1⟩
end Go.Proofs.Ytmgodahdljnbmaa
