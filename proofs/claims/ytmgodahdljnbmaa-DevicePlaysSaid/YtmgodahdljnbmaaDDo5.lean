/-
  does, where the call is Spoil.
-/
import Derived.Test.YtmgodahdljnbmaaDDo2
namespace Go.Proofs.Ytmgodahdljnbmaa
open Go.RowKit

set_option maxRecDepth 4000 in
set_option maxHeartbeats 4000000 in
theorem does_spoil {w : World} {H : Hnd} {R : RH} {s : St} (B : Both w H R s) (at_ : Int) (c : UInt8) (text str : ByteArray) (hstr : (text.toList.isEmpty = false ∧ str = text) ∨ (text.toList.isEmpty = true ∧ str = FS c)) (ka : Option Addr) (kn kc : Nat) :
    Calls Try.prog 10 #[.pointer (some ⟨H.p, 0, none⟩), .agg #[.slice R.sa s.sure.length R.sc, .slice R.wa s.wait.length R.wc, .int .i64 s.fz, .bool s.off], .agg #[.int .i64 5, .int .i64 at_, .int .u8 (c.toNat : Int), .string text, .slice ka kn kc]] w (DoesAns w H s) := by
  obtain ⟨s', err, p⟩ := spoilR_some s at_ str
  have hsm : s'.wait.length ≤ s.wait.length + 1 ∧ s'.sure.length = s.sure.length := by
    by_cases h : s.okAt at_ str
    · rw [(p.on h).1]; exact ⟨Nat.le_succ_of_le (List.length_filter_le _ _), by simp [St.spoilt]⟩
    · rw [(p.bad h).1]; exact ⟨Nat.le_succ _, rfl⟩
  have HSM : Hid (s'.wait.length ≤ s.wait.length + 1 ∧ s'.sure.length = s.sure.length) := hsm
  have HB : Hid (Both w H R s ∧ SpoilR s at_ str s' err) := ⟨B, p⟩
  clear hsm B p
  go_enter Try.func10, Try.ntmps10
  go_wp2_with fail
  refine (filled_str c _).mono ?_
  rintro e w1 ⟨rfl, b1⟩
  have Dr := door_new b1
  have B1 := HB.out.1.below Dr.bel
  have cr := rspoil_all B1.dev (gd_ref HB.out.1 Dr.bel) (gd_lt HB.out.1 Dr.size) at_ str HB.out.2
  have Bq := Dr.bq
  have a0 := Dr.ba.cell 0 _ rfl
  have a1 := Dr.ba.cell 1 _ rfl
  have a3 := Dr.ba.cell 3 _ rfl
  have HD : Hid (Door w w1 (rd R.sa s.sure.length R.sc R.wa s.wait.length R.wc s.fz s.off) #[.int .i64 5, .int .i64 at_, .int .u8 (c.toNat : Int), .string text, .slice ka kn kc] ∧ DevIs w1 H s) := ⟨Dr, B1.dev⟩
  clear b1 Dr B1
  rcases hstr with ⟨hte, hst⟩ | ⟨hte, hst⟩
  all_goals
    have HST := (show Hid _ from hst)
    rw [hst] at cr
    clear hst
    go_wp2_with (refine wpList_load_row rfl 30 _ rfl w.heap.size rfl 30 (rd R.sa s.sure.length R.sc R.wa s.wait.length R.wc s.fz s.off) (0, 0) _ Bq Try.underlying30 rfl size_rd ?_)
    refine cr.mono ?_
    rintro e w2 ⟨⟨R', rfl, r2⟩, b2⟩
    have D2 := HD.out.1.over b2
    have b3 := below1 w2 (.cells (rd R'.sa s'.sure.length R'.sc R'.wa s'.wait.length R'.wc s'.fz s'.off) 30)
    have Bn := box_new w2 (rd R'.sa s'.sure.length R'.sc R'.wa s'.wait.length R'.wc s'.fz s'.off) 30
    obtain ⟨W3, hW3⟩ : ∃ W3, W3 = w2.alloc (.cells (rd R'.sa s'.sure.length R'.sc R'.wa s'.wait.length R'.wc s'.fz s'.off) 30) := ⟨_, rfl⟩
    rw [← hW3] at b3 Bn
    have D3 := D2.over b3
    have Dv3 : DevIs W3.drew H s := ((HD.out.2.below b2).below b3).below ((Below.refl _ W3).drew)
    have cd := dspoil_all Dv3 at_ str HB.out.2
    rw [HST.out] at cd
    have HW3 : Hid (W3 = w2.alloc (.cells (rd R'.sa s'.sure.length R'.sc R'.wa s'.wait.length R'.wc s'.fz s'.off) 30)) := hW3
    have n0 := Bn.cell 0 _ rfl
    have n1 := Bn.cell 1 _ rfl
    have n2 := Bn.cell 2 _ rfl
    have n3 := Bn.cell 3 _ rfl
    have n4 := D3.ba.cell 1 _ rfl
    have hlt : w.heap.size + 3 ≤ w2.heap.size := D2.size
    have HR2 : Hid (RefIs w2 (Gd w H) R' s'.sure s'.wait ∧ Below w2.heap.size w2 W3 ∧ Door w W3 (rd R.sa s.sure.length R.sc R.wa s.wait.length R.wc s.fz s.off) #[.int .i64 5, .int .i64 at_, .int .u8 (c.toNat : Int), .string text, .slice ka kn kc] ∧ Box W3 w2.heap.size 30 (rd R'.sa s'.sure.length R'.sc R'.wa s'.wait.length R'.wc s'.fz s'.off) ∧ ∀ x, H.foot x → x < w.heap.size) := ⟨r2, b3, D3, Bn, HB.out.1.lt⟩
    clear cr D2 b3 Bn hW3 D3 Dv3 r2 b2 HD Bq
    go_wp2_with fail
    show Code.wp _ _ _ _ (w2.alloc (.cells (rd R'.sa s'.sure.length R'.sc R'.wa s'.wait.length R'.wc s'.fz s'.off) 30))
    rw [← HW3.out]
    refine wp_region_held_then (fun w' => w'.cell? ⟨w2.heap.size, 0, none⟩ = some (.slice R'.sa s'.sure.length R'.sc) ∧ w'.cell? ⟨w2.heap.size, 1, none⟩ = some (.slice R'.wa s'.wait.length R'.wc) ∧ w'.cell? ⟨w2.heap.size, 2, none⟩ = some (.int .i64 s'.fz) ∧ w'.cell? ⟨w2.heap.size, 3, none⟩ = some (.bool s'.off) ∧ w'.cell? ⟨w.heap.size + 1, 1, none⟩ = some (.int .i64 at_)) _ (by kernel_rfl) rfl (by kernel_rfl) ?_
    have hHeld : (fun w' : World => w'.cell? ⟨w2.heap.size, 0, none⟩ = some (.slice R'.sa s'.sure.length R'.sc) ∧ w'.cell? ⟨w2.heap.size, 1, none⟩ = some (.slice R'.wa s'.wait.length R'.wc) ∧ w'.cell? ⟨w2.heap.size, 2, none⟩ = some (.int .i64 s'.fz) ∧ w'.cell? ⟨w2.heap.size, 3, none⟩ = some (.bool s'.off) ∧ w'.cell? ⟨w.heap.size + 1, 1, none⟩ = some (.int .i64 at_)) W3.drew := ⟨n0, n1, n2, n3, n4⟩
    dsimp only [List.dropLast, List.length, List.getLast]
    ((refine takeL 0 (v := ?_) rfl (by kernel_rfl) (by kernel_rfl) (by kernel_rfl) (fun _ _ _ h => h) (by rfl) hHeld ?_ ?_; rotate_left; focus (intro w hSw; (try dsimp only at hSw); go_simp <;> with_reducible rfl); (try simp only [Act.put, List.setIfInBounds_toArray, List.set_cons_zero, List.set_cons_succ])); (refine takeL 1 (v := ?_) rfl (by kernel_rfl) (by kernel_rfl) (by kernel_rfl) (fun _ _ _ h => h) (by rfl) hHeld ?_ ?_; rotate_left; focus (intro w hSw; (try dsimp only at hSw); go_simp <;> with_reducible rfl); (try simp only [Act.put, List.setIfInBounds_toArray, List.set_cons_zero, List.set_cons_succ])); (refine takeL 2 (v := ?_) rfl (by kernel_rfl) (by kernel_rfl) (by kernel_rfl) (fun _ _ _ h => h) (by rfl) hHeld ?_ ?_; rotate_left; focus (intro w hSw; (try dsimp only at hSw); go_simp <;> with_reducible rfl); (try simp only [Act.put, List.setIfInBounds_toArray, List.set_cons_zero, List.set_cons_succ])); (refine takeL 3 (v := ?_) rfl (by kernel_rfl) (by kernel_rfl) (by kernel_rfl) (fun _ _ _ h => h) (by rfl) hHeld ?_ ?_; rotate_left; focus (intro w hSw; (try dsimp only at hSw); go_simp <;> with_reducible rfl); (try simp only [Act.put, List.setIfInBounds_toArray, List.set_cons_zero, List.set_cons_succ])); (refine takeL 4 (v := ?_) rfl (by kernel_rfl) (by kernel_rfl) (by kernel_rfl) (fun _ _ _ h => h) (by rfl) hHeld ?_ ?_; rotate_left; focus (intro w hSw; (try dsimp only at hSw); go_simp <;> with_reducible rfl); (try simp only [Act.put, List.setIfInBounds_toArray, List.set_cons_zero, List.set_cons_succ])); (refine takeL 6 (v := ?_) rfl (by kernel_rfl) (by kernel_rfl) (by kernel_rfl) (fun _ _ _ h => h) (by rfl) hHeld ?_ ?_; rotate_left; focus (intro w hSw; (try dsimp only at hSw); go_simp <;> with_reducible rfl); (try simp only [Act.put, List.setIfInBounds_toArray, List.set_cons_zero, List.set_cons_succ])))
    dsimp only [Act.put]
    simp only [List.setIfInBounds_toArray, List.set_cons_zero, List.set_cons_succ]
    refine callL 5 (f := 21) (vs := #[.pointer (some ⟨H.p, 0, none⟩), .int .i64 at_, .string _]) rfl (by kernel_rfl) (by rfl) (by go_simp; rfl) ?_
    refine cd.mono ?_
    rintro e w4 ⟨rfl, H', D4, T4⟩
    refine ⟨_, rfl, ?_⟩
    have Bm := HR2.out.2.2.2.1.drew.kept T4.kept (fun h => by have := HR2.out.2.2.2.2 _ h; omega)
    have Ba4 := HR2.out.2.2.1.ba.drew.kept T4.kept (fun h => by have := HR2.out.2.2.2.2 _ h; omega)
    have hHeld2 : (fun w' : World => w'.cell? ⟨w2.heap.size, 0, none⟩ = some (.slice R'.sa s'.sure.length R'.sc) ∧ w'.cell? ⟨w2.heap.size, 1, none⟩ = some (.slice R'.wa s'.wait.length R'.wc) ∧ w'.cell? ⟨w2.heap.size, 2, none⟩ = some (.int .i64 s'.fz) ∧ w'.cell? ⟨w2.heap.size, 3, none⟩ = some (.bool s'.off) ∧ w'.cell? ⟨w.heap.size + 1, 1, none⟩ = some (.int .i64 at_)) w4 := ⟨Bm.cell 0 _ rfl, Bm.cell 1 _ rfl, Bm.cell 2 _ rfl, Bm.cell 3 _ rfl, Ba4.cell 1 _ rfl⟩
    have Bz := HR2.out.2.2.1.bz.drew.kept T4.kept (fun h => by have := HR2.out.2.2.2.2 _ h; omega)
    have Bm5 := Bm.kept (kept_four (F := fun k => k = w.heap.size + 1 + 1) (Kept.refl _ w4) (.inl rfl) (.slice R'.sa s'.sure.length R'.sc) (.slice R'.wa s'.wait.length R'.wc) (.int .i64 s'.fz) (.bool s'.off)) (fun e => by omega)
    have Ba5 := Ba4.kept (kept_four (F := fun k => k = w.heap.size + 1 + 1) (Kept.refl _ w4) (.inl rfl) (.slice R'.sa s'.sure.length R'.sc) (.slice R'.wa s'.wait.length R'.wc) (.int .i64 s'.fz) (.bool s'.off)) (fun e => by omega)
    have F5 := box_four Bz rfl (.slice R'.sa s'.sure.length R'.sc) (.slice R'.wa s'.wait.length R'.wc) (.int .i64 s'.fz) (.bool s'.off)
    have z0 := Bz.cell 0 _ rfl
    have z1 := Bz.cell 1 _ rfl
    have z2 := Bz.cell 2 _ rfl
    have z3 := Bz.cell 3 _ rfl
    have y0 := Bz.frozen 0
    have y1 := Bz.frozen 1
    have y2 := Bz.frozen 2
    have y3 := Bz.frozen 3
    refine ⟨hHeld2, ?_⟩
    have HDT : Hid (DevIs w4 H' s' ∧ Turned H H' W3.drew w4) := ⟨D4, T4⟩
    clear D4 T4 Bm Bz Ba4
    ((refine takeL 7 (v := ?_) rfl (by kernel_rfl) (by kernel_rfl) (by kernel_rfl) (fun _ _ _ h => h) (by rfl) hHeld2 ?_ ?_; rotate_left; focus (intro w hSw; (try dsimp only at hSw); go_simp <;> with_reducible rfl); (try simp only [Act.put, List.setIfInBounds_toArray, List.set_cons_zero, List.set_cons_succ])))
    dsimp only [Act.put]
    simp only [List.setIfInBounds_toArray, List.set_cons_zero, List.set_cons_succ]
    refine stepL 8 ((((w4.setCell ⟨w.heap.size + 1 + 1, 0, none⟩ (.slice R'.sa s'.sure.length R'.sc)).setCell ⟨w.heap.size + 1 + 1, 1, none⟩ (.slice R'.wa s'.wait.length R'.wc)).setCell ⟨w.heap.size + 1 + 1, 2, none⟩ (.int .i64 s'.fz)).setCell ⟨w.heap.size + 1 + 1, 3, none⟩ (.bool s'.off)) rfl (by kernel_rfl) (by rfl) (by go_simp) ⟨Bm5.cell 0 _ rfl, Bm5.cell 1 _ rfl, Bm5.cell 2 _ rfl, Bm5.cell 3 _ rfl, Ba5.cell 1 _ rfl⟩ ?_
    refine doneL (by kernel_rfl) ?_
    dsimp only [Act.put]
    unfold Oper.wp
    go_simp
    go_wp2_with fail
    obtain ⟨r2, b3, D3, _, hlf⟩ := HR2.out
    obtain ⟨D4, T4⟩ := HDT.out
    have bd : Below W3.heap.size W3 W3.drew := (Below.refl _ W3).drew
    have hend := does_end r2 (b3.trans (bd.mono b3.size)) (D3.bel.trans (bd.mono D3.bel.size)) D4 T4 (fun k hk => .inl hk) (z := w.heap.size + 1 + 1) (.inr ⟨by omega, by omega⟩) (by omega) D3.bz.drew.lt (fun h => by have := hlf _ h; omega) (.slice R'.sa s'.sure.length R'.sc) (.slice R'.wa s'.wait.length R'.wc) (.int .i64 s'.fz) (.bool s'.off)
    exact bodyPost_ret (res_box_slot Try.results10 _ rfl F5 Try.underlying30 rfl size_rd _ rfl) rfl ⟨H', R', s', rfl, hend.1, hend.2, HSM.out⟩
end Go.Proofs.Ytmgodahdljnbmaa
