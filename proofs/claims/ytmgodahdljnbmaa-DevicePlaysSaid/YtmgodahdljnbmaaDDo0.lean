/-
  does, where the call is Read.
-/
import Derived.Test.YtmgodahdljnbmaaDDo2
namespace Go.Proofs.Ytmgodahdljnbmaa
open Go.RowKit

/-- Both sides read the same. -/
theorem read_both {w : World} {H : Hnd} {G : Nat → Prop} {R : RH} {s : St} (D : DevIs w H s) (r : RefIs w G R s.sure s.wait) (at_ : Int) : ∃ (str : ByteArray) (er : Int),
    (∀ w', Below w.heap.size w w' → Calls Try.prog 18 #[.pointer (some ⟨H.p, 0, none⟩), .int .i64 at_] w' fun e w'' => e = .returned (.tuple #[.string str, .int .i64 er]) ∧ w'' = w') ∧
    (Calls Try.prog 27 #[.agg #[.slice R.sa s.sure.length R.sc, .slice R.wa s.wait.length R.wc, .int .i64 s.fz, .bool s.off], .int .i64 at_] w fun e w' => e = .returned (.tuple #[.string str, .int .i64 er]) ∧ Below w.heap.size w w') := by
  by_cases h : 0 ≤ at_ ∧ at_ < s.sure.length
  · obtain ⟨k, rfl, hk⟩ : ∃ k : Nat, at_ = (k : Int) ∧ k < s.sure.length := ⟨at_.toNat, by omega, by omega⟩
    cases hoff : s.off with
    | true => exact ⟨_, _, fun w' b => read_off (D.below b) k hk hoff, rread_off R.sa s.sure.length R.sc R.wa s.wait.length R.wc s.fz k w hk⟩
    | false =>
      obtain ⟨l, hl⟩ : ∃ l, (lay s.sure s.wait)[k]? = some l := ⟨_, List.getElem?_eq_getElem (by rw [lay_len]; exact hk)⟩
      exact ⟨_, _, fun w' b => read_on (D.below b) k l hl hoff, rread_on r.sure r.wait D.few s.fz k l hl⟩
  · exact ⟨_, _, fun w' b => read_bad _ _ at_ w' (D.below b).size h, rread_bad R.sa s.sure.length R.sc R.wa s.wait.length R.wc s.fz s.off at_ w h⟩

set_option maxRecDepth 4000 in
set_option maxHeartbeats 4000000 in
theorem does_read {w : World} {H : Hnd} {R : RH} {s : St} (B : Both w H R s) (kind at_ : Int) (h1 : kind ≠ 1) (h2 : kind ≠ 2) (h3 : kind ≠ 3) (h4 : kind ≠ 4) (h5 : kind ≠ 5) (c : UInt8) (text : ByteArray) (ka : Option Addr) (kn kc : Nat) :
    Calls Try.prog 10 #[.pointer (some ⟨H.p, 0, none⟩), .agg #[.slice R.sa s.sure.length R.sc, .slice R.wa s.wait.length R.wc, .int .i64 s.fz, .bool s.off], .agg #[.int .i64 kind, .int .i64 at_, .int .u8 (c.toNat : Int), .string text, .slice ka kn kc]] w (DoesAns w H s) := by
  have HB : Hid (Both w H R s) := B
  have e1 : (kind == 1) = false := by simpa using h1
  have e2 : (kind == 2) = false := by simpa using h2
  have e3 : (kind == 3) = false := by simpa using h3
  have e4 : (kind == 4) = false := by simpa using h4
  have e5 : (kind == 5) = false := by simpa using h5
  clear B h1 h2 h3 h4 h5
  go_enter Try.func10, Try.ntmps10
  go_wp2_with fail
  refine (filled_str c _).mono ?_
  rintro e w1 ⟨rfl, b1⟩
  have Dr := door_new b1
  have B1 := HB.out.below Dr.bel
  obtain ⟨str, er, cR, cQ⟩ := read_both B1.dev (gd_ref HB.out Dr.bel) at_
  have Bq := Dr.bq
  have a0 := Dr.ba.cell 0 _ rfl
  have a1 := Dr.ba.cell 1 _ rfl
  have a3 := Dr.ba.cell 3 _ rfl
  have HD : Hid (Door w w1 (rd R.sa s.sure.length R.sc R.wa s.wait.length R.wc s.fz s.off) #[.int .i64 kind, .int .i64 at_, .int .u8 (c.toNat : Int), .string text, .slice ka kn kc] ∧ DevIs w1 H s) := ⟨Dr, B1.dev⟩
  clear b1 Dr B1
  cases hte : text.toList.isEmpty
  all_goals
    go_wp2_with (refine wpList_load_row rfl 30 _ rfl w.heap.size rfl 30 (rd R.sa s.sure.length R.sc R.wa s.wait.length R.wc s.fz s.off) (0, 0) _ Bq Try.underlying30 rfl size_rd ?_)
    refine cQ.mono ?_
    rintro e w2 ⟨rfl, b2⟩
    have D2 := HD.out.1.over b2
    have c1 := D2.ba.cell 1 _ rfl
    have Bq2 := D2.bq
    have Bz2 := D2.bz
    have F1 := Bz2.setRow (rd R.sa s.sure.length R.sc R.wa s.wait.length R.wc s.fz s.off)
    have hone := rd_one R.sa s.sure.length R.sc R.wa s.wait.length R.wc s.fz s.off
    have HD2 : Hid (Door w w2 (rd R.sa s.sure.length R.sc R.wa s.wait.length R.wc s.fz s.off) #[.int .i64 kind, .int .i64 at_, .int .u8 (c.toNat : Int), .string text, .slice ka kn kc]) := D2
    have cR2 := cR w2 b2
    clear cQ cR D2 b2
    go_wp2_with fail
    refine cR2.mono ?_
    rintro e w3 ⟨rfl, hw3⟩
    replace hw3 := hw3.symm
    subst hw3
    clear cR2
    go_wp2_with (first
      | (refine wpList_load_row rfl 30 _ rfl w.heap.size rfl 30 (rd R.sa s.sure.length R.sc R.wa s.wait.length R.wc s.fz s.off) (0, 0) _ Bq2 Try.underlying30 rfl size_rd ?_)
      | (refine wpList_store_row rfl 30 _ _ rfl (w.heap.size + 1 + 1) (rd R.sa s.sure.length R.sc R.wa s.wait.length R.wc s.fz s.off) rfl rfl 30 _ Bz2 size_rd rfl hone ?_))
    have D2 := HD2.out
    have hb : Below w.heap.size w (w2.setRow (w.heap.size + 1 + 1) (rd R.sa s.sure.length R.sc R.wa s.wait.length R.wc s.fz s.off)) := below_setRow D2.bel (by omega) _
    exact bodyPost_ret (res_box_slot Try.results10 _ rfl F1 Try.underlying30 rfl size_rd _ rfl) rfl ⟨H, R, s, rfl, HB.out.below hb, Turned.of_below (Turned.refl _ _) hb, Nat.le_succ _, rfl⟩
end Go.Proofs.Ytmgodahdljnbmaa
