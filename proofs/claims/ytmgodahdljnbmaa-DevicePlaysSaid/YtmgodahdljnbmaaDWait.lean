/-
  The contract of a device's Waiting; what Spoil and Waiting answer where there is no device.
-/
import Derived.Test.YtmgodahdljnbmaaDAwake
namespace Go.Proofs.Ytmgodahdljnbmaa
open Go.RowKit

theorem spoil_bad (d : Value) (n : Nat) (at_ : Int) (str : ByteArray) (w : World) (hs2 : SizeIs d n (w.alloc (.cells #[.int .i64 at_] 3))) (h : ¬ ((0 ≤ at_ ∧ at_ < n) ∧ str.size = 128)) :
    Calls Try.prog 21 #[d, .int .i64 at_, .string str] w fun e w' => e = .returned (.int .i64 1) ∧ Below w.heap.size w w' := by
  have c := fits_any d n at_ str _ hs2
  have hd : decide ((0 ≤ at_ ∧ at_ < (n : Int)) ∧ str.size = 128) = false := by simpa using h
  rw [hd] at c
  clear h hs2
  have hb := (Below.refl w.heap.size w).alloc (Nat.le_refl _) (.cells #[.int .i64 at_] 3)
  go_enter Try.func21, Try.ntmps21
  go_wp2_with (go_at_call 29; refine c.mono ?_; rintro e w1 ⟨rfl, hw1⟩; replace hw1 := hw1.symm; subst hw1)
  go_ret
  exact ⟨rfl, hb⟩
theorem waiting_none (d : Value) (w : World) (hs : SizeIs d 0 w) :
    Calls Try.prog 15 #[d] w fun e w' => e = .returned (.slice none 0 0) ∧ w' = w := by
  have c := given_any d 0 w hs
  have hd : decide (0 < 0) = false := by simp
  rw [hd] at c
  go_enter Try.func15, Try.ntmps15
  go_wp2_with (go_at_call 31; refine c.mono ?_; rintro e w1 ⟨rfl, hw1⟩; replace hw1 := hw1.symm; subst hw1)
  go_ret
  exact ⟨rfl, rfl⟩
theorem toInt_small (a : Nat) (h : a < 1000000) : (BitVec.ofNat 64 a).toInt = (a : Int) := by
  rw [BitVec.toInt_eq_toNat_bmod, BitVec.toNat_ofNat, Int.bmod_def]
  omega
def ats (wt : List (Nat × List UInt8)) : List (BitVec 64) := wt.map fun x => BitVec.ofNat 64 x.1
theorem ats_len (wt : List (Nat × List UInt8)) : (ats wt).length = wt.length := by simp [ats]

set_option maxRecDepth 4000 in
set_option maxHeartbeats 2000000 in
theorem waiting_any {w : World} {H : Hnd} {s : St} (D : DevIs w H s) :
    Calls Try.prog 15 #[.pointer (some ⟨H.p, 0, none⟩)] w fun e w' => (∃ b, e = .returned (.slice (some ⟨b, 0, none⟩) s.wait.length s.wait.length) ∧ ReadsI w' (.slice (some ⟨b, 0, none⟩) s.wait.length s.wait.length) (ats s.wait)) ∧ Below w.heap.size w w' := by
  have c := given_any _ _ w D.size
  have hp := D.pos
  have hd : decide (0 < s.sure.length) = true := by simp; omega
  rw [hd] at c
  have hz := zero_write
  have R0 := D.raw
  obtain ⟨n, hn⟩ : ∃ n, n = s.sure.length := ⟨_, rfl⟩
  rw [← hn] at R0
  obtain ⟨gg, cap, hwv⟩ := R0.wv
  obtain ⟨m, hm⟩ : ∃ m, m = s.wait.length := ⟨_, rfl⟩
  rw [← hm] at hwv ⊢
  obtain ⟨i0, hi0, hz0, hz1, hz2⟩ := info_parts info_int
  have hmb : i0.bytes * m ≤ 281474976710656 := by have := D.few; rw [hz2]; omega
  have hmb2 : m ≤ 9223372036854775807 := by have := D.few; omega
  have q2 := R0.c2
  rw [hwv] at q2
  have q2a : (w.alloc (.cells (madeCells #[.int .i64 0] m) 3)).cell? ⟨H.p, 2, none⟩ = some (.slice gg m cap) := by rw [← hwv]; exact (R0.alloc _).c2
  have HM : Hid (m = s.wait.length) := hm
  have RI : (w.alloc (.cells (madeCells #[.int .i64 0] m) 3)).rowIs w.heap.size 3 m (fun _ => .int .i64 0) := World.rowIs_made w (.int .i64 0) m 3
  clear hd hm hn hp
  go_enter Try.func15, Try.ntmps15
  go_wp2_with (first
    | (go_at_call 31; refine c.mono ?_; rintro e w1 ⟨rfl, hw1⟩; replace hw1 := hw1.symm; subst hw1)
    | (refine wpList_make_row _ rfl _ _ 33 rfl 3 i0 (.int .i64 0) Try.underlying33 hi0 hz0 hz1 rfl .i64 .i64 m rfl rfl hmb hmb2 ?_))
  go_loopg [4, 5, 20, 21, 22, 23, 24, 25, 26, 27, 28, 29, 30] m (fun g s4 s5 s20 s21 s22 s23 s24 s25 s26 s27 s28 s29 s30 wx => ∃ k : Nat, k + g = m ∧ s20 = .int .i64 k ∧ wx.rowIs w.heap.size 3 m (fun i => if i < k then .int .i64 ((s.wait.map Prod.fst).getD i 0 : Nat) else .int .i64 0) ∧ Below w.heap.size w wx)
  case atStart => exact ⟨0, by omega, rfl, RI.congr (fun i _ => by simp), (Below.refl _ _).alloc (Nat.le_refl _) _⟩
  case round =>
    obtain ⟨k, hkg, rfl, hrow, hb⟩ := hrel
    by_cases hk : k < m
    · have hkI : (k : Int) < (m : Int) := by omega
      have R : Raw wr H n s.sure (lay s.sure s.wait) s.wait s.fuse s.off := R0.kept (kept_of_below (fun _ => False) hb) (fun _ _ h => h)
      obtain ⟨x, hx⟩ : ∃ x, s.wait[k]? = some x := ⟨_, List.getElem?_eq_getElem (by have := HM.out; omega)⟩
      obtain ⟨g, cap', hv, hrange⟩ := R.at_ hx
      rw [hwv] at hv
      simp only [Value.slice.injEq] at hv
      obtain ⟨rfl, hmm, rfl⟩ := hv
      clear hmm
      obtain ⟨hxa, hxl⟩ := R.ats x (List.mem_of_getElem? hx)
      obtain ⟨b0, _⟩ := wArr_cell (heap_alloc_last wr (.cells (wArr x) 72))
      have hws := wArr_size hxl
      have hr2 : IntKind.i64.wrap ((k : Int) + 1) = (k : Int) + 1 := by rw [IntKind.wrap_i64]; omega
      have hwl : some (wcells x).length = some 129 := by simp [wcells, bcells_len, hxl]
      have hrA := hrow.alloc (.cells (wArr x) 72)
      have hbc := hrA.cell (i := k) hk
      have hbf := hrA.frozen k
      have hset := (hrA.set k (.int .i64 x.1)).congr (g := fun i => if i < k + 1 then .int .i64 ((s.wait.map Prod.fst).getD i 0 : Nat) else .int .i64 0) (fun i _ => by
        by_cases e : i = k
        · subst e
          have : (s.wait.map Prod.fst).getD i 0 = x.1 := by simp [hx]
          simp only [if_true]
          rw [if_pos (by omega), this]
        · by_cases e2 : i < k
          · rw [if_neg e, if_pos e2, if_pos (by omega)]
          · rw [if_neg e, if_neg e2, if_neg (by omega)])
      have hb2 := (hb.alloc hb.size (.cells (wArr x) 72)).setCell (p := ⟨w.heap.size, k, none⟩) (Nat.le_refl _) (.int .i64 x.1)
      simp only [Nat.lt_irrefl, if_false] at hbc
      clear R R0 hrow hrA hx hxl D c q2 q2a RI hi0 hz0 hz1 hz2 hmb hb
      go_wp2_with (first
        | (refine wpList_load_mid rfl 72 _ rfl g (k * 129) rfl (wcells x) _ hrange Try.underlying72 rfl (size_write.trans hwl.symm) ?_)
        | (refine alloc_wide hz rfl rfl ?_)
        | (refine store_wide size_write _ _ _ zw (wArr x) wr rfl rfl rfl rfl rfl rfl zw_size hws (wArr_one x) ?_))
      go_roundg (m - (k + 1))
      case measure => omega
      case rel => exact ⟨k + 1, by omega, by go_num, hset, hb2⟩
    · have hkI : ¬ (k : Int) < (m : Int) := by omega
      obtain rfl : k = m := by omega
      have few := R0.few
      have hats := R0.ats
      have htop := R0.top
      have hrd : ReadsI wr (.slice (some ⟨w.heap.size, 0, none⟩) k k) (ats s.wait) := by
        have hl : (ats s.wait).length = k := by rw [ats_len]; exact HM.out.symm
        by_cases h0 : k = 0
        · subst h0
          exact .inl ⟨List.eq_nil_of_length_eq_zero hl, _, _, rfl⟩
        · refine .inr ⟨w.heap.size, 0, k, by rw [hl], fun e => h0 (by rw [← hl, e]; rfl), hrow.lt, ?_⟩
          intro i hi
          rw [hl] at hi
          rw [Nat.zero_add, hrow.cell hi]
          simp only [hi, if_true]
          have hi2 : i < s.wait.length := by have := HM.out; omega
          have hx := hats s.wait[i] (List.getElem_mem hi2)
          have e1 : (s.wait.map Prod.fst).getD i 0 = s.wait[i].1 := by simp [hi2]
          have e2 : (ats s.wait).getD i 0#64 = BitVec.ofNat 64 s.wait[i].1 := by simp [ats, hi2]
          rw [e1, e2, toInt_small _ (by omega)]
      clear R0 D c q2 q2a RI hi0 hz0 hz1 hz2 hmb hrow few hats htop
      go_wp2
      go_ret
      exact ⟨⟨_, rfl, hrd⟩, hb⟩
theorem Own.waiting {w0 w : World} {p : Nat} {H : Hnd} {s : St} (o : Own w0 w p H s) :
    Calls Try.prog 15 #[.pointer (some ⟨p, 0, none⟩)] w fun e w' => (∃ b, e = .returned (.slice (some ⟨b, 0, none⟩) s.wait.length s.wait.length) ∧ ReadsI w' (.slice (some ⟨b, 0, none⟩) s.wait.length s.wait.length) (ats s.wait)) ∧ Below w.heap.size w w' := by
  have h := o.at_
  subst h
  exact waiting_any o.dev
end Go.Proofs.Ytmgodahdljnbmaa
