/-
  The contracts of a device's methods Off, Fuse, Read, of goesOn, and of law 4's filled.
-/
import Derived.Test.YtmgodahdljnbmaaDDev
import Derived.Test.YtmgodahdljnbmaaBRow
import Derived.Deep.LoopGhost
namespace Go.Proofs.Ytmgodahdljnbmaa
open Go.RowKit

section
variable {w w' : World} {H : Hnd} {s : St}
theorem DevIs.setF (D : DevIs w H s) (f : Int) (hf : -9223372036854775808 ≤ f ∧ f < 9223372036854775808) : DevIs (w.setCell ⟨H.p, 3, none⟩ (.int .i64 f)) H { s with fuse := f } :=
  { dev := by
      have := heap_setCell_same w H.p 3 _ _ (.int .i64 f) D.dev
      exact this
    sure := D.sure.of_block (heap_setCell_other w _ _ _ (fun e => D.d1 e.symm))
    seen := D.seen.of_block (heap_setCell_other w _ _ _ (fun e => D.d2 e.symm))
    wait := D.wait.of_block (fun k hk => heap_setCell_other w _ _ _ (D.d4 k hk).1)
    d1 := D.d1, d2 := D.d2, d3 := D.d3, d4 := D.d4, pos := D.pos, top := D.top, ats := D.ats, blk := D.blk, fz := hf, few := D.few }
theorem DevIs.setO (D : DevIs w H s) (b : Bool) : DevIs (w.setCell ⟨H.p, 4, none⟩ (.bool b)) H { s with off := b } :=
  { dev := by
      have := heap_setCell_same w H.p 4 _ _ (.bool b) D.dev
      exact this
    sure := D.sure.of_block (heap_setCell_other w _ _ _ (fun e => D.d1 e.symm))
    seen := D.seen.of_block (heap_setCell_other w _ _ _ (fun e => D.d2 e.symm))
    wait := D.wait.of_block (fun k hk => heap_setCell_other w _ _ _ (D.d4 k hk).1)
    d1 := D.d1, d2 := D.d2, d3 := D.d3, d4 := D.d4, pos := D.pos, top := D.top, ats := D.ats, blk := D.blk, fz := D.fz, few := D.few }
theorem turned_set (H : Hnd) (w : World) (k : Nat) (v : Value) : Turned H H w (w.setCell ⟨H.p, k, none⟩ v) :=
  ⟨rfl, (Kept.refl _ _).setCell (.inl (.inl rfl)) v, fun _ h => .inl h⟩
end

theorem off_any {w : World} {H : Hnd} {s : St} (D : DevIs w H s) :
    Calls Try.prog 17 #[.pointer (some ⟨H.p, 0, none⟩)] w fun e w' => e = .returned (.bool s.off) ∧ w' = w := by
  have c := given_any _ _ w D.size
  have hp := D.pos
  have hd : decide (0 < s.sure.length) = true := by simp; omega
  rw [hd] at c
  have h4 := D.c4
  go_enter Try.func17, Try.ntmps17
  go_wp2_with (go_at_call 31; refine c.mono ?_; rintro e w1 ⟨rfl, hw1⟩; replace hw1 := hw1.symm; subst hw1)
  go_ret
  exact ⟨rfl, rfl⟩
theorem off_none (d : Value) (w : World) (hs : SizeIs d 0 w) :
    Calls Try.prog 17 #[d] w fun e w' => e = .returned (.bool false) ∧ w' = w := by
  have c := given_any d 0 w hs
  have hd : decide (0 < 0) = false := by simp
  rw [hd] at c
  go_enter Try.func17, Try.ntmps17
  go_wp2_with (go_at_call 31; refine c.mono ?_; rintro e w1 ⟨rfl, hw1⟩; replace hw1 := hw1.symm; subst hw1)
  go_ret
  exact ⟨rfl, rfl⟩
theorem fuse_any {w : World} {H : Hnd} {s : St} (D : DevIs w H s) (n : Int) (hn : -9223372036854775808 ≤ n ∧ n < 9223372036854775808) :
    Calls Try.prog 19 #[.pointer (some ⟨H.p, 0, none⟩), .int .i64 n] w fun e w' => e = .returned (.int .i64 0) ∧ DevIs w' H { s with fuse := n } ∧ Turned H H w w' := by
  have c := given_any _ _ w D.size
  have hp := D.pos
  have hd : decide (0 < s.sure.length) = true := by simp; omega
  rw [hd] at c
  have h3 := D.c3
  have hf := D.fr 3
  have D' := D.setF n hn
  have T := turned_set H w 3 (.int .i64 n)
  go_enter Try.func19, Try.ntmps19
  go_wp2_with (go_at_call 31; refine c.mono ?_; rintro e w1 ⟨rfl, hw1⟩; replace hw1 := hw1.symm; subst hw1)
  go_ret
  exact ⟨rfl, D', T⟩
theorem fuse_none (d : Value) (n : Int) (w : World) (hs : SizeIs d 0 w) :
    Calls Try.prog 19 #[d, .int .i64 n] w fun e w' => e = .returned (.int .i64 1) ∧ w' = w := by
  have c := given_any d 0 w hs
  have hd : decide (0 < 0) = false := by simp
  rw [hd] at c
  go_enter Try.func19, Try.ntmps19
  go_wp2_with (go_at_call 31; refine c.mono ?_; rintro e w1 ⟨rfl, hw1⟩; replace hw1 := hw1.symm; subst hw1)
  go_ret
  exact ⟨rfl, rfl⟩

set_option maxHeartbeats 1000000 in
theorem goesOn_any {w : World} {H : Hnd} {s : St} (D : DevIs w H s) :
    Calls Try.prog 30 #[.pointer (some ⟨H.p, 0, none⟩)] w fun e w' => e = .returned (.bool s.goes) ∧ DevIs w' H s.burnt ∧ Turned H H w w' := by
  have h3 := D.c3
  have h4 := D.c4
  have f3 := D.fr 3
  have f4 := D.fr 4
  have HZ : Hid (-9223372036854775808 ≤ s.fuse ∧ s.fuse < 9223372036854775808) := D.fz
  obtain ⟨sure, wait, f, o⟩ := s
  simp only at h3 h4 HZ
  cases o with
  | true =>
    have D' : DevIs w H (St.burnt ⟨sure, wait, f, true⟩) := by simpa [St.burnt] using D
    clear D
    go_enter Try.func30, Try.ntmps30
    go_wp2
    go_ret
    exact ⟨rfl, D', Turned.refl _ _⟩
  | false =>
    by_cases h0 : f = 0
    · subst h0
      have D' : DevIs ((w.setCell ⟨H.p, 4, none⟩ (.bool true)).setCell ⟨H.p, 3, none⟩ (.int .i64 (-1))) H (St.burnt ⟨sure, wait, 0, false⟩) := by
        have := (D.setO true).setF (-1) (by omega)
        simpa [St.burnt] using this
      have T := (turned_set H w 4 (.bool true)).trans (turned_set H _ 3 (.int .i64 (-1)))
      have hD : Hid (DevIs w H ⟨sure, wait, 0, false⟩) := D
      clear D
      go_enter Try.func30, Try.ntmps30
      go_wp2
      go_ret
      exact ⟨rfl, D', T⟩
    · have hb0 : (f == 0) = false := by simpa using h0
      by_cases hp : 0 < f
      · have hz := HZ.out
        have D' : DevIs (w.setCell ⟨H.p, 3, none⟩ (.int .i64 (f - 1))) H (St.burnt ⟨sure, wait, f, false⟩) := by
          have := D.setF (f - 1) (by omega)
          simpa [St.burnt, h0, hp, hb0] using this
        have T := turned_set H w 3 (.int .i64 (f - 1))
        have hg : St.goes ⟨sure, wait, f, false⟩ = true := by simp [St.goes, h0]
        have r1 : wrap64 (f - 1) = f - 1 := by unfold wrap64; omega
        rw [hg]
        clear D hz
        go_enter Try.func30, Try.ntmps30
        go_wp2
        go_ret
        exact ⟨rfl, D', T⟩
      · have D' : DevIs w H (St.burnt ⟨sure, wait, f, false⟩) := by
          simpa [St.burnt, h0, hp, hb0] using D
        have hg : St.goes ⟨sure, wait, f, false⟩ = true := by simp [St.goes, h0]
        rw [hg]
        clear D
        go_enter Try.func30, Try.ntmps30
        go_wp2
        go_ret
        exact ⟨rfl, D', Turned.refl _ _⟩

/-! ### Read -/
theorem read_bad (d : Value) (n : Nat) (at_ : Int) (w : World) (hs : SizeIs d n w) (h : ¬ (0 ≤ at_ ∧ at_ < n)) :
    Calls Try.prog 18 #[d, .int .i64 at_] w fun e w' => e = .returned (.tuple #[.string { data := #[] }, .int .i64 1]) ∧ w' = w := by
  have c := has_any d n at_ w hs
  have hd : decide (0 ≤ at_ ∧ at_ < (n : Int)) = false := by simpa using h
  rw [hd] at c
  clear h
  go_enter Try.func18, Try.ntmps18
  go_wp2_with (go_at_call 32; refine c.mono ?_; rintro e w1 ⟨rfl, hw1⟩; replace hw1 := hw1.symm; subst hw1)
  go_ret2
  exact ⟨rfl, rfl⟩
theorem read_off {w : World} {H : Hnd} {s : St} (D : DevIs w H s) (k : Nat) (hk : k < s.sure.length) (ho : s.off = true) :
    Calls Try.prog 18 #[.pointer (some ⟨H.p, 0, none⟩), .int .i64 k] w fun e w' => e = .returned (.tuple #[.string { data := #[] }, .int .i64 40]) ∧ w' = w := by
  have c := has_any _ _ (k : Int) w D.size
  have hd : decide (0 ≤ (k : Int) ∧ (k : Int) < (s.sure.length : Int)) = true := by simp; omega
  rw [hd] at c
  have h4 := D.c4
  rw [ho] at h4
  go_enter Try.func18, Try.ntmps18
  go_wp2_with (go_at_call 32; refine c.mono ?_; rintro e w1 ⟨rfl, hw1⟩; replace hw1 := hw1.symm; subst hw1)
  go_ret2
  exact ⟨rfl, rfl⟩
theorem text_of {w : World} {b o : Nat} {l : List UInt8} (h : w.rangeAt b o (bcells l)) (cap : Nat) :
    (convert 60 9 (.slice (some ⟨b, o, none⟩) l.length cap)).run Try.prog w = .ok (.string (strB l)) w := by
  refine run_convert_bytes_back w _ _ 5 _ cap l Try.underlying60 Try.underlying5 Try.underlying9 ?_
  intro j hj
  rw [Addr.add_mid, h j (.int .u8 (l[j].toNat : Int)) (by simp [bcells, hj])]
theorem read_on {w : World} {H : Hnd} {s : St} (D : DevIs w H s) (k : Nat) (l : List UInt8) (hl : (lay s.sure s.wait)[k]? = some l) (ho : s.off = false) :
    Calls Try.prog 18 #[.pointer (some ⟨H.p, 0, none⟩), .int .i64 k] w fun e w' => e = .returned (.tuple #[.string (strB l), .int .i64 0]) ∧ w' = w := by
  have hk : k < s.sure.length := by
    have := (List.getElem?_eq_some_iff.1 hl).1
    rwa [lay_len] at this
  have c := has_any _ _ (k : Int) w D.size
  have hd : decide (0 ≤ (k : Int) ∧ (k : Int) < (s.sure.length : Int)) = true := by simp; omega
  rw [hd] at c
  have h4 := D.c4
  rw [ho] at h4
  have h1 := D.c1
  have h128 : l.length = 128 := lay_mem (p := fun b => b.length = 128) s.wait s.sure D.blk (fun x hx => (D.ats x hx).2) l (List.mem_of_getElem? hl)
  have ht := text_of (D.seen.range (i := k) (r := bcells l) (by rw [List.getElem?_map, hl]; rfl)) 128
  rw [h128] at ht
  have hkI : (k : Int) < (s.sure.length : Int) := by omega
  go_enter Try.func18, Try.ntmps18
  go_wp2_with (go_at_call 32; refine c.mono ?_; rintro e w1 ⟨rfl, hw1⟩; replace hw1 := hw1.symm; subst hw1)
  go_ret2
  exact ⟨rfl, rfl⟩

/-! ### filled -/
theorem filled_any (c : UInt8) (w : World) :
    Calls Try.prog 13 #[.int .u8 (c.toNat : Int)] w fun e w' => e = .returned (.string (strB (List.replicate 128 c))) ∧ Below w.heap.size w w' := by
  go_enter Try.func13, Try.ntmps13
  go_wp2_with (refine make_u8 rfl _ _ rfl (n := 128) rfl rfl rfl (by omega) ?_; intro w1 hrow1 hb1)
  go_loopg [4] 128 (fun g s4 wx => ∃ k : Nat, k + g = 128 ∧ s4 = .int .i64 k ∧ RowB wx w.heap.size (List.replicate k c ++ List.replicate (128 - k) 0) ∧ Below w.heap.size w wx)
  case atStart => exact ⟨0, rfl, rfl, by simpa using hrow1, hb1⟩
  case round =>
    obtain ⟨k, hkg, rfl, hrow, hb⟩ := hrel
    by_cases hk : k < 128
    · have hkI : (k : Int) < 128 := by omega
      have hll : (List.replicate k c ++ List.replicate (128 - k) (0 : UInt8)).length = 128 := by simp; omega
      have hcell := hrow.cell k (by omega)
      have hfr := hrow.frozen k (by omega)
      have hset := hrow.set k (by omega) c
      have he : (List.replicate k c ++ List.replicate (128 - k) (0 : UInt8)).set k c = List.replicate (k + 1) c ++ List.replicate (128 - (k + 1)) 0 := by
        rw [List.set_append_right _ _ (by simp)]
        have e1 : 128 - k = (128 - (k + 1)) + 1 := by omega
        simp only [List.length_replicate, Nat.sub_self]
        rw [e1, List.replicate_succ, List.set_cons_zero, List.replicate_succ', List.append_assoc]
        rfl
      rw [he] at hset
      clear hrow hrow1 he hll
      go_wp2
      go_roundg (128 - (k + 1))
      case measure => omega
      case rel => exact ⟨k + 1, by omega, by go_num, hset, hb.setCell (by simp) _⟩
    · have hkI : ¬ (k : Int) < 128 := by omega
      obtain rfl : k = 128 := by omega
      simp only [Nat.sub_self, List.replicate_zero, List.append_nil] at hrow
      have ht := hrow.text 128
      rw [List.length_replicate] at ht
      clear hrow hrow1
      go_wp2
      go_ret
      exact ⟨rfl, hb⟩
end Go.Proofs.Ytmgodahdljnbmaa
