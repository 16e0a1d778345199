/-
  Law 4's awake, and the contracts that it and the laws lean on, where there is no fuse and the power is on.
-/
import Derived.Test.YtmgodahdljnbmaaDCrash
namespace Go.Proofs.Ytmgodahdljnbmaa
open Go.RowKit

def fl (c : UInt8) : List UInt8 := List.replicate 128 c
def FS (c : UInt8) : ByteArray := strB (fl c)
theorem fl_len (c : UInt8) : (fl c).length = 128 := by simp [fl]
theorem FS_size (c : UInt8) : (FS c).size = 128 := by rw [FS, strB_size, fl_len]
theorem FS_list (c : UInt8) : (FS c).data.toList = fl c := strB_list _
theorem filled_str (c : UInt8) (w : World) :
    Calls Try.prog 13 #[.int .u8 (c.toNat : Int)] w fun e w' => e = .returned (.string (FS c)) ∧ Below w.heap.size w w' := filled_any c w
section
variable {w : World} {H : Hnd} {su : List (List UInt8)} {wt : List (Nat × List UInt8)}
theorem write_free (D : DevIs w H ⟨su, wt, -1, false⟩) (k : Nat) (c : UInt8) (hk : k < su.length) (hfew : wt.length < 1000000) :
    Calls Try.prog 12 #[.pointer (some ⟨H.p, 0, none⟩), .int .i64 k, .string (FS c)] w fun e w' => e = .returned (.int .i64 0) ∧ ∃ H', DevIs w' H' ⟨su, wt ++ [(k, fl c)], -1, false⟩ ∧ Turned H H' w w' := by
  have := write_on D k (FS c) hk (FS_size c) rfl hfew
  rw [FS_list] at this
  exact this
theorem sync_free (D : DevIs w H ⟨su, wt, -1, false⟩) :
    Calls Try.prog 14 #[.pointer (some ⟨H.p, 0, none⟩)] w fun e w' => e = .returned (.int .i64 0) ∧ ∃ H', DevIs w' H' ⟨lay su wt, [], -1, false⟩ ∧ Turned H H' w w' := sync_on D rfl
theorem read_free (D : DevIs w H ⟨su, wt, -1, false⟩) (k : Nat) (c : UInt8) (hl : (lay su wt)[k]? = some (fl c)) :
    Calls Try.prog 18 #[.pointer (some ⟨H.p, 0, none⟩), .int .i64 k] w fun e w' => e = .returned (.tuple #[.string (FS c), .int .i64 0]) ∧ w' = w := read_on D k (fl c) hl rfl
end
theorem reads_one (W : World) (x : BitVec 64) (n : Int) (hn : n = x.toInt) (t : TypeId) : ReadsI (W.alloc (.cells #[.int .i64 n] t)) (.slice (some ⟨W.heap.size, 0, none⟩) 1 1) [x] := by
  subst hn
  refine .inr ⟨W.heap.size, 0, 1, rfl, by simp, by simp, ?_⟩
  intro i hi
  obtain rfl : i = 0 := by simpa using hi
  rw [cell_of_row _ W.heap.size (0 + 0) _ t _ (heap_alloc_last W _)]
  rfl
/-- A device of the call's own, at p: above all that was there ahead. -/
structure Own (w0 w : World) (p : Nat) (H : Hnd) (s : St) : Prop where
  dev : DevIs w H s
  bel : Below w0.heap.size w0 w
  abv : ∀ k, H.foot k → w0.heap.size ≤ k
  at_ : H.p = p
section
variable {w0 w w' : World} {p : Nat} {H H' : Hnd} {s s' : St} {su : List (List UInt8)} {wt : List (Nat × List UInt8)}
theorem Own.turned (o : Own w0 w p H s) (D : DevIs w' H' s') (T : Turned H H' w w') : Own w0 w' p H' s' :=
  ⟨D, o.bel.trans (T.below o.abv o.bel.size), T.above o.abv o.bel.size, T.p.trans o.at_⟩
theorem Own.below (o : Own w0 w p H s) (b : Below w.heap.size w w') : Own w0 w' p H s :=
  ⟨o.dev.below b, o.bel.trans (b.mono o.bel.size), o.abv, o.at_⟩
theorem Own.alloc (o : Own w0 w p H s) (x : Obj) : Own w0 (w.alloc x) p H s := o.below ((Below.refl _ _).alloc (Nat.le_refl _) _)
theorem Own.drewN (o : Own w0 w p H s) (n : Nat) : Own w0 (w.drewN n) p H s := o.below ⟨rfl, rfl, rfl, Nat.le_refl _, fun _ _ => rfl⟩
theorem Own.write (o : Own w0 w p H ⟨su, wt, -1, false⟩) (k : Nat) (c : UInt8) (hk : k < su.length) (hfew : wt.length < 1000000) :
    Calls Try.prog 12 #[.pointer (some ⟨p, 0, none⟩), .int .i64 k, .string (FS c)] w fun e w' => e = .returned (.int .i64 0) ∧ ∃ H', Own w0 w' p H' ⟨su, wt ++ [(k, fl c)], -1, false⟩ ∧ Turned H H' w w' := by
  have h := o.at_
  subst h
  refine (write_free o.dev k c hk hfew).mono ?_
  rintro e w' ⟨rfl, H', D, T⟩
  exact ⟨rfl, H', o.turned D T, T⟩
theorem Own.sync (o : Own w0 w p H ⟨su, wt, -1, false⟩) :
    Calls Try.prog 14 #[.pointer (some ⟨p, 0, none⟩)] w fun e w' => e = .returned (.int .i64 0) ∧ ∃ H', Own w0 w' p H' ⟨lay su wt, [], -1, false⟩ ∧ Turned H H' w w' := by
  have h := o.at_
  subst h
  refine (sync_free o.dev).mono ?_
  rintro e w' ⟨rfl, H', D, T⟩
  exact ⟨rfl, H', o.turned D T, T⟩
theorem Own.read (o : Own w0 w p H ⟨su, wt, -1, false⟩) (k : Nat) (c : UInt8) (hl : (lay su wt)[k]? = some (fl c)) :
    Calls Try.prog 18 #[.pointer (some ⟨p, 0, none⟩), .int .i64 k] w fun e w' => e = .returned (.tuple #[.string (FS c), .int .i64 0]) ∧ w' = w := by
  have h := o.at_
  subst h
  exact read_free o.dev k c hl
theorem Own.crash (o : Own w0 w p H s) (v : Value) (l : List (BitVec 64)) (hv : ReadsI w v l) (hll : l.length ≤ maxLen) :
    Calls Try.prog 16 #[.pointer (some ⟨p, 0, none⟩), v] w fun e w' => e = .returned (.int .i64 0) ∧ ∃ H', Own w0 w' p H' ⟨lay s.sure (keepW (among l) 0 s.wait), [], -1, false⟩ ∧ Turned H H' w w' := by
  have h := o.at_
  subst h
  refine (crash_any o.dev v l hv hll).mono ?_
  rintro e w' ⟨rfl, H', D, T⟩
  exact ⟨rfl, H', o.turned D T, T⟩
theorem Own.size (o : Own w0 w p H s) :
    Calls Try.prog 20 #[.pointer (some ⟨p, 0, none⟩)] w fun e w' => e = .returned (.int .i64 s.sure.length) ∧ w' = w := by
  have h := o.at_
  subst h
  exact o.dev.size w rfl
theorem Own.off (o : Own w0 w p H s) :
    Calls Try.prog 17 #[.pointer (some ⟨p, 0, none⟩)] w fun e w' => e = .returned (.bool s.off) ∧ w' = w := by
  have h := o.at_
  subst h
  exact off_any o.dev
end
theorem own_new {w w1 : World} {H : Hnd} {s : St} (D : DevIs w1 H s) (b : Below w.heap.size w w1) (a : ∀ k, H.foot k → w.heap.size ≤ k) : Own w w1 H.p H s := ⟨D, b, a, rfl⟩

set_option maxRecDepth 4000 in
set_option maxHeartbeats 4000000 in
theorem awake_any (w : World) :
    Calls Try.prog 9 #[] w fun e w' => e = .returned (.bool true) ∧ Below w.heap.size w w' := by
  have hn : ∀ n : Nat, St.new n = ⟨List.replicate n (List.replicate 128 0), [], -1, false⟩ := fun _ => rfl
  go_enter Try.func9, Try.ntmps9
  go_wp2_with fail
  refine (new_any 3 (by omega) (by omega) _).mono ?_
  rintro e w1 ⟨H1, rfl, D1, b1, a1⟩
  have O1 := own_new D1 b1 a1
  obtain ⟨p, hp⟩ : ∃ p, p = H1.p := ⟨_, rfl⟩
  rw [← hp] at O1 ⊢
  rw [hn] at O1
  obtain ⟨su, hsu⟩ : ∃ su, su = List.replicate 3 (List.replicate 128 (0 : UInt8)) := ⟨_, rfl⟩
  rw [← hsu] at O1
  have hl3 : su.length = 3 := by rw [hsu]; simp
  clear D1 b1 a1 hp hn hsu
  go_wp2_with fail
  refine (filled_str 97 _).mono ?_
  rintro e w2 ⟨rfl, b2⟩
  have O2 := O1.below b2
  clear O1 b2
  go_wp2_with fail
  refine (O2.write 1 97 (by omega) (by simp)).mono ?_
  rintro e w3 ⟨rfl, H3, O3, _⟩
  clear O2
  go_wp2_with fail
  refine O3.sync.mono ?_
  rintro e w4 ⟨rfl, H4, O4, _⟩
  clear O3
  have e4 : lay su ([] ++ [(1, fl 97)]) = su.set 1 (fl 97) := rfl
  rw [e4] at O4
  clear e4
  go_wp2_with fail
  refine (filled_str 98 _).mono ?_
  rintro e w5 ⟨rfl, b5⟩
  have O5 := O4.below b5
  clear O4 b5
  go_wp2_with fail
  refine (O5.write 1 98 (by rw [List.length_set]; omega) (by simp)).mono ?_
  rintro e w6 ⟨rfl, H6, O6, _⟩
  clear O5
  go_wp2_with fail
  refine (filled_str 99 _).mono ?_
  rintro e w7 ⟨rfl, b7⟩
  have O7 := O6.below b7
  clear O6 b7
  go_wp2_with fail
  refine (O7.write 2 99 (by rw [List.length_set]; omega) (by simp)).mono ?_
  rintro e w8 ⟨rfl, H8, O8, _⟩
  clear O7
  go_wp2_with fail
  refine ((O8.alloc _).crash _ [1#64] (reads_one w8 1#64 1 (by decide) 3) (by decide)).mono ?_
  rintro e w9 ⟨rfl, H9, O9, _⟩
  clear O8
  have e9 : keepW (among [1#64]) 0 ([] ++ [(1, fl 98)] ++ [(2, fl 99)]) = [(2, fl 99)] := by
    have h0 : among [1#64] 0 = false := by decide
    have h1 : among [1#64] 1 = true := by decide
    simp [keepW, h0, h1]
  simp only [e9] at O9
  have r1 : (lay (lay (su.set 1 (fl 97)) [(2, fl 99)]) [])[1]? = some (fl 97) := by
    show ((su.set 1 (fl 97)).set 2 (fl 99))[1]? = some (fl 97)
    rw [List.getElem?_set_ne (by omega), List.getElem?_set_self (by omega)]
  have r2 : (lay (lay (su.set 1 (fl 97)) [(2, fl 99)]) [])[2]? = some (fl 99) := by
    show ((su.set 1 (fl 97)).set 2 (fl 99))[2]? = some (fl 99)
    rw [List.getElem?_set_self (by rw [List.length_set]; omega)]
  have r3 : (lay (su.set 1 (fl 97)) [(2, fl 99)]).length = 3 := by rw [lay_len, List.length_set]; exact hl3
  clear e9
  go_wp2_with fail
  refine (O9.read 1 97 r1).mono ?_
  rintro e w10 ⟨rfl, rfl⟩
  go_wp2_with fail
  refine (O9.read 2 99 r2).mono ?_
  rintro e w11 ⟨rfl, rfl⟩
  go_wp2_with fail
  refine (filled_str 97 _).mono ?_
  rintro e w12 ⟨rfl, b12⟩
  have O12 := O9.below b12
  clear O9
  go_wp2_with fail
  refine (filled_str 99 _).mono ?_
  rintro e w13 ⟨rfl, b13⟩
  have O13 := O12.below b13
  clear O12
  go_wp2_with fail
  have cs := O13.size
  simp only [r3] at cs
  refine cs.mono ?_
  rintro e w14 ⟨rfl, rfl⟩
  have HB := O13.bel
  go_wp2
  go_ret
  exact ⟨rfl, HB⟩
end Go.Proofs.Ytmgodahdljnbmaa
