/-
  The contract of law 4's does: both sides do a call, and are in one state behind it.
-/
import Derived.Test.YtmgodahdljnbmaaDSame
namespace Go.Proofs.Ytmgodahdljnbmaa
open Go.RowKit

theorem Turned.after {H H' : Hnd} {a b c : World} (k : Below a.heap.size a b) (h : Turned H H' b c) : Turned H H' a c :=
  ⟨h.p, (kept_of_below H.foot k).trans h.kept (fun _ hx => .inl hx), fun x hx => by
    rcases h.foot x hx with h1 | h1
    · exact .inl h1
    · exact .inr (Nat.le_trans k.size h1)⟩
/-- Both sides, in one state. -/
structure Both (w : World) (H : Hnd) (R : RH) (s : St) : Prop where
  dev : DevIs w H s
  ref : RefIs w H.foot R s.sure s.wait
section
variable {w w' : World} {H H' : Hnd} {R R' : RH} {s s' : St}
theorem Both.below (b : Both w H R s) (k : Below w.heap.size w w') : Both w' H R s := ⟨b.dev.below k, b.ref.below k⟩
theorem Both.lt (b : Both w H R s) : ∀ k, H.foot k → k < w.heap.size := fun _ hk => b.dev.lt hk
/-- The device is turned behind the document's one. -/
theorem Both.turn {su : List (List UInt8)} {wt : List (Nat × List UInt8)} (D : DevIs w' H' s') (T : Turned H H' w w') (r : RefIs w H.foot R' su wt) (h1 : su = s'.sure) (h2 : wt = s'.wait) : Both w' H' R' s' := by
  subst h1 h2
  have r2 : RefIs w H'.foot R' s'.sure s'.wait := r.grow (fun k hk h hf => by
    rcases T.foot k hf with h1 | h1
    · exact h h1
    · omega)
  refine ⟨D, ⟨r.sure.kept T.kept fun g hg => r.g1 g hg, r.wait.kept T.kept fun g hg => r.g2 g hg, r2.g1, r2.g2⟩⟩
end
def St.fz (s : St) : Int := max s.fuse (-1)
theorem max_beq (f : Int) : (max f (-1) == 0) = (f == 0) := by rw [Bool.eq_iff_iff]; simp; omega
theorem fz_goes (s : St) (su : List (List UInt8)) (wt : List (Nat × List UInt8)) : St.goes ⟨su, wt, s.fz, s.off⟩ = s.goes := by
  obtain ⟨sure, wait, f, o⟩ := s
  show (!o && !(max f (-1) == 0)) = (!o && !(f == 0))
  rw [max_beq]
theorem fz_burnt (s : St) (su : List (List UInt8)) (wt : List (Nat × List UInt8)) : (St.burnt ⟨su, wt, s.fz, s.off⟩).fuse = s.burnt.fz ∧ (St.burnt ⟨su, wt, s.fz, s.off⟩).off = s.burnt.off := by
  obtain ⟨sure, wait, f, o⟩ := s
  refine ⟨?_, ?_⟩
  · show (if o = true then max f (-1) else if max f (-1) = 0 then -1 else if 0 < max f (-1) then max f (-1) - 1 else max f (-1)) = max (if o = true then f else if f = 0 then -1 else if 0 < f then f - 1 else f) (-1)
    cases o with
    | true => rfl
    | false =>
      simp only [Bool.false_eq_true, if_false]
      by_cases h0 : f = 0
      · subst h0; rfl
      · rw [if_neg (by omega), if_neg h0]
        by_cases hp : 0 < f
        · rw [if_pos (by omega), if_pos hp]; omega
        · rw [if_neg (by omega), if_neg hp]
  · show (o || (max f (-1) == 0)) = (o || (f == 0))
    rw [max_beq]
theorem fz_bound {w : World} {H : Hnd} {s : St} (D : DevIs w H s) : -9223372036854775808 ≤ s.fz ∧ s.fz < 9223372036854775808 := by
  have := D.fz
  unfold St.fz
  omega
/-- The three variables that does has in memory. -/
structure Door (w w1 : World) (q a : Array Value) : Prop where
  bq : Box w1 w.heap.size 30 q
  ba : Box w1 (w.heap.size + 1) 35 a
  bz : Box w1 (w.heap.size + 1 + 1) 30 (rd none 0 0 none 0 0 0 false)
  bel : Below w.heap.size w w1
theorem Door.over {w w1 w2 : World} {q a : Array Value} (d : Door w w1 q a) (b : Below w1.heap.size w1 w2) : Door w w2 q a := ⟨d.bq.over b, d.ba.over b, d.bz.over b, d.bel.trans (b.mono d.bel.size)⟩
theorem door_new {w w1 : World} {q a : Array Value} (hb : Below (((w.alloc (.cells q 30)).alloc (.cells a 35)).alloc (.cells (rd none 0 0 none 0 0 0 false) 30)).heap.size (((w.alloc (.cells q 30)).alloc (.cells a 35)).alloc (.cells (rd none 0 0 none 0 0 0 false) 30)) w1) : Door w w1 q a := by
  have h3 := heap3 w (.cells q 30) (.cells a 35) (.cells (rd none 0 0 none 0 0 0 false) 30)
  refine ⟨Box.over (w := ((w.alloc _).alloc _).alloc _) h3.1 hb, Box.over (w := ((w.alloc _).alloc _).alloc _) h3.2.1 hb, Box.over (w := ((w.alloc _).alloc _).alloc _) h3.2.2 hb, ?_⟩
  have h4 : Below w.heap.size w (((w.alloc (.cells q 30)).alloc (.cells a 35)).alloc (.cells (rd none 0 0 none 0 0 0 false) 30)) := (((Below.refl _ w).alloc (Nat.le_refl _) _).alloc (by simp) _).alloc (by simp; omega) _
  exact h4.trans (hb.mono h4.size)
/-- What does answers, whatever the call is. -/
def DoesAns (w : World) (H : Hnd) (s : St) (e : Ending) (w' : World) : Prop :=
  ∃ H' R' s', e = .returned (.tuple #[.agg #[.slice R'.sa s'.sure.length R'.sc, .slice R'.wa s'.wait.length R'.wc, .int .i64 s'.fz, .bool s'.off], .bool true]) ∧ Both w' H' R' s' ∧ Turned H H' w w' ∧ s'.wait.length ≤ s.wait.length + 1 ∧ s'.sure.length = s.sure.length
/-- The end: the result lies in the block z, which was noughts. -/
theorem box_four {w : World} {z : Nat} {t : TypeId} {c : Array Value} (h : Box w z t c) (hc : c.size = 4) (a b d e : Value) : Box ((((w.setCell ⟨z, 0, none⟩ a).setCell ⟨z, 1, none⟩ b).setCell ⟨z, 2, none⟩ d).setCell ⟨z, 3, none⟩ e) z t #[a, b, d, e] := by
  have := (((h.set 0 a).set 1 b).set 2 d).set 3 e
  obtain ⟨l⟩ := c
  match l, hc with
  | [_, _, _, _], _ => exact this
theorem kept_four {F : Nat → Prop} {a w : World} (h : Kept F a w) {z : Nat} (hz : F z ∨ a.heap.size ≤ z) (x y u v : Value) : Kept F a ((((w.setCell ⟨z, 0, none⟩ x).setCell ⟨z, 1, none⟩ y).setCell ⟨z, 2, none⟩ u).setCell ⟨z, 3, none⟩ v) :=
  (((h.setCell (p := ⟨z, 0, none⟩) hz x).setCell (p := ⟨z, 1, none⟩) hz y).setCell (p := ⟨z, 2, none⟩) hz u).setCell (p := ⟨z, 3, none⟩) hz v
end Go.Proofs.Ytmgodahdljnbmaa
