/-
  A device in memory, and the contracts of its small methods: Size, given, has, fits, Off, Fuse, goesOn, Read.
-/
import Derived.Test.YtmgodahdljnbmaaRows
import Derived.Test.YtmgodahdljnbmaaDMem
import Derived.Test.YtmgodahdljnbmaaDPure
namespace Go.Proofs.Ytmgodahdljnbmaa
open Go.RowKit

def bcells (l : List UInt8) : List Value := l.map fun b => .int .u8 b.toNat
def wcells (x : Nat × List UInt8) : List Value := .int .i64 x.1 :: bcells x.2
theorem bcells_len (l : List UInt8) : (bcells l).length = l.length := by simp [bcells]
theorem bcells_one (l : List UInt8) : ∀ v ∈ bcells l, v.oneCell' = true := by
  intro v hv
  simp only [bcells, List.mem_map] at hv
  obtain ⟨x, _, rfl⟩ := hv
  rfl
theorem wcells_one (x : Nat × List UInt8) : ∀ v ∈ wcells x, v.oneCell' = true := by
  intro v hv
  rcases List.mem_cons.1 hv with rfl | hv
  · rfl
  · exact bcells_one _ v hv

structure Hnd where
  p : Nat
  bs : Nat
  bn : Nat
  wv : Value
def Hnd.foot (H : Hnd) (k : Nat) : Prop := k = H.p ∨ k = H.bs ∨ k = H.bn ∨ H.wv.ownBlock = some k

structure DevIs (w : World) (H : Hnd) (s : St) : Prop where
  dev : w.heap[H.p]? = some (.cells #[.slice (some ⟨H.bs, 0, none⟩) s.sure.length s.sure.length, .slice (some ⟨H.bn, 0, none⟩) s.sure.length s.sure.length, H.wv, .int .i64 s.fuse, .bool s.off] 56 (0, 0))
  sure : Rows w H.bs 70 (s.sure.length * 128) 128 (s.sure.map bcells)
  seen : Rows w H.bn 70 (s.sure.length * 128) 128 ((lay s.sure s.wait).map bcells)
  wait : SRows w H.wv 72 129 (s.wait.map wcells)
  d1 : H.p ≠ H.bs
  d2 : H.p ≠ H.bn
  d3 : H.bs ≠ H.bn
  d4 : ∀ k, H.wv.ownBlock = some k → k ≠ H.p ∧ k ≠ H.bs ∧ k ≠ H.bn
  pos : 1 ≤ s.sure.length
  top : s.sure.length ≤ 4096
  ats : ∀ x ∈ s.wait, x.1 < s.sure.length ∧ x.2.length = 128
  blk : ∀ b ∈ s.sure, b.length = 128
  fz : -9223372036854775808 ≤ s.fuse ∧ s.fuse < 9223372036854775808
  few : s.wait.length ≤ 1000000
section
variable {w w' : World} {H : Hnd} {s : St}
theorem DevIs.cell (D : DevIs w H s) (k : Nat) : w.cell? ⟨H.p, k, none⟩ = (#[Value.slice (some ⟨H.bs, 0, none⟩) s.sure.length s.sure.length, .slice (some ⟨H.bn, 0, none⟩) s.sure.length s.sure.length, H.wv, .int .i64 s.fuse, .bool s.off])[k]? :=
  cell_of_row w H.p k _ _ _ D.dev
theorem DevIs.c0 (D : DevIs w H s) : w.cell? ⟨H.p, 0, none⟩ = some (.slice (some ⟨H.bs, 0, none⟩) s.sure.length s.sure.length) := D.cell 0
theorem DevIs.c1 (D : DevIs w H s) : w.cell? ⟨H.p, 1, none⟩ = some (.slice (some ⟨H.bn, 0, none⟩) s.sure.length s.sure.length) := D.cell 1
theorem DevIs.c2 (D : DevIs w H s) : w.cell? ⟨H.p, 2, none⟩ = some H.wv := D.cell 2
theorem DevIs.c3 (D : DevIs w H s) : w.cell? ⟨H.p, 3, none⟩ = some (.int .i64 s.fuse) := D.cell 3
theorem DevIs.c4 (D : DevIs w H s) : w.cell? ⟨H.p, 4, none⟩ = some (.bool s.off) := D.cell 4
theorem DevIs.fr (D : DevIs w H s) (k : Nat) : w.frozen? ⟨H.p, k, none⟩ = false := frozen_of_row w H.p k _ _ D.dev
theorem DevIs.lt (D : DevIs w H s) {k : Nat} (hk : H.foot k) : k < w.heap.size := by
  rcases hk with rfl | rfl | rfl | hk
  · exact (Array.getElem?_eq_some_iff.1 D.dev).1
  · exact D.sure.lt
  · exact D.seen.lt
  · exact D.wait.lt hk
/-- What leaves the device's blocks as they were leaves the device. -/
theorem DevIs.kept {F : Nat → Prop} (D : DevIs w H s) (k : Kept F w w') (hF : ∀ x, H.foot x → ¬ F x) : DevIs w' H s :=
  { D with
    dev := by rw [k.block H.p (D.lt (.inl rfl)) (hF _ (.inl rfl))]; exact D.dev
    sure := D.sure.kept k (hF _ (.inr (.inl rfl)))
    seen := D.seen.kept k (hF _ (.inr (.inr (.inl rfl))))
    wait := D.wait.kept k fun g hg => hF _ (.inr (.inr (.inr hg))) }
theorem DevIs.below (D : DevIs w H s) (b : Below w.heap.size w w') : DevIs w' H s := D.kept (kept_of_below (fun _ => False) b) (fun _ _ h => h)
theorem DevIs.drewN (D : DevIs w H s) (n : Nat) : DevIs (w.drewN n) H s := D.kept ((Kept.refl (fun _ => False) w).drewN n) (fun _ _ h => h)
end

/-- The same device behind a call that turned it. -/
structure Turned (H H' : Hnd) (w w' : World) : Prop where
  p : H'.p = H.p
  kept : Kept H.foot w w'
  foot : ∀ k, H'.foot k → H.foot k ∨ w.heap.size ≤ k
theorem Turned.refl (H : Hnd) (w : World) : Turned H H w w := ⟨rfl, Kept.refl _ _, fun _ h => .inl h⟩
theorem Turned.trans {H H' H'' : Hnd} {a b c : World} (h : Turned H H' a b) (k : Turned H' H'' b c) : Turned H H'' a c :=
  ⟨k.p.trans h.p, h.kept.trans k.kept h.foot, fun x hx => by
    rcases k.foot x hx with h1 | h1
    · exact h.foot x h1
    · exact .inr (Nat.le_trans h.kept.size h1)⟩
theorem Turned.of_below {H H' : Hnd} {a b c : World} (h : Turned H H' a b) (k : Below b.heap.size b c) : Turned H H' a c :=
  ⟨h.p, h.kept.trans (kept_of_below (fun _ => False) k) (fun _ h => h.elim), h.foot⟩
theorem Turned.below {H H' : Hnd} {w w' : World} {B : Nat} (h : Turned H H' w w') (hF : ∀ k, H.foot k → B ≤ k) (hB : B ≤ w.heap.size) : Below B w w' := h.kept.below hF hB
theorem Turned.above {H H' : Hnd} {w w' : World} {B : Nat} (h : Turned H H' w w') (hF : ∀ k, H.foot k → B ≤ k) (hB : B ≤ w.heap.size) : ∀ k, H'.foot k → B ≤ k := fun k hk => by
  rcases h.foot k hk with h1 | h1
  · exact hF k h1
  · omega

/-! ### Size, given, has, fits -/
theorem size_some (p : Nat) (a : Option Addr) (n c : Nat) (w : World) (hc : w.cell? ⟨p, 0, none⟩ = some (.slice a n c)) :
    Calls Try.prog 20 #[.pointer (some ⟨p, 0, none⟩)] w fun e w' => e = .returned (.int .i64 n) ∧ w' = w := by
  go_enter Try.func20, Try.ntmps20
  go_wp2
  go_ret
  exact ⟨rfl, rfl⟩
theorem size_nil (w : World) :
    Calls Try.prog 20 #[.pointer none] w fun e w' => e = .returned (.int .i64 0) ∧ w' = w := by
  go_enter Try.func20, Try.ntmps20
  go_wp2
  go_ret
  exact ⟨rfl, rfl⟩
/-- The methods' answers hang on the size alone. -/
def SizeIs (d : Value) (n : Nat) (w : World) : Prop := ∀ w', w'.heap = w.heap → Calls Try.prog 20 #[d] w' fun e w'' => e = .returned (.int .i64 n) ∧ w'' = w'
theorem sizeIs_nil (w : World) : SizeIs (.pointer none) 0 w := fun w' _ => size_nil w'
theorem sizeIs_some (p : Nat) (a : Option Addr) (n c : Nat) (w : World) (hc : w.cell? ⟨p, 0, none⟩ = some (.slice a n c)) : SizeIs (.pointer (some ⟨p, 0, none⟩)) n w :=
  fun w' h => size_some p a n c w' (by rw [← hc]; simp [World.cell?, h])
theorem given_any (d : Value) (n : Nat) (w : World) (hs : SizeIs d n w) :
    Calls Try.prog 31 #[d] w fun e w' => e = .returned (.bool (decide (0 < n))) ∧ w' = w := by
  have c := hs w rfl
  go_enter Try.func31, Try.ntmps31
  go_wp2_with (go_at_call 20; refine c.mono ?_; rintro e w1 ⟨rfl, hw1⟩; subst hw1)
  go_ret
  simp
theorem has_any (d : Value) (n : Nat) (at_ : Int) (w : World) (hs : SizeIs d n w) :
    Calls Try.prog 32 #[d, .int .i64 at_] w fun e w' => e = .returned (.bool (decide (0 ≤ at_ ∧ at_ < n))) ∧ w' = w := by
  have c := hs w rfl
  by_cases h : 0 ≤ at_
  · go_enter Try.func32, Try.ntmps32
    go_wp2_with (go_at_call 20; refine c.mono ?_; rintro e w1 ⟨rfl, hw1⟩; subst hw1)
    go_ret
    simp [h]
  · go_enter Try.func32, Try.ntmps32
    go_wp2_with (go_at_call 20; refine c.mono ?_; rintro e w1 ⟨rfl, hw1⟩; subst hw1)
    go_ret
    simp
    omega
theorem fits_any (d : Value) (n : Nat) (at_ : Int) (str : ByteArray) (w : World) (hs : SizeIs d n w) :
    Calls Try.prog 29 #[d, .int .i64 at_, .string str] w fun e w' => e = .returned (.bool (decide ((0 ≤ at_ ∧ at_ < n) ∧ str.size = 128))) ∧ w' = w := by
  have c := has_any d n at_ w hs
  have e8 : ((str.size : Int) == 128) = decide (str.size = 128) := by rw [Bool.eq_iff_iff]; simp; omega
  by_cases h : 0 ≤ at_ ∧ at_ < n
  · have hd : decide (0 ≤ at_ ∧ at_ < n) = true := by simp [h]
    rw [hd] at c
    go_enter Try.func29, Try.ntmps29
    go_wp2_with (go_at_call 32; refine c.mono ?_; rintro e w1 ⟨rfl, hw1⟩; subst hw1)
    go_ret
    simp [h]
  · have hd : decide (0 ≤ at_ ∧ at_ < n) = false := by simpa using h
    rw [hd] at c
    go_enter Try.func29, Try.ntmps29
    go_wp2_with (go_at_call 32; refine c.mono ?_; rintro e w1 ⟨rfl, hw1⟩; subst hw1)
    go_ret
    simp [h]
theorem DevIs.size {w : World} {H : Hnd} {s : St} (D : DevIs w H s) : SizeIs (.pointer (some ⟨H.p, 0, none⟩)) s.sure.length w := sizeIs_some _ _ _ _ _ D.c0
end Go.Proofs.Ytmgodahdljnbmaa
