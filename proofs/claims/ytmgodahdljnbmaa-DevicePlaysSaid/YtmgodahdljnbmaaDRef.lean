/-
  The document's device (package peristyleref04) as a value: its lists in memory; the contracts of in, done, Fuse and has.
-/
import Derived.Test.YtmgodahdljnbmaaDFree
namespace Go.Proofs.Ytmgodahdljnbmaa
open Go.RowKit

def s1 (b : List UInt8) : List Value := [.string (strB b)]
def w2 (x : Nat × List UInt8) : List Value := [.int .i64 x.1, .string (strB x.2)]

/-- The two slices of the document's device. -/
structure RH where
  sa : Option Addr
  sc : Nat
  wa : Option Addr
  wc : Nat
/-- The lists lie in blocks of which none is G's. -/
structure RefIs (w : World) (G : Nat → Prop) (R : RH) (su : List (List UInt8)) (wt : List (Nat × List UInt8)) : Prop where
  sure : SRows w (.slice R.sa su.length R.sc) 9 1 (su.map s1)
  wait : SRows w (.slice R.wa wt.length R.wc) 67 2 (wt.map w2)
  g1 : ∀ k, (Value.slice R.sa su.length R.sc).ownBlock = some k → ¬ G k
  g2 : ∀ k, (Value.slice R.wa wt.length R.wc).ownBlock = some k → ¬ G k
section
variable {w w' : World} {G G' F : Nat → Prop} {R : RH} {su : List (List UInt8)} {wt : List (Nat × List UInt8)}
theorem RefIs.kept (r : RefIs w G R su wt) (k : Kept F w w') (hF : ∀ x, ¬ G x → ¬ F x) : RefIs w' G R su wt :=
  ⟨r.sure.kept k fun g hg => hF g (r.g1 g hg), r.wait.kept k fun g hg => hF g (r.g2 g hg), r.g1, r.g2⟩
theorem RefIs.below (r : RefIs w G R su wt) (b : Below w.heap.size w w') : RefIs w' G R su wt := r.kept (kept_of_below (fun _ => False) b) (fun _ _ h => h)
theorem RefIs.grow (r : RefIs w G R su wt) (h : ∀ k, k < w.heap.size → ¬ G k → ¬ G' k) : RefIs w G' R su wt :=
  ⟨r.sure, r.wait, fun k hk => h k (r.sure.lt hk) (r.g1 k hk), fun k hk => h k (r.wait.lt hk) (r.g2 k hk)⟩
end

theorem in_any (sa : Option Addr) (n sc : Nat) (wa : Option Addr) (m wc : Nat) (f : Int) (o : Bool) (at_ : Int) (w : World) :
    Calls Try.prog 35 #[.agg #[.slice sa n sc, .slice wa m wc, .int .i64 f, .bool o], .int .i64 at_] w fun e w' => e = .returned (.bool (decide (0 ≤ at_ ∧ at_ < n))) ∧ Below w.heap.size w w' := by
  by_cases h : 0 ≤ at_
  · go_enter Try.func35, Try.ntmps35
    go_wp2
    go_ret
    refine ⟨by simp [h], (Below.refl _ _).alloc (Nat.le_refl _) _⟩
  · go_enter Try.func35, Try.ntmps35
    go_wp2
    go_ret
    refine ⟨by simp; omega, (Below.refl _ _).alloc (Nat.le_refl _) _⟩

theorem done_is (sa : Option Addr) (n sc : Nat) (wa : Option Addr) (m wc : Nat) (f : Int) (o : Bool) (f' : Int) (o' : Bool) (b : Bool) (hz : -9223372036854775808 ≤ f ∧ f < 9223372036854775808)
    (h : (o = true ∧ f' = f ∧ o' = true ∧ b = false) ∨ (o = false ∧ f = 0 ∧ f' = -1 ∧ o' = true ∧ b = false) ∨ (o = false ∧ 0 < f ∧ f' = f - 1 ∧ o' = false ∧ b = true) ∨ (o = false ∧ f < 0 ∧ f' = f ∧ o' = false ∧ b = true)) (w : World) :
    Calls Try.prog 36 #[.agg #[.slice sa n sc, .slice wa m wc, .int .i64 f, .bool o]] w fun e w' => e = .returned (.tuple #[.agg #[.slice sa n sc, .slice wa m wc, .int .i64 f', .bool o'], .bool b]) ∧ Below w.heap.size w w' := by
  have hb2 : ∀ A B : Obj, Below w.heap.size w ((w.alloc A).alloc B) := fun A B => ((Below.refl _ w).alloc (Nat.le_refl _) _).alloc (by simp) _
  rcases h with ⟨rfl, rfl, rfl, rfl⟩ | ⟨rfl, rfl, rfl, rfl, rfl⟩ | ⟨rfl, h1, rfl, rfl, rfl⟩ | ⟨rfl, h1, rfl, rfl, rfl⟩
  · clear hz
    go_enter Try.func36, Try.ntmps36
    go_wp2
    exact bodyPost_ret (v := .tuple #[.agg #[.slice sa n sc, .slice wa m wc, .int .i64 f', .bool true], .bool false]) (by simp [results, Try.results36, go_sem]) rfl ⟨rfl, hb2 _ _⟩
  · clear hz
    go_enter Try.func36, Try.ntmps36
    go_wp2
    exact bodyPost_ret (v := .tuple #[.agg #[.slice sa n sc, .slice wa m wc, .int .i64 (-1), .bool true], .bool false]) (by simp [results, Try.results36, go_sem]) rfl ⟨rfl, hb2 _ _⟩
  · have h0 : ¬ f = 0 := by omega
    have h00 : (f == 0) = false := by simpa using h0
    have r1 : wrap64 (f - 1) = f - 1 := by unfold wrap64; omega
    clear hz
    go_enter Try.func36, Try.ntmps36
    go_wp2
    exact bodyPost_ret (v := .tuple #[.agg #[.slice sa n sc, .slice wa m wc, .int .i64 (f - 1), .bool false], .bool true]) (by simp [results, Try.results36, go_sem]) rfl ⟨rfl, hb2 _ _⟩
  · have h0 : ¬ f' = 0 := by omega
    have h00 : (f' == 0) = false := by simpa using h0
    have h2 : ¬ 0 < f' := by omega
    clear hz
    go_enter Try.func36, Try.ntmps36
    go_wp2
    exact bodyPost_ret (v := .tuple #[.agg #[.slice sa n sc, .slice wa m wc, .int .i64 f', .bool false], .bool true]) (by simp [results, Try.results36, go_sem]) rfl ⟨rfl, hb2 _ _⟩
theorem done_any (sa : Option Addr) (n sc : Nat) (wa : Option Addr) (m wc : Nat) (s : St) (hz : -9223372036854775808 ≤ s.fuse ∧ s.fuse < 9223372036854775808) (w : World) :
    Calls Try.prog 36 #[.agg #[.slice sa n sc, .slice wa m wc, .int .i64 s.fuse, .bool s.off]] w fun e w' => e = .returned (.tuple #[.agg #[.slice sa n sc, .slice wa m wc, .int .i64 s.burnt.fuse, .bool s.burnt.off], .bool s.goes]) ∧ Below w.heap.size w w' := by
  refine done_is sa n sc wa m wc _ _ _ _ _ hz ?_ w
  obtain ⟨sure, wait, f, o⟩ := s
  cases o with
  | true => left; simp [St.burnt, St.goes]
  | false =>
    right
    by_cases h0 : f = 0
    · left; simp [St.burnt, St.goes, h0]
    · right
      by_cases hp : 0 < f
      · left; simp [St.burnt, St.goes, h0, hp]
      · right
        simp [St.burnt, St.goes, h0, hp]
        omega
theorem rfuse_any (sa : Option Addr) (n sc : Nat) (wa : Option Addr) (m wc : Nat) (f : Int) (o : Bool) (k : Int) (w : World) :
    Calls Try.prog 24 #[.agg #[.slice sa n sc, .slice wa m wc, .int .i64 f, .bool o], .int .i64 k] w fun e w' => e = .returned (.agg #[.slice sa n sc, .slice wa m wc, .int .i64 (max k (-1)), .bool o]) ∧ Below w.heap.size w w' := by
  have hb2 : ∀ A B : Obj, Below w.heap.size w ((w.alloc A).alloc B) := fun A B => ((Below.refl _ w).alloc (Nat.le_refl _) _).alloc (by simp) _
  by_cases h : -1 ≤ k
  · have hm : max k (-1) = k := by omega
    rw [hm]
    clear hm
    go_enter Try.func24, Try.ntmps24
    go_wp2
    exact bodyPost_ret (v := .agg #[.slice sa n sc, .slice wa m wc, .int .i64 k, .bool o]) (by simp [results, Try.results24, go_sem]) rfl ⟨rfl, hb2 _ _⟩
  · have hm : max k (-1) = -1 := by omega
    rw [hm]
    clear hm
    go_enter Try.func24, Try.ntmps24
    go_wp2
    exact bodyPost_ret (v := .agg #[.slice sa n sc, .slice wa m wc, .int .i64 (-1), .bool o]) (by simp [results, Try.results24, go_sem]) rfl ⟨rfl, hb2 _ _⟩
theorem has_is (w : World) (v : Value) (l : List (BitVec 64)) (hv : ReadsI w v l) (hll : l.length ≤ maxLen) (i : Nat) :
    Calls Try.prog 38 #[v, .int .i64 i] w fun e w' => e = .returned (.bool (among l i)) ∧ w' = w := by
  obtain ⟨av, cv, rfl, hread⟩ := reads_at hv
  have hL : (l.length : Int) ≤ 9223372036854775807 := by simp only [maxLen] at hll; omega
  clear hv hll
  go_enter Try.func38, Try.ntmps38
  go_wp2
  go_loopg [4, 5] l.length (fun g s4 s5 wx => ∃ j : Nat, j + g = l.length ∧ s5 = .int .i64 j ∧ among (l.take j) i = false ∧ wx = w)
  case atStart => exact ⟨0, by omega, rfl, rfl, rfl⟩
  case round =>
    obtain ⟨j, hjg, rfl, hno, rfl⟩ := hrel
    by_cases hj : j < l.length
    · have hjI : (j : Int) < (l.length : Int) := by omega
      obtain ⟨b, off, rfl, hbw, hcell⟩ := hread j hj
      have hst := among_step l j hj i
      rw [hno, Bool.false_or] at hst
      obtain ⟨z, hzz⟩ : ∃ z, z = (l.getD j 0#64).toInt := ⟨_, rfl⟩
      rw [← hzz] at hcell hst
      have hmem : z = (i : Int) → among l i = true := by
        intro e
        unfold among
        rw [List.any_eq_true]
        refine ⟨l.getD j 0#64, ?_, by rw [← hzz, e]; simp⟩
        simp [hj]
      have hr2 : IntKind.i64.wrap ((j : Int) + 1) = (j : Int) + 1 := by rw [IntKind.wrap_i64]; omega
      have HS : Hid (among (l.take (j + 1)) i = (z == (i : Int))) := hst
      have HM : Hid (z = (i : Int) → among l i = true) := hmem
      clear hst hmem hzz hread hno
      by_cases hz : z = (i : Int)
      · have hzb : (z == (i : Int)) = true := by simpa using hz
        clear hz
        go_wp2
        go_ret
        rw [HM.out (by simpa using hzb)]
        exact ⟨rfl, rfl⟩
      · have hzb : (z == (i : Int)) = false := by simpa using hz
        clear hz
        go_wp2
        go_roundg (l.length - (j + 1))
        case measure => clear hr2; omega
        case rel => exact ⟨j + 1, by clear hr2; omega, by go_num, by rw [HS.out]; exact hzb, rfl⟩
    · have hjI : ¬ (j : Int) < (l.length : Int) := by omega
      rw [List.take_of_length_le (by omega)] at hno
      have HN : Hid (among l i = false) := hno
      clear hread hno
      go_wp2
      go_ret
      rw [HN.out]
      exact ⟨rfl, rfl⟩
end Go.Proofs.Ytmgodahdljnbmaa
