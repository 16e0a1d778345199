/-
  Rows of cells in memory; the contracts of at (package cell's and the document's), and of the document's Compare, Light and Same.
-/
import Derived.Test.YtjkkkdehmgfmeaaDoorKChk
import Derived.Test.YtjkkkdehmgfmeaaDoorSApp
import Derived.Deep.MidRow
import Derived.Deep.LoopGhost
namespace Go.Proofs.YtjkkkdehmgfmeaaDoor
open Go.RowKit

/-- The cell c lies at b, from o on. -/
structure CellAt (w : World) (b o : Nat) (c : Cl) : Prop where
  c0 : w.cell? ⟨b, o, none⟩ = some (.int .i64 c.k)
  c1 : w.cell? ⟨b, o + 1, none⟩ = some (.int .i64 c.n)
  c2 : w.cell? ⟨b, o + 2, none⟩ = some (.string c.s)
theorem CellAt.below {w w' : World} {b o : Nat} {c : Cl} (h : CellAt w b o c) (hb : b < w.heap.size) (k : Below w.heap.size w w') : CellAt w' b o c :=
  ⟨(k.cell (p := ⟨b, o, none⟩) hb).trans h.c0, (k.cell (p := ⟨b, o + 1, none⟩) hb).trans h.c1, (k.cell (p := ⟨b, o + 2, none⟩) hb).trans h.c2⟩
/-- A slice of cells reads as r. -/
def RowIs (w : World) (v : Value) (r : List Cl) : Prop :=
  ∃ a cap, v = .slice a r.length cap ∧ (r ≠ [] → ∃ b off, a = some ⟨b, off, none⟩ ∧ b < w.heap.size ∧ ∀ i c, r[i]? = some c → CellAt w b (off + i * 3) c)
theorem RowIs.below {w w' : World} {v : Value} {r : List Cl} (h : RowIs w v r) (k : Below w.heap.size w w') : RowIs w' v r := by
  obtain ⟨a, cap, rfl, h⟩ := h
  refine ⟨a, cap, rfl, fun hr => ?_⟩
  obtain ⟨b, off, rfl, hb, hc⟩ := h hr
  exact ⟨b, off, rfl, Nat.lt_of_lt_of_le hb k.size, fun i c hi => (hc i c hi).below hb k⟩
/-- What stands in a column of a row. -/
def atC (r : List Cl) (k : Int) : Cl := if 0 ≤ k then r.getD k.toNat cl0 else cl0

set_option maxHeartbeats 1000000 in
theorem at_any (w : World) (v : Value) (r : List Cl) (h : RowIs w v r) (k : Int) (hk64 : k < 9223372036854775808) :
    Calls Tryd.prog 31 #[v, .int .i64 k] w fun e w' => e = .returned (cv (atC r k)) ∧ Below w.heap.size w w' := by
  obtain ⟨a, cap, rfl, h⟩ := h
  by_cases h0 : k < 0
  · have HE : Hid (atC r k = cl0) := by unfold Hid atC; rw [if_neg (by omega)]
    clear h hk64
    go_enter Tryd.func31, Tryd.ntmps31
    go_wp2
    rw [HE.out]
    exact bodyPost_ret (v := cv cl0) (by simp [results, Tryd.results31, go_sem, cl0]) rfl ⟨rfl, below1 _ _⟩
  · by_cases h1 : k < (r.length : Int)
    · have hne : r ≠ [] := by rintro rfl; simp at h1; omega
      obtain ⟨b, off, rfl, hb, hc⟩ := h hne
      obtain ⟨i, rfl⟩ : ∃ i : Nat, k = (i : Int) := ⟨k.toNat, by omega⟩
      obtain ⟨c, hi⟩ : ∃ c, r[i]? = some c := ⟨_, List.getElem?_eq_getElem (by omega)⟩
      have hx := (hc i c hi).below hb (below1 w (.cells #[.int .i64 0, .int .i64 0, .string ⟨#[]⟩] 23))
      have q0 := hx.c0
      have q1 := hx.c1
      have q2 := hx.c2
      have HE : Hid (atC r i = c) := by unfold Hid atC; rw [if_pos (by omega), Int.toNat_natCast, List.getD_eq_getElem?_getD, hi]; rfl
      have hne2 : b ≠ w.heap.size := by omega
      have hiI : ¬ (r.length : Int) ≤ (i : Int) := by omega
      have hiN : i < r.length := by omega
      clear h hc hi hx hne hk64
      obtain ⟨n, hn⟩ : ∃ n, n = r.length := ⟨_, rfl⟩
      rw [← hn] at h1 hiI hiN
      rw [← hn]
      clear hn
      go_enter Tryd.func31, Tryd.ntmps31
      go_wp2
      rw [HE.out]
      exact bodyPost_ret (v := cv c) (by simp [results, Tryd.results31, go_sem]) rfl ⟨rfl, below1 _ _⟩
    · have HE : Hid (atC r k = cl0) := by
        unfold Hid atC; rw [if_pos (by omega), List.getD_eq_getElem?_getD, List.getElem?_eq_none (by omega)]; rfl
      have h2 : (r.length : Int) ≤ k := by omega
      clear h hk64
      go_enter Tryd.func31, Tryd.ntmps31
      go_wp2
      rw [HE.out]
      exact bodyPost_ret (v := cv cl0) (by simp [results, Tryd.results31, go_sem, cl0]) rfl ⟨rfl, below1 _ _⟩
set_option maxHeartbeats 1000000 in
theorem refAt_any (w : World) (v : Value) (r : List Cl) (h : RowIs w v r) (k : Int) (hk64 : k < 9223372036854775808) :
    Calls Tryd.prog 32 #[v, .int .i64 k] w fun e w' => e = .returned (cv (atC r k)) ∧ Below w.heap.size w w' := by
  obtain ⟨a, cap, rfl, h⟩ := h
  by_cases h0 : k < 0
  · have HE : Hid (atC r k = cl0) := by unfold Hid atC; rw [if_neg (by omega)]
    clear h hk64
    go_enter Tryd.func32, Tryd.ntmps32
    go_wp2
    rw [HE.out]
    exact bodyPost_ret (v := cv cl0) (by simp [results, Tryd.results32, go_sem, cl0]) rfl ⟨rfl, below1 _ _⟩
  · by_cases h1 : k < (r.length : Int)
    · have hne : r ≠ [] := by rintro rfl; simp at h1; omega
      obtain ⟨b, off, rfl, hb, hc⟩ := h hne
      obtain ⟨i, rfl⟩ : ∃ i : Nat, k = (i : Int) := ⟨k.toNat, by omega⟩
      obtain ⟨c, hi⟩ : ∃ c, r[i]? = some c := ⟨_, List.getElem?_eq_getElem (by omega)⟩
      have hx := (hc i c hi).below hb (below1 w (.cells #[.int .i64 0, .int .i64 0, .string ⟨#[]⟩] 23))
      have q0 := hx.c0
      have q1 := hx.c1
      have q2 := hx.c2
      have HE : Hid (atC r i = c) := by unfold Hid atC; rw [if_pos (by omega), Int.toNat_natCast, List.getD_eq_getElem?_getD, hi]; rfl
      have hne2 : b ≠ w.heap.size := by omega
      have hiI : ¬ (r.length : Int) ≤ (i : Int) := by omega
      have hiN : i < r.length := by omega
      clear h hc hi hx hne hk64
      obtain ⟨n, hn⟩ : ∃ n, n = r.length := ⟨_, rfl⟩
      rw [← hn] at h1 hiI hiN
      rw [← hn]
      clear hn
      go_enter Tryd.func32, Tryd.ntmps32
      go_wp2
      rw [HE.out]
      exact bodyPost_ret (v := cv c) (by simp [results, Tryd.results32, go_sem]) rfl ⟨rfl, below1 _ _⟩
    · have HE : Hid (atC r k = cl0) := by
        unfold Hid atC; rw [if_pos (by omega), List.getD_eq_getElem?_getD, List.getElem?_eq_none (by omega)]; rfl
      have h2 : (r.length : Int) ≤ k := by omega
      clear h hk64
      go_enter Tryd.func32, Tryd.ntmps32
      go_wp2
      rw [HE.out]
      exact bodyPost_ret (v := cv cl0) (by simp [results, Tryd.results32, go_sem, cl0]) rfl ⟨rfl, below1 _ _⟩

set_option maxHeartbeats 2000000 in
theorem refCompare_any (a b : Cl) (w : World) :
    Calls Tryd.prog 11 #[cv a, cv b] w fun e w' => e = .returned (.int .i64 (cmpC a b)) ∧ Below w.heap.size w w' := by
  obtain ⟨ak, an, sa⟩ := a
  obtain ⟨bk, bn, sb⟩ := b
  simp only [cv]
  by_cases hk : ak = bk
  · by_cases hn : an = bn
    · by_cases hs : sa.toList = sb.toList
      · have HE : Hid (cmpC ⟨ak, an, sa⟩ ⟨bk, bn, sb⟩ = 0) := (cmpC_zero _ _).2 (cl_ext hk hn hs)
        subst hk hn
        have h2 : (sa.toList == sb.toList) = true := by simpa using hs
        clear hs
        go_enter Tryd.func11, Tryd.ntmps11
        go_wp2_with fail
        go_ret
        exact ⟨retI HE.out, below2 _ _ _⟩
      · subst hk hn
        have h2 : (sa.toList == sb.toList) = false := by simpa using hs
        cases h3 : Op.bytesLess sa.toList sb.toList with
        | true =>
          have HE : Hid (cmpC ⟨ak, an, sa⟩ ⟨ak, an, sb⟩ = -1) := by unfold Hid cmpC cmpS; simp [h3]
          clear hs
          go_enter Tryd.func11, Tryd.ntmps11
          go_wp2_with fail
          go_ret
          exact ⟨retI HE.out, below2 _ _ _⟩
        | false =>
          have HE : Hid (cmpC ⟨ak, an, sa⟩ ⟨ak, an, sb⟩ = 1) := by unfold Hid cmpC cmpS; simp [h3, hs]
          clear hs
          go_enter Tryd.func11, Tryd.ntmps11
          go_wp2_with fail
          go_ret
          exact ⟨retI HE.out, below2 _ _ _⟩
    · subst hk
      have h1 : (an == bn) = false := by simpa using hn
      by_cases h3 : an < bn
      · have HE : Hid (cmpC ⟨ak, an, sa⟩ ⟨ak, bn, sb⟩ = -1) := by unfold Hid cmpC cmpI; simp [hn, h3]
        clear hn
        go_enter Tryd.func11, Tryd.ntmps11
        go_wp2_with fail
        go_ret
        exact ⟨retI HE.out, below2 _ _ _⟩
      · have HE : Hid (cmpC ⟨ak, an, sa⟩ ⟨ak, bn, sb⟩ = 1) := by unfold Hid cmpC cmpI; rw [if_pos rfl, if_neg hn, if_neg h3, if_pos (show bn < an by omega)]
        clear hn
        go_enter Tryd.func11, Tryd.ntmps11
        go_wp2_with fail
        go_ret
        exact ⟨retI HE.out, below2 _ _ _⟩
  · have h1 : (ak == bk) = false := by simpa using hk
    by_cases h3 : ak < bk
    · have HE : Hid (cmpC ⟨ak, an, sa⟩ ⟨bk, bn, sb⟩ = -1) := by unfold Hid cmpC cmpI; simp [hk, h3]
      clear hk
      go_enter Tryd.func11, Tryd.ntmps11
      go_wp2_with fail
      go_ret
      exact ⟨retI HE.out, below2 _ _ _⟩
    · have HE : Hid (cmpC ⟨ak, an, sa⟩ ⟨bk, bn, sb⟩ = 1) := by unfold Hid cmpC cmpI; rw [if_neg hk, if_neg h3, if_pos (show bk < ak by omega)]
      clear hk
      go_enter Tryd.func11, Tryd.ntmps11
      go_wp2_with fail
      go_ret
      exact ⟨retI HE.out, below2 _ _ _⟩

/-- Few cells, of few bytes. -/
def lightC (r : List Cl) : Bool := decide (r.length ≤ 20) && r.all fun c => decide (c.s.size ≤ 100)
theorem light_no {r : List Cl} {i : Nat} {c : Cl} (hi : r[i]? = some c) (h : 100 < c.s.size) : lightC r = false := by
  unfold lightC
  have hm : c ∈ r := List.mem_of_getElem? hi
  have : (r.all fun c : Cl => decide (c.s.size ≤ 100)) = false := by
    rw [List.all_eq_false]
    exact ⟨c, hm, by simp; omega⟩
  rw [this, Bool.and_false]
theorem light_long {r : List Cl} (h : 20 < r.length) : lightC r = false := by
  unfold lightC
  rw [decide_eq_false (by omega), Bool.false_and]
theorem light_yes {r : List Cl} (h : r.length ≤ 20) (hc : ∀ (i : Nat) (c : Cl), r[i]? = some c → c.s.size ≤ 100) : lightC r = true := by
  unfold lightC
  rw [decide_eq_true h, Bool.true_and, List.all_eq_true]
  intro c hm
  obtain ⟨i, hi⟩ := List.getElem?_of_mem hm
  simpa using hc i c hi

set_option maxHeartbeats 1000000 in
theorem light_any (w : World) (v : Value) (r : List Cl) (h : RowIs w v r) (hm : r.length ≤ maxLen) :
    Calls Tryd.prog 14 #[v] w fun e w' => e = .returned (.bool (lightC r)) ∧ Below w.heap.size w w' := by
  unfold maxLen at hm
  obtain ⟨a, cap, rfl, h⟩ := h
  obtain ⟨n, hn⟩ : ∃ n, n = r.length := ⟨_, rfl⟩
  rw [← hn] at hm
  rw [← hn]
  have HN : Hid (n = r.length) := hn
  have HH : Hid (r ≠ [] → ∃ b off, a = some ⟨b, off, none⟩ ∧ b < w.heap.size ∧ ∀ i c, r[i]? = some c → CellAt w b (off + i * 3) c) := h
  clear hn h
  go_enter Tryd.func14, Tryd.ntmps14
  go_wp2
  go_loopg [3] (min n 20) (fun g s3 wx => ∃ i : Nat, i + g = min n 20 ∧ s3 = .int .i64 i ∧ (∀ (j : Nat) (c : Cl), j < i → r[j]? = some c → c.s.size ≤ 100) ∧ wx = w)
  case atStart => exact ⟨0, by omega, rfl, fun j c hj => by omega, rfl⟩
  case round =>
    obtain ⟨i, hig, rfl, hall, rfl⟩ := hrel
    have HA : Hid (∀ (j : Nat) (c : Cl), j < i → r[j]? = some c → c.s.size ≤ 100) := hall
    clear hall
    by_cases hi : i < n
    · by_cases hi2 : i < 20
      · have hiI : (i : Int) < (n : Int) := by omega
        have hi2I : (i : Int) < 20 := by omega
        have hrn := HN.out
        have hne : r ≠ [] := by rintro rfl; simp at hrn; omega
        obtain ⟨b, off, rfl, hb, hc⟩ := HH.out hne
        obtain ⟨c, hic⟩ : ∃ c, r[i]? = some c := ⟨_, List.getElem?_eq_getElem (by omega)⟩
        have q2 := (hc i c hic).c2
        have hr2 : IntKind.i64.wrap ((i : Int) + 1) = (i : Int) + 1 := by rw [IntKind.wrap_i64]; omega
        have HI : Hid (r[i]? = some c) := hic
        clear hc hic hne hrn
        by_cases hl : (100 : Int) < (c.s.size : Int)
        · go_wp2_with fail
          go_ret
          exact ⟨retB (light_no HI.out (by omega)), Below.refl _ _⟩
        · have hl' : c.s.size ≤ 100 := by omega
          clear hl'
          go_wp2_with fail
          go_roundg (min n 20 - (i + 1))
          case measure => clear hr2; omega
          case rel =>
            refine ⟨i + 1, by clear hr2; omega, by go_num, fun j x hj hx => ?_, rfl⟩
            by_cases e : j = i
            · subst e
              have := HI.out
              rw [hx] at this
              obtain rfl := Option.some.inj this
              omega
            · exact HA.out j x (by omega) hx
      · have hiI : (i : Int) < (n : Int) := by omega
        have hi2I : ¬ (i : Int) < 20 := by omega
        have h20 : ¬ (n : Int) ≤ 20 := by omega
        go_wp2_with fail
        go_ret
        have hrn := HN.out
        exact ⟨retB (light_long (by omega)), Below.refl _ _⟩
    · have hiI : ¬ (i : Int) < (n : Int) := by omega
      have h20 : (n : Int) ≤ 20 := by omega
      go_wp2_with fail
      go_ret
      have hrn := HN.out
      refine ⟨retB (light_yes (by omega) fun j c hj => HA.out j c ?_ hj), Below.refl _ _⟩
      have := (List.getElem?_eq_some_iff.1 hj).1
      omega
end Go.Proofs.YtjkkkdehmgfmeaaDoor
