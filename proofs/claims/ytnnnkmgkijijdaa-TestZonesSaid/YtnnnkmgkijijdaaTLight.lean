/-
  The contract of the document's Light (layer 12).
-/
import Derived.Test.YtnnnkmgkijijdaaTRow
namespace Go.Proofs.Ytnnnkmgkijijdaa
open Go.RowKit

/-- Few cells, of few bytes. -/
def lightM (m : Nat) (r : List Cl) : Bool := decide (r.length ≤ m) && r.all fun c => decide (c.s.size ≤ 100)
theorem light_no {m : Nat} {r : List Cl} {i : Nat} {c : Cl} (hi : r[i]? = some c) (h : 100 < c.s.size) : lightM m r = false := by
  unfold lightM
  have hm : c ∈ r := List.mem_of_getElem? hi
  have : (r.all fun c : Cl => decide (c.s.size ≤ 100)) = false := by
    rw [List.all_eq_false]
    exact ⟨c, hm, by simp; omega⟩
  rw [this, Bool.and_false]
theorem light_long {m : Nat} {r : List Cl} (h : m < r.length) : lightM m r = false := by
  unfold lightM
  rw [decide_eq_false (by omega), Bool.false_and]
theorem light_yes {m : Nat} {r : List Cl} (h : r.length ≤ m) (hc : ∀ (i : Nat) (c : Cl), r[i]? = some c → c.s.size ≤ 100) : lightM m r = true := by
  unfold lightM
  rw [decide_eq_true h, Bool.true_and, List.all_eq_true]
  intro c hm
  obtain ⟨i, hi⟩ := List.getElem?_of_mem hm
  simpa using hc i c hi
theorem light_len {m : Nat} {r : List Cl} (h : lightM m r = true) : r.length ≤ m := by
  unfold lightM at h
  simp only [Bool.and_eq_true, decide_eq_true_eq] at h
  exact h.1

set_option maxHeartbeats 1000000 in
theorem light_any (w : World) (v : Value) (r : List Cl) (h : RowIs w v r) (m : Nat) (hmm : m ≤ 1000) :
    Calls Try.prog 13 #[v, .int .i64 m] w fun e w' => e = .returned (.bool (lightM m r)) ∧ Below w.heap.size w w' := by

  obtain ⟨a, cap, rfl, h⟩ := h
  obtain ⟨n, hn⟩ : ∃ n, n = r.length := ⟨_, rfl⟩

  rw [← hn]
  have HN : Hid (n = r.length) := hn
  have HH : Hid (r ≠ [] → ∃ b off, a = some ⟨b, off, none⟩ ∧ b < w.heap.size ∧ ∀ i c, r[i]? = some c → CellAt w b (off + i * 3) c) := h
  clear hn h
  go_enter Try.func13, Try.ntmps13
  go_wp2
  go_loopg [5] (min n m) (fun g s5 wx => ∃ i : Nat, i + g = min n m ∧ s5 = .int .i64 i ∧ (∀ (j : Nat) (c : Cl), j < i → r[j]? = some c → c.s.size ≤ 100) ∧ wx = w)
  case atStart => exact ⟨0, by omega, rfl, fun j c hj => by omega, rfl⟩
  case round =>
    obtain ⟨i, hig, rfl, hall, rfl⟩ := hrel
    have HA : Hid (∀ (j : Nat) (c : Cl), j < i → r[j]? = some c → c.s.size ≤ 100) := hall
    clear hall
    by_cases hi : i < n
    · by_cases hi2 : i < m
      · have hiI : (i : Int) < (n : Int) := by omega
        have hi2I : (i : Int) < (m : Int) := by omega
        have hrn := HN.out
        have hne : r ≠ [] := by rintro rfl; simp at hrn; omega
        obtain ⟨b, off, rfl, hb, hc⟩ := HH.out hne
        obtain ⟨c, hic⟩ : ∃ c, r[i]? = some c := ⟨_, List.getElem?_eq_getElem (by omega)⟩
        have q2 := (hc i c hic).c2
        have hr2 : IntKind.i64.wrap ((i : Int) + 1) = (i : Int) + 1 := by rw [IntKind.wrap_i64]; omega
        have HI : Hid (r[i]? = some c) := hic
        clear hc hic hne hrn
        by_cases hl : (100 : Int) < (c.s.size : Int)
        · go_wp2_with fail
          go_ret
          exact ⟨retB (light_no HI.out (by omega)), Below.refl _ _⟩
        · have hl' : c.s.size ≤ 100 := by omega
          clear hl'
          go_wp2_with fail
          go_roundg (min n m - (i + 1))
          case measure => clear hr2; omega
          case rel =>
            refine ⟨i + 1, by clear hr2; omega, by go_num, fun j x hj hx => ?_, rfl⟩
            by_cases e : j = i
            · subst e
              have := HI.out
              rw [hx] at this
              obtain rfl := Option.some.inj this
              omega
            · exact HA.out j x (by omega) hx
      · have hiI : (i : Int) < (n : Int) := by omega
        have hi2I : ¬ (i : Int) < (m : Int) := by omega
        have h20 : ¬ (n : Int) ≤ (m : Int) := by omega
        have h20n : ¬ n ≤ m := by omega
        go_wp2_with fail
        go_ret
        have hrn := HN.out
        exact ⟨retB (light_long (by omega)), Below.refl _ _⟩
    · have hiI : ¬ (i : Int) < (n : Int) := by omega
      have h20 : (n : Int) ≤ (m : Int) := by omega
      have h20n : n ≤ m := by omega
      go_wp2_with fail
      go_ret
      have hrn := HN.out
      refine ⟨retB (light_yes (by omega) fun j c hj => HA.out j c ?_ hj), Below.refl _ _⟩
      have := (List.getElem?_eq_some_iff.1 hj).1
      omega
end Go.Proofs.Ytnnnkmgkijijdaa
