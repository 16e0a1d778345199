/-
  Runs in memory: how a slice of them reads, its first ones, what append made; one cell of a row that is turned.
-/
import Derived.Test.YtlohljefhcidkaaUPure
import Derived.Test.YtlohljefhcidkaaSApp
import Derived.Test.YtlohljefhcidkaaBox
import Derived.Test.YtlohljefhcidkaaCalm
import Derived.Test.YtlohljefhcidkaaVSame
import Derived.Deep.MidRow
import Derived.Deep.LoopGhost
namespace Go.Proofs.Ytlohljefhcidkaa
open Go.RowKit

abbrev rc (r : Rn) : List Value := [.int .i64 r.v.toInt, .int .i64 r.f, .int .i64 r.c]
/-- The run r lies at b, from o on. -/
structure RunAt (w : World) (b o : Nat) (r : Rn) : Prop where
  c0 : w.cell? ⟨b, o, none⟩ = some (.int .i64 r.v.toInt)
  c1 : w.cell? ⟨b, o + 1, none⟩ = some (.int .i64 r.f)
  c2 : w.cell? ⟨b, o + 2, none⟩ = some (.int .i64 r.c)
theorem RunAt.below {w w' : World} {b o : Nat} {r : Rn} (h : RunAt w b o r) (k : Below w.heap.size w w') : RunAt w' b o r :=
  have hb : b < w.heap.size := World.block_lt_of_cell? w ⟨b, o, none⟩ h.c0
  ⟨(k.cell (p := ⟨b, o, none⟩) hb).trans h.c0, (k.cell (p := ⟨b, o + 1, none⟩) hb).trans h.c1, (k.cell (p := ⟨b, o + 2, none⟩) hb).trans h.c2⟩
theorem RunAt.lt {w : World} {b o : Nat} {r : Rn} (h : RunAt w b o r) : b < w.heap.size := World.block_lt_of_cell? w ⟨b, o, none⟩ h.c0
/-- A slice of runs reads as rs. -/
def RunsIs (w : World) (v : Value) (rs : List Rn) : Prop :=
  ∃ a cap, v = .slice a rs.length cap ∧ rs.length ≤ cap ∧ (rs ≠ [] → ∃ b off, a = some ⟨b, off, none⟩ ∧ ∀ (i : Nat) (r : Rn), rs[i]? = some r → RunAt w b (off + i * 3) r)
theorem RunsIs.below {w w' : World} {v : Value} {rs : List Rn} (h : RunsIs w v rs) (k : Below w.heap.size w w') : RunsIs w' v rs := by
  obtain ⟨a, cap, rfl, hcap, h⟩ := h
  refine ⟨a, cap, rfl, hcap, fun hr => ?_⟩
  obtain ⟨b, off, rfl, hc⟩ := h hr
  exact ⟨b, off, rfl, fun i r hi => (hc i r hi).below k⟩
theorem runs_nil (w : World) : RunsIs w (.slice none 0 0) [] := ⟨none, 0, rfl, Nat.le_refl _, fun h => absurd rfl h⟩
/-- Where the runs of a slice lie that are some. -/
theorem RunsIs.some {w : World} {a : Option Addr} {n cap : Nat} {rs : List Rn} (h : RunsIs w (.slice a n cap) rs) (hr : rs ≠ []) : ∃ b off, a = Option.some ⟨b, off, none⟩ ∧ ∀ (i : Nat) (r : Rn), rs[i]? = Option.some r → RunAt w b (off + i * 3) r := by
  obtain ⟨a, cap, e, hcap, h⟩ := h
  cases e
  exact h hr
theorem RunsIs.len {w : World} {a : Option Addr} {n cap : Nat} {rs : List Rn} (h : RunsIs w (.slice a n cap) rs) : rs.length = n ∧ n ≤ cap := by
  obtain ⟨a, cap, e, hcap, h⟩ := h
  cases e
  exact ⟨rfl, hcap⟩
theorem RunsIs.slice {w : World} {v : Value} {rs : List Rn} (h : RunsIs w v rs) : ∃ a n cap, v = .slice a n cap ∧ rs.length = n ∧ n ≤ cap := by
  obtain ⟨a, cap, rfl, hcap, _⟩ := h
  exact ⟨a, _, cap, rfl, rfl, hcap⟩
/-- The first k of them. -/
theorem RunsIs.take {w : World} {a : Option Addr} {n cap : Nat} {rs : List Rn} (h : RunsIs w (.slice a n cap) rs) {k : Nat} (hk : k ≤ n) : RunsIs w (.slice a k cap) (rs.take k) := by
  obtain ⟨hl, hc⟩ := h.len
  refine ⟨a, cap, by rw [List.length_take, Nat.min_eq_left (by omega)], by rw [List.length_take]; omega, fun hr => ?_⟩
  obtain ⟨b, off, rfl, hall⟩ := h.some (by rintro rfl; simp at hr)
  refine ⟨b, off, rfl, fun i r hi => ?_⟩
  rw [List.getElem?_take] at hi
  split at hi
  · exact hall i r hi
  · cases hi
theorem runs_of_srows {w : World} {v : Value} {rs : List Rn} (h : SRows w v 35 3 (rs.map rc)) : RunsIs w v rs := by
  rcases h with ⟨rfl, h0⟩ | ⟨g, cap, rfl, hc1, hc2, hrows⟩
  · have : rs = [] := by simpa using h0
    subst this
    exact runs_nil w
  · rw [List.length_map] at hc1
    refine ⟨some ⟨g, 0, none⟩, cap, by rw [List.length_map], hc1, fun _ => ⟨g, 0, rfl, fun i r hi => ?_⟩⟩
    have hr := hrows.range (i := i) (r := rc r) (by rw [List.getElem?_map, hi]; rfl)
    have h0 := hr 0 _ rfl
    have h1 := hr 1 _ rfl
    have h2 := hr 2 _ rfl
    rw [Nat.zero_add]
    exact ⟨h0, h1, h2⟩
theorem info_run : (Try.prog.info? 35).map (fun i => (i.zero, i.size, i.bytes)) = some (some (.agg #[.int .i64 0, .int .i64 0, .int .i64 0]), 3, 24) := by kernel_rfl
theorem srows_slice {w : World} {v : Value} {t : TypeId} {sz : Nat} {R : List (List Value)} (h : SRows w v t sz R) : ∃ a c, v = .slice a R.length c := by
  rcases h with ⟨rfl, rfl⟩ | ⟨g, cap, rfl, _⟩
  · exact ⟨none, 0, rfl⟩
  · exact ⟨_, _, rfl⟩
theorem belowOne {w1 : World} (B : Nat) (h : B ≤ w1.heap.size) (A : Obj) : Below B w1 (w1.alloc A) := (Below.refl _ _).alloc h _
theorem above_cell {w : World} {a : Addr} {v : Value} (h : w.cell? a = some v) (k : Above w) : k.it.cell? a = some v := (k.is.cell (p := a) (World.block_lt_of_cell? w a h)).trans h
theorem rc_one (r : Rn) : ∀ x ∈ [rc r], ∀ c ∈ x, c.oneCell' = true := by
  intro x hx c hc
  simp only [List.mem_singleton] at hx
  subst hx
  simp only [rc, List.mem_cons, List.not_mem_nil, or_false] at hc
  rcases hc with rfl | rfl | rfl <;> rfl
theorem list_snoc {α : Type} {l : List α} {n : Nat} (h : l.length = n + 1) : ∃ p x, l = p ++ [x] ∧ p.length = n := by
  rcases List.eq_nil_or_concat l with rfl | ⟨p, x, e⟩
  · simp at h
  · rw [List.concat_eq_append] at e
    subst e
    exact ⟨p, x, rfl, by simpa using h⟩
/-- One cell of a row is turned. -/
theorem rows_setOne {w : World} {b : Nat} {t : TypeId} {tot sz : Nat} {R : List (List Value)} (h : Rows w b t tot sz R) {i j : Nat} {r : List Value} (hr : R[i]? = some r) (hj : j < sz) (v : Value) :
    Rows (w.setCell ⟨b, i * sz + j, none⟩ v) b t tot sz (R.set i (r.set j v)) := by
  have hi : i < R.length := (List.getElem?_eq_some_iff.1 hr).1
  have hf := h.fit hi
  obtain ⟨cur, h1, h2, h3, h4, h5⟩ := h
  have hl := h4 r (List.mem_of_getElem? hr)
  refine ⟨cur.setIfInBounds (i * sz + j) v, heap_setCell_same w b _ cur t v h1, by simpa using h2, by simpa using h3, ?_, ?_⟩
  · intro x hx
    rcases List.mem_or_eq_of_mem_set hx with hx | rfl
    · exact h4 x hx
    · simpa using hl
  · intro k x hx m u hu
    rw [List.getElem?_set] at hx
    rw [Array.getElem?_setIfInBounds]
    by_cases e : i = k
    · subst e
      simp [hi] at hx
      subst hx
      rw [List.getElem?_set] at hu
      by_cases e2 : j = m
      · subst e2
        have hjr : j < r.length := by omega
        simp [hjr] at hu
        subst hu
        simp
        omega
      · rw [if_neg e2] at hu
        rw [if_neg (by omega)]
        exact h5 i r hr m u hu
    · rw [if_neg e] at hx
      have hm : m < sz := by
        have := h4 x (List.mem_of_getElem? hx)
        have := (List.getElem?_eq_some_iff.1 hu).1
        omega
      have : i * sz + j ≠ k * sz + m := by
        intro e3
        rcases Nat.lt_or_ge k i with h' | h'
        · have : (k + 1) * sz ≤ i * sz := Nat.mul_le_mul_right _ h'
          rw [Nat.add_mul] at this
          omega
        · have : (i + 1) * sz ≤ k * sz := Nat.mul_le_mul_right _ (by omega)
          rw [Nat.add_mul] at this
          omega
      rw [if_neg this]
      exact h5 k x hx m u hu
end Go.Proofs.Ytlohljefhcidkaa
