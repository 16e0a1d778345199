/-
  The contract of device.New.
-/
import Derived.Test.YtmgodahdljnbmaaDMeth
import Derived.Laws.MakeOwn
namespace Go.Proofs.Ytmgodahdljnbmaa
open Go.RowKit

theorem info_block : (Try.prog.info? 70).map (fun i => (i.zero, i.size, i.bytes)) = some (some (.agg (Array.replicate 128 (.int .u8 0))), 128, 128) := by kernel_rfl

/-- 'make([]block, n)', in whatever world. -/
theorem make_blocks (n : Nat) (hn : n ≤ 4096) : ∃ c : Array Value, c.size = n * 128 ∧ (∀ i, i < n * 128 → c[i]? = some (.int .u8 0)) ∧
    ∀ w : World, (Instr.makeSlice 53 (.int .i64 (n : Int)) (.int .i64 (n : Int))).run Try.prog w = .ok (.slice (some ⟨w.heap.size, 0, none⟩) n n) (w.alloc (.cells c 70)) := by
  obtain ⟨i0, hi, hz0, hz1, hz2⟩ := info_parts info_block
  refine ⟨madeCells (Array.replicate 128 (.int .u8 0)) (n * 128), size_madeCells _ _, ?_, ?_⟩
  · intro i h
    have h2 : i % 128 < 128 := Nat.mod_lt _ (by omega)
    simp [madeCells, h, h2]
  · intro w
    have hr := run_make (P := Try.prog) w 53 70 i0 _ Try.underlying53 hi hz0 .i64 .i64 n n (by omega) (Int.le_refl _) (by rw [hz2]; omega) (by omega)
    simp only [Int.toNat_natCast, hz1] at hr
    exact hr
theorem rows_new {w : World} {b n : Nat} {c : Array Value} {t : TypeId} (h : w.heap[b]? = some (.cells c t (0, 0))) (hs : c.size = n * 128) (hc : ∀ i, i < n * 128 → c[i]? = some (.int .u8 0)) :
    Rows w b t (n * 128) 128 ((List.replicate n (List.replicate 128 (0 : UInt8))).map bcells) := by
  refine ⟨c, h, hs, by simp, ?_, ?_⟩
  · intro r hr
    simp only [List.map_replicate, List.mem_replicate] at hr
    rw [hr.2]
    simp [bcells]
  · intro i r hr j v hv
    have hi : i < n := by simpa using (List.getElem?_eq_some_iff.1 hr).1
    simp only [List.map_replicate, List.getElem?_replicate, hi, if_true, Option.some.injEq] at hr
    subst hr
    have hj : j < 128 := by simpa [bcells] using (List.getElem?_eq_some_iff.1 hv).1
    simp only [bcells, List.map_replicate, List.getElem?_replicate, hj, if_true, Option.some.injEq] at hv
    rw [hc _ (by omega), ← hv]
    rfl
theorem heap3 (w : World) (A B C : Obj) : (((w.alloc A).alloc B).alloc C).heap[w.heap.size]? = some A ∧ (((w.alloc A).alloc B).alloc C).heap[w.heap.size + 1]? = some B ∧ (((w.alloc A).alloc B).alloc C).heap[w.heap.size + 1 + 1]? = some C := by
  refine ⟨?_, ?_, ?_⟩
  · rw [heap_alloc_old _ _ (by simp; omega), heap_alloc_old _ _ (by simp)]
    exact heap_alloc_new w A
  · rw [heap_alloc_old _ _ (by simp)]
    have := heap_alloc_new (w.alloc A) B
    simpa using this
  · have := heap_alloc_new ((w.alloc A).alloc B) C
    simpa using this
def St.new (n : Nat) : St := ⟨List.replicate n (List.replicate 128 0), [], -1, false⟩
theorem dev_new {w : World} {n p b1 b2 : Nat} {c : Array Value} (hn : 1 ≤ n) (hn2 : n ≤ 4096) (hs : c.size = n * 128) (hc : ∀ i, i < n * 128 → c[i]? = some (.int .u8 0))
    (hp : w.heap[p]? = some (.cells #[.slice (some ⟨b1, 0, none⟩) n n, .slice (some ⟨b2, 0, none⟩) n n, .slice none 0 0, .int .i64 (-1), .bool false] 56 (0, 0)))
    (h1 : w.heap[b1]? = some (.cells c 70 (0, 0))) (h2 : w.heap[b2]? = some (.cells c 70 (0, 0))) (d1 : p ≠ b1) (d2 : p ≠ b2) (d3 : b1 ≠ b2) : DevIs w ⟨p, b1, b2, .slice none 0 0⟩ (St.new n) :=
  { dev := by simpa [St.new] using hp
    sure := by simpa [St.new] using rows_new h1 hs hc
    seen := by simpa [St.new, lay] using rows_new h2 hs hc
    wait := srows_nil _ _ _
    d1 := d1, d2 := d2, d3 := d3
    d4 := by intro k hk; simp [Value.ownBlock] at hk
    pos := by simpa [St.new] using hn
    top := by simpa [St.new] using hn2
    ats := by intro x hx; simp [St.new] at hx
    blk := by intro b hb; simp [St.new] at hb; rw [hb.2]; simp
    fz := by show _ ≤ (-1 : Int) ∧ (-1 : Int) < _; omega
    few := by simp [St.new] }

theorem new_bad (n : Int) (h : ¬ (1 ≤ n ∧ n ≤ 4096)) (w : World) :
    Calls Try.prog 7 #[.int .i64 n] w fun e w' => e = .returned (.tuple #[.pointer none, .int .i64 1]) ∧ w' = w := by
  by_cases h1 : n < 1
  · clear h
    go_enter Try.func7, Try.ntmps7
    go_wp2
    go_ret2
    exact ⟨rfl, rfl⟩
  · have h2 : 4096 < n := by omega
    clear h
    go_enter Try.func7, Try.ntmps7
    go_wp2
    go_ret2
    exact ⟨rfl, rfl⟩

set_option maxHeartbeats 1000000 in
theorem new_any (n : Nat) (h1 : 1 ≤ n) (h2 : n ≤ 4096) (w : World) :
    Calls Try.prog 7 #[.int .i64 (n : Int)] w fun e w' => ∃ H : Hnd, e = .returned (.tuple #[.pointer (some ⟨H.p, 0, none⟩), .int .i64 0]) ∧ DevIs w' H (St.new n) ∧ Below w.heap.size w w' ∧ ∀ k, H.foot k → w.heap.size ≤ k := by
  obtain ⟨c, hs, hc, hm⟩ := make_blocks n h2
  have g1 : ¬ (n : Int) < 1 := by omega
  have g2 : ¬ 4096 < (n : Int) := by omega
  have HS : Hid (c.size = n * 128) := hs
  have HC : Hid (∀ i, i < n * 128 → c[i]? = some (.int .u8 0)) := hc
  have H1 : Hid (1 ≤ n) := h1
  have H2 : Hid (n ≤ 4096) := h2
  clear hs hc h1 h2
  go_enter Try.func7, Try.ntmps7
  go_wp2
  go_region
  all_goals go_wp2
  all_goals go_ret2
  · refine ⟨⟨w.heap.size + 1 + 1, w.heap.size, w.heap.size + 1, .slice none 0 0⟩, rfl, dev_new H1.out H2.out HS.out HC.out (heap3 w _ _ _).2.2 (heap3 w _ _ _).1 (heap3 w _ _ _).2.1 (by omega) (by omega) (by omega), ?_, ?_⟩
    · exact ((((Below.refl _ w).alloc (Nat.le_refl _) _).alloc (by simp) _).alloc (by simp; omega) _).drew
    · intro k hk
      rcases hk with rfl | rfl | rfl | hk
      · simp only; omega
      · simp only; omega
      · simp only; omega
      · simp [Value.ownBlock] at hk
  · refine ⟨⟨w.heap.size + 1 + 1, w.heap.size + 1, w.heap.size, .slice none 0 0⟩, rfl, dev_new H1.out H2.out HS.out HC.out (heap3 w _ _ _).2.2 (heap3 w _ _ _).2.1 (heap3 w _ _ _).1 (by omega) (by omega) (by omega), ?_, ?_⟩
    · exact ((((Below.refl _ w).alloc (Nat.le_refl _) _).alloc (by simp) _).alloc (by simp; omega) _).drew
    · intro k hk
      rcases hk with rfl | rfl | rfl | hk
      · simp only; omega
      · simp only; omega
      · simp only; omega
      · simp [Value.ownBlock] at hk
end Go.Proofs.Ytmgodahdljnbmaa
