/-
  The document's map, a list of truths: what it reads as; the contracts of peristyleref05's New, may, all and set.
-/
import Derived.Test.YtjnobdgigeejnaaELaw
import Derived.Test.YtjnobdgigeejnaaEOnce
import Derived.Test.YtjnobdgigeejnaaEApp
namespace Go.Proofs.Ytjnobdgigeejnaa
open Go.RowKit

/-- n truths as rows of a cell each. -/
def bl (tk : Nat → Bool) (n : Nat) : List (List Value) := (List.range n).map fun i => [.bool (tk i)]
theorem bl_len (tk : Nat → Bool) (n : Nat) : (bl tk n).length = n := by simp [bl]
theorem bl_at (tk : Nat → Bool) (n i : Nat) (hi : i < n) : (bl tk n)[i]? = some [.bool (tk i)] := by
  unfold bl
  rw [List.getElem?_map, List.getElem?_range hi]
  rfl
theorem bl_one (tk : Nat → Bool) (n : Nat) : ∀ r ∈ bl tk n, ∀ c ∈ r, c.oneCell' = true := by
  intro r hr c hc
  obtain ⟨i, _, rfl⟩ := List.mem_map.1 hr
  simp at hc
  subst hc
  rfl
theorem bl_lens (tk : Nat → Bool) (n : Nat) : ∀ r ∈ bl tk n, r.length = 1 := by
  intro r hr
  obtain ⟨i, _, rfl⟩ := List.mem_map.1 hr
  rfl
theorem bl_set (tk : Nat → Bool) (n k : Nat) (v : Bool) (hk : k < n) : (bl tk n).set k [.bool v] = bl (fun i => if i = k then v else tk i) n := by
  apply List.ext_getElem?
  intro i
  rw [List.getElem?_set, bl_len]
  by_cases hi : i < n
  · rw [bl_at _ n i hi, bl_at _ n i hi]
    by_cases h : k = i
    · subst h; simp [hk]
    · rw [if_neg h, if_neg (fun e => h e.symm)]
  · rw [List.getElem?_eq_none (by rw [bl_len]; omega), List.getElem?_eq_none (by rw [bl_len]; omega)]
    split
    · rename_i h; omega
    · rfl

/-- The slice (b, c) of n truths. -/
structure RefM (w : World) (b c n : Nat) (tk : Nat → Bool) : Prop where
  rows : Rows w b 4 (c * 1) 1 (bl tk n)
  le : n ≤ c
  cap : c ≤ maxLen
section
variable {w w' : World} {b c n : Nat} {tk : Nat → Bool}
theorem RefM.lt (M : RefM w b c n tk) : b < w.heap.size := M.rows.lt
theorem RefM.over (M : RefM w b c n tk) (k : Below w.heap.size w w') : RefM w' b c n tk := ⟨M.rows.of_block (k.block b M.lt), M.le, M.cap⟩
theorem RefM.kept {F : Nat → Prop} (M : RefM w b c n tk) (k : Kept F w w') (h : ¬ F b) : RefM w' b c n tk := ⟨M.rows.kept k h, M.le, M.cap⟩
theorem RefM.cell (M : RefM w b c n tk) (i : Nat) (hi : i < n) : w.cell? ⟨b, i, none⟩ = some (.bool (tk i)) := by
  have := M.rows.range (bl_at tk n i hi) 0 (.bool (tk i)) rfl
  simpa using this
theorem RefM.set (M : RefM w b c n tk) (k : Nat) (v : Bool) (hk : k < n) : RefM (w.setCell ⟨b, k, none⟩ (.bool v)) b c n (fun i => if i = k then v else tk i) := by
  refine ⟨?_, M.le, M.cap⟩
  have := M.rows.set (i := k) (by rw [bl_len]; exact hk) (r := [.bool v]) rfl
  rw [bl_set tk n k v hk] at this
  simpa [World.setCells] using this
theorem RefM.frozen (M : RefM w b c n tk) (k : Nat) : w.frozen? ⟨b, k, none⟩ = false := rows_frozen M.rows k
end

theorem info_bool : (Try.prog.info? 4).map (fun i => (i.zero, i.size, i.bytes)) = some (some (.bool false), 1, 1) := by kernel_rfl

theorem rnew_bad (n : Int) (w : World) (h : ¬ (1 ≤ n ∧ n ≤ 4096)) :
    Calls Try.prog 9 #[.int .i64 n] w fun e w' => e = .returned (.tuple #[.slice none 0 0, .int .i64 1]) ∧ w' = w := by
  by_cases h1 : n < 1
  · go_enter Try.func9, Try.ntmps9
    go_wp2_with fail
    go_ret2
    exact ⟨rfl, rfl⟩
  · have h2 : 4096 < n := by omega
    clear h
    go_enter Try.func9, Try.ntmps9
    go_wp2_with fail
    go_ret2
    exact ⟨rfl, rfl⟩
/-- 'make(Map, n)'. -/
theorem make_map {ops : Array Oper} {rest : List Oper} {o : Oper} {a : Act} {Q : Exit → Act → World → Prop} (hgd : o.guard = none) (l c : Operand) (hop : o.op = Op.makeSlice 28 l c)
    {w : World} {n : Nat} (hl : a.eval l = .int .i64 (n : Int)) (hc : a.eval c = .int .i64 (n : Int)) (hn : n ≤ 1000000)
    (h : ∀ w', Hid (RefM w' w.heap.size n n (fun _ => false)) → Hid (Below w.heap.size w w') → wpList Try.prog ops Q rest (a.put o.dst (.slice (some ⟨w.heap.size, 0, none⟩) n n)) w') : wpList Try.prog ops Q (o :: rest) a w := by
  obtain ⟨i0, hi, hz0, hz1, hz2⟩ := info_parts info_bool
  refine wpList_plain hgd fun K hK' => ?_
  have hr := run_make (P := Try.prog) w 28 4 i0 (.bool false) Try.underlying28 hi hz0 .i64 .i64 n n (by omega) (Int.le_refl _) (by rw [hz2]; omega) (by omega)
  unfold Oper.wp
  simp [execOp, hop, hl, hc, hr, Result.andThen]
  refine hK' _ _ (h _ ?_ ?_)
  · show RefM _ _ _ _ _
    refine ⟨⟨_, heap_alloc_last w _, ?_, ?_, bl_lens _ _, ?_⟩, Nat.le_refl _, by unfold maxLen; omega⟩
    · simp [madeCells, hz1]
    · rw [bl_len]; exact Nat.le_refl _
    · intro i r hr j v hv
      have hil : i < n := by
        have := (List.getElem?_eq_some_iff.1 hr).1
        rw [bl_len] at this
        exact this
      rw [bl_at _ n i hil] at hr
      simp only [Option.some.injEq] at hr
      subst hr
      cases j with
      | succ j => simp at hv
      | zero =>
        simp at hv
        subst hv
        rw [hz1, Nat.mul_one]
        have e : (Value.bool false).cells = #[.bool false] := rfl
        rw [e]
        simp [madeCells, hil, Nat.mod_one]
  · show Below _ _ _
    exact (Below.refl _ _).alloc (Nat.le_refl _) _
theorem rnew_any (n : Nat) (w : World) (h1 : 1 ≤ n) (h2 : n ≤ 4096) :
    Calls Try.prog 9 #[.int .i64 n] w fun e w' => (∃ b c, e = .returned (.tuple #[.slice (some ⟨b, 0, none⟩) n c, .int .i64 0]) ∧ RefM w' b c n (fun _ => false) ∧ w.heap.size ≤ b) ∧ Below w.heap.size w w' := by
  have h1' : ¬ (n : Int) < 1 := by omega
  have h2' : ¬ (4096 : Int) < (n : Int) := by omega
  have HN : Hid (n ≤ 1000000) := by show _ ≤ _; omega
  clear h1 h2
  go_enter Try.func9, Try.ntmps9
  go_wp2_with (refine make_map rfl _ _ rfl rfl rfl HN.out ?_; intro w' k1 k2)
  go_ret2
  exact ⟨⟨w.heap.size, n, rfl, k1.out, Nat.le_refl _⟩, k2.out⟩

set_option maxRecDepth 4000 in
set_option maxHeartbeats 1000000 in
theorem may_any (v : Option Addr) (n c : Nat) (hn : n ≤ 4096) (a d : Int) (ha : -9223372036854775808 ≤ a ∧ a < 9223372036854775808) (w : World) :
    Calls Try.prog 29 #[.slice v n c, .agg #[.int .i64 a, .int .i64 d]] w fun e w' => e = .returned (.bool (decide (0 < n ∧ 0 ≤ a ∧ 1 ≤ d ∧ d ≤ n - a))) ∧ Below w.heap.size w w' := by
  have HB : Hid (Below w.heap.size w (w.alloc (.cells #[.int .i64 a, .int .i64 d] 32))) := below1 w _
  by_cases h1 : 1 ≤ d
  · by_cases h2 : 0 ≤ a
    · by_cases h3 : a < (n : Int)
      · have hw : IntKind.i64.wrap ((n : Int) - a) = (n : Int) - a := by rw [IntKind.wrap_i64]; omega
        have hfin : decide (0 < n ∧ 0 ≤ a ∧ 1 ≤ d ∧ d ≤ n - a) = decide (d ≤ n - a) := by
          have : 0 < n := by omega
          simp [h1, h2, this]
        rw [hfin]
        clear hfin ha
        go_enter Try.func29, Try.ntmps29
        go_wp2_with fail
        go_ret
        exact ⟨rfl, HB.out⟩
      · have hfin : decide (0 < n ∧ 0 ≤ a ∧ 1 ≤ d ∧ d ≤ n - a) = false := by simp; omega
        rw [hfin]
        clear hfin ha
        go_enter Try.func29, Try.ntmps29
        go_wp2_with fail
        go_ret
        exact ⟨rfl, HB.out⟩
    · have hfin : decide (0 < n ∧ 0 ≤ a ∧ 1 ≤ d ∧ d ≤ n - a) = false := by simp; omega
      rw [hfin]
      clear hfin ha
      go_enter Try.func29, Try.ntmps29
      go_wp2_with fail
      go_ret
      exact ⟨rfl, HB.out⟩
  · have hfin : decide (0 < n ∧ 0 ≤ a ∧ 1 ≤ d ∧ d ≤ n - a) = false := by simp; omega
    rw [hfin]
    clear hfin ha
    go_enter Try.func29, Try.ntmps29
    go_wp2_with fail
    go_ret
    exact ⟨rfl, HB.out⟩
end Go.Proofs.Ytjnobdgigeejnaa
