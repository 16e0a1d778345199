/-
  The contract of package runs' follows: whether a run may stand behind runs that may be.
-/
import Derived.Test.YtlohljefhcidkaaUEnd
namespace Go.Proofs.Ytlohljefhcidkaa
open Go.RowKit

theorem fol_no {b : Bool} {p : List Rn} {r : Rn} (hb : b = true ↔ Fol p r) (h : ¬ Fol p r) : Ending.returned (.bool false) = .returned (.bool b) := by
  cases b with
  | false => rfl
  | true => exact absurd (hb.1 rfl) h
theorem fol_yes {b : Bool} {p : List Rn} {r : Rn} (hb : b = true ↔ Fol p r) (h : Fol p r) : Ending.returned (.bool true) = .returned (.bool b) := by rw [hb.2 h]

set_option maxRecDepth 4000 in
set_option maxHeartbeats 4000000 in
theorem follows_any {w : World} {v : Value} {p : List Rn} (h : RunsIs w v p) (hc : Chain p) (r : Rn) (b : Bool) (hb : b = true ↔ Fol p r) :
    Calls Try.prog 28 #[v, .agg #[.int .i64 r.v.toInt, .int .i64 r.f, .int .i64 r.c]] w fun e w' => e = .returned (.bool b) ∧ Below w.heap.size w w' := by
  have HB : Hid (b = true ↔ Fol p r) := hb
  obtain ⟨f, hf⟩ : ∃ f, f = r.f := ⟨_, rfl⟩
  obtain ⟨c, hcc⟩ : ∃ c, c = r.c := ⟨_, rfl⟩
  obtain ⟨z, hz⟩ : ∃ z, z = r.v.toInt := ⟨_, rfl⟩
  obtain ⟨E, hE⟩ : ∃ E, E = endR p := ⟨_, rfl⟩
  have HR : Hid (f = r.f ∧ c = r.c ∧ z = r.v.toInt ∧ E = endR p) := ⟨hf, hcc, hz, hE⟩
  have hEb := end_bd hc
  rw [← hE] at hEb
  have hEb2 : 0 ≤ E ∧ E ≤ 65536 := by omega
  have HE : Hid (∀ W, Below w.heap.size w W → Calls Try.prog 21 #[v] W fun e w' => e = .returned (.int .i64 E) ∧ Below W.heap.size W w') := fun W hW => by
    rw [hE]; exact end_any (h.below hW) hc
  rw [← hf, ← hcc, ← hz]
  clear hb hf hcc hz hE hEb
  obtain ⟨a, n, cap, rfl, hl, hcap⟩ := h.slice
  have hn : (n : Int) ≤ 65536 := by have := chain_len hc; omega
  have HH : Hid (RunsIs w (.slice a n cap) p ∧ Chain p ∧ p.length = n) := ⟨h, hc, hl⟩
  clear h hc
  rcases (show ((f == E) = false ∧ True ∧ True ∧ ¬ Link p r) ∨ ((f == E) = true ∧ decide (1 ≤ c) = false ∧ True ∧ ¬ Link p r) ∨ ((f == E) = true ∧ decide (1 ≤ c) = true ∧ decide (c ≤ 65536 - E) = false ∧ ¬ Link p r) ∨ ((f == E) = true ∧ decide (1 ≤ c) = true ∧ decide (c ≤ 65536 - E) = true ∧ Link p r) by
    obtain ⟨i1, i2, _, i4⟩ := HR.out
    by_cases g1 : f = E
    · by_cases g2 : 1 ≤ c
      · by_cases g3 : c ≤ 65536 - E
        · exact .inr (.inr (.inr ⟨by simpa using g1, by simpa using g2, by simpa using g3, ⟨by omega, by omega, by omega⟩⟩))
        · exact .inr (.inr (.inl ⟨by simpa using g1, by simpa using g2, by simpa using g3, fun h => by have := h.c2; omega⟩))
      · exact .inr (.inl ⟨by simpa using g1, by simpa using g2, trivial, fun h => by have := h.c1; omega⟩)
    · exact .inl ⟨by simpa using g1, trivial, trivial, fun h => by have := h.f; omega⟩) with ⟨B1, B2, B3, hL⟩ | ⟨B1, B2, B3, hL⟩ | ⟨B1, B2, B3, hL⟩ | ⟨B1, B2, B3, hL⟩
  case' inl => have HL : Hid (¬ Link p r) := hL
  case' inr.inl => have HL : Hid (¬ Link p r) := hL
  case' inr.inr.inl => have HL : Hid (¬ Link p r) := hL
  case' inr.inr.inr => have HL : Hid (Link p r) := hL
  all_goals
    clear hL
    cases n with
    | zero =>
      obtain rfl := List.eq_nil_of_length_eq_zero hl
      clear hl
      go_enter Try.func28, Try.ntmps28
      go_wp2_with fail
      generalize hW : w.alloc (.cells #[.int .i64 z, .int .i64 f, .int .i64 c] 35) = W
      have hbx : Box W w.heap.size 35 #[.int .i64 z, .int .i64 f, .int .i64 c] := by rw [← hW]; exact box_new _ _ _
      have hbw : Below w.heap.size w W := by rw [← hW]; exact below1 _ _
      clear hW
      generalize hg : w.heap.size = g at hbx
      have e0 := above_cell (hbx.cell 0 _ rfl)
      refine wp_region_above (by kernel_rfl) (by kernel_rfl) ?_
      intro hne
      repeat (go_big_quiet_step (fail))
      refine wpQuiet_nil ?_
      rintro _ ⟨kq, rfl⟩
      have hbq := kq.is
      generalize kq.it = W2 at hbq ⊢
      clear hne e0
      have hbx2 := hbx.over hbq
      have hbw2 : Below w.heap.size w W2 := hbw.trans (hbq.mono hbw.size)
      have HBW : Hid (Below w.heap.size w W2) := hbw2
      have hce : ∀ k : Above W2, Calls Try.prog 21 #[.slice a 0 cap] k.it fun e w' => e = .returned (.int .i64 E) ∧ Below k.it.heap.size k.it w' := fun k => HE.out k.it (hbw2.trans (k.is.mono hbw2.size))
      have e1 := above_cell (hbx2.cell 1 _ rfl)
      have e2 := above_cell (hbx2.cell 2 _ rfl)
      clear hbx hbw hbq hbx2 hbw2
      go_wp2_with fail
      refine wp_region_above (by kernel_rfl) (by kernel_rfl) ?_
      intro hne
      repeat (go_big_quiet_step (first | (go_at_call 21; exact above_of (hce _))))
      refine wpQuiet_nil ?_
      rintro _ ⟨kq2, rfl⟩
      have HB2 : Hid (Below w.heap.size w kq2.it) := HBW.out.trans (kq2.is.mono HBW.out.size)
      go_wp2
      go_ret
      first
        | exact ⟨fol_no HB.out (fun h => HL.out h.link), HB2.out⟩
        | exact ⟨fol_yes HB.out ⟨HL.out, fun q hq => by simp at hq⟩, HB2.out⟩
    | succ m =>
      obtain ⟨q, t, rfl, hq⟩ := list_snoc hl
      obtain ⟨bb, off, rfl, hall⟩ := HH.out.1.some (by simp)
      have hr := hall m t (by rw [← hq]; simp)
      have hm : (m : Int) ≤ 65536 := by omega
      have HV : Hid (∀ x, (q ++ [t]).getLast? = some x → x = t) := fun x hx => by simp at hx; exact hx.symm
      obtain ⟨y, hy⟩ : ∃ y, y = t.v.toInt := ⟨_, rfl⟩
      have HY : Hid (y = t.v.toInt) := hy
      have HT : Hid (RunAt w bb (off + m * 3) t) := hr
      clear hl hall hr hn
      by_cases hv : y = z
      · have hB4 : (y == z) = true := by simpa using hv
        have HN : Hid (¬ Fol (q ++ [t]) r) := fun h => h.diff t (by simp) (BitVec.toInt_inj.1 (by rw [← HY.out, hv, HR.out.2.2.1]))
        clear hv hy
        go_enter Try.func28, Try.ntmps28
        go_wp2_with fail
        generalize hW : w.alloc (.cells #[.int .i64 z, .int .i64 f, .int .i64 c] 35) = W
        have hbx : Box W w.heap.size 35 #[.int .i64 z, .int .i64 f, .int .i64 c] := by rw [← hW]; exact box_new _ _ _
        have hbw : Below w.heap.size w W := by rw [← hW]; exact below1 _ _
        clear hW
        generalize hg : w.heap.size = g at hbx
        have e0 := above_cell (hbx.cell 0 _ rfl)
        have q0 : ∀ k : Above W, k.it.cell? ⟨bb, off + m * 3, none⟩ = some (.int .i64 y) := fun k => by rw [HY.out]; exact above_cell (HT.out.below hbw).c0 k
        refine wp_region_above (by kernel_rfl) (by kernel_rfl) ?_
        intro hne
        repeat (go_big_quiet_step (fail))
        refine wpQuiet_nil ?_
        rintro _ ⟨kq, rfl⟩
        have hbq := kq.is
        generalize kq.it = W2 at hbq ⊢
        clear hne e0
        have hbx2 := hbx.over hbq
        have hbw2 : Below w.heap.size w W2 := hbw.trans (hbq.mono hbw.size)
        have HBW : Hid (Below w.heap.size w W2) := hbw2
        go_wp2
        go_ret
        exact ⟨fol_no HB.out HN.out, HBW.out⟩
      · have hB4 : (y == z) = false := by simpa using hv
        have HN : Hid (∀ x, (q ++ [t]).getLast? = some x → x.v ≠ r.v) := fun x hx e => hv (by rw [HY.out, ← HV.out x hx, e, HR.out.2.2.1])
        clear hv hy
        go_enter Try.func28, Try.ntmps28
        go_wp2_with fail
        generalize hW : w.alloc (.cells #[.int .i64 z, .int .i64 f, .int .i64 c] 35) = W
        have hbx : Box W w.heap.size 35 #[.int .i64 z, .int .i64 f, .int .i64 c] := by rw [← hW]; exact box_new _ _ _
        have hbw : Below w.heap.size w W := by rw [← hW]; exact below1 _ _
        clear hW
        generalize hg : w.heap.size = g at hbx
        have e0 := above_cell (hbx.cell 0 _ rfl)
        have q0 : ∀ k : Above W, k.it.cell? ⟨bb, off + m * 3, none⟩ = some (.int .i64 y) := fun k => by rw [HY.out]; exact above_cell (HT.out.below hbw).c0 k
        refine wp_region_above (by kernel_rfl) (by kernel_rfl) ?_
        intro hne
        repeat (go_big_quiet_step (fail))
        refine wpQuiet_nil ?_
        rintro _ ⟨kq, rfl⟩
        have hbq := kq.is
        generalize kq.it = W2 at hbq ⊢
        clear hne e0
        have hbx2 := hbx.over hbq
        have hbw2 : Below w.heap.size w W2 := hbw.trans (hbq.mono hbw.size)
        have HBW : Hid (Below w.heap.size w W2) := hbw2
        have hce : ∀ k : Above W2, Calls Try.prog 21 #[.slice (some ⟨bb, off, none⟩) (m + 1) cap] k.it fun e w' => e = .returned (.int .i64 E) ∧ Below k.it.heap.size k.it w' := fun k => HE.out k.it (hbw2.trans (k.is.mono hbw2.size))
        have e1 := above_cell (hbx2.cell 1 _ rfl)
        have e2 := above_cell (hbx2.cell 2 _ rfl)
        clear hbx hbw hbq hbx2 hbw2
        go_wp2_with fail
        refine wp_region_above (by kernel_rfl) (by kernel_rfl) ?_
        intro hne
        repeat (go_big_quiet_step (first | (go_at_call 21; exact above_of (hce _))))
        refine wpQuiet_nil ?_
        rintro _ ⟨kq2, rfl⟩
        have HB2 : Hid (Below w.heap.size w kq2.it) := HBW.out.trans (kq2.is.mono HBW.out.size)
        go_wp2
        go_ret
        first
          | exact ⟨fol_no HB.out (fun h => HL.out h.link), HB2.out⟩
          | exact ⟨fol_yes HB.out ⟨HL.out, HN.out⟩, HB2.out⟩
end Go.Proofs.Ytlohljefhcidkaa
