/-
  7 texts, one behind the other: XGrow2, XCopyM, XCopy, XDo, XDo2, XDo3, XEnc.
-/
import Derived.Test.YtdjobjbkpagnaaaGreatJoin7
import Derived.Test.YtdjobjbkpagnaaaGreatJoin4
import Derived.Test.YtdjobjbkpagnaaaGreatJoin1
/-
  The contracts of schema's without, grown and with.
-/
namespace Go.Proofs.YtdjobjbkpagnaaaGreat
open Go.RowKit Go.Shelf

theorem SlIs.drop {α : Type} {E : World → α → List Value → Prop} {sz : Nat} {w : World} {b off n cap : Nat} {l : List α} (h : SlIs E sz w (.slice (some ⟨b, off, none⟩) n cap) l) {k : Nat} (hk : k ≤ n) : SlIs E sz w (.slice (some ⟨b, off + k * sz, none⟩) (n - k) (cap - k)) (l.drop k) := by
  have hn := h.len
  refine ⟨_, cap - k, by rw [List.length_drop, hn.1], by rw [List.length_drop]; omega, fun hl => ?_⟩
  have hne : l ≠ [] := by rintro rfl; simp at hl
  obtain ⟨b, off, e, hb, hall⟩ := h.lies hne
  cases e
  refine ⟨b, off + k * sz, rfl, hb, fun i x hi => ?_⟩
  rw [List.getElem?_drop] at hi
  obtain ⟨cs, h1, h2, h3⟩ := hall (k + i) x hi
  refine ⟨cs, h1, h2, fun j u hu => ?_⟩
  have := h3 j u hu
  rw [Nat.add_mul] at this
  rw [show off + k * sz + i * sz + j = off + (k * sz + i * sz) + j by omega]
  exact this
theorem exec_append_of {P : Program} {o : Oper} {ev : Operand → Value} {w w' : World} {v u r : Value} (s x : Operand) (T : TypeId) (ho : o.op = .call { callee := .builtin .append, args := #[s, x], argTypes := #[T, T] }) (hs : ev s = v) (hx : ev x = u) (hr : (Builtin.append_ #[T, T] o.type #[v, u]).run P w = .ok r w') : (execOp ev o).run P w = .ok (.value r) w' := by
  unfold execOp
  simp only [ho, resolve, invoke, builtin, Sem.run_bind, Sem.run_pure, Result.andThen_ok, List.map_toArray, List.map_cons, List.map_nil, hs, hx, hr]
set_option maxRecDepth 4000 in
set_option maxHeartbeats 2000000 in
theorem withoutT_gen {α : Type} {E : World → α → List Value → Prop} {w : World} (ho : ∀ x cs, E w x cs → ∀ u ∈ cs, u.oneCell' = true) {v : Value} {l : List α} (h : SlIs E 3 w v l) (hl : l.length ≤ 1000) (k : Nat) (hk : k < l.length) :
    Calls Tryz.prog 68 #[v, .int .i64 (k : Int)] w (CloneAns E 3 41 w (l.take k ++ l.drop (k + 1))) := by
  obtain ⟨a, n, cap, rfl, hn, hcap⟩ := h.slice
  obtain ⟨b, off, rfl, _⟩ := h.lies (by rintro rfl; simp at hk)
  have HO : Hid (∀ x cs, E w x cs → ∀ u ∈ cs, u.oneCell' = true) := ho
  have HH : Hid (SlIs E 3 w (.slice (some ⟨b, off, none⟩) n cap) l ∧ n ≤ 1000 ∧ k < n ∧ n ≤ cap) := ⟨h, by omega, by omega, by omega⟩
  have hkn : (k : Int) < (n : Int) := by omega
  have hkc : (k : Int) ≤ (cap : Int) := by omega
  have hnI : (n : Int) ≤ 1000 := by omega
  have hncI : (n : Int) ≤ (cap : Int) := by omega
  have hr : IntKind.i64.wrap ((k : Int) + 1) = (k : Int) + 1 := by rw [IntKind.wrap_i64]; omega
  have hb2 : (0 : Int) ≤ (k : Int) + 1 ∧ (k : Int) + 1 ≤ (n : Int) := by omega
  have hb1 : (0 : Int) ≤ (k : Int) ∧ (k : Int) ≤ (cap : Int) := by omega
  have ht : ((k : Int) + 1).toNat = k + 1 := by omega
  by_cases hend : k + 1 = cap
  · obtain rfl : cap = k + 1 := hend.symm
    obtain rfl : n = k + 1 := by have := HH.out.2; omega
    have hle : (k : Int) ≤ (k : Int) + 1 := by omega
    have hle0 : (0 : Int) ≤ (k : Int) + 1 := by omega
    have hle1 : (k : Int) + 1 ≤ 1000 := by omega
    clear h ho hl hn hk hcap hkn hkc hnI hncI hb2 hb1
    have hdr : SlIs E 3 w (.slice (some ⟨b, off, none⟩) 0 0) (l.drop (k + 1)) := by
      rw [List.drop_of_length_le (by have := HH.out.1.len; omega)]
      exact slIs_nil _ _ _ _ _
    have htk := HH.out.1.take (k := k) (by have := HH.out.2; omega)
    obtain ⟨W1, hW1⟩ : ∃ W1, W1 = w.drew.alloc (.cells #[.slice (some ⟨b, off, none⟩) k (k + 1), .slice (some ⟨b, off, none⟩) 0 0] 22) := ⟨_, rfl⟩
    have bW : Below w.heap.size w W1 := by rw [hW1]; exact ((Below.refl _ w).drew).alloc (Nat.le_refl _) _
    have BW : Box W1 w.heap.size 22 #[.slice (some ⟨b, off, none⟩) k (k + 1), .slice (some ⟨b, off, none⟩) 0 0] := by rw [hW1]; exact box_new w.drew _ _
    have hc := concatT_gen bW HO.out (B := w.heap.size) (BW.cell 0 _ rfl) (BW.cell 1 _ rfl) htk hdr (by have := HH.out.2; omega) (by have := HH.out.2; omega)
    have HW : Hid (W1 = w.drew.alloc (.cells #[.slice (some ⟨b, off, none⟩) k (k + 1), .slice (some ⟨b, off, none⟩) 0 0] 22) ∧ Below w.heap.size w W1) := ⟨hW1, bW⟩
    clear hdr htk bW BW hW1
    go_enter Tryz.func68, Tryz.ntmps68
    go_wp2_with fail
    refine wp_region_held_then (fun _ : World => True) _ (by kernel_rfl) rfl (by kernel_rfl) ?_
    have hHeld : (fun _ : World => True) w.drew := trivial
    dsimp only [List.dropLast, List.length, List.getLast]
    ((refine takeL 0 (v := ?_) rfl (by kernel_rfl) (by kernel_rfl) (by kernel_rfl) (fun _ _ _ h => h) (by rfl) hHeld ?_ ?_; rotate_left; focus (intro w hSw; (try dsimp only at hSw); go_simp <;> with_reducible rfl); (try simp only [Act.put, List.setIfInBounds_toArray, List.set_cons_zero, List.set_cons_succ])); (refine takeL 1 (v := ?_) rfl (by kernel_rfl) (by kernel_rfl) (by kernel_rfl) (fun _ _ _ h => h) (by rfl) hHeld ?_ ?_; rotate_left; focus (intro w hSw; (try dsimp only at hSw); go_simp <;> with_reducible rfl); (try simp only [Act.put, List.setIfInBounds_toArray, List.set_cons_zero, List.set_cons_succ])); (refine takeL 2 (v := ?_) rfl (by kernel_rfl) (by kernel_rfl) (by kernel_rfl) (fun _ _ _ h => h) (by rfl) hHeld ?_ ?_; rotate_left; focus (intro w hSw; (try dsimp only at hSw); go_simp <;> with_reducible rfl); (try simp only [Act.put, List.setIfInBounds_toArray, List.set_cons_zero, List.set_cons_succ])); (refine takeL 3 (v := ?_) rfl (by kernel_rfl) (by kernel_rfl) (by kernel_rfl) (fun _ _ _ h => h) (by rfl) hHeld ?_ ?_; rotate_left; focus (intro w hSw; (try dsimp only at hSw); go_simp <;> with_reducible rfl); (try simp only [Act.put, List.setIfInBounds_toArray, List.set_cons_zero, List.set_cons_succ])))
    dsimp only [Act.put]
    simp only [List.setIfInBounds_toArray, List.set_cons_zero, List.set_cons_succ]
    ((refine takeL 4 (v := ?_) rfl (by kernel_rfl) (by kernel_rfl) (by kernel_rfl) (fun _ _ _ h => h) (by rfl) hHeld ?_ ?_; rotate_left; focus (intro w hSw; (try dsimp only at hSw); go_simp <;> with_reducible rfl); (try simp only [Act.put, List.setIfInBounds_toArray, List.set_cons_zero, List.set_cons_succ])); (refine takeL 5 (v := ?_) rfl (by kernel_rfl) (by kernel_rfl) (by kernel_rfl) (fun _ _ _ h => h) (by rfl) hHeld ?_ ?_; rotate_left; focus (intro w hSw; (try dsimp only at hSw); go_simp <;> with_reducible rfl); (try simp only [Act.put, List.setIfInBounds_toArray, List.set_cons_zero, List.set_cons_succ])); (refine takeL 6 (v := ?_) rfl (by kernel_rfl) (by kernel_rfl) (by kernel_rfl) (fun _ _ _ h => h) (by rfl) hHeld ?_ ?_; rotate_left; focus (intro w hSw; (try dsimp only at hSw); go_simp <;> with_reducible rfl); (try simp only [Act.put, List.setIfInBounds_toArray, List.set_cons_zero, List.set_cons_succ])))
    dsimp only [Act.put]
    simp only [List.setIfInBounds_toArray, List.set_cons_zero, List.set_cons_succ]
    refine newL 7 W1 (.slice (some ⟨w.heap.size, 0, none⟩) 2 2) rfl (by kernel_rfl) (by rfl) (by rw [HW.out.1]; go_simp) trivial ?_
    try dsimp only [Act.put]
    try simp only [List.setIfInBounds_toArray, List.set_cons_zero, List.set_cons_succ]
    refine callL 8 (f := 118) (vs := #[.slice (some ⟨w.heap.size, 0, none⟩) 2 2]) rfl (by kernel_rfl) (by rfl) (by go_simp) ?_
    refine Calls.mono hc ?_
    rintro e w2 ⟨⟨v2, R, rfl, hs, hE, ho⟩, hb⟩
    have HA : Hid (SRows w2 v2 41 3 R ∧ RowsE E w (l.take k ++ l.drop (k + 1)) R ∧ (∀ x, v2.ownBlock = some x → w.heap.size ≤ x) ∧ Below w.heap.size w w2) := ⟨hs, hE, ho, hb⟩
    clear hs hE ho hb hc
    refine ⟨_, rfl, trivial, ?_⟩
    refine doneL (by kernel_rfl) ?_
    try dsimp only [Act.put]
    unfold Oper.wp
    go_simp
    go_wp2_with fail
    go_ret
    exact ⟨⟨_, R, rfl, HA.out.1, HA.out.2.1, HA.out.2.2.1⟩, HA.out.2.2.2⟩
  · have hend2 : ¬ (cap = k + 1) := fun e => hend e.symm
    have hend3 : (k + 1 = cap) = False := by simpa using hend
    have hend4 : (cap - (k + 1) = 0) = False := by have := HH.out.2; simp; omega
    clear h ho hl hn hk hcap hend
    have hdr := (HH.out.1.drop (k := k + 1) (by have := HH.out.2; omega))
    have htk := HH.out.1.take (k := k) (by have := HH.out.2; omega)
    obtain ⟨W1, hW1⟩ : ∃ W1, W1 = w.drew.alloc (.cells #[.slice (some ⟨b, off, none⟩) k cap, .slice (some ⟨b, off + (k + 1) * 3, none⟩) (n - (k + 1)) (cap - (k + 1))] 22) := ⟨_, rfl⟩
    have bW : Below w.heap.size w W1 := by rw [hW1]; exact ((Below.refl _ w).drew).alloc (Nat.le_refl _) _
    have BW : Box W1 w.heap.size 22 #[.slice (some ⟨b, off, none⟩) k cap, .slice (some ⟨b, off + (k + 1) * 3, none⟩) (n - (k + 1)) (cap - (k + 1))] := by rw [hW1]; exact box_new w.drew _ _
    have hc := concatT_gen bW HO.out (B := w.heap.size) (BW.cell 0 _ rfl) (BW.cell 1 _ rfl) htk hdr (by have := HH.out.2; omega) (by have := HH.out.2; omega)
    have HW : Hid (W1 = w.drew.alloc (.cells #[.slice (some ⟨b, off, none⟩) k cap, .slice (some ⟨b, off + (k + 1) * 3, none⟩) (n - (k + 1)) (cap - (k + 1))] 22) ∧ Below w.heap.size w W1) := ⟨hW1, bW⟩
    clear hdr htk bW BW hW1
    go_enter Tryz.func68, Tryz.ntmps68
    go_wp2_with fail
    refine wp_region_held_then (fun _ : World => True) _ (by kernel_rfl) rfl (by kernel_rfl) ?_
    have hHeld : (fun _ : World => True) w.drew := trivial
    dsimp only [List.dropLast, List.length, List.getLast]
    ((refine takeL 0 (v := ?_) rfl (by kernel_rfl) (by kernel_rfl) (by kernel_rfl) (fun _ _ _ h => h) (by rfl) hHeld ?_ ?_; rotate_left; focus (intro w hSw; (try dsimp only at hSw); go_simp <;> with_reducible rfl); (try simp only [Act.put, List.setIfInBounds_toArray, List.set_cons_zero, List.set_cons_succ])); (refine takeL 1 (v := ?_) rfl (by kernel_rfl) (by kernel_rfl) (by kernel_rfl) (fun _ _ _ h => h) (by rfl) hHeld ?_ ?_; rotate_left; focus (intro w hSw; (try dsimp only at hSw); go_simp <;> with_reducible rfl); (try simp only [Act.put, List.setIfInBounds_toArray, List.set_cons_zero, List.set_cons_succ])); (refine takeL 2 (v := ?_) rfl (by kernel_rfl) (by kernel_rfl) (by kernel_rfl) (fun _ _ _ h => h) (by rfl) hHeld ?_ ?_; rotate_left; focus (intro w hSw; (try dsimp only at hSw); go_simp <;> with_reducible rfl); (try simp only [Act.put, List.setIfInBounds_toArray, List.set_cons_zero, List.set_cons_succ])); (refine takeL 3 (v := ?_) rfl (by kernel_rfl) (by kernel_rfl) (by kernel_rfl) (fun _ _ _ h => h) (by rfl) hHeld ?_ ?_; rotate_left; focus (intro w hSw; (try dsimp only at hSw); go_simp <;> with_reducible rfl); (try simp only [Act.put, List.setIfInBounds_toArray, List.set_cons_zero, List.set_cons_succ])))
    dsimp only [Act.put]
    simp only [List.setIfInBounds_toArray, List.set_cons_zero, List.set_cons_succ]
    ((refine takeL 4 (v := ?_) rfl (by kernel_rfl) (by kernel_rfl) (by kernel_rfl) (fun _ _ _ h => h) (by rfl) hHeld ?_ ?_; rotate_left; focus (intro w hSw; (try dsimp only at hSw); go_simp <;> with_reducible rfl); (try simp only [Act.put, List.setIfInBounds_toArray, List.set_cons_zero, List.set_cons_succ])); (refine takeL 5 (v := ?_) rfl (by kernel_rfl) (by kernel_rfl) (by kernel_rfl) (fun _ _ _ h => h) (by rfl) hHeld ?_ ?_; rotate_left; focus (intro w hSw; (try dsimp only at hSw); go_simp <;> with_reducible rfl); (try simp only [Act.put, List.setIfInBounds_toArray, List.set_cons_zero, List.set_cons_succ])); (refine takeL 6 (v := ?_) rfl (by kernel_rfl) (by kernel_rfl) (by kernel_rfl) (fun _ _ _ h => h) (by rfl) hHeld ?_ ?_; rotate_left; focus (intro w hSw; (try dsimp only at hSw); go_simp <;> with_reducible rfl); (try simp only [Act.put, List.setIfInBounds_toArray, List.set_cons_zero, List.set_cons_succ])))
    dsimp only [Act.put]
    simp only [List.setIfInBounds_toArray, List.set_cons_zero, List.set_cons_succ]
    refine newL 7 W1 (.slice (some ⟨w.heap.size, 0, none⟩) 2 2) rfl (by kernel_rfl) (by rfl) (by rw [HW.out.1]; go_simp) trivial ?_
    try dsimp only [Act.put]
    try simp only [List.setIfInBounds_toArray, List.set_cons_zero, List.set_cons_succ]
    refine callL 8 (f := 118) (vs := #[.slice (some ⟨w.heap.size, 0, none⟩) 2 2]) rfl (by kernel_rfl) (by rfl) (by go_simp) ?_
    refine Calls.mono hc ?_
    rintro e w2 ⟨⟨v2, R, rfl, hs, hE, ho⟩, hb⟩
    have HA : Hid (SRows w2 v2 41 3 R ∧ RowsE E w (l.take k ++ l.drop (k + 1)) R ∧ (∀ x, v2.ownBlock = some x → w.heap.size ≤ x) ∧ Below w.heap.size w w2) := ⟨hs, hE, ho, hb⟩
    clear hs hE ho hb hc
    refine ⟨_, rfl, trivial, ?_⟩
    refine doneL (by kernel_rfl) ?_
    try dsimp only [Act.put]
    unfold Oper.wp
    go_simp
    go_wp2_with fail
    go_ret
    exact ⟨⟨_, R, rfl, HA.out.1, HA.out.2.1, HA.out.2.2.1⟩, HA.out.2.2.2⟩
theorem withoutT_any {w : World} {v : Value} {l : List Tb} (h : SlIs TbE 3 w v l) (hl : l.length ≤ 1000) (k : Nat) (hk : k < l.length) :
    Calls Tryz.prog 68 #[v, .int .i64 (k : Int)] w (CloneAns TbE 3 41 w (l.take k ++ l.drop (k + 1))) := withoutT_gen (fun _ _ h => one_tb h) h hl k hk
set_option maxRecDepth 4000 in
set_option maxHeartbeats 2000000 in
theorem withoutP_gen {α : Type} {E : World → α → List Value → Prop} {w : World} (ho : ∀ x cs, E w x cs → ∀ u ∈ cs, u.oneCell' = true) {v : Value} {l : List α} (h : SlIs E 3 w v l) (hl : l.length ≤ 1000) (k : Nat) (hk : k < l.length) :
    Calls Tryz.prog 64 #[v, .int .i64 (k : Int)] w (CloneAns E 3 26 w (l.take k ++ l.drop (k + 1))) := by
  obtain ⟨a, n, cap, rfl, hn, hcap⟩ := h.slice
  obtain ⟨b, off, rfl, _⟩ := h.lies (by rintro rfl; simp at hk)
  have HO : Hid (∀ x cs, E w x cs → ∀ u ∈ cs, u.oneCell' = true) := ho
  have HH : Hid (SlIs E 3 w (.slice (some ⟨b, off, none⟩) n cap) l ∧ n ≤ 1000 ∧ k < n ∧ n ≤ cap) := ⟨h, by omega, by omega, by omega⟩
  have hkn : (k : Int) < (n : Int) := by omega
  have hkc : (k : Int) ≤ (cap : Int) := by omega
  have hnI : (n : Int) ≤ 1000 := by omega
  have hncI : (n : Int) ≤ (cap : Int) := by omega
  have hr : IntKind.i64.wrap ((k : Int) + 1) = (k : Int) + 1 := by rw [IntKind.wrap_i64]; omega
  have hb2 : (0 : Int) ≤ (k : Int) + 1 ∧ (k : Int) + 1 ≤ (n : Int) := by omega
  have hb1 : (0 : Int) ≤ (k : Int) ∧ (k : Int) ≤ (cap : Int) := by omega
  have ht : ((k : Int) + 1).toNat = k + 1 := by omega
  by_cases hend : k + 1 = cap
  · obtain rfl : cap = k + 1 := hend.symm
    obtain rfl : n = k + 1 := by have := HH.out.2; omega
    have hle : (k : Int) ≤ (k : Int) + 1 := by omega
    have hle0 : (0 : Int) ≤ (k : Int) + 1 := by omega
    have hle1 : (k : Int) + 1 ≤ 1000 := by omega
    clear h ho hl hn hk hcap hkn hkc hnI hncI hb2 hb1
    have hdr : SlIs E 3 w (.slice (some ⟨b, off, none⟩) 0 0) (l.drop (k + 1)) := by
      rw [List.drop_of_length_le (by have := HH.out.1.len; omega)]
      exact slIs_nil _ _ _ _ _
    have htk := HH.out.1.take (k := k) (by have := HH.out.2; omega)
    obtain ⟨W1, hW1⟩ : ∃ W1, W1 = w.drew.alloc (.cells #[.slice (some ⟨b, off, none⟩) k (k + 1), .slice (some ⟨b, off, none⟩) 0 0] 39) := ⟨_, rfl⟩
    have bW : Below w.heap.size w W1 := by rw [hW1]; exact ((Below.refl _ w).drew).alloc (Nat.le_refl _) _
    have BW : Box W1 w.heap.size 39 #[.slice (some ⟨b, off, none⟩) k (k + 1), .slice (some ⟨b, off, none⟩) 0 0] := by rw [hW1]; exact box_new w.drew _ _
    have hc := concatP_gen bW HO.out (B := w.heap.size) (BW.cell 0 _ rfl) (BW.cell 1 _ rfl) htk hdr (by have := HH.out.2; omega) (by have := HH.out.2; omega)
    have HW : Hid (W1 = w.drew.alloc (.cells #[.slice (some ⟨b, off, none⟩) k (k + 1), .slice (some ⟨b, off, none⟩) 0 0] 39) ∧ Below w.heap.size w W1) := ⟨hW1, bW⟩
    clear hdr htk bW BW hW1
    go_enter Tryz.func64, Tryz.ntmps64
    go_wp2_with fail
    refine wp_region_held_then (fun _ : World => True) _ (by kernel_rfl) rfl (by kernel_rfl) ?_
    have hHeld : (fun _ : World => True) w.drew := trivial
    dsimp only [List.dropLast, List.length, List.getLast]
    ((refine takeL 0 (v := ?_) rfl (by kernel_rfl) (by kernel_rfl) (by kernel_rfl) (fun _ _ _ h => h) (by rfl) hHeld ?_ ?_; rotate_left; focus (intro w hSw; (try dsimp only at hSw); go_simp <;> with_reducible rfl); (try simp only [Act.put, List.setIfInBounds_toArray, List.set_cons_zero, List.set_cons_succ])); (refine takeL 1 (v := ?_) rfl (by kernel_rfl) (by kernel_rfl) (by kernel_rfl) (fun _ _ _ h => h) (by rfl) hHeld ?_ ?_; rotate_left; focus (intro w hSw; (try dsimp only at hSw); go_simp <;> with_reducible rfl); (try simp only [Act.put, List.setIfInBounds_toArray, List.set_cons_zero, List.set_cons_succ])); (refine takeL 2 (v := ?_) rfl (by kernel_rfl) (by kernel_rfl) (by kernel_rfl) (fun _ _ _ h => h) (by rfl) hHeld ?_ ?_; rotate_left; focus (intro w hSw; (try dsimp only at hSw); go_simp <;> with_reducible rfl); (try simp only [Act.put, List.setIfInBounds_toArray, List.set_cons_zero, List.set_cons_succ])); (refine takeL 3 (v := ?_) rfl (by kernel_rfl) (by kernel_rfl) (by kernel_rfl) (fun _ _ _ h => h) (by rfl) hHeld ?_ ?_; rotate_left; focus (intro w hSw; (try dsimp only at hSw); go_simp <;> with_reducible rfl); (try simp only [Act.put, List.setIfInBounds_toArray, List.set_cons_zero, List.set_cons_succ])))
    dsimp only [Act.put]
    simp only [List.setIfInBounds_toArray, List.set_cons_zero, List.set_cons_succ]
    ((refine takeL 4 (v := ?_) rfl (by kernel_rfl) (by kernel_rfl) (by kernel_rfl) (fun _ _ _ h => h) (by rfl) hHeld ?_ ?_; rotate_left; focus (intro w hSw; (try dsimp only at hSw); go_simp <;> with_reducible rfl); (try simp only [Act.put, List.setIfInBounds_toArray, List.set_cons_zero, List.set_cons_succ])); (refine takeL 5 (v := ?_) rfl (by kernel_rfl) (by kernel_rfl) (by kernel_rfl) (fun _ _ _ h => h) (by rfl) hHeld ?_ ?_; rotate_left; focus (intro w hSw; (try dsimp only at hSw); go_simp <;> with_reducible rfl); (try simp only [Act.put, List.setIfInBounds_toArray, List.set_cons_zero, List.set_cons_succ])); (refine takeL 6 (v := ?_) rfl (by kernel_rfl) (by kernel_rfl) (by kernel_rfl) (fun _ _ _ h => h) (by rfl) hHeld ?_ ?_; rotate_left; focus (intro w hSw; (try dsimp only at hSw); go_simp <;> with_reducible rfl); (try simp only [Act.put, List.setIfInBounds_toArray, List.set_cons_zero, List.set_cons_succ])))
    dsimp only [Act.put]
    simp only [List.setIfInBounds_toArray, List.set_cons_zero, List.set_cons_succ]
    refine newL 7 W1 (.slice (some ⟨w.heap.size, 0, none⟩) 2 2) rfl (by kernel_rfl) (by rfl) (by rw [HW.out.1]; go_simp) trivial ?_
    try dsimp only [Act.put]
    try simp only [List.setIfInBounds_toArray, List.set_cons_zero, List.set_cons_succ]
    refine callL 8 (f := 115) (vs := #[.slice (some ⟨w.heap.size, 0, none⟩) 2 2]) rfl (by kernel_rfl) (by rfl) (by go_simp) ?_
    refine Calls.mono hc ?_
    rintro e w2 ⟨⟨v2, R, rfl, hs, hE, ho⟩, hb⟩
    have HA : Hid (SRows w2 v2 26 3 R ∧ RowsE E w (l.take k ++ l.drop (k + 1)) R ∧ (∀ x, v2.ownBlock = some x → w.heap.size ≤ x) ∧ Below w.heap.size w w2) := ⟨hs, hE, ho, hb⟩
    clear hs hE ho hb hc
    refine ⟨_, rfl, trivial, ?_⟩
    refine doneL (by kernel_rfl) ?_
    try dsimp only [Act.put]
    unfold Oper.wp
    go_simp
    go_wp2_with fail
    go_ret
    exact ⟨⟨_, R, rfl, HA.out.1, HA.out.2.1, HA.out.2.2.1⟩, HA.out.2.2.2⟩
  · have hend2 : ¬ (cap = k + 1) := fun e => hend e.symm
    have hend3 : (k + 1 = cap) = False := by simpa using hend
    have hend4 : (cap - (k + 1) = 0) = False := by have := HH.out.2; simp; omega
    clear h ho hl hn hk hcap hend
    have hdr := (HH.out.1.drop (k := k + 1) (by have := HH.out.2; omega))
    have htk := HH.out.1.take (k := k) (by have := HH.out.2; omega)
    obtain ⟨W1, hW1⟩ : ∃ W1, W1 = w.drew.alloc (.cells #[.slice (some ⟨b, off, none⟩) k cap, .slice (some ⟨b, off + (k + 1) * 3, none⟩) (n - (k + 1)) (cap - (k + 1))] 39) := ⟨_, rfl⟩
    have bW : Below w.heap.size w W1 := by rw [hW1]; exact ((Below.refl _ w).drew).alloc (Nat.le_refl _) _
    have BW : Box W1 w.heap.size 39 #[.slice (some ⟨b, off, none⟩) k cap, .slice (some ⟨b, off + (k + 1) * 3, none⟩) (n - (k + 1)) (cap - (k + 1))] := by rw [hW1]; exact box_new w.drew _ _
    have hc := concatP_gen bW HO.out (B := w.heap.size) (BW.cell 0 _ rfl) (BW.cell 1 _ rfl) htk hdr (by have := HH.out.2; omega) (by have := HH.out.2; omega)
    have HW : Hid (W1 = w.drew.alloc (.cells #[.slice (some ⟨b, off, none⟩) k cap, .slice (some ⟨b, off + (k + 1) * 3, none⟩) (n - (k + 1)) (cap - (k + 1))] 39) ∧ Below w.heap.size w W1) := ⟨hW1, bW⟩
    clear hdr htk bW BW hW1
    go_enter Tryz.func64, Tryz.ntmps64
    go_wp2_with fail
    refine wp_region_held_then (fun _ : World => True) _ (by kernel_rfl) rfl (by kernel_rfl) ?_
    have hHeld : (fun _ : World => True) w.drew := trivial
    dsimp only [List.dropLast, List.length, List.getLast]
    ((refine takeL 0 (v := ?_) rfl (by kernel_rfl) (by kernel_rfl) (by kernel_rfl) (fun _ _ _ h => h) (by rfl) hHeld ?_ ?_; rotate_left; focus (intro w hSw; (try dsimp only at hSw); go_simp <;> with_reducible rfl); (try simp only [Act.put, List.setIfInBounds_toArray, List.set_cons_zero, List.set_cons_succ])); (refine takeL 1 (v := ?_) rfl (by kernel_rfl) (by kernel_rfl) (by kernel_rfl) (fun _ _ _ h => h) (by rfl) hHeld ?_ ?_; rotate_left; focus (intro w hSw; (try dsimp only at hSw); go_simp <;> with_reducible rfl); (try simp only [Act.put, List.setIfInBounds_toArray, List.set_cons_zero, List.set_cons_succ])); (refine takeL 2 (v := ?_) rfl (by kernel_rfl) (by kernel_rfl) (by kernel_rfl) (fun _ _ _ h => h) (by rfl) hHeld ?_ ?_; rotate_left; focus (intro w hSw; (try dsimp only at hSw); go_simp <;> with_reducible rfl); (try simp only [Act.put, List.setIfInBounds_toArray, List.set_cons_zero, List.set_cons_succ])); (refine takeL 3 (v := ?_) rfl (by kernel_rfl) (by kernel_rfl) (by kernel_rfl) (fun _ _ _ h => h) (by rfl) hHeld ?_ ?_; rotate_left; focus (intro w hSw; (try dsimp only at hSw); go_simp <;> with_reducible rfl); (try simp only [Act.put, List.setIfInBounds_toArray, List.set_cons_zero, List.set_cons_succ])))
    dsimp only [Act.put]
    simp only [List.setIfInBounds_toArray, List.set_cons_zero, List.set_cons_succ]
    ((refine takeL 4 (v := ?_) rfl (by kernel_rfl) (by kernel_rfl) (by kernel_rfl) (fun _ _ _ h => h) (by rfl) hHeld ?_ ?_; rotate_left; focus (intro w hSw; (try dsimp only at hSw); go_simp <;> with_reducible rfl); (try simp only [Act.put, List.setIfInBounds_toArray, List.set_cons_zero, List.set_cons_succ])); (refine takeL 5 (v := ?_) rfl (by kernel_rfl) (by kernel_rfl) (by kernel_rfl) (fun _ _ _ h => h) (by rfl) hHeld ?_ ?_; rotate_left; focus (intro w hSw; (try dsimp only at hSw); go_simp <;> with_reducible rfl); (try simp only [Act.put, List.setIfInBounds_toArray, List.set_cons_zero, List.set_cons_succ])); (refine takeL 6 (v := ?_) rfl (by kernel_rfl) (by kernel_rfl) (by kernel_rfl) (fun _ _ _ h => h) (by rfl) hHeld ?_ ?_; rotate_left; focus (intro w hSw; (try dsimp only at hSw); go_simp <;> with_reducible rfl); (try simp only [Act.put, List.setIfInBounds_toArray, List.set_cons_zero, List.set_cons_succ])))
    dsimp only [Act.put]
    simp only [List.setIfInBounds_toArray, List.set_cons_zero, List.set_cons_succ]
    refine newL 7 W1 (.slice (some ⟨w.heap.size, 0, none⟩) 2 2) rfl (by kernel_rfl) (by rfl) (by rw [HW.out.1]; go_simp) trivial ?_
    try dsimp only [Act.put]
    try simp only [List.setIfInBounds_toArray, List.set_cons_zero, List.set_cons_succ]
    refine callL 8 (f := 115) (vs := #[.slice (some ⟨w.heap.size, 0, none⟩) 2 2]) rfl (by kernel_rfl) (by rfl) (by go_simp) ?_
    refine Calls.mono hc ?_
    rintro e w2 ⟨⟨v2, R, rfl, hs, hE, ho⟩, hb⟩
    have HA : Hid (SRows w2 v2 26 3 R ∧ RowsE E w (l.take k ++ l.drop (k + 1)) R ∧ (∀ x, v2.ownBlock = some x → w.heap.size ≤ x) ∧ Below w.heap.size w w2) := ⟨hs, hE, ho, hb⟩
    clear hs hE ho hb hc
    refine ⟨_, rfl, trivial, ?_⟩
    refine doneL (by kernel_rfl) ?_
    try dsimp only [Act.put]
    unfold Oper.wp
    go_simp
    go_wp2_with fail
    go_ret
    exact ⟨⟨_, R, rfl, HA.out.1, HA.out.2.1, HA.out.2.2.1⟩, HA.out.2.2.2⟩
theorem withoutP_any {w : World} {v : Value} {l : List Pj} (h : SlIs PjE 3 w v l) (hl : l.length ≤ 1000) (k : Nat) (hk : k < l.length) :
    Calls Tryz.prog 64 #[v, .int .i64 (k : Int)] w (CloneAns PjE 3 26 w (l.take k ++ l.drop (k + 1))) := withoutP_gen (fun _ _ h => one_pj h) h hl k hk
set_option maxRecDepth 4000 in
set_option maxHeartbeats 2000000 in
theorem grownT_gen {α : Type} {E : World → α → List Value → Prop} {w : World} (ho : ∀ x cs, E w x cs → ∀ u ∈ cs, u.oneCell' = true) {v : Value} {l : List α} (h : SlIs E 3 w v l) (hl : l.length ≤ 1000) {x : α} {c0 c1 c2 : Value} (hx : E w x [c0, c1, c2]) :
    Calls Tryz.prog 59 #[v, .agg #[c0, c1, c2]] w (CloneAns E 3 41 w (l ++ [x])) := by
  obtain ⟨a, n, cap, rfl, hn, hcap⟩ := h.slice
  have hcut : SlIs E 3 w (.slice a n n) l := by
    obtain ⟨a', cap', e, h1, h2⟩ := h
    cases e
    rw [← hn]
    exact ⟨a, l.length, rfl, Nat.le_refl _, h2⟩
  have hb0 := below1 w (.cells #[c0, c1, c2] 41)
  have B0 := box_new w #[c0, c1, c2] 41
  have hone := ho _ _ hx
  obtain ⟨w0, hw0⟩ : ∃ w0, w0 = w.alloc (.cells #[c0, c1, c2] 41) := ⟨_, rfl⟩
  rw [← hw0] at hb0 B0
  obtain ⟨W1, hW1⟩ : ∃ W1, W1 = w0.drew.alloc (.cells #[c0, c1, c2] 41) := ⟨_, rfl⟩
  have bW : Below w0.heap.size w0 W1 := by rw [hW1]; exact ((Below.refl _ w0).drew).alloc (Nat.le_refl _) _
  have BW : Box W1 w0.heap.size 41 #[c0, c1, c2] := by rw [hW1]; exact box_new w0.drew _ _
  have bwW := hb0.trans (bW.mono hb0.size)
  obtain ⟨i0, hi, hz0, hz1, hz2⟩ := info_parts infos_tb
  obtain ⟨g, vc, w2, R, hrun, hsr, hre, hg, hb2⟩ := run_full (P := Tryz.prog) w W1 22 22 41 i0 (.agg #[.string ⟨#[]⟩, .slice none 0 0, .slice none 0 0]) 64 Tryz.underlying22 hi hz0 hz1 hz2 rfl (by decide) (by decide) hcut bwW (by omega) ⟨w0.heap.size, 0, none⟩ 1 x [c0, c1, c2] rfl hx (fun j u hu => by rw [add_off, Nat.zero_add]; exact BW.cell j u (by simpa using hu)) hone
  have HW : Hid (w0 = w.alloc (.cells #[c0, c1, c2] 41) ∧ W1 = w0.drew.alloc (.cells #[c0, c1, c2] 41)) := ⟨hw0, hW1⟩
  have HB : Hid (Box w0 w.heap.size 41 #[c0, c1, c2] ∧ Box W1 w.heap.size 41 #[c0, c1, c2]) := ⟨B0, B0.over bW⟩
  have HA : Hid (SRows w2 (.slice (some ⟨g, 0, none⟩) (n + 1) vc) 41 3 R ∧ RowsE E w (l ++ [x]) R ∧ (∀ y, (Value.slice (some ⟨g, 0, none⟩) (n + 1) vc).ownBlock = some y → w.heap.size ≤ y) ∧ Below w.heap.size w w2) := ⟨hsr, hre, fun y hy => by have e : some g = some y := hy; cases e; have := bwW.size; omega, bwW.trans (hb2.mono bwW.size)⟩
  have HB2 : Hid (w2.cell? ⟨w.heap.size, 0, none⟩ = some c0 ∧ w2.cell? ⟨w.heap.size, 1, none⟩ = some c1 ∧ w2.cell? ⟨w.heap.size, 2, none⟩ = some c2) := by
    have := HB.out.2.over hb2
    exact ⟨this.cell 0 _ rfl, this.cell 1 _ rfl, this.cell 2 _ rfl⟩
  have HRUN : Hid ((Builtin.append_ #[22, 22] 22 #[.slice a n n, .slice (some ⟨w0.heap.size, 0, none⟩) 1 1]).run Tryz.prog W1 = .ok (.slice (some ⟨g, 0, none⟩) (n + 1) vc) w2) := hrun
  have hnI : (n : Int) ≤ 1000 := by omega
  have hncI : (n : Int) ≤ (cap : Int) := by omega
  have hbb : (0 : Int) ≤ (n : Int) ∧ (n : Int) ≤ (cap : Int) := by omega
  clear h ho hl hn hcap hcut hb0 B0 hone hw0 hW1 bW BW bwW hi hz0 hz1 hz2 hrun hsr hre hg hb2 hx
  go_enter Tryz.func59, Tryz.ntmps59
  go_wp2_with fail
  rw [← HW.out.1]
  refine wp_region_held_then (fun w' : World => w'.cell? ⟨w.heap.size, 0, none⟩ = some c0 ∧ w'.cell? ⟨w.heap.size, 1, none⟩ = some c1 ∧ w'.cell? ⟨w.heap.size, 2, none⟩ = some c2) _ (by kernel_rfl) rfl (by kernel_rfl) ?_
  have hHeld : (fun w' : World => w'.cell? ⟨w.heap.size, 0, none⟩ = some c0 ∧ w'.cell? ⟨w.heap.size, 1, none⟩ = some c1 ∧ w'.cell? ⟨w.heap.size, 2, none⟩ = some c2) w0.drew := ⟨HB.out.1.cell 0 _ rfl, HB.out.1.cell 1 _ rfl, HB.out.1.cell 2 _ rfl⟩
  dsimp only [List.dropLast, List.length, List.getLast]
  ((refine takeL 0 (v := ?_) rfl (by kernel_rfl) (by kernel_rfl) (by kernel_rfl) (fun _ _ _ h => h) (by rfl) hHeld ?_ ?_; rotate_left; focus (intro w hSw; (try dsimp only at hSw); go_simp <;> with_reducible rfl); (try simp only [Act.put, List.setIfInBounds_toArray, List.set_cons_zero, List.set_cons_succ])); (refine takeL 1 (v := ?_) rfl (by kernel_rfl) (by kernel_rfl) (by kernel_rfl) (fun _ _ _ h => h) (by rfl) hHeld ?_ ?_; rotate_left; focus (intro w hSw; (try dsimp only at hSw); go_simp <;> with_reducible rfl); (try simp only [Act.put, List.setIfInBounds_toArray, List.set_cons_zero, List.set_cons_succ])); (refine takeL 2 (v := ?_) rfl (by kernel_rfl) (by kernel_rfl) (by kernel_rfl) (fun _ _ _ h => h) (by rfl) hHeld ?_ ?_; rotate_left; focus (intro w hSw; (try dsimp only at hSw); go_simp <;> with_reducible rfl); (try simp only [Act.put, List.setIfInBounds_toArray, List.set_cons_zero, List.set_cons_succ])); (refine takeL 3 (v := ?_) rfl (by kernel_rfl) (by kernel_rfl) (by kernel_rfl) (fun _ _ _ h => h) (by rfl) hHeld ?_ ?_; rotate_left; focus (intro w hSw; (try dsimp only at hSw); go_simp <;> with_reducible rfl); (try simp only [Act.put, List.setIfInBounds_toArray, List.set_cons_zero, List.set_cons_succ])))
  dsimp only [Act.put]
  simp only [List.setIfInBounds_toArray, List.set_cons_zero, List.set_cons_succ]
  ((refine takeL 4 (v := ?_) rfl (by kernel_rfl) (by kernel_rfl) (by kernel_rfl) (fun _ _ _ h => h) (by rfl) hHeld ?_ ?_; rotate_left; focus (intro w hSw; (try dsimp only at hSw); go_simp <;> with_reducible rfl); (try simp only [Act.put, List.setIfInBounds_toArray, List.set_cons_zero, List.set_cons_succ])); (refine takeL 5 (v := ?_) rfl (by kernel_rfl) (by kernel_rfl) (by kernel_rfl) (fun _ _ _ h => h) (by rfl) hHeld ?_ ?_; rotate_left; focus (intro w hSw; (try dsimp only at hSw); go_simp <;> with_reducible rfl); (try simp only [Act.put, List.setIfInBounds_toArray, List.set_cons_zero, List.set_cons_succ])); (refine takeL 6 (v := ?_) rfl (by kernel_rfl) (by kernel_rfl) (by kernel_rfl) (fun _ _ _ h => h) (by rfl) hHeld ?_ ?_; rotate_left; focus (intro w hSw; (try dsimp only at hSw); go_simp <;> with_reducible rfl); (try simp only [Act.put, List.setIfInBounds_toArray, List.set_cons_zero, List.set_cons_succ])))
  dsimp only [Act.put]
  simp only [List.setIfInBounds_toArray, List.set_cons_zero, List.set_cons_succ]
  refine newL 7 W1 (.slice (some ⟨w0.heap.size, 0, none⟩) 1 1) rfl (by kernel_rfl) (by rfl) (by rw [HW.out.2]; go_simp) ⟨HB.out.2.cell 0 _ rfl, HB.out.2.cell 1 _ rfl, HB.out.2.cell 2 _ rfl⟩ ?_
  try dsimp only [Act.put]
  try simp only [List.setIfInBounds_toArray, List.set_cons_zero, List.set_cons_succ]
  refine newL 8 w2 (.slice (some ⟨g, 0, none⟩) (n + 1) vc) rfl (by kernel_rfl) (by rfl) (exec_append_of (.tmp 10) (.tmp 12) 22 rfl rfl rfl HRUN.out) HB2.out ?_
  refine doneL (by kernel_rfl) ?_
  try dsimp only [Act.put]
  unfold Oper.wp
  clear hHeld
  go_simp
  go_wp2_with fail
  go_ret
  exact ⟨⟨_, R, rfl, HA.out.1, HA.out.2.1, HA.out.2.2.1⟩, HA.out.2.2.2⟩
theorem grownT_any {w : World} {v : Value} {l : List Tb} (h : SlIs TbE 3 w v l) (hl : l.length ≤ 1000) {x : Tb} {c0 c1 c2 : Value} (hx : TbE w x [c0, c1, c2]) :
    Calls Tryz.prog 59 #[v, .agg #[c0, c1, c2]] w (CloneAns TbE 3 41 w (l ++ [x])) := grownT_gen (fun _ _ h => one_tb h) h hl hx
set_option maxRecDepth 4000 in
set_option maxHeartbeats 2000000 in
theorem grownP_gen {α : Type} {E : World → α → List Value → Prop} {w : World} (ho : ∀ x cs, E w x cs → ∀ u ∈ cs, u.oneCell' = true) {v : Value} {l : List α} (h : SlIs E 3 w v l) (hl : l.length ≤ 1000) {x : α} {c0 c1 c2 : Value} (hx : E w x [c0, c1, c2]) :
    Calls Tryz.prog 62 #[v, .agg #[c0, c1, c2]] w (CloneAns E 3 26 w (l ++ [x])) := by
  obtain ⟨a, n, cap, rfl, hn, hcap⟩ := h.slice
  have hcut : SlIs E 3 w (.slice a n n) l := by
    obtain ⟨a', cap', e, h1, h2⟩ := h
    cases e
    rw [← hn]
    exact ⟨a, l.length, rfl, Nat.le_refl _, h2⟩
  have hb0 := below1 w (.cells #[c0, c1, c2] 26)
  have B0 := box_new w #[c0, c1, c2] 26
  have hone := ho _ _ hx
  obtain ⟨w0, hw0⟩ : ∃ w0, w0 = w.alloc (.cells #[c0, c1, c2] 26) := ⟨_, rfl⟩
  rw [← hw0] at hb0 B0
  obtain ⟨W1, hW1⟩ : ∃ W1, W1 = w0.drew.alloc (.cells #[c0, c1, c2] 26) := ⟨_, rfl⟩
  have bW : Below w0.heap.size w0 W1 := by rw [hW1]; exact ((Below.refl _ w0).drew).alloc (Nat.le_refl _) _
  have BW : Box W1 w0.heap.size 26 #[c0, c1, c2] := by rw [hW1]; exact box_new w0.drew _ _
  have bwW := hb0.trans (bW.mono hb0.size)
  obtain ⟨i0, hi, hz0, hz1, hz2⟩ := info_parts infos_pj
  obtain ⟨g, vc, w2, R, hrun, hsr, hre, hg, hb2⟩ := run_full (P := Tryz.prog) w W1 39 39 26 i0 (.agg #[.string ⟨#[]⟩, .slice none 0 0, .int .i64 0]) 48 Tryz.underlying39 hi hz0 hz1 hz2 rfl (by decide) (by decide) hcut bwW (by omega) ⟨w0.heap.size, 0, none⟩ 1 x [c0, c1, c2] rfl hx (fun j u hu => by rw [add_off, Nat.zero_add]; exact BW.cell j u (by simpa using hu)) hone
  have HW : Hid (w0 = w.alloc (.cells #[c0, c1, c2] 26) ∧ W1 = w0.drew.alloc (.cells #[c0, c1, c2] 26)) := ⟨hw0, hW1⟩
  have HB : Hid (Box w0 w.heap.size 26 #[c0, c1, c2] ∧ Box W1 w.heap.size 26 #[c0, c1, c2]) := ⟨B0, B0.over bW⟩
  have HA : Hid (SRows w2 (.slice (some ⟨g, 0, none⟩) (n + 1) vc) 26 3 R ∧ RowsE E w (l ++ [x]) R ∧ (∀ y, (Value.slice (some ⟨g, 0, none⟩) (n + 1) vc).ownBlock = some y → w.heap.size ≤ y) ∧ Below w.heap.size w w2) := ⟨hsr, hre, fun y hy => by have e : some g = some y := hy; cases e; have := bwW.size; omega, bwW.trans (hb2.mono bwW.size)⟩
  have HB2 : Hid (w2.cell? ⟨w.heap.size, 0, none⟩ = some c0 ∧ w2.cell? ⟨w.heap.size, 1, none⟩ = some c1 ∧ w2.cell? ⟨w.heap.size, 2, none⟩ = some c2) := by
    have := HB.out.2.over hb2
    exact ⟨this.cell 0 _ rfl, this.cell 1 _ rfl, this.cell 2 _ rfl⟩
  have HRUN : Hid ((Builtin.append_ #[39, 39] 39 #[.slice a n n, .slice (some ⟨w0.heap.size, 0, none⟩) 1 1]).run Tryz.prog W1 = .ok (.slice (some ⟨g, 0, none⟩) (n + 1) vc) w2) := hrun
  have hnI : (n : Int) ≤ 1000 := by omega
  have hncI : (n : Int) ≤ (cap : Int) := by omega
  have hbb : (0 : Int) ≤ (n : Int) ∧ (n : Int) ≤ (cap : Int) := by omega
  clear h ho hl hn hcap hcut hb0 B0 hone hw0 hW1 bW BW bwW hi hz0 hz1 hz2 hrun hsr hre hg hb2 hx
  go_enter Tryz.func62, Tryz.ntmps62
  go_wp2_with fail
  rw [← HW.out.1]
  refine wp_region_held_then (fun w' : World => w'.cell? ⟨w.heap.size, 0, none⟩ = some c0 ∧ w'.cell? ⟨w.heap.size, 1, none⟩ = some c1 ∧ w'.cell? ⟨w.heap.size, 2, none⟩ = some c2) _ (by kernel_rfl) rfl (by kernel_rfl) ?_
  have hHeld : (fun w' : World => w'.cell? ⟨w.heap.size, 0, none⟩ = some c0 ∧ w'.cell? ⟨w.heap.size, 1, none⟩ = some c1 ∧ w'.cell? ⟨w.heap.size, 2, none⟩ = some c2) w0.drew := ⟨HB.out.1.cell 0 _ rfl, HB.out.1.cell 1 _ rfl, HB.out.1.cell 2 _ rfl⟩
  dsimp only [List.dropLast, List.length, List.getLast]
  ((refine takeL 0 (v := ?_) rfl (by kernel_rfl) (by kernel_rfl) (by kernel_rfl) (fun _ _ _ h => h) (by rfl) hHeld ?_ ?_; rotate_left; focus (intro w hSw; (try dsimp only at hSw); go_simp <;> with_reducible rfl); (try simp only [Act.put, List.setIfInBounds_toArray, List.set_cons_zero, List.set_cons_succ])); (refine takeL 1 (v := ?_) rfl (by kernel_rfl) (by kernel_rfl) (by kernel_rfl) (fun _ _ _ h => h) (by rfl) hHeld ?_ ?_; rotate_left; focus (intro w hSw; (try dsimp only at hSw); go_simp <;> with_reducible rfl); (try simp only [Act.put, List.setIfInBounds_toArray, List.set_cons_zero, List.set_cons_succ])); (refine takeL 2 (v := ?_) rfl (by kernel_rfl) (by kernel_rfl) (by kernel_rfl) (fun _ _ _ h => h) (by rfl) hHeld ?_ ?_; rotate_left; focus (intro w hSw; (try dsimp only at hSw); go_simp <;> with_reducible rfl); (try simp only [Act.put, List.setIfInBounds_toArray, List.set_cons_zero, List.set_cons_succ])); (refine takeL 3 (v := ?_) rfl (by kernel_rfl) (by kernel_rfl) (by kernel_rfl) (fun _ _ _ h => h) (by rfl) hHeld ?_ ?_; rotate_left; focus (intro w hSw; (try dsimp only at hSw); go_simp <;> with_reducible rfl); (try simp only [Act.put, List.setIfInBounds_toArray, List.set_cons_zero, List.set_cons_succ])))
  dsimp only [Act.put]
  simp only [List.setIfInBounds_toArray, List.set_cons_zero, List.set_cons_succ]
  ((refine takeL 4 (v := ?_) rfl (by kernel_rfl) (by kernel_rfl) (by kernel_rfl) (fun _ _ _ h => h) (by rfl) hHeld ?_ ?_; rotate_left; focus (intro w hSw; (try dsimp only at hSw); go_simp <;> with_reducible rfl); (try simp only [Act.put, List.setIfInBounds_toArray, List.set_cons_zero, List.set_cons_succ])); (refine takeL 5 (v := ?_) rfl (by kernel_rfl) (by kernel_rfl) (by kernel_rfl) (fun _ _ _ h => h) (by rfl) hHeld ?_ ?_; rotate_left; focus (intro w hSw; (try dsimp only at hSw); go_simp <;> with_reducible rfl); (try simp only [Act.put, List.setIfInBounds_toArray, List.set_cons_zero, List.set_cons_succ])); (refine takeL 6 (v := ?_) rfl (by kernel_rfl) (by kernel_rfl) (by kernel_rfl) (fun _ _ _ h => h) (by rfl) hHeld ?_ ?_; rotate_left; focus (intro w hSw; (try dsimp only at hSw); go_simp <;> with_reducible rfl); (try simp only [Act.put, List.setIfInBounds_toArray, List.set_cons_zero, List.set_cons_succ])))
  dsimp only [Act.put]
  simp only [List.setIfInBounds_toArray, List.set_cons_zero, List.set_cons_succ]
  refine newL 7 W1 (.slice (some ⟨w0.heap.size, 0, none⟩) 1 1) rfl (by kernel_rfl) (by rfl) (by rw [HW.out.2]; go_simp) ⟨HB.out.2.cell 0 _ rfl, HB.out.2.cell 1 _ rfl, HB.out.2.cell 2 _ rfl⟩ ?_
  try dsimp only [Act.put]
  try simp only [List.setIfInBounds_toArray, List.set_cons_zero, List.set_cons_succ]
  refine newL 8 w2 (.slice (some ⟨g, 0, none⟩) (n + 1) vc) rfl (by kernel_rfl) (by rfl) (exec_append_of (.tmp 10) (.tmp 12) 39 rfl rfl rfl HRUN.out) HB2.out ?_
  refine doneL (by kernel_rfl) ?_
  try dsimp only [Act.put]
  unfold Oper.wp
  clear hHeld
  go_simp
  go_wp2_with fail
  go_ret
  exact ⟨⟨_, R, rfl, HA.out.1, HA.out.2.1, HA.out.2.2.1⟩, HA.out.2.2.2⟩
theorem grownP_any {w : World} {v : Value} {l : List Pj} (h : SlIs PjE 3 w v l) (hl : l.length ≤ 1000) {x : Pj} {c0 c1 c2 : Value} (hx : PjE w x [c0, c1, c2]) :
    Calls Tryz.prog 62 #[v, .agg #[c0, c1, c2]] w (CloneAns PjE 3 26 w (l ++ [x])) := grownP_gen (fun _ _ h => one_pj h) h hl hx
theorem rowsE_set {α : Type} {E : World → α → List Value → Prop} {w : World} {l : List α} {R : List (List Value)} (h : RowsE E w l R) (k : Nat) (x : α) (r : List Value) (hx : E w x r) : RowsE E w (l.set k x) (R.set k r) := by
  refine ⟨by simp [h.1], fun i y s hy hs => ?_⟩
  rw [List.getElem?_set] at hy hs
  by_cases e : k = i
  · subst e
    rw [if_pos rfl] at hy hs
    split at hy
    · split at hs
      · cases hy; cases hs; exact hx
      · cases hs
    · cases hy
  · rw [if_neg e] at hy hs
    exact h.2 i y s hy hs
set_option maxRecDepth 4000 in
set_option maxHeartbeats 2000000 in
theorem with_any {w : World} {v : Value} {l : List Tb} (h : TabsIs w v l) (hl : l.length ≤ 1000) (k : Nat) (hk : k < l.length) {x : Tb} {c0 c1 c2 : Value} (hx : TbE w x [c0, c1, c2]) :
    Calls Tryz.prog 63 #[v, .int .i64 (k : Int), .agg #[c0, c1, c2]] w fun e w' => (∃ v', e = .returned v' ∧ TabsIs w' v' (l.set k x)) ∧ Below w.heap.size w w' := by
  obtain ⟨a, n, cap, rfl, hn, hcap⟩ := h.slice
  have hb0 := below1 w (.cells #[c0, c1, c2] 41)
  have B0 := box_new w #[c0, c1, c2] 41
  have hone := one_three (one_tb hx)
  have hc := cloneT_any (h.over stays_tb hb0) (by omega)
  obtain ⟨wA, hwA⟩ : ∃ wA, wA = w.alloc (.cells #[c0, c1, c2] 41) := ⟨_, rfl⟩
  have HWA : Hid (wA = w.alloc (.cells #[c0, c1, c2] 41)) := hwA
  rw [← hwA] at hb0 B0 hc
  have HB : Hid (Below w.heap.size w wA ∧ Box wA w.heap.size 41 #[c0, c1, c2] ∧ TbE wA x [c0, c1, c2] ∧ l.length = n ∧ k < n) := ⟨hb0, B0, stays_tb _ _ _ _ hx hb0, hn, by omega⟩
  have hkn : (k : Int) < (n : Int) := by omega
  clear h hb0 B0 hx hn hl hcap hk hwA
  go_enter Tryz.func63, Tryz.ntmps63
  go_wp2_with fail
  rw [← HWA.out]
  refine Calls.mono hc ?_
  rintro e w1 ⟨⟨v1, R, rfl, hs, hE, ho⟩, hb⟩
  have hRn : R.length = n := hE.1.trans HB.out.2.2.2.1
  rcases hs with ⟨rfl, h0⟩ | ⟨g, cp, rfl, h1, h2, hrows⟩
  · subst h0; have := HB.out.2.2.2.2; simp at hRn; omega
  · have hth := hrows.there (i := k) (by rw [hRn]; exact HB.out.2.2.2.2)
    have Bx := HB.out.2.1.over hb
    have f0 := Bx.cell 0 _ rfl
    have f1 := Bx.cell 1 _ rfl
    have f2 := Bx.cell 2 _ rfl
    have HA : Hid (Rows w1 g 41 (cp * 3) 3 R ∧ RowsE TbE wA l R ∧ Below wA.heap.size wA w1 ∧ R.length ≤ cp ∧ cp ≤ maxLen ∧ wA.heap.size ≤ g ∧ R.length = n) := ⟨hrows, hE, hb, h1, h2, ho g rfl, hRn⟩
    rw [hRn]
    have HT : Hid (w1.there g (k * 3) 3) := hth
    clear hrows hE hb h1 h2 hth Bx hRn ho hc
    go_wp2_with (refine wpList_store_mid rfl 41 _ _ rfl g (k * 3) #[c0, c1, c2] rfl rfl HT.out size_tb hone ?_)
    go_ret
    have ha := HA.out
    have hbb : Below wA.heap.size wA (w1.setCells g (k * 3) [c0, c1, c2]) := ha.2.2.1.trans (Kept.below (F := fun z => z = g) (Kept.setCells (F := fun z => z = g) (a := w1) (.inl rfl) _ _ _ (Kept.refl _ _)) (fun z hz => by rw [hz]; exact ha.2.2.2.2.2.1) ha.2.2.1.size)
    refine ⟨⟨_, rfl, slIs_of_srows (t := 41) (R := R.set k [c0, c1, c2]) (.inr ⟨g, cp, by simp [ha.2.2.2.2.2.2], by simpa using ha.2.2.2.1, ha.2.2.2.2.1, ha.1.set (by rw [ha.2.2.2.2.2.2]; exact HB.out.2.2.2.2) rfl⟩) (rowsE_over stays_tb (rowsE_set ha.2.1 k x _ HB.out.2.2.1) hbb)⟩, HB.out.1.trans (hbb.mono HB.out.1.size)⟩
end Go.Proofs.YtdjobjbkpagnaaaGreat
/-
  Tables in memory that lie in none of some blocks: what is written there turns none of them. No program is spoken of.
-/
namespace Go.Proofs.YtdjobjbkpagnaaaGreat
open Go.RowKit Go.Shelf

/-- A slice reads as l, and lies in no block of G. -/
def SlX {α : Type} (G : Nat → Prop) (E : World → α → List Value → Prop) (sz : Nat) (w : World) (v : Value) (l : List α) : Prop :=
  ∃ a cap, v = .slice a l.length cap ∧ l.length ≤ cap ∧ (l ≠ [] → ∃ b off, a = some ⟨b, off, none⟩ ∧ b < w.heap.size ∧ ¬ G b ∧
    ∀ (i : Nat) (x : α), l[i]? = some x → ∃ cs : List Value, cs.length = sz ∧ E w x cs ∧ ∀ (j : Nat) (u : Value), cs[j]? = some u → w.cell? ⟨b, off + i * sz + j, none⟩ = some u)
def PjX (G : Nat → Prop) (w : World) (p : Pj) (cs : List Value) : Prop := ∃ v, cs = [.string p.name, v, .int .i64 p.keys.toInt] ∧ SlX G IntE 1 w v p.cols
def TbX (G : Nat → Prop) (w : World) (t : Tb) (cs : List Value) : Prop := ∃ vc vp, cs = [.string t.name, vc, vp] ∧ SlX G ColE 3 w vc t.cols ∧ SlX G (PjX G) 3 w vp t.projs
section
variable {α : Type} {G H : Nat → Prop} {E E' : World → α → List Value → Prop} {sz : Nat} {w w' : World} {v : Value} {l : List α}
theorem SlX.is (h : SlX G E sz w v l) (hE : ∀ x cs, E w x cs → E' w x cs) : SlIs E' sz w v l := by
  obtain ⟨a, cap, rfl, hc, h⟩ := h
  refine ⟨a, cap, rfl, hc, fun hl => ?_⟩
  obtain ⟨b, off, rfl, hb, _, h⟩ := h hl
  refine ⟨b, off, rfl, hb, fun i x hx => ?_⟩
  obtain ⟨cs, h1, h2, h3⟩ := h i x hx
  exact ⟨cs, h1, hE x cs h2, h3⟩
theorem SlX.kept (h : SlX G E sz w v l) (k : Kept G w w') (hE : ∀ x cs, E w x cs → E w' x cs) : SlX G E sz w' v l := by
  obtain ⟨a, cap, rfl, hc, h⟩ := h
  refine ⟨a, cap, rfl, hc, fun hl => ?_⟩
  obtain ⟨b, off, rfl, hb, hg, h⟩ := h hl
  refine ⟨b, off, rfl, Nat.lt_of_lt_of_le hb k.size, hg, fun i x hx => ?_⟩
  obtain ⟨cs, h1, h2, h3⟩ := h i x hx
  refine ⟨cs, h1, hE x cs h2, fun j u hu => ?_⟩
  rw [World.cell?_of_block (a := ⟨b, off + i * sz + j, none⟩) (k.block b hb hg)]
  exact h3 j u hu
theorem SlX.other (h : SlX G E sz w v l) (hG : ∀ b, b < w.heap.size → H b → G b) (hE : ∀ x cs, E w x cs → E' w x cs) : SlX H E' sz w v l := by
  obtain ⟨a, cap, rfl, hc, h⟩ := h
  refine ⟨a, cap, rfl, hc, fun hl => ?_⟩
  obtain ⟨b, off, rfl, hb, hg, h⟩ := h hl
  refine ⟨b, off, rfl, hb, fun hh => hg (hG b hb hh), fun i x hx => ?_⟩
  obtain ⟨cs, h1, h2, h3⟩ := h i x hx
  exact ⟨cs, h1, hE x cs h2, h3⟩
theorem slX_of (h : SlIs E sz w v l) (hG : ∀ b, G b → w.heap.size ≤ b) (hE : ∀ x cs, E w x cs → E' w x cs) : SlX G E' sz w v l := by
  obtain ⟨a, cap, rfl, hc, h⟩ := h
  refine ⟨a, cap, rfl, hc, fun hl => ?_⟩
  obtain ⟨b, off, rfl, hb, h⟩ := h hl
  refine ⟨b, off, rfl, hb, fun hh => by have := hG b hh; omega, fun i x hx => ?_⟩
  obtain ⟨cs, h1, h2, h3⟩ := h i x hx
  exact ⟨cs, h1, hE x cs h2, h3⟩
theorem slX_of_srows {t : TypeId} {R : List (List Value)} (h : SRows w v t sz R) (hE : RowsE E w l R) (hG : ∀ k, v.ownBlock = some k → ¬ G k) : SlX G E sz w v l := by
  obtain ⟨a, cap, rfl, hc, h2⟩ := slIs_of_srows h hE
  refine ⟨a, cap, rfl, hc, fun hl => ?_⟩
  obtain ⟨b, off, rfl, hb, h3⟩ := h2 hl
  exact ⟨b, off, rfl, hb, hG b rfl, h3⟩
end
theorem PjX.is {G : Nat → Prop} {w : World} {p : Pj} {cs : List Value} (h : PjX G w p cs) : PjE w p cs := by
  obtain ⟨v, rfl, h⟩ := h
  exact ⟨v, rfl, h.is fun _ _ h => h⟩
theorem PjX.kept {G : Nat → Prop} {w w' : World} {p : Pj} {cs : List Value} (h : PjX G w p cs) (k : Kept G w w') : PjX G w' p cs := by
  obtain ⟨v, rfl, h⟩ := h
  exact ⟨v, rfl, h.kept k fun _ _ h => h⟩
theorem PjX.other {G H : Nat → Prop} {w : World} {p : Pj} {cs : List Value} (h : PjX G w p cs) (hG : ∀ b, b < w.heap.size → H b → G b) : PjX H w p cs := by
  obtain ⟨v, rfl, h⟩ := h
  exact ⟨v, rfl, h.other hG fun _ _ h => h⟩
theorem pjX_of {G : Nat → Prop} {w : World} {p : Pj} {cs : List Value} (h : PjE w p cs) (hG : ∀ b, G b → w.heap.size ≤ b) : PjX G w p cs := by
  obtain ⟨v, rfl, h⟩ := h
  exact ⟨v, rfl, slX_of h hG fun _ _ h => h⟩
theorem TbX.is {G : Nat → Prop} {w : World} {t : Tb} {cs : List Value} (h : TbX G w t cs) : TbE w t cs := by
  obtain ⟨vc, vp, rfl, h1, h2⟩ := h
  exact ⟨vc, vp, rfl, h1.is fun _ _ h => h, h2.is fun _ _ h => h.is⟩
theorem TbX.kept {G : Nat → Prop} {w w' : World} {t : Tb} {cs : List Value} (h : TbX G w t cs) (k : Kept G w w') : TbX G w' t cs := by
  obtain ⟨vc, vp, rfl, h1, h2⟩ := h
  exact ⟨vc, vp, rfl, h1.kept k fun _ _ h => h, h2.kept k fun _ _ h => h.kept k⟩
theorem TbX.other {G H : Nat → Prop} {w : World} {t : Tb} {cs : List Value} (h : TbX G w t cs) (hG : ∀ b, b < w.heap.size → H b → G b) : TbX H w t cs := by
  obtain ⟨vc, vp, rfl, h1, h2⟩ := h
  exact ⟨vc, vp, rfl, h1.other hG fun _ _ h => h, h2.other hG fun _ _ h => h.other hG⟩
theorem tbX_of {G : Nat → Prop} {w : World} {t : Tb} {cs : List Value} (h : TbE w t cs) (hG : ∀ b, G b → w.heap.size ≤ b) : TbX G w t cs := by
  obtain ⟨vc, vp, rfl, h1, h2⟩ := h
  exact ⟨vc, vp, rfl, slX_of h1 hG fun _ _ h => h, slX_of h2 hG fun _ _ h => pjX_of h hG⟩
/-- One cell of a row is turned. -/
theorem rows_setOne {w : World} {b : Nat} {t : TypeId} {tot sz : Nat} {R : List (List Value)} (h : Rows w b t tot sz R) {i j : Nat} {r : List Value} (hr : R[i]? = some r) (hj : j < sz) (v : Value) :
    Rows (w.setCell ⟨b, i * sz + j, none⟩ v) b t tot sz (R.set i (r.set j v)) := by
  have hi : i < R.length := (List.getElem?_eq_some_iff.1 hr).1
  have hf := h.fit hi
  obtain ⟨cur, h1, h2, h3, h4, h5⟩ := h
  have hl := h4 r (List.mem_of_getElem? hr)
  refine ⟨cur.setIfInBounds (i * sz + j) v, heap_setCell_same w b _ cur t v h1, by simpa using h2, by simpa using h3, ?_, ?_⟩
  · intro x hx
    rcases List.mem_or_eq_of_mem_set hx with hx | rfl
    · exact h4 x hx
    · simpa using hl
  · intro k x hx m u hu
    rw [List.getElem?_set] at hx
    rw [Array.getElem?_setIfInBounds]
    by_cases e : i = k
    · subst e
      simp [hi] at hx
      subst hx
      rw [List.getElem?_set] at hu
      by_cases e2 : j = m
      · subst e2
        simp [hl, hj] at hu
        subst hu
        simp
        omega
      · rw [if_neg e2] at hu
        rw [if_neg (by omega)]
        exact h5 i r hr m u hu
    · rw [if_neg e] at hx
      have hm : m < sz := by
        have := h4 x (List.mem_of_getElem? hx)
        have := (List.getElem?_eq_some_iff.1 hu).1
        omega
      rw [if_neg ?_]
      · exact h5 k x hx m u hu
      · intro h
        rcases Nat.lt_or_ge k i with h' | h'
        · have : (k + 1) * sz ≤ i * sz := Nat.mul_le_mul_right _ h'
          rw [Nat.add_mul] at this
          omega
        · have : (i + 1) * sz ≤ k * sz := Nat.mul_le_mul_right _ (by omega)
          rw [Nat.add_mul] at this
          omega
/-- Where a cell of such a row lies, and that it may be turned. -/
theorem rows_cell {w : World} {b : Nat} {t : TypeId} {tot sz : Nat} {R : List (List Value)} (h : Rows w b t tot sz R) {i j : Nat} {r : List Value} {u : Value} (hr : R[i]? = some r) (hu : r[j]? = some u) : w.cell? ⟨b, i * sz + j, none⟩ = some u ∧ w.frozen? ⟨b, i * sz + j, none⟩ = false := by
  refine ⟨h.range hr j u hu, ?_⟩
  obtain ⟨cur, h1, _⟩ := h
  exact frozen_of_row w b _ cur t h1
/-- The rows of a list of tables that is being made. -/
def RowsX {α : Type} (E : World → α → List Value → Prop) (w : World) (l : List α) (R : List (List Value)) : Prop := RowsE E w l R
theorem rowsX_kept {w w' : World} {G : Nat → Prop} {l : List Tb} {R : List (List Value)} (h : RowsE (TbX G) w l R) (k : Kept G w w') : RowsE (TbX G) w' l R := ⟨h.1, fun i x r hx hr => (h.2 i x r hx hr).kept k⟩
theorem rowsX_other {w : World} {G H : Nat → Prop} {l : List Tb} {R : List (List Value)} (h : RowsE (TbX G) w l R) (hG : ∀ b, b < w.heap.size → H b → G b) : RowsE (TbX H) w l R := ⟨h.1, fun i x r hx hr => (h.2 i x r hx hr).other hG⟩
/-- All but the one at k. -/
def RowsBut (G : Nat → Prop) (k : Nat) (w : World) (l : List Tb) (R : List (List Value)) : Prop := R.length = l.length ∧ ∀ (i : Nat) (x : Tb) (r : List Value), i ≠ k → l[i]? = some x → R[i]? = some r → TbX G w x r
theorem RowsBut.set {G : Nat → Prop} {k : Nat} {w : World} {l : List Tb} {R : List (List Value)} (h : RowsBut G k w l R) (r : List Value) : RowsBut G k w l (R.set k r) := by
  refine ⟨by simpa using h.1, fun i x s hi hx hs => h.2 i x s hi hx ?_⟩
  rwa [List.getElem?_set, if_neg (fun e => hi e.symm)] at hs
theorem RowsBut.kept {G : Nat → Prop} {k : Nat} {w w' : World} {l : List Tb} {R : List (List Value)} (h : RowsBut G k w l R) (K : Kept G w w') : RowsBut G k w' l R := ⟨h.1, fun i x r hi hx hr => (h.2 i x r hi hx hr).kept K⟩
theorem RowsBut.other {G H : Nat → Prop} {k : Nat} {w : World} {l : List Tb} {R : List (List Value)} (h : RowsBut G k w l R) (hG : ∀ b, b < w.heap.size → H b → G b) : RowsBut H k w l R := ⟨h.1, fun i x r hi hx hr => (h.2 i x r hi hx hr).other hG⟩
theorem rowsBut_of {G : Nat → Prop} {w : World} {l : List Tb} {R : List (List Value)} (h : RowsE (TbX G) w l R) (k : Nat) : RowsBut G k w l R := ⟨h.1, fun i x r _ hx hr => h.2 i x r hx hr⟩
theorem RowsBut.all {G : Nat → Prop} {k : Nat} {w : World} {l : List Tb} {R : List (List Value)} (h : RowsBut G k w l R) (hk : ∀ x r, l[k]? = some x → R[k]? = some r → TbX G w x r) : RowsE (TbX G) w l R :=
  ⟨h.1, fun i x r hx hr => by
    by_cases e : i = k
    · subst e; exact hk x r hx hr
    · exact h.2 i x r e hx hr⟩
end Go.Proofs.YtdjobjbkpagnaaaGreat
/-
  The contract of schema's copied.
-/
namespace Go.Proofs.YtdjobjbkpagnaaaGreat
open Go.RowKit Go.Shelf

/-- What is so between two tables. -/
structure Cp (w : World) (gM cp : Nat) (l : List Tb) (wx : World) (R : List (List Value)) : Prop where
  rows : Rows wx gM 41 (cp * 3) 3 R
  all : RowsE (TbX (fun b => b = gM)) wx l R
  bel : Below w.heap.size w wx
  gm : w.heap.size ≤ gM
def G2 (gM : Nat) (v : Value) (b : Nat) : Prop := b = gM ∨ v.ownBlock = some b
/-- What is so between two projections of the table t at k. -/
structure Ci (w : World) (gM cp k : Nat) (l : List Tb) (t : Tb) (vc vP vo : Value) (wx : World) (R RP : List (List Value)) : Prop where
  rows : Rows wx gM 41 (cp * 3) 3 R
  row : R[k]? = some [.string t.name, vc, vP]
  but : RowsBut (G2 gM vP) k wx l R
  cols : SlX (G2 gM vP) ColE 3 wx vc t.cols
  old : SlX (G2 gM vP) (PjX (G2 gM vP)) 3 wx vo t.projs
  new : SRows wx vP 26 3 RP
  pr : RowsE (PjX (G2 gM vP)) wx t.projs RP
  bel : Below w.heap.size w wx
  gm : w.heap.size ≤ gM
  own : ∀ b, vP.ownBlock = some b → w.heap.size ≤ b ∧ b ≠ gM
section
variable {w wx wy : World} {gM cp k : Nat} {l : List Tb} {t : Tb} {vc vP vo : Value} {R RP : List (List Value)}
theorem Cp.over (h : Cp w gM cp l wx R) (b : Below wx.heap.size wx wy) : Cp w gM cp l wy R :=
  ⟨h.rows.of_block (b.block gM h.rows.lt), rowsX_kept h.all (kept_of_below _ b), h.bel.trans (b.mono h.bel.size), h.gm⟩
theorem Ci.over (h : Ci w gM cp k l t vc vP vo wx R RP) (b : Below wx.heap.size wx wy) : Ci w gM cp k l t vc vP vo wy R RP :=
  ⟨h.rows.of_block (b.block gM h.rows.lt), h.row, h.but.kept (kept_of_below _ b), h.cols.kept (kept_of_below _ b) (fun _ _ h => h), h.old.kept (kept_of_below _ b) (fun _ _ h => h.kept (kept_of_below _ b)), h.new.of_block (fun g hg => b.block g (h.new.lt hg)), ⟨h.pr.1, fun i x r hx hr => (h.pr.2 i x r hx hr).kept (kept_of_below _ b)⟩, h.bel.trans (b.mono h.bel.size), h.gm, h.own⟩
/-- The table at k is whole. -/
theorem Ci.done (h : Ci w gM cp k l t vc vP vo wx R RP) (hk : l[k]? = some t) : Cp w gM cp l wx R := by
  have hall := (h.but.other (H := fun b => b = gM) (fun b _ hb => .inl hb)).all (fun x r hx hr => by
    rw [hk] at hx; cases hx
    rw [h.row] at hr; cases hr
    refine ⟨vc, vP, rfl, h.cols.other (fun b _ hb => .inl hb) (fun _ _ h => h), ?_⟩
    refine slX_of_srows (t := 26) (R := RP) h.new ⟨h.pr.1, fun i x r hx hr => (h.pr.2 i x r hx hr).other (fun b _ hb => .inl hb)⟩ (fun b hb => (h.own b hb).2))
  exact ⟨h.rows, hall, h.bel, h.gm⟩
/-- Cols of the projection at n are new ones. -/
theorem Ci.next (h : Ci w gM cp k l t vc vP vo wx R RP) {n : Nat} {p : Pj} {v1 v' : Value} {gP m cq : Nat} {Ri : List (List Value)} (hP : vP = .slice (some ⟨gP, 0, none⟩) m cq) (hn : t.projs[n]? = some p) (hr : RP[n]? = some [.string p.name, v1, .int .i64 p.keys.toInt]) (hs : SRows wx v' 3 1 Ri) (hR : RowsE IntE wx p.cols Ri) (ho : ∀ b, v'.ownBlock = some b → ¬ G2 gM vP b) :
    Ci w gM cp k l t vc vP vo (wx.setCell ⟨gP, n * 3 + 1, none⟩ v') R (RP.set n [.string p.name, v', .int .i64 p.keys.toInt]) := by
  have hown : vP.ownBlock = some gP := by rw [hP]; rfl
  have hK : Kept (G2 gM vP) wx (wx.setCell ⟨gP, n * 3 + 1, none⟩ v') := (Kept.refl _ _).setCell (p := ⟨gP, n * 3 + 1, none⟩) (.inl (.inr hown)) _
  have hne := (h.own gP hown).2
  refine ⟨h.rows.of_block (heap_setCell_other _ _ _ _ (by simp only; omega)), h.row, h.but.kept hK, h.cols.kept hK (fun _ _ h => h), h.old.kept hK (fun _ _ h => h.kept hK), ?_, ?_, h.bel.setCell (p := ⟨gP, n * 3 + 1, none⟩) (h.own gP hown).1 _, h.gm, h.own⟩
  · rcases h.new with ⟨e, _⟩ | ⟨g, cap, e, h1, h2, h3⟩
    · rw [hP] at e; cases e
    · rw [hP] at e
      cases e
      rw [hP]
      exact .inr ⟨gP, cq, by simp, by simpa using h1, h2, by have := rows_setOne h3 hr (j := 1) (by decide) v'; exact this⟩
  · refine ⟨by simpa using h.pr.1, fun i x r hx hr2 => ?_⟩
    rw [List.getElem?_set] at hr2
    by_cases e : n = i
    · subst e
      rw [hn] at hx; cases hx
      rw [if_pos rfl] at hr2
      split at hr2
      · cases hr2
        refine ⟨v', rfl, ?_⟩
        have hx := slX_of_srows (G := G2 gM vP) hs hR ho
        exact hx.kept hK (fun _ _ h => h)
      · cases hr2
    · rw [if_neg e] at hr2
      exact (h.pr.2 i x r hx hr2).kept hK
end
/-- What is so when the table at k has new columns. -/
structure Cm (w : World) (gM cp k : Nat) (l : List Tb) (t : Tb) (vc vo : Value) (wx : World) (R : List (List Value)) : Prop where
  rows : Rows wx gM 41 (cp * 3) 3 R
  row : R[k]? = some [.string t.name, vc, vo]
  but : RowsBut (fun b => b = gM) k wx l R
  cols : SlX (fun b => b = gM) ColE 3 wx vc t.cols
  old : SlX (fun b => b = gM) (PjX fun b => b = gM) 3 wx vo t.projs
  bel : Below w.heap.size w wx
  gm : w.heap.size ≤ gM
section
variable {w wx wy : World} {gM cp k : Nat} {l : List Tb} {t : Tb} {vc vP vo vco : Value} {R RP Rc : List (List Value)}
theorem set_row {r : List Value} (hr : R[k]? = some r) (u : List Value) : (R.set k u)[k]? = some u := by
  rw [List.getElem?_set, if_pos rfl, if_pos (List.getElem?_eq_some_iff.1 hr).1]
theorem Cp.mid (h : Cp w gM cp l wx R) (ht : l[k]? = some t) (hr : R[k]? = some [.string t.name, vco, vo]) (hs : SRows wx vc 53 3 Rc) (hE : RowsE ColE wx t.cols Rc) (ho : ∀ b, vc.ownBlock = some b → b ≠ gM) :
    Cm w gM cp k l t vc vo (wx.setCell ⟨gM, k * 3 + 1, none⟩ vc) (R.set k [.string t.name, vc, vo]) := by
  have hK : Kept (fun b => b = gM) wx (wx.setCell ⟨gM, k * 3 + 1, none⟩ vc) := (Kept.refl (fun b => b = gM) wx).setCell (p := ⟨gM, k * 3 + 1, none⟩) (.inl rfl) _
  have hX := h.all.2 k t _ ht hr
  obtain ⟨c1, c2, e, h1, h2⟩ := hX
  simp only [List.cons.injEq, and_true, true_and] at e
  obtain ⟨rfl, rfl⟩ := e
  exact ⟨rows_setOne h.rows hr (j := 1) (by decide) vc, set_row hr _, ((rowsBut_of h.all k).kept hK).set _, (slX_of_srows (G := fun b => b = gM) hs hE ho).kept hK (fun _ _ h => h), h2.kept hK (fun _ _ h => h.kept hK), h.bel.setCell (p := ⟨gM, k * 3 + 1, none⟩) h.gm _, h.gm⟩
theorem Cm.ci (h : Cm w gM cp k l t vc vo wx R) (b : Below wx.heap.size wx wy) (hs : SRows wy vP 26 3 RP) (hE : RowsE (PjX fun b => b = gM) wx t.projs RP) (ho : ∀ b, vP.ownBlock = some b → wx.heap.size ≤ b) :
    Ci w gM cp k l t vc vP vo (wy.setCell ⟨gM, k * 3 + 2, none⟩ vP) (R.set k [.string t.name, vc, vP]) RP := by
  have hG : ∀ x, x < wx.heap.size → G2 gM vP x → x = gM := fun x hx hg => by
    rcases hg with hg | hg
    · exact hg
    · have := ho x hg; omega
  have hlt := h.rows.lt
  have hK : Kept (G2 gM vP) wx (wy.setCell ⟨gM, k * 3 + 2, none⟩ vP) := (kept_of_below _ b).setCell (p := ⟨gM, k * 3 + 2, none⟩) (.inl (.inl rfl)) _
  refine ⟨rows_setOne (h.rows.of_block (b.block gM hlt)) h.row (j := 2) (by decide) vP, set_row h.row _, ((h.but.other hG).kept hK).set _, (h.cols.other hG fun _ _ h => h).kept hK (fun _ _ h => h), (h.old.other hG fun _ _ h => h.other hG).kept hK (fun _ _ h => h.kept hK), ?_, ⟨hE.1, fun i x r hx hr => ((hE.2 i x r hx hr).other hG).kept hK⟩, (h.bel.trans (b.mono h.bel.size)).setCell (p := ⟨gM, k * 3 + 2, none⟩) h.gm _, h.gm, fun x hx => ⟨by have := ho x hx; have := h.bel.size; omega, by have := ho x hx; omega⟩⟩
  exact hs.of_block fun g hg => heap_setCell_other _ _ _ _ (by have := ho g hg; simp only; omega)
end
set_option maxRecDepth 4000 in
set_option maxHeartbeats 4000000 in
theorem copied_any {w : World} {v : Value} {l : List Tb} (h : TabsIs w v l) (hl : litL l) :
    Calls Tryz.prog 58 #[v] w fun e w' => (∃ v', e = .returned v' ∧ TabsIs w' v' l) ∧ Below w.heap.size w w' := by
  have hc := cloneT_any h (Nat.le_trans hl.1 (by decide))
  obtain ⟨a, n, cap, rfl, hn, hcap⟩ := h.slice
  have HL : Hid (litL l ∧ l.length = n) := ⟨hl, hn⟩
  have hnI : (n : Int) ≤ 1000 := by have := hl.1; omega
  clear h hl hn hcap
  go_enter Tryz.func58, Tryz.ntmps58
  go_wp2_with fail
  refine Calls.mono hc ?_
  rintro e w1 ⟨⟨v1, R, rfl, hs, hE, ho⟩, hb⟩
  have hRn : R.length = n := hE.1.trans HL.out.2
  clear hc
  rcases hs with ⟨rfl, h0⟩ | ⟨gM, cp, rfl, h1, h2, hrows⟩
  · subst h0
    obtain rfl : n = 0 := by simpa using hRn.symm
    have HB : Hid (Below w.heap.size w w1) := hb
    have HN : Hid (l = []) := List.eq_nil_of_length_eq_zero HL.out.2
    clear hb hE ho hRn
    go_wp2_with fail
    go_loopg [12] 0 (fun gg s12 wx => s12 = .int .i64 0 ∧ wx = w1)
    case atStart => exact ⟨rfl, rfl⟩
    case round =>
      obtain ⟨rfl, hw⟩ := hrel
      subst hw
      go_wp2_with fail
      go_ret
      exact ⟨⟨_, rfl, by rw [HN.out]; exact slIs_nil _ _ _ _ _⟩, HB.out⟩
  · rw [hRn]
    have HS : Hid (Cp w gM cp l w1 R) := ⟨hrows, ⟨hE.1, fun i x r hx hr => (tbX_of (hE.2 i x r hx hr) (fun b hb => by rw [hb]; exact ho gM rfl)).kept (kept_of_below _ hb)⟩, hb, ho gM rfl⟩
    have HC : Hid (n ≤ cp ∧ cp ≤ maxLen) := ⟨by omega, h2⟩
    clear hrows hE hb ho hRn h1 h2
    go_wp2_with fail
    go_loopg [12] n (fun gg s12 wx => ∃ (k : Nat) (R : List (List Value)), k + gg = n ∧ s12 = .int .i64 k ∧ Hid (Cp w gM cp l wx R))
    case atStart => exact ⟨0, R, by omega, rfl, HS⟩
    case round =>
      clear HS
      obtain ⟨k, R, hkg, rfl, HS⟩ := hrel
      by_cases hk : k < n
      · have hkI : (k : Int) < (n : Int) := by omega
        have hr2 : IntKind.i64.wrap ((k : Int) + 1) = (k : Int) + 1 := by rw [IntKind.wrap_i64]; omega
        obtain ⟨t, ht⟩ : ∃ t, l[k]? = some t := ⟨_, List.getElem?_eq_getElem (by rw [HL.out.2]; exact hk)⟩
        obtain ⟨r, hr⟩ : ∃ r, R[k]? = some r := ⟨_, List.getElem?_eq_getElem (by rw [HS.out.all.1, HL.out.2]; exact hk)⟩
        have hX := HS.out.all.2 k t r ht hr
        obtain ⟨vco, vpo, rfl, hXc, hXp⟩ := hX
        have m0 := (rows_cell HS.out.rows (i := k) (j := 0) hr rfl).1
        have m1 := (rows_cell HS.out.rows (i := k) (j := 1) hr rfl).1
        have m2 := (rows_cell HS.out.rows (i := k) (j := 2) hr rfl).1
        rw [Nat.add_zero] at m0
        obtain ⟨aC, nC, capC, eC, hnC, _⟩ := (hXc.is (E' := ColE) fun _ _ h => h).slice
        obtain ⟨aP, nP, capP, eP, hnP, _⟩ := (hXp.is (E' := PjE) fun _ _ h => h.is).slice
        cases eC
        cases eP
        have hlt := HL.out.1.2 t (List.mem_of_getElem? ht)
        have hnPI : (nP : Int) ≤ 1000 := by have := hlt.2.2.1; omega
        have HT : Hid (l[k]? = some t ∧ R[k]? = some [.string t.name, .slice aC nC capC, .slice aP nP capP] ∧ litT t ∧ t.projs.length = nP) := ⟨ht, hr, hlt, hnP⟩
        have HXX : Hid (SlX (fun b => b = gM) ColE 3 wr (.slice aC nC capC) t.cols ∧ SlX (fun b => b = gM) (PjX fun b => b = gM) 3 wr (.slice aP nP capP) t.projs) := ⟨hXc, hXp⟩
        have hone : (#[.string t.name, .slice aC nC capC, .slice aP nP capP] : Array Value).all (fun c => c.oneCell') = true := one_three (by intro u hu; simp only [List.mem_cons, List.not_mem_nil, or_false] at hu; rcases hu with rfl | rfl | rfl <;> rfl)
        obtain ⟨Bt, hBt⟩ : ∃ Bt, Bt = wr.heap.size := ⟨_, rfl⟩
        have HZ : Hid (∀ z, Box (wr.alloc (.cells z 41)) wr.heap.size 41 z) := fun z => box_new wr z _
        obtain ⟨W1, hW1⟩ : ∃ W1, W1 = (wr.alloc (.cells #[.string ⟨#[]⟩, .slice none 0 0, .slice none 0 0] 41)).setRow wr.heap.size #[.string t.name, .slice aC nC capC, .slice aP nP capP] := ⟨_, rfl⟩
        have bW : Below wr.heap.size wr W1 := by rw [hW1]; exact below_setRow (below1 wr _) (Nat.le_refl _) _
        have BW : Box W1 Bt 41 #[.string t.name, .slice aC nC capC, .slice aP nP capP] := by rw [hW1, hBt]; exact (box_new wr _ _).setRow _
        have HW : Hid (W1 = (wr.alloc (.cells #[.string ⟨#[]⟩, .slice none 0 0, .slice none 0 0] 41)).setRow wr.heap.size #[.string t.name, .slice aC nC capC, .slice aP nP capP] ∧ Bt = wr.heap.size) := ⟨hW1, hBt⟩
        have HS1 : Hid (Cp w gM cp l W1 R ∧ Box W1 Bt 41 #[.string t.name, .slice aC nC capC, .slice aP nP capP] ∧ Below wr.heap.size wr W1) := ⟨HS.out.over bW, BW, bW⟩
        clear hr ht hXc hXp hlt hnC hnP hBt hW1 bW BW
        go_wp2_with (refine wpList_store_row rfl 41 _ _ rfl wr.heap.size _ rfl rfl 41 _ (HZ.out _) size_tb rfl hone ?_; rw [← HW.out.1, ← HW.out.2]; have b1 := HS1.out.2.1.cell 1 _ rfl; clear m0 m1 m2)
        have cc := cloneC_any (w := W1) (v := .slice aC nC capC) (l := t.cols) ((HXX.out.1.kept (kept_of_below _ HS1.out.2.2) (fun _ _ h => h)).is (E' := ColE) fun _ _ h => h) (by have := HT.out.2.2.1.2.1; omega)
        refine Calls.mono cc ?_
        rintro e w2 ⟨⟨vc, Rc, rfl, hsc, hEc, hoc⟩, hbc⟩
        have hS2 := HS1.out.1.over hbc
        have mm := rows_cell hS2.rows (i := k) (j := 1) HT.out.2.1 rfl
        have HS2 : Hid (Cp w gM cp l w2 R ∧ Box w2 Bt 41 #[.string t.name, .slice aC nC capC, .slice aP nP capP] ∧ SRows w2 vc 53 3 Rc ∧ RowsE ColE W1 t.cols Rc ∧ (∀ b, vc.ownBlock = some b → W1.heap.size ≤ b) ∧ Below wr.heap.size wr w2 ∧ Below W1.heap.size W1 w2) := ⟨hS2, HS1.out.2.1.over hbc, hsc, hEc, hoc, HS1.out.2.2.trans (hbc.mono HS1.out.2.2.size), hbc⟩
        have m1 := mm.1
        have m1f := mm.2
        obtain ⟨aV, nV, capV, rfl⟩ : ∃ a n c, vc = .slice a n c := by rcases hsc with ⟨rfl, _⟩ | ⟨g, c, rfl, _⟩ <;> exact ⟨_, _, _, rfl⟩
        have hBM : Bt ≠ gM := by have := HS.out.rows.lt; have := HW.out.2; omega
        have hM := HS2.out.1.mid (vc := .slice aV nV capV) HT.out.1 HT.out.2.1 HS2.out.2.2.1 (rowsE_over stays_col HS2.out.2.2.2.1 HS2.out.2.2.2.2.2.2) (fun b hb => by have := HS2.out.2.2.2.2.1 b hb; have := HS1.out.1.rows.lt; omega)
        have B3 : Box (w2.setCell ⟨gM, k * 3 + 1, none⟩ (.slice aV nV capV)) Bt 41 #[.string t.name, .slice aC nC capC, .slice aP nP capP] := HS2.out.2.1.other (a := ⟨gM, k * 3 + 1, none⟩) hBM _
        have b2 := B3.cell 2 _ rfl
        obtain ⟨W3, hW3⟩ : ∃ W3, W3 = w2.setCell ⟨gM, k * 3 + 1, none⟩ (.slice aV nV capV) := ⟨_, rfl⟩
        rw [← hW3] at hM B3
        have HM : Hid (Cm w gM cp k l t (.slice aV nV capV) (.slice aP nP capP) W3 (R.set k [.string t.name, .slice aV nV capV, .slice aP nP capP]) ∧ Box W3 Bt 41 #[.string t.name, .slice aC nC capC, .slice aP nP capP] ∧ Bt ≠ gM) := ⟨hM, B3, hBM⟩
        have HW3 : Hid (W3 = w2.setCell ⟨gM, k * 3 + 1, none⟩ (.slice aV nV capV)) := hW3
        clear cc hsc hEc hoc hbc hS2 mm b1 hM B3 hW3 hBM
        go_wp2_with fail
        rw [← HW3.out]
        clear b2 m1 m1f
        have cc := cloneP_gen (HM.out.1.old.is (E' := PjX fun b => b = gM) fun _ _ h => h) (fun _ _ h => one_pj h.is) (by have := HT.out.2.2.1.2.2.1; omega)
        refine Calls.mono cc ?_
        rintro e w4 ⟨⟨vP, RP, rfl, hsp, hEp, hop⟩, hbp⟩
        have mm := rows_cell (HM.out.1.rows.of_block (hbp.block gM HM.out.1.rows.lt)) (i := k) (j := 2) HM.out.1.row rfl
        have m2 := mm.1
        have m2f := mm.2
        have hCi := HM.out.1.ci hbp hsp hEp hop
        have B5 : Box (w4.setCell ⟨gM, k * 3 + 2, none⟩ vP) Bt 41 #[.string t.name, .slice aC nC capC, .slice aP nP capP] := (HM.out.2.1.over hbp).other (a := ⟨gM, k * 3 + 2, none⟩) HM.out.2.2 _
        obtain ⟨aQ, cQ, hQ⟩ : ∃ a c, vP = .slice a nP c := by
          have hl := hEp.1
          rw [HT.out.2.2.2] at hl
          rcases hsp with ⟨rfl, h0⟩ | ⟨g, c, rfl, _⟩
          · subst h0; exact ⟨none, 0, by simpa using hl⟩
          · exact ⟨_, _, by rw [hl]⟩
        subst hQ
        obtain ⟨W5, hW5⟩ : ∃ W5, W5 = w4.setCell ⟨gM, k * 3 + 2, none⟩ (.slice aQ nP cQ) := ⟨_, rfl⟩
        have HW5 : Hid (W5 = w4.setCell ⟨gM, k * 3 + 2, none⟩ (.slice aQ nP cQ)) := hW5
        have b2 := B5.cell 2 _ rfl
        rw [← hW5] at hCi B5
        have HCi : Hid (Ci w gM cp k l t (.slice aV nV capV) (.slice aQ nP cQ) (.slice aP nP capP) W5 ((R.set k [.string t.name, .slice aV nV capV, .slice aP nP capP]).set k [.string t.name, .slice aV nV capV, .slice aQ nP cQ]) RP) := hCi
        clear cc hsp hEp hop hbp mm hCi B5 hW5
        go_wp2_with fail
        rw [← HW5.out]
        clear b2 m2 m2f
        go_loopg [34] nP (fun gg s34 wx => ∃ (j : Nat) (R RP : List (List Value)), j + gg = nP ∧ s34 = .int .i64 j ∧ Hid (Ci w gM cp k l t (.slice aV nV capV) (.slice aQ nP cQ) (.slice aP nP capP) wx R RP))
        case atStart => exact ⟨0, _, RP, by omega, rfl, HCi⟩
        case round =>
          clear HCi HM HS2 HS1 HXX HS HW HZ
          obtain ⟨j, R, RP, hjg, rfl, HI⟩ := hrel
          by_cases hj : j < nP
          · have hjI : (j : Int) < (nP : Int) := by omega
            have hr3 : IntKind.i64.wrap ((j : Int) + 1) = (j : Int) + 1 := by rw [IntKind.wrap_i64]; omega
            obtain ⟨x, d0, d1, d2, b, off, hx, eo, hE, p0, p1, p2⟩ := at3P (HI.out.old.is (E' := PjE) fun _ _ h => h.is) hj
            cases eo
            obtain ⟨r, hrp⟩ : ∃ r, RP[j]? = some r := ⟨_, List.getElem?_eq_getElem (by rw [HI.out.pr.1, HT.out.2.2.2]; exact hj)⟩
            obtain ⟨v1, rfl, hv1⟩ := HI.out.pr.2 j x r hx hrp
            obtain ⟨rfl, aI, nI, capI, rfl, rfl⟩ := pj_cells hE
            have hint : IntsIs wr (.slice aI nI capI) x.cols := by obtain ⟨v, e, h⟩ := hE; simp only [List.cons.injEq, and_true, true_and] at e; rw [e]; exact h
            have hlx := HT.out.2.2.1.2.2.2.2 x (List.mem_of_getElem? hx)
            obtain ⟨gP, cq, hvP⟩ : ∃ g c, (Value.slice aQ nP cQ) = .slice (some ⟨g, 0, none⟩) nP c := by
              rcases HI.out.new with ⟨e, h0⟩ | ⟨g, c, e, _⟩
              · rw [h0] at hrp; simp at hrp
              · have hl := HI.out.pr.1; rw [HT.out.2.2.2] at hl; exact ⟨g, c, by rw [e, hl]⟩
            cases hvP
            have hone : (#[.string x.name, .slice aI nI capI, .int .i64 x.keys.toInt] : Array Value).all (fun c => c.oneCell') = true := one_three (by intro u hu; simp only [List.mem_cons, List.not_mem_nil, or_false] at hu; rcases hu with rfl | rfl | rfl <;> rfl)
            obtain ⟨Bp, hBp⟩ : ∃ Bp, Bp = wr.heap.size := ⟨_, rfl⟩
            obtain ⟨W6, hW6⟩ : ∃ W6, W6 = (wr.alloc (.cells #[.string ⟨#[]⟩, .slice none 0 0, .int .i64 0] 26)).setRow wr.heap.size #[.string x.name, .slice aI nI capI, .int .i64 x.keys.toInt] := ⟨_, rfl⟩
            have bW : Below wr.heap.size wr W6 := by rw [hW6]; exact below_setRow (below1 wr _) (Nat.le_refl _) _
            have BW : Box W6 Bp 26 #[.string x.name, .slice aI nI capI, .int .i64 x.keys.toInt] := by rw [hW6, hBp]; exact (box_new wr _ _).setRow _
            have HW : Hid (W6 = (wr.alloc (.cells #[.string ⟨#[]⟩, .slice none 0 0, .int .i64 0] 26)).setRow wr.heap.size #[.string x.name, .slice aI nI capI, .int .i64 x.keys.toInt] ∧ Bp = wr.heap.size) := ⟨hW6, hBp⟩
            have HZ : Hid (∀ z, Box (wr.alloc (.cells z 26)) wr.heap.size 26 z) := fun z => box_new wr z _
            have H6 : Hid (Ci w gM cp k l t (.slice aV nV capV) (.slice (some ⟨gP, 0, none⟩) nP cQ) (.slice (some ⟨b, off, none⟩) nP capP) W6 R RP ∧ Box W6 Bp 26 #[.string x.name, .slice aI nI capI, .int .i64 x.keys.toInt] ∧ IntsIs W6 (.slice aI nI capI) x.cols) := ⟨HI.out.over bW, BW, hint.over stays_int bW⟩
            have HX : Hid (t.projs[j]? = some x ∧ RP[j]? = some [.string x.name, v1, .int .i64 x.keys.toInt] ∧ x.cols.length ≤ 100000) := ⟨hx, hrp, hlx.2⟩
            clear hx hE hrp hv1 hint hlx hBp hW6 bW BW
            go_wp2_with (refine wpList_store_row rfl 26 _ _ rfl wr.heap.size _ rfl rfl 26 _ (HZ.out _) size_pj rfl hone ?_; rw [← HW.out.1, ← HW.out.2]; clear p0 p1 p2)
            refine wp_region_held_then (fun w' : World => w'.cell? ⟨gM, k * 3 + 2, none⟩ = some (.slice (some ⟨gP, 0, none⟩) nP cQ) ∧ w'.cell? ⟨Bp, 1, none⟩ = some (.slice aI nI capI)) _ (by kernel_rfl) rfl (by kernel_rfl) ?_
            have hHeld : (fun w' : World => w'.cell? ⟨gM, k * 3 + 2, none⟩ = some (.slice (some ⟨gP, 0, none⟩) nP cQ) ∧ w'.cell? ⟨Bp, 1, none⟩ = some (.slice aI nI capI)) W6.drew := ⟨(rows_cell H6.out.1.rows (i := k) (j := 2) H6.out.1.row rfl).1, H6.out.2.1.cell 1 _ rfl⟩
            dsimp only [List.dropLast, List.length, List.getLast]
            ((refine takeL 0 (v := ?_) rfl (by kernel_rfl) (by kernel_rfl) (by kernel_rfl) (fun _ _ _ h => h) (by rfl) hHeld ?_ ?_; rotate_left; focus (intro w hSw; (try dsimp only at hSw); go_simp <;> with_reducible rfl); (try simp only [Act.put, List.setIfInBounds_toArray, List.set_cons_zero, List.set_cons_succ])); (refine takeL 1 (v := ?_) rfl (by kernel_rfl) (by kernel_rfl) (by kernel_rfl) (fun _ _ _ h => h) (by rfl) hHeld ?_ ?_; rotate_left; focus (intro w hSw; (try dsimp only at hSw); go_simp <;> with_reducible rfl); (try simp only [Act.put, List.setIfInBounds_toArray, List.set_cons_zero, List.set_cons_succ])); (refine takeL 2 (v := ?_) rfl (by kernel_rfl) (by kernel_rfl) (by kernel_rfl) (fun _ _ _ h => h) (by rfl) hHeld ?_ ?_; rotate_left; focus (intro w hSw; (try dsimp only at hSw); go_simp <;> with_reducible rfl); (try simp only [Act.put, List.setIfInBounds_toArray, List.set_cons_zero, List.set_cons_succ])); (refine takeL 3 (v := ?_) rfl (by kernel_rfl) (by kernel_rfl) (by kernel_rfl) (fun _ _ _ h => h) (by rfl) hHeld ?_ ?_; rotate_left; focus (intro w hSw; (try dsimp only at hSw); go_simp <;> with_reducible rfl); (try simp only [Act.put, List.setIfInBounds_toArray, List.set_cons_zero, List.set_cons_succ])))
            dsimp only [Act.put]
            simp only [List.setIfInBounds_toArray, List.set_cons_zero, List.set_cons_succ]
            ((refine takeL 4 (v := ?_) rfl (by kernel_rfl) (by kernel_rfl) (by kernel_rfl) (fun _ _ _ h => h) (by rfl) hHeld ?_ ?_; rotate_left; focus (intro w hSw; (try dsimp only at hSw); go_simp <;> with_reducible rfl); (try simp only [Act.put, List.setIfInBounds_toArray, List.set_cons_zero, List.set_cons_succ])); (refine takeL 5 (v := ?_) rfl (by kernel_rfl) (by kernel_rfl) (by kernel_rfl) (fun _ _ _ h => h) (by rfl) hHeld ?_ ?_; rotate_left; focus (intro w hSw; (try dsimp only at hSw); go_simp <;> with_reducible rfl); (try simp only [Act.put, List.setIfInBounds_toArray, List.set_cons_zero, List.set_cons_succ])); (refine takeL 6 (v := ?_) rfl (by kernel_rfl) (by kernel_rfl) (by kernel_rfl) (fun _ _ _ h => h) (by rfl) hHeld ?_ ?_; rotate_left; focus (intro w hSw; (try dsimp only at hSw); go_simp <;> with_reducible rfl); (try simp only [Act.put, List.setIfInBounds_toArray, List.set_cons_zero, List.set_cons_succ])); (refine takeL 7 (v := ?_) rfl (by kernel_rfl) (by kernel_rfl) (by kernel_rfl) (fun _ _ _ h => h) (by rfl) hHeld ?_ ?_; rotate_left; focus (intro w hSw; (try dsimp only at hSw); go_simp <;> with_reducible rfl); (try simp only [Act.put, List.setIfInBounds_toArray, List.set_cons_zero, List.set_cons_succ])))
            dsimp only [Act.put]
            simp only [List.setIfInBounds_toArray, List.set_cons_zero, List.set_cons_succ]
            refine callL 8 (f := 108) (vs := #[.slice aI nI capI]) rfl (by kernel_rfl) (by rfl) (by go_simp) ?_
            refine Calls.mono (cloneI_any (w := W6.drew) (v := .slice aI nI capI) (l := x.cols) (H6.out.2.2.over stays_int ((Below.refl _ W6).drew)) (by have := HX.out.2.2; omega)) ?_
            rintro e w7 ⟨⟨v', Ri, rfl, hsi, hEi, hoi⟩, hbi⟩
            have hb7 : Below W6.heap.size W6 w7 := ((Below.refl _ W6).drew).trans hbi
            have h7 := H6.out.1.over hb7
            have hHeld2 : (fun w' : World => w'.cell? ⟨gM, k * 3 + 2, none⟩ = some (.slice (some ⟨gP, 0, none⟩) nP cQ) ∧ w'.cell? ⟨Bp, 1, none⟩ = some (.slice aI nI capI)) w7 := ⟨(rows_cell h7.rows (i := k) (j := 2) h7.row rfl).1, (H6.out.2.1.over hb7).cell 1 _ rfl⟩
            have hn7 := h7.next (n := j) (p := x) (v1 := v1) (v' := v') (gP := gP) (m := nP) (cq := cQ) rfl HX.out.1 HX.out.2.1 hsi (rowsE_over stays_int hEi hbi) (fun b' hb' hg => by
              have h1 : W6.heap.size ≤ b' := hoi b' hb'
              rcases hg with hg | hg
              · have := H6.out.1.rows.lt; omega
              · have := H6.out.1.new.lt hg; omega)
            have hcell : w7.cell? ⟨gP, j * 3 + 1, none⟩ = some v1 ∧ w7.frozen? ⟨gP, j * 3 + 1, none⟩ = false := by
              rcases h7.new with ⟨e, _⟩ | ⟨g, c, e, _, _, h3⟩
              · cases e
              · cases e; exact rows_cell h3 (i := j) (j := 1) HX.out.2.1 rfl
            have c7 := hcell.1
            have f7 := hcell.2
            have HN : Hid (Ci w gM cp k l t (.slice aV nV capV) (.slice (some ⟨gP, 0, none⟩) nP cQ) (.slice (some ⟨b, off, none⟩) nP capP) (w7.setCell ⟨gP, j * 3 + 1, none⟩ v') R (RP.set j [.string x.name, v', .int .i64 x.keys.toInt])) := hn7
            obtain ⟨aJ, nJ, cJ, rfl⟩ : ∃ a n c, v' = .slice a n c := by rcases hsi with ⟨rfl, _⟩ | ⟨g, c, rfl, _⟩ <;> exact ⟨_, _, _, rfl⟩
            clear hsi hEi hoi hbi hb7 h7 hn7 hcell hHeld H6
            refine ⟨_, rfl, hHeld2, ?_⟩
            try dsimp only [Act.put]
            try simp only [List.setIfInBounds_toArray, List.set_cons_zero, List.set_cons_succ]
            ((refine takeL 9 (v := ?_) rfl (by kernel_rfl) (by kernel_rfl) (by kernel_rfl) (fun _ _ _ h => h) (by rfl) hHeld2 ?_ ?_; rotate_left; focus (intro w hSw; (try dsimp only at hSw); go_simp <;> with_reducible rfl); (try simp only [Act.put, List.setIfInBounds_toArray, List.set_cons_zero, List.set_cons_succ])); (refine takeL 10 (v := ?_) rfl (by kernel_rfl) (by kernel_rfl) (by kernel_rfl) (fun _ _ _ h => h) (by rfl) hHeld2 ?_ ?_; rotate_left; focus (intro w hSw; (try dsimp only at hSw); go_simp <;> with_reducible rfl); (try simp only [Act.put, List.setIfInBounds_toArray, List.set_cons_zero, List.set_cons_succ])))
            refine doneL (by kernel_rfl) ?_
            try dsimp only [Act.put]
            unfold Oper.wp
            clear hHeld2
            go_simp
            go_wp2_with fail
            go_roundg (nP - (j + 1))
            case measure => clear hr2 hr3; omega
            case rel => exact ⟨j + 1, R, _, by clear hr2 hr3; omega, by go_num, HN⟩
          · have hjI : ¬ (j : Int) < (nP : Int) := by omega
            go_wp2_with fail
            go_roundg (n - (k + 1))
            case measure => clear hr2; omega
            case rel => exact ⟨k + 1, R, by clear hr2; omega, by go_num, HI.out.done HT.out.1⟩
      · have hkI : ¬ (k : Int) < (n : Int) := by omega
        go_wp2_with fail
        go_ret
        have hall := HS.out.all
        have hlen := hall.1
        rw [HL.out.2] at hlen
        refine ⟨⟨_, rfl, slIs_of_srows (t := 41) (R := R) (.inr ⟨gM, cp, by rw [hlen]; rfl, by rw [hlen]; exact HC.out.1, HC.out.2, HS.out.rows⟩) ⟨hall.1, fun i x r hx hr => (hall.2 i x r hx hr).is⟩⟩, HS.out.bel⟩
end Go.Proofs.YtdjobjbkpagnaaaGreat
/-
  The contracts of schema's Create and Drop.
-/
namespace Go.Proofs.YtdjobjbkpagnaaaGreat
open Go.RowKit Go.Shelf

/-- Tables and why not. -/
def XAns (w : World) (r : List Tb × Int) (e : Ending) (w' : World) : Prop := (∃ v', e = .returned (.tuple #[v', .int .i64 r.2]) ∧ TabsIs w' v' r.1) ∧ Below w.heap.size w w'
theorem xans_no {w w' : World} {k : Int} (h : Below w.heap.size w w') : XAns w ([], k) (.returned (.tuple #[.slice none 0 0, .int .i64 k])) w' := ⟨⟨_, rfl, slIs_nil _ _ _ _ _⟩, h⟩
theorem litT_new {n : ByteArray} {cs : List Col} (h1 : n.size ≤ 1000) (h2 : cs.length ≤ 1000) (h3 : ∀ c ∈ cs, litC c) : litT ⟨n, cs, [⟨superN, nums cs.length, 0#64⟩]⟩ := by
  refine ⟨h1, h2, by simp, h3, fun p hp => ?_⟩
  simp only [List.mem_singleton] at hp
  subst hp
  exact ⟨by show superN.size ≤ 1000; decide, by show (nums cs.length).length ≤ _; rw [nums_len]; omega⟩
theorem litL_append {l : List Tb} {t : Tb} (h : litL l) (hl : l.length ≤ 999) (ht : litT t) : litL (l ++ [t]) := by
  refine ⟨by simp; omega, fun x hx => ?_⟩
  rcases List.mem_append.1 hx with hx | hx
  · exact h.2 x hx
  · simp at hx; rw [hx]; exact ht
theorem tabs_len {l : List Tb} (h : tabsB l = true) : l.length ≤ 8 := by
  unfold tabsB at h
  simp only [Bool.and_eq_true, decide_eq_true_eq] at h
  exact h.1.1
theorem slIs_one {α : Type} {E : World → α → List Value → Prop} {w : World} {B : Nat} {t : TypeId} {c0 c1 c2 : Value} {x : α} (hb : Box w B t #[c0, c1, c2]) (hx : E w x [c0, c1, c2]) : SlIs E 3 w (.slice (some ⟨B, 0, none⟩) 1 1) [x] := by
  refine ⟨_, 1, rfl, Nat.le_refl _, fun _ => ⟨B, 0, rfl, hb.lt, fun i y hi => ?_⟩⟩
  cases i with
  | zero =>
    simp at hi
    subst hi
    refine ⟨[c0, c1, c2], rfl, hx, fun j u hu => ?_⟩
    have := hb.cell j u (by simpa using hu)
    simpa using this
  | succ i => simp at hi
set_option maxRecDepth 4000 in
set_option maxHeartbeats 4000000 in
theorem create_any {w : World} {v vc : Value} {l : List Tb} {cs : List Col} (h : TabsIs w v l) (hl : litL l) (hc : ColsIs w vc cs) (hcl : cs.length ≤ 1000) (hcc : ∀ c ∈ cs, litC c) (n : ByteArray) (hn : n.size ≤ 1000) :
    Calls Tryz.prog 24 #[v, .string n, vc] w (XAns w (createF l n cs)) := by
  have cc := check_any h hl
  have cn := fun W => name_any n (by unfold maxLen; omega) W
  have HC : Hid (∀ W, Below w.heap.size w W → Calls Tryz.prog 57 #[vc] W fun e w' => e = .returned (.bool (colsB cs)) ∧ Below W.heap.size W w') := fun W hW => mayCols_any (hc.over stays_col hW) (by omega) hcc
  have HF : Hid (∀ W, Below w.heap.size w W → Calls Tryz.prog 15 #[v, .string n] W fun e w' => e = .returned (.int .i64 (findT l n)) ∧ Below W.heap.size W w') := fun W hW => find_any (h.over stays_tb hW) (by have := hl.1; omega) n
  have HH : Hid (TabsIs w v l ∧ litL l ∧ ColsIs w vc cs ∧ cs.length ≤ 1000 ∧ (∀ c ∈ cs, litC c) ∧ n.size ≤ 1000) := ⟨h, hl, hc, hcl, hcc, hn⟩
  obtain ⟨a, m, cap, rfl, hm, _⟩ := h.slice
  obtain ⟨a2, m2, cap2, rfl, hm2, _⟩ := hc.slice
  have hmI : (m : Int) ≤ 1000 := by have := hl.1; omega
  obtain ⟨q1, hq1⟩ : ∃ q, q = tabsB l := ⟨_, rfl⟩
  obtain ⟨q2, hq2⟩ : ∃ q, q = nameB n := ⟨_, rfl⟩
  obtain ⟨q3, hq3⟩ : ∃ q, q = colsB cs := ⟨_, rfl⟩
  obtain ⟨z, hz⟩ : ∃ z, z = findT l n := ⟨_, rfl⟩
  have HE : Hid (createF l n cs = (if (q1 && q2 && q3) = false then ([], 1) else if 0 ≤ z then ([], 251) else if m = 8 then ([], 4) else (l ++ [⟨n, cs, [⟨superN, nums cs.length, 0#64⟩]⟩], 0))) := by unfold Hid createF; rw [hq1, hq2, hq3, hz, hm]
  rw [← hq1] at cc
  rw [← hq2] at cn
  rw [← hq3] at HC
  rw [← hz] at HF
  have HM : Hid (l.length = m ∧ cs.length = m2) := ⟨hm, hm2⟩
  have HTB0 : Hid (q1 = tabsB l) := hq1
  clear h hl hc hcl hcc hn hm hm2 hq1 hq2 hq3 hz
  cases q1 with
  | false =>
    unfold errT at cc
    simp only [Bool.false_eq_true, if_false] at cc
    go_enter Tryz.func24, Tryz.ntmps24
    go_wp2_with fail
    refine cc.mono ?_
    rintro e w1 ⟨rfl, hb1⟩
    have HB1 : Hid (Below w.heap.size w w1) := hb1
    clear cc hb1
    go_wp2_with fail
    go_ret2
    rw [HE.out]
    exact xans_no HB1.out
  | true =>
    unfold errT at cc
    simp only [if_true] at cc
    have HTB : Hid (tabsB l = true) := HTB0.out.symm
    cases q2 with
    | false =>
      go_enter Tryz.func24, Tryz.ntmps24
      go_wp2_with fail
      refine cc.mono ?_
      rintro e w1 ⟨rfl, hb1⟩
      have HB1 : Hid (Below w.heap.size w w1) := hb1
      clear cc hb1
      go_wp2_with fail
      refine (cn _).mono ?_
      rintro e w2 ⟨rfl, hb2⟩
      have HB2 : Hid (Below w.heap.size w w2) := HB1.out.trans (hb2.mono HB1.out.size)
      clear cn hb2
      go_wp2_with fail
      go_ret2
      rw [HE.out]
      exact xans_no HB2.out
    | true =>
      cases q3 with
      | false =>
        go_enter Tryz.func24, Tryz.ntmps24
        go_wp2_with fail
        refine cc.mono ?_
        rintro e w1 ⟨rfl, hb1⟩
        have HB1 : Hid (Below w.heap.size w w1) := hb1
        clear cc hb1
        go_wp2_with fail
        refine (cn _).mono ?_
        rintro e w2 ⟨rfl, hb2⟩
        have HB2 : Hid (Below w.heap.size w w2) := HB1.out.trans (hb2.mono HB1.out.size)
        clear cn hb2
        go_wp2_with fail
        refine (HC.out _ HB2.out).mono ?_
        rintro e w3 ⟨rfl, hb3⟩
        have HB3 : Hid (Below w.heap.size w w3) := HB2.out.trans (hb3.mono HB2.out.size)
        clear hb3
        go_wp2_with fail
        go_ret2
        rw [HE.out]
        exact xans_no HB3.out
      | true =>
        by_cases hz : 0 ≤ z
        · rw [if_neg (by decide), if_pos hz] at HE
          go_enter Tryz.func24, Tryz.ntmps24
          go_wp2_with fail
          refine cc.mono ?_
          rintro e w1 ⟨rfl, hb1⟩
          have HB1 : Hid (Below w.heap.size w w1) := hb1
          clear cc hb1
          go_wp2_with fail
          refine (cn _).mono ?_
          rintro e w2 ⟨rfl, hb2⟩
          have HB2 : Hid (Below w.heap.size w w2) := HB1.out.trans (hb2.mono HB1.out.size)
          clear cn hb2
          go_wp2_with fail
          refine (HC.out _ HB2.out).mono ?_
          rintro e w3 ⟨rfl, hb3⟩
          have HB3 : Hid (Below w.heap.size w w3) := HB2.out.trans (hb3.mono HB2.out.size)
          clear hb3
          go_wp2_with fail
          refine (HF.out _ HB3.out).mono ?_
          rintro e w4 ⟨rfl, hb4⟩
          have HB4 : Hid (Below w.heap.size w w4) := HB3.out.trans (hb4.mono HB3.out.size)
          clear hb4
          go_wp2_with fail
          go_ret2
          rw [HE.out]
          exact xans_no HB4.out
        · rw [if_neg (by decide), if_neg hz] at HE
          by_cases h8 : m = 8
          · rw [if_pos h8] at HE
            have h8b : ((m : Int) == 8) = true := by simp; omega
            clear h8
            go_enter Tryz.func24, Tryz.ntmps24
            go_wp2_with fail
            refine cc.mono ?_
            rintro e w1 ⟨rfl, hb1⟩
            have HB1 : Hid (Below w.heap.size w w1) := hb1
            clear cc hb1
            go_wp2_with fail
            refine (cn _).mono ?_
            rintro e w2 ⟨rfl, hb2⟩
            have HB2 : Hid (Below w.heap.size w w2) := HB1.out.trans (hb2.mono HB1.out.size)
            clear cn hb2
            go_wp2_with fail
            refine (HC.out _ HB2.out).mono ?_
            rintro e w3 ⟨rfl, hb3⟩
            have HB3 : Hid (Below w.heap.size w w3) := HB2.out.trans (hb3.mono HB2.out.size)
            clear hb3
            go_wp2_with fail
            refine (HF.out _ HB3.out).mono ?_
            rintro e w4 ⟨rfl, hb4⟩
            have HB4 : Hid (Below w.heap.size w w4) := HB3.out.trans (hb4.mono HB3.out.size)
            clear hb4
            go_wp2_with fail
            go_ret2
            rw [HE.out]
            exact xans_no HB4.out
          · rw [if_neg h8] at HE
            have h8b : ((m : Int) == 8) = false := by simp; omega
            clear h8
            go_enter Tryz.func24, Tryz.ntmps24
            go_wp2_with fail
            refine cc.mono ?_
            rintro e w1 ⟨rfl, hb1⟩
            have HB1 : Hid (Below w.heap.size w w1) := hb1
            clear cc hb1
            go_wp2_with fail
            refine (cn _).mono ?_
            rintro e w2 ⟨rfl, hb2⟩
            have HB2 : Hid (Below w.heap.size w w2) := HB1.out.trans (hb2.mono HB1.out.size)
            clear cn hb2
            go_wp2_with fail
            refine (HC.out _ HB2.out).mono ?_
            rintro e w3 ⟨rfl, hb3⟩
            have HB3 : Hid (Below w.heap.size w w3) := HB2.out.trans (hb3.mono HB2.out.size)
            clear hb3
            go_wp2_with fail
            refine (HF.out _ HB3.out).mono ?_
            rintro e w4 ⟨rfl, hb4⟩
            have HB4 : Hid (Below w.heap.size w w4) := HB3.out.trans (hb4.mono HB3.out.size)
            clear hb4
            go_wp2_with fail
            have cnum := numbers_any a2 m2 cap2 (by have := HH.out.2.2.2.1; rw [HM.out.2] at this; omega) w4
            refine Calls.mono cnum ?_
            rintro e w5 ⟨⟨v5, rfl, ho5⟩, hb5⟩
            have HI5 : Hid (IntsIs w5 v5 (nums cs.length)) := by unfold Hid; rw [HM.out.2]; exact ints_of_own ho5
            have HB5 : Hid (Below w.heap.size w w5) := HB4.out.trans (hb5.mono HB4.out.size)
            obtain ⟨⟨a5, c5, rfl⟩, _⟩ := own_shape ho5
            rw [nums_len] at HI5 ⊢
            have hone : (#[.string ⟨#[115, 117, 112, 101, 114]⟩, .slice a5 m2 c5, .int .i64 0] : Array Value).all (fun c => c.oneCell') = true := one_three (by intro u hu; simp only [List.mem_cons, List.not_mem_nil, or_false] at hu; rcases hu with rfl | rfl | rfl <;> rfl)
            obtain ⟨W6, hW6⟩ : ∃ W6, W6 = (w5.alloc (.cells #[.string ⟨#[]⟩, .slice none 0 0, .int .i64 0] 26)).setRow w5.heap.size #[.string ⟨#[115, 117, 112, 101, 114]⟩, .slice a5 m2 c5, .int .i64 0] := ⟨_, rfl⟩
            have b6 : Below w5.heap.size w5 W6 := by rw [hW6]; exact below_setRow (below1 w5 _) (Nat.le_refl _) _
            have B6 : Box W6 w5.heap.size 26 #[.string ⟨#[115, 117, 112, 101, 114]⟩, .slice a5 m2 c5, .int .i64 0] := by rw [hW6]; exact (box_new w5 _ _).setRow _
            obtain ⟨W7, hW7⟩ : ∃ W7, W7 = W6.alloc (.cells #[.string ⟨#[115, 117, 112, 101, 114]⟩, .slice a5 m2 c5, .int .i64 0] 26) := ⟨_, rfl⟩
            have b7 : Below W6.heap.size W6 W7 := by rw [hW7]; exact below1 _ _
            have B7 : Box W7 W6.heap.size 26 #[.string ⟨#[115, 117, 112, 101, 114]⟩, .slice a5 m2 c5, .int .i64 0] := by rw [hW7]; exact box_new _ _ _
            have hb57 : Below w5.heap.size w5 W7 := b6.trans (b7.mono b6.size)
            have hb07 := HB5.out.trans (hb57.mono HB5.out.size)
            have hTb : TbE W7 ⟨n, cs, [⟨superN, nums cs.length, 0#64⟩]⟩ [.string n, .slice a2 m2 cap2, .slice (some ⟨W6.heap.size, 0, none⟩) 1 1] := ⟨_, _, rfl, HH.out.2.2.1.over stays_col hb07, slIs_one B7 ⟨_, rfl, HI5.out.over stays_int hb57⟩⟩
            have cg := grownT_any (HH.out.1.over stays_tb hb07) HH.out.2.1.1 hTb
            have HW : Hid (W6 = (w5.alloc (.cells #[.string ⟨#[]⟩, .slice none 0 0, .int .i64 0] 26)).setRow w5.heap.size #[.string ⟨#[115, 117, 112, 101, 114]⟩, .slice a5 m2 c5, .int .i64 0] ∧ W7 = W6.alloc (.cells #[.string ⟨#[115, 117, 112, 101, 114]⟩, .slice a5 m2 c5, .int .i64 0] 26) ∧ Below w.heap.size w W7) := ⟨hW6, hW7, hb07⟩
            have HZ : Hid (∀ z, Box (w5.alloc (.cells z 26)) w5.heap.size 26 z) := fun z => box_new w5 z _
            have p0 := B6.cell 0 _ rfl
            have p1 := B6.cell 1 _ rfl
            have p2 := B6.cell 2 _ rfl
            clear cnum ho5 hb5 hW6 b6 B6 hW7 b7 B7 hb57 hb07 hTb
            go_wp2_with (refine wpList_store_row rfl 26 _ _ rfl w5.heap.size _ rfl rfl 26 _ (HZ.out _) size_pj rfl hone ?_; rw [← HW.out.1])
            rw [← HW.out.2.1]
            refine Calls.mono cg ?_
            rintro e w8 ⟨⟨v8, R, rfl, hs8, hE8, ho8⟩, hb8⟩
            have hT8 : TabsIs w8 v8 (l ++ [⟨n, cs, [⟨superN, nums cs.length, 0#64⟩]⟩]) := slIs_of_srows hs8 (rowsE_over stays_tb hE8 hb8)
            have cp := copied_any hT8 (litL_append HH.out.2.1 (by have := tabs_len HTB.out; omega) (litT_new HH.out.2.2.2.2.2 HH.out.2.2.2.1 HH.out.2.2.2.2.1))
            have HB8 : Hid (Below w.heap.size w w8) := HW.out.2.2.trans (hb8.mono HW.out.2.2.size)
            obtain ⟨a8, n8, c8, rfl, _⟩ := hT8.slice
            clear cg hs8 hE8 ho8 hb8 hT8 p0 p1 p2
            go_wp2_with fail
            refine Calls.mono cp ?_
            rintro e w9 ⟨⟨v9, rfl, hT9⟩, hb9⟩
            have H9 : Hid (TabsIs w9 v9 (l ++ [⟨n, cs, [⟨superN, nums cs.length, 0#64⟩]⟩]) ∧ Below w.heap.size w w9) := ⟨hT9, HB8.out.trans (hb9.mono HB8.out.size)⟩
            clear cp hT9 hb9
            go_wp2_with fail
            go_ret2
            rw [HE.out]
            exact ⟨⟨_, rfl, H9.out.1⟩, H9.out.2⟩
theorem litL_cut {l : List Tb} (h : litL l) (k : Nat) : litL (l.take k ++ l.drop (k + 1)) := by
  refine ⟨by have := h.1; simp; omega, fun x hx => h.2 x ?_⟩
  rcases List.mem_append.1 hx with hx | hx
  · exact List.mem_of_mem_take hx
  · exact List.mem_of_mem_drop hx
set_option maxRecDepth 4000 in
set_option maxHeartbeats 4000000 in
theorem drop_any {w : World} {v : Value} {l : List Tb} (h : TabsIs w v l) (hl : litL l) (n : ByteArray) :
    Calls Tryz.prog 29 #[v, .string n] w (XAns w (dropF l n)) := by
  have cc := check_any h hl
  have HF : Hid (∀ W, Below w.heap.size w W → Calls Tryz.prog 15 #[v, .string n] W fun e w' => e = .returned (.int .i64 (findT l n)) ∧ Below W.heap.size W w') := fun W hW => find_any (h.over stays_tb hW) (by have := hl.1; omega) n
  have HH : Hid (TabsIs w v l ∧ litL l) := ⟨h, hl⟩
  obtain ⟨a, m, cap, rfl, hm, _⟩ := h.slice
  obtain ⟨q1, hq1⟩ : ∃ q, q = tabsB l := ⟨_, rfl⟩
  have HE : Hid (dropF l n = (if q1 = false then ([], 1) else if findT l n < 0 then ([], 3) else (l.take (findT l n).toNat ++ l.drop ((findT l n).toNat + 1), 0))) := by unfold Hid dropF; rw [hq1]
  rw [← hq1] at cc
  have hw := idx_or (fun t : Tb => eqS t.name n) l
  have HW : Hid (findT l n = -1 ∨ ∃ (k : Nat) (x : Tb), findT l n = k ∧ l[k]? = some x ∧ eqS x.name n = true) := hw
  obtain ⟨z, hz⟩ : ∃ z, z = findT l n := ⟨_, rfl⟩
  rw [← hz] at HF HE HW
  clear h hl hm hq1 hw hz
  cases q1 with
  | false =>
    unfold errT at cc
    simp only [Bool.false_eq_true, if_false] at cc
    go_enter Tryz.func29, Tryz.ntmps29
    go_wp2_with fail
    refine cc.mono ?_
    rintro e w1 ⟨rfl, hb1⟩
    have HB1 : Hid (Below w.heap.size w w1) := hb1
    clear cc hb1
    go_wp2_with fail
    go_ret2
    rw [HE.out]
    exact xans_no HB1.out
  | true =>
    unfold errT at cc
    simp only [if_true] at cc
    rcases HW.out with rfl | ⟨k, x, rfl, hk, _⟩
    · rw [if_neg (by decide), if_pos (by decide)] at HE
      go_enter Tryz.func29, Tryz.ntmps29
      go_wp2_with fail
      refine cc.mono ?_
      rintro e w1 ⟨rfl, hb1⟩
      have HB1 : Hid (Below w.heap.size w w1) := hb1
      clear cc hb1
      go_wp2_with fail
      refine (HF.out _ HB1.out).mono ?_
      rintro e w2 ⟨rfl, hb2⟩
      have HB2 : Hid (Below w.heap.size w w2) := HB1.out.trans (hb2.mono HB1.out.size)
      clear hb2
      go_wp2_with fail
      go_ret2
      rw [HE.out]
      exact xans_no HB2.out
    · rw [if_neg (by decide), if_neg (by omega)] at HE
      rw [Int.toNat_natCast] at HE
      have hkl : k < l.length := (List.getElem?_eq_some_iff.1 hk).1
      have HK : Hid (k < l.length) := hkl
      have hk0 : ¬ (k : Int) < 0 := by omega
      clear hk hkl HW
      go_enter Tryz.func29, Tryz.ntmps29
      go_wp2_with fail
      refine cc.mono ?_
      rintro e w1 ⟨rfl, hb1⟩
      have HB1 : Hid (Below w.heap.size w w1) := hb1
      clear cc hb1
      go_wp2_with fail
      refine (HF.out _ HB1.out).mono ?_
      rintro e w2 ⟨rfl, hb2⟩
      have HB2 : Hid (Below w.heap.size w w2) := HB1.out.trans (hb2.mono HB1.out.size)
      clear hb2
      go_wp2_with fail
      have cw := withoutT_any (HH.out.1.over stays_tb HB2.out) HH.out.2.1 k HK.out
      refine Calls.mono cw ?_
      rintro e w3 ⟨⟨v3, R, rfl, hs3, hE3, ho3⟩, hb3⟩
      have hT3 : TabsIs w3 v3 (l.take k ++ l.drop (k + 1)) := slIs_of_srows hs3 (rowsE_over stays_tb hE3 hb3)
      have cp := copied_any hT3 (litL_cut HH.out.2 k)
      have HB3 : Hid (Below w.heap.size w w3) := HB2.out.trans (hb3.mono HB2.out.size)
      obtain ⟨a3, n3, c3, rfl, _⟩ := hT3.slice
      clear cw hs3 hE3 ho3 hb3 hT3
      go_wp2_with fail
      refine Calls.mono cp ?_
      rintro e w4 ⟨⟨v4, rfl, hT4⟩, hb4⟩
      have H4 : Hid (TabsIs w4 v4 (l.take k ++ l.drop (k + 1)) ∧ Below w.heap.size w w4) := ⟨hT4, HB3.out.trans (hb4.mono HB3.out.size)⟩
      clear cp hT4 hb4
      go_wp2_with fail
      go_ret2
      rw [HE.out]
      exact ⟨⟨_, rfl, H4.out.1⟩, H4.out.2⟩
end Go.Proofs.YtdjobjbkpagnaaaGreat
/-
  The contracts of schema's Add and Remove.
-/
namespace Go.Proofs.YtdjobjbkpagnaaaGreat
open Go.RowKit Go.Shelf

theorem litL_set {l : List Tb} (h : litL l) (k : Nat) {t : Tb} (ht : litT t) : litL (l.set k t) := by
  refine ⟨by simpa using h.1, fun x hx => ?_⟩
  rcases List.mem_or_eq_of_mem_set hx with hx | rfl
  · exact h.2 x hx
  · exact ht
theorem litT_more {t : Tb} {p : Pj} (h : litT t) (hp : litP p) (hl : t.projs.length ≤ 999) : litT ⟨t.name, t.cols, t.projs ++ [p]⟩ := by
  refine ⟨h.1, h.2.1, by simp; omega, h.2.2.2.1, fun x hx => ?_⟩
  rcases List.mem_append.1 hx with hx | hx
  · exact h.2.2.2.2 x hx
  · simp at hx; rw [hx]; exact hp
theorem litT_less {t : Tb} (h : litT t) (k : Nat) : litT ⟨t.name, t.cols, t.projs.take k ++ t.projs.drop (k + 1)⟩ := by
  refine ⟨h.1, h.2.1, by have := h.2.2.1; simp; omega, h.2.2.2.1, fun x hx => h.2.2.2.2 x ?_⟩
  rcases List.mem_append.1 hx with hx | hx
  · exact List.mem_of_mem_take hx
  · exact List.mem_of_mem_drop hx
theorem tb_few {l : List Tb} {k : Nat} {t : Tb} (h : tabsB l = true) (ht : l[k]? = some t) : tbB t = true := by
  unfold tabsB at h
  simp only [Bool.and_eq_true] at h
  exact List.all_eq_true.1 h.1.2 t (List.mem_of_getElem? ht)
theorem tb_six {t : Tb} (h : tbB t = true) : t.projs.length ≤ 6 := by
  unfold tbB at h
  simp only [Bool.and_eq_true, decide_eq_true_eq] at h
  exact h.1.1.1.2
/-- A table in a variable of its own. -/
structure Tv (w W : World) (B : Nat) (t : Tb) (c0 c1 c2 : Value) : Prop where
  bel : Below w.heap.size w W
  box : Box W B 41 #[c0, c1, c2]
  tb : TbE W t [c0, c1, c2]
  up : w.heap.size ≤ B
theorem Tv.over {w W W' : World} {B : Nat} {t : Tb} {c0 c1 c2 : Value} (h : Tv w W B t c0 c1 c2) (b : Below W.heap.size W W') : Tv w W' B t c0 c1 c2 :=
  ⟨h.bel.trans (b.mono h.bel.size), h.box.over b, stays_tb _ _ _ _ h.tb b, h.up⟩
theorem slIs_const {α : Type} {E : World → α → List Value → Prop} {sz : Nat} {w W : World} {v : Value} {l : List α} (h : SlIs E sz w v l) (k : Below w.heap.size w W) : SlIs (fun _ x cs => E w x cs) sz W v l := by
  obtain ⟨a, cap, rfl, hcap, h⟩ := h
  refine ⟨a, cap, rfl, hcap, fun hl => ?_⟩
  obtain ⟨b, off, rfl, hb, hc⟩ := h hl
  refine ⟨b, off, rfl, Nat.lt_of_lt_of_le hb k.size, fun i x hi => ?_⟩
  obtain ⟨cs, h1, h2, h3⟩ := hc i x hi
  exact ⟨cs, h1, h2, fun j u hu => (k.cell (p := ⟨b, off + i * sz + j, none⟩) hb).trans (h3 j u hu)⟩
/-- Its projections are others, made since. -/
theorem Tv.turn {w W W' : World} {B : Nat} {t : Tb} {c0 c1 c2 v : Value} {ps : List Pj} {R : List (List Value)} (h : Tv w W B t c0 c1 c2) (b : Below W.heap.size W W') (hs : SRows W' v 26 3 R) (hE : RowsE (fun _ x cs => PjE w x cs) W ps R) (ho : ∀ x, v.ownBlock = some x → W.heap.size ≤ x) (hc : ColsIs w c1 t.cols) :
    Tv w (W'.setCell ⟨B, 2, none⟩ v) B ⟨t.name, t.cols, ps⟩ c0 c1 v := by
  have h1 := h.over b
  have hb : Below w.heap.size w (W'.setCell ⟨B, 2, none⟩ v) := h1.bel.setCell (p := ⟨B, 2, none⟩) h1.up _
  have hlt := h.box.lt
  have hs2 : SRows (W'.setCell ⟨B, 2, none⟩ v) v 26 3 R := hs.of_block fun g hg => heap_setCell_other _ _ _ _ (by have := ho g hg; simp only; omega)
  have hE0 : RowsE PjE w ps R := ⟨hE.1, fun i x r hx hr => hE.2 i x r hx hr⟩
  obtain ⟨vc, vp, e, _, _⟩ := h.tb
  simp only [List.cons.injEq, and_true] at e
  obtain ⟨rfl, rfl, rfl⟩ := e
  exact ⟨hb, h1.box.set 2 v, ⟨_, _, rfl, hc.over stays_col hb, slIs_of_srows hs2 (rowsE_over stays_pj hE0 hb)⟩, h.up⟩
set_option maxRecDepth 4000 in
set_option maxHeartbeats 4000000 in
theorem add_any {w : World} {v : Value} {l : List Tb} (h : TabsIs w v l) (hl : litL l) (n : ByteArray) {p : Pj} {d0 d1 d2 : Value} (hp : PjE w p [d0, d1, d2]) (hlp : litP p) :
    Calls Tryz.prog 26 #[v, .string n, .agg #[d0, d1, d2]] w (XAns w (addF l n p)) := by
  obtain ⟨a, m, cap, rfl, hm, _⟩ := h.slice
  have HCK : Hid (∀ W, Below w.heap.size w W → Calls Tryz.prog 12 #[.slice a m cap] W fun e w' => e = .returned (.int .i64 (errT (tabsB l))) ∧ Below W.heap.size W w') := fun W hW => check_any (h.over stays_tb hW) hl
  have HF : Hid (∀ W, Below w.heap.size w W → Calls Tryz.prog 15 #[.slice a m cap, .string n] W fun e w' => e = .returned (.int .i64 (findT l n)) ∧ Below W.heap.size W w') := fun W hW => find_any (h.over stays_tb hW) (by have := hl.1; omega) n
  have HH : Hid (TabsIs w (.slice a m cap) l ∧ litL l) := ⟨h, hl⟩
  have HM : Hid (l.length = m) := hm
  have hmI : (m : Int) ≤ 1000 := by have := hl.1; omega
  have HWZ : Hid (findT l n = -1 ∨ ∃ (k : Nat) (x : Tb), findT l n = k ∧ l[k]? = some x ∧ eqS x.name n = true) := idx_or (fun t : Tb => eqS t.name n) l
  obtain ⟨q1, hq1⟩ : ∃ q, q = tabsB l := ⟨_, rfl⟩
  have HTB : Hid (tabsB l = q1) := hq1.symm
  rw [← hq1] at HCK
  obtain ⟨rfl, aI, nI, capI, rfl, rfl⟩ := pj_cells hp
  obtain ⟨W0, hW0⟩ : ∃ W0, W0 = w.alloc (.cells #[.string p.name, .slice aI nI capI, .int .i64 p.keys.toInt] 26) := ⟨_, rfl⟩
  have HW0 : Hid (W0 = w.alloc (.cells #[.string p.name, .slice aI nI capI, .int .i64 p.keys.toInt] 26)) := hW0
  have HB0 : Hid (Below w.heap.size w W0) := by unfold Hid; rw [hW0]; exact below1 _ _
  have HP : Hid (Box W0 w.heap.size 26 #[.string p.name, .slice aI nI capI, .int .i64 p.keys.toInt] ∧ PjE w p [.string p.name, .slice aI nI capI, .int .i64 p.keys.toInt] ∧ litP p) := ⟨by rw [hW0]; exact box_new _ _ _, hp, hlp⟩
  clear h hl hm hp hlp hW0
  cases q1 with
  | false =>
    have HE : Hid (addF l n p = ([], 1)) := by unfold Hid addF; rw [HTB.out, if_pos rfl]
    unfold errT at HCK
    simp only [Bool.false_eq_true, if_false] at HCK
    clear hq1
    go_enter Tryz.func26, Tryz.ntmps26
    go_wp2_with fail
    rw [← HW0.out]
    refine (HCK.out _ HB0.out).mono ?_
    rintro e w1 ⟨rfl, hb1⟩
    have HB1 : Hid (Below W0.heap.size W0 w1) := hb1
    clear hb1
    go_wp2_with fail
    go_ret2
    rw [HE.out]
    exact xans_no (HB0.out.trans (HB1.out.mono HB0.out.size))
  | true =>
    unfold errT at HCK
    simp only [if_true] at HCK
    clear hq1
    rcases HWZ.out with hz | ⟨k, t, hz, ht, _⟩
    · have HE : Hid (addF l n p = ([], 3)) := by unfold Hid addF; rw [HTB.out, if_neg (by decide), hz]; cases l[(-1 : Int).toNat]? <;> rfl
      rw [hz] at HF
      clear hz HWZ
      go_enter Tryz.func26, Tryz.ntmps26
      go_wp2_with fail
      rw [← HW0.out]
      refine (HCK.out _ HB0.out).mono ?_
      rintro e w1 ⟨rfl, hb1⟩
      have HB1 : Hid (Below W0.heap.size W0 w1) := hb1
      clear hb1
      go_wp2_with fail
      refine (HF.out _ (HB0.out.trans (HB1.out.mono HB0.out.size))).mono ?_
      rintro e w2 ⟨rfl, hb2⟩
      have HB2 : Hid (Below W0.heap.size W0 w2) := HB1.out.trans (hb2.mono HB1.out.size)
      clear hb2
      go_wp2_with fail
      go_ret2
      rw [HE.out]
      exact xans_no (HB0.out.trans (HB2.out.mono HB0.out.size))
    · have HE0 : Hid (addF l n p = addAt l k t p) := by unfold Hid addF; rw [HTB.out, if_neg (by decide), hz, Int.toNat_natCast, ht]; simp only; rw [if_neg (by omega)]
      rw [hz] at HF
      have HK : Hid (k < m) := by unfold Hid; rw [← HM.out]; exact (List.getElem?_eq_some_iff.1 ht).1
      have HT : Hid (l[k]? = some t) := ht
      have hkI : (k : Int) < (m : Int) := by have := HK.out; omega
      have hk0 : ¬ (k : Int) < 0 := by omega
      clear hz HWZ ht
      obtain ⟨q2, HQ'⟩ : ∃ q, Hid (pjB t.cols.length p = q) := ⟨_, rfl⟩
      cases q2 with
      | false =>
        have HE : Hid (addF l n p = ([], 1)) := by unfold Hid; rw [HE0.out]; unfold addAt; rw [HQ'.out, if_pos rfl]
        go_enter Tryz.func26, Tryz.ntmps26
        go_wp2_with fail
        rw [← HW0.out]
        refine (HCK.out _ HB0.out).mono ?_
        rintro e w1 ⟨rfl, hb1⟩
        have HB1 : Hid (Below W0.heap.size W0 w1) := hb1
        clear hb1
        go_wp2_with fail
        refine (HF.out _ (HB0.out.trans (HB1.out.mono HB0.out.size))).mono ?_
        rintro e w2 ⟨rfl, hb2⟩
        have HB2 : Hid (Below W0.heap.size W0 w2) := HB1.out.trans (hb2.mono HB1.out.size)
        clear hb2
        obtain ⟨t', c0, c1, c2, b, off, ht', e', hE', m0, m1, m2⟩ := at3T HH.out.1 HK.out
        cases e'
        obtain rfl : t' = t := Option.some.inj (ht'.symm.trans HT.out)
        have hw2 : Below w.heap.size w w2 := HB0.out.trans (HB2.out.mono HB0.out.size)
        have n0 := (hw2.cell (p := ⟨b, off + k * 3, none⟩) (World.block_lt_of_cell? w _ m0)).trans m0
        have n1 := (hw2.cell (p := ⟨b, off + k * 3 + 1, none⟩) (World.block_lt_of_cell? w _ m1)).trans m1
        have n2 := (hw2.cell (p := ⟨b, off + k * 3 + 2, none⟩) (World.block_lt_of_cell? w _ m2)).trans m2
        have hone := one_three (one_tb hE')
        obtain ⟨rfl, aC, nC, capC, aP, nP, capP, rfl, rfl, hnC, hnP, hC, hP⟩ := tb_cells hE'
        have HTT : Hid (TbE w t' [.string t'.name, .slice aC nC capC, .slice aP nP capP] ∧ ColsIs w (.slice aC nC capC) t'.cols ∧ PjsIs w (.slice aP nP capP) t'.projs ∧ t'.projs.length = nP ∧ litT t') := ⟨hE', hC, hP, hnP, HH.out.2.2 t' (List.mem_of_getElem? ht')⟩
        have hnPI : (nP : Int) ≤ 1000 := by have := HTT.out.2.2.2.2.2.2.1; rw [hnP] at this; omega
        obtain ⟨B9, hB9⟩ : ∃ B9, B9 = w2.heap.size := ⟨_, rfl⟩
        obtain ⟨W3, hW3⟩ : ∃ W3, W3 = (w2.alloc (.cells #[.string ⟨#[]⟩, .slice none 0 0, .slice none 0 0] 41)).setRow w2.heap.size #[.string t'.name, .slice aC nC capC, .slice aP nP capP] := ⟨_, rfl⟩
        have b3 : Below w2.heap.size w2 W3 := by rw [hW3]; exact below_setRow (below1 w2 _) (Nat.le_refl _) _
        have B3 : Box W3 B9 41 #[.string t'.name, .slice aC nC capC, .slice aP nP capP] := by rw [hW3, hB9]; exact (box_new w2 _ _).setRow _
        have hb3 := hw2.trans (b3.mono hw2.size)
        have HW : Hid (W3 = (w2.alloc (.cells #[.string ⟨#[]⟩, .slice none 0 0, .slice none 0 0] 41)).setRow w2.heap.size #[.string t'.name, .slice aC nC capC, .slice aP nP capP] ∧ B9 = w2.heap.size) := ⟨hW3, hB9⟩
        have HV : Hid (Tv w W3 B9 t' (.string t'.name) (.slice aC nC capC) (.slice aP nP capP) ∧ Below W0.heap.size W0 W3) := ⟨⟨hb3, B3, stays_tb _ _ _ _ hE' hb3, by rw [hB9]; exact hw2.size⟩, HB2.out.trans (b3.mono HB2.out.size)⟩
        have HZ : Hid (∀ z, Box (w2.alloc (.cells z 41)) w2.heap.size 41 z) := fun z => box_new w2 z _
        clear ht' hE' m0 m1 m2 hw2 hnC hnP hC hP hB9 hW3 b3 B3 hb3
        go_wp2_with (refine wpList_store_row rfl 41 _ _ rfl w2.heap.size _ rfl rfl 41 _ (HZ.out _) size_tb rfl hone ?_; rw [← HW.out.1, ← HW.out.2]; clear n0 n1 n2; have t0 := HV.out.1.box.cell 0 _ rfl; have t1 := HV.out.1.box.cell 1 _ rfl; have t2 := HV.out.1.box.cell 2 _ rfl; have p0 := (HP.out.1.over HV.out.2).cell 0 _ rfl; have p1 := (HP.out.1.over HV.out.2).cell 1 _ rfl; have p2 := (HP.out.1.over HV.out.2).cell 2 _ rfl)
        have cm := mayOf_any HV.out.1.tb (stays_pj _ _ _ _ HP.out.2.1 HV.out.1.bel) (by have := HTT.out.2.2.2.2.2.1; omega) HP.out.2.2
        rw [HQ'.out] at cm
        refine cm.mono ?_
        rintro e w4 ⟨rfl, hb4⟩
        have HV4 : Hid (Tv w w4 B9 t' (.string t'.name) (.slice aC nC capC) (.slice aP nP capP) ∧ Below W0.heap.size W0 w4) := ⟨HV.out.1.over hb4, HV.out.2.trans (hb4.mono HV.out.2.size)⟩
        clear cm hb4 t0 t1 t2 p0 p1 p2
        go_wp2_with fail
        go_ret2
        rw [HE.out]
        exact xans_no HV4.out.1.bel
      | true =>
        obtain ⟨z2, HZ2⟩ : ∃ z, Hid (findP t.projs p.name = z) := ⟨_, rfl⟩
        by_cases hz2 : 0 ≤ z2
        · have HE : Hid (addF l n p = ([], 251)) := by unfold Hid; rw [HE0.out]; unfold addAt; rw [HQ'.out, if_neg (by decide), HZ2.out, if_pos hz2]
          go_enter Tryz.func26, Tryz.ntmps26
          go_wp2_with fail
          rw [← HW0.out]
          refine (HCK.out _ HB0.out).mono ?_
          rintro e w1 ⟨rfl, hb1⟩
          have HB1 : Hid (Below W0.heap.size W0 w1) := hb1
          clear hb1
          go_wp2_with fail
          refine (HF.out _ (HB0.out.trans (HB1.out.mono HB0.out.size))).mono ?_
          rintro e w2 ⟨rfl, hb2⟩
          have HB2 : Hid (Below W0.heap.size W0 w2) := HB1.out.trans (hb2.mono HB1.out.size)
          clear hb2
          obtain ⟨t', c0, c1, c2, b, off, ht', e', hE', m0, m1, m2⟩ := at3T HH.out.1 HK.out
          cases e'
          obtain rfl : t' = t := Option.some.inj (ht'.symm.trans HT.out)
          have hw2 : Below w.heap.size w w2 := HB0.out.trans (HB2.out.mono HB0.out.size)
          have n0 := (hw2.cell (p := ⟨b, off + k * 3, none⟩) (World.block_lt_of_cell? w _ m0)).trans m0
          have n1 := (hw2.cell (p := ⟨b, off + k * 3 + 1, none⟩) (World.block_lt_of_cell? w _ m1)).trans m1
          have n2 := (hw2.cell (p := ⟨b, off + k * 3 + 2, none⟩) (World.block_lt_of_cell? w _ m2)).trans m2
          have hone := one_three (one_tb hE')
          obtain ⟨rfl, aC, nC, capC, aP, nP, capP, rfl, rfl, hnC, hnP, hC, hP⟩ := tb_cells hE'
          have HTT : Hid (TbE w t' [.string t'.name, .slice aC nC capC, .slice aP nP capP] ∧ ColsIs w (.slice aC nC capC) t'.cols ∧ PjsIs w (.slice aP nP capP) t'.projs ∧ t'.projs.length = nP ∧ litT t') := ⟨hE', hC, hP, hnP, HH.out.2.2 t' (List.mem_of_getElem? ht')⟩
          have hnPI : (nP : Int) ≤ 1000 := by have := HTT.out.2.2.2.2.2.2.1; rw [hnP] at this; omega
          obtain ⟨B9, hB9⟩ : ∃ B9, B9 = w2.heap.size := ⟨_, rfl⟩
          obtain ⟨W3, hW3⟩ : ∃ W3, W3 = (w2.alloc (.cells #[.string ⟨#[]⟩, .slice none 0 0, .slice none 0 0] 41)).setRow w2.heap.size #[.string t'.name, .slice aC nC capC, .slice aP nP capP] := ⟨_, rfl⟩
          have b3 : Below w2.heap.size w2 W3 := by rw [hW3]; exact below_setRow (below1 w2 _) (Nat.le_refl _) _
          have B3 : Box W3 B9 41 #[.string t'.name, .slice aC nC capC, .slice aP nP capP] := by rw [hW3, hB9]; exact (box_new w2 _ _).setRow _
          have hb3 := hw2.trans (b3.mono hw2.size)
          have HW : Hid (W3 = (w2.alloc (.cells #[.string ⟨#[]⟩, .slice none 0 0, .slice none 0 0] 41)).setRow w2.heap.size #[.string t'.name, .slice aC nC capC, .slice aP nP capP] ∧ B9 = w2.heap.size) := ⟨hW3, hB9⟩
          have HV : Hid (Tv w W3 B9 t' (.string t'.name) (.slice aC nC capC) (.slice aP nP capP) ∧ Below W0.heap.size W0 W3) := ⟨⟨hb3, B3, stays_tb _ _ _ _ hE' hb3, by rw [hB9]; exact hw2.size⟩, HB2.out.trans (b3.mono HB2.out.size)⟩
          have HZ : Hid (∀ z, Box (w2.alloc (.cells z 41)) w2.heap.size 41 z) := fun z => box_new w2 z _
          clear ht' hE' m0 m1 m2 hw2 hnC hnP hC hP hB9 hW3 b3 B3 hb3
          go_wp2_with (refine wpList_store_row rfl 41 _ _ rfl w2.heap.size _ rfl rfl 41 _ (HZ.out _) size_tb rfl hone ?_; rw [← HW.out.1, ← HW.out.2]; clear n0 n1 n2; have t0 := HV.out.1.box.cell 0 _ rfl; have t1 := HV.out.1.box.cell 1 _ rfl; have t2 := HV.out.1.box.cell 2 _ rfl; have p0 := (HP.out.1.over HV.out.2).cell 0 _ rfl; have p1 := (HP.out.1.over HV.out.2).cell 1 _ rfl; have p2 := (HP.out.1.over HV.out.2).cell 2 _ rfl)
          have cm := mayOf_any HV.out.1.tb (stays_pj _ _ _ _ HP.out.2.1 HV.out.1.bel) (by have := HTT.out.2.2.2.2.2.1; omega) HP.out.2.2
          rw [HQ'.out] at cm
          refine cm.mono ?_
          rintro e w4 ⟨rfl, hb4⟩
          have HV4 : Hid (Tv w w4 B9 t' (.string t'.name) (.slice aC nC capC) (.slice aP nP capP) ∧ Below W0.heap.size W0 w4) := ⟨HV.out.1.over hb4, HV.out.2.trans (hb4.mono HV.out.2.size)⟩
          clear cm hb4 t0 t1 t2 p0 p1 p2
          have t0 := HV4.out.1.box.cell 0 _ rfl
          have t1 := HV4.out.1.box.cell 1 _ rfl
          have t2 := HV4.out.1.box.cell 2 _ rfl
          have p0 := (HP.out.1.over HV4.out.2).cell 0 _ rfl
          go_wp2_with fail
          have cw0 := which_any HV4.out.1.tb (by have := HTT.out.2.2.2.2.2.2.1; omega) p.name
          rw [HZ2.out] at cw0
          refine cw0.mono ?_
          rintro e w5 ⟨rfl, hb5⟩
          have HV5a : Hid (Tv w w5 B9 t' (.string t'.name) (.slice aC nC capC) (.slice aP nP capP) ∧ Below W0.heap.size W0 w5) := ⟨HV4.out.1.over hb5, HV4.out.2.trans (hb5.mono HV4.out.2.size)⟩
          clear cw0 hb5 t0 t1 t2 p0
          go_wp2_with fail
          go_ret2
          rw [HE.out]
          exact xans_no HV5a.out.1.bel
        · by_cases h6 : t.projs.length = 6
          · have HE : Hid (addF l n p = ([], 4)) := by unfold Hid; rw [HE0.out]; unfold addAt; rw [HQ'.out, if_neg (by decide), HZ2.out, if_neg hz2, if_pos h6]
            go_enter Tryz.func26, Tryz.ntmps26
            go_wp2_with fail
            rw [← HW0.out]
            refine (HCK.out _ HB0.out).mono ?_
            rintro e w1 ⟨rfl, hb1⟩
            have HB1 : Hid (Below W0.heap.size W0 w1) := hb1
            clear hb1
            go_wp2_with fail
            refine (HF.out _ (HB0.out.trans (HB1.out.mono HB0.out.size))).mono ?_
            rintro e w2 ⟨rfl, hb2⟩
            have HB2 : Hid (Below W0.heap.size W0 w2) := HB1.out.trans (hb2.mono HB1.out.size)
            clear hb2
            obtain ⟨t', c0, c1, c2, b, off, ht', e', hE', m0, m1, m2⟩ := at3T HH.out.1 HK.out
            cases e'
            obtain rfl : t' = t := Option.some.inj (ht'.symm.trans HT.out)
            have hw2 : Below w.heap.size w w2 := HB0.out.trans (HB2.out.mono HB0.out.size)
            have n0 := (hw2.cell (p := ⟨b, off + k * 3, none⟩) (World.block_lt_of_cell? w _ m0)).trans m0
            have n1 := (hw2.cell (p := ⟨b, off + k * 3 + 1, none⟩) (World.block_lt_of_cell? w _ m1)).trans m1
            have n2 := (hw2.cell (p := ⟨b, off + k * 3 + 2, none⟩) (World.block_lt_of_cell? w _ m2)).trans m2
            have hone := one_three (one_tb hE')
            obtain ⟨rfl, aC, nC, capC, aP, nP, capP, rfl, rfl, hnC, hnP, hC, hP⟩ := tb_cells hE'
            have HTT : Hid (TbE w t' [.string t'.name, .slice aC nC capC, .slice aP nP capP] ∧ ColsIs w (.slice aC nC capC) t'.cols ∧ PjsIs w (.slice aP nP capP) t'.projs ∧ t'.projs.length = nP ∧ litT t') := ⟨hE', hC, hP, hnP, HH.out.2.2 t' (List.mem_of_getElem? ht')⟩
            have hnPI : (nP : Int) ≤ 1000 := by have := HTT.out.2.2.2.2.2.2.1; rw [hnP] at this; omega
            obtain ⟨B9, hB9⟩ : ∃ B9, B9 = w2.heap.size := ⟨_, rfl⟩
            obtain ⟨W3, hW3⟩ : ∃ W3, W3 = (w2.alloc (.cells #[.string ⟨#[]⟩, .slice none 0 0, .slice none 0 0] 41)).setRow w2.heap.size #[.string t'.name, .slice aC nC capC, .slice aP nP capP] := ⟨_, rfl⟩
            have b3 : Below w2.heap.size w2 W3 := by rw [hW3]; exact below_setRow (below1 w2 _) (Nat.le_refl _) _
            have B3 : Box W3 B9 41 #[.string t'.name, .slice aC nC capC, .slice aP nP capP] := by rw [hW3, hB9]; exact (box_new w2 _ _).setRow _
            have hb3 := hw2.trans (b3.mono hw2.size)
            have HW : Hid (W3 = (w2.alloc (.cells #[.string ⟨#[]⟩, .slice none 0 0, .slice none 0 0] 41)).setRow w2.heap.size #[.string t'.name, .slice aC nC capC, .slice aP nP capP] ∧ B9 = w2.heap.size) := ⟨hW3, hB9⟩
            have HV : Hid (Tv w W3 B9 t' (.string t'.name) (.slice aC nC capC) (.slice aP nP capP) ∧ Below W0.heap.size W0 W3) := ⟨⟨hb3, B3, stays_tb _ _ _ _ hE' hb3, by rw [hB9]; exact hw2.size⟩, HB2.out.trans (b3.mono HB2.out.size)⟩
            have HZ : Hid (∀ z, Box (w2.alloc (.cells z 41)) w2.heap.size 41 z) := fun z => box_new w2 z _
            clear ht' hE' m0 m1 m2 hw2 hnC hnP hC hP hB9 hW3 b3 B3 hb3
            go_wp2_with (refine wpList_store_row rfl 41 _ _ rfl w2.heap.size _ rfl rfl 41 _ (HZ.out _) size_tb rfl hone ?_; rw [← HW.out.1, ← HW.out.2]; clear n0 n1 n2; have t0 := HV.out.1.box.cell 0 _ rfl; have t1 := HV.out.1.box.cell 1 _ rfl; have t2 := HV.out.1.box.cell 2 _ rfl; have p0 := (HP.out.1.over HV.out.2).cell 0 _ rfl; have p1 := (HP.out.1.over HV.out.2).cell 1 _ rfl; have p2 := (HP.out.1.over HV.out.2).cell 2 _ rfl)
            have cm := mayOf_any HV.out.1.tb (stays_pj _ _ _ _ HP.out.2.1 HV.out.1.bel) (by have := HTT.out.2.2.2.2.2.1; omega) HP.out.2.2
            rw [HQ'.out] at cm
            refine cm.mono ?_
            rintro e w4 ⟨rfl, hb4⟩
            have HV4 : Hid (Tv w w4 B9 t' (.string t'.name) (.slice aC nC capC) (.slice aP nP capP) ∧ Below W0.heap.size W0 w4) := ⟨HV.out.1.over hb4, HV.out.2.trans (hb4.mono HV.out.2.size)⟩
            clear cm hb4 t0 t1 t2 p0 p1 p2
            have t0 := HV4.out.1.box.cell 0 _ rfl
            have t1 := HV4.out.1.box.cell 1 _ rfl
            have t2 := HV4.out.1.box.cell 2 _ rfl
            have p0 := (HP.out.1.over HV4.out.2).cell 0 _ rfl
            go_wp2_with fail
            have cw0 := which_any HV4.out.1.tb (by have := HTT.out.2.2.2.2.2.2.1; omega) p.name
            rw [HZ2.out] at cw0
            refine cw0.mono ?_
            rintro e w5 ⟨rfl, hb5⟩
            have HV5a : Hid (Tv w w5 B9 t' (.string t'.name) (.slice aC nC capC) (.slice aP nP capP) ∧ Below W0.heap.size W0 w5) := ⟨HV4.out.1.over hb5, HV4.out.2.trans (hb5.mono HV4.out.2.size)⟩
            clear cw0 hb5 t0 t1 t2 p0
            have h6b : ((nP : Int) == 6) = true := by rw [HTT.out.2.2.2.1] at h6; simp; omega
            have t2 := HV5a.out.1.box.cell 2 _ rfl
            clear h6
            go_wp2_with fail
            go_ret2
            rw [HE.out]
            exact xans_no HV5a.out.1.bel
          · have HE : Hid (addF l n p = (l.set k ⟨t.name, t.cols, t.projs ++ [p]⟩, 0)) := by unfold Hid; rw [HE0.out]; unfold addAt; rw [HQ'.out, if_neg (by decide), HZ2.out, if_neg hz2, if_neg h6]
            go_enter Tryz.func26, Tryz.ntmps26
            go_wp2_with fail
            rw [← HW0.out]
            refine (HCK.out _ HB0.out).mono ?_
            rintro e w1 ⟨rfl, hb1⟩
            have HB1 : Hid (Below W0.heap.size W0 w1) := hb1
            clear hb1
            go_wp2_with fail
            refine (HF.out _ (HB0.out.trans (HB1.out.mono HB0.out.size))).mono ?_
            rintro e w2 ⟨rfl, hb2⟩
            have HB2 : Hid (Below W0.heap.size W0 w2) := HB1.out.trans (hb2.mono HB1.out.size)
            clear hb2
            obtain ⟨t', c0, c1, c2, b, off, ht', e', hE', m0, m1, m2⟩ := at3T HH.out.1 HK.out
            cases e'
            obtain rfl : t' = t := Option.some.inj (ht'.symm.trans HT.out)
            have hw2 : Below w.heap.size w w2 := HB0.out.trans (HB2.out.mono HB0.out.size)
            have n0 := (hw2.cell (p := ⟨b, off + k * 3, none⟩) (World.block_lt_of_cell? w _ m0)).trans m0
            have n1 := (hw2.cell (p := ⟨b, off + k * 3 + 1, none⟩) (World.block_lt_of_cell? w _ m1)).trans m1
            have n2 := (hw2.cell (p := ⟨b, off + k * 3 + 2, none⟩) (World.block_lt_of_cell? w _ m2)).trans m2
            have hone := one_three (one_tb hE')
            obtain ⟨rfl, aC, nC, capC, aP, nP, capP, rfl, rfl, hnC, hnP, hC, hP⟩ := tb_cells hE'
            have HTT : Hid (TbE w t' [.string t'.name, .slice aC nC capC, .slice aP nP capP] ∧ ColsIs w (.slice aC nC capC) t'.cols ∧ PjsIs w (.slice aP nP capP) t'.projs ∧ t'.projs.length = nP ∧ litT t') := ⟨hE', hC, hP, hnP, HH.out.2.2 t' (List.mem_of_getElem? ht')⟩
            have hnPI : (nP : Int) ≤ 1000 := by have := HTT.out.2.2.2.2.2.2.1; rw [hnP] at this; omega
            obtain ⟨B9, hB9⟩ : ∃ B9, B9 = w2.heap.size := ⟨_, rfl⟩
            obtain ⟨W3, hW3⟩ : ∃ W3, W3 = (w2.alloc (.cells #[.string ⟨#[]⟩, .slice none 0 0, .slice none 0 0] 41)).setRow w2.heap.size #[.string t'.name, .slice aC nC capC, .slice aP nP capP] := ⟨_, rfl⟩
            have b3 : Below w2.heap.size w2 W3 := by rw [hW3]; exact below_setRow (below1 w2 _) (Nat.le_refl _) _
            have B3 : Box W3 B9 41 #[.string t'.name, .slice aC nC capC, .slice aP nP capP] := by rw [hW3, hB9]; exact (box_new w2 _ _).setRow _
            have hb3 := hw2.trans (b3.mono hw2.size)
            have HW : Hid (W3 = (w2.alloc (.cells #[.string ⟨#[]⟩, .slice none 0 0, .slice none 0 0] 41)).setRow w2.heap.size #[.string t'.name, .slice aC nC capC, .slice aP nP capP] ∧ B9 = w2.heap.size) := ⟨hW3, hB9⟩
            have HV : Hid (Tv w W3 B9 t' (.string t'.name) (.slice aC nC capC) (.slice aP nP capP) ∧ Below W0.heap.size W0 W3) := ⟨⟨hb3, B3, stays_tb _ _ _ _ hE' hb3, by rw [hB9]; exact hw2.size⟩, HB2.out.trans (b3.mono HB2.out.size)⟩
            have HZ : Hid (∀ z, Box (w2.alloc (.cells z 41)) w2.heap.size 41 z) := fun z => box_new w2 z _
            clear ht' hE' m0 m1 m2 hw2 hnC hnP hC hP hB9 hW3 b3 B3 hb3
            go_wp2_with (refine wpList_store_row rfl 41 _ _ rfl w2.heap.size _ rfl rfl 41 _ (HZ.out _) size_tb rfl hone ?_; rw [← HW.out.1, ← HW.out.2]; clear n0 n1 n2; have t0 := HV.out.1.box.cell 0 _ rfl; have t1 := HV.out.1.box.cell 1 _ rfl; have t2 := HV.out.1.box.cell 2 _ rfl; have p0 := (HP.out.1.over HV.out.2).cell 0 _ rfl; have p1 := (HP.out.1.over HV.out.2).cell 1 _ rfl; have p2 := (HP.out.1.over HV.out.2).cell 2 _ rfl)
            have cm := mayOf_any HV.out.1.tb (stays_pj _ _ _ _ HP.out.2.1 HV.out.1.bel) (by have := HTT.out.2.2.2.2.2.1; omega) HP.out.2.2
            rw [HQ'.out] at cm
            refine cm.mono ?_
            rintro e w4 ⟨rfl, hb4⟩
            have HV4 : Hid (Tv w w4 B9 t' (.string t'.name) (.slice aC nC capC) (.slice aP nP capP) ∧ Below W0.heap.size W0 w4) := ⟨HV.out.1.over hb4, HV.out.2.trans (hb4.mono HV.out.2.size)⟩
            clear cm hb4 t0 t1 t2 p0 p1 p2
            have t0 := HV4.out.1.box.cell 0 _ rfl
            have t1 := HV4.out.1.box.cell 1 _ rfl
            have t2 := HV4.out.1.box.cell 2 _ rfl
            have p0 := (HP.out.1.over HV4.out.2).cell 0 _ rfl
            go_wp2_with fail
            have cw0 := which_any HV4.out.1.tb (by have := HTT.out.2.2.2.2.2.2.1; omega) p.name
            rw [HZ2.out] at cw0
            refine cw0.mono ?_
            rintro e w5 ⟨rfl, hb5⟩
            have HV5a : Hid (Tv w w5 B9 t' (.string t'.name) (.slice aC nC capC) (.slice aP nP capP) ∧ Below W0.heap.size W0 w5) := ⟨HV4.out.1.over hb5, HV4.out.2.trans (hb5.mono HV4.out.2.size)⟩
            clear cw0 hb5 t0 t1 t2 p0
            have h6b : ((nP : Int) == 6) = false := by rw [HTT.out.2.2.2.1] at h6; simp; omega
            have t2 := HV5a.out.1.box.cell 2 _ rfl
            have p0 := (HP.out.1.over HV5a.out.2).cell 0 _ rfl
            have p1 := (HP.out.1.over HV5a.out.2).cell 1 _ rfl
            have p2 := (HP.out.1.over HV5a.out.2).cell 2 _ rfl
            clear h6
            go_wp2_with fail
            have cg := grownP_gen (E := fun _ x cs => PjE w x cs) (w := w5) (fun _ _ h => one_pj h) (slIs_const HTT.out.2.2.1 HV5a.out.1.bel) HTT.out.2.2.2.2.2.2.1 HP.out.2.1
            refine Calls.mono cg ?_
            rintro e w6 ⟨⟨v6, R, rfl, hs6, hE6, ho6⟩, hb6⟩
            have hV5 := HV5a.out.1.turn hb6 hs6 hE6 ho6 HTT.out.2.1
            have bx6 := HV5a.out.1.box.over hb6
            have t2 := bx6.cell 2 _ rfl
            have t2f := bx6.frozen 2
            obtain ⟨a6, n6, c6, rfl⟩ : ∃ a n c, v6 = .slice a n c := by rcases hs6 with ⟨rfl, _⟩ | ⟨g, c, rfl, _⟩ <;> exact ⟨_, _, _, rfl⟩
            have y0 := hV5.box.cell 0 _ rfl
            have y1 := hV5.box.cell 1 _ rfl
            have y2 := hV5.box.cell 2 _ rfl
            have HV5 : Hid (Tv w (w6.setCell ⟨B9, 2, none⟩ (.slice a6 n6 c6)) B9 ⟨t'.name, t'.cols, t'.projs ++ [p]⟩ (.string t'.name) (.slice aC nC capC) (.slice a6 n6 c6)) := hV5
            clear cg hs6 hE6 ho6 hb6 hV5 bx6 p0 p1 p2
            go_wp2_with fail
            have cw := with_any (HH.out.1.over stays_tb HV5.out.bel) HH.out.2.1 k (by have := HK.out; have := HM.out; omega) HV5.out.tb
            refine Calls.mono cw ?_
            rintro e w6 ⟨⟨v6, rfl, hT6⟩, hb6⟩
            have cp := copied_any hT6 (litL_set HH.out.2 k (litT_more HTT.out.2.2.2.2 HP.out.2.2 (by have := tb_six (tb_few HTB.out HT.out); omega)))
            have HB6 : Hid (Below w.heap.size w w6) := HV5.out.bel.trans (hb6.mono HV5.out.bel.size)
            obtain ⟨a6, n6, c6, rfl, _⟩ := hT6.slice
            clear cw hb6 hT6
            go_wp2_with fail
            refine Calls.mono cp ?_
            rintro e w7 ⟨⟨v7, rfl, hT7⟩, hb7⟩
            have H7 : Hid (TabsIs w7 v7 (l.set k ⟨t'.name, t'.cols, t'.projs ++ [p]⟩) ∧ Below w.heap.size w w7) := ⟨hT7, HB6.out.trans (hb7.mono HB6.out.size)⟩
            clear cp hT7 hb7
            go_wp2_with fail
            go_ret2
            rw [HE.out]
            exact ⟨⟨_, rfl, H7.out.1⟩, H7.out.2⟩
end Go.Proofs.YtdjobjbkpagnaaaGreat
/-
  The contract of schema's Remove.
-/
namespace Go.Proofs.YtdjobjbkpagnaaaGreat
open Go.RowKit Go.Shelf

set_option maxRecDepth 4000 in
set_option maxHeartbeats 4000000 in
theorem remove_any {w : World} {v : Value} {l : List Tb} (h : TabsIs w v l) (hl : litL l) (n nm : ByteArray) :
    Calls Tryz.prog 27 #[v, .string n, .string nm] w (XAns w (remF l n nm)) := by
  obtain ⟨a, m, cap, rfl, hm, _⟩ := h.slice
  have HCK : Hid (∀ W, Below w.heap.size w W → Calls Tryz.prog 12 #[.slice a m cap] W fun e w' => e = .returned (.int .i64 (errT (tabsB l))) ∧ Below W.heap.size W w') := fun W hW => check_any (h.over stays_tb hW) hl
  have HF : Hid (∀ W, Below w.heap.size w W → Calls Tryz.prog 15 #[.slice a m cap, .string n] W fun e w' => e = .returned (.int .i64 (findT l n)) ∧ Below W.heap.size W w') := fun W hW => find_any (h.over stays_tb hW) (by have := hl.1; omega) n
  have HH : Hid (TabsIs w (.slice a m cap) l ∧ litL l) := ⟨h, hl⟩
  have HM : Hid (l.length = m) := hm
  have hmI : (m : Int) ≤ 1000 := by have := hl.1; omega
  have HWZ : Hid (findT l n = -1 ∨ ∃ (k : Nat) (x : Tb), findT l n = k ∧ l[k]? = some x ∧ eqS x.name n = true) := idx_or (fun t : Tb => eqS t.name n) l
  obtain ⟨q1, hq1⟩ : ∃ q, q = tabsB l := ⟨_, rfl⟩
  have HTB : Hid (tabsB l = q1) := hq1.symm
  rw [← hq1] at HCK
  have HB0 : Hid (Below w.heap.size w w) := Below.refl _ _
  clear h hl hm
  cases q1 with
  | false =>
    have HE : Hid (remF l n nm = ([], 1)) := by unfold Hid remF; rw [HTB.out, if_pos rfl]
    unfold errT at HCK
    simp only [Bool.false_eq_true, if_false] at HCK
    clear hq1
    go_enter Tryz.func27, Tryz.ntmps27
    go_wp2_with fail
    refine (HCK.out _ HB0.out).mono ?_
    rintro e w1 ⟨rfl, hb1⟩
    have HB1 : Hid (Below w.heap.size w w1) := hb1
    clear hb1
    go_wp2_with fail
    go_ret2
    rw [HE.out]
    exact xans_no HB1.out
  | true =>
    unfold errT at HCK
    simp only [if_true] at HCK
    clear hq1
    rcases HWZ.out with hz | ⟨k, t, hz, ht, _⟩
    · have HE : Hid (remF l n nm = ([], 3)) := by unfold Hid remF; rw [HTB.out, if_neg (by decide), hz]; cases l[(-1 : Int).toNat]? <;> rfl
      rw [hz] at HF
      clear hz HWZ
      go_enter Tryz.func27, Tryz.ntmps27
      go_wp2_with fail
      refine (HCK.out _ HB0.out).mono ?_
      rintro e w1 ⟨rfl, hb1⟩
      have HB1 : Hid (Below w.heap.size w w1) := hb1
      clear hb1
      go_wp2_with fail
      refine (HF.out _ (HB0.out.trans (HB1.out.mono HB0.out.size))).mono ?_
      rintro e w2 ⟨rfl, hb2⟩
      have HB2 : Hid (Below w.heap.size w w2) := HB1.out.trans (hb2.mono HB1.out.size)
      clear hb2
      go_wp2_with fail
      go_ret2
      rw [HE.out]
      exact xans_no HB2.out
    · have HE0 : Hid (remF l n nm = remAt l k t nm) := by unfold Hid remF; rw [HTB.out, if_neg (by decide), hz, Int.toNat_natCast, ht]; simp only; rw [if_neg (by omega)]
      rw [hz] at HF
      have HK : Hid (k < m) := by unfold Hid; rw [← HM.out]; exact (List.getElem?_eq_some_iff.1 ht).1
      have HT : Hid (l[k]? = some t) := ht
      have hkI : (k : Int) < (m : Int) := by have := HK.out; omega
      have hk0 : ¬ (k : Int) < 0 := by omega
      clear hz HWZ ht
      have HWY : Hid (findP t.projs nm = -1 ∨ ∃ (j : Nat) (x : Pj), findP t.projs nm = j ∧ t.projs[j]? = some x ∧ eqS x.name nm = true) := idx_or (fun p : Pj => eqS p.name nm) t.projs
      rcases HWY.out with hz | ⟨j, x, hz, hj, _⟩
      · have HE : Hid (remF l n nm = ([], 3)) := by unfold Hid; rw [HE0.out]; unfold remAt; rw [hz, if_pos (by decide)]
        have HZ2 : Hid (findP t.projs nm = -1) := hz
        clear hz HWY
        go_enter Tryz.func27, Tryz.ntmps27
        go_wp2_with fail
        refine (HCK.out _ HB0.out).mono ?_
        rintro e w1 ⟨rfl, hb1⟩
        have HB1 : Hid (Below w.heap.size w w1) := hb1
        clear hb1
        go_wp2_with fail
        refine (HF.out _ (HB0.out.trans (HB1.out.mono HB0.out.size))).mono ?_
        rintro e w2 ⟨rfl, hb2⟩
        have HB2 : Hid (Below w.heap.size w w2) := HB1.out.trans (hb2.mono HB1.out.size)
        clear hb2
        obtain ⟨t', c0, c1, c2, b, off, ht', e', hE', m0, m1, m2⟩ := at3T HH.out.1 HK.out
        cases e'
        obtain rfl : t' = t := Option.some.inj (ht'.symm.trans HT.out)
        have hw2 : Below w.heap.size w w2 := HB0.out.trans (HB2.out.mono HB0.out.size)
        have n0 := (hw2.cell (p := ⟨b, off + k * 3, none⟩) (World.block_lt_of_cell? w _ m0)).trans m0
        have n1 := (hw2.cell (p := ⟨b, off + k * 3 + 1, none⟩) (World.block_lt_of_cell? w _ m1)).trans m1
        have n2 := (hw2.cell (p := ⟨b, off + k * 3 + 2, none⟩) (World.block_lt_of_cell? w _ m2)).trans m2
        have hone := one_three (one_tb hE')
        obtain ⟨rfl, aC, nC, capC, aP, nP, capP, rfl, rfl, hnC, hnP, hC, hP⟩ := tb_cells hE'
        have HTT : Hid (TbE w t' [.string t'.name, .slice aC nC capC, .slice aP nP capP] ∧ ColsIs w (.slice aC nC capC) t'.cols ∧ PjsIs w (.slice aP nP capP) t'.projs ∧ t'.projs.length = nP ∧ litT t') := ⟨hE', hC, hP, hnP, HH.out.2.2 t' (List.mem_of_getElem? ht')⟩
        have hnPI : (nP : Int) ≤ 1000 := by have := HTT.out.2.2.2.2.2.2.1; rw [hnP] at this; omega
        obtain ⟨B9, hB9⟩ : ∃ B9, B9 = w2.heap.size := ⟨_, rfl⟩
        obtain ⟨W3, hW3⟩ : ∃ W3, W3 = (w2.alloc (.cells #[.string ⟨#[]⟩, .slice none 0 0, .slice none 0 0] 41)).setRow w2.heap.size #[.string t'.name, .slice aC nC capC, .slice aP nP capP] := ⟨_, rfl⟩
        have b3 : Below w2.heap.size w2 W3 := by rw [hW3]; exact below_setRow (below1 w2 _) (Nat.le_refl _) _
        have B3 : Box W3 B9 41 #[.string t'.name, .slice aC nC capC, .slice aP nP capP] := by rw [hW3, hB9]; exact (box_new w2 _ _).setRow _
        have hb3 := hw2.trans (b3.mono hw2.size)
        have HW : Hid (W3 = (w2.alloc (.cells #[.string ⟨#[]⟩, .slice none 0 0, .slice none 0 0] 41)).setRow w2.heap.size #[.string t'.name, .slice aC nC capC, .slice aP nP capP] ∧ B9 = w2.heap.size) := ⟨hW3, hB9⟩
        have HV : Hid (Tv w W3 B9 t' (.string t'.name) (.slice aC nC capC) (.slice aP nP capP) ∧ Below w.heap.size w W3) := ⟨⟨hb3, B3, stays_tb _ _ _ _ hE' hb3, by rw [hB9]; exact hw2.size⟩, HB2.out.trans (b3.mono HB2.out.size)⟩
        have HZ : Hid (∀ z, Box (w2.alloc (.cells z 41)) w2.heap.size 41 z) := fun z => box_new w2 z _
        clear ht' hE' m0 m1 m2 hw2 hnC hnP hC hP hB9 hW3 b3 B3 hb3
        go_wp2_with (refine wpList_store_row rfl 41 _ _ rfl w2.heap.size _ rfl rfl 41 _ (HZ.out _) size_tb rfl hone ?_; rw [← HW.out.1, ← HW.out.2]; clear n0 n1 n2; have t0 := HV.out.1.box.cell 0 _ rfl; have t1 := HV.out.1.box.cell 1 _ rfl; have t2 := HV.out.1.box.cell 2 _ rfl)
        have cw0 := which_any HV.out.1.tb (by have := HTT.out.2.2.2.2.2.2.1; omega) nm
        rw [HZ2.out] at cw0
        refine cw0.mono ?_
        rintro e w5 ⟨rfl, hb5⟩
        have HV5a : Hid (Tv w w5 B9 t' (.string t'.name) (.slice aC nC capC) (.slice aP nP capP)) := HV.out.1.over hb5
        clear cw0 hb5 t0 t1 t2
        go_wp2_with fail
        go_ret2
        rw [HE.out]
        exact xans_no HV5a.out.bel
      · have HZ2 : Hid (findP t.projs nm = (j : Int)) := hz
        have HJ : Hid (j < t.projs.length) := (List.getElem?_eq_some_iff.1 hj).1
        have hj0 : ¬ (j : Int) < 0 := by omega
        have HRL : Hid (remL t nm = t.projs.take j ++ t.projs.drop (j + 1)) := by unfold Hid remL; rw [hz, Int.toNat_natCast]
        clear hz HWY hj
        obtain ⟨q2, HRD⟩ : ∃ q, Hid (readB t.cols.length (t.projs.take j ++ t.projs.drop (j + 1)) = q) := ⟨_, rfl⟩
        cases q2 with
        | false =>
          have HE : Hid (remF l n nm = ([], 250)) := by unfold Hid; rw [HE0.out]; unfold remAt; rw [HZ2.out, if_neg hj0, HRL.out, HRD.out, if_pos rfl]
          go_enter Tryz.func27, Tryz.ntmps27
          go_wp2_with fail
          refine (HCK.out _ HB0.out).mono ?_
          rintro e w1 ⟨rfl, hb1⟩
          have HB1 : Hid (Below w.heap.size w w1) := hb1
          clear hb1
          go_wp2_with fail
          refine (HF.out _ (HB0.out.trans (HB1.out.mono HB0.out.size))).mono ?_
          rintro e w2 ⟨rfl, hb2⟩
          have HB2 : Hid (Below w.heap.size w w2) := HB1.out.trans (hb2.mono HB1.out.size)
          clear hb2
          obtain ⟨t', c0, c1, c2, b, off, ht', e', hE', m0, m1, m2⟩ := at3T HH.out.1 HK.out
          cases e'
          obtain rfl : t' = t := Option.some.inj (ht'.symm.trans HT.out)
          have hw2 : Below w.heap.size w w2 := HB0.out.trans (HB2.out.mono HB0.out.size)
          have n0 := (hw2.cell (p := ⟨b, off + k * 3, none⟩) (World.block_lt_of_cell? w _ m0)).trans m0
          have n1 := (hw2.cell (p := ⟨b, off + k * 3 + 1, none⟩) (World.block_lt_of_cell? w _ m1)).trans m1
          have n2 := (hw2.cell (p := ⟨b, off + k * 3 + 2, none⟩) (World.block_lt_of_cell? w _ m2)).trans m2
          have hone := one_three (one_tb hE')
          obtain ⟨rfl, aC, nC, capC, aP, nP, capP, rfl, rfl, hnC, hnP, hC, hP⟩ := tb_cells hE'
          have HTT : Hid (TbE w t' [.string t'.name, .slice aC nC capC, .slice aP nP capP] ∧ ColsIs w (.slice aC nC capC) t'.cols ∧ PjsIs w (.slice aP nP capP) t'.projs ∧ t'.projs.length = nP ∧ litT t') := ⟨hE', hC, hP, hnP, HH.out.2.2 t' (List.mem_of_getElem? ht')⟩
          have hnPI : (nP : Int) ≤ 1000 := by have := HTT.out.2.2.2.2.2.2.1; rw [hnP] at this; omega
          obtain ⟨B9, hB9⟩ : ∃ B9, B9 = w2.heap.size := ⟨_, rfl⟩
          obtain ⟨W3, hW3⟩ : ∃ W3, W3 = (w2.alloc (.cells #[.string ⟨#[]⟩, .slice none 0 0, .slice none 0 0] 41)).setRow w2.heap.size #[.string t'.name, .slice aC nC capC, .slice aP nP capP] := ⟨_, rfl⟩
          have b3 : Below w2.heap.size w2 W3 := by rw [hW3]; exact below_setRow (below1 w2 _) (Nat.le_refl _) _
          have B3 : Box W3 B9 41 #[.string t'.name, .slice aC nC capC, .slice aP nP capP] := by rw [hW3, hB9]; exact (box_new w2 _ _).setRow _
          have hb3 := hw2.trans (b3.mono hw2.size)
          have HW : Hid (W3 = (w2.alloc (.cells #[.string ⟨#[]⟩, .slice none 0 0, .slice none 0 0] 41)).setRow w2.heap.size #[.string t'.name, .slice aC nC capC, .slice aP nP capP] ∧ B9 = w2.heap.size) := ⟨hW3, hB9⟩
          have HV : Hid (Tv w W3 B9 t' (.string t'.name) (.slice aC nC capC) (.slice aP nP capP) ∧ Below w.heap.size w W3) := ⟨⟨hb3, B3, stays_tb _ _ _ _ hE' hb3, by rw [hB9]; exact hw2.size⟩, HB2.out.trans (b3.mono HB2.out.size)⟩
          have HZ : Hid (∀ z, Box (w2.alloc (.cells z 41)) w2.heap.size 41 z) := fun z => box_new w2 z _
          clear ht' hE' m0 m1 m2 hw2 hnC hnP hC hP hB9 hW3 b3 B3 hb3
          go_wp2_with (refine wpList_store_row rfl 41 _ _ rfl w2.heap.size _ rfl rfl 41 _ (HZ.out _) size_tb rfl hone ?_; rw [← HW.out.1, ← HW.out.2]; clear n0 n1 n2; have t0 := HV.out.1.box.cell 0 _ rfl; have t1 := HV.out.1.box.cell 1 _ rfl; have t2 := HV.out.1.box.cell 2 _ rfl)
          have cw0 := which_any HV.out.1.tb (by have := HTT.out.2.2.2.2.2.2.1; omega) nm
          rw [HZ2.out] at cw0
          refine cw0.mono ?_
          rintro e w5 ⟨rfl, hb5⟩
          have HV5a : Hid (Tv w w5 B9 t' (.string t'.name) (.slice aC nC capC) (.slice aP nP capP)) := HV.out.1.over hb5
          clear cw0 hb5 t0 t1 t2
          have t2 := HV5a.out.box.cell 2 _ rfl
          go_wp2_with fail
          have cg := withoutP_gen (E := fun _ x cs => PjE w x cs) (w := w5) (fun _ _ h => one_pj h) (slIs_const HTT.out.2.2.1 HV5a.out.bel) HTT.out.2.2.2.2.2.2.1 j HJ.out
          refine Calls.mono cg ?_
          rintro e w6 ⟨⟨v6, R, rfl, hs6, hE6, ho6⟩, hb6⟩
          have hV5 := HV5a.out.turn hb6 hs6 hE6 ho6 HTT.out.2.1
          have bx6 := HV5a.out.box.over hb6
          have t2 := bx6.cell 2 _ rfl
          have t2f := bx6.frozen 2
          obtain ⟨a6, n6, c6, rfl⟩ : ∃ a n c, v6 = .slice a n c := by rcases hs6 with ⟨rfl, _⟩ | ⟨g, c, rfl, _⟩ <;> exact ⟨_, _, _, rfl⟩
          have y0 := hV5.box.cell 0 _ rfl
          have y1 := hV5.box.cell 1 _ rfl
          have y2 := hV5.box.cell 2 _ rfl
          obtain ⟨W7, hW7⟩ : ∃ W7, W7 = w6.setCell ⟨B9, 2, none⟩ (.slice a6 n6 c6) := ⟨_, rfl⟩
          have HW7 : Hid (W7 = w6.setCell ⟨B9, 2, none⟩ (.slice a6 n6 c6)) := hW7
          rw [← hW7] at hV5
          have HV7 : Hid (Tv w W7 B9 ⟨t'.name, t'.cols, t'.projs.take j ++ t'.projs.drop (j + 1)⟩ (.string t'.name) (.slice aC nC capC) (.slice a6 n6 c6)) := hV5
          clear cg hs6 hE6 ho6 hb6 hV5 bx6 hW7
          go_wp2_with fail
          rw [← HW7.out]
          have ccr := canRead_any HV7.out.tb (litT_less HTT.out.2.2.2.2 j)
          rw [HRD.out] at ccr
          refine ccr.mono ?_
          rintro e w8 ⟨rfl, hb8⟩
          have HV5 : Hid (Tv w w8 B9 ⟨t'.name, t'.cols, t'.projs.take j ++ t'.projs.drop (j + 1)⟩ (.string t'.name) (.slice aC nC capC) (.slice a6 n6 c6)) := HV7.out.over hb8
          have z0 := HV5.out.box.cell 0 _ rfl
          have z1 := HV5.out.box.cell 1 _ rfl
          have z2 := HV5.out.box.cell 2 _ rfl
          clear ccr hb8 y0 y1 y2 t2 t2f
          go_wp2_with fail
          go_ret2
          rw [HE.out]
          exact xans_no HV5.out.bel
        | true =>
          have HE : Hid (remF l n nm = (l.set k ⟨t.name, t.cols, t.projs.take j ++ t.projs.drop (j + 1)⟩, 0)) := by unfold Hid; rw [HE0.out]; unfold remAt; rw [HZ2.out, if_neg hj0, HRL.out, HRD.out, if_neg (by decide)]
          go_enter Tryz.func27, Tryz.ntmps27
          go_wp2_with fail
          refine (HCK.out _ HB0.out).mono ?_
          rintro e w1 ⟨rfl, hb1⟩
          have HB1 : Hid (Below w.heap.size w w1) := hb1
          clear hb1
          go_wp2_with fail
          refine (HF.out _ (HB0.out.trans (HB1.out.mono HB0.out.size))).mono ?_
          rintro e w2 ⟨rfl, hb2⟩
          have HB2 : Hid (Below w.heap.size w w2) := HB1.out.trans (hb2.mono HB1.out.size)
          clear hb2
          obtain ⟨t', c0, c1, c2, b, off, ht', e', hE', m0, m1, m2⟩ := at3T HH.out.1 HK.out
          cases e'
          obtain rfl : t' = t := Option.some.inj (ht'.symm.trans HT.out)
          have hw2 : Below w.heap.size w w2 := HB0.out.trans (HB2.out.mono HB0.out.size)
          have n0 := (hw2.cell (p := ⟨b, off + k * 3, none⟩) (World.block_lt_of_cell? w _ m0)).trans m0
          have n1 := (hw2.cell (p := ⟨b, off + k * 3 + 1, none⟩) (World.block_lt_of_cell? w _ m1)).trans m1
          have n2 := (hw2.cell (p := ⟨b, off + k * 3 + 2, none⟩) (World.block_lt_of_cell? w _ m2)).trans m2
          have hone := one_three (one_tb hE')
          obtain ⟨rfl, aC, nC, capC, aP, nP, capP, rfl, rfl, hnC, hnP, hC, hP⟩ := tb_cells hE'
          have HTT : Hid (TbE w t' [.string t'.name, .slice aC nC capC, .slice aP nP capP] ∧ ColsIs w (.slice aC nC capC) t'.cols ∧ PjsIs w (.slice aP nP capP) t'.projs ∧ t'.projs.length = nP ∧ litT t') := ⟨hE', hC, hP, hnP, HH.out.2.2 t' (List.mem_of_getElem? ht')⟩
          have hnPI : (nP : Int) ≤ 1000 := by have := HTT.out.2.2.2.2.2.2.1; rw [hnP] at this; omega
          obtain ⟨B9, hB9⟩ : ∃ B9, B9 = w2.heap.size := ⟨_, rfl⟩
          obtain ⟨W3, hW3⟩ : ∃ W3, W3 = (w2.alloc (.cells #[.string ⟨#[]⟩, .slice none 0 0, .slice none 0 0] 41)).setRow w2.heap.size #[.string t'.name, .slice aC nC capC, .slice aP nP capP] := ⟨_, rfl⟩
          have b3 : Below w2.heap.size w2 W3 := by rw [hW3]; exact below_setRow (below1 w2 _) (Nat.le_refl _) _
          have B3 : Box W3 B9 41 #[.string t'.name, .slice aC nC capC, .slice aP nP capP] := by rw [hW3, hB9]; exact (box_new w2 _ _).setRow _
          have hb3 := hw2.trans (b3.mono hw2.size)
          have HW : Hid (W3 = (w2.alloc (.cells #[.string ⟨#[]⟩, .slice none 0 0, .slice none 0 0] 41)).setRow w2.heap.size #[.string t'.name, .slice aC nC capC, .slice aP nP capP] ∧ B9 = w2.heap.size) := ⟨hW3, hB9⟩
          have HV : Hid (Tv w W3 B9 t' (.string t'.name) (.slice aC nC capC) (.slice aP nP capP) ∧ Below w.heap.size w W3) := ⟨⟨hb3, B3, stays_tb _ _ _ _ hE' hb3, by rw [hB9]; exact hw2.size⟩, HB2.out.trans (b3.mono HB2.out.size)⟩
          have HZ : Hid (∀ z, Box (w2.alloc (.cells z 41)) w2.heap.size 41 z) := fun z => box_new w2 z _
          clear ht' hE' m0 m1 m2 hw2 hnC hnP hC hP hB9 hW3 b3 B3 hb3
          go_wp2_with (refine wpList_store_row rfl 41 _ _ rfl w2.heap.size _ rfl rfl 41 _ (HZ.out _) size_tb rfl hone ?_; rw [← HW.out.1, ← HW.out.2]; clear n0 n1 n2; have t0 := HV.out.1.box.cell 0 _ rfl; have t1 := HV.out.1.box.cell 1 _ rfl; have t2 := HV.out.1.box.cell 2 _ rfl)
          have cw0 := which_any HV.out.1.tb (by have := HTT.out.2.2.2.2.2.2.1; omega) nm
          rw [HZ2.out] at cw0
          refine cw0.mono ?_
          rintro e w5 ⟨rfl, hb5⟩
          have HV5a : Hid (Tv w w5 B9 t' (.string t'.name) (.slice aC nC capC) (.slice aP nP capP)) := HV.out.1.over hb5
          clear cw0 hb5 t0 t1 t2
          have t2 := HV5a.out.box.cell 2 _ rfl
          go_wp2_with fail
          have cg := withoutP_gen (E := fun _ x cs => PjE w x cs) (w := w5) (fun _ _ h => one_pj h) (slIs_const HTT.out.2.2.1 HV5a.out.bel) HTT.out.2.2.2.2.2.2.1 j HJ.out
          refine Calls.mono cg ?_
          rintro e w6 ⟨⟨v6, R, rfl, hs6, hE6, ho6⟩, hb6⟩
          have hV5 := HV5a.out.turn hb6 hs6 hE6 ho6 HTT.out.2.1
          have bx6 := HV5a.out.box.over hb6
          have t2 := bx6.cell 2 _ rfl
          have t2f := bx6.frozen 2
          obtain ⟨a6, n6, c6, rfl⟩ : ∃ a n c, v6 = .slice a n c := by rcases hs6 with ⟨rfl, _⟩ | ⟨g, c, rfl, _⟩ <;> exact ⟨_, _, _, rfl⟩
          have y0 := hV5.box.cell 0 _ rfl
          have y1 := hV5.box.cell 1 _ rfl
          have y2 := hV5.box.cell 2 _ rfl
          obtain ⟨W7, hW7⟩ : ∃ W7, W7 = w6.setCell ⟨B9, 2, none⟩ (.slice a6 n6 c6) := ⟨_, rfl⟩
          have HW7 : Hid (W7 = w6.setCell ⟨B9, 2, none⟩ (.slice a6 n6 c6)) := hW7
          rw [← hW7] at hV5
          have HV7 : Hid (Tv w W7 B9 ⟨t'.name, t'.cols, t'.projs.take j ++ t'.projs.drop (j + 1)⟩ (.string t'.name) (.slice aC nC capC) (.slice a6 n6 c6)) := hV5
          clear cg hs6 hE6 ho6 hb6 hV5 bx6 hW7
          go_wp2_with fail
          rw [← HW7.out]
          have ccr := canRead_any HV7.out.tb (litT_less HTT.out.2.2.2.2 j)
          rw [HRD.out] at ccr
          refine ccr.mono ?_
          rintro e w8 ⟨rfl, hb8⟩
          have HV5 : Hid (Tv w w8 B9 ⟨t'.name, t'.cols, t'.projs.take j ++ t'.projs.drop (j + 1)⟩ (.string t'.name) (.slice aC nC capC) (.slice a6 n6 c6)) := HV7.out.over hb8
          have z0 := HV5.out.box.cell 0 _ rfl
          have z1 := HV5.out.box.cell 1 _ rfl
          have z2 := HV5.out.box.cell 2 _ rfl
          clear ccr hb8 y0 y1 y2 t2 t2f
          go_wp2_with fail
          have cw := with_any (HH.out.1.over stays_tb HV5.out.bel) HH.out.2.1 k (by have := HK.out; have := HM.out; omega) HV5.out.tb
          refine Calls.mono cw ?_
          rintro e w9 ⟨⟨v9, rfl, hT9⟩, hb9⟩
          have cp := copied_any hT9 (litL_set HH.out.2 k (litT_less HTT.out.2.2.2.2 j))
          have HB9 : Hid (Below w.heap.size w w9) := HV5.out.bel.trans (hb9.mono HV5.out.bel.size)
          obtain ⟨a9, n9, c9, rfl, _⟩ := hT9.slice
          clear cw hb9 hT9
          go_wp2_with fail
          refine Calls.mono cp ?_
          rintro e w10 ⟨⟨v10, rfl, hT10⟩, hb10⟩
          have H10 : Hid (TabsIs w10 v10 (l.set k ⟨t'.name, t'.cols, t'.projs.take j ++ t'.projs.drop (j + 1)⟩) ∧ Below w.heap.size w w10) := ⟨hT10, HB9.out.trans (hb10.mono HB9.out.size)⟩
          clear cp hT10 hb10
          go_wp2_with fail
          go_ret2
          rw [HE.out]
          exact ⟨⟨_, rfl, H10.out.1⟩, H10.out.2⟩
end Go.Proofs.YtdjobjbkpagnaaaGreat
/-
  Tables as bytes. Pure mathematics.
-/
namespace Go.Proofs.YtdjobjbkpagnaaaGreat
open Leb

def encName (n : ByteArray) : List UInt8 := enc1 (BitVec.ofNat 64 n.size) ++ n.data.toList
def nullW (b : Bool) : BitVec 64 := if b then 1#64 else 0#64
def encCol (c : Col) : List UInt8 := encName c.name ++ enc1 c.kind ++ enc1 (nullW c.null)
def encPj (p : Pj) : List UInt8 := encName p.name ++ encAll p.cols ++ enc1 p.keys
def encL {α : Type} (enc : α → List UInt8) (l : List α) : List UInt8 := enc1 (BitVec.ofNat 64 l.length) ++ l.flatMap enc
def encTb (t : Tb) : List UInt8 := encName t.name ++ encL encCol t.cols ++ encL encPj t.projs
def encTabs (l : List Tb) : List UInt8 := encL encTb l
theorem str_of (s : ByteArray) : str s.data.toList = s := by apply ByteArray.ext; simp [str]
theorem enc1_le (x : BitVec 64) : (enc1 x).length ≤ 10 := by rw [enc1_len]; exact (lenW_bd _).2
theorem encName_le (n : ByteArray) : (encName n).length ≤ 10 + n.size := by
  unfold encName
  have := enc1_le (BitVec.ofNat 64 n.size)
  rw [List.length_append, Array.length_toList]
  exact Nat.add_le_add this (Nat.le_refl _)
theorem flat_take {α : Type} {enc : α → List UInt8} {l : List α} {k : Nat} {x : α} (h : l[k]? = some x) : (l.take (k + 1)).flatMap enc = (l.take k).flatMap enc ++ enc x := by
  rw [take_succ_of h]; simp
theorem flat_le {α : Type} {enc : α → List UInt8} {B : Nat} : ∀ {l : List α}, (∀ x ∈ l, (enc x).length ≤ B) → (l.flatMap enc).length ≤ l.length * B
  | [], _ => by simp
  | x :: r, h => by
    have h1 := h x (by simp)
    have h2 := flat_le (l := r) (fun y hy => h y (by simp [hy]))
    rw [List.flatMap_cons, List.length_append, List.length_cons, Nat.add_mul]
    omega
end Go.Proofs.YtdjobjbkpagnaaaGreat
