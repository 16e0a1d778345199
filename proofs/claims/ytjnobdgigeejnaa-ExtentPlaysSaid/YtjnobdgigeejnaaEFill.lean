/-
  The contract of a map's fill.
-/
import Derived.Test.YtjnobdgigeejnaaECut
import Derived.Test.YtjnobdgigeejnaaLast
namespace Go.Proofs.Ytjnobdgigeejnaa
open Go.RowKit

theorem left_no {A : List (Nat × Nat)} {a : Nat} (hn : Nice 0 A) (hl : ∀ h ∈ A, h.1 + h.2 ≤ a) (hno : ∀ A' y, A = A' ++ [y] → y.1 + y.2 ≠ a) : ∀ h ∈ A, h.1 + h.2 + 1 ≤ a := by
  intro h hh
  rcases List.eq_nil_or_concat A with e | ⟨A', y, e⟩
  · rw [e] at hh; simp at hh
  · rw [List.concat_eq_append] at e
    have h1 := hno A' y e
    have h2 := hl y (by rw [e]; simp)
    rw [e] at hh hn
    obtain ⟨_, k2, k3, _⟩ := nice_mid hn
    rcases List.mem_append.1 hh with hh | hh
    · have := k2 h hh; omega
    · simp at hh; subst hh; omega
/-- What is free behind it. -/
def Filled (hs hs' : List (Nat × Nat)) (n a c : Nat) : Prop := Nice 0 hs' ∧ Within n hs' ∧ ∀ b, FreeAt hs' b ↔ FreeAt hs b ∨ (a ≤ b ∧ b < a + c)
/-- The four ways. -/
theorem fill_pure {A M B : List (Nat × Nat)} {n a c lo hi : Nat} (hA : Nice 0 A) (h1 : ∀ h ∈ A, h.1 + h.2 + 1 ≤ lo) (hB : Nice (hi + 1) B) (hw : Within n (A ++ (M ++ B))) (hlt : lo < hi) (hn : hi ≤ n) (hm : ∀ b, (FreeAt M b ∨ (a ≤ b ∧ b < a + c)) ↔ (lo ≤ b ∧ b < hi)) :
    Filled (A ++ (M ++ B)) (A ++ (lo, hi - lo) :: B) n a c := by
  refine ⟨fill_nice hA hB rfl hlt h1, ?_, ?_⟩
  · intro x hx
    simp only [List.mem_append, List.mem_cons] at hx
    rcases hx with hx | rfl | hx
    · exact hw x (by simp [hx])
    · simp only; omega
    · exact hw x (by simp [hx])
  · intro b
    have hmb := hm b
    rw [free_append, free_append, free_append, free_cons]
    simp only
    rw [show lo + (hi - lo) = hi by omega]
    constructor
    · rintro (h | h | h)
      · exact .inl (.inl h)
      · rcases hmb.2 h with h | h
        · exact .inl (.inr (.inl h))
        · exact .inr h
      · exact .inl (.inr (.inr h))
    · rintro ((h | h | h) | h)
      · exact .inl h
      · exact .inr (.inl (hmb.1 (.inl h)))
      · exact .inr (.inr h)
      · exact .inr (.inl (hmb.1 (.inr h)))
theorem end_of_take {hs : List (Nat × Nat)} {k : Nat} {y : Nat × Nat} (hk : 0 < k) (hy : hs[k - 1]? = some y) : hs.take k = hs.take (k - 1) ++ [y] := by
  have e := List.take_add_one (l := hs) (i := k - 1)
  rw [show k - 1 + 1 = k by omega, hy] at e
  exact e
theorem head_of_drop {hs : List (Nat × Nat)} {k : Nat} {z : Nat × Nat} (hz : hs[k]? = some z) : hs.drop k = z :: hs.drop (k + 1) := by
  have hlt := (List.getElem?_eq_some_iff.1 hz).1
  rw [List.drop_eq_getElem_cons hlt]
  congr 1
  exact (List.getElem?_eq_some_iff.1 hz).2

set_option maxRecDepth 4000 in
set_option maxHeartbeats 4000000 in
theorem fill_00 {w : World} {p g n cap : Nat} {hs : List (Nat × Nat)} (M : MapIs w p g n cap hs) (a c k : Nat) (hc : 1 ≤ c) (han : a + c ≤ n) (hU : Upto hs a k) (hk0 : k = 0) (hkq : k = hs.length) {Zs : List (Nat × Nat)} (hZs : hs.take (k) ++ (a, (a + c) - a) :: hs.drop (k) = Zs) (hF : Filled hs Zs n a c) :
    Calls Try.prog 35 #[.pointer (some ⟨p, 0, none⟩), .int .i64 k, .agg #[.int .i64 a, .int .i64 c]] w fun e w' => e = .returned (.tuple #[]) ∧ MapTo w p g n Zs w' := by
  obtain ⟨q, hq⟩ : ∃ q, q = hs.length := ⟨_, rfl⟩
  have hkl : k ≤ q := by rw [hq]; exact hU.1
  have hfew := M.few
  have hn2 := M.n2
  rw [← hq] at hfew
  have hb1 := below1 w (.cells #[.int .i64 a, .int .i64 c] 32)
  have B0 := box_new w #[.int .i64 a, .int .i64 c] 32
  have x0 := above_cell (B0.cell 0 _ rfl)
  have x1 := above_cell (B0.cell 1 _ rfl)
  obtain ⟨u, hu⟩ : ∃ u, u = a + c := ⟨_, rfl⟩
  have ca := fun W => end_any a c u W (by rw [IntKind.wrap_i64]; omega)
  obtain ⟨f, hf⟩ : ∃ f, f = k := ⟨_, rfl⟩
  obtain ⟨t, ht⟩ : ∃ t, t = k := ⟨_, rfl⟩
  have hk1 : ¬ (0 : Int) < (k : Int) := by omega
  have hkqI : ¬ (k : Int) < (q : Int) := by omega
  obtain ⟨d, hd⟩ : ∃ d, d = (a + c) - a := ⟨_, rfl⟩
  have cb := fun W => between_any a u d W (by rw [IntKind.wrap_i64]; omega)
  have HQ : Hid (q = hs.length ∧ k = k ∧ k = k ∧ d = (a + c) - a ∧ k ≤ k ∧ k ≤ q ∧ q ≤ 4096) := ⟨hq, by omega, by omega, hd, by omega, by omega, by omega⟩
  have HM : Hid (MapIs w p g n cap hs ∧ Filled hs Zs n a c ∧ hs.take (k) ++ (a, (a + c) - a) :: hs.drop (k) = Zs) := ⟨M, hF, hZs⟩
  have HB1 : Hid (Below w.heap.size w (w.alloc (.cells #[.int .i64 a, .int .i64 c] 32))) := hb1
  clear M hU hF hZs hq hd hf ht hfew hn2 hb1 B0 hu hc han hk0 hkq
  go_enter Try.func35, Try.ntmps35
  go_wp2_with fail
  refine wp_region_above (by kernel_rfl) (by kernel_rfl) ?_
  intro hne
  repeat (go_big_quiet_step ((go_at_call 34; exact above_of (ca _))))
  refine wpQuiet_nil ?_
  rintro _ ⟨kq, rfl⟩
  have hbq := HB1.out.trans (kq.is.mono HB1.out.size)
  obtain ⟨W, hW⟩ : ∃ W, W = kq.it := ⟨_, rfl⟩
  rw [← hW] at hbq
  rw [← hW]
  clear hW x0 x1 ca hne HB1 kq
  have MW := HM.out.1.over hbq
  have c1 := MW.c1
  rw [← HQ.out.1] at c1
  have HB : Hid (Below w.heap.size w W) := hbq
  clear MW hbq
  go_wp2_with fail
  have MW := HM.out.1.over HB.out
  refine wp_region_held_then (fun w' => w'.cell? ⟨p, 1, none⟩ = some (.slice (some ⟨g, 0, none⟩) q cap)) _ (by kernel_rfl) rfl (by kernel_rfl) ?_
  have hHeld : (fun w' : World => w'.cell? ⟨p, 1, none⟩ = some (.slice (some ⟨g, 0, none⟩) q cap)) W.drew := c1
  dsimp only [List.dropLast, List.length, List.getLast]
  ((refine takeL 0 (v := ?_) rfl (by kernel_rfl) (by kernel_rfl) (by kernel_rfl) (fun _ _ _ h => h) (by rfl) hHeld ?_ ?_; rotate_left; focus (intro w hSw; (try dsimp only at hSw); go_simp <;> with_reducible rfl); (try simp only [Act.put, List.setIfInBounds_toArray, List.set_cons_zero, List.set_cons_succ])); (refine takeL 1 (v := ?_) rfl (by kernel_rfl) (by kernel_rfl) (by kernel_rfl) (fun _ _ _ h => h) (by rfl) hHeld ?_ ?_; rotate_left; focus (intro w hSw; (try dsimp only at hSw); go_simp <;> with_reducible rfl); (try simp only [Act.put, List.setIfInBounds_toArray, List.set_cons_zero, List.set_cons_succ])); (refine takeL 2 (v := ?_) rfl (by kernel_rfl) (by kernel_rfl) (by kernel_rfl) (fun _ _ _ h => h) (by rfl) hHeld ?_ ?_; rotate_left; focus (intro w hSw; (try dsimp only at hSw); go_simp <;> with_reducible rfl); (try simp only [Act.put, List.setIfInBounds_toArray, List.set_cons_zero, List.set_cons_succ])); (refine takeL 3 (v := ?_) rfl (by kernel_rfl) (by kernel_rfl) (by kernel_rfl) (fun _ _ _ h => h) (by rfl) hHeld ?_ ?_; rotate_left; focus (intro w hSw; (try dsimp only at hSw); go_simp <;> with_reducible rfl); (try simp only [Act.put, List.setIfInBounds_toArray, List.set_cons_zero, List.set_cons_succ])); (refine takeL 4 (v := ?_) rfl (by kernel_rfl) (by kernel_rfl) (by kernel_rfl) (fun _ _ _ h => h) (by rfl) hHeld ?_ ?_; rotate_left; focus (intro w hSw; (try dsimp only at hSw); go_simp <;> with_reducible rfl); (try simp only [Act.put, List.setIfInBounds_toArray, List.set_cons_zero, List.set_cons_succ])); (refine takeL 5 (v := ?_) rfl (by kernel_rfl) (by kernel_rfl) (by kernel_rfl) (fun _ _ _ h => h) (by rfl) hHeld ?_ ?_; rotate_left; focus (intro w hSw; (try dsimp only at hSw); go_simp <;> with_reducible rfl); (try simp only [Act.put, List.setIfInBounds_toArray, List.set_cons_zero, List.set_cons_succ])); (refine takeL 6 (v := ?_) rfl (by kernel_rfl) (by kernel_rfl) (by kernel_rfl) (fun _ _ _ h => h) (by rfl) hHeld ?_ ?_; rotate_left; focus (intro w hSw; (try dsimp only at hSw); go_simp <;> with_reducible rfl); (try simp only [Act.put, List.setIfInBounds_toArray, List.set_cons_zero, List.set_cons_succ])); (refine takeL 7 (v := ?_) rfl (by kernel_rfl) (by kernel_rfl) (by kernel_rfl) (fun _ _ _ h => h) (by rfl) hHeld ?_ ?_; rotate_left; focus (intro w hSw; (try dsimp only at hSw); go_simp <;> with_reducible rfl); (try simp only [Act.put, List.setIfInBounds_toArray, List.set_cons_zero, List.set_cons_succ])); (refine takeL 8 (v := ?_) rfl (by kernel_rfl) (by kernel_rfl) (by kernel_rfl) (fun _ _ _ h => h) (by rfl) hHeld ?_ ?_; rotate_left; focus (intro w hSw; (try dsimp only at hSw); go_simp <;> with_reducible rfl); (try simp only [Act.put, List.setIfInBounds_toArray, List.set_cons_zero, List.set_cons_succ])))
  dsimp only [Act.put]
  simp only [List.setIfInBounds_toArray, List.set_cons_zero, List.set_cons_succ]
  refine callL 9 (f := 24) (vs := #[.int .i64 a, .int .i64 u]) rfl (by kernel_rfl) (by rfl) (by go_simp) ?_
  refine (cb _).mono ?_
  rintro e w4 ⟨rfl, hb4⟩
  have M4 := (MW.of_block (w' := W.drew) rfl rfl).over hb4
  have hB4 : Below w.heap.size w w4 := HB.out.drew.trans (hb4.mono HB.out.drew.size)
  have c4 := M4.c1
  rw [← HQ.out.1] at c4
  refine ⟨_, rfl, c4, ?_⟩
  have HU := srows_new w4 (ec (a, d)) 32 (ec_len _)
  have b5 := below1 w4 (.cells #[.int .i64 (a : Int), .int .i64 (d : Int)] 32)
  have M5 := M4.over b5
  have c5 := M5.c1
  rw [← HQ.out.1] at c5
  have r5 := M5.rows
  rw [← HQ.out.1] at r5
  have hB5 := hB4.trans (b5.mono hB4.size)
  refine newL 10 (w4.alloc (.cells #[.int .i64 (a : Int), .int .i64 (d : Int)] 32)) (.slice (some ⟨w4.heap.size, 0, none⟩) 1 1) rfl (by kernel_rfl) (by rfl) (by go_simp) c5 ?_
  have hZ : (hs.map ec).take k ++ (ec (a, d) :: (hs.map ec).drop k) = (hs.take k ++ (a, d) :: hs.drop k).map ec := by
    rw [List.map_append, List.map_cons, List.map_take, List.map_drop]
  have cr := rep_fill (i := k) (j := k) r5 HU (Nat.ne_of_gt M4.ltg) (ecs_one [(a, d)] _ (by simp)) (ecs_one _) (by have := HQ.out; omega) HQ.out.2.2.2.2.1 HQ.out.2.2.2.2.2.1 hZ
  obtain ⟨zz, hzz⟩ : ∃ zz, zz = (hs.take k ++ (a, d) :: hs.drop k).length := ⟨_, rfl⟩
  rw [List.length_map, ← hzz] at cr
  refine callL 11 (f := 40) (vs := #[.slice (some ⟨g, 0, none⟩) q cap, .int .i64 k, .int .i64 k, .slice (some ⟨w4.heap.size, 0, none⟩) 1 1]) rfl (by kernel_rfl) (by rfl) (by go_simp) ?_
  refine cr.mono ?_
  rintro e w6 ⟨g', cap', rfl, i1, i2, i3⟩
  have c6 : w6.cell? ⟨p, 1, none⟩ = some (.slice (some ⟨g, 0, none⟩) q cap) := by
    rw [HQ.out.1]
    exact (M5.box.kept i3 M5.ne).cell 1 _ rfl
  have f6 : w6.frozen? ⟨p, 1, none⟩ = false := (M5.box.kept i3 M5.ne).frozen 1
  rw [hzz] at i1
  refine ⟨_, rfl, c6, ?_⟩
  have hend := map_stored (hs := hs.take k ++ (a, d) :: hs.drop k) M5 hB5 i1 i2 i3
  rw [← hzz] at hend
  have HE : Hid (Nice 0 (hs.take k ++ (a, d) :: hs.drop k) → Within n (hs.take k ++ (a, d) :: hs.drop k) → MapTo w p g n (hs.take k ++ (a, d) :: hs.drop k) (w6.setCell ⟨p, 1, none⟩ (.slice (some ⟨g', 0, none⟩) zz cap'))) := hend
  clear hend hzz hZ r5 HU b5 i1 i2 i3 cr M5 M4 MW hB5 hB4 hb4 c5 c4 cb
  ((refine takeL 12 (v := ?_) rfl (by kernel_rfl) (by kernel_rfl) (by kernel_rfl) (fun _ _ _ h => h) (by rfl) c6 ?_ ?_; rotate_left; focus (intro w hSw; (try dsimp only at hSw); go_simp <;> with_reducible rfl); (try simp only [Act.put, List.setIfInBounds_toArray, List.set_cons_zero, List.set_cons_succ])); (refine takeL 13 (v := ?_) rfl (by kernel_rfl) (by kernel_rfl) (by kernel_rfl) (fun _ _ _ h => h) (by rfl) c6 ?_ ?_; rotate_left; focus (intro w hSw; (try dsimp only at hSw); go_simp <;> with_reducible rfl); (try simp only [Act.put, List.setIfInBounds_toArray, List.set_cons_zero, List.set_cons_succ])))
  refine doneL (by kernel_rfl) ?_
  dsimp only [Act.put]
  unfold Oper.wp
  go_simp
  go_wp2_with fail
  refine bodyPost_end (results_none rfl _ _ _) rfl ?_
  have hq := HQ.out
  have hfin := HM.out.2
  have he := HE.out
  rw [← hq.2.2.2.1] at hfin
  rw [hfin.2] at he
  exact ⟨rfl, he hfin.1.1 hfin.1.2.1⟩

set_option maxRecDepth 4000 in
set_option maxHeartbeats 4000000 in
theorem fill_01 {w : World} {p g n cap : Nat} {hs : List (Nat × Nat)} (M : MapIs w p g n cap hs) (a c k : Nat) (hc : 1 ≤ c) (han : a + c ≤ n) (hU : Upto hs a k) (hk0 : k = 0) {z : Nat × Nat} (hz : hs[k]? = some z) (hza : z.1 = a + c) {Zs : List (Nat × Nat)} (hZs : hs.take (k) ++ (a, (z.1 + z.2) - a) :: hs.drop (k + 1) = Zs) (hF : Filled hs Zs n a c) :
    Calls Try.prog 35 #[.pointer (some ⟨p, 0, none⟩), .int .i64 k, .agg #[.int .i64 a, .int .i64 c]] w fun e w' => e = .returned (.tuple #[]) ∧ MapTo w p g n Zs w' := by
  obtain ⟨q, hq⟩ : ∃ q, q = hs.length := ⟨_, rfl⟩
  have hkl : k ≤ q := by rw [hq]; exact hU.1
  have hfew := M.few
  have hn2 := M.n2
  rw [← hq] at hfew
  have hb1 := below1 w (.cells #[.int .i64 a, .int .i64 c] 32)
  have B0 := box_new w #[.int .i64 a, .int .i64 c] 32
  have x0 := above_cell (B0.cell 0 _ rfl)
  have x1 := above_cell (B0.cell 1 _ rfl)
  obtain ⟨u, hu⟩ : ∃ u, u = a + c := ⟨_, rfl⟩
  have ca := fun W => end_any a c u W (by rw [IntKind.wrap_i64]; omega)
  obtain ⟨f, hf⟩ : ∃ f, f = k := ⟨_, rfl⟩
  obtain ⟨t, ht⟩ : ∃ t, t = k + 1 := ⟨_, rfl⟩
  have hk1 : ¬ (0 : Int) < (k : Int) := by omega
  have hzn := M.within z (List.mem_of_getElem? hz)
  have hkq : k < q := by rw [hq]; exact (List.getElem?_eq_some_iff.1 hz).1
  have hkqI : (k : Int) < (q : Int) := by omega
  have hzI : (u : Int) = (z.1 : Int) := by omega
  obtain ⟨ze, hze⟩ : ∃ ze, ze = z.1 + z.2 := ⟨_, rfl⟩
  have cz := fun W => end_any z.1 z.2 ze W (by rw [IntKind.wrap_i64]; omega)
  have hwk2 : IntKind.i64.wrap ((k : Int) + 1) = (t : Int) := by rw [IntKind.wrap_i64]; omega
  obtain ⟨d, hd⟩ : ∃ d, d = (z.1 + z.2) - a := ⟨_, rfl⟩
  have cb := fun W => between_any a ze d W (by rw [IntKind.wrap_i64]; omega)
  have HQ : Hid (q = hs.length ∧ k = k ∧ t = k + 1 ∧ d = (z.1 + z.2) - a ∧ k ≤ t ∧ t ≤ q ∧ q ≤ 4096) := ⟨hq, by omega, by omega, hd, by omega, by omega, by omega⟩
  have HM : Hid (MapIs w p g n cap hs ∧ Filled hs Zs n a c ∧ hs.take (k) ++ (a, (z.1 + z.2) - a) :: hs.drop (k + 1) = Zs) := ⟨M, hF, hZs⟩
  have HB1 : Hid (Below w.heap.size w (w.alloc (.cells #[.int .i64 a, .int .i64 c] 32))) := hb1
  have HZ : Hid (hs[k]? = some z) := hz
  clear M hU hF hZs hq hd hf ht hfew hn2 hb1 B0 hu hc han hzn hz hza hze hk0
  go_enter Try.func35, Try.ntmps35
  go_wp2_with fail
  refine wp_region_above (by kernel_rfl) (by kernel_rfl) ?_
  intro hne
  repeat (go_big_quiet_step ((go_at_call 34; exact above_of (ca _))))
  refine wpQuiet_nil ?_
  rintro _ ⟨kq, rfl⟩
  have hbq := HB1.out.trans (kq.is.mono HB1.out.size)
  obtain ⟨W, hW⟩ : ∃ W, W = kq.it := ⟨_, rfl⟩
  rw [← hW] at hbq
  rw [← hW]
  clear hW x0 x1 ca hne HB1 kq
  have MW := HM.out.1.over hbq
  have c1 := MW.c1
  rw [← HQ.out.1] at c1
  have HB : Hid (Below w.heap.size w W) := hbq
  obtain ⟨z0, z1⟩ := row_cells MW.rows HZ.out
  clear MW hbq
  go_wp2_with fail
  refine (cz _).mono ?_
  rintro e w3 ⟨rfl, hb⟩
  have hbq := HB.out.trans (hb.mono HB.out.size)
  have MW := HM.out.1.over hbq
  have c1 := MW.c1
  rw [← HQ.out.1] at c1
  have HB : Hid (Below w.heap.size w w3) := hbq
  clear MW hbq hb cz z0 z1
  go_wp2_with fail
  have MW := HM.out.1.over HB.out
  refine wp_region_held_then (fun w' => w'.cell? ⟨p, 1, none⟩ = some (.slice (some ⟨g, 0, none⟩) q cap)) _ (by kernel_rfl) rfl (by kernel_rfl) ?_
  have hHeld : (fun w' : World => w'.cell? ⟨p, 1, none⟩ = some (.slice (some ⟨g, 0, none⟩) q cap)) w3.drew := c1
  dsimp only [List.dropLast, List.length, List.getLast]
  ((refine takeL 0 (v := ?_) rfl (by kernel_rfl) (by kernel_rfl) (by kernel_rfl) (fun _ _ _ h => h) (by rfl) hHeld ?_ ?_; rotate_left; focus (intro w hSw; (try dsimp only at hSw); go_simp <;> with_reducible rfl); (try simp only [Act.put, List.setIfInBounds_toArray, List.set_cons_zero, List.set_cons_succ])); (refine takeL 1 (v := ?_) rfl (by kernel_rfl) (by kernel_rfl) (by kernel_rfl) (fun _ _ _ h => h) (by rfl) hHeld ?_ ?_; rotate_left; focus (intro w hSw; (try dsimp only at hSw); go_simp <;> with_reducible rfl); (try simp only [Act.put, List.setIfInBounds_toArray, List.set_cons_zero, List.set_cons_succ])); (refine takeL 2 (v := ?_) rfl (by kernel_rfl) (by kernel_rfl) (by kernel_rfl) (fun _ _ _ h => h) (by rfl) hHeld ?_ ?_; rotate_left; focus (intro w hSw; (try dsimp only at hSw); go_simp <;> with_reducible rfl); (try simp only [Act.put, List.setIfInBounds_toArray, List.set_cons_zero, List.set_cons_succ])); (refine takeL 3 (v := ?_) rfl (by kernel_rfl) (by kernel_rfl) (by kernel_rfl) (fun _ _ _ h => h) (by rfl) hHeld ?_ ?_; rotate_left; focus (intro w hSw; (try dsimp only at hSw); go_simp <;> with_reducible rfl); (try simp only [Act.put, List.setIfInBounds_toArray, List.set_cons_zero, List.set_cons_succ])); (refine takeL 4 (v := ?_) rfl (by kernel_rfl) (by kernel_rfl) (by kernel_rfl) (fun _ _ _ h => h) (by rfl) hHeld ?_ ?_; rotate_left; focus (intro w hSw; (try dsimp only at hSw); go_simp <;> with_reducible rfl); (try simp only [Act.put, List.setIfInBounds_toArray, List.set_cons_zero, List.set_cons_succ])); (refine takeL 5 (v := ?_) rfl (by kernel_rfl) (by kernel_rfl) (by kernel_rfl) (fun _ _ _ h => h) (by rfl) hHeld ?_ ?_; rotate_left; focus (intro w hSw; (try dsimp only at hSw); go_simp <;> with_reducible rfl); (try simp only [Act.put, List.setIfInBounds_toArray, List.set_cons_zero, List.set_cons_succ])); (refine takeL 6 (v := ?_) rfl (by kernel_rfl) (by kernel_rfl) (by kernel_rfl) (fun _ _ _ h => h) (by rfl) hHeld ?_ ?_; rotate_left; focus (intro w hSw; (try dsimp only at hSw); go_simp <;> with_reducible rfl); (try simp only [Act.put, List.setIfInBounds_toArray, List.set_cons_zero, List.set_cons_succ])); (refine takeL 7 (v := ?_) rfl (by kernel_rfl) (by kernel_rfl) (by kernel_rfl) (fun _ _ _ h => h) (by rfl) hHeld ?_ ?_; rotate_left; focus (intro w hSw; (try dsimp only at hSw); go_simp <;> with_reducible rfl); (try simp only [Act.put, List.setIfInBounds_toArray, List.set_cons_zero, List.set_cons_succ])); (refine takeL 8 (v := ?_) rfl (by kernel_rfl) (by kernel_rfl) (by kernel_rfl) (fun _ _ _ h => h) (by rfl) hHeld ?_ ?_; rotate_left; focus (intro w hSw; (try dsimp only at hSw); go_simp <;> with_reducible rfl); (try simp only [Act.put, List.setIfInBounds_toArray, List.set_cons_zero, List.set_cons_succ])))
  dsimp only [Act.put]
  simp only [List.setIfInBounds_toArray, List.set_cons_zero, List.set_cons_succ]
  refine callL 9 (f := 24) (vs := #[.int .i64 a, .int .i64 ze]) rfl (by kernel_rfl) (by rfl) (by go_simp) ?_
  refine (cb _).mono ?_
  rintro e w4 ⟨rfl, hb4⟩
  have M4 := (MW.of_block (w' := w3.drew) rfl rfl).over hb4
  have hB4 : Below w.heap.size w w4 := HB.out.drew.trans (hb4.mono HB.out.drew.size)
  have c4 := M4.c1
  rw [← HQ.out.1] at c4
  refine ⟨_, rfl, c4, ?_⟩
  have HU := srows_new w4 (ec (a, d)) 32 (ec_len _)
  have b5 := below1 w4 (.cells #[.int .i64 (a : Int), .int .i64 (d : Int)] 32)
  have M5 := M4.over b5
  have c5 := M5.c1
  rw [← HQ.out.1] at c5
  have r5 := M5.rows
  rw [← HQ.out.1] at r5
  have hB5 := hB4.trans (b5.mono hB4.size)
  refine newL 10 (w4.alloc (.cells #[.int .i64 (a : Int), .int .i64 (d : Int)] 32)) (.slice (some ⟨w4.heap.size, 0, none⟩) 1 1) rfl (by kernel_rfl) (by rfl) (by go_simp) c5 ?_
  have hZ : (hs.map ec).take k ++ (ec (a, d) :: (hs.map ec).drop t) = (hs.take k ++ (a, d) :: hs.drop t).map ec := by
    rw [List.map_append, List.map_cons, List.map_take, List.map_drop]
  have cr := rep_fill (i := k) (j := t) r5 HU (Nat.ne_of_gt M4.ltg) (ecs_one [(a, d)] _ (by simp)) (ecs_one _) (by have := HQ.out; omega) HQ.out.2.2.2.2.1 HQ.out.2.2.2.2.2.1 hZ
  obtain ⟨zz, hzz⟩ : ∃ zz, zz = (hs.take k ++ (a, d) :: hs.drop t).length := ⟨_, rfl⟩
  rw [List.length_map, ← hzz] at cr
  refine callL 11 (f := 40) (vs := #[.slice (some ⟨g, 0, none⟩) q cap, .int .i64 k, .int .i64 t, .slice (some ⟨w4.heap.size, 0, none⟩) 1 1]) rfl (by kernel_rfl) (by rfl) (by go_simp) ?_
  refine cr.mono ?_
  rintro e w6 ⟨g', cap', rfl, i1, i2, i3⟩
  have c6 : w6.cell? ⟨p, 1, none⟩ = some (.slice (some ⟨g, 0, none⟩) q cap) := by
    rw [HQ.out.1]
    exact (M5.box.kept i3 M5.ne).cell 1 _ rfl
  have f6 : w6.frozen? ⟨p, 1, none⟩ = false := (M5.box.kept i3 M5.ne).frozen 1
  rw [hzz] at i1
  refine ⟨_, rfl, c6, ?_⟩
  have hend := map_stored (hs := hs.take k ++ (a, d) :: hs.drop t) M5 hB5 i1 i2 i3
  rw [← hzz] at hend
  have HE : Hid (Nice 0 (hs.take k ++ (a, d) :: hs.drop t) → Within n (hs.take k ++ (a, d) :: hs.drop t) → MapTo w p g n (hs.take k ++ (a, d) :: hs.drop t) (w6.setCell ⟨p, 1, none⟩ (.slice (some ⟨g', 0, none⟩) zz cap'))) := hend
  clear hend hzz hZ r5 HU b5 i1 i2 i3 cr M5 M4 MW hB5 hB4 hb4 c5 c4 cb
  ((refine takeL 12 (v := ?_) rfl (by kernel_rfl) (by kernel_rfl) (by kernel_rfl) (fun _ _ _ h => h) (by rfl) c6 ?_ ?_; rotate_left; focus (intro w hSw; (try dsimp only at hSw); go_simp <;> with_reducible rfl); (try simp only [Act.put, List.setIfInBounds_toArray, List.set_cons_zero, List.set_cons_succ])); (refine takeL 13 (v := ?_) rfl (by kernel_rfl) (by kernel_rfl) (by kernel_rfl) (fun _ _ _ h => h) (by rfl) c6 ?_ ?_; rotate_left; focus (intro w hSw; (try dsimp only at hSw); go_simp <;> with_reducible rfl); (try simp only [Act.put, List.setIfInBounds_toArray, List.set_cons_zero, List.set_cons_succ])))
  refine doneL (by kernel_rfl) ?_
  dsimp only [Act.put]
  unfold Oper.wp
  go_simp
  go_wp2_with fail
  refine bodyPost_end (results_none rfl _ _ _) rfl ?_
  have hq := HQ.out
  have hfin := HM.out.2
  have he := HE.out
  rw [← hq.2.2.2.1, ← hq.2.2.1] at hfin
  rw [hfin.2] at he
  exact ⟨rfl, he hfin.1.1 hfin.1.2.1⟩

set_option maxRecDepth 4000 in
set_option maxHeartbeats 4000000 in
theorem fill_02 {w : World} {p g n cap : Nat} {hs : List (Nat × Nat)} (M : MapIs w p g n cap hs) (a c k : Nat) (hc : 1 ≤ c) (han : a + c ≤ n) (hU : Upto hs a k) (hk0 : k = 0) {z : Nat × Nat} (hz : hs[k]? = some z) (hza : z.1 ≠ a + c) {Zs : List (Nat × Nat)} (hZs : hs.take (k) ++ (a, (a + c) - a) :: hs.drop (k) = Zs) (hF : Filled hs Zs n a c) :
    Calls Try.prog 35 #[.pointer (some ⟨p, 0, none⟩), .int .i64 k, .agg #[.int .i64 a, .int .i64 c]] w fun e w' => e = .returned (.tuple #[]) ∧ MapTo w p g n Zs w' := by
  obtain ⟨q, hq⟩ : ∃ q, q = hs.length := ⟨_, rfl⟩
  have hkl : k ≤ q := by rw [hq]; exact hU.1
  have hfew := M.few
  have hn2 := M.n2
  rw [← hq] at hfew
  have hb1 := below1 w (.cells #[.int .i64 a, .int .i64 c] 32)
  have B0 := box_new w #[.int .i64 a, .int .i64 c] 32
  have x0 := above_cell (B0.cell 0 _ rfl)
  have x1 := above_cell (B0.cell 1 _ rfl)
  obtain ⟨u, hu⟩ : ∃ u, u = a + c := ⟨_, rfl⟩
  have ca := fun W => end_any a c u W (by rw [IntKind.wrap_i64]; omega)
  obtain ⟨f, hf⟩ : ∃ f, f = k := ⟨_, rfl⟩
  obtain ⟨t, ht⟩ : ∃ t, t = k := ⟨_, rfl⟩
  have hk1 : ¬ (0 : Int) < (k : Int) := by omega
  have hzn := M.within z (List.mem_of_getElem? hz)
  have hkq : k < q := by rw [hq]; exact (List.getElem?_eq_some_iff.1 hz).1
  have hkqI : (k : Int) < (q : Int) := by omega
  have hzI : ¬ (z.1 : Int) = (u : Int) := by omega
  obtain ⟨d, hd⟩ : ∃ d, d = (a + c) - a := ⟨_, rfl⟩
  have cb := fun W => between_any a u d W (by rw [IntKind.wrap_i64]; omega)
  have HQ : Hid (q = hs.length ∧ k = k ∧ k = k ∧ d = (a + c) - a ∧ k ≤ k ∧ k ≤ q ∧ q ≤ 4096) := ⟨hq, by omega, by omega, hd, by omega, by omega, by omega⟩
  have HM : Hid (MapIs w p g n cap hs ∧ Filled hs Zs n a c ∧ hs.take (k) ++ (a, (a + c) - a) :: hs.drop (k) = Zs) := ⟨M, hF, hZs⟩
  have HB1 : Hid (Below w.heap.size w (w.alloc (.cells #[.int .i64 a, .int .i64 c] 32))) := hb1
  have HZ : Hid (hs[k]? = some z) := hz
  clear M hU hF hZs hq hd hf ht hfew hn2 hb1 B0 hu hc han hzn hz hza hk0
  go_enter Try.func35, Try.ntmps35
  go_wp2_with fail
  refine wp_region_above (by kernel_rfl) (by kernel_rfl) ?_
  intro hne
  repeat (go_big_quiet_step ((go_at_call 34; exact above_of (ca _))))
  refine wpQuiet_nil ?_
  rintro _ ⟨kq, rfl⟩
  have hbq := HB1.out.trans (kq.is.mono HB1.out.size)
  obtain ⟨W, hW⟩ : ∃ W, W = kq.it := ⟨_, rfl⟩
  rw [← hW] at hbq
  rw [← hW]
  clear hW x0 x1 ca hne HB1 kq
  have MW := HM.out.1.over hbq
  have c1 := MW.c1
  rw [← HQ.out.1] at c1
  have HB : Hid (Below w.heap.size w W) := hbq
  obtain ⟨z0, z1⟩ := row_cells MW.rows HZ.out
  clear MW hbq
  go_wp2_with fail
  have MW := HM.out.1.over HB.out
  refine wp_region_held_then (fun w' => w'.cell? ⟨p, 1, none⟩ = some (.slice (some ⟨g, 0, none⟩) q cap)) _ (by kernel_rfl) rfl (by kernel_rfl) ?_
  have hHeld : (fun w' : World => w'.cell? ⟨p, 1, none⟩ = some (.slice (some ⟨g, 0, none⟩) q cap)) W.drew := c1
  dsimp only [List.dropLast, List.length, List.getLast]
  ((refine takeL 0 (v := ?_) rfl (by kernel_rfl) (by kernel_rfl) (by kernel_rfl) (fun _ _ _ h => h) (by rfl) hHeld ?_ ?_; rotate_left; focus (intro w hSw; (try dsimp only at hSw); go_simp <;> with_reducible rfl); (try simp only [Act.put, List.setIfInBounds_toArray, List.set_cons_zero, List.set_cons_succ])); (refine takeL 1 (v := ?_) rfl (by kernel_rfl) (by kernel_rfl) (by kernel_rfl) (fun _ _ _ h => h) (by rfl) hHeld ?_ ?_; rotate_left; focus (intro w hSw; (try dsimp only at hSw); go_simp <;> with_reducible rfl); (try simp only [Act.put, List.setIfInBounds_toArray, List.set_cons_zero, List.set_cons_succ])); (refine takeL 2 (v := ?_) rfl (by kernel_rfl) (by kernel_rfl) (by kernel_rfl) (fun _ _ _ h => h) (by rfl) hHeld ?_ ?_; rotate_left; focus (intro w hSw; (try dsimp only at hSw); go_simp <;> with_reducible rfl); (try simp only [Act.put, List.setIfInBounds_toArray, List.set_cons_zero, List.set_cons_succ])); (refine takeL 3 (v := ?_) rfl (by kernel_rfl) (by kernel_rfl) (by kernel_rfl) (fun _ _ _ h => h) (by rfl) hHeld ?_ ?_; rotate_left; focus (intro w hSw; (try dsimp only at hSw); go_simp <;> with_reducible rfl); (try simp only [Act.put, List.setIfInBounds_toArray, List.set_cons_zero, List.set_cons_succ])); (refine takeL 4 (v := ?_) rfl (by kernel_rfl) (by kernel_rfl) (by kernel_rfl) (fun _ _ _ h => h) (by rfl) hHeld ?_ ?_; rotate_left; focus (intro w hSw; (try dsimp only at hSw); go_simp <;> with_reducible rfl); (try simp only [Act.put, List.setIfInBounds_toArray, List.set_cons_zero, List.set_cons_succ])); (refine takeL 5 (v := ?_) rfl (by kernel_rfl) (by kernel_rfl) (by kernel_rfl) (fun _ _ _ h => h) (by rfl) hHeld ?_ ?_; rotate_left; focus (intro w hSw; (try dsimp only at hSw); go_simp <;> with_reducible rfl); (try simp only [Act.put, List.setIfInBounds_toArray, List.set_cons_zero, List.set_cons_succ])); (refine takeL 6 (v := ?_) rfl (by kernel_rfl) (by kernel_rfl) (by kernel_rfl) (fun _ _ _ h => h) (by rfl) hHeld ?_ ?_; rotate_left; focus (intro w hSw; (try dsimp only at hSw); go_simp <;> with_reducible rfl); (try simp only [Act.put, List.setIfInBounds_toArray, List.set_cons_zero, List.set_cons_succ])); (refine takeL 7 (v := ?_) rfl (by kernel_rfl) (by kernel_rfl) (by kernel_rfl) (fun _ _ _ h => h) (by rfl) hHeld ?_ ?_; rotate_left; focus (intro w hSw; (try dsimp only at hSw); go_simp <;> with_reducible rfl); (try simp only [Act.put, List.setIfInBounds_toArray, List.set_cons_zero, List.set_cons_succ])); (refine takeL 8 (v := ?_) rfl (by kernel_rfl) (by kernel_rfl) (by kernel_rfl) (fun _ _ _ h => h) (by rfl) hHeld ?_ ?_; rotate_left; focus (intro w hSw; (try dsimp only at hSw); go_simp <;> with_reducible rfl); (try simp only [Act.put, List.setIfInBounds_toArray, List.set_cons_zero, List.set_cons_succ])))
  dsimp only [Act.put]
  simp only [List.setIfInBounds_toArray, List.set_cons_zero, List.set_cons_succ]
  refine callL 9 (f := 24) (vs := #[.int .i64 a, .int .i64 u]) rfl (by kernel_rfl) (by rfl) (by go_simp) ?_
  refine (cb _).mono ?_
  rintro e w4 ⟨rfl, hb4⟩
  have M4 := (MW.of_block (w' := W.drew) rfl rfl).over hb4
  have hB4 : Below w.heap.size w w4 := HB.out.drew.trans (hb4.mono HB.out.drew.size)
  have c4 := M4.c1
  rw [← HQ.out.1] at c4
  refine ⟨_, rfl, c4, ?_⟩
  have HU := srows_new w4 (ec (a, d)) 32 (ec_len _)
  have b5 := below1 w4 (.cells #[.int .i64 (a : Int), .int .i64 (d : Int)] 32)
  have M5 := M4.over b5
  have c5 := M5.c1
  rw [← HQ.out.1] at c5
  have r5 := M5.rows
  rw [← HQ.out.1] at r5
  have hB5 := hB4.trans (b5.mono hB4.size)
  refine newL 10 (w4.alloc (.cells #[.int .i64 (a : Int), .int .i64 (d : Int)] 32)) (.slice (some ⟨w4.heap.size, 0, none⟩) 1 1) rfl (by kernel_rfl) (by rfl) (by go_simp) c5 ?_
  have hZ : (hs.map ec).take k ++ (ec (a, d) :: (hs.map ec).drop k) = (hs.take k ++ (a, d) :: hs.drop k).map ec := by
    rw [List.map_append, List.map_cons, List.map_take, List.map_drop]
  have cr := rep_fill (i := k) (j := k) r5 HU (Nat.ne_of_gt M4.ltg) (ecs_one [(a, d)] _ (by simp)) (ecs_one _) (by have := HQ.out; omega) HQ.out.2.2.2.2.1 HQ.out.2.2.2.2.2.1 hZ
  obtain ⟨zz, hzz⟩ : ∃ zz, zz = (hs.take k ++ (a, d) :: hs.drop k).length := ⟨_, rfl⟩
  rw [List.length_map, ← hzz] at cr
  refine callL 11 (f := 40) (vs := #[.slice (some ⟨g, 0, none⟩) q cap, .int .i64 k, .int .i64 k, .slice (some ⟨w4.heap.size, 0, none⟩) 1 1]) rfl (by kernel_rfl) (by rfl) (by go_simp) ?_
  refine cr.mono ?_
  rintro e w6 ⟨g', cap', rfl, i1, i2, i3⟩
  have c6 : w6.cell? ⟨p, 1, none⟩ = some (.slice (some ⟨g, 0, none⟩) q cap) := by
    rw [HQ.out.1]
    exact (M5.box.kept i3 M5.ne).cell 1 _ rfl
  have f6 : w6.frozen? ⟨p, 1, none⟩ = false := (M5.box.kept i3 M5.ne).frozen 1
  rw [hzz] at i1
  refine ⟨_, rfl, c6, ?_⟩
  have hend := map_stored (hs := hs.take k ++ (a, d) :: hs.drop k) M5 hB5 i1 i2 i3
  rw [← hzz] at hend
  have HE : Hid (Nice 0 (hs.take k ++ (a, d) :: hs.drop k) → Within n (hs.take k ++ (a, d) :: hs.drop k) → MapTo w p g n (hs.take k ++ (a, d) :: hs.drop k) (w6.setCell ⟨p, 1, none⟩ (.slice (some ⟨g', 0, none⟩) zz cap'))) := hend
  clear hend hzz hZ r5 HU b5 i1 i2 i3 cr M5 M4 MW hB5 hB4 hb4 c5 c4 cb
  ((refine takeL 12 (v := ?_) rfl (by kernel_rfl) (by kernel_rfl) (by kernel_rfl) (fun _ _ _ h => h) (by rfl) c6 ?_ ?_; rotate_left; focus (intro w hSw; (try dsimp only at hSw); go_simp <;> with_reducible rfl); (try simp only [Act.put, List.setIfInBounds_toArray, List.set_cons_zero, List.set_cons_succ])); (refine takeL 13 (v := ?_) rfl (by kernel_rfl) (by kernel_rfl) (by kernel_rfl) (fun _ _ _ h => h) (by rfl) c6 ?_ ?_; rotate_left; focus (intro w hSw; (try dsimp only at hSw); go_simp <;> with_reducible rfl); (try simp only [Act.put, List.setIfInBounds_toArray, List.set_cons_zero, List.set_cons_succ])))
  refine doneL (by kernel_rfl) ?_
  dsimp only [Act.put]
  unfold Oper.wp
  go_simp
  go_wp2_with fail
  refine bodyPost_end (results_none rfl _ _ _) rfl ?_
  have hq := HQ.out
  have hfin := HM.out.2
  have he := HE.out
  rw [← hq.2.2.2.1] at hfin
  rw [hfin.2] at he
  exact ⟨rfl, he hfin.1.1 hfin.1.2.1⟩

set_option maxRecDepth 4000 in
set_option maxHeartbeats 4000000 in
theorem fill_10 {w : World} {p g n cap : Nat} {hs : List (Nat × Nat)} (M : MapIs w p g n cap hs) (a c k : Nat) (hc : 1 ≤ c) (han : a + c ≤ n) (hU : Upto hs a k) (hk0 : 0 < k) {y : Nat × Nat} (hy : hs[k - 1]? = some y) (hya : y.1 + y.2 = a) (hkq : k = hs.length) {Zs : List (Nat × Nat)} (hZs : hs.take (k - 1) ++ (y.1, (a + c) - y.1) :: hs.drop (k) = Zs) (hF : Filled hs Zs n a c) :
    Calls Try.prog 35 #[.pointer (some ⟨p, 0, none⟩), .int .i64 k, .agg #[.int .i64 a, .int .i64 c]] w fun e w' => e = .returned (.tuple #[]) ∧ MapTo w p g n Zs w' := by
  obtain ⟨q, hq⟩ : ∃ q, q = hs.length := ⟨_, rfl⟩
  have hkl : k ≤ q := by rw [hq]; exact hU.1
  have hfew := M.few
  have hn2 := M.n2
  rw [← hq] at hfew
  have hb1 := below1 w (.cells #[.int .i64 a, .int .i64 c] 32)
  have B0 := box_new w #[.int .i64 a, .int .i64 c] 32
  have x0 := above_cell (B0.cell 0 _ rfl)
  have x1 := above_cell (B0.cell 1 _ rfl)
  obtain ⟨u, hu⟩ : ∃ u, u = a + c := ⟨_, rfl⟩
  have ca := fun W => end_any a c u W (by rw [IntKind.wrap_i64]; omega)
  obtain ⟨f, hf⟩ : ∃ f, f = k - 1 := ⟨_, rfl⟩
  obtain ⟨t, ht⟩ : ∃ t, t = k := ⟨_, rfl⟩
  obtain ⟨kk, hkk⟩ : ∃ kk, kk = k - 1 := ⟨_, rfl⟩
  have hyn := M.within y (List.mem_of_getElem? hy)
  rw [← hkk] at hy
  obtain ⟨ye, hye⟩ : ∃ ye, ye = y.1 + y.2 := ⟨_, rfl⟩
  have cl := fun W => end_any y.1 y.2 ye W (by rw [IntKind.wrap_i64]; omega)
  have hwk : IntKind.i64.wrap ((k : Int) - 1) = (kk : Int) := by rw [IntKind.wrap_i64]; omega
  have hk1 : (0 : Int) < (k : Int) := by omega
  have hkkI : (kk : Int) < (q : Int) := by omega
  have hyI : (ye : Int) = (a : Int) := by omega
  have hkqI : ¬ (k : Int) < (q : Int) := by omega
  obtain ⟨d, hd⟩ : ∃ d, d = (a + c) - y.1 := ⟨_, rfl⟩
  have cb := fun W => between_any y.1 u d W (by rw [IntKind.wrap_i64]; have := M.nice.mem_ge y (List.mem_of_getElem? hy); omega)
  have HQ : Hid (q = hs.length ∧ kk = k - 1 ∧ k = k ∧ d = (a + c) - y.1 ∧ kk ≤ k ∧ k ≤ q ∧ q ≤ 4096) := ⟨hq, by omega, by omega, hd, by omega, by omega, by omega⟩
  have HM : Hid (MapIs w p g n cap hs ∧ Filled hs Zs n a c ∧ hs.take (k - 1) ++ (y.1, (a + c) - y.1) :: hs.drop (k) = Zs) := ⟨M, hF, hZs⟩
  have HB1 : Hid (Below w.heap.size w (w.alloc (.cells #[.int .i64 a, .int .i64 c] 32))) := hb1
  have HY : Hid (hs[kk]? = some y) := hy
  clear M hU hF hZs hq hd hf ht hfew hn2 hb1 B0 hu hc han hyn hy hye hkk hya hkq
  go_enter Try.func35, Try.ntmps35
  go_wp2_with fail
  refine wp_region_above (by kernel_rfl) (by kernel_rfl) ?_
  intro hne
  repeat (go_big_quiet_step ((go_at_call 34; exact above_of (ca _))))
  refine wpQuiet_nil ?_
  rintro _ ⟨kq, rfl⟩
  have hbq := HB1.out.trans (kq.is.mono HB1.out.size)
  obtain ⟨W, hW⟩ : ∃ W, W = kq.it := ⟨_, rfl⟩
  rw [← hW] at hbq
  rw [← hW]
  clear hW x0 x1 ca hne HB1 kq
  have MW := HM.out.1.over hbq
  have c1 := MW.c1
  rw [← HQ.out.1] at c1
  have HB : Hid (Below w.heap.size w W) := hbq
  obtain ⟨y0, y1⟩ := row_cells MW.rows HY.out
  clear MW hbq
  go_wp2_with fail
  refine (cl _).mono ?_
  rintro e w1 ⟨rfl, hb⟩
  have hbq := HB.out.trans (hb.mono HB.out.size)
  have MW := HM.out.1.over hbq
  have c1 := MW.c1
  rw [← HQ.out.1] at c1
  have HB : Hid (Below w.heap.size w w1) := hbq
  clear y0 y1
  obtain ⟨y0, y1⟩ := row_cells MW.rows HY.out
  clear MW hbq hb cl
  go_wp2_with fail
  go_quiet (fail)
  obtain ⟨w2, hw2⟩ : ∃ w2, w2 = w1.drewN nq := ⟨_, rfl⟩
  have hbq : Below w.heap.size w w2 := by rw [hw2]; exact ⟨HB.out.os, HB.out.tape, HB.out.output, HB.out.size, HB.out.block⟩
  rw [← hw2]
  clear hw2 c1 y0 y1
  have MW := HM.out.1.over hbq
  have c1 := MW.c1
  rw [← HQ.out.1] at c1
  have HB : Hid (Below w.heap.size w w2) := hbq
  clear MW hbq
  go_wp2_with fail
  have MW := HM.out.1.over HB.out
  refine wp_region_held_then (fun w' => w'.cell? ⟨p, 1, none⟩ = some (.slice (some ⟨g, 0, none⟩) q cap)) _ (by kernel_rfl) rfl (by kernel_rfl) ?_
  have hHeld : (fun w' : World => w'.cell? ⟨p, 1, none⟩ = some (.slice (some ⟨g, 0, none⟩) q cap)) w2.drew := c1
  dsimp only [List.dropLast, List.length, List.getLast]
  ((refine takeL 0 (v := ?_) rfl (by kernel_rfl) (by kernel_rfl) (by kernel_rfl) (fun _ _ _ h => h) (by rfl) hHeld ?_ ?_; rotate_left; focus (intro w hSw; (try dsimp only at hSw); go_simp <;> with_reducible rfl); (try simp only [Act.put, List.setIfInBounds_toArray, List.set_cons_zero, List.set_cons_succ])); (refine takeL 1 (v := ?_) rfl (by kernel_rfl) (by kernel_rfl) (by kernel_rfl) (fun _ _ _ h => h) (by rfl) hHeld ?_ ?_; rotate_left; focus (intro w hSw; (try dsimp only at hSw); go_simp <;> with_reducible rfl); (try simp only [Act.put, List.setIfInBounds_toArray, List.set_cons_zero, List.set_cons_succ])); (refine takeL 2 (v := ?_) rfl (by kernel_rfl) (by kernel_rfl) (by kernel_rfl) (fun _ _ _ h => h) (by rfl) hHeld ?_ ?_; rotate_left; focus (intro w hSw; (try dsimp only at hSw); go_simp <;> with_reducible rfl); (try simp only [Act.put, List.setIfInBounds_toArray, List.set_cons_zero, List.set_cons_succ])); (refine takeL 3 (v := ?_) rfl (by kernel_rfl) (by kernel_rfl) (by kernel_rfl) (fun _ _ _ h => h) (by rfl) hHeld ?_ ?_; rotate_left; focus (intro w hSw; (try dsimp only at hSw); go_simp <;> with_reducible rfl); (try simp only [Act.put, List.setIfInBounds_toArray, List.set_cons_zero, List.set_cons_succ])); (refine takeL 4 (v := ?_) rfl (by kernel_rfl) (by kernel_rfl) (by kernel_rfl) (fun _ _ _ h => h) (by rfl) hHeld ?_ ?_; rotate_left; focus (intro w hSw; (try dsimp only at hSw); go_simp <;> with_reducible rfl); (try simp only [Act.put, List.setIfInBounds_toArray, List.set_cons_zero, List.set_cons_succ])); (refine takeL 5 (v := ?_) rfl (by kernel_rfl) (by kernel_rfl) (by kernel_rfl) (fun _ _ _ h => h) (by rfl) hHeld ?_ ?_; rotate_left; focus (intro w hSw; (try dsimp only at hSw); go_simp <;> with_reducible rfl); (try simp only [Act.put, List.setIfInBounds_toArray, List.set_cons_zero, List.set_cons_succ])); (refine takeL 6 (v := ?_) rfl (by kernel_rfl) (by kernel_rfl) (by kernel_rfl) (fun _ _ _ h => h) (by rfl) hHeld ?_ ?_; rotate_left; focus (intro w hSw; (try dsimp only at hSw); go_simp <;> with_reducible rfl); (try simp only [Act.put, List.setIfInBounds_toArray, List.set_cons_zero, List.set_cons_succ])); (refine takeL 7 (v := ?_) rfl (by kernel_rfl) (by kernel_rfl) (by kernel_rfl) (fun _ _ _ h => h) (by rfl) hHeld ?_ ?_; rotate_left; focus (intro w hSw; (try dsimp only at hSw); go_simp <;> with_reducible rfl); (try simp only [Act.put, List.setIfInBounds_toArray, List.set_cons_zero, List.set_cons_succ])); (refine takeL 8 (v := ?_) rfl (by kernel_rfl) (by kernel_rfl) (by kernel_rfl) (fun _ _ _ h => h) (by rfl) hHeld ?_ ?_; rotate_left; focus (intro w hSw; (try dsimp only at hSw); go_simp <;> with_reducible rfl); (try simp only [Act.put, List.setIfInBounds_toArray, List.set_cons_zero, List.set_cons_succ])))
  dsimp only [Act.put]
  simp only [List.setIfInBounds_toArray, List.set_cons_zero, List.set_cons_succ]
  refine callL 9 (f := 24) (vs := #[.int .i64 y.1, .int .i64 u]) rfl (by kernel_rfl) (by rfl) (by go_simp) ?_
  refine (cb _).mono ?_
  rintro e w4 ⟨rfl, hb4⟩
  have M4 := (MW.of_block (w' := w2.drew) rfl rfl).over hb4
  have hB4 : Below w.heap.size w w4 := HB.out.drew.trans (hb4.mono HB.out.drew.size)
  have c4 := M4.c1
  rw [← HQ.out.1] at c4
  refine ⟨_, rfl, c4, ?_⟩
  have HU := srows_new w4 (ec (y.1, d)) 32 (ec_len _)
  have b5 := below1 w4 (.cells #[.int .i64 (y.1 : Int), .int .i64 (d : Int)] 32)
  have M5 := M4.over b5
  have c5 := M5.c1
  rw [← HQ.out.1] at c5
  have r5 := M5.rows
  rw [← HQ.out.1] at r5
  have hB5 := hB4.trans (b5.mono hB4.size)
  refine newL 10 (w4.alloc (.cells #[.int .i64 (y.1 : Int), .int .i64 (d : Int)] 32)) (.slice (some ⟨w4.heap.size, 0, none⟩) 1 1) rfl (by kernel_rfl) (by rfl) (by go_simp) c5 ?_
  have hZ : (hs.map ec).take kk ++ (ec (y.1, d) :: (hs.map ec).drop k) = (hs.take kk ++ (y.1, d) :: hs.drop k).map ec := by
    rw [List.map_append, List.map_cons, List.map_take, List.map_drop]
  have cr := rep_fill (i := kk) (j := k) r5 HU (Nat.ne_of_gt M4.ltg) (ecs_one [(y.1, d)] _ (by simp)) (ecs_one _) (by have := HQ.out; omega) HQ.out.2.2.2.2.1 HQ.out.2.2.2.2.2.1 hZ
  obtain ⟨zz, hzz⟩ : ∃ zz, zz = (hs.take kk ++ (y.1, d) :: hs.drop k).length := ⟨_, rfl⟩
  rw [List.length_map, ← hzz] at cr
  refine callL 11 (f := 40) (vs := #[.slice (some ⟨g, 0, none⟩) q cap, .int .i64 kk, .int .i64 k, .slice (some ⟨w4.heap.size, 0, none⟩) 1 1]) rfl (by kernel_rfl) (by rfl) (by go_simp) ?_
  refine cr.mono ?_
  rintro e w6 ⟨g', cap', rfl, i1, i2, i3⟩
  have c6 : w6.cell? ⟨p, 1, none⟩ = some (.slice (some ⟨g, 0, none⟩) q cap) := by
    rw [HQ.out.1]
    exact (M5.box.kept i3 M5.ne).cell 1 _ rfl
  have f6 : w6.frozen? ⟨p, 1, none⟩ = false := (M5.box.kept i3 M5.ne).frozen 1
  rw [hzz] at i1
  refine ⟨_, rfl, c6, ?_⟩
  have hend := map_stored (hs := hs.take kk ++ (y.1, d) :: hs.drop k) M5 hB5 i1 i2 i3
  rw [← hzz] at hend
  have HE : Hid (Nice 0 (hs.take kk ++ (y.1, d) :: hs.drop k) → Within n (hs.take kk ++ (y.1, d) :: hs.drop k) → MapTo w p g n (hs.take kk ++ (y.1, d) :: hs.drop k) (w6.setCell ⟨p, 1, none⟩ (.slice (some ⟨g', 0, none⟩) zz cap'))) := hend
  clear hend hzz hZ r5 HU b5 i1 i2 i3 cr M5 M4 MW hB5 hB4 hb4 c5 c4 cb
  ((refine takeL 12 (v := ?_) rfl (by kernel_rfl) (by kernel_rfl) (by kernel_rfl) (fun _ _ _ h => h) (by rfl) c6 ?_ ?_; rotate_left; focus (intro w hSw; (try dsimp only at hSw); go_simp <;> with_reducible rfl); (try simp only [Act.put, List.setIfInBounds_toArray, List.set_cons_zero, List.set_cons_succ])); (refine takeL 13 (v := ?_) rfl (by kernel_rfl) (by kernel_rfl) (by kernel_rfl) (fun _ _ _ h => h) (by rfl) c6 ?_ ?_; rotate_left; focus (intro w hSw; (try dsimp only at hSw); go_simp <;> with_reducible rfl); (try simp only [Act.put, List.setIfInBounds_toArray, List.set_cons_zero, List.set_cons_succ])))
  refine doneL (by kernel_rfl) ?_
  dsimp only [Act.put]
  unfold Oper.wp
  go_simp
  go_wp2_with fail
  refine bodyPost_end (results_none rfl _ _ _) rfl ?_
  have hq := HQ.out
  have hfin := HM.out.2
  have he := HE.out
  rw [← hq.2.2.2.1, ← hq.2.1] at hfin
  rw [hfin.2] at he
  exact ⟨rfl, he hfin.1.1 hfin.1.2.1⟩

set_option maxRecDepth 4000 in
set_option maxHeartbeats 4000000 in
theorem fill_11 {w : World} {p g n cap : Nat} {hs : List (Nat × Nat)} (M : MapIs w p g n cap hs) (a c k : Nat) (hc : 1 ≤ c) (han : a + c ≤ n) (hU : Upto hs a k) (hk0 : 0 < k) {y : Nat × Nat} (hy : hs[k - 1]? = some y) (hya : y.1 + y.2 = a) {z : Nat × Nat} (hz : hs[k]? = some z) (hza : z.1 = a + c) {Zs : List (Nat × Nat)} (hZs : hs.take (k - 1) ++ (y.1, (z.1 + z.2) - y.1) :: hs.drop (k + 1) = Zs) (hF : Filled hs Zs n a c) :
    Calls Try.prog 35 #[.pointer (some ⟨p, 0, none⟩), .int .i64 k, .agg #[.int .i64 a, .int .i64 c]] w fun e w' => e = .returned (.tuple #[]) ∧ MapTo w p g n Zs w' := by
  obtain ⟨q, hq⟩ : ∃ q, q = hs.length := ⟨_, rfl⟩
  have hkl : k ≤ q := by rw [hq]; exact hU.1
  have hfew := M.few
  have hn2 := M.n2
  rw [← hq] at hfew
  have hb1 := below1 w (.cells #[.int .i64 a, .int .i64 c] 32)
  have B0 := box_new w #[.int .i64 a, .int .i64 c] 32
  have x0 := above_cell (B0.cell 0 _ rfl)
  have x1 := above_cell (B0.cell 1 _ rfl)
  obtain ⟨u, hu⟩ : ∃ u, u = a + c := ⟨_, rfl⟩
  have ca := fun W => end_any a c u W (by rw [IntKind.wrap_i64]; omega)
  obtain ⟨f, hf⟩ : ∃ f, f = k - 1 := ⟨_, rfl⟩
  obtain ⟨t, ht⟩ : ∃ t, t = k + 1 := ⟨_, rfl⟩
  obtain ⟨kk, hkk⟩ : ∃ kk, kk = k - 1 := ⟨_, rfl⟩
  have hyn := M.within y (List.mem_of_getElem? hy)
  rw [← hkk] at hy
  obtain ⟨ye, hye⟩ : ∃ ye, ye = y.1 + y.2 := ⟨_, rfl⟩
  have cl := fun W => end_any y.1 y.2 ye W (by rw [IntKind.wrap_i64]; omega)
  have hwk : IntKind.i64.wrap ((k : Int) - 1) = (kk : Int) := by rw [IntKind.wrap_i64]; omega
  have hk1 : (0 : Int) < (k : Int) := by omega
  have hkkI : (kk : Int) < (q : Int) := by omega
  have hyI : (ye : Int) = (a : Int) := by omega
  have hzn := M.within z (List.mem_of_getElem? hz)
  have hkq : k < q := by rw [hq]; exact (List.getElem?_eq_some_iff.1 hz).1
  have hkqI : (k : Int) < (q : Int) := by omega
  have hzI : (u : Int) = (z.1 : Int) := by omega
  obtain ⟨ze, hze⟩ : ∃ ze, ze = z.1 + z.2 := ⟨_, rfl⟩
  have cz := fun W => end_any z.1 z.2 ze W (by rw [IntKind.wrap_i64]; omega)
  have hwk2 : IntKind.i64.wrap ((k : Int) + 1) = (t : Int) := by rw [IntKind.wrap_i64]; omega
  obtain ⟨d, hd⟩ : ∃ d, d = (z.1 + z.2) - y.1 := ⟨_, rfl⟩
  have cb := fun W => between_any y.1 ze d W (by rw [IntKind.wrap_i64]; have := M.nice.mem_ge y (List.mem_of_getElem? hy); omega)
  have HQ : Hid (q = hs.length ∧ kk = k - 1 ∧ t = k + 1 ∧ d = (z.1 + z.2) - y.1 ∧ kk ≤ t ∧ t ≤ q ∧ q ≤ 4096) := ⟨hq, by omega, by omega, hd, by omega, by omega, by omega⟩
  have HM : Hid (MapIs w p g n cap hs ∧ Filled hs Zs n a c ∧ hs.take (k - 1) ++ (y.1, (z.1 + z.2) - y.1) :: hs.drop (k + 1) = Zs) := ⟨M, hF, hZs⟩
  have HB1 : Hid (Below w.heap.size w (w.alloc (.cells #[.int .i64 a, .int .i64 c] 32))) := hb1
  have HY : Hid (hs[kk]? = some y) := hy
  have HZ : Hid (hs[k]? = some z) := hz
  clear M hU hF hZs hq hd hf ht hfew hn2 hb1 B0 hu hc han hyn hy hye hkk hya hzn hz hza hze
  go_enter Try.func35, Try.ntmps35
  go_wp2_with fail
  refine wp_region_above (by kernel_rfl) (by kernel_rfl) ?_
  intro hne
  repeat (go_big_quiet_step ((go_at_call 34; exact above_of (ca _))))
  refine wpQuiet_nil ?_
  rintro _ ⟨kq, rfl⟩
  have hbq := HB1.out.trans (kq.is.mono HB1.out.size)
  obtain ⟨W, hW⟩ : ∃ W, W = kq.it := ⟨_, rfl⟩
  rw [← hW] at hbq
  rw [← hW]
  clear hW x0 x1 ca hne HB1 kq
  have MW := HM.out.1.over hbq
  have c1 := MW.c1
  rw [← HQ.out.1] at c1
  have HB : Hid (Below w.heap.size w W) := hbq
  obtain ⟨y0, y1⟩ := row_cells MW.rows HY.out
  clear MW hbq
  go_wp2_with fail
  refine (cl _).mono ?_
  rintro e w1 ⟨rfl, hb⟩
  have hbq := HB.out.trans (hb.mono HB.out.size)
  have MW := HM.out.1.over hbq
  have c1 := MW.c1
  rw [← HQ.out.1] at c1
  have HB : Hid (Below w.heap.size w w1) := hbq
  clear y0 y1
  obtain ⟨y0, y1⟩ := row_cells MW.rows HY.out
  obtain ⟨z0, z1⟩ := row_cells MW.rows HZ.out
  clear MW hbq hb cl
  go_wp2_with fail
  go_quiet (fail)
  obtain ⟨w2, hw2⟩ : ∃ w2, w2 = w1.drewN nq := ⟨_, rfl⟩
  have hbq : Below w.heap.size w w2 := by rw [hw2]; exact ⟨HB.out.os, HB.out.tape, HB.out.output, HB.out.size, HB.out.block⟩
  rw [← hw2]
  clear hw2 c1 y0 y1 z0 z1
  have MW := HM.out.1.over hbq
  have c1 := MW.c1
  rw [← HQ.out.1] at c1
  have HB : Hid (Below w.heap.size w w2) := hbq
  obtain ⟨z0, z1⟩ := row_cells MW.rows HZ.out
  clear MW hbq
  go_wp2_with fail
  refine (cz _).mono ?_
  rintro e w3 ⟨rfl, hb⟩
  have hbq := HB.out.trans (hb.mono HB.out.size)
  have MW := HM.out.1.over hbq
  have c1 := MW.c1
  rw [← HQ.out.1] at c1
  have HB : Hid (Below w.heap.size w w3) := hbq
  clear MW hbq hb cz z0 z1
  go_wp2_with fail
  have MW := HM.out.1.over HB.out
  refine wp_region_held_then (fun w' => w'.cell? ⟨p, 1, none⟩ = some (.slice (some ⟨g, 0, none⟩) q cap)) _ (by kernel_rfl) rfl (by kernel_rfl) ?_
  have hHeld : (fun w' : World => w'.cell? ⟨p, 1, none⟩ = some (.slice (some ⟨g, 0, none⟩) q cap)) w3.drew := c1
  dsimp only [List.dropLast, List.length, List.getLast]
  ((refine takeL 0 (v := ?_) rfl (by kernel_rfl) (by kernel_rfl) (by kernel_rfl) (fun _ _ _ h => h) (by rfl) hHeld ?_ ?_; rotate_left; focus (intro w hSw; (try dsimp only at hSw); go_simp <;> with_reducible rfl); (try simp only [Act.put, List.setIfInBounds_toArray, List.set_cons_zero, List.set_cons_succ])); (refine takeL 1 (v := ?_) rfl (by kernel_rfl) (by kernel_rfl) (by kernel_rfl) (fun _ _ _ h => h) (by rfl) hHeld ?_ ?_; rotate_left; focus (intro w hSw; (try dsimp only at hSw); go_simp <;> with_reducible rfl); (try simp only [Act.put, List.setIfInBounds_toArray, List.set_cons_zero, List.set_cons_succ])); (refine takeL 2 (v := ?_) rfl (by kernel_rfl) (by kernel_rfl) (by kernel_rfl) (fun _ _ _ h => h) (by rfl) hHeld ?_ ?_; rotate_left; focus (intro w hSw; (try dsimp only at hSw); go_simp <;> with_reducible rfl); (try simp only [Act.put, List.setIfInBounds_toArray, List.set_cons_zero, List.set_cons_succ])); (refine takeL 3 (v := ?_) rfl (by kernel_rfl) (by kernel_rfl) (by kernel_rfl) (fun _ _ _ h => h) (by rfl) hHeld ?_ ?_; rotate_left; focus (intro w hSw; (try dsimp only at hSw); go_simp <;> with_reducible rfl); (try simp only [Act.put, List.setIfInBounds_toArray, List.set_cons_zero, List.set_cons_succ])); (refine takeL 4 (v := ?_) rfl (by kernel_rfl) (by kernel_rfl) (by kernel_rfl) (fun _ _ _ h => h) (by rfl) hHeld ?_ ?_; rotate_left; focus (intro w hSw; (try dsimp only at hSw); go_simp <;> with_reducible rfl); (try simp only [Act.put, List.setIfInBounds_toArray, List.set_cons_zero, List.set_cons_succ])); (refine takeL 5 (v := ?_) rfl (by kernel_rfl) (by kernel_rfl) (by kernel_rfl) (fun _ _ _ h => h) (by rfl) hHeld ?_ ?_; rotate_left; focus (intro w hSw; (try dsimp only at hSw); go_simp <;> with_reducible rfl); (try simp only [Act.put, List.setIfInBounds_toArray, List.set_cons_zero, List.set_cons_succ])); (refine takeL 6 (v := ?_) rfl (by kernel_rfl) (by kernel_rfl) (by kernel_rfl) (fun _ _ _ h => h) (by rfl) hHeld ?_ ?_; rotate_left; focus (intro w hSw; (try dsimp only at hSw); go_simp <;> with_reducible rfl); (try simp only [Act.put, List.setIfInBounds_toArray, List.set_cons_zero, List.set_cons_succ])); (refine takeL 7 (v := ?_) rfl (by kernel_rfl) (by kernel_rfl) (by kernel_rfl) (fun _ _ _ h => h) (by rfl) hHeld ?_ ?_; rotate_left; focus (intro w hSw; (try dsimp only at hSw); go_simp <;> with_reducible rfl); (try simp only [Act.put, List.setIfInBounds_toArray, List.set_cons_zero, List.set_cons_succ])); (refine takeL 8 (v := ?_) rfl (by kernel_rfl) (by kernel_rfl) (by kernel_rfl) (fun _ _ _ h => h) (by rfl) hHeld ?_ ?_; rotate_left; focus (intro w hSw; (try dsimp only at hSw); go_simp <;> with_reducible rfl); (try simp only [Act.put, List.setIfInBounds_toArray, List.set_cons_zero, List.set_cons_succ])))
  dsimp only [Act.put]
  simp only [List.setIfInBounds_toArray, List.set_cons_zero, List.set_cons_succ]
  refine callL 9 (f := 24) (vs := #[.int .i64 y.1, .int .i64 ze]) rfl (by kernel_rfl) (by rfl) (by go_simp) ?_
  refine (cb _).mono ?_
  rintro e w4 ⟨rfl, hb4⟩
  have M4 := (MW.of_block (w' := w3.drew) rfl rfl).over hb4
  have hB4 : Below w.heap.size w w4 := HB.out.drew.trans (hb4.mono HB.out.drew.size)
  have c4 := M4.c1
  rw [← HQ.out.1] at c4
  refine ⟨_, rfl, c4, ?_⟩
  have HU := srows_new w4 (ec (y.1, d)) 32 (ec_len _)
  have b5 := below1 w4 (.cells #[.int .i64 (y.1 : Int), .int .i64 (d : Int)] 32)
  have M5 := M4.over b5
  have c5 := M5.c1
  rw [← HQ.out.1] at c5
  have r5 := M5.rows
  rw [← HQ.out.1] at r5
  have hB5 := hB4.trans (b5.mono hB4.size)
  refine newL 10 (w4.alloc (.cells #[.int .i64 (y.1 : Int), .int .i64 (d : Int)] 32)) (.slice (some ⟨w4.heap.size, 0, none⟩) 1 1) rfl (by kernel_rfl) (by rfl) (by go_simp) c5 ?_
  have hZ : (hs.map ec).take kk ++ (ec (y.1, d) :: (hs.map ec).drop t) = (hs.take kk ++ (y.1, d) :: hs.drop t).map ec := by
    rw [List.map_append, List.map_cons, List.map_take, List.map_drop]
  have cr := rep_fill (i := kk) (j := t) r5 HU (Nat.ne_of_gt M4.ltg) (ecs_one [(y.1, d)] _ (by simp)) (ecs_one _) (by have := HQ.out; omega) HQ.out.2.2.2.2.1 HQ.out.2.2.2.2.2.1 hZ
  obtain ⟨zz, hzz⟩ : ∃ zz, zz = (hs.take kk ++ (y.1, d) :: hs.drop t).length := ⟨_, rfl⟩
  rw [List.length_map, ← hzz] at cr
  refine callL 11 (f := 40) (vs := #[.slice (some ⟨g, 0, none⟩) q cap, .int .i64 kk, .int .i64 t, .slice (some ⟨w4.heap.size, 0, none⟩) 1 1]) rfl (by kernel_rfl) (by rfl) (by go_simp) ?_
  refine cr.mono ?_
  rintro e w6 ⟨g', cap', rfl, i1, i2, i3⟩
  have c6 : w6.cell? ⟨p, 1, none⟩ = some (.slice (some ⟨g, 0, none⟩) q cap) := by
    rw [HQ.out.1]
    exact (M5.box.kept i3 M5.ne).cell 1 _ rfl
  have f6 : w6.frozen? ⟨p, 1, none⟩ = false := (M5.box.kept i3 M5.ne).frozen 1
  rw [hzz] at i1
  refine ⟨_, rfl, c6, ?_⟩
  have hend := map_stored (hs := hs.take kk ++ (y.1, d) :: hs.drop t) M5 hB5 i1 i2 i3
  rw [← hzz] at hend
  have HE : Hid (Nice 0 (hs.take kk ++ (y.1, d) :: hs.drop t) → Within n (hs.take kk ++ (y.1, d) :: hs.drop t) → MapTo w p g n (hs.take kk ++ (y.1, d) :: hs.drop t) (w6.setCell ⟨p, 1, none⟩ (.slice (some ⟨g', 0, none⟩) zz cap'))) := hend
  clear hend hzz hZ r5 HU b5 i1 i2 i3 cr M5 M4 MW hB5 hB4 hb4 c5 c4 cb
  ((refine takeL 12 (v := ?_) rfl (by kernel_rfl) (by kernel_rfl) (by kernel_rfl) (fun _ _ _ h => h) (by rfl) c6 ?_ ?_; rotate_left; focus (intro w hSw; (try dsimp only at hSw); go_simp <;> with_reducible rfl); (try simp only [Act.put, List.setIfInBounds_toArray, List.set_cons_zero, List.set_cons_succ])); (refine takeL 13 (v := ?_) rfl (by kernel_rfl) (by kernel_rfl) (by kernel_rfl) (fun _ _ _ h => h) (by rfl) c6 ?_ ?_; rotate_left; focus (intro w hSw; (try dsimp only at hSw); go_simp <;> with_reducible rfl); (try simp only [Act.put, List.setIfInBounds_toArray, List.set_cons_zero, List.set_cons_succ])))
  refine doneL (by kernel_rfl) ?_
  dsimp only [Act.put]
  unfold Oper.wp
  go_simp
  go_wp2_with fail
  refine bodyPost_end (results_none rfl _ _ _) rfl ?_
  have hq := HQ.out
  have hfin := HM.out.2
  have he := HE.out
  rw [← hq.2.2.2.1, ← hq.2.1, ← hq.2.2.1] at hfin
  rw [hfin.2] at he
  exact ⟨rfl, he hfin.1.1 hfin.1.2.1⟩

set_option maxRecDepth 4000 in
set_option maxHeartbeats 4000000 in
theorem fill_12 {w : World} {p g n cap : Nat} {hs : List (Nat × Nat)} (M : MapIs w p g n cap hs) (a c k : Nat) (hc : 1 ≤ c) (han : a + c ≤ n) (hU : Upto hs a k) (hk0 : 0 < k) {y : Nat × Nat} (hy : hs[k - 1]? = some y) (hya : y.1 + y.2 = a) {z : Nat × Nat} (hz : hs[k]? = some z) (hza : z.1 ≠ a + c) {Zs : List (Nat × Nat)} (hZs : hs.take (k - 1) ++ (y.1, (a + c) - y.1) :: hs.drop (k) = Zs) (hF : Filled hs Zs n a c) :
    Calls Try.prog 35 #[.pointer (some ⟨p, 0, none⟩), .int .i64 k, .agg #[.int .i64 a, .int .i64 c]] w fun e w' => e = .returned (.tuple #[]) ∧ MapTo w p g n Zs w' := by
  obtain ⟨q, hq⟩ : ∃ q, q = hs.length := ⟨_, rfl⟩
  have hkl : k ≤ q := by rw [hq]; exact hU.1
  have hfew := M.few
  have hn2 := M.n2
  rw [← hq] at hfew
  have hb1 := below1 w (.cells #[.int .i64 a, .int .i64 c] 32)
  have B0 := box_new w #[.int .i64 a, .int .i64 c] 32
  have x0 := above_cell (B0.cell 0 _ rfl)
  have x1 := above_cell (B0.cell 1 _ rfl)
  obtain ⟨u, hu⟩ : ∃ u, u = a + c := ⟨_, rfl⟩
  have ca := fun W => end_any a c u W (by rw [IntKind.wrap_i64]; omega)
  obtain ⟨f, hf⟩ : ∃ f, f = k - 1 := ⟨_, rfl⟩
  obtain ⟨t, ht⟩ : ∃ t, t = k := ⟨_, rfl⟩
  obtain ⟨kk, hkk⟩ : ∃ kk, kk = k - 1 := ⟨_, rfl⟩
  have hyn := M.within y (List.mem_of_getElem? hy)
  rw [← hkk] at hy
  obtain ⟨ye, hye⟩ : ∃ ye, ye = y.1 + y.2 := ⟨_, rfl⟩
  have cl := fun W => end_any y.1 y.2 ye W (by rw [IntKind.wrap_i64]; omega)
  have hwk : IntKind.i64.wrap ((k : Int) - 1) = (kk : Int) := by rw [IntKind.wrap_i64]; omega
  have hk1 : (0 : Int) < (k : Int) := by omega
  have hkkI : (kk : Int) < (q : Int) := by omega
  have hyI : (ye : Int) = (a : Int) := by omega
  have hzn := M.within z (List.mem_of_getElem? hz)
  have hkq : k < q := by rw [hq]; exact (List.getElem?_eq_some_iff.1 hz).1
  have hkqI : (k : Int) < (q : Int) := by omega
  have hzI : ¬ (z.1 : Int) = (u : Int) := by omega
  obtain ⟨d, hd⟩ : ∃ d, d = (a + c) - y.1 := ⟨_, rfl⟩
  have cb := fun W => between_any y.1 u d W (by rw [IntKind.wrap_i64]; have := M.nice.mem_ge y (List.mem_of_getElem? hy); omega)
  have HQ : Hid (q = hs.length ∧ kk = k - 1 ∧ k = k ∧ d = (a + c) - y.1 ∧ kk ≤ k ∧ k ≤ q ∧ q ≤ 4096) := ⟨hq, by omega, by omega, hd, by omega, by omega, by omega⟩
  have HM : Hid (MapIs w p g n cap hs ∧ Filled hs Zs n a c ∧ hs.take (k - 1) ++ (y.1, (a + c) - y.1) :: hs.drop (k) = Zs) := ⟨M, hF, hZs⟩
  have HB1 : Hid (Below w.heap.size w (w.alloc (.cells #[.int .i64 a, .int .i64 c] 32))) := hb1
  have HY : Hid (hs[kk]? = some y) := hy
  have HZ : Hid (hs[k]? = some z) := hz
  clear M hU hF hZs hq hd hf ht hfew hn2 hb1 B0 hu hc han hyn hy hye hkk hya hzn hz hza
  go_enter Try.func35, Try.ntmps35
  go_wp2_with fail
  refine wp_region_above (by kernel_rfl) (by kernel_rfl) ?_
  intro hne
  repeat (go_big_quiet_step ((go_at_call 34; exact above_of (ca _))))
  refine wpQuiet_nil ?_
  rintro _ ⟨kq, rfl⟩
  have hbq := HB1.out.trans (kq.is.mono HB1.out.size)
  obtain ⟨W, hW⟩ : ∃ W, W = kq.it := ⟨_, rfl⟩
  rw [← hW] at hbq
  rw [← hW]
  clear hW x0 x1 ca hne HB1 kq
  have MW := HM.out.1.over hbq
  have c1 := MW.c1
  rw [← HQ.out.1] at c1
  have HB : Hid (Below w.heap.size w W) := hbq
  obtain ⟨y0, y1⟩ := row_cells MW.rows HY.out
  clear MW hbq
  go_wp2_with fail
  refine (cl _).mono ?_
  rintro e w1 ⟨rfl, hb⟩
  have hbq := HB.out.trans (hb.mono HB.out.size)
  have MW := HM.out.1.over hbq
  have c1 := MW.c1
  rw [← HQ.out.1] at c1
  have HB : Hid (Below w.heap.size w w1) := hbq
  clear y0 y1
  obtain ⟨y0, y1⟩ := row_cells MW.rows HY.out
  obtain ⟨z0, z1⟩ := row_cells MW.rows HZ.out
  clear MW hbq hb cl
  go_wp2_with fail
  go_quiet (fail)
  obtain ⟨w2, hw2⟩ : ∃ w2, w2 = w1.drewN nq := ⟨_, rfl⟩
  have hbq : Below w.heap.size w w2 := by rw [hw2]; exact ⟨HB.out.os, HB.out.tape, HB.out.output, HB.out.size, HB.out.block⟩
  rw [← hw2]
  clear hw2 c1 y0 y1 z0 z1
  have MW := HM.out.1.over hbq
  have c1 := MW.c1
  rw [← HQ.out.1] at c1
  have HB : Hid (Below w.heap.size w w2) := hbq
  obtain ⟨z0, z1⟩ := row_cells MW.rows HZ.out
  clear MW hbq
  go_wp2_with fail
  have MW := HM.out.1.over HB.out
  refine wp_region_held_then (fun w' => w'.cell? ⟨p, 1, none⟩ = some (.slice (some ⟨g, 0, none⟩) q cap)) _ (by kernel_rfl) rfl (by kernel_rfl) ?_
  have hHeld : (fun w' : World => w'.cell? ⟨p, 1, none⟩ = some (.slice (some ⟨g, 0, none⟩) q cap)) w2.drew := c1
  dsimp only [List.dropLast, List.length, List.getLast]
  ((refine takeL 0 (v := ?_) rfl (by kernel_rfl) (by kernel_rfl) (by kernel_rfl) (fun _ _ _ h => h) (by rfl) hHeld ?_ ?_; rotate_left; focus (intro w hSw; (try dsimp only at hSw); go_simp <;> with_reducible rfl); (try simp only [Act.put, List.setIfInBounds_toArray, List.set_cons_zero, List.set_cons_succ])); (refine takeL 1 (v := ?_) rfl (by kernel_rfl) (by kernel_rfl) (by kernel_rfl) (fun _ _ _ h => h) (by rfl) hHeld ?_ ?_; rotate_left; focus (intro w hSw; (try dsimp only at hSw); go_simp <;> with_reducible rfl); (try simp only [Act.put, List.setIfInBounds_toArray, List.set_cons_zero, List.set_cons_succ])); (refine takeL 2 (v := ?_) rfl (by kernel_rfl) (by kernel_rfl) (by kernel_rfl) (fun _ _ _ h => h) (by rfl) hHeld ?_ ?_; rotate_left; focus (intro w hSw; (try dsimp only at hSw); go_simp <;> with_reducible rfl); (try simp only [Act.put, List.setIfInBounds_toArray, List.set_cons_zero, List.set_cons_succ])); (refine takeL 3 (v := ?_) rfl (by kernel_rfl) (by kernel_rfl) (by kernel_rfl) (fun _ _ _ h => h) (by rfl) hHeld ?_ ?_; rotate_left; focus (intro w hSw; (try dsimp only at hSw); go_simp <;> with_reducible rfl); (try simp only [Act.put, List.setIfInBounds_toArray, List.set_cons_zero, List.set_cons_succ])); (refine takeL 4 (v := ?_) rfl (by kernel_rfl) (by kernel_rfl) (by kernel_rfl) (fun _ _ _ h => h) (by rfl) hHeld ?_ ?_; rotate_left; focus (intro w hSw; (try dsimp only at hSw); go_simp <;> with_reducible rfl); (try simp only [Act.put, List.setIfInBounds_toArray, List.set_cons_zero, List.set_cons_succ])); (refine takeL 5 (v := ?_) rfl (by kernel_rfl) (by kernel_rfl) (by kernel_rfl) (fun _ _ _ h => h) (by rfl) hHeld ?_ ?_; rotate_left; focus (intro w hSw; (try dsimp only at hSw); go_simp <;> with_reducible rfl); (try simp only [Act.put, List.setIfInBounds_toArray, List.set_cons_zero, List.set_cons_succ])); (refine takeL 6 (v := ?_) rfl (by kernel_rfl) (by kernel_rfl) (by kernel_rfl) (fun _ _ _ h => h) (by rfl) hHeld ?_ ?_; rotate_left; focus (intro w hSw; (try dsimp only at hSw); go_simp <;> with_reducible rfl); (try simp only [Act.put, List.setIfInBounds_toArray, List.set_cons_zero, List.set_cons_succ])); (refine takeL 7 (v := ?_) rfl (by kernel_rfl) (by kernel_rfl) (by kernel_rfl) (fun _ _ _ h => h) (by rfl) hHeld ?_ ?_; rotate_left; focus (intro w hSw; (try dsimp only at hSw); go_simp <;> with_reducible rfl); (try simp only [Act.put, List.setIfInBounds_toArray, List.set_cons_zero, List.set_cons_succ])); (refine takeL 8 (v := ?_) rfl (by kernel_rfl) (by kernel_rfl) (by kernel_rfl) (fun _ _ _ h => h) (by rfl) hHeld ?_ ?_; rotate_left; focus (intro w hSw; (try dsimp only at hSw); go_simp <;> with_reducible rfl); (try simp only [Act.put, List.setIfInBounds_toArray, List.set_cons_zero, List.set_cons_succ])))
  dsimp only [Act.put]
  simp only [List.setIfInBounds_toArray, List.set_cons_zero, List.set_cons_succ]
  refine callL 9 (f := 24) (vs := #[.int .i64 y.1, .int .i64 u]) rfl (by kernel_rfl) (by rfl) (by go_simp) ?_
  refine (cb _).mono ?_
  rintro e w4 ⟨rfl, hb4⟩
  have M4 := (MW.of_block (w' := w2.drew) rfl rfl).over hb4
  have hB4 : Below w.heap.size w w4 := HB.out.drew.trans (hb4.mono HB.out.drew.size)
  have c4 := M4.c1
  rw [← HQ.out.1] at c4
  refine ⟨_, rfl, c4, ?_⟩
  have HU := srows_new w4 (ec (y.1, d)) 32 (ec_len _)
  have b5 := below1 w4 (.cells #[.int .i64 (y.1 : Int), .int .i64 (d : Int)] 32)
  have M5 := M4.over b5
  have c5 := M5.c1
  rw [← HQ.out.1] at c5
  have r5 := M5.rows
  rw [← HQ.out.1] at r5
  have hB5 := hB4.trans (b5.mono hB4.size)
  refine newL 10 (w4.alloc (.cells #[.int .i64 (y.1 : Int), .int .i64 (d : Int)] 32)) (.slice (some ⟨w4.heap.size, 0, none⟩) 1 1) rfl (by kernel_rfl) (by rfl) (by go_simp) c5 ?_
  have hZ : (hs.map ec).take kk ++ (ec (y.1, d) :: (hs.map ec).drop k) = (hs.take kk ++ (y.1, d) :: hs.drop k).map ec := by
    rw [List.map_append, List.map_cons, List.map_take, List.map_drop]
  have cr := rep_fill (i := kk) (j := k) r5 HU (Nat.ne_of_gt M4.ltg) (ecs_one [(y.1, d)] _ (by simp)) (ecs_one _) (by have := HQ.out; omega) HQ.out.2.2.2.2.1 HQ.out.2.2.2.2.2.1 hZ
  obtain ⟨zz, hzz⟩ : ∃ zz, zz = (hs.take kk ++ (y.1, d) :: hs.drop k).length := ⟨_, rfl⟩
  rw [List.length_map, ← hzz] at cr
  refine callL 11 (f := 40) (vs := #[.slice (some ⟨g, 0, none⟩) q cap, .int .i64 kk, .int .i64 k, .slice (some ⟨w4.heap.size, 0, none⟩) 1 1]) rfl (by kernel_rfl) (by rfl) (by go_simp) ?_
  refine cr.mono ?_
  rintro e w6 ⟨g', cap', rfl, i1, i2, i3⟩
  have c6 : w6.cell? ⟨p, 1, none⟩ = some (.slice (some ⟨g, 0, none⟩) q cap) := by
    rw [HQ.out.1]
    exact (M5.box.kept i3 M5.ne).cell 1 _ rfl
  have f6 : w6.frozen? ⟨p, 1, none⟩ = false := (M5.box.kept i3 M5.ne).frozen 1
  rw [hzz] at i1
  refine ⟨_, rfl, c6, ?_⟩
  have hend := map_stored (hs := hs.take kk ++ (y.1, d) :: hs.drop k) M5 hB5 i1 i2 i3
  rw [← hzz] at hend
  have HE : Hid (Nice 0 (hs.take kk ++ (y.1, d) :: hs.drop k) → Within n (hs.take kk ++ (y.1, d) :: hs.drop k) → MapTo w p g n (hs.take kk ++ (y.1, d) :: hs.drop k) (w6.setCell ⟨p, 1, none⟩ (.slice (some ⟨g', 0, none⟩) zz cap'))) := hend
  clear hend hzz hZ r5 HU b5 i1 i2 i3 cr M5 M4 MW hB5 hB4 hb4 c5 c4 cb
  ((refine takeL 12 (v := ?_) rfl (by kernel_rfl) (by kernel_rfl) (by kernel_rfl) (fun _ _ _ h => h) (by rfl) c6 ?_ ?_; rotate_left; focus (intro w hSw; (try dsimp only at hSw); go_simp <;> with_reducible rfl); (try simp only [Act.put, List.setIfInBounds_toArray, List.set_cons_zero, List.set_cons_succ])); (refine takeL 13 (v := ?_) rfl (by kernel_rfl) (by kernel_rfl) (by kernel_rfl) (fun _ _ _ h => h) (by rfl) c6 ?_ ?_; rotate_left; focus (intro w hSw; (try dsimp only at hSw); go_simp <;> with_reducible rfl); (try simp only [Act.put, List.setIfInBounds_toArray, List.set_cons_zero, List.set_cons_succ])))
  refine doneL (by kernel_rfl) ?_
  dsimp only [Act.put]
  unfold Oper.wp
  go_simp
  go_wp2_with fail
  refine bodyPost_end (results_none rfl _ _ _) rfl ?_
  have hq := HQ.out
  have hfin := HM.out.2
  have he := HE.out
  rw [← hq.2.2.2.1, ← hq.2.1] at hfin
  rw [hfin.2] at he
  exact ⟨rfl, he hfin.1.1 hfin.1.2.1⟩

set_option maxRecDepth 4000 in
set_option maxHeartbeats 4000000 in
theorem fill_20 {w : World} {p g n cap : Nat} {hs : List (Nat × Nat)} (M : MapIs w p g n cap hs) (a c k : Nat) (hc : 1 ≤ c) (han : a + c ≤ n) (hU : Upto hs a k) (hk0 : 0 < k) {y : Nat × Nat} (hy : hs[k - 1]? = some y) (hya : y.1 + y.2 ≠ a) (hkq : k = hs.length) {Zs : List (Nat × Nat)} (hZs : hs.take (k) ++ (a, (a + c) - a) :: hs.drop (k) = Zs) (hF : Filled hs Zs n a c) :
    Calls Try.prog 35 #[.pointer (some ⟨p, 0, none⟩), .int .i64 k, .agg #[.int .i64 a, .int .i64 c]] w fun e w' => e = .returned (.tuple #[]) ∧ MapTo w p g n Zs w' := by
  obtain ⟨q, hq⟩ : ∃ q, q = hs.length := ⟨_, rfl⟩
  have hkl : k ≤ q := by rw [hq]; exact hU.1
  have hfew := M.few
  have hn2 := M.n2
  rw [← hq] at hfew
  have hb1 := below1 w (.cells #[.int .i64 a, .int .i64 c] 32)
  have B0 := box_new w #[.int .i64 a, .int .i64 c] 32
  have x0 := above_cell (B0.cell 0 _ rfl)
  have x1 := above_cell (B0.cell 1 _ rfl)
  obtain ⟨u, hu⟩ : ∃ u, u = a + c := ⟨_, rfl⟩
  have ca := fun W => end_any a c u W (by rw [IntKind.wrap_i64]; omega)
  obtain ⟨f, hf⟩ : ∃ f, f = k := ⟨_, rfl⟩
  obtain ⟨t, ht⟩ : ∃ t, t = k := ⟨_, rfl⟩
  obtain ⟨kk, hkk⟩ : ∃ kk, kk = k - 1 := ⟨_, rfl⟩
  have hyn := M.within y (List.mem_of_getElem? hy)
  rw [← hkk] at hy
  obtain ⟨ye, hye⟩ : ∃ ye, ye = y.1 + y.2 := ⟨_, rfl⟩
  have cl := fun W => end_any y.1 y.2 ye W (by rw [IntKind.wrap_i64]; omega)
  have hwk : IntKind.i64.wrap ((k : Int) - 1) = (kk : Int) := by rw [IntKind.wrap_i64]; omega
  have hk1 : (0 : Int) < (k : Int) := by omega
  have hkkI : (kk : Int) < (q : Int) := by omega
  have hyI : ¬ (ye : Int) = (a : Int) := by omega
  have hkqI : ¬ (k : Int) < (q : Int) := by omega
  obtain ⟨d, hd⟩ : ∃ d, d = (a + c) - a := ⟨_, rfl⟩
  have cb := fun W => between_any a u d W (by rw [IntKind.wrap_i64]; omega)
  have HQ : Hid (q = hs.length ∧ k = k ∧ k = k ∧ d = (a + c) - a ∧ k ≤ k ∧ k ≤ q ∧ q ≤ 4096) := ⟨hq, by omega, by omega, hd, by omega, by omega, by omega⟩
  have HM : Hid (MapIs w p g n cap hs ∧ Filled hs Zs n a c ∧ hs.take (k) ++ (a, (a + c) - a) :: hs.drop (k) = Zs) := ⟨M, hF, hZs⟩
  have HB1 : Hid (Below w.heap.size w (w.alloc (.cells #[.int .i64 a, .int .i64 c] 32))) := hb1
  have HY : Hid (hs[kk]? = some y) := hy
  clear M hU hF hZs hq hd hf ht hfew hn2 hb1 B0 hu hc han hyn hy hye hkk hya hkq
  go_enter Try.func35, Try.ntmps35
  go_wp2_with fail
  refine wp_region_above (by kernel_rfl) (by kernel_rfl) ?_
  intro hne
  repeat (go_big_quiet_step ((go_at_call 34; exact above_of (ca _))))
  refine wpQuiet_nil ?_
  rintro _ ⟨kq, rfl⟩
  have hbq := HB1.out.trans (kq.is.mono HB1.out.size)
  obtain ⟨W, hW⟩ : ∃ W, W = kq.it := ⟨_, rfl⟩
  rw [← hW] at hbq
  rw [← hW]
  clear hW x0 x1 ca hne HB1 kq
  have MW := HM.out.1.over hbq
  have c1 := MW.c1
  rw [← HQ.out.1] at c1
  have HB : Hid (Below w.heap.size w W) := hbq
  obtain ⟨y0, y1⟩ := row_cells MW.rows HY.out
  clear MW hbq
  go_wp2_with fail
  refine (cl _).mono ?_
  rintro e w1 ⟨rfl, hb⟩
  have hbq := HB.out.trans (hb.mono HB.out.size)
  have MW := HM.out.1.over hbq
  have c1 := MW.c1
  rw [← HQ.out.1] at c1
  have HB : Hid (Below w.heap.size w w1) := hbq
  clear y0 y1
  obtain ⟨y0, y1⟩ := row_cells MW.rows HY.out
  clear MW hbq hb cl
  go_wp2_with fail
  have MW := HM.out.1.over HB.out
  refine wp_region_held_then (fun w' => w'.cell? ⟨p, 1, none⟩ = some (.slice (some ⟨g, 0, none⟩) q cap)) _ (by kernel_rfl) rfl (by kernel_rfl) ?_
  have hHeld : (fun w' : World => w'.cell? ⟨p, 1, none⟩ = some (.slice (some ⟨g, 0, none⟩) q cap)) w1.drew := c1
  dsimp only [List.dropLast, List.length, List.getLast]
  ((refine takeL 0 (v := ?_) rfl (by kernel_rfl) (by kernel_rfl) (by kernel_rfl) (fun _ _ _ h => h) (by rfl) hHeld ?_ ?_; rotate_left; focus (intro w hSw; (try dsimp only at hSw); go_simp <;> with_reducible rfl); (try simp only [Act.put, List.setIfInBounds_toArray, List.set_cons_zero, List.set_cons_succ])); (refine takeL 1 (v := ?_) rfl (by kernel_rfl) (by kernel_rfl) (by kernel_rfl) (fun _ _ _ h => h) (by rfl) hHeld ?_ ?_; rotate_left; focus (intro w hSw; (try dsimp only at hSw); go_simp <;> with_reducible rfl); (try simp only [Act.put, List.setIfInBounds_toArray, List.set_cons_zero, List.set_cons_succ])); (refine takeL 2 (v := ?_) rfl (by kernel_rfl) (by kernel_rfl) (by kernel_rfl) (fun _ _ _ h => h) (by rfl) hHeld ?_ ?_; rotate_left; focus (intro w hSw; (try dsimp only at hSw); go_simp <;> with_reducible rfl); (try simp only [Act.put, List.setIfInBounds_toArray, List.set_cons_zero, List.set_cons_succ])); (refine takeL 3 (v := ?_) rfl (by kernel_rfl) (by kernel_rfl) (by kernel_rfl) (fun _ _ _ h => h) (by rfl) hHeld ?_ ?_; rotate_left; focus (intro w hSw; (try dsimp only at hSw); go_simp <;> with_reducible rfl); (try simp only [Act.put, List.setIfInBounds_toArray, List.set_cons_zero, List.set_cons_succ])); (refine takeL 4 (v := ?_) rfl (by kernel_rfl) (by kernel_rfl) (by kernel_rfl) (fun _ _ _ h => h) (by rfl) hHeld ?_ ?_; rotate_left; focus (intro w hSw; (try dsimp only at hSw); go_simp <;> with_reducible rfl); (try simp only [Act.put, List.setIfInBounds_toArray, List.set_cons_zero, List.set_cons_succ])); (refine takeL 5 (v := ?_) rfl (by kernel_rfl) (by kernel_rfl) (by kernel_rfl) (fun _ _ _ h => h) (by rfl) hHeld ?_ ?_; rotate_left; focus (intro w hSw; (try dsimp only at hSw); go_simp <;> with_reducible rfl); (try simp only [Act.put, List.setIfInBounds_toArray, List.set_cons_zero, List.set_cons_succ])); (refine takeL 6 (v := ?_) rfl (by kernel_rfl) (by kernel_rfl) (by kernel_rfl) (fun _ _ _ h => h) (by rfl) hHeld ?_ ?_; rotate_left; focus (intro w hSw; (try dsimp only at hSw); go_simp <;> with_reducible rfl); (try simp only [Act.put, List.setIfInBounds_toArray, List.set_cons_zero, List.set_cons_succ])); (refine takeL 7 (v := ?_) rfl (by kernel_rfl) (by kernel_rfl) (by kernel_rfl) (fun _ _ _ h => h) (by rfl) hHeld ?_ ?_; rotate_left; focus (intro w hSw; (try dsimp only at hSw); go_simp <;> with_reducible rfl); (try simp only [Act.put, List.setIfInBounds_toArray, List.set_cons_zero, List.set_cons_succ])); (refine takeL 8 (v := ?_) rfl (by kernel_rfl) (by kernel_rfl) (by kernel_rfl) (fun _ _ _ h => h) (by rfl) hHeld ?_ ?_; rotate_left; focus (intro w hSw; (try dsimp only at hSw); go_simp <;> with_reducible rfl); (try simp only [Act.put, List.setIfInBounds_toArray, List.set_cons_zero, List.set_cons_succ])))
  dsimp only [Act.put]
  simp only [List.setIfInBounds_toArray, List.set_cons_zero, List.set_cons_succ]
  refine callL 9 (f := 24) (vs := #[.int .i64 a, .int .i64 u]) rfl (by kernel_rfl) (by rfl) (by go_simp) ?_
  refine (cb _).mono ?_
  rintro e w4 ⟨rfl, hb4⟩
  have M4 := (MW.of_block (w' := w1.drew) rfl rfl).over hb4
  have hB4 : Below w.heap.size w w4 := HB.out.drew.trans (hb4.mono HB.out.drew.size)
  have c4 := M4.c1
  rw [← HQ.out.1] at c4
  refine ⟨_, rfl, c4, ?_⟩
  have HU := srows_new w4 (ec (a, d)) 32 (ec_len _)
  have b5 := below1 w4 (.cells #[.int .i64 (a : Int), .int .i64 (d : Int)] 32)
  have M5 := M4.over b5
  have c5 := M5.c1
  rw [← HQ.out.1] at c5
  have r5 := M5.rows
  rw [← HQ.out.1] at r5
  have hB5 := hB4.trans (b5.mono hB4.size)
  refine newL 10 (w4.alloc (.cells #[.int .i64 (a : Int), .int .i64 (d : Int)] 32)) (.slice (some ⟨w4.heap.size, 0, none⟩) 1 1) rfl (by kernel_rfl) (by rfl) (by go_simp) c5 ?_
  have hZ : (hs.map ec).take k ++ (ec (a, d) :: (hs.map ec).drop k) = (hs.take k ++ (a, d) :: hs.drop k).map ec := by
    rw [List.map_append, List.map_cons, List.map_take, List.map_drop]
  have cr := rep_fill (i := k) (j := k) r5 HU (Nat.ne_of_gt M4.ltg) (ecs_one [(a, d)] _ (by simp)) (ecs_one _) (by have := HQ.out; omega) HQ.out.2.2.2.2.1 HQ.out.2.2.2.2.2.1 hZ
  obtain ⟨zz, hzz⟩ : ∃ zz, zz = (hs.take k ++ (a, d) :: hs.drop k).length := ⟨_, rfl⟩
  rw [List.length_map, ← hzz] at cr
  refine callL 11 (f := 40) (vs := #[.slice (some ⟨g, 0, none⟩) q cap, .int .i64 k, .int .i64 k, .slice (some ⟨w4.heap.size, 0, none⟩) 1 1]) rfl (by kernel_rfl) (by rfl) (by go_simp) ?_
  refine cr.mono ?_
  rintro e w6 ⟨g', cap', rfl, i1, i2, i3⟩
  have c6 : w6.cell? ⟨p, 1, none⟩ = some (.slice (some ⟨g, 0, none⟩) q cap) := by
    rw [HQ.out.1]
    exact (M5.box.kept i3 M5.ne).cell 1 _ rfl
  have f6 : w6.frozen? ⟨p, 1, none⟩ = false := (M5.box.kept i3 M5.ne).frozen 1
  rw [hzz] at i1
  refine ⟨_, rfl, c6, ?_⟩
  have hend := map_stored (hs := hs.take k ++ (a, d) :: hs.drop k) M5 hB5 i1 i2 i3
  rw [← hzz] at hend
  have HE : Hid (Nice 0 (hs.take k ++ (a, d) :: hs.drop k) → Within n (hs.take k ++ (a, d) :: hs.drop k) → MapTo w p g n (hs.take k ++ (a, d) :: hs.drop k) (w6.setCell ⟨p, 1, none⟩ (.slice (some ⟨g', 0, none⟩) zz cap'))) := hend
  clear hend hzz hZ r5 HU b5 i1 i2 i3 cr M5 M4 MW hB5 hB4 hb4 c5 c4 cb
  ((refine takeL 12 (v := ?_) rfl (by kernel_rfl) (by kernel_rfl) (by kernel_rfl) (fun _ _ _ h => h) (by rfl) c6 ?_ ?_; rotate_left; focus (intro w hSw; (try dsimp only at hSw); go_simp <;> with_reducible rfl); (try simp only [Act.put, List.setIfInBounds_toArray, List.set_cons_zero, List.set_cons_succ])); (refine takeL 13 (v := ?_) rfl (by kernel_rfl) (by kernel_rfl) (by kernel_rfl) (fun _ _ _ h => h) (by rfl) c6 ?_ ?_; rotate_left; focus (intro w hSw; (try dsimp only at hSw); go_simp <;> with_reducible rfl); (try simp only [Act.put, List.setIfInBounds_toArray, List.set_cons_zero, List.set_cons_succ])))
  refine doneL (by kernel_rfl) ?_
  dsimp only [Act.put]
  unfold Oper.wp
  go_simp
  go_wp2_with fail
  refine bodyPost_end (results_none rfl _ _ _) rfl ?_
  have hq := HQ.out
  have hfin := HM.out.2
  have he := HE.out
  rw [← hq.2.2.2.1] at hfin
  rw [hfin.2] at he
  exact ⟨rfl, he hfin.1.1 hfin.1.2.1⟩

set_option maxRecDepth 4000 in
set_option maxHeartbeats 4000000 in
theorem fill_21 {w : World} {p g n cap : Nat} {hs : List (Nat × Nat)} (M : MapIs w p g n cap hs) (a c k : Nat) (hc : 1 ≤ c) (han : a + c ≤ n) (hU : Upto hs a k) (hk0 : 0 < k) {y : Nat × Nat} (hy : hs[k - 1]? = some y) (hya : y.1 + y.2 ≠ a) {z : Nat × Nat} (hz : hs[k]? = some z) (hza : z.1 = a + c) {Zs : List (Nat × Nat)} (hZs : hs.take (k) ++ (a, (z.1 + z.2) - a) :: hs.drop (k + 1) = Zs) (hF : Filled hs Zs n a c) :
    Calls Try.prog 35 #[.pointer (some ⟨p, 0, none⟩), .int .i64 k, .agg #[.int .i64 a, .int .i64 c]] w fun e w' => e = .returned (.tuple #[]) ∧ MapTo w p g n Zs w' := by
  obtain ⟨q, hq⟩ : ∃ q, q = hs.length := ⟨_, rfl⟩
  have hkl : k ≤ q := by rw [hq]; exact hU.1
  have hfew := M.few
  have hn2 := M.n2
  rw [← hq] at hfew
  have hb1 := below1 w (.cells #[.int .i64 a, .int .i64 c] 32)
  have B0 := box_new w #[.int .i64 a, .int .i64 c] 32
  have x0 := above_cell (B0.cell 0 _ rfl)
  have x1 := above_cell (B0.cell 1 _ rfl)
  obtain ⟨u, hu⟩ : ∃ u, u = a + c := ⟨_, rfl⟩
  have ca := fun W => end_any a c u W (by rw [IntKind.wrap_i64]; omega)
  obtain ⟨f, hf⟩ : ∃ f, f = k := ⟨_, rfl⟩
  obtain ⟨t, ht⟩ : ∃ t, t = k + 1 := ⟨_, rfl⟩
  obtain ⟨kk, hkk⟩ : ∃ kk, kk = k - 1 := ⟨_, rfl⟩
  have hyn := M.within y (List.mem_of_getElem? hy)
  rw [← hkk] at hy
  obtain ⟨ye, hye⟩ : ∃ ye, ye = y.1 + y.2 := ⟨_, rfl⟩
  have cl := fun W => end_any y.1 y.2 ye W (by rw [IntKind.wrap_i64]; omega)
  have hwk : IntKind.i64.wrap ((k : Int) - 1) = (kk : Int) := by rw [IntKind.wrap_i64]; omega
  have hk1 : (0 : Int) < (k : Int) := by omega
  have hkkI : (kk : Int) < (q : Int) := by omega
  have hyI : ¬ (ye : Int) = (a : Int) := by omega
  have hzn := M.within z (List.mem_of_getElem? hz)
  have hkq : k < q := by rw [hq]; exact (List.getElem?_eq_some_iff.1 hz).1
  have hkqI : (k : Int) < (q : Int) := by omega
  have hzI : (u : Int) = (z.1 : Int) := by omega
  obtain ⟨ze, hze⟩ : ∃ ze, ze = z.1 + z.2 := ⟨_, rfl⟩
  have cz := fun W => end_any z.1 z.2 ze W (by rw [IntKind.wrap_i64]; omega)
  have hwk2 : IntKind.i64.wrap ((k : Int) + 1) = (t : Int) := by rw [IntKind.wrap_i64]; omega
  obtain ⟨d, hd⟩ : ∃ d, d = (z.1 + z.2) - a := ⟨_, rfl⟩
  have cb := fun W => between_any a ze d W (by rw [IntKind.wrap_i64]; omega)
  have HQ : Hid (q = hs.length ∧ k = k ∧ t = k + 1 ∧ d = (z.1 + z.2) - a ∧ k ≤ t ∧ t ≤ q ∧ q ≤ 4096) := ⟨hq, by omega, by omega, hd, by omega, by omega, by omega⟩
  have HM : Hid (MapIs w p g n cap hs ∧ Filled hs Zs n a c ∧ hs.take (k) ++ (a, (z.1 + z.2) - a) :: hs.drop (k + 1) = Zs) := ⟨M, hF, hZs⟩
  have HB1 : Hid (Below w.heap.size w (w.alloc (.cells #[.int .i64 a, .int .i64 c] 32))) := hb1
  have HY : Hid (hs[kk]? = some y) := hy
  have HZ : Hid (hs[k]? = some z) := hz
  clear M hU hF hZs hq hd hf ht hfew hn2 hb1 B0 hu hc han hyn hy hye hkk hya hzn hz hza hze
  go_enter Try.func35, Try.ntmps35
  go_wp2_with fail
  refine wp_region_above (by kernel_rfl) (by kernel_rfl) ?_
  intro hne
  repeat (go_big_quiet_step ((go_at_call 34; exact above_of (ca _))))
  refine wpQuiet_nil ?_
  rintro _ ⟨kq, rfl⟩
  have hbq := HB1.out.trans (kq.is.mono HB1.out.size)
  obtain ⟨W, hW⟩ : ∃ W, W = kq.it := ⟨_, rfl⟩
  rw [← hW] at hbq
  rw [← hW]
  clear hW x0 x1 ca hne HB1 kq
  have MW := HM.out.1.over hbq
  have c1 := MW.c1
  rw [← HQ.out.1] at c1
  have HB : Hid (Below w.heap.size w W) := hbq
  obtain ⟨y0, y1⟩ := row_cells MW.rows HY.out
  clear MW hbq
  go_wp2_with fail
  refine (cl _).mono ?_
  rintro e w1 ⟨rfl, hb⟩
  have hbq := HB.out.trans (hb.mono HB.out.size)
  have MW := HM.out.1.over hbq
  have c1 := MW.c1
  rw [← HQ.out.1] at c1
  have HB : Hid (Below w.heap.size w w1) := hbq
  clear y0 y1
  obtain ⟨y0, y1⟩ := row_cells MW.rows HY.out
  obtain ⟨z0, z1⟩ := row_cells MW.rows HZ.out
  clear MW hbq hb cl
  go_wp2_with fail
  refine (cz _).mono ?_
  rintro e w3 ⟨rfl, hb⟩
  have hbq := HB.out.trans (hb.mono HB.out.size)
  have MW := HM.out.1.over hbq
  have c1 := MW.c1
  rw [← HQ.out.1] at c1
  have HB : Hid (Below w.heap.size w w3) := hbq
  clear MW hbq hb cz z0 z1
  go_wp2_with fail
  have MW := HM.out.1.over HB.out
  refine wp_region_held_then (fun w' => w'.cell? ⟨p, 1, none⟩ = some (.slice (some ⟨g, 0, none⟩) q cap)) _ (by kernel_rfl) rfl (by kernel_rfl) ?_
  have hHeld : (fun w' : World => w'.cell? ⟨p, 1, none⟩ = some (.slice (some ⟨g, 0, none⟩) q cap)) w3.drew := c1
  dsimp only [List.dropLast, List.length, List.getLast]
  ((refine takeL 0 (v := ?_) rfl (by kernel_rfl) (by kernel_rfl) (by kernel_rfl) (fun _ _ _ h => h) (by rfl) hHeld ?_ ?_; rotate_left; focus (intro w hSw; (try dsimp only at hSw); go_simp <;> with_reducible rfl); (try simp only [Act.put, List.setIfInBounds_toArray, List.set_cons_zero, List.set_cons_succ])); (refine takeL 1 (v := ?_) rfl (by kernel_rfl) (by kernel_rfl) (by kernel_rfl) (fun _ _ _ h => h) (by rfl) hHeld ?_ ?_; rotate_left; focus (intro w hSw; (try dsimp only at hSw); go_simp <;> with_reducible rfl); (try simp only [Act.put, List.setIfInBounds_toArray, List.set_cons_zero, List.set_cons_succ])); (refine takeL 2 (v := ?_) rfl (by kernel_rfl) (by kernel_rfl) (by kernel_rfl) (fun _ _ _ h => h) (by rfl) hHeld ?_ ?_; rotate_left; focus (intro w hSw; (try dsimp only at hSw); go_simp <;> with_reducible rfl); (try simp only [Act.put, List.setIfInBounds_toArray, List.set_cons_zero, List.set_cons_succ])); (refine takeL 3 (v := ?_) rfl (by kernel_rfl) (by kernel_rfl) (by kernel_rfl) (fun _ _ _ h => h) (by rfl) hHeld ?_ ?_; rotate_left; focus (intro w hSw; (try dsimp only at hSw); go_simp <;> with_reducible rfl); (try simp only [Act.put, List.setIfInBounds_toArray, List.set_cons_zero, List.set_cons_succ])); (refine takeL 4 (v := ?_) rfl (by kernel_rfl) (by kernel_rfl) (by kernel_rfl) (fun _ _ _ h => h) (by rfl) hHeld ?_ ?_; rotate_left; focus (intro w hSw; (try dsimp only at hSw); go_simp <;> with_reducible rfl); (try simp only [Act.put, List.setIfInBounds_toArray, List.set_cons_zero, List.set_cons_succ])); (refine takeL 5 (v := ?_) rfl (by kernel_rfl) (by kernel_rfl) (by kernel_rfl) (fun _ _ _ h => h) (by rfl) hHeld ?_ ?_; rotate_left; focus (intro w hSw; (try dsimp only at hSw); go_simp <;> with_reducible rfl); (try simp only [Act.put, List.setIfInBounds_toArray, List.set_cons_zero, List.set_cons_succ])); (refine takeL 6 (v := ?_) rfl (by kernel_rfl) (by kernel_rfl) (by kernel_rfl) (fun _ _ _ h => h) (by rfl) hHeld ?_ ?_; rotate_left; focus (intro w hSw; (try dsimp only at hSw); go_simp <;> with_reducible rfl); (try simp only [Act.put, List.setIfInBounds_toArray, List.set_cons_zero, List.set_cons_succ])); (refine takeL 7 (v := ?_) rfl (by kernel_rfl) (by kernel_rfl) (by kernel_rfl) (fun _ _ _ h => h) (by rfl) hHeld ?_ ?_; rotate_left; focus (intro w hSw; (try dsimp only at hSw); go_simp <;> with_reducible rfl); (try simp only [Act.put, List.setIfInBounds_toArray, List.set_cons_zero, List.set_cons_succ])); (refine takeL 8 (v := ?_) rfl (by kernel_rfl) (by kernel_rfl) (by kernel_rfl) (fun _ _ _ h => h) (by rfl) hHeld ?_ ?_; rotate_left; focus (intro w hSw; (try dsimp only at hSw); go_simp <;> with_reducible rfl); (try simp only [Act.put, List.setIfInBounds_toArray, List.set_cons_zero, List.set_cons_succ])))
  dsimp only [Act.put]
  simp only [List.setIfInBounds_toArray, List.set_cons_zero, List.set_cons_succ]
  refine callL 9 (f := 24) (vs := #[.int .i64 a, .int .i64 ze]) rfl (by kernel_rfl) (by rfl) (by go_simp) ?_
  refine (cb _).mono ?_
  rintro e w4 ⟨rfl, hb4⟩
  have M4 := (MW.of_block (w' := w3.drew) rfl rfl).over hb4
  have hB4 : Below w.heap.size w w4 := HB.out.drew.trans (hb4.mono HB.out.drew.size)
  have c4 := M4.c1
  rw [← HQ.out.1] at c4
  refine ⟨_, rfl, c4, ?_⟩
  have HU := srows_new w4 (ec (a, d)) 32 (ec_len _)
  have b5 := below1 w4 (.cells #[.int .i64 (a : Int), .int .i64 (d : Int)] 32)
  have M5 := M4.over b5
  have c5 := M5.c1
  rw [← HQ.out.1] at c5
  have r5 := M5.rows
  rw [← HQ.out.1] at r5
  have hB5 := hB4.trans (b5.mono hB4.size)
  refine newL 10 (w4.alloc (.cells #[.int .i64 (a : Int), .int .i64 (d : Int)] 32)) (.slice (some ⟨w4.heap.size, 0, none⟩) 1 1) rfl (by kernel_rfl) (by rfl) (by go_simp) c5 ?_
  have hZ : (hs.map ec).take k ++ (ec (a, d) :: (hs.map ec).drop t) = (hs.take k ++ (a, d) :: hs.drop t).map ec := by
    rw [List.map_append, List.map_cons, List.map_take, List.map_drop]
  have cr := rep_fill (i := k) (j := t) r5 HU (Nat.ne_of_gt M4.ltg) (ecs_one [(a, d)] _ (by simp)) (ecs_one _) (by have := HQ.out; omega) HQ.out.2.2.2.2.1 HQ.out.2.2.2.2.2.1 hZ
  obtain ⟨zz, hzz⟩ : ∃ zz, zz = (hs.take k ++ (a, d) :: hs.drop t).length := ⟨_, rfl⟩
  rw [List.length_map, ← hzz] at cr
  refine callL 11 (f := 40) (vs := #[.slice (some ⟨g, 0, none⟩) q cap, .int .i64 k, .int .i64 t, .slice (some ⟨w4.heap.size, 0, none⟩) 1 1]) rfl (by kernel_rfl) (by rfl) (by go_simp) ?_
  refine cr.mono ?_
  rintro e w6 ⟨g', cap', rfl, i1, i2, i3⟩
  have c6 : w6.cell? ⟨p, 1, none⟩ = some (.slice (some ⟨g, 0, none⟩) q cap) := by
    rw [HQ.out.1]
    exact (M5.box.kept i3 M5.ne).cell 1 _ rfl
  have f6 : w6.frozen? ⟨p, 1, none⟩ = false := (M5.box.kept i3 M5.ne).frozen 1
  rw [hzz] at i1
  refine ⟨_, rfl, c6, ?_⟩
  have hend := map_stored (hs := hs.take k ++ (a, d) :: hs.drop t) M5 hB5 i1 i2 i3
  rw [← hzz] at hend
  have HE : Hid (Nice 0 (hs.take k ++ (a, d) :: hs.drop t) → Within n (hs.take k ++ (a, d) :: hs.drop t) → MapTo w p g n (hs.take k ++ (a, d) :: hs.drop t) (w6.setCell ⟨p, 1, none⟩ (.slice (some ⟨g', 0, none⟩) zz cap'))) := hend
  clear hend hzz hZ r5 HU b5 i1 i2 i3 cr M5 M4 MW hB5 hB4 hb4 c5 c4 cb
  ((refine takeL 12 (v := ?_) rfl (by kernel_rfl) (by kernel_rfl) (by kernel_rfl) (fun _ _ _ h => h) (by rfl) c6 ?_ ?_; rotate_left; focus (intro w hSw; (try dsimp only at hSw); go_simp <;> with_reducible rfl); (try simp only [Act.put, List.setIfInBounds_toArray, List.set_cons_zero, List.set_cons_succ])); (refine takeL 13 (v := ?_) rfl (by kernel_rfl) (by kernel_rfl) (by kernel_rfl) (fun _ _ _ h => h) (by rfl) c6 ?_ ?_; rotate_left; focus (intro w hSw; (try dsimp only at hSw); go_simp <;> with_reducible rfl); (try simp only [Act.put, List.setIfInBounds_toArray, List.set_cons_zero, List.set_cons_succ])))
  refine doneL (by kernel_rfl) ?_
  dsimp only [Act.put]
  unfold Oper.wp
  go_simp
  go_wp2_with fail
  refine bodyPost_end (results_none rfl _ _ _) rfl ?_
  have hq := HQ.out
  have hfin := HM.out.2
  have he := HE.out
  rw [← hq.2.2.2.1, ← hq.2.2.1] at hfin
  rw [hfin.2] at he
  exact ⟨rfl, he hfin.1.1 hfin.1.2.1⟩

set_option maxRecDepth 4000 in
set_option maxHeartbeats 4000000 in
theorem fill_22 {w : World} {p g n cap : Nat} {hs : List (Nat × Nat)} (M : MapIs w p g n cap hs) (a c k : Nat) (hc : 1 ≤ c) (han : a + c ≤ n) (hU : Upto hs a k) (hk0 : 0 < k) {y : Nat × Nat} (hy : hs[k - 1]? = some y) (hya : y.1 + y.2 ≠ a) {z : Nat × Nat} (hz : hs[k]? = some z) (hza : z.1 ≠ a + c) {Zs : List (Nat × Nat)} (hZs : hs.take (k) ++ (a, (a + c) - a) :: hs.drop (k) = Zs) (hF : Filled hs Zs n a c) :
    Calls Try.prog 35 #[.pointer (some ⟨p, 0, none⟩), .int .i64 k, .agg #[.int .i64 a, .int .i64 c]] w fun e w' => e = .returned (.tuple #[]) ∧ MapTo w p g n Zs w' := by
  obtain ⟨q, hq⟩ : ∃ q, q = hs.length := ⟨_, rfl⟩
  have hkl : k ≤ q := by rw [hq]; exact hU.1
  have hfew := M.few
  have hn2 := M.n2
  rw [← hq] at hfew
  have hb1 := below1 w (.cells #[.int .i64 a, .int .i64 c] 32)
  have B0 := box_new w #[.int .i64 a, .int .i64 c] 32
  have x0 := above_cell (B0.cell 0 _ rfl)
  have x1 := above_cell (B0.cell 1 _ rfl)
  obtain ⟨u, hu⟩ : ∃ u, u = a + c := ⟨_, rfl⟩
  have ca := fun W => end_any a c u W (by rw [IntKind.wrap_i64]; omega)
  obtain ⟨f, hf⟩ : ∃ f, f = k := ⟨_, rfl⟩
  obtain ⟨t, ht⟩ : ∃ t, t = k := ⟨_, rfl⟩
  obtain ⟨kk, hkk⟩ : ∃ kk, kk = k - 1 := ⟨_, rfl⟩
  have hyn := M.within y (List.mem_of_getElem? hy)
  rw [← hkk] at hy
  obtain ⟨ye, hye⟩ : ∃ ye, ye = y.1 + y.2 := ⟨_, rfl⟩
  have cl := fun W => end_any y.1 y.2 ye W (by rw [IntKind.wrap_i64]; omega)
  have hwk : IntKind.i64.wrap ((k : Int) - 1) = (kk : Int) := by rw [IntKind.wrap_i64]; omega
  have hk1 : (0 : Int) < (k : Int) := by omega
  have hkkI : (kk : Int) < (q : Int) := by omega
  have hyI : ¬ (ye : Int) = (a : Int) := by omega
  have hzn := M.within z (List.mem_of_getElem? hz)
  have hkq : k < q := by rw [hq]; exact (List.getElem?_eq_some_iff.1 hz).1
  have hkqI : (k : Int) < (q : Int) := by omega
  have hzI : ¬ (z.1 : Int) = (u : Int) := by omega
  obtain ⟨d, hd⟩ : ∃ d, d = (a + c) - a := ⟨_, rfl⟩
  have cb := fun W => between_any a u d W (by rw [IntKind.wrap_i64]; omega)
  have HQ : Hid (q = hs.length ∧ k = k ∧ k = k ∧ d = (a + c) - a ∧ k ≤ k ∧ k ≤ q ∧ q ≤ 4096) := ⟨hq, by omega, by omega, hd, by omega, by omega, by omega⟩
  have HM : Hid (MapIs w p g n cap hs ∧ Filled hs Zs n a c ∧ hs.take (k) ++ (a, (a + c) - a) :: hs.drop (k) = Zs) := ⟨M, hF, hZs⟩
  have HB1 : Hid (Below w.heap.size w (w.alloc (.cells #[.int .i64 a, .int .i64 c] 32))) := hb1
  have HY : Hid (hs[kk]? = some y) := hy
  have HZ : Hid (hs[k]? = some z) := hz
  clear M hU hF hZs hq hd hf ht hfew hn2 hb1 B0 hu hc han hyn hy hye hkk hya hzn hz hza
  go_enter Try.func35, Try.ntmps35
  go_wp2_with fail
  refine wp_region_above (by kernel_rfl) (by kernel_rfl) ?_
  intro hne
  repeat (go_big_quiet_step ((go_at_call 34; exact above_of (ca _))))
  refine wpQuiet_nil ?_
  rintro _ ⟨kq, rfl⟩
  have hbq := HB1.out.trans (kq.is.mono HB1.out.size)
  obtain ⟨W, hW⟩ : ∃ W, W = kq.it := ⟨_, rfl⟩
  rw [← hW] at hbq
  rw [← hW]
  clear hW x0 x1 ca hne HB1 kq
  have MW := HM.out.1.over hbq
  have c1 := MW.c1
  rw [← HQ.out.1] at c1
  have HB : Hid (Below w.heap.size w W) := hbq
  obtain ⟨y0, y1⟩ := row_cells MW.rows HY.out
  clear MW hbq
  go_wp2_with fail
  refine (cl _).mono ?_
  rintro e w1 ⟨rfl, hb⟩
  have hbq := HB.out.trans (hb.mono HB.out.size)
  have MW := HM.out.1.over hbq
  have c1 := MW.c1
  rw [← HQ.out.1] at c1
  have HB : Hid (Below w.heap.size w w1) := hbq
  clear y0 y1
  obtain ⟨y0, y1⟩ := row_cells MW.rows HY.out
  obtain ⟨z0, z1⟩ := row_cells MW.rows HZ.out
  clear MW hbq hb cl
  go_wp2_with fail
  have MW := HM.out.1.over HB.out
  refine wp_region_held_then (fun w' => w'.cell? ⟨p, 1, none⟩ = some (.slice (some ⟨g, 0, none⟩) q cap)) _ (by kernel_rfl) rfl (by kernel_rfl) ?_
  have hHeld : (fun w' : World => w'.cell? ⟨p, 1, none⟩ = some (.slice (some ⟨g, 0, none⟩) q cap)) w1.drew := c1
  dsimp only [List.dropLast, List.length, List.getLast]
  ((refine takeL 0 (v := ?_) rfl (by kernel_rfl) (by kernel_rfl) (by kernel_rfl) (fun _ _ _ h => h) (by rfl) hHeld ?_ ?_; rotate_left; focus (intro w hSw; (try dsimp only at hSw); go_simp <;> with_reducible rfl); (try simp only [Act.put, List.setIfInBounds_toArray, List.set_cons_zero, List.set_cons_succ])); (refine takeL 1 (v := ?_) rfl (by kernel_rfl) (by kernel_rfl) (by kernel_rfl) (fun _ _ _ h => h) (by rfl) hHeld ?_ ?_; rotate_left; focus (intro w hSw; (try dsimp only at hSw); go_simp <;> with_reducible rfl); (try simp only [Act.put, List.setIfInBounds_toArray, List.set_cons_zero, List.set_cons_succ])); (refine takeL 2 (v := ?_) rfl (by kernel_rfl) (by kernel_rfl) (by kernel_rfl) (fun _ _ _ h => h) (by rfl) hHeld ?_ ?_; rotate_left; focus (intro w hSw; (try dsimp only at hSw); go_simp <;> with_reducible rfl); (try simp only [Act.put, List.setIfInBounds_toArray, List.set_cons_zero, List.set_cons_succ])); (refine takeL 3 (v := ?_) rfl (by kernel_rfl) (by kernel_rfl) (by kernel_rfl) (fun _ _ _ h => h) (by rfl) hHeld ?_ ?_; rotate_left; focus (intro w hSw; (try dsimp only at hSw); go_simp <;> with_reducible rfl); (try simp only [Act.put, List.setIfInBounds_toArray, List.set_cons_zero, List.set_cons_succ])); (refine takeL 4 (v := ?_) rfl (by kernel_rfl) (by kernel_rfl) (by kernel_rfl) (fun _ _ _ h => h) (by rfl) hHeld ?_ ?_; rotate_left; focus (intro w hSw; (try dsimp only at hSw); go_simp <;> with_reducible rfl); (try simp only [Act.put, List.setIfInBounds_toArray, List.set_cons_zero, List.set_cons_succ])); (refine takeL 5 (v := ?_) rfl (by kernel_rfl) (by kernel_rfl) (by kernel_rfl) (fun _ _ _ h => h) (by rfl) hHeld ?_ ?_; rotate_left; focus (intro w hSw; (try dsimp only at hSw); go_simp <;> with_reducible rfl); (try simp only [Act.put, List.setIfInBounds_toArray, List.set_cons_zero, List.set_cons_succ])); (refine takeL 6 (v := ?_) rfl (by kernel_rfl) (by kernel_rfl) (by kernel_rfl) (fun _ _ _ h => h) (by rfl) hHeld ?_ ?_; rotate_left; focus (intro w hSw; (try dsimp only at hSw); go_simp <;> with_reducible rfl); (try simp only [Act.put, List.setIfInBounds_toArray, List.set_cons_zero, List.set_cons_succ])); (refine takeL 7 (v := ?_) rfl (by kernel_rfl) (by kernel_rfl) (by kernel_rfl) (fun _ _ _ h => h) (by rfl) hHeld ?_ ?_; rotate_left; focus (intro w hSw; (try dsimp only at hSw); go_simp <;> with_reducible rfl); (try simp only [Act.put, List.setIfInBounds_toArray, List.set_cons_zero, List.set_cons_succ])); (refine takeL 8 (v := ?_) rfl (by kernel_rfl) (by kernel_rfl) (by kernel_rfl) (fun _ _ _ h => h) (by rfl) hHeld ?_ ?_; rotate_left; focus (intro w hSw; (try dsimp only at hSw); go_simp <;> with_reducible rfl); (try simp only [Act.put, List.setIfInBounds_toArray, List.set_cons_zero, List.set_cons_succ])))
  dsimp only [Act.put]
  simp only [List.setIfInBounds_toArray, List.set_cons_zero, List.set_cons_succ]
  refine callL 9 (f := 24) (vs := #[.int .i64 a, .int .i64 u]) rfl (by kernel_rfl) (by rfl) (by go_simp) ?_
  refine (cb _).mono ?_
  rintro e w4 ⟨rfl, hb4⟩
  have M4 := (MW.of_block (w' := w1.drew) rfl rfl).over hb4
  have hB4 : Below w.heap.size w w4 := HB.out.drew.trans (hb4.mono HB.out.drew.size)
  have c4 := M4.c1
  rw [← HQ.out.1] at c4
  refine ⟨_, rfl, c4, ?_⟩
  have HU := srows_new w4 (ec (a, d)) 32 (ec_len _)
  have b5 := below1 w4 (.cells #[.int .i64 (a : Int), .int .i64 (d : Int)] 32)
  have M5 := M4.over b5
  have c5 := M5.c1
  rw [← HQ.out.1] at c5
  have r5 := M5.rows
  rw [← HQ.out.1] at r5
  have hB5 := hB4.trans (b5.mono hB4.size)
  refine newL 10 (w4.alloc (.cells #[.int .i64 (a : Int), .int .i64 (d : Int)] 32)) (.slice (some ⟨w4.heap.size, 0, none⟩) 1 1) rfl (by kernel_rfl) (by rfl) (by go_simp) c5 ?_
  have hZ : (hs.map ec).take k ++ (ec (a, d) :: (hs.map ec).drop k) = (hs.take k ++ (a, d) :: hs.drop k).map ec := by
    rw [List.map_append, List.map_cons, List.map_take, List.map_drop]
  have cr := rep_fill (i := k) (j := k) r5 HU (Nat.ne_of_gt M4.ltg) (ecs_one [(a, d)] _ (by simp)) (ecs_one _) (by have := HQ.out; omega) HQ.out.2.2.2.2.1 HQ.out.2.2.2.2.2.1 hZ
  obtain ⟨zz, hzz⟩ : ∃ zz, zz = (hs.take k ++ (a, d) :: hs.drop k).length := ⟨_, rfl⟩
  rw [List.length_map, ← hzz] at cr
  refine callL 11 (f := 40) (vs := #[.slice (some ⟨g, 0, none⟩) q cap, .int .i64 k, .int .i64 k, .slice (some ⟨w4.heap.size, 0, none⟩) 1 1]) rfl (by kernel_rfl) (by rfl) (by go_simp) ?_
  refine cr.mono ?_
  rintro e w6 ⟨g', cap', rfl, i1, i2, i3⟩
  have c6 : w6.cell? ⟨p, 1, none⟩ = some (.slice (some ⟨g, 0, none⟩) q cap) := by
    rw [HQ.out.1]
    exact (M5.box.kept i3 M5.ne).cell 1 _ rfl
  have f6 : w6.frozen? ⟨p, 1, none⟩ = false := (M5.box.kept i3 M5.ne).frozen 1
  rw [hzz] at i1
  refine ⟨_, rfl, c6, ?_⟩
  have hend := map_stored (hs := hs.take k ++ (a, d) :: hs.drop k) M5 hB5 i1 i2 i3
  rw [← hzz] at hend
  have HE : Hid (Nice 0 (hs.take k ++ (a, d) :: hs.drop k) → Within n (hs.take k ++ (a, d) :: hs.drop k) → MapTo w p g n (hs.take k ++ (a, d) :: hs.drop k) (w6.setCell ⟨p, 1, none⟩ (.slice (some ⟨g', 0, none⟩) zz cap'))) := hend
  clear hend hzz hZ r5 HU b5 i1 i2 i3 cr M5 M4 MW hB5 hB4 hb4 c5 c4 cb
  ((refine takeL 12 (v := ?_) rfl (by kernel_rfl) (by kernel_rfl) (by kernel_rfl) (fun _ _ _ h => h) (by rfl) c6 ?_ ?_; rotate_left; focus (intro w hSw; (try dsimp only at hSw); go_simp <;> with_reducible rfl); (try simp only [Act.put, List.setIfInBounds_toArray, List.set_cons_zero, List.set_cons_succ])); (refine takeL 13 (v := ?_) rfl (by kernel_rfl) (by kernel_rfl) (by kernel_rfl) (fun _ _ _ h => h) (by rfl) c6 ?_ ?_; rotate_left; focus (intro w hSw; (try dsimp only at hSw); go_simp <;> with_reducible rfl); (try simp only [Act.put, List.setIfInBounds_toArray, List.set_cons_zero, List.set_cons_succ])))
  refine doneL (by kernel_rfl) ?_
  dsimp only [Act.put]
  unfold Oper.wp
  go_simp
  go_wp2_with fail
  refine bodyPost_end (results_none rfl _ _ _) rfl ?_
  have hq := HQ.out
  have hfin := HM.out.2
  have he := HE.out
  rw [← hq.2.2.2.1] at hfin
  rw [hfin.2] at he
  exact ⟨rfl, he hfin.1.1 hfin.1.2.1⟩


theorem fill_any {w : World} {p g n cap : Nat} {hs : List (Nat × Nat)} (M : MapIs w p g n cap hs) (a c k : Nat) (hc : 1 ≤ c) (han : a + c ≤ n) (hU : Upto hs a k) (hz : ∀ z, hs[k]? = some z → a + c ≤ z.1) :
    Calls Try.prog 35 #[.pointer (some ⟨p, 0, none⟩), .int .i64 k, .agg #[.int .i64 a, .int .i64 c]] w fun e w' => e = .returned (.tuple #[]) ∧ ∃ hs', Filled hs hs' n a c ∧ MapTo w p g n hs' w' := by
  have hnice := M.nice
  have hwi := M.within
  have hsplit : hs.take k ++ hs.drop k = hs := List.take_append_drop k hs
  have hA : Nice 0 (hs.take k) := nice_take (B := hs.drop k) (by rw [hsplit]; exact hnice)
  have hlA : ∀ h ∈ hs.take k, h.1 + h.2 ≤ a := by
    intro h hh
    obtain ⟨j, hj⟩ := List.mem_iff_getElem?.1 hh
    rw [List.getElem?_take] at hj
    split at hj
    · have := hU.2.1 j h (by assumption) hj
      omega
    · cases hj
  obtain ⟨m, hB⟩ : ∃ m, Nice m (hs.drop k) := nice_drop (A := hs.take k) (lo := 0) (by rw [hsplit]; exact hnice)
  have left : (k = 0 ∨ ∃ y, 0 < k ∧ hs[k - 1]? = some y ∧ y.1 + y.2 ≠ a) ∨ ∃ y, 0 < k ∧ hs[k - 1]? = some y ∧ y.1 + y.2 = a := by
    by_cases h0 : k = 0
    · exact .inl (.inl h0)
    · obtain ⟨y, hy⟩ : ∃ y, hs[k - 1]? = some y := ⟨_, List.getElem?_eq_getElem (by have := hU.1; omega)⟩
      by_cases he : y.1 + y.2 = a
      · exact .inr ⟨y, by omega, hy, he⟩
      · exact .inl (.inr ⟨y, by omega, hy, he⟩)
  have right : (k = hs.length ∨ ∃ z, hs[k]? = some z ∧ z.1 ≠ a + c) ∨ ∃ z, hs[k]? = some z ∧ z.1 = a + c := by
    by_cases h0 : k = hs.length
    · exact .inl (.inl h0)
    · obtain ⟨z, hy⟩ : ∃ y, hs[k]? = some y := ⟨_, List.getElem?_eq_getElem (by have := hU.1; omega)⟩
      by_cases he : z.1 = a + c
      · exact .inr ⟨z, hy, he⟩
      · exact .inl (.inr ⟨z, hy, he⟩)
  have rightNo : (k = hs.length ∨ ∃ z, hs[k]? = some z ∧ z.1 ≠ a + c) → Nice (a + c + 1) (hs.drop k) := by
    rintro (h0 | ⟨z, h1, h2⟩)
    · rw [h0, List.drop_length]; trivial
    · refine nice_head hB ?_
      intro x t hx
      rw [head_of_drop h1] at hx
      simp only [List.cons.injEq] at hx
      have := hz z h1
      rw [← hx.1]
      omega
  have leftNo : (k = 0 ∨ ∃ y, 0 < k ∧ hs[k - 1]? = some y ∧ y.1 + y.2 ≠ a) → ∀ h ∈ hs.take k, h.1 + h.2 + 1 ≤ a := by
    rintro (h0 | ⟨y, h1, h2, h3⟩)
    · intro h hh; rw [h0] at hh; simp at hh
    · refine left_no hA hlA ?_
      intro A' y' e
      rw [end_of_take h1 h2] at e
      have := List.append_inj_right' e rfl
      simp only [List.cons.injEq, and_true] at this
      rw [← this]
      exact h3
  rcases left with hl | ⟨y, y1, y2, y3⟩
  · have l1 := leftNo hl
    rcases right with hr | ⟨z, z1, z2⟩
    · have r1 := rightNo hr
      have hF : Filled hs (hs.take k ++ (a, a + c - a) :: hs.drop k) n a c := by
        have := fill_pure (M := []) (n := n) (a := a) (c := c) hA l1 r1 (by rw [List.nil_append, hsplit]; exact hwi) (by omega) han (fun b => by simp [free_nil])
        rw [List.nil_append, hsplit] at this
        exact this
      rcases hl with h0 | ⟨y, y1, y2, y3⟩ <;> rcases hr with g0 | ⟨z, z1, z2⟩
      · exact (fill_00 M a c k hc han hU h0 g0 rfl hF).mono fun e w' ⟨h1, h2⟩ => ⟨h1, _, hF, h2⟩
      · exact (fill_02 M a c k hc han hU h0 z1 z2 rfl hF).mono fun e w' ⟨h1, h2⟩ => ⟨h1, _, hF, h2⟩
      · exact (fill_20 M a c k hc han hU y1 y2 y3 g0 rfl hF).mono fun e w' ⟨h1, h2⟩ => ⟨h1, _, hF, h2⟩
      · exact (fill_22 M a c k hc han hU y1 y2 y3 z1 z2 rfl hF).mono fun e w' ⟨h1, h2⟩ => ⟨h1, _, hF, h2⟩
    · have hd := head_of_drop z1
      have hzn := hwi z (List.mem_of_getElem? z1)
      rw [hd] at hB hsplit
      have hz1 := hB.2.1
      have hF : Filled hs (hs.take k ++ (a, z.1 + z.2 - a) :: hs.drop (k + 1)) n a c := by
        have := fill_pure (M := [z]) (n := n) (a := a) (c := c) (lo := a) (hi := z.1 + z.2) hA l1 hB.2.2 (by rw [List.singleton_append, hsplit]; exact hwi) (by omega) hzn (fun b => by simp only [free_cons, free_nil, or_false]; omega)
        rw [List.singleton_append, hsplit] at this
        exact this
      rcases hl with h0 | ⟨y, y1, y2, y3⟩
      · exact (fill_01 M a c k hc han hU h0 z1 z2 rfl hF).mono fun e w' ⟨h1, h2⟩ => ⟨h1, _, hF, h2⟩
      · exact (fill_21 M a c k hc han hU y1 y2 y3 z1 z2 rfl hF).mono fun e w' ⟨h1, h2⟩ => ⟨h1, _, hF, h2⟩
  · have ht := end_of_take y1 y2
    rw [ht] at hA
    obtain ⟨k1, k2, k3, _⟩ := nice_mid hA
    rcases right with hr | ⟨z, z1, z2⟩
    · have r1 := rightNo hr
      have hF : Filled hs (hs.take (k - 1) ++ (y.1, a + c - y.1) :: hs.drop k) n a c := by
        rw [ht, List.append_assoc] at hsplit
        have := fill_pure (M := [y]) (n := n) (a := a) (c := c) (lo := y.1) (hi := a + c) k1 k2 r1 (by rw [hsplit]; exact hwi) (by omega) han (fun b => by simp only [free_cons, free_nil, or_false]; omega)
        rw [hsplit] at this
        exact this
      rcases hr with g0 | ⟨z, z1, z2⟩
      · exact (fill_10 M a c k hc han hU y1 y2 y3 g0 rfl hF).mono fun e w' ⟨h1, h2⟩ => ⟨h1, _, hF, h2⟩
      · exact (fill_12 M a c k hc han hU y1 y2 y3 z1 z2 rfl hF).mono fun e w' ⟨h1, h2⟩ => ⟨h1, _, hF, h2⟩
    · have hd := head_of_drop z1
      have hzn := hwi z (List.mem_of_getElem? z1)
      rw [hd] at hB hsplit
      have hF : Filled hs (hs.take (k - 1) ++ (y.1, z.1 + z.2 - y.1) :: hs.drop (k + 1)) n a c := by
        rw [ht, List.append_assoc, List.singleton_append] at hsplit
        have hz1 := hB.2.1
        have := fill_pure (M := [y, z]) (n := n) (a := a) (c := c) (lo := y.1) (hi := z.1 + z.2) k1 k2 hB.2.2 (by simp only [List.cons_append, List.nil_append]; rw [hsplit]; exact hwi) (by omega) hzn (fun b => by simp only [free_cons, free_nil, or_false]; omega)
        simp only [List.cons_append, List.nil_append] at this
        rw [hsplit] at this
        exact this
      exact (fill_11 M a c k hc han hU y1 y2 y3 z1 z2 rfl hF).mono fun e w' ⟨h1, h2⟩ => ⟨h1, _, hF, h2⟩
end Go.Proofs.Ytjnobdgigeejnaa
