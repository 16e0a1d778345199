/-
  The contracts of a map's Copy, Take and Free.
-/
import Derived.Test.YtjnobdgigeejnaaEMeth
import Derived.Test.YtjnobdgigeejnaaEFill
namespace Go.Proofs.Ytjnobdgigeejnaa
open Go.RowKit

def AllFree (hs : List (Nat × Nat)) (a c : Nat) : Prop := ∀ b, a ≤ b → b < a + c → FreeAt hs b
def NoneFree (hs : List (Nat × Nat)) (a c : Nat) : Prop := ∀ b, a ≤ b → b < a + c → ¬ FreeAt hs b
def Cut (hs hs' : List (Nat × Nat)) (n a c : Nat) : Prop := Nice 0 hs' ∧ Within n hs' ∧ ∀ b, FreeAt hs' b ↔ FreeAt hs b ∧ ¬ (a ≤ b ∧ b < a + c)
section
variable {hs : List (Nat × Nat)} {a c k : Nat} {z : Nat × Nat}
/-- What lies behind the first k. -/
theorem upto_free (hn : Nice 0 hs) (hU : Upto hs a k) (b : Nat) (hb : a ≤ b) (hf : FreeAt hs b) : ∃ z, hs[k]? = some z ∧ z.1 ≤ b := by
  obtain ⟨h, hm, h1, h2⟩ := hf
  obtain ⟨j, hj⟩ := List.mem_iff_getElem?.1 hm
  have hjk : k ≤ j := by
    refine Nat.le_of_not_lt fun hlt => ?_
    have := hU.2.1 j h hlt hj
    omega
  have hjl := (List.getElem?_eq_some_iff.1 hj).1
  obtain ⟨z, hz⟩ : ∃ z, hs[k]? = some z := ⟨_, List.getElem?_eq_getElem (by omega)⟩
  refine ⟨z, hz, ?_⟩
  by_cases e : k = j
  · subst e
    rw [hz] at hj
    cases hj
    exact h1
  · have hd : hs = hs.take k ++ z :: hs.drop (k + 1) := by rw [← head_of_drop hz, List.take_append_drop]
    have hmem : h ∈ hs.drop (k + 1) := by
      refine List.mem_iff_getElem?.2 ⟨j - (k + 1), ?_⟩
      rw [List.getElem?_drop, show k + 1 + (j - (k + 1)) = j by omega]
      exact hj
    rw [hd] at hn
    have := (nice_tail hn).mem_ge h hmem
    omega
theorem take_no0 (hn : Nice 0 hs) (hc : 1 ≤ c) (hU : Upto hs a k) (hk : k = hs.length) : ¬ AllFree hs a c := fun h => by
  obtain ⟨z, hz, _⟩ := upto_free hn hU a (Nat.le_refl _) (h a (Nat.le_refl _) (by omega))
  have := (List.getElem?_eq_some_iff.1 hz).1
  omega
theorem take_no1 (hn : Nice 0 hs) (hc : 1 ≤ c) (hU : Upto hs a k) (hz : hs[k]? = some z) (h : a < z.1) : ¬ AllFree hs a c := fun hf => by
  obtain ⟨z', hz', h'⟩ := upto_free hn hU a (Nat.le_refl _) (hf a (Nat.le_refl _) (by omega))
  rw [hz] at hz'
  cases hz'
  omega
theorem split_at (hz : hs[k]? = some z) : hs = hs.take k ++ z :: hs.drop (k + 1) := by rw [← head_of_drop hz, List.take_append_drop]
theorem take_no2 (hn : Nice 0 hs) (hU : Upto hs a k) (hz : hs[k]? = some z) (h : z.1 + z.2 < a + c) : ¬ AllFree hs a c := fun hf => by
  have h1 := hU.2.2 k z (Nat.le_refl _) hz
  have hfree := hf (z.1 + z.2) (by omega) h
  rw [split_at hz, free_append, free_cons] at hfree
  rw [split_at hz] at hn
  obtain ⟨_, k2, _, k4⟩ := nice_mid hn
  rcases hfree with ⟨x, hx, hb⟩ | hb | hb
  · have := k2 x hx; omega
  · omega
  · have := k4.ge hb; omega
theorem take_yes (hz : hs[k]? = some z) (h1 : z.1 ≤ a) (h : a + c ≤ z.1 + z.2) : AllFree hs a c := fun b h2 h3 => ⟨z, List.mem_of_getElem? hz, by omega, by omega⟩
theorem free_no (hU : Upto hs a k) (hz : hs[k]? = some z) (hc : 1 ≤ c) (hz2 : 1 ≤ z.2) (h : z.1 < a + c) : ¬ NoneFree hs a c := fun hf => by
  have h1 := hU.2.2 k z (Nat.le_refl _) hz
  exact hf (max a z.1) (by omega) (by omega) ⟨z, List.mem_of_getElem? hz, by omega, by omega⟩
theorem free_yes (hn : Nice 0 hs) (hU : Upto hs a k) (h : ∀ z, hs[k]? = some z → a + c ≤ z.1) : NoneFree hs a c := fun b h2 h3 hf => by
  obtain ⟨z, hz, h4⟩ := upto_free hn hU b h2 hf
  have := h z hz
  omega
end

/-- A map of its own. -/
def NewMap (w w' : World) (p n : Nat) (hs : List (Nat × Nat)) : Prop := ∃ g cap, MapIs w' p g n cap hs ∧ w.heap.size ≤ p ∧ w.heap.size ≤ g

set_option maxRecDepth 4000 in
set_option maxHeartbeats 4000000 in
theorem copy_any {w : World} {p g n cap : Nat} {hs : List (Nat × Nat)} (M : MapIs w p g n cap hs) :
    Calls Try.prog 21 #[.pointer (some ⟨p, 0, none⟩)] w fun e w' => (∃ p', e = .returned (.pointer (some ⟨p', 0, none⟩)) ∧ NewMap w w' p' n hs) ∧ Below w.heap.size w w' := by
  have cg := given_any _ n w M.size
  have hd : decide (0 < n) = true := by have := M.n1; simp; omega
  rw [hd] at cg
  have cc := clone_any (w := w.drew) (M.of_block (w' := w.drew) rfl rfl).rows (ecs_one hs) (by have := M.few; have := M.n2; omega)
  have c0 := M.c0
  have c1 := M.c1
  obtain ⟨q, hq⟩ : ∃ q, q = hs.length := ⟨_, rfl⟩
  rw [← hq] at c1 cc
  have HM : Hid (MapIs w p g n cap hs ∧ q = hs.length) := ⟨M, hq⟩
  clear M hd hq
  go_enter Try.func21, Try.ntmps21
  go_wp2_with fail
  refine cg.mono ?_
  rintro e w1 ⟨rfl, hw1⟩
  replace hw1 := hw1.symm
  subst hw1
  clear cg
  go_wp2_with fail
  refine wp_region_held_then (fun w' => w'.cell? ⟨p, 0, none⟩ = some (.int .i64 n) ∧ w'.cell? ⟨p, 1, none⟩ = some (.slice (some ⟨g, 0, none⟩) q cap)) _ (by kernel_rfl) rfl (by kernel_rfl) ?_
  have hHeld : (fun w' : World => w'.cell? ⟨p, 0, none⟩ = some (.int .i64 n) ∧ w'.cell? ⟨p, 1, none⟩ = some (.slice (some ⟨g, 0, none⟩) q cap)) w.drew := ⟨c0, c1⟩
  dsimp only [List.dropLast, List.length, List.getLast]
  ((refine takeL 0 (v := ?_) rfl (by kernel_rfl) (by kernel_rfl) (by kernel_rfl) (fun _ _ _ h => h) (by rfl) hHeld ?_ ?_; rotate_left; focus (intro w hSw; (try dsimp only at hSw); go_simp <;> with_reducible rfl); (try simp only [Act.put, List.setIfInBounds_toArray, List.set_cons_zero, List.set_cons_succ])); (refine takeL 1 (v := ?_) rfl (by kernel_rfl) (by kernel_rfl) (by kernel_rfl) (fun _ _ _ h => h) (by rfl) hHeld ?_ ?_; rotate_left; focus (intro w hSw; (try dsimp only at hSw); go_simp <;> with_reducible rfl); (try simp only [Act.put, List.setIfInBounds_toArray, List.set_cons_zero, List.set_cons_succ])); (refine takeL 2 (v := ?_) rfl (by kernel_rfl) (by kernel_rfl) (by kernel_rfl) (fun _ _ _ h => h) (by rfl) hHeld ?_ ?_; rotate_left; focus (intro w hSw; (try dsimp only at hSw); go_simp <;> with_reducible rfl); (try simp only [Act.put, List.setIfInBounds_toArray, List.set_cons_zero, List.set_cons_succ])); (refine takeL 3 (v := ?_) rfl (by kernel_rfl) (by kernel_rfl) (by kernel_rfl) (fun _ _ _ h => h) (by rfl) hHeld ?_ ?_; rotate_left; focus (intro w hSw; (try dsimp only at hSw); go_simp <;> with_reducible rfl); (try simp only [Act.put, List.setIfInBounds_toArray, List.set_cons_zero, List.set_cons_succ])); (refine takeL 4 (v := ?_) rfl (by kernel_rfl) (by kernel_rfl) (by kernel_rfl) (fun _ _ _ h => h) (by rfl) hHeld ?_ ?_; rotate_left; focus (intro w hSw; (try dsimp only at hSw); go_simp <;> with_reducible rfl); (try simp only [Act.put, List.setIfInBounds_toArray, List.set_cons_zero, List.set_cons_succ])); (refine takeL 5 (v := ?_) rfl (by kernel_rfl) (by kernel_rfl) (by kernel_rfl) (fun _ _ _ h => h) (by rfl) hHeld ?_ ?_; rotate_left; focus (intro w hSw; (try dsimp only at hSw); go_simp <;> with_reducible rfl); (try simp only [Act.put, List.setIfInBounds_toArray, List.set_cons_zero, List.set_cons_succ])); (refine takeL 6 (v := ?_) rfl (by kernel_rfl) (by kernel_rfl) (by kernel_rfl) (fun _ _ _ h => h) (by rfl) hHeld ?_ ?_; rotate_left; focus (intro w hSw; (try dsimp only at hSw); go_simp <;> with_reducible rfl); (try simp only [Act.put, List.setIfInBounds_toArray, List.set_cons_zero, List.set_cons_succ])); (refine takeL 7 (v := ?_) rfl (by kernel_rfl) (by kernel_rfl) (by kernel_rfl) (fun _ _ _ h => h) (by rfl) hHeld ?_ ?_; rotate_left; focus (intro w hSw; (try dsimp only at hSw); go_simp <;> with_reducible rfl); (try simp only [Act.put, List.setIfInBounds_toArray, List.set_cons_zero, List.set_cons_succ])))
  dsimp only [Act.put]
  simp only [List.setIfInBounds_toArray, List.set_cons_zero, List.set_cons_succ]
  refine callL 8 (f := 39) (vs := #[.slice (some ⟨g, 0, none⟩) q cap]) rfl (by kernel_rfl) (by rfl) (by go_simp) ?_
  refine cc.mono ?_
  rintro e w4 ⟨⟨g', cap', rfl, h1, h2⟩, hb⟩
  have hb : Below w.heap.size w w4 := ⟨hb.os, hb.tape, hb.output, hb.size, hb.block⟩
  have M4 := HM.out.1.over hb
  have c04 := M4.c0
  have c14 := M4.c1
  rw [← HM.out.2] at c14
  have hHeld2 : (fun w' : World => w'.cell? ⟨p, 0, none⟩ = some (.int .i64 n) ∧ w'.cell? ⟨p, 1, none⟩ = some (.slice (some ⟨g, 0, none⟩) q cap)) w4 := ⟨c04, c14⟩
  refine ⟨_, rfl, hHeld2, ?_⟩
  have HE : Hid (SRows w4 (.slice (some ⟨g', 0, none⟩) q cap') 32 2 (hs.map ec) ∧ w.heap.size ≤ g' ∧ Below w.heap.size w w4) := ⟨h1, h2, hb⟩
  have b5 := below1 w4 (.cells #[.int .i64 (n : Int), .slice (some ⟨g', 0, none⟩) q cap'] 57)
  have M5 := M4.over b5
  have hHeld3 : (fun w' : World => w'.cell? ⟨p, 0, none⟩ = some (.int .i64 n) ∧ w'.cell? ⟨p, 1, none⟩ = some (.slice (some ⟨g, 0, none⟩) q cap)) (w4.alloc (.cells #[.int .i64 (n : Int), .slice (some ⟨g', 0, none⟩) q cap'] 57)) := ⟨M5.c0, by have h := M5.c1; rw [← HM.out.2] at h; exact h⟩
  clear cc h1 h2 hb M4 M5 b5 c04 c14 c0 c1
  ((refine takeL 9 (v := ?_) rfl (by kernel_rfl) (by kernel_rfl) (by kernel_rfl) (fun _ _ _ h => h) (by rfl) hHeld2 ?_ ?_; rotate_left; focus (intro w hSw; (try dsimp only at hSw); go_simp <;> with_reducible rfl); (try simp only [Act.put, List.setIfInBounds_toArray, List.set_cons_zero, List.set_cons_succ])))
  refine newL 10 (w4.alloc (.cells #[.int .i64 (n : Int), .slice (some ⟨g', 0, none⟩) q cap'] 57)) (.pointer (some ⟨w4.heap.size, 0, none⟩)) rfl (by kernel_rfl) (by rfl) (by go_simp) hHeld3 ?_
  refine doneL (by kernel_rfl) ?_
  dsimp only [Act.put]
  unfold Oper.wp
  go_simp
  go_wp2_with fail
  go_ret
  have he := HE.out
  have hm := HM.out
  have hbox := box_new w4 #[.int .i64 (n : Int), .slice (some ⟨g', 0, none⟩) q cap'] 57
  rw [hm.2] at hbox he ⊢
  have b5 := below1 w4 (.cells #[.int .i64 (n : Int), .slice (some ⟨g', 0, none⟩) hs.length cap'] 57)
  have hgl : g' < w4.heap.size := he.1.lt rfl
  refine ⟨⟨w4.heap.size, rfl, g', cap', { box := hbox, rows := he.1.of_block (fun k hk => b5.block k (he.1.lt hk)), ne := by omega, nice := hm.1.nice, within := hm.1.within, n1 := hm.1.n1, n2 := hm.1.n2 }, he.2.2.size, he.2.1⟩, he.2.2.trans (b5.mono he.2.2.size)⟩

/-- What Take leaves. -/
def TakePost (w : World) (p g n : Nat) (hs : List (Nat × Nat)) (a c : Nat) (e : Ending) (w' : World) : Prop :=
  (e = .returned (.int .i64 3) ∧ ¬ AllFree hs a c ∧ Below w.heap.size w w') ∨ (e = .returned (.int .i64 0) ∧ AllFree hs a c ∧ ∃ hs', Cut hs hs' n a c ∧ MapTo w p g n hs' w')
theorem MapTo.of_below {w0 w w' : World} {p g n : Nat} {hs : List (Nat × Nat)} (h : MapTo w p g n hs w') (hb : Below w0.heap.size w0 w) : MapTo w0 p g n hs w' := by
  obtain ⟨g', cap', h1, h2, h3⟩ := h
  have hs := hb.size
  refine ⟨g', cap', h1, ?_, (kept_of_below _ hb).trans h3 (fun _ hx => .inl hx)⟩
  rcases h2 with h2 | h2
  · exact .inl h2
  · exact .inr (by omega)

set_option maxRecDepth 4000 in
set_option maxHeartbeats 4000000 in
theorem take_bad (v : Value) (n : Nat) (w : World) (h : SizeIs v n w) (hn : n ≤ 4096) (a c : Int) (ha : -9223372036854775808 ≤ a ∧ a < 9223372036854775808) (hno : ¬ (0 < n ∧ 0 ≤ a ∧ 1 ≤ c ∧ c ≤ n - a)) :
    Calls Try.prog 14 #[v, .agg #[.int .i64 a, .int .i64 c]] w fun e w' => e = .returned (.int .i64 1) ∧ Below w.heap.size w w' := by
  have hb := below1 w (.cells #[.int .i64 a, .int .i64 c] 32)
  have hsz : SizeIs v n (w.alloc (.cells #[.int .i64 a, .int .i64 c] 32)) := by
    rcases h with h | ⟨p, rfl, h2⟩
    · exact .inl h
    · exact .inr ⟨p, rfl, (hb.cell (p := ⟨p, 0, none⟩) (World.block_lt_of_cell? w _ h2)).trans h2⟩
  have ch := has_any v n _ hsz hn a c ha
  rw [decide_eq_false hno] at ch
  clear h hsz hno hn ha
  go_enter Try.func14, Try.ntmps14
  go_wp2_with fail
  refine ch.mono ?_
  rintro e w1 ⟨rfl, hb2⟩
  have HB : Hid (Below w.heap.size w w1) := hb.trans (hb2.mono (by simp))
  clear ch hb hb2
  go_wp2_with fail
  go_ret
  exact ⟨rfl, HB.out⟩
set_option maxRecDepth 4000 in
set_option maxHeartbeats 4000000 in
theorem free_bad (v : Value) (n : Nat) (w : World) (h : SizeIs v n w) (hn : n ≤ 4096) (a c : Int) (ha : -9223372036854775808 ≤ a ∧ a < 9223372036854775808) (hno : ¬ (0 < n ∧ 0 ≤ a ∧ 1 ≤ c ∧ c ≤ n - a)) :
    Calls Try.prog 12 #[v, .agg #[.int .i64 a, .int .i64 c]] w fun e w' => e = .returned (.int .i64 1) ∧ Below w.heap.size w w' := by
  have hb := below1 w (.cells #[.int .i64 a, .int .i64 c] 32)
  have hsz : SizeIs v n (w.alloc (.cells #[.int .i64 a, .int .i64 c] 32)) := by
    rcases h with h | ⟨p, rfl, h2⟩
    · exact .inl h
    · exact .inr ⟨p, rfl, (hb.cell (p := ⟨p, 0, none⟩) (World.block_lt_of_cell? w _ h2)).trans h2⟩
  have ch := has_any v n _ hsz hn a c ha
  rw [decide_eq_false hno] at ch
  clear h hsz hno hn ha
  go_enter Try.func12, Try.ntmps12
  go_wp2_with fail
  refine ch.mono ?_
  rintro e w1 ⟨rfl, hb2⟩
  have HB : Hid (Below w.heap.size w w1) := hb.trans (hb2.mono (by simp))
  clear ch hb hb2
  go_wp2_with fail
  go_ret
  exact ⟨rfl, HB.out⟩

set_option maxRecDepth 4000 in
set_option maxHeartbeats 4000000 in
theorem take_any {w : World} {p g n cap : Nat} {hs : List (Nat × Nat)} (M : MapIs w p g n cap hs) (a c : Nat) (hc : 1 ≤ c) (han : a + c ≤ n) :
    Calls Try.prog 14 #[.pointer (some ⟨p, 0, none⟩), .agg #[.int .i64 a, .int .i64 c]] w (TakePost w p g n hs a c) := by
  have hb := below1 w (.cells #[.int .i64 a, .int .i64 c] 32)
  have M1 := M.over hb
  have hn2 := M.n2
  have ch := has_any _ n _ M1.size hn2 a c (by omega)
  rw [decide_eq_true (show 0 < n ∧ (0 : Int) ≤ a ∧ (1 : Int) ≤ c ∧ (c : Int) ≤ n - a by omega)] at ch
  have B0 := box_new w #[.int .i64 a, .int .i64 c] 32
  obtain ⟨u, hu⟩ : ∃ u, u = a + c := ⟨_, rfl⟩
  have ca := fun W => end_any a c u W (by rw [IntKind.wrap_i64]; omega)
  obtain ⟨q, hq⟩ : ∃ q, q = hs.length := ⟨_, rfl⟩
  have HM : Hid (MapIs w p g n cap hs ∧ q = hs.length ∧ 1 ≤ c ∧ a + c ≤ n ∧ u = a + c ∧ n ≤ 4096) := ⟨M, hq, hc, han, hu, hn2⟩
  have hbx : w.heap.size < (w.alloc (.cells #[.int .i64 (a : Int), .int .i64 (c : Int)] 32)).heap.size := by simp
  clear M M1 hc han hu hq
  go_enter Try.func14, Try.ntmps14
  go_wp2_with fail
  refine ch.mono ?_
  rintro e w1 ⟨rfl, hb2⟩
  have hb1 := hb.trans (hb2.mono hb.size)
  have B1 := B0.over hb2
  have M1 := HM.out.1.over hb1
  have cs := search_any M1 a
  have x0 := B1.cell 0 _ rfl
  have HB1 : Hid (Below w.heap.size w w1) := hb1
  have HX1 : Hid (Box w1 w.heap.size 32 #[.int .i64 a, .int .i64 c]) := B1
  clear ch hb hb2 hb1 B1 B0 hbx M1
  go_wp2_with fail
  refine cs.mono ?_
  rintro e w2 ⟨⟨k, rfl, hU⟩, hb2⟩
  have hb1 := HB1.out.trans (hb2.mono HB1.out.size)
  have B1 := HX1.out.over hb2
  have M2 := HM.out.1.over hb1
  have x0 := above_cell (B1.cell 0 _ rfl)
  have x1 := above_cell (B1.cell 1 _ rfl)
  have c1 := M2.c1
  rw [← HM.out.2.1] at c1
  have c1 := above_cell c1
  have HB2 : Hid (Below w.heap.size w w2 ∧ Upto hs a k) := ⟨hb1, hU⟩
  have hkq : k ≤ q := by rw [HM.out.2.1]; exact hU.1
  clear cs hb2 hb1 B1 HX1 hU HB1
  by_cases hk : k = q
  · have hkI : (k : Int) = (q : Int) := by omega
    have HK : Hid (k = q) := hk
    clear M2 hk hkq
    go_wp2_with fail
    refine wp_region_above (by kernel_rfl) (by kernel_rfl) ?_
    intro hne
    repeat (go_big_quiet_step (fail))
    refine wpQuiet_nil ?_
    rintro _ ⟨kq, rfl⟩
    have hbq := kq.is
    go_wp2
    go_ret
    exact .inl ⟨rfl, take_no0 HM.out.1.nice HM.out.2.2.1 HB2.out.2 (by rw [HK.out]; exact HM.out.2.1), HB2.out.1.trans (hbq.mono HB2.out.1.size)⟩
  · have hkI : ((k : Int) == (q : Int)) = false := by simp; omega
    have hkI2 : (k : Int) < (q : Int) := by omega
    obtain ⟨z, hz⟩ : ∃ z, hs[k]? = some z := ⟨_, List.getElem?_eq_getElem (by have := HM.out.2.1; omega)⟩
    obtain ⟨z0, z1⟩ := row_cells M2.rows hz
    have z0 := above_cell z0
    have z1 := above_cell z1
    have hzn := M2.within z (List.mem_of_getElem? hz)
    obtain ⟨ze, hze⟩ : ∃ ze, ze = z.1 + z.2 := ⟨_, rfl⟩
    have cz := fun W => end_any z.1 z.2 ze W (by rw [IntKind.wrap_i64]; omega)
    have HZ : Hid (hs[k]? = some z ∧ ze = z.1 + z.2) := ⟨hz, hze⟩
    clear M2 hk hkq hz hze hzn
    by_cases h1 : a < z.1
    · have h1I : (a : Int) < (z.1 : Int) := by omega
      have H1 : Hid (a < z.1) := h1
      clear h1
      go_wp2_with fail
      refine wp_region_above (by kernel_rfl) (by kernel_rfl) ?_
      intro hne
      repeat (go_big_quiet_step (fail))
      refine wpQuiet_nil ?_
      rintro _ ⟨kq, rfl⟩
      have hbq := kq.is
      go_wp2
      go_ret
      exact .inl ⟨rfl, take_no1 HM.out.1.nice HM.out.2.2.1 HB2.out.2 HZ.out.1 H1.out, HB2.out.1.trans (hbq.mono HB2.out.1.size)⟩
    · have h1I : ¬ (a : Int) < (z.1 : Int) := by omega
      have h1J : decide (a < z.1) = false := decide_eq_false h1
      have H1 : Hid (z.1 ≤ a) := by show _ ≤ _; omega
      clear h1
      by_cases h2 : ze < u
      · have h2I : (ze : Int) < (u : Int) := by omega
        have H2 : Hid (ze < u) := h2
        clear h2
        go_wp2_with fail
        refine wp_region_above (by kernel_rfl) (by kernel_rfl) ?_
        intro hne
        repeat (go_big_quiet_step ((go_at_call 34; first | with_reducible exact above_of (ca _) | with_reducible exact above_of (cz _))))
        refine wpQuiet_nil ?_
        rintro _ ⟨kq, rfl⟩
        have hbq := kq.is
        go_wp2
        go_ret
        exact .inl ⟨rfl, take_no2 HM.out.1.nice HB2.out.2 HZ.out.1 (by have := H2.out; have := HZ.out.2; have := HM.out.2.2.2.2.1; omega), HB2.out.1.trans (hbq.mono HB2.out.1.size)⟩
      · have h2I : ¬ (ze : Int) < (u : Int) := by omega
        have h2J : decide (ze < u) = false := decide_eq_false h2
        have H2 : Hid (u ≤ ze) := by show _ ≤ _; omega
        clear h2
        go_wp2_with fail
        refine wp_region_above (by kernel_rfl) (by kernel_rfl) ?_
        intro hne
        repeat (go_big_quiet_step ((go_at_call 34; first | with_reducible exact above_of (ca _) | with_reducible exact above_of (cz _))))
        refine wpQuiet_nil ?_
        rintro _ ⟨kq, rfl⟩
        have hbq := HB2.out.1.trans (kq.is.mono HB2.out.1.size)
        obtain ⟨W, hW⟩ : ∃ W, W = kq.it := ⟨_, rfl⟩
        have y0 := x0 kq
        have y1 := x1 kq
        rw [← hW] at hbq y0 y1
        rw [← hW]
        have hsp := split_at HZ.out.1
        have M3 := HM.out.1.over hbq
        obtain ⟨A, hA⟩ : ∃ A, A = hs.take k := ⟨_, rfl⟩
        obtain ⟨B, hB⟩ : ∃ B, B = hs.drop (k + 1) := ⟨_, rfl⟩
        rw [← hA, ← hB] at hsp
        have hAl : A.length = k := by rw [hA, List.length_take]; have := HB2.out.2.1; omega
        rw [hsp] at M3
        have hz2 := HZ.out.2
        have hu2 := HM.out.2.2.2.2.1
        have cc := cut_any M3 a c H1.out HM.out.2.2.1 (by have := H2.out; omega)
        rw [hAl] at cc
        have HE : Hid (Below w.heap.size w W ∧ hs = A ++ z :: B) := ⟨hbq, hsp⟩
        clear hW hbq M3 hsp hA hB hAl hz2 hu2 x0 x1 c1 z0 z1 ca cz hne kq
        go_wp2_with fail
        refine cc.mono ?_
        rintro e w5 ⟨rfl, hto⟩
        have HT : Hid (MapTo W p g n (A ++ (rest z a c ++ B)) w5) := hto
        clear cc hto
        go_wp2_with fail
        go_ret
        have hn := HM.out.1.nice
        have hwi := HM.out.1.within
        have hh := HE.out.2
        have hle : a + c ≤ z.1 + z.2 := by
          have := H2.out
          have := HZ.out.2
          have := HM.out.2.2.2.2.1
          omega
        refine .inr ⟨rfl, take_yes HZ.out.1 H1.out hle, A ++ (rest z a c ++ B), ?_, HT.out.of_below HE.out.1⟩
        rw [hh] at hn hwi ⊢
        exact ⟨cut_nice hn H1.out HM.out.2.2.1 hle, cut_within hwi H1.out hle, cut_free hn H1.out hle⟩
end Go.Proofs.Ytjnobdgigeejnaa
