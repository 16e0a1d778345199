/-
  The contracts of a map's Free and Alloc.
-/
import Derived.Test.YtjnobdgigeejnaaETake
namespace Go.Proofs.Ytjnobdgigeejnaa
open Go.RowKit

def FreePost (w : World) (p g n : Nat) (hs : List (Nat × Nat)) (a c : Nat) (e : Ending) (w' : World) : Prop :=
  (e = .returned (.int .i64 3) ∧ ¬ NoneFree hs a c ∧ Below w.heap.size w w') ∨ (e = .returned (.int .i64 0) ∧ NoneFree hs a c ∧ ∃ hs', Filled hs hs' n a c ∧ MapTo w p g n hs' w')

set_option maxRecDepth 4000 in
set_option maxHeartbeats 4000000 in
theorem free_any {w : World} {p g n cap : Nat} {hs : List (Nat × Nat)} (M : MapIs w p g n cap hs) (a c : Nat) (hc : 1 ≤ c) (han : a + c ≤ n) :
    Calls Try.prog 12 #[.pointer (some ⟨p, 0, none⟩), .agg #[.int .i64 a, .int .i64 c]] w (FreePost w p g n hs a c) := by
  have hb := below1 w (.cells #[.int .i64 a, .int .i64 c] 32)
  have M1 := M.over hb
  have hn2 := M.n2
  have ch := has_any _ n _ M1.size hn2 a c (by omega)
  rw [decide_eq_true (show 0 < n ∧ (0 : Int) ≤ a ∧ (1 : Int) ≤ c ∧ (c : Int) ≤ n - a by omega)] at ch
  have B0 := box_new w #[.int .i64 a, .int .i64 c] 32
  obtain ⟨u, hu⟩ : ∃ u, u = a + c := ⟨_, rfl⟩
  have ca := fun W => end_any a c u W (by rw [IntKind.wrap_i64]; omega)
  obtain ⟨q, hq⟩ : ∃ q, q = hs.length := ⟨_, rfl⟩
  have HM : Hid (MapIs w p g n cap hs ∧ q = hs.length ∧ 1 ≤ c ∧ a + c ≤ n ∧ u = a + c ∧ n ≤ 4096) := ⟨M, hq, hc, han, hu, hn2⟩
  have hbx : w.heap.size < (w.alloc (.cells #[.int .i64 (a : Int), .int .i64 (c : Int)] 32)).heap.size := by simp
  clear M M1 hc han hu hq
  go_enter Try.func12, Try.ntmps12
  go_wp2_with fail
  refine ch.mono ?_
  rintro e w1 ⟨rfl, hb2⟩
  have hb1 := hb.trans (hb2.mono hb.size)
  have B1 := B0.over hb2
  have M1 := HM.out.1.over hb1
  have cs := search_any M1 a
  have x0 := B1.cell 0 _ rfl
  have HB1 : Hid (Below w.heap.size w w1) := hb1
  have HX1 : Hid (Box w1 w.heap.size 32 #[.int .i64 a, .int .i64 c]) := B1
  clear ch hb hb2 hb1 B1 B0 hbx M1
  go_wp2_with fail
  refine cs.mono ?_
  rintro e w2 ⟨⟨k, rfl, hU⟩, hb2⟩
  have hb1 := HB1.out.trans (hb2.mono HB1.out.size)
  have B1 := HX1.out.over hb2
  have M2 := HM.out.1.over hb1
  have x0 := above_cell (B1.cell 0 _ rfl)
  have x1 := above_cell (B1.cell 1 _ rfl)
  have c1 := M2.c1
  rw [← HM.out.2.1] at c1
  have c1 := above_cell c1
  have HB2 : Hid (Below w.heap.size w w2 ∧ Upto hs a k) := ⟨hb1, hU⟩
  have hkq : k ≤ q := by rw [HM.out.2.1]; exact hU.1
  clear cs hb2 hb1 B1 HX1 hU HB1
  have fin : ∀ W : World, Below w.heap.size w W → (∀ z, hs[k]? = some z → a + c ≤ z.1) → Calls Try.prog 35 #[.pointer (some ⟨p, 0, none⟩), .int .i64 k, .agg #[.int .i64 a, .int .i64 c]] W fun e w' => e = .returned (.tuple #[]) ∧ FreePost w p g n hs a c (.returned (.int .i64 0)) w' := fun W hW hz =>
    (fill_any (HM.out.1.over hW) a c k HM.out.2.2.1 HM.out.2.2.2.1 HB2.out.2 hz).mono fun e w' ⟨h1, hs', h2, h3⟩ => ⟨h1, .inr ⟨rfl, free_yes HM.out.1.nice HB2.out.2 hz, hs', h2, h3.of_below hW⟩⟩
  by_cases hk : k = q
  · have hkI : ¬ (k : Int) < (q : Int) := by omega
    have hkJ : decide (k < q) = false := decide_eq_false (by omega)
    have HK : Hid (∀ z, hs[k]? = some z → a + c ≤ z.1) := fun z hz => by
      have := (List.getElem?_eq_some_iff.1 hz).1
      have := HM.out.2.1
      omega
    clear M2 hk hkq
    go_wp2_with fail
    refine wp_region_above (by kernel_rfl) (by kernel_rfl) ?_
    intro hne
    repeat (go_big_quiet_step (fail))
    refine wpQuiet_nil ?_
    rintro _ ⟨kq, rfl⟩
    have hbq := HB2.out.1.trans (kq.is.mono HB2.out.1.size)
    obtain ⟨W, hW⟩ : ∃ W, W = kq.it := ⟨_, rfl⟩
    have y0 := x0 kq
    have y1 := x1 kq
    rw [← hW] at hbq y0 y1
    rw [← hW]
    have cf := fin W hbq HK.out
    clear hW hbq x0 x1 c1 ca hne kq fin
    go_wp2_with fail
    refine cf.mono ?_
    rintro e w5 ⟨rfl, hpost⟩
    have HT : Hid (FreePost w p g n hs a c (.returned (.int .i64 0)) w5) := hpost
    clear cf hpost
    go_wp2_with fail
    go_ret
    exact HT.out
  · have hkI2 : (k : Int) < (q : Int) := by omega
    obtain ⟨z, hz⟩ : ∃ z, hs[k]? = some z := ⟨_, List.getElem?_eq_getElem (by have := HM.out.2.1; omega)⟩
    obtain ⟨z0, z1⟩ := row_cells M2.rows hz
    have z0 := above_cell z0
    have z1 := above_cell z1
    have HZ : Hid (hs[k]? = some z ∧ 1 ≤ z.2) := ⟨hz, (M2.nice.mem_ge z (List.mem_of_getElem? hz)).2⟩
    clear M2 hk hkq hz
    by_cases h1 : z.1 < u
    · have h1I : (z.1 : Int) < (u : Int) := by omega
      have H1 : Hid (z.1 < a + c) := by show _ < _; have := HM.out.2.2.2.2.1; omega
      clear h1 fin
      go_wp2_with fail
      refine wp_region_above (by kernel_rfl) (by kernel_rfl) ?_
      intro hne
      repeat (go_big_quiet_step ((go_at_call 34; exact above_of (ca _))))
      refine wpQuiet_nil ?_
      rintro _ ⟨kq, rfl⟩
      have hbq := kq.is
      go_wp2
      go_ret
      exact .inl ⟨rfl, free_no HB2.out.2 HZ.out.1 HM.out.2.2.1 HZ.out.2 H1.out, HB2.out.1.trans (hbq.mono HB2.out.1.size)⟩
    · have h1I : ¬ (z.1 : Int) < (u : Int) := by omega
      have h1J : decide (z.1 < u) = false := decide_eq_false h1
      have HK : Hid (∀ z, hs[k]? = some z → a + c ≤ z.1) := fun z' hz' => by
        rw [HZ.out.1] at hz'
        cases hz'
        have := HM.out.2.2.2.2.1
        omega
      clear h1
      go_wp2_with fail
      refine wp_region_above (by kernel_rfl) (by kernel_rfl) ?_
      intro hne
      repeat (go_big_quiet_step ((go_at_call 34; exact above_of (ca _))))
      refine wpQuiet_nil ?_
      rintro _ ⟨kq, rfl⟩
      have hbq := HB2.out.1.trans (kq.is.mono HB2.out.1.size)
      obtain ⟨W, hW⟩ : ∃ W, W = kq.it := ⟨_, rfl⟩
      have y0 := x0 kq
      have y1 := x1 kq
      rw [← hW] at hbq y0 y1
      rw [← hW]
      have cf := fin W hbq HK.out
      clear hW hbq x0 x1 c1 ca hne kq fin z0 z1
      go_wp2_with fail
      refine cf.mono ?_
      rintro e w5 ⟨rfl, hpost⟩
      have HT : Hid (FreePost w p g n hs a c (.returned (.int .i64 0)) w5) := hpost
      clear cf hpost
      go_wp2_with fail
      go_ret
      exact HT.out

theorem box_two (w : World) (c0 c1 : Array Value) (t0 t1 : TypeId) : Box ((w.alloc (.cells c0 t0)).alloc (.cells c1 t1)) (w.heap.size + 1) t1 c1 := by
  have h := box_new (w.alloc (.cells c0 t0)) c1 t1
  rw [World.size_alloc] at h
  exact h
/-- What Alloc leaves. -/
def AllocPost (w : World) (p g n : Nat) (hs : List (Nat × Nat)) (c : Int) (e : Ending) (w' : World) : Prop :=
  (e = .returned (.tuple #[.agg #[.int .i64 0, .int .i64 0], .int .i64 2]) ∧ NoFit hs c ∧ Below w.heap.size w w') ∨
  ∃ (k : Nat) (x : Nat × Nat) (d : Nat), c = d ∧ e = .returned (.tuple #[.agg #[.int .i64 x.1, .int .i64 d], .int .i64 0]) ∧ FirstFit hs c k x ∧ ∃ hs', Cut hs hs' n x.1 d ∧ MapTo w p g n hs' w'

set_option maxRecDepth 4000 in
set_option maxHeartbeats 4000000 in
theorem alloc_bad (v : Value) (n : Nat) (w : World) (h : SizeIs v n w) (c : Int) (hno : ¬ (0 < n ∧ 1 ≤ c)) :
    Calls Try.prog 10 #[v, .int .i64 c] w fun e w' => e = .returned (.tuple #[.agg #[.int .i64 0, .int .i64 0], .int .i64 1]) ∧ Below w.heap.size w w' := by
  have hb := below2 w (.cells #[.int .i64 c] 3) (.cells #[.int .i64 0, .int .i64 0] 32)
  have hsz : SizeIs v n ((w.alloc (.cells #[.int .i64 c] 3)).alloc (.cells #[.int .i64 0, .int .i64 0] 32)) := by
    rcases h with h | ⟨p, rfl, h2⟩
    · exact .inl h
    · exact .inr ⟨p, rfl, (hb.cell (p := ⟨p, 0, none⟩) (World.block_lt_of_cell? w _ h2)).trans h2⟩
  have cg := given_any v n _ hsz
  have HB : Hid (Below w.heap.size w ((w.alloc (.cells #[.int .i64 c] 3)).alloc (.cells #[.int .i64 0, .int .i64 0] 32))) := hb
  clear h hsz hb
  by_cases h0 : 0 < n
  · have h1 : c < 1 := by omega
    rw [decide_eq_true h0] at cg
    clear hno h0
    go_enter Try.func10, Try.ntmps10
    go_wp2_with fail
    refine cg.mono ?_
    rintro e w1 ⟨rfl, hw1⟩
    subst hw1
    clear cg
    go_wp2_with fail
    exact bodyPost_ret (res_box_slot (cs := #[.int .i64 0, .int .i64 0]) Try.results10 _ rfl (box_two w _ _ _ _) Try.underlying32 rfl size_ext _ rfl) rfl ⟨rfl, HB.out⟩
  · rw [decide_eq_false h0] at cg
    clear hno h0
    go_enter Try.func10, Try.ntmps10
    go_wp2_with fail
    refine cg.mono ?_
    rintro e w1 ⟨rfl, hw1⟩
    subst hw1
    clear cg
    go_wp2_with fail
    exact bodyPost_ret (res_box_slot (cs := #[.int .i64 0, .int .i64 0]) Try.results10 _ rfl (box_two w _ _ _ _) Try.underlying32 rfl size_ext _ rfl) rfl ⟨rfl, HB.out⟩

set_option maxRecDepth 4000 in
set_option maxHeartbeats 4000000 in
theorem alloc_any {w : World} {p g n cap : Nat} {hs : List (Nat × Nat)} (M : MapIs w p g n cap hs) (c : Int) (hc : 1 ≤ c) :
    Calls Try.prog 10 #[.pointer (some ⟨p, 0, none⟩), .int .i64 c] w (AllocPost w p g n hs c) := by
  obtain ⟨W, hW⟩ : ∃ W, W = (w.alloc (.cells #[.int .i64 c] 3)).alloc (.cells #[.int .i64 0, .int .i64 0] 32) := ⟨_, rfl⟩
  have hb : Below w.heap.size w W := by rw [hW]; exact below2 w _ _
  have B0 : Box W w.heap.size 3 #[.int .i64 c] := by rw [hW]; exact box_old w _ _ _
  have B1 : Box W (w.heap.size + 1) 32 #[.int .i64 0, .int .i64 0] := by rw [hW]; exact box_two w _ _ _ _
  have M1 := M.over hb
  have cg := given_any _ n W M1.size
  rw [decide_eq_true (show 0 < n by have := M.n1; omega)] at cg
  have c1 := M1.c1
  have ci := index_any M1.rows (by have := M.few; have := M.n2; omega) c w.heap.size (B0.cell 0 _ rfl)
  have x0 := B0.cell 0 _ rfl
  obtain ⟨q, hq⟩ : ∃ q, q = hs.length := ⟨_, rfl⟩
  rw [← hq] at c1 ci
  have HM : Hid (MapIs w p g n cap hs ∧ q = hs.length ∧ 1 ≤ c ∧ Below w.heap.size w W ∧ Box W w.heap.size 3 #[.int .i64 c] ∧ Box W (w.heap.size + 1) 32 #[.int .i64 0, .int .i64 0]) := ⟨M, hq, hc, hb, B0, B1⟩
  have hc' : ¬ c < 1 := by omega
  clear M M1 hq hc hb B0 B1
  subst hW
  go_enter Try.func10, Try.ntmps10
  go_wp2_with fail
  refine cg.mono ?_
  rintro e w1 ⟨rfl, hw1⟩
  subst hw1
  clear cg
  go_wp2_with fail
  refine ci.mono ?_
  clear ci c1 x0
  rintro e w2 ⟨hpost, hb2⟩
  have hb1 := HM.out.2.2.2.1.trans (hb2.mono HM.out.2.2.2.1.size)
  have B0 := HM.out.2.2.2.2.1.over hb2
  have B1 := HM.out.2.2.2.2.2.over hb2
  have M2 := HM.out.1.over hb1
  have HB2 : Hid (Below w.heap.size w w2 ∧ MapIs w2 p g n cap hs ∧ Box w2 (w.heap.size + 1) 32 #[.int .i64 0, .int .i64 0]) := ⟨hb1, M2, B1⟩
  rcases hpost with ⟨k, x, rfl, hfit⟩ | ⟨rfl, hno⟩
  · have hfit1 := hfit.1
    have hcx := hfit.2.1
    have hkq : k < q := by rw [HM.out.2.1]; exact (List.getElem?_eq_some_iff.1 hfit1).1
    have hkI : (k : Int) < (q : Int) := by omega
    obtain ⟨d, hd⟩ : ∃ d : Nat, c = d := ⟨c.toNat, by have := HM.out.2.2.1; omega⟩
    subst hd
    obtain ⟨z0, z1⟩ := row_cells M2.rows hfit1
    have x0 := B0.cell 0 _ rfl
    have c1 := M2.c1
    rw [← HM.out.2.1] at c1
    have HF : Hid (FirstFit hs d k x ∧ 1 ≤ d ∧ d ≤ x.2) := ⟨hfit, by have := HM.out.2.2.1; omega, by omega⟩
    obtain ⟨bb, hbb⟩ : ∃ bb, bb = w.heap.size := ⟨_, rfl⟩
    have HBB : Hid (bb = w.heap.size) := hbb
    rw [← hbb] at x0
    clear hfit hfit1 hcx hb1 hb2 B0 B1 M2 hkq
    go_wp2_with fail
    rw [← hbb]
    clear hbb
    refine wp_region_held_then (fun w' => w'.cell? ⟨p, 1, none⟩ = some (.slice (some ⟨g, 0, none⟩) q cap) ∧ w'.cell? ⟨g, k * 2, none⟩ = some (.int .i64 x.1) ∧ w'.cell? ⟨bb, 0, none⟩ = some (.int .i64 (d : Int))) _ (by kernel_rfl) rfl (by kernel_rfl) ?_
    have hHeld : (fun w' : World => w'.cell? ⟨p, 1, none⟩ = some (.slice (some ⟨g, 0, none⟩) q cap) ∧ w'.cell? ⟨g, k * 2, none⟩ = some (.int .i64 x.1) ∧ w'.cell? ⟨bb, 0, none⟩ = some (.int .i64 (d : Int))) w2.drew := ⟨c1, z0, x0⟩
    dsimp only [List.dropLast, List.length, List.getLast]
    ((refine takeL 0 (v := ?_) rfl (by kernel_rfl) (by kernel_rfl) (by kernel_rfl) (fun _ _ _ h => h) (by rfl) hHeld ?_ ?_; rotate_left; focus (intro w hSw; (try dsimp only at hSw); go_simp <;> with_reducible rfl); (try simp only [Act.put, List.setIfInBounds_toArray, List.set_cons_zero, List.set_cons_succ])); (refine takeL 1 (v := ?_) rfl (by kernel_rfl) (by kernel_rfl) (by kernel_rfl) (fun _ _ _ h => h) (by rfl) hHeld ?_ ?_; rotate_left; focus (intro w hSw; (try dsimp only at hSw); go_simp <;> with_reducible rfl); (try simp only [Act.put, List.setIfInBounds_toArray, List.set_cons_zero, List.set_cons_succ])); (refine takeL 2 (v := ?_) rfl (by kernel_rfl) (by kernel_rfl) (by kernel_rfl) (fun _ _ _ h => h) (by rfl) hHeld ?_ ?_; rotate_left; focus (intro w hSw; (try dsimp only at hSw); go_simp <;> with_reducible rfl); (try simp only [Act.put, List.setIfInBounds_toArray, List.set_cons_zero, List.set_cons_succ])); (refine takeL 3 (v := ?_) rfl (by kernel_rfl) (by kernel_rfl) (by kernel_rfl) (fun _ _ _ h => h) (by rfl) hHeld ?_ ?_; rotate_left; focus (intro w hSw; (try dsimp only at hSw); go_simp <;> with_reducible rfl); (try simp only [Act.put, List.setIfInBounds_toArray, List.set_cons_zero, List.set_cons_succ])); (refine takeL 4 (v := ?_) rfl (by kernel_rfl) (by kernel_rfl) (by kernel_rfl) (fun _ _ _ h => h) (by rfl) hHeld ?_ ?_; rotate_left; focus (intro w hSw; (try dsimp only at hSw); go_simp <;> with_reducible rfl); (try simp only [Act.put, List.setIfInBounds_toArray, List.set_cons_zero, List.set_cons_succ])); (refine takeL 5 (v := ?_) rfl (by kernel_rfl) (by kernel_rfl) (by kernel_rfl) (fun _ _ _ h => h) (by rfl) hHeld ?_ ?_; rotate_left; focus (intro w hSw; (try dsimp only at hSw); go_simp <;> with_reducible rfl); (try simp only [Act.put, List.setIfInBounds_toArray, List.set_cons_zero, List.set_cons_succ])); (refine takeL 6 (v := ?_) rfl (by kernel_rfl) (by kernel_rfl) (by kernel_rfl) (fun _ _ _ h => h) (by rfl) hHeld ?_ ?_; rotate_left; focus (intro w hSw; (try dsimp only at hSw); go_simp <;> with_reducible rfl); (try simp only [Act.put, List.setIfInBounds_toArray, List.set_cons_zero, List.set_cons_succ])); (refine takeL 7 (v := ?_) rfl (by kernel_rfl) (by kernel_rfl) (by kernel_rfl) (fun _ _ _ h => h) (by rfl) hHeld ?_ ?_; rotate_left; focus (intro w hSw; (try dsimp only at hSw); go_simp <;> with_reducible rfl); (try simp only [Act.put, List.setIfInBounds_toArray, List.set_cons_zero, List.set_cons_succ])); (refine takeL 8 (v := ?_) rfl (by kernel_rfl) (by kernel_rfl) (by kernel_rfl) (fun _ _ _ h => h) (by rfl) hHeld ?_ ?_; rotate_left; focus (intro w hSw; (try dsimp only at hSw); go_simp <;> with_reducible rfl); (try simp only [Act.put, List.setIfInBounds_toArray, List.set_cons_zero, List.set_cons_succ])); (refine takeL 9 (v := ?_) rfl (by kernel_rfl) (by kernel_rfl) (by kernel_rfl) (fun _ _ _ h => h) (by rfl) hHeld ?_ ?_; rotate_left; focus (intro w hSw; (try dsimp only at hSw); go_simp <;> with_reducible rfl); (try simp only [Act.put, List.setIfInBounds_toArray, List.set_cons_zero, List.set_cons_succ])))
    dsimp only [Act.put]
    simp only [List.setIfInBounds_toArray, List.set_cons_zero, List.set_cons_succ]
    have hHeld2 : (fun w' : World => w'.cell? ⟨p, 1, none⟩ = some (.slice (some ⟨g, 0, none⟩) q cap) ∧ w'.cell? ⟨g, k * 2, none⟩ = some (.int .i64 x.1) ∧ w'.cell? ⟨bb, 0, none⟩ = some (.int .i64 (d : Int))) (w2.drew.alloc (.cells #[.int .i64 0, .int .i64 0] 32)) := by
      have b := below1 w2.drew (.cells #[.int .i64 0, .int .i64 0] 32)
      exact ⟨(b.cell (p := ⟨p, 1, none⟩) (World.block_lt_of_cell? w2.drew _ c1)).trans c1, (b.cell (p := ⟨g, k * 2, none⟩) (World.block_lt_of_cell? w2.drew _ z0)).trans z0, (b.cell (p := ⟨bb, 0, none⟩) (World.block_lt_of_cell? w2.drew _ x0)).trans x0⟩
    refine newL 10 (w2.drew.alloc (.cells #[.int .i64 0, .int .i64 0] 32)) (.pointer (some ⟨w2.heap.size, 0, none⟩)) rfl (by kernel_rfl) (by rfl) (by go_simp) hHeld2 ?_
    refine doneL (by kernel_rfl) ?_
    dsimp only [Act.put]
    clear hHeld hHeld2 c1 z0 z1 x0
    unfold Oper.wp
    go_simp
    go_wp2_with fail
    obtain ⟨W3, hW3⟩ : ∃ W3, W3 = (w2.alloc (.cells #[.int .i64 (x.1 : Int), .int .i64 (d : Int)] 32)).drew := ⟨_, rfl⟩
    rw [← hW3]
    have b3 : Below w2.heap.size w2 W3 := by rw [hW3]; exact (below1 w2 _).drew
    have X3 : Box W3 w2.heap.size 32 #[.int .i64 (x.1 : Int), .int .i64 (d : Int)] := by rw [hW3]; exact (box_new w2 _ _).drew
    have T3 := HB2.out.2.2.over b3
    rw [← HBB.out] at T3
    have M3 := HB2.out.2.1.over b3
    have hb3 := HB2.out.1.trans (b3.mono HB2.out.1.size)
    have hsp := split_at HF.out.1.1
    obtain ⟨A, hA⟩ : ∃ A, A = hs.take k := ⟨_, rfl⟩
    obtain ⟨B, hB⟩ : ∃ B, B = hs.drop (k + 1) := ⟨_, rfl⟩
    have hkl := (List.getElem?_eq_some_iff.1 HF.out.1.1).1
    have hAl : A.length = k := by rw [hA, List.length_take]; omega
    rw [← hA, ← hB] at hsp
    rw [hsp] at M3
    have cc := cut_any M3 x.1 d (Nat.le_refl _) HF.out.2.1 (by have := HF.out.2.2; omega)
    rw [hAl] at cc
    have hsz2 := HB2.out.1.size
    have hpl := HM.out.1.ltp
    have hgl := HM.out.1.ltg
    have HE : Hid (Below w.heap.size w W3 ∧ hs = A ++ x :: B ∧ w.heap.size ≤ w2.heap.size ∧ p < w.heap.size ∧ g < w.heap.size) := ⟨hb3, hsp, hsz2, hpl, hgl⟩
    refine cc.mono ?_
    rintro e w5 ⟨rfl, hto⟩
    obtain ⟨g', cap', m5, w5g, k5⟩ := hto
    have X5 := X3.kept k5 (by omega)
    have T5 := T3.kept k5 (by have := HBB.out; omega)
    have y0 := X5.cell 0 _ rfl
    have y1 := X5.cell 1 _ rfl
    have hto : ∃ g' cap', (MapIs w5 p g' n cap' (A ++ (rest x x.1 d ++ B)) ∧ (g' = g ∨ w.heap.size ≤ g') ∧ Kept (fun x => x = p ∨ x = g) w w5) ∧ g' ≠ bb + 1 := by
      have h3 := T3.lt
      have h4 := HBB.out
      refine ⟨g', cap', ⟨m5, ?_, (kept_of_below _ hb3).trans k5 (fun _ hx => .inl hx)⟩, ?_⟩
      · rcases w5g with h | h
        · exact .inl h
        · exact .inr (by have := hb3.size; omega)
      · rcases w5g with h | h <;> omega
    have HT : Hid (∃ g' cap', (MapIs w5 p g' n cap' (A ++ (rest x x.1 d ++ B)) ∧ (g' = g ∨ w.heap.size ≤ g') ∧ Kept (fun x => x = p ∨ x = g) w w5) ∧ g' ≠ bb + 1) := hto
    have HT5 : Hid (Box w5 (bb + 1) 32 #[.int .i64 0, .int .i64 0]) := T5
    clear cc hto m5 w5g k5 X5 T5 X3 T3 M3 hb3 hsp hA hB hkl hAl hsz2 hpl hgl b3 hW3
    go_wp2_with (refine wpList_store_row rfl 32 _ _ rfl (bb + 1) #[.int .i64 (x.1 : Int), .int .i64 (d : Int)] rfl rfl 32 _ HT5.out size_ext rfl (by simp [Value.oneCell']) ?_)
    have hbx := HT5.out.setRow #[.int .i64 (x.1 : Int), .int .i64 (d : Int)]
    refine bodyPost_ret (res_box_slot (cs := #[.int .i64 (x.1 : Int), .int .i64 (d : Int)]) Try.results10 _ rfl hbx Try.underlying32 rfl size_ext _ rfl) rfl (.inr ⟨k, x, d, rfl, rfl, HF.out.1, A ++ (rest x x.1 d ++ B), ?_, ?_⟩)
    · have hn := HM.out.1.nice
      have hwi := HM.out.1.within
      have hle : x.1 + d ≤ x.1 + x.2 := by have := HF.out.2.2; omega
      rw [HE.out.2.1] at hn hwi ⊢
      exact ⟨cut_nice hn (Nat.le_refl _) HF.out.2.1 hle, cut_within hwi (Nat.le_refl _) hle, cut_free hn (Nat.le_refl _) hle⟩
    · obtain ⟨g', cap', ⟨m5, g5, k5⟩, hgn⟩ := HT.out
      have he := HE.out
      have hbb := HBB.out
      have hlt5 := HT5.out.lt
      have hpn : p ≠ bb + 1 := by omega
      refine ⟨g', cap', m5.of_block (setRow_other w5 (bb + 1) p _ hpn) (setRow_other w5 (bb + 1) g' _ hgn), g5, ?_⟩
      refine k5.trans (G := fun x => x = bb + 1) ⟨rfl, rfl, rfl, by simp, fun k hk hF => setRow_other w5 (bb + 1) k _ hF⟩ (fun k hk => .inr ?_)
      have e : k = bb + 1 := hk
      omega
  · have HN : Hid (NoFit hs c) := hno
    have HB1 : Hid (Box w2 (w.heap.size + 1) 32 #[.int .i64 0, .int .i64 0]) := B1
    clear hno hb1 hb2 B0 B1 M2
    go_wp2_with (refine wpList_store_row rfl 32 _ _ rfl (w.heap.size + 1) #[.int .i64 0, .int .i64 0] rfl rfl 32 _ HB1.out size_ext rfl (by decide +kernel) ?_)
    have hbx := HB1.out.setRow #[.int .i64 0, .int .i64 0]
    have hsz := HB2.out.1.size
    exact bodyPost_ret (res_box_slot (cs := #[.int .i64 0, .int .i64 0]) Try.results10 _ rfl hbx Try.underlying32 rfl size_ext _ rfl) rfl (.inl ⟨rfl, HN.out, below_setRow HB2.out.1 (by omega) _⟩)
end Go.Proofs.Ytjnobdgigeejnaa
