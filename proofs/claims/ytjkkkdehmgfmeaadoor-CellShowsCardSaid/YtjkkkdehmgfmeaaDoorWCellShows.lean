/-
  The walk of law 6's CellShows: any cell as it is written, and the cell of any text; what is shown is read as it was.
-/
import Derived.Test.YtjkkkdehmgfmeaaDoorKAwake
import Derived.Test.YtjkkkdehmgfmeaaDoorKRefRd
import Derived.Test.YtjkkkdehmgfmeaaDoorKRefShow
namespace Go.Proofs.YtjkkkdehmgfmeaaDoor
open Go.RowKit

/-- What stays between the calls of CellShows: the cell, and the two that were read. -/
structure Sh (w w' : World) (c : Cl) : Prop where
  c : Box w' w.heap.size 23 #[.int .i64 c.k, .int .i64 c.n, .string c.s]
  bel : Below w.heap.size w w'
  env : Env w'
theorem Sh.over {w w1 w2 : World} {c : Cl} (h : Sh w w1 c) (hb : Below w1.heap.size w1 w2) : Sh w w2 c :=
  ⟨h.c.over hb, h.bel.trans (hb.mono h.bel.size), h.env.below hb⟩
theorem Sh.cells {w w1 : World} {c : Cl} (h : Sh w w1 c) : w1.cell? ⟨w.heap.size, 0, none⟩ = some (.int .i64 c.k) ∧ w1.cell? ⟨w.heap.size, 1, none⟩ = some (.int .i64 c.n) ∧ w1.cell? ⟨w.heap.size, 2, none⟩ = some (.string c.s) :=
  ⟨h.c.cell 0 _ rfl, h.c.cell 1 _ rfl, h.c.cell 2 _ rfl⟩
theorem box_cells {w1 : World} {b : Nat} {t : TypeId} {c : Cl} (h : Box w1 b t #[.int .i64 c.k, .int .i64 c.n, .string c.s]) : w1.cell? ⟨b, 0, none⟩ = some (.int .i64 c.k) ∧ w1.cell? ⟨b, 1, none⟩ = some (.int .i64 c.n) ∧ w1.cell? ⟨b, 2, none⟩ = some (.string c.s) :=
  ⟨h.cell 0 _ rfl, h.cell 1 _ rfl, h.cell 2 _ rfl⟩

set_option maxRecDepth 4000 in
set_option maxHeartbeats 4000000 in
theorem walkCellShows (c : Cl) (hok : okC c) (s : ByteArray) (_hs : s.size ≤ maxLen) (w : World) (hE : Env w) :
    Calls Tryd.prog 8 #[cv c, .string s] w fun e w' => e = .returned (.bool true) ∧ Below w.heap.size w w' := by
  have A0 : Sh w (w.alloc (.cells #[.int .i64 c.k, .int .i64 c.n, .string c.s] 23)) c := ⟨box_new _ _ _, below1 _ _, hE.below (below1 _ _)⟩
  clear hE
  by_cases h1 : (256 : Int) < (c.s.size : Int)
  · go_enter Tryd.func8, Tryd.ntmps8
    go_wp2_with fail
    refine (awake_any _ A0.env).mono ?_
    rintro e w2 ⟨rfl, hb2⟩
    have A2 := A0.over hb2
    go_wp2_with fail
    go_ret
    exact ⟨rfl, A2.bel⟩
  by_cases h2 : (256 : Int) < (s.size : Int)
  · go_enter Tryd.func8, Tryd.ntmps8
    go_wp2_with fail
    refine (awake_any _ A0.env).mono ?_
    rintro e w2 ⟨rfl, hb2⟩
    have A2 := A0.over hb2
    go_wp2_with fail
    go_ret
    exact ⟨rfl, A2.bel⟩
  have rd1 : ∀ w, Env w → Calls Tryd.prog 24 #[.string s] w fun e w' => e = .returned (.tuple #[cv (readA s.data.toList).1, .int .i64 (readA s.data.toList).2]) ∧ Below w.heap.size w w' := fun w h => read_any s h (by omega)
  have rd2 : ∀ w, Calls Tryd.prog 25 #[.string s] w fun e w' => e = .returned (.tuple #[cv (readA s.data.toList).1, .int .i64 (readA s.data.toList).2]) ∧ Below w.heap.size w w' := fun w => refRead_any s (by omega) w
  have sh1 : ∀ w, Env w → Calls Tryd.prog 26 #[.agg #[.int .i64 c.k, .int .i64 c.n, .string c.s]] w fun e w' => e = .returned (.string (str (showL c))) ∧ Below w.heap.size w w' := fun w h => show_any c h hok (by omega)
  have sh2 : ∀ w, Calls Tryd.prog 27 #[.agg #[.int .i64 c.k, .int .i64 c.n, .string c.s]] w fun e w' => e = .returned (.string (str (showL c))) ∧ Below w.heap.size w w' := fun w => refShow_any c w hok (by omega)
  have hsl := showL_len hok
  have rd3 : ∀ w, Env w → Calls Tryd.prog 24 #[.string (str (showL c))] w fun e w' => e = .returned (.tuple #[cv (readA (showL c)).1, .int .i64 (readA (showL c)).2]) ∧ Below w.heap.size w w' := fun w h => by
    have := read_any (str (showL c)) h (by rw [str_size]; omega)
    rw [str_list] at this
    exact this
  have hm : ∀ w, Calls Tryd.prog 13 #[.agg #[.int .i64 c.k, .int .i64 c.n, .string c.s]] w fun e w' => e = .returned (.bool (mayC c)) ∧ Below w.heap.size w w' := fun w => may_any c w
  have HB : Hid (mayC c = true → readA (showL c) = (c, 0)) := fun h => readA_of ((read_iff _ c).2 ⟨h, hok, rfl⟩)
  obtain ⟨⟨x, f⟩, hx⟩ : ∃ x, x = readA s.data.toList := ⟨_, rfl⟩
  obtain ⟨⟨z, g⟩, hz⟩ : ∃ x, x = readA (showL c) := ⟨_, rfl⟩
  obtain ⟨t, ht⟩ : ∃ t, t = str (showL c) := ⟨_, rfl⟩
  rw [← hx] at rd1 rd2
  rw [← hz] at rd3 HB
  rw [← ht] at rd3 sh1 sh2
  simp only [cv] at rd1 rd2 rd3
  clear hx hz ht hsl _hs hok
  go_enter Tryd.func8, Tryd.ntmps8
  go_wp2_with fail
  refine (rd1 _ A0.env).mono ?_
  rintro e w1 ⟨rfl, hb1⟩
  have A1 := A0.over hb1
  have bx := box_new w1 #[.int .i64 x.k, .int .i64 x.n, .string x.s] 23
  have A2 := A1.over (below1 w1 (.cells #[.int .i64 x.k, .int .i64 x.n, .string x.s] 23))
  clear A0 hb1 rd1 A1
  go_wp2_with fail
  refine (rd2 _).mono ?_
  rintro e w3 ⟨rfl, hb3⟩
  have A3 := A2.over hb3
  have bx3 := bx.over hb3
  have by4 := box_new w3 #[.int .i64 x.k, .int .i64 x.n, .string x.s] 23
  have hb4 := below1 w3 (.cells #[.int .i64 x.k, .int .i64 x.n, .string x.s] 23)
  have A4 := A3.over hb4
  have bx4 := bx3.over hb4
  clear A2 A3 bx bx3 hb3 hb4 rd2
  have HH : Hid (Sh w (w3.alloc (.cells #[.int .i64 x.k, .int .i64 x.n, .string x.s] 23)) c) := A4
  have q := fun kq : Above (w3.alloc (.cells #[.int .i64 x.k, .int .i64 x.n, .string x.s] 23)) => (A4.over kq.is).cells
  have qx := fun kq : Above (w3.alloc (.cells #[.int .i64 x.k, .int .i64 x.n, .string x.s] 23)) => box_cells (bx4.over kq.is)
  have qy := fun kq : Above (w3.alloc (.cells #[.int .i64 x.k, .int .i64 x.n, .string x.s] 23)) => box_cells (by4.over kq.is)
  have q0 := fun kq => (q kq).1
  have q1 := fun kq => (q kq).2.1
  have q2 := fun kq => (q kq).2.2
  have x0 := fun kq => (qx kq).1
  have x1 := fun kq => (qx kq).2.1
  have x2 := fun kq => (qx kq).2.2
  have y0 := fun kq => (qy kq).1
  have y1 := fun kq => (qy kq).2.1
  have y2 := fun kq => (qy kq).2.2
  have sh3 := fun kq : Above (w3.alloc (.cells #[.int .i64 x.k, .int .i64 x.n, .string x.s] 23)) => sh1 kq.it (A4.over kq.is).env
  clear q qx qy A4 bx4 by4
  go_wp2_with fail
  refine wp_region_above (by kernel_rfl) (by kernel_rfl) ?_
  intro hne
  repeat (go_big_quiet_step (first
    | (go_at_call 26; exact above_of (sh3 _))
    | (go_at_call 27; exact above_of (sh2 _))))
  refine wpQuiet_nil ?_
  rintro _ ⟨kq, rfl⟩
  have A5 := HH.out.over kq.is
  clear HH q0 q1 q2 x0 x1 x2 y0 y1 y2 sh3 sh2 hne
  obtain ⟨q0, q1, q2⟩ := A5.cells
  obtain ⟨w5, hw5⟩ : ∃ w5, w5 = kq.it := ⟨_, rfl⟩
  rw [← hw5] at A5 q0 q1 q2
  rw [← hw5]
  clear hw5
  go_wp2_with fail
  refine (sh1 _ A5.env).mono ?_
  rintro e w6 ⟨rfl, hb6⟩
  have A6 := A5.over hb6
  clear A5 hb6 sh1 q0 q1 q2
  go_wp2_with fail
  refine (rd3 _ A6.env).mono ?_
  rintro e w7 ⟨rfl, hb7⟩
  have A7 := A6.over hb7
  clear A6 hb7 rd3
  have bz := box_new w7 #[.int .i64 z.k, .int .i64 z.n, .string z.s] 23
  have A8 := A7.over (below1 w7 (.cells #[.int .i64 z.k, .int .i64 z.n, .string z.s] 23))
  clear A7
  obtain ⟨q0, q1, q2⟩ := A8.cells
  go_wp2_with fail
  refine (hm _).mono ?_
  rintro e w9 ⟨rfl, hb9⟩
  have A9 := A8.over hb9
  have bz9 := bz.over hb9
  clear A8 hb9 hm bz q0 q1 q2
  obtain ⟨q0, q1, q2⟩ := A9.cells
  obtain ⟨z0, z1, z2⟩ := box_cells bz9
  cases hmay : mayC c with
  | false =>
    clear HB bz9
    go_wp2_with fail
    refine (awake_any _ A9.env).mono ?_
    rintro e w10 ⟨rfl, hb10⟩
    have A10 := A9.over hb10
    go_wp2_with fail
    go_ret
    exact ⟨rfl, A10.bel⟩
  | true =>
    obtain ⟨rfl, rfl⟩ := Prod.mk.inj (HB.out hmay)
    clear HB bz9
    go_wp2_with fail
    refine (awake_any _ A9.env).mono ?_
    rintro e w10 ⟨rfl, hb10⟩
    have A10 := A9.over hb10
    go_wp2_with fail
    go_ret
    exact ⟨rfl, A10.bel⟩
end Go.Proofs.YtjkkkdehmgfmeaaDoor
