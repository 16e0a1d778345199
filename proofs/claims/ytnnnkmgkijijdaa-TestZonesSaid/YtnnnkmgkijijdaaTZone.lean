/-
  The contracts of package test's zoneOf, allNulls, Merge and Zone.
-/
import Derived.Test.YtnnnkmgkijijdaaTMay
namespace Go.Proofs.Ytnnnkmgkijijdaa
open Go.RowKit

theorem size_zone : (Try.prog.info? 34).map (·.size) = some 8 := by kernel_rfl
theorem za_one (z : Zn) : (za z).all (·.oneCell') = true := by simp [za, Value.oneCell']
set_option maxHeartbeats 1000000 in
theorem allNulls_any (z : Zn) (w : World) :
    Calls Try.prog 30 #[zv z] w fun e w' => e = .returned (.bool (z.nu == z.ct)) ∧ Below w.heap.size w w' := by
  go_enter Try.func30, Try.ntmps30
  go_wp2
  go_ret
  exact ⟨rfl, below1 _ _⟩
set_option maxHeartbeats 1000000 in
theorem zoneOf_any (c : Cl) (w : World) :
    Calls Try.prog 29 #[cv c] w fun e w' => e = .returned (zv (zone1 c)) ∧ Below w.heap.size w w' := by
  have h1 := isNull_any c
  by_cases hk : c.k = 0
  · have HE : Hid (zone1 c = ⟨cl0, cl0, 1, 1⟩) := by unfold Hid zone1; rw [if_pos hk]
    have hkb : (c.k == 0) = true := by simpa using hk
    rw [hkb] at h1
    obtain ⟨ck, cn, cs⟩ := c
    clear hk hkb
    go_enter Try.func29, Try.ntmps29
    go_wp2_with (first
      | (go_at_call 26; refine (h1 _).mono ?_; rintro e w1 ⟨rfl, hb1⟩; obtain ⟨b0, bx1, hB⟩ := two_box hb1; clear hb1; have F1 := bx1.setRow (za ⟨cl0, cl0, 1, 1⟩); have hone := za_one ⟨cl0, cl0, 1, 1⟩)
      | (refine wpList_store_row rfl 34 _ _ rfl (w.heap.size + 1) (za ⟨cl0, cl0, 1, 1⟩) rfl rfl 34 _ bx1 size_zone rfl hone ?_))
    rw [HE.out]
    exact bodyPost_ret (res_box Try.results29 _ rfl F1 Try.underlying34 rfl size_zone) rfl ⟨rfl, below_setRow hB (by omega) _⟩
  · have HE : Hid (zone1 c = ⟨c, c, 0, 1⟩) := by unfold Hid zone1; rw [if_neg hk]
    have hkb : (c.k == 0) = false := by simpa using hk
    rw [hkb] at h1
    obtain ⟨ck, cn, cs⟩ := c
    clear hk hkb
    go_enter Try.func29, Try.ntmps29
    go_wp2_with (first
      | (go_at_call 26; refine (h1 _).mono ?_; rintro e w1 ⟨rfl, hb1⟩; obtain ⟨b0, bx1, hB⟩ := two_box hb1; have c0 := b0.cell 0 _ rfl; have c1 := b0.cell 1 _ rfl; have c2 := b0.cell 2 _ rfl; clear hb1; have F1 := bx1.setRow (za ⟨⟨ck, cn, cs⟩, ⟨ck, cn, cs⟩, 0, 1⟩); have hone := za_one ⟨⟨ck, cn, cs⟩, ⟨ck, cn, cs⟩, 0, 1⟩)
      | (refine wpList_store_row rfl 34 _ _ rfl (w.heap.size + 1) (za ⟨⟨ck, cn, cs⟩, ⟨ck, cn, cs⟩, 0, 1⟩) rfl rfl 34 _ bx1 size_zone rfl hone ?_))
    rw [HE.out]
    exact bodyPost_ret (res_box Try.results29 _ rfl F1 Try.underlying34 rfl size_zone) rfl ⟨rfl, below_setRow hB (by omega) _⟩

theorem Box.there {w : World} {b : Nat} {t : TypeId} {c : Array Value} (h : Box w b t c) {o n : Nat} (hn : o + n ≤ c.size) : w.there b o n := fun j hj => by
  refine ⟨?_, h.frozen _⟩
  rw [h.cell (o + j) c[o + j] (Array.getElem?_eq_getElem (by omega))]
  rfl
theorem Box.set3 {w : World} {b : Nat} {t : TypeId} {c : Array Value} (h : Box w b t c) (o : Nat) (x y z : Value) : Box (w.setCells b o [x, y, z]) b t (((c.setIfInBounds o x).setIfInBounds (o + 1) y).setIfInBounds (o + 1 + 1) z) := ((h.set o x).set (o + 1) y).set (o + 1 + 1) z
theorem Box.other3 {w : World} {b p : Nat} {t : TypeId} {c : Array Value} (h : Box w b t c) (hn : b ≠ p) (o : Nat) (x y z : Value) : Box (w.setCells p o [x, y, z]) b t c :=
  ((h.other (a := ⟨p, o, none⟩) hn x).other (a := ⟨p, o + 1, none⟩) hn y).other (a := ⟨p, o + 1 + 1, none⟩) hn z
theorem below_set3 {B : Nat} {a w : World} {p : Nat} (h : Below B a w) (hp : B ≤ p) (o : Nat) (x y z : Value) : Below B a (w.setCells p o [x, y, z]) :=
  ((h.setCell (p := ⟨p, o, none⟩) hp x).setCell (p := ⟨p, o + 1, none⟩) hp y).setCell (p := ⟨p, o + 1 + 1, none⟩) hp z
/-- What stays while two zones are merged: both of them, the room of the result, and what is made. -/
structure Mg (w w' : World) (a b m : Zn) (r : Array Value) : Prop where
  ba : Box w' w.heap.size 34 (za a)
  bb : Box w' (w.heap.size + 1) 34 (za b)
  br : Box w' (w.heap.size + 1 + 1) 34 r
  bm : Box w' (w.heap.size + 1 + 1 + 1) 34 (za m)
  bel : Below w.heap.size w w'
theorem Mg.over {w w1 w2 : World} {a b m : Zn} {r : Array Value} (h : Mg w w1 a b m r) (hb : Below w1.heap.size w1 w2) : Mg w w2 a b m r :=
  ⟨h.ba.over hb, h.bb.over hb, h.br.over hb, h.bm.over hb, h.bel.trans (hb.mono h.bel.size)⟩
theorem mg_new (w : World) (a b m : Zn) (r : Array Value) : Mg w ((((w.alloc (.cells (za a) 34)).alloc (.cells (za b) 34)).alloc (.cells r 34)).alloc (.cells (za m) 34)) a b m r := by
  have b0 := box_new w (za a) 34
  have b1 := box_new (w.alloc (.cells (za a) 34)) (za b) 34
  have b2 := box_new ((w.alloc (.cells (za a) 34)).alloc (.cells (za b) 34)) r 34
  have b3 := box_new (((w.alloc (.cells (za a) 34)).alloc (.cells (za b) 34)).alloc (.cells r 34)) (za m) 34
  rw [World.size_alloc] at b1
  rw [World.size_alloc, World.size_alloc] at b2
  rw [World.size_alloc, World.size_alloc, World.size_alloc] at b3
  exact ⟨((b0.over (below1 _ _)).over (below1 _ _)).over (below1 _ _), (b1.over (below1 _ _)).over (below1 _ _), b2.over (below1 _ _), b3, ((below2 _ _ _).alloc (by simp; omega) _).alloc (by simp; omega) _⟩
theorem Mg.mn {w w1 : World} {a b m : Zn} {r : Array Value} (h : Mg w w1 a b m r) (c : Cl) : Mg w (w1.setCells (w.heap.size + 1 + 1 + 1) 0 [.int .i64 c.k, .int .i64 c.n, .string c.s]) a b ⟨c, m.mx, m.nu, m.ct⟩ r :=
  ⟨h.ba.other3 (by omega) _ _ _ _, h.bb.other3 (by omega) _ _ _ _, h.br.other3 (by omega) _ _ _ _, h.bm.set3 0 _ _ _, below_set3 h.bel (by omega) _ _ _ _⟩
theorem Mg.mx {w w1 : World} {a b m : Zn} {r : Array Value} (h : Mg w w1 a b m r) (c : Cl) : Mg w (w1.setCells (w.heap.size + 1 + 1 + 1) 3 [.int .i64 c.k, .int .i64 c.n, .string c.s]) a b ⟨m.mn, c, m.nu, m.ct⟩ r :=
  ⟨h.ba.other3 (by omega) _ _ _ _, h.bb.other3 (by omega) _ _ _ _, h.br.other3 (by omega) _ _ _ _, h.bm.set3 3 _ _ _, below_set3 h.bel (by omega) _ _ _ _⟩
theorem box_cells {w : World} {b : Nat} {t : TypeId} {z : Zn} (h : Box w b t (za z)) : w.cell? ⟨b, 0, none⟩ = some (.int .i64 z.mn.k) ∧ w.cell? ⟨b, 1, none⟩ = some (.int .i64 z.mn.n) ∧ w.cell? ⟨b, 2, none⟩ = some (.string z.mn.s) ∧ w.cell? ⟨b, 3, none⟩ = some (.int .i64 z.mx.k) ∧ w.cell? ⟨b, 4, none⟩ = some (.int .i64 z.mx.n) ∧ w.cell? ⟨b, 5, none⟩ = some (.string z.mx.s) ∧ w.cell? ⟨b, 6, none⟩ = some (.int .i64 z.nu) ∧ w.cell? ⟨b, 7, none⟩ = some (.int .i64 z.ct) :=
  ⟨h.cell 0 _ rfl, h.cell 1 _ rfl, h.cell 2 _ rfl, h.cell 3 _ rfl, h.cell 4 _ rfl, h.cell 5 _ rfl, h.cell 6 _ rfl, h.cell 7 _ rfl⟩
end Go.Proofs.Ytnnnkmgkijijdaa
