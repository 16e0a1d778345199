/-
  The contract of package test's Zone.
-/
import Derived.Test.YtnnnkmgkijijdaaTMerge
import Derived.Test.YtnnnkmgkijijdaaLast
namespace Go.Proofs.Ytnnnkmgkijijdaa
open Go.RowKit

def zr : Array Value := #[.int .i64 0, .int .i64 0, .string ⟨#[]⟩, .int .i64 0, .int .i64 0, .string ⟨#[]⟩, .int .i64 0, .int .i64 0]
/-- What stays while a list is gone through: the room of the result, and the zone of what is behind. -/
structure Zs (w w' : World) (z : Zn) : Prop where
  br : Box w' w.heap.size 34 zr
  bz : Box w' (w.heap.size + 1) 34 (za z)
  bel : Below w.heap.size w w'
theorem Zs.over {w w1 w2 : World} {z : Zn} (h : Zs w w1 z) (hb : Below w1.heap.size w1 w2) : Zs w w2 z := ⟨h.br.over hb, h.bz.over hb, h.bel.trans (hb.mono h.bel.size)⟩
theorem Zs.set {w w1 : World} {z : Zn} (h : Zs w w1 z) (y : Zn) : Zs w (w1.setRow (w.heap.size + 1) (za y)) y := ⟨h.br.rowOther (by omega) _, h.bz.setRow _, below_setRow h.bel (by omega) _⟩
theorem zs_new (w : World) (z : Zn) : Zs w ((w.alloc (.cells zr 34)).alloc (.cells (za z) 34)) z := by
  have b1 := box_new (w.alloc (.cells zr 34)) (za z) 34
  rw [World.size_alloc] at b1
  exact ⟨box_old _ _ _ _, b1, below2 _ _ _⟩
theorem IsZone.bd {l : List Cl} {z : Zn} (h : IsZone l z) : 0 ≤ z.nu ∧ z.nu ≤ (l.length : Int) ∧ z.ct = (l.length : Int) := by
  have := nulls_le l
  have := h.nu
  exact ⟨by omega, by omega, h.ct⟩
theorem zone1_bd (c : Cl) : 0 ≤ (zone1 c).nu ∧ (zone1 c).nu ≤ 1 ∧ (zone1 c).ct = 1 := by
  have := (isZone_one c).bd
  simpa using this
theorem take_snoc {α : Type} {l : List α} {i : Nat} {c : α} (h : l[i]? = some c) : l.take (i + 1) = l.take i ++ [c] := by
  rw [List.take_add_one, h]; rfl

set_option maxRecDepth 4000 in
set_option maxHeartbeats 8000000 in
theorem zone_any {w : World} {v : Value} {l : List Cl} (h : RowIs w v l) (hm : l.length ≤ 1000000) :
    Calls Try.prog 14 #[v] w fun e w' => (∃ z, e = .returned (zv z) ∧ IsZone l z) ∧ Below w.heap.size w w' := by
  obtain ⟨a, cap, rfl, h⟩ := h
  obtain ⟨n, hn⟩ : ∃ n, n = l.length := ⟨_, rfl⟩
  rw [← hn] at hm
  rw [← hn]
  have HN : Hid (n = l.length) := hn
  have HH : Hid (l ≠ [] → ∃ b off, a = some ⟨b, off, none⟩ ∧ b < w.heap.size ∧ ∀ i c, l[i]? = some c → CellAt w b (off + i * 3) c) := h
  clear hn h
  go_enter Try.func14, Try.ntmps14
  go_wp2_with fail
  go_loopg [8] n (fun g s8 wx => ∃ i : Nat, i + g = n ∧ s8 = .int .i64 i ∧ ∃ z : Zn, Hid (IsZone (l.take i) z) ∧ Hid (Zs w wx z))
  case atStart => exact ⟨0, by omega, rfl, z0, isZone_nil, zs_new w z0⟩
  case round =>
    obtain ⟨i, hig, rfl, z, HZ, HS⟩ := hrel
    by_cases hi : i < n
    · have hiI : (i : Int) < (n : Int) := by omega
      have hrn := HN.out
      have hne : l ≠ [] := by rintro rfl; simp at hrn; omega
      obtain ⟨b, off, rfl, hb, hc⟩ := HH.out hne
      obtain ⟨c, hic⟩ : ∃ c, l[i]? = some c := ⟨_, List.getElem?_eq_getElem (by omega)⟩
      have x1 := (hc i c hic).below hb HS.out.bel
      have p0 := x1.c0
      have p1 := x1.c1
      have p2 := x1.c2
      have hr2 : IntKind.i64.wrap ((i : Int) + 1) = (i : Int) + 1 := by rw [IntKind.wrap_i64]; omega
      have HI : Hid (l[i]? = some c) := hic
      have hzb := HZ.out.bd
      have hz1 := zone1_bd c
      have hlt : (l.take i).length = i := by rw [List.length_take]; omega
      rw [hlt] at hzb
      have cz : ∀ w, _ := fun w => zoneOf_any c w
      have cm := merge_any z (zone1 c) (by rw [IntKind.wrap_i64]; omega) (by rw [IntKind.wrap_i64]; omega)
      have HZ2 : Hid (IsZone (l.take (i + 1)) (mergeZ z (zone1 c))) := by unfold Hid; rw [take_snoc hic]; exact isZone_more HZ.out c
      obtain ⟨y, hy⟩ : ∃ y, y = zone1 c := ⟨_, rfl⟩
      rw [← hy] at cz cm HZ2
      obtain ⟨u, hu⟩ : ∃ u, u = mergeZ z y := ⟨_, rfl⟩
      rw [← hu] at cm HZ2
      clear hc hic x1 hne hrn hzb hz1 hlt hy hu
      obtain ⟨ck, cn, cs⟩ := c
      have HA : ∀ q : Above (wr.alloc (.cells #[.int .i64 ck, .int .i64 cn, .string cs] 23)), Zs w q.it z ∧ Box q.it wr.heap.size 23 #[.int .i64 ck, .int .i64 cn, .string cs] := fun q => ⟨(HS.out.over (below1 _ _)).over q.is, (box_new _ _ _).over q.is⟩
      have a0 := fun q => (box_cells (HA q).1.bz).1
      have a1 := fun q => (box_cells (HA q).1.bz).2.1
      have a2 := fun q => (box_cells (HA q).1.bz).2.2.1
      have a3 := fun q => (box_cells (HA q).1.bz).2.2.2.1
      have a4 := fun q => (box_cells (HA q).1.bz).2.2.2.2.1
      have a5 := fun q => (box_cells (HA q).1.bz).2.2.2.2.2.1
      have a6 := fun q => (box_cells (HA q).1.bz).2.2.2.2.2.2.1
      have a7 := fun q => (box_cells (HA q).1.bz).2.2.2.2.2.2.2
      have d0 := fun q => (HA q).2.cell 0 (.int .i64 ck) rfl
      have d1 := fun q => (HA q).2.cell 1 (.int .i64 cn) rfl
      have d2 := fun q => (HA q).2.cell 2 (.string cs) rfl
      have HAA : Hid _ := HA
      clear HA
      go_wp2_with fail
      refine wp_region_above_last _ (by kernel_rfl) rfl (by kernel_rfl) ?_
      intro hne
      dsimp only [List.dropLast]
      repeat (go_big_quiet_step (first
        | (go_at_call 29; exact above_of (cz _))
        | (go_at_call 16; exact above_of (cm _))))
      refine wpQuiet_nil ?_
      rintro _ ⟨kq, rfl⟩
      obtain ⟨S1, -⟩ := HAA.out kq
      have HS2 : Hid (Zs w _ u) := S1.set u
      refine wp_store_row 34 _ _ rfl (w.heap.size + 1) (za u) rfl rfl 34 _ S1.bz size_zone rfl (za_one u) ?_
      clear S1 HAA a0 a1 a2 a3 a4 a5 a6 a7 d0 d1 d2
      go_wp2_with fail
      go_roundg (n - (i + 1))
      case measure => clear hr2; omega
      case rel => exact ⟨i + 1, by clear hr2; omega, by go_num, u, HZ2, HS2⟩
    · have hiI : ¬ (i : Int) < (n : Int) := by omega
      obtain rfl : i = n := by omega
      obtain ⟨m0, m1, m2, m3, m4, m5, m6, m7⟩ := box_cells HS.out.bz
      have F1 := HS.out.br.setRow (za z)
      have hone := za_one z
      go_wp2_with (refine wpList_store_row rfl 34 _ _ rfl w.heap.size (za z) rfl rfl 34 _ HS.out.br size_zone rfl hone ?_)
      have hrn := HN.out
      refine bodyPost_ret (res_box Try.results14 _ rfl F1 Try.underlying34 rfl size_zone) rfl ⟨⟨z, rfl, ?_⟩, below_setRow HS.out.bel (by omega) _⟩
      have := HZ.out
      rwa [List.take_of_length_le (by omega)] at this
end Go.Proofs.Ytnnnkmgkijijdaa
