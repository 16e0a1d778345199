/-
  6 texts, one behind the other: XIdxT, XIdxC, XIdxP, XIdxI, XIdxB, XName.
-/
import Derived.Test.YtdjobjbkpagnaaaGreatJoin4
import Derived.RangeFuncIn
import Derived.Shelf.Abstract
import Derived.Test.YtdjobjbkpagnaaaGreatJoin2
import Derived.Test.YtdjobjbkpagnaaaGreatJoin1
/-
  The contracts of slices.IndexFunc and ContainsFunc over a slice of tables, of schema's allHold and hasTwice of them, with whatever function is given.
-/
namespace Go.Proofs.YtdjobjbkpagnaaaGreat
open Go.RowKit Go.Shelf

/-- A function value that tells p of each of l. -/
def FnT (g : Nat) (caps : Array Value) (w : World) (l : List Tb) (p : Tb → Bool) : Prop :=
  ∀ (W : World) (x : Tb) (c0 c1 c2 : Value), Below w.heap.size w W → x ∈ l → TbE W x [c0, c1, c2] → Calls Tryz.prog g (#[.agg #[c0, c1, c2]] ++ caps) W fun e w' => e = .returned (.bool (p x)) ∧ Below W.heap.size W w'
theorem size_tb : (Tryz.prog.info? 41).map (·.size) = some 3 := by kernel_rfl
/-- The three cells of the element at k. -/
theorem at3T {w : World} {a : Option Addr} {n cap : Nat} {l : List Tb} (h : SlIs TbE 3 w (.slice a n cap) l) {k : Nat} (hk : k < n) : ∃ (x : Tb) (c0 c1 c2 : Value) (b off : Nat), l[k]? = some x ∧ a = some ⟨b, off, none⟩ ∧ TbE w x [c0, c1, c2] ∧ w.cell? ⟨b, off + k * 3, none⟩ = some c0 ∧ w.cell? ⟨b, off + k * 3 + 1, none⟩ = some c1 ∧ w.cell? ⟨b, off + k * 3 + 2, none⟩ = some c2 := by
  obtain ⟨x, cs, b, off, h1, h2, _, h3, h4, h5⟩ := h.at hk
  obtain ⟨c0, c1, c2, rfl⟩ : ∃ c0 c1 c2, cs = [c0, c1, c2] := by
    match cs, h3 with
    | [c0, c1, c2], _ => exact ⟨c0, c1, c2, rfl⟩
  exact ⟨x, c0, c1, c2, b, off, h1, h2, h4, h5 0 _ rfl, h5 1 _ rfl, h5 2 _ rfl⟩
set_option maxRecDepth 4000 in
set_option maxHeartbeats 4000000 in
theorem idxT_any {w : World} {v : Value} {l : List Tb} (h : SlIs TbE 3 w v l) (hl : l.length ≤ 1000000) (g : Nat) (caps : Array Value) (p : Tb → Bool) (eg : ∀ args w, (callFunc g args).run Tryz.prog w = .ok (.enter g args) w) (hf : FnT g caps w l p) :
    Calls Tryz.prog 43 #[v, .func (.func g) #[] caps] w fun e w' => e = .returned (.int .i64 (idxI p l)) ∧ Below w.heap.size w w' := by
  obtain ⟨a, n, cap, rfl, hn, hcap⟩ := h.slice
  have hn1 : (n : Int) ≤ 1000000 := by omega
  have HH : Hid (SlIs TbE 3 w (.slice a n cap) l ∧ l.length = n ∧ FnT g caps w l p) := ⟨h, hn, hf⟩
  clear h hl hn hf
  go_enter Tryz.func43, Tryz.ntmps43
  go_wp2_with fail
  go_loopg [8] n (fun gg s8 wx => ∃ k : Nat, k + gg = n ∧ s8 = .int .i64 k ∧ Hid ((l.take k).any p = false) ∧ Hid (Below w.heap.size w wx))
  case atStart => exact ⟨0, by omega, rfl, by unfold Hid; rw [List.take_zero]; rfl, Below.refl _ _⟩
  case round =>
    obtain ⟨k, hkg, rfl, HN, HB⟩ := hrel
    by_cases hk : k < n
    · have hkI : (k : Int) < (n : Int) := by omega
      obtain ⟨x, d0, d1, d2, b, off, hs, rfl, hE, c0, c1, c2⟩ := at3T (HH.out.1.over stays_tb HB.out) hk
      have hr2 : IntKind.i64.wrap ((k : Int) + 1) = (k : Int) + 1 := by rw [IntKind.wrap_i64]; omega
      have hcall := HH.out.2.2 wr x d0 d1 d2 HB.out (List.mem_of_getElem? hs) hE
      have HS : Hid (l[k]? = some x ∧ (l.take (k + 1)).any p = ((l.take k).any p || p x)) := ⟨hs, any_take_succ hs⟩
      obtain ⟨t, ht⟩ : ∃ t, t = p x := ⟨_, rfl⟩
      rw [← ht] at hcall HS
      have HT : Hid (t = p x) := ht
      clear hE hs ht
      go_wp2_with fail
      refine hcall.mono ?_
      rintro e w1 ⟨rfl, hb1⟩
      have HB1 : Hid (Below w.heap.size w w1) := HB.out.trans (hb1.mono HB.out.size)
      clear hb1 hcall c0 c1 c2
      cases t with
      | true =>
        go_wp2_with fail
        go_ret
        exact ⟨ret_int (idx_hit HN.out HS.out.1 HT.out.symm).symm, HB1.out⟩
      | false =>
        go_wp2_with fail
        go_roundg (n - (k + 1))
        case measure => clear hr2; omega
        case rel => exact ⟨k + 1, by clear hr2; omega, by go_num, by unfold Hid; rw [HS.out.2, HN.out]; rfl, HB1⟩
    · have hkI : ¬ (k : Int) < (n : Int) := by omega
      obtain rfl : k = n := by omega
      go_wp2_with fail
      go_ret
      exact ⟨ret_int (by have := HN.out; rw [List.take_of_length_le (by rw [HH.out.2.1]; exact Nat.le_refl _)] at this; rw [idx_none this]), HB.out⟩
set_option maxHeartbeats 1000000 in
theorem hasT_any {w : World} {v : Value} {l : List Tb} (h : SlIs TbE 3 w v l) (hl : l.length ≤ 1000000) (g : Nat) (caps : Array Value) (p : Tb → Bool) (eg : ∀ args w, (callFunc g args).run Tryz.prog w = .ok (.enter g args) w) (hf : FnT g caps w l p) :
    Calls Tryz.prog 72 #[v, .func (.func g) #[] caps] w fun e w' => e = .returned (.bool (l.any p)) ∧ Below w.heap.size w w' := by
  have hc := idxT_any h hl g caps p eg hf
  have hz := idx_any p l
  obtain ⟨a, n, cap, rfl, hn, hcap⟩ := h.slice
  generalize idxI p l = z at *
  generalize l.any p = t at *
  have HZ : Hid (decide (0 ≤ z) = t) := hz
  clear h hl hn hf hz
  go_enter Tryz.func72, Tryz.ntmps72
  go_wp2_with fail
  refine hc.mono ?_
  rintro e w1 ⟨rfl, hb1⟩
  go_wp2_with fail
  go_ret
  exact ⟨ret_bool HZ.out, hb1⟩
set_option maxHeartbeats 1000000 in
theorem all1T_any {w : World} {l : List Tb} {p : Tb → Bool} (g : Nat) (caps : Array Value) (eg : ∀ args w, (callFunc g args).run Tryz.prog w = .ok (.enter g args) w) (hf : FnT g caps w l p) (B : Nat) (hB : w.cell? ⟨B, 0, none⟩ = some (.func (.func g) #[] caps)) :
    FnT 73 #[.pointer (some ⟨B, 0, none⟩)] w l (fun x => !p x) := by
  intro W x c0 c1 c2 hW hx hE
  have hlt := World.block_lt_of_cell? w _ hB
  have hB2 := (hW.cell (p := ⟨B, 0, none⟩) hlt).trans hB
  have b1 := below1 W (.cells #[c0, c1, c2] 41)
  have hB3 := (b1.cell (p := ⟨B, 0, none⟩) (Nat.lt_of_lt_of_le hlt hW.size)).trans hB2
  have hc := hf _ x c0 c1 c2 (hW.trans (b1.mono hW.size)) hx (stays_tb _ _ _ _ hE b1)
  show Calls _ _ _ _ fun e w' => e = .returned (.bool (!p x)) ∧ Below W.heap.size W w'
  generalize p x = t at *
  have HB : Hid (Below W.heap.size W (W.alloc (.cells #[c0, c1, c2] 41))) := b1
  clear hB hB2 hE hlt b1 hf
  go_enter Tryz.func73, Tryz.ntmps73
  go_wp2_with fail
  refine hc.mono ?_
  rintro e w1 ⟨rfl, hb1⟩
  go_wp2_with fail
  go_ret
  exact ⟨rfl, HB.out.trans (hb1.mono HB.out.size)⟩
set_option maxHeartbeats 1000000 in
theorem allT_any {w : World} {v : Value} {l : List Tb} (h : SlIs TbE 3 w v l) (hl : l.length ≤ 1000000) (g : Nat) (caps : Array Value) (p : Tb → Bool) (eg : ∀ args w, (callFunc g args).run Tryz.prog w = .ok (.enter g args) w) (hf : FnT g caps w l p) :
    Calls Tryz.prog 34 #[v, .func (.func g) #[] caps] w fun e w' => e = .returned (.bool (l.all p)) ∧ Below w.heap.size w w' := by
  have hb0 := below1 w (.cells #[.func (.func g) #[] caps] 62)
  have bx := box_new w #[.func (.func g) #[] caps] 62
  have hc := hasT_any (h.over stays_tb hb0) hl 73 #[.pointer (some ⟨w.heap.size, 0, none⟩)] (fun x => !p x) (enters_of Tryz.func73 (by kernel_rfl) rfl) (all1T_any g caps eg (fun W x c0 c1 c2 hW hx hE => hf W x c0 c1 c2 (hb0.trans (hW.mono hb0.size)) hx hE) w.heap.size (bx.cell 0 _ rfl))
  have hz := not_any_not p l
  obtain ⟨a, n, cap, rfl, hn, hcap⟩ := h.slice
  generalize l.all p = s at *
  generalize (l.any fun x => !p x) = t at *
  have HZ : Hid ((!t) = s) := hz
  have HB : Hid (Below w.heap.size w (w.alloc (.cells #[.func (.func g) #[] caps] 62))) := hb0
  clear h hl hn hf hz hb0 bx
  go_enter Tryz.func34, Tryz.ntmps34
  go_wp2_with fail
  refine hc.mono ?_
  rintro e w1 ⟨rfl, hb1⟩
  go_wp2_with fail
  go_ret
  exact ⟨ret_bool HZ.out, HB.out.trans (hb1.mono HB.out.size)⟩

/-- A function value that tells of each two of l. -/
def FsT (g : Nat) (caps : Array Value) (w : World) (l : List Tb) (q : Tb → Tb → Bool) : Prop :=
  ∀ (W : World) (x y : Tb) (c0 c1 c2 d0 d1 d2 : Value), Below w.heap.size w W → x ∈ l → y ∈ l → TbE W x [c0, c1, c2] → TbE W y [d0, d1, d2] → Calls Tryz.prog g (#[.agg #[c0, c1, c2], .agg #[d0, d1, d2]] ++ caps) W fun e w' => e = .returned (.bool (q x y)) ∧ Below W.heap.size W w'
set_option maxHeartbeats 1000000 in
theorem tw1T_any {w : World} {l : List Tb} {q : Tb → Tb → Bool} (g : Nat) (caps : Array Value) (eg : ∀ args w, (callFunc g args).run Tryz.prog w = .ok (.enter g args) w) (hf : FsT g caps w l q) (B1 B2 : Nat) (hB1 : w.cell? ⟨B1, 0, none⟩ = some (.func (.func g) #[] caps))
    {y : Tb} {d0 d1 d2 : Value} (hy : y ∈ l) (hE2 : TbE w y [d0, d1, d2]) (e0 : w.cell? ⟨B2, 0, none⟩ = some d0) (e1 : w.cell? ⟨B2, 1, none⟩ = some d1) (e2 : w.cell? ⟨B2, 2, none⟩ = some d2) :
    FnT 78 #[.pointer (some ⟨B1, 0, none⟩), .pointer (some ⟨B2, 0, none⟩)] w l (fun x => q x y) := by
  intro W x c0 c1 c2 hW hx hE
  have b1 := below1 W (.cells #[c0, c1, c2] 41)
  have hWb := hW.trans (b1.mono hW.size)
  have hB3 := (hWb.cell (p := ⟨B1, 0, none⟩) (World.block_lt_of_cell? w _ hB1)).trans hB1
  have f0 := (hWb.cell (p := ⟨B2, 0, none⟩) (World.block_lt_of_cell? w _ e0)).trans e0
  have f1 := (hWb.cell (p := ⟨B2, 1, none⟩) (World.block_lt_of_cell? w _ e1)).trans e1
  have f2 := (hWb.cell (p := ⟨B2, 2, none⟩) (World.block_lt_of_cell? w _ e2)).trans e2
  have hc := hf _ x y c0 c1 c2 d0 d1 d2 hWb hx hy (stays_tb _ _ _ _ hE b1) (stays_tb _ _ _ _ hE2 hWb)
  show Calls _ _ _ _ fun e w' => e = .returned (.bool (q x y)) ∧ Below W.heap.size W w'
  generalize q x y = t at *
  have HB : Hid (Below W.heap.size W (W.alloc (.cells #[c0, c1, c2] 41))) := b1
  clear hB1 e0 e1 e2 hE hE2 b1 hf hWb
  go_enter Tryz.func78, Tryz.ntmps78
  go_wp2_with fail
  refine hc.mono ?_
  rintro e w1 ⟨rfl, hb1⟩
  go_wp2_with fail
  go_ret
  exact ⟨rfl, HB.out.trans (hb1.mono HB.out.size)⟩
set_option maxRecDepth 4000 in
set_option maxHeartbeats 4000000 in
theorem twT_any {w : World} {v : Value} {l : List Tb} (h : SlIs TbE 3 w v l) (hl : l.length ≤ 1000000) (g : Nat) (caps : Array Value) (q : Tb → Tb → Bool) (eg : ∀ args w, (callFunc g args).run Tryz.prog w = .ok (.enter g args) w) (hf : FsT g caps w l q) :
    Calls Tryz.prog 36 #[v, .func (.func g) #[] caps] w fun e w' => e = .returned (.bool (tw q l)) ∧ Below w.heap.size w w' := by
  have hb0 := below1 w (.cells #[.func (.func g) #[] caps] 60)
  have bx := box_new w #[.func (.func g) #[] caps] 60
  obtain ⟨a, n, cap, rfl, hn, hcap⟩ := h.slice
  have hn1 : (n : Int) ≤ 1000000 := by omega
  have HH : Hid (SlIs TbE 3 w (.slice a n cap) l ∧ l.length = n ∧ n ≤ cap ∧ FsT g caps w l q) := ⟨h, hn, hcap, hf⟩
  have H0 : Hid (Unit → Below w.heap.size w _ ∧ Box _ w.heap.size 60 #[.func (.func g) #[] caps]) := fun _ => ⟨hb0, bx⟩
  have hcapI : (n : Int) ≤ (cap : Int) := by omega
  clear h hl hn hf hb0 bx
  go_enter Tryz.func36, Tryz.ntmps36
  go_wp2_with fail
  go_loopg [9] n (fun gg s9 wx => ∃ k : Nat, k + gg = n ∧ s9 = .int .i64 k ∧ Hid (tw q (l.take k) = false) ∧ Hid (Below w.heap.size w wx ∧ Box wx w.heap.size 60 #[.func (.func g) #[] caps]))
  case atStart => exact ⟨0, by omega, rfl, by unfold Hid; rw [List.take_zero]; rfl, H0.out ()⟩
  case round =>
    obtain ⟨k, hkg, rfl, HN, HB⟩ := hrel
    by_cases hk : k < n
    · have hkI : (k : Int) < (n : Int) := by omega
      have hkC : (k : Int) ≤ (cap : Int) := by omega
      have hS := HH.out.1.over stays_tb HB.out.1
      obtain ⟨x, d0, d1, d2, b, off, hs, rfl, hE, c0, c1, c2⟩ := at3T hS hk
      have hr2 : IntKind.i64.wrap ((k : Int) + 1) = (k : Int) + 1 := by rw [IntKind.wrap_i64]; omega
      have HS : Hid (tw q (l.take (k + 1)) = (tw q (l.take k) || (l.take k).any fun y => q y x)) := tw_take hs
      obtain ⟨t, ht⟩ : ∃ t, t = (l.take k).any fun y => q y x := ⟨_, rfl⟩
      rw [← ht] at HS
      have hone := one_three (one_tb hE)
      have HB2 : Hid (∀ z, Below w.heap.size w ((wr.alloc (.cells z 41)).setRow wr.heap.size #[d0, d1, d2]) ∧ Box ((wr.alloc (.cells z 41)).setRow wr.heap.size #[d0, d1, d2]) w.heap.size 60 #[.func (.func g) #[] caps] ∧
          Calls Tryz.prog 72 #[.slice (some ⟨b, off, none⟩) k cap, .func (.func 78) #[] #[.pointer (some ⟨w.heap.size, 0, none⟩), .pointer (some ⟨wr.heap.size, 0, none⟩)]] ((wr.alloc (.cells z 41)).setRow wr.heap.size #[d0, d1, d2]) fun e w' => e = .returned (.bool t) ∧ Below ((wr.alloc (.cells z 41)).setRow wr.heap.size #[d0, d1, d2]).heap.size ((wr.alloc (.cells z 41)).setRow wr.heap.size #[d0, d1, d2]) w') := by
        intro z
        have b1 : Below wr.heap.size wr ((wr.alloc (.cells z 41)).setRow wr.heap.size #[d0, d1, d2]) := below_setRow (below1 wr _) (Nat.le_refl _) _
        have B1 : Box ((wr.alloc (.cells z 41)).setRow wr.heap.size #[d0, d1, d2]) wr.heap.size 41 #[d0, d1, d2] := (box_new wr z 41).setRow _
        have hwb := HB.out.1.trans (b1.mono HB.out.1.size)
        have hcl := tw1T_any (w := (wr.alloc (.cells z 41)).setRow wr.heap.size #[d0, d1, d2]) (l := l) (q := q) g caps eg (fun W x y c0 c1 c2 d0 d1 d2 hW hx hy hE1 hE2 => HH.out.2.2.2 W x y c0 c1 c2 d0 d1 d2 (hwb.trans (hW.mono hwb.size)) hx hy hE1 hE2) w.heap.size wr.heap.size ((HB.out.2.over b1).cell 0 _ rfl) (List.mem_of_getElem? hs) (stays_tb _ _ _ _ hE b1) (B1.cell 0 _ rfl) (B1.cell 1 _ rfl) (B1.cell 2 _ rfl)
        have hcall := hasT_any ((hS.over stays_tb b1).take (Nat.le_of_lt hk)) (by have := HH.out.2.1; rw [List.length_take]; omega) _ _ (fun y => q y x) (enters_of Tryz.func78 (by kernel_rfl) rfl) (fun W y c0 c1 c2 hW hy hE => hcl W y c0 c1 c2 hW (List.mem_of_mem_take hy) hE)
        rw [← ht] at hcall
        exact ⟨hwb, HB.out.2.over b1, hcall⟩
      have HZ : Hid (∀ z, Box (wr.alloc (.cells z 41)) wr.heap.size 41 z) := fun z => box_new wr z _
      clear hE hs ht hS
      go_wp2_with (refine wpList_store_row rfl 41 _ _ rfl wr.heap.size #[d0, d1, d2] rfl rfl 41 _ (HZ.out _) size_tb rfl hone ?_)
      refine (HB2.out _).2.2.mono ?_
      rintro e w1 ⟨rfl, hb1⟩
      have HB1 : Hid (Below w.heap.size w w1 ∧ Box w1 w.heap.size 60 #[.func (.func g) #[] caps]) := ⟨(HB2.out _).1.trans (hb1.mono (HB2.out _).1.size), (HB2.out _).2.1.over hb1⟩
      clear hb1 c0 c1 c2 HB2
      cases t with
      | true =>
        go_wp2_with fail
        go_ret
        exact ⟨ret_bool (tw_take_true (k := k + 1) (by rw [HS.out]; simp)).symm, HB1.out.1⟩
      | false =>
        go_wp2_with fail
        go_roundg (n - (k + 1))
        case measure => clear hr2; omega
        case rel => exact ⟨k + 1, by clear hr2; omega, by go_num, by unfold Hid; rw [HS.out, HN.out]; rfl, HB1⟩
    · have hkI : ¬ (k : Int) < (n : Int) := by omega
      obtain rfl : k = n := by omega
      go_wp2_with fail
      go_ret
      exact ⟨ret_bool (by have := HN.out; rw [List.take_of_length_le (by rw [HH.out.2.1]; exact Nat.le_refl _)] at this; exact this.symm), HB.out.1⟩
end Go.Proofs.YtdjobjbkpagnaaaGreat
/-
  The contracts of slices.IndexFunc and ContainsFunc over a slice of columns, of schema's allHold and hasTwice of them, with whatever function is given.
-/
namespace Go.Proofs.YtdjobjbkpagnaaaGreat
open Go.RowKit Go.Shelf

/-- A function value that tells p of each of l. -/
def FnC (g : Nat) (caps : Array Value) (w : World) (l : List Col) (p : Col → Bool) : Prop :=
  ∀ (W : World) (x : Col) (c0 c1 c2 : Value), Below w.heap.size w W → x ∈ l → ColE W x [c0, c1, c2] → Calls Tryz.prog g (#[.agg #[c0, c1, c2]] ++ caps) W fun e w' => e = .returned (.bool (p x)) ∧ Below W.heap.size W w'
theorem size_col : (Tryz.prog.info? 53).map (·.size) = some 3 := by kernel_rfl
/-- The three cells of the element at k. -/
theorem at3C {w : World} {a : Option Addr} {n cap : Nat} {l : List Col} (h : SlIs ColE 3 w (.slice a n cap) l) {k : Nat} (hk : k < n) : ∃ (x : Col) (c0 c1 c2 : Value) (b off : Nat), l[k]? = some x ∧ a = some ⟨b, off, none⟩ ∧ ColE w x [c0, c1, c2] ∧ w.cell? ⟨b, off + k * 3, none⟩ = some c0 ∧ w.cell? ⟨b, off + k * 3 + 1, none⟩ = some c1 ∧ w.cell? ⟨b, off + k * 3 + 2, none⟩ = some c2 := by
  obtain ⟨x, cs, b, off, h1, h2, _, h3, h4, h5⟩ := h.at hk
  obtain ⟨c0, c1, c2, rfl⟩ : ∃ c0 c1 c2, cs = [c0, c1, c2] := by
    match cs, h3 with
    | [c0, c1, c2], _ => exact ⟨c0, c1, c2, rfl⟩
  exact ⟨x, c0, c1, c2, b, off, h1, h2, h4, h5 0 _ rfl, h5 1 _ rfl, h5 2 _ rfl⟩
set_option maxRecDepth 4000 in
set_option maxHeartbeats 4000000 in
theorem idxC_any {w : World} {v : Value} {l : List Col} (h : SlIs ColE 3 w v l) (hl : l.length ≤ 1000000) (g : Nat) (caps : Array Value) (p : Col → Bool) (eg : ∀ args w, (callFunc g args).run Tryz.prog w = .ok (.enter g args) w) (hf : FnC g caps w l p) :
    Calls Tryz.prog 54 #[v, .func (.func g) #[] caps] w fun e w' => e = .returned (.int .i64 (idxI p l)) ∧ Below w.heap.size w w' := by
  obtain ⟨a, n, cap, rfl, hn, hcap⟩ := h.slice
  have hn1 : (n : Int) ≤ 1000000 := by omega
  have HH : Hid (SlIs ColE 3 w (.slice a n cap) l ∧ l.length = n ∧ FnC g caps w l p) := ⟨h, hn, hf⟩
  clear h hl hn hf
  go_enter Tryz.func54, Tryz.ntmps54
  go_wp2_with fail
  go_loopg [8] n (fun gg s8 wx => ∃ k : Nat, k + gg = n ∧ s8 = .int .i64 k ∧ Hid ((l.take k).any p = false) ∧ Hid (Below w.heap.size w wx))
  case atStart => exact ⟨0, by omega, rfl, by unfold Hid; rw [List.take_zero]; rfl, Below.refl _ _⟩
  case round =>
    obtain ⟨k, hkg, rfl, HN, HB⟩ := hrel
    by_cases hk : k < n
    · have hkI : (k : Int) < (n : Int) := by omega
      obtain ⟨x, d0, d1, d2, b, off, hs, rfl, hE, c0, c1, c2⟩ := at3C (HH.out.1.over stays_col HB.out) hk
      have hr2 : IntKind.i64.wrap ((k : Int) + 1) = (k : Int) + 1 := by rw [IntKind.wrap_i64]; omega
      have hcall := HH.out.2.2 wr x d0 d1 d2 HB.out (List.mem_of_getElem? hs) hE
      have HS : Hid (l[k]? = some x ∧ (l.take (k + 1)).any p = ((l.take k).any p || p x)) := ⟨hs, any_take_succ hs⟩
      obtain ⟨t, ht⟩ : ∃ t, t = p x := ⟨_, rfl⟩
      rw [← ht] at hcall HS
      have HT : Hid (t = p x) := ht
      clear hE hs ht
      go_wp2_with fail
      refine hcall.mono ?_
      rintro e w1 ⟨rfl, hb1⟩
      have HB1 : Hid (Below w.heap.size w w1) := HB.out.trans (hb1.mono HB.out.size)
      clear hb1 hcall c0 c1 c2
      cases t with
      | true =>
        go_wp2_with fail
        go_ret
        exact ⟨ret_int (idx_hit HN.out HS.out.1 HT.out.symm).symm, HB1.out⟩
      | false =>
        go_wp2_with fail
        go_roundg (n - (k + 1))
        case measure => clear hr2; omega
        case rel => exact ⟨k + 1, by clear hr2; omega, by go_num, by unfold Hid; rw [HS.out.2, HN.out]; rfl, HB1⟩
    · have hkI : ¬ (k : Int) < (n : Int) := by omega
      obtain rfl : k = n := by omega
      go_wp2_with fail
      go_ret
      exact ⟨ret_int (by have := HN.out; rw [List.take_of_length_le (by rw [HH.out.2.1]; exact Nat.le_refl _)] at this; rw [idx_none this]), HB.out⟩
set_option maxHeartbeats 1000000 in
theorem hasC_any {w : World} {v : Value} {l : List Col} (h : SlIs ColE 3 w v l) (hl : l.length ≤ 1000000) (g : Nat) (caps : Array Value) (p : Col → Bool) (eg : ∀ args w, (callFunc g args).run Tryz.prog w = .ok (.enter g args) w) (hf : FnC g caps w l p) :
    Calls Tryz.prog 135 #[v, .func (.func g) #[] caps] w fun e w' => e = .returned (.bool (l.any p)) ∧ Below w.heap.size w w' := by
  have hc := idxC_any h hl g caps p eg hf
  have hz := idx_any p l
  obtain ⟨a, n, cap, rfl, hn, hcap⟩ := h.slice
  generalize idxI p l = z at *
  generalize l.any p = t at *
  have HZ : Hid (decide (0 ≤ z) = t) := hz
  clear h hl hn hf hz
  go_enter Tryz.func135, Tryz.ntmps135
  go_wp2_with fail
  refine hc.mono ?_
  rintro e w1 ⟨rfl, hb1⟩
  go_wp2_with fail
  go_ret
  exact ⟨ret_bool HZ.out, hb1⟩
set_option maxHeartbeats 1000000 in
theorem all1C_any {w : World} {l : List Col} {p : Col → Bool} (g : Nat) (caps : Array Value) (eg : ∀ args w, (callFunc g args).run Tryz.prog w = .ok (.enter g args) w) (hf : FnC g caps w l p) (B : Nat) (hB : w.cell? ⟨B, 0, none⟩ = some (.func (.func g) #[] caps)) :
    FnC 136 #[.pointer (some ⟨B, 0, none⟩)] w l (fun x => !p x) := by
  intro W x c0 c1 c2 hW hx hE
  have hlt := World.block_lt_of_cell? w _ hB
  have hB2 := (hW.cell (p := ⟨B, 0, none⟩) hlt).trans hB
  have b1 := below1 W (.cells #[c0, c1, c2] 53)
  have hB3 := (b1.cell (p := ⟨B, 0, none⟩) (Nat.lt_of_lt_of_le hlt hW.size)).trans hB2
  have hc := hf _ x c0 c1 c2 (hW.trans (b1.mono hW.size)) hx (stays_col _ _ _ _ hE b1)
  show Calls _ _ _ _ fun e w' => e = .returned (.bool (!p x)) ∧ Below W.heap.size W w'
  generalize p x = t at *
  have HB : Hid (Below W.heap.size W (W.alloc (.cells #[c0, c1, c2] 53))) := b1
  clear hB hB2 hE hlt b1 hf
  go_enter Tryz.func136, Tryz.ntmps136
  go_wp2_with fail
  refine hc.mono ?_
  rintro e w1 ⟨rfl, hb1⟩
  go_wp2_with fail
  go_ret
  exact ⟨rfl, HB.out.trans (hb1.mono HB.out.size)⟩
set_option maxHeartbeats 1000000 in
theorem allC_any {w : World} {v : Value} {l : List Col} (h : SlIs ColE 3 w v l) (hl : l.length ≤ 1000000) (g : Nat) (caps : Array Value) (p : Col → Bool) (eg : ∀ args w, (callFunc g args).run Tryz.prog w = .ok (.enter g args) w) (hf : FnC g caps w l p) :
    Calls Tryz.prog 101 #[v, .func (.func g) #[] caps] w fun e w' => e = .returned (.bool (l.all p)) ∧ Below w.heap.size w w' := by
  have hb0 := below1 w (.cells #[.func (.func g) #[] caps] 87)
  have bx := box_new w #[.func (.func g) #[] caps] 87
  have hc := hasC_any (h.over stays_col hb0) hl 136 #[.pointer (some ⟨w.heap.size, 0, none⟩)] (fun x => !p x) (enters_of Tryz.func136 (by kernel_rfl) rfl) (all1C_any g caps eg (fun W x c0 c1 c2 hW hx hE => hf W x c0 c1 c2 (hb0.trans (hW.mono hb0.size)) hx hE) w.heap.size (bx.cell 0 _ rfl))
  have hz := not_any_not p l
  obtain ⟨a, n, cap, rfl, hn, hcap⟩ := h.slice
  generalize l.all p = s at *
  generalize (l.any fun x => !p x) = t at *
  have HZ : Hid ((!t) = s) := hz
  have HB : Hid (Below w.heap.size w (w.alloc (.cells #[.func (.func g) #[] caps] 87))) := hb0
  clear h hl hn hf hz hb0 bx
  go_enter Tryz.func101, Tryz.ntmps101
  go_wp2_with fail
  refine hc.mono ?_
  rintro e w1 ⟨rfl, hb1⟩
  go_wp2_with fail
  go_ret
  exact ⟨ret_bool HZ.out, HB.out.trans (hb1.mono HB.out.size)⟩

/-- A function value that tells of each two of l. -/
def FsC (g : Nat) (caps : Array Value) (w : World) (l : List Col) (q : Col → Col → Bool) : Prop :=
  ∀ (W : World) (x y : Col) (c0 c1 c2 d0 d1 d2 : Value), Below w.heap.size w W → x ∈ l → y ∈ l → ColE W x [c0, c1, c2] → ColE W y [d0, d1, d2] → Calls Tryz.prog g (#[.agg #[c0, c1, c2], .agg #[d0, d1, d2]] ++ caps) W fun e w' => e = .returned (.bool (q x y)) ∧ Below W.heap.size W w'
set_option maxHeartbeats 1000000 in
theorem tw1C_any {w : World} {l : List Col} {q : Col → Col → Bool} (g : Nat) (caps : Array Value) (eg : ∀ args w, (callFunc g args).run Tryz.prog w = .ok (.enter g args) w) (hf : FsC g caps w l q) (B1 B2 : Nat) (hB1 : w.cell? ⟨B1, 0, none⟩ = some (.func (.func g) #[] caps))
    {y : Col} {d0 d1 d2 : Value} (hy : y ∈ l) (hE2 : ColE w y [d0, d1, d2]) (e0 : w.cell? ⟨B2, 0, none⟩ = some d0) (e1 : w.cell? ⟨B2, 1, none⟩ = some d1) (e2 : w.cell? ⟨B2, 2, none⟩ = some d2) :
    FnC 137 #[.pointer (some ⟨B1, 0, none⟩), .pointer (some ⟨B2, 0, none⟩)] w l (fun x => q x y) := by
  intro W x c0 c1 c2 hW hx hE
  have b1 := below1 W (.cells #[c0, c1, c2] 53)
  have hWb := hW.trans (b1.mono hW.size)
  have hB3 := (hWb.cell (p := ⟨B1, 0, none⟩) (World.block_lt_of_cell? w _ hB1)).trans hB1
  have f0 := (hWb.cell (p := ⟨B2, 0, none⟩) (World.block_lt_of_cell? w _ e0)).trans e0
  have f1 := (hWb.cell (p := ⟨B2, 1, none⟩) (World.block_lt_of_cell? w _ e1)).trans e1
  have f2 := (hWb.cell (p := ⟨B2, 2, none⟩) (World.block_lt_of_cell? w _ e2)).trans e2
  have hc := hf _ x y c0 c1 c2 d0 d1 d2 hWb hx hy (stays_col _ _ _ _ hE b1) (stays_col _ _ _ _ hE2 hWb)
  show Calls _ _ _ _ fun e w' => e = .returned (.bool (q x y)) ∧ Below W.heap.size W w'
  generalize q x y = t at *
  have HB : Hid (Below W.heap.size W (W.alloc (.cells #[c0, c1, c2] 53))) := b1
  clear hB1 e0 e1 e2 hE hE2 b1 hf hWb
  go_enter Tryz.func137, Tryz.ntmps137
  go_wp2_with fail
  refine hc.mono ?_
  rintro e w1 ⟨rfl, hb1⟩
  go_wp2_with fail
  go_ret
  exact ⟨rfl, HB.out.trans (hb1.mono HB.out.size)⟩
set_option maxRecDepth 4000 in
set_option maxHeartbeats 4000000 in
theorem twC_any {w : World} {v : Value} {l : List Col} (h : SlIs ColE 3 w v l) (hl : l.length ≤ 1000000) (g : Nat) (caps : Array Value) (q : Col → Col → Bool) (eg : ∀ args w, (callFunc g args).run Tryz.prog w = .ok (.enter g args) w) (hf : FsC g caps w l q) :
    Calls Tryz.prog 103 #[v, .func (.func g) #[] caps] w fun e w' => e = .returned (.bool (tw q l)) ∧ Below w.heap.size w w' := by
  have hb0 := below1 w (.cells #[.func (.func g) #[] caps] 121)
  have bx := box_new w #[.func (.func g) #[] caps] 121
  obtain ⟨a, n, cap, rfl, hn, hcap⟩ := h.slice
  have hn1 : (n : Int) ≤ 1000000 := by omega
  have HH : Hid (SlIs ColE 3 w (.slice a n cap) l ∧ l.length = n ∧ n ≤ cap ∧ FsC g caps w l q) := ⟨h, hn, hcap, hf⟩
  have H0 : Hid (Unit → Below w.heap.size w _ ∧ Box _ w.heap.size 121 #[.func (.func g) #[] caps]) := fun _ => ⟨hb0, bx⟩
  have hcapI : (n : Int) ≤ (cap : Int) := by omega
  clear h hl hn hf hb0 bx
  go_enter Tryz.func103, Tryz.ntmps103
  go_wp2_with fail
  go_loopg [9] n (fun gg s9 wx => ∃ k : Nat, k + gg = n ∧ s9 = .int .i64 k ∧ Hid (tw q (l.take k) = false) ∧ Hid (Below w.heap.size w wx ∧ Box wx w.heap.size 121 #[.func (.func g) #[] caps]))
  case atStart => exact ⟨0, by omega, rfl, by unfold Hid; rw [List.take_zero]; rfl, H0.out ()⟩
  case round =>
    obtain ⟨k, hkg, rfl, HN, HB⟩ := hrel
    by_cases hk : k < n
    · have hkI : (k : Int) < (n : Int) := by omega
      have hkC : (k : Int) ≤ (cap : Int) := by omega
      have hS := HH.out.1.over stays_col HB.out.1
      obtain ⟨x, d0, d1, d2, b, off, hs, rfl, hE, c0, c1, c2⟩ := at3C hS hk
      have hr2 : IntKind.i64.wrap ((k : Int) + 1) = (k : Int) + 1 := by rw [IntKind.wrap_i64]; omega
      have HS : Hid (tw q (l.take (k + 1)) = (tw q (l.take k) || (l.take k).any fun y => q y x)) := tw_take hs
      obtain ⟨t, ht⟩ : ∃ t, t = (l.take k).any fun y => q y x := ⟨_, rfl⟩
      rw [← ht] at HS
      have hone := one_three (one_col hE)
      have HB2 : Hid (∀ z, Below w.heap.size w ((wr.alloc (.cells z 53)).setRow wr.heap.size #[d0, d1, d2]) ∧ Box ((wr.alloc (.cells z 53)).setRow wr.heap.size #[d0, d1, d2]) w.heap.size 121 #[.func (.func g) #[] caps] ∧
          Calls Tryz.prog 135 #[.slice (some ⟨b, off, none⟩) k cap, .func (.func 137) #[] #[.pointer (some ⟨w.heap.size, 0, none⟩), .pointer (some ⟨wr.heap.size, 0, none⟩)]] ((wr.alloc (.cells z 53)).setRow wr.heap.size #[d0, d1, d2]) fun e w' => e = .returned (.bool t) ∧ Below ((wr.alloc (.cells z 53)).setRow wr.heap.size #[d0, d1, d2]).heap.size ((wr.alloc (.cells z 53)).setRow wr.heap.size #[d0, d1, d2]) w') := by
        intro z
        have b1 : Below wr.heap.size wr ((wr.alloc (.cells z 53)).setRow wr.heap.size #[d0, d1, d2]) := below_setRow (below1 wr _) (Nat.le_refl _) _
        have B1 : Box ((wr.alloc (.cells z 53)).setRow wr.heap.size #[d0, d1, d2]) wr.heap.size 53 #[d0, d1, d2] := (box_new wr z 53).setRow _
        have hwb := HB.out.1.trans (b1.mono HB.out.1.size)
        have hcl := tw1C_any (w := (wr.alloc (.cells z 53)).setRow wr.heap.size #[d0, d1, d2]) (l := l) (q := q) g caps eg (fun W x y c0 c1 c2 d0 d1 d2 hW hx hy hE1 hE2 => HH.out.2.2.2 W x y c0 c1 c2 d0 d1 d2 (hwb.trans (hW.mono hwb.size)) hx hy hE1 hE2) w.heap.size wr.heap.size ((HB.out.2.over b1).cell 0 _ rfl) (List.mem_of_getElem? hs) (stays_col _ _ _ _ hE b1) (B1.cell 0 _ rfl) (B1.cell 1 _ rfl) (B1.cell 2 _ rfl)
        have hcall := hasC_any ((hS.over stays_col b1).take (Nat.le_of_lt hk)) (by have := HH.out.2.1; rw [List.length_take]; omega) _ _ (fun y => q y x) (enters_of Tryz.func137 (by kernel_rfl) rfl) (fun W y c0 c1 c2 hW hy hE => hcl W y c0 c1 c2 hW (List.mem_of_mem_take hy) hE)
        rw [← ht] at hcall
        exact ⟨hwb, HB.out.2.over b1, hcall⟩
      have HZ : Hid (∀ z, Box (wr.alloc (.cells z 53)) wr.heap.size 53 z) := fun z => box_new wr z _
      clear hE hs ht hS
      go_wp2_with (refine wpList_store_row rfl 53 _ _ rfl wr.heap.size #[d0, d1, d2] rfl rfl 53 _ (HZ.out _) size_col rfl hone ?_)
      refine (HB2.out _).2.2.mono ?_
      rintro e w1 ⟨rfl, hb1⟩
      have HB1 : Hid (Below w.heap.size w w1 ∧ Box w1 w.heap.size 121 #[.func (.func g) #[] caps]) := ⟨(HB2.out _).1.trans (hb1.mono (HB2.out _).1.size), (HB2.out _).2.1.over hb1⟩
      clear hb1 c0 c1 c2 HB2
      cases t with
      | true =>
        go_wp2_with fail
        go_ret
        exact ⟨ret_bool (tw_take_true (k := k + 1) (by rw [HS.out]; simp)).symm, HB1.out.1⟩
      | false =>
        go_wp2_with fail
        go_roundg (n - (k + 1))
        case measure => clear hr2; omega
        case rel => exact ⟨k + 1, by clear hr2; omega, by go_num, by unfold Hid; rw [HS.out, HN.out]; rfl, HB1⟩
    · have hkI : ¬ (k : Int) < (n : Int) := by omega
      obtain rfl : k = n := by omega
      go_wp2_with fail
      go_ret
      exact ⟨ret_bool (by have := HN.out; rw [List.take_of_length_le (by rw [HH.out.2.1]; exact Nat.le_refl _)] at this; exact this.symm), HB.out.1⟩
end Go.Proofs.YtdjobjbkpagnaaaGreat
/-
  The contracts of slices.IndexFunc and ContainsFunc over a slice of projections, of schema's allHold and hasTwice of them, with whatever function is given.
-/
namespace Go.Proofs.YtdjobjbkpagnaaaGreat
open Go.RowKit Go.Shelf

/-- A function value that tells p of each of l. -/
def FnP (g : Nat) (caps : Array Value) (w : World) (l : List Pj) (p : Pj → Bool) : Prop :=
  ∀ (W : World) (x : Pj) (c0 c1 c2 : Value), Below w.heap.size w W → x ∈ l → PjE W x [c0, c1, c2] → Calls Tryz.prog g (#[.agg #[c0, c1, c2]] ++ caps) W fun e w' => e = .returned (.bool (p x)) ∧ Below W.heap.size W w'
theorem size_pj : (Tryz.prog.info? 26).map (·.size) = some 3 := by kernel_rfl
/-- The three cells of the element at k. -/
theorem at3P {w : World} {a : Option Addr} {n cap : Nat} {l : List Pj} (h : SlIs PjE 3 w (.slice a n cap) l) {k : Nat} (hk : k < n) : ∃ (x : Pj) (c0 c1 c2 : Value) (b off : Nat), l[k]? = some x ∧ a = some ⟨b, off, none⟩ ∧ PjE w x [c0, c1, c2] ∧ w.cell? ⟨b, off + k * 3, none⟩ = some c0 ∧ w.cell? ⟨b, off + k * 3 + 1, none⟩ = some c1 ∧ w.cell? ⟨b, off + k * 3 + 2, none⟩ = some c2 := by
  obtain ⟨x, cs, b, off, h1, h2, _, h3, h4, h5⟩ := h.at hk
  obtain ⟨c0, c1, c2, rfl⟩ : ∃ c0 c1 c2, cs = [c0, c1, c2] := by
    match cs, h3 with
    | [c0, c1, c2], _ => exact ⟨c0, c1, c2, rfl⟩
  exact ⟨x, c0, c1, c2, b, off, h1, h2, h4, h5 0 _ rfl, h5 1 _ rfl, h5 2 _ rfl⟩
set_option maxRecDepth 4000 in
set_option maxHeartbeats 4000000 in
theorem idxP_any {w : World} {v : Value} {l : List Pj} (h : SlIs PjE 3 w v l) (hl : l.length ≤ 1000000) (g : Nat) (caps : Array Value) (p : Pj → Bool) (eg : ∀ args w, (callFunc g args).run Tryz.prog w = .ok (.enter g args) w) (hf : FnP g caps w l p) :
    Calls Tryz.prog 113 #[v, .func (.func g) #[] caps] w fun e w' => e = .returned (.int .i64 (idxI p l)) ∧ Below w.heap.size w w' := by
  obtain ⟨a, n, cap, rfl, hn, hcap⟩ := h.slice
  have hn1 : (n : Int) ≤ 1000000 := by omega
  have HH : Hid (SlIs PjE 3 w (.slice a n cap) l ∧ l.length = n ∧ FnP g caps w l p) := ⟨h, hn, hf⟩
  clear h hl hn hf
  go_enter Tryz.func113, Tryz.ntmps113
  go_wp2_with fail
  go_loopg [8] n (fun gg s8 wx => ∃ k : Nat, k + gg = n ∧ s8 = .int .i64 k ∧ Hid ((l.take k).any p = false) ∧ Hid (Below w.heap.size w wx))
  case atStart => exact ⟨0, by omega, rfl, by unfold Hid; rw [List.take_zero]; rfl, Below.refl _ _⟩
  case round =>
    obtain ⟨k, hkg, rfl, HN, HB⟩ := hrel
    by_cases hk : k < n
    · have hkI : (k : Int) < (n : Int) := by omega
      obtain ⟨x, d0, d1, d2, b, off, hs, rfl, hE, c0, c1, c2⟩ := at3P (HH.out.1.over stays_pj HB.out) hk
      have hr2 : IntKind.i64.wrap ((k : Int) + 1) = (k : Int) + 1 := by rw [IntKind.wrap_i64]; omega
      have hcall := HH.out.2.2 wr x d0 d1 d2 HB.out (List.mem_of_getElem? hs) hE
      have HS : Hid (l[k]? = some x ∧ (l.take (k + 1)).any p = ((l.take k).any p || p x)) := ⟨hs, any_take_succ hs⟩
      obtain ⟨t, ht⟩ : ∃ t, t = p x := ⟨_, rfl⟩
      rw [← ht] at hcall HS
      have HT : Hid (t = p x) := ht
      clear hE hs ht
      go_wp2_with fail
      refine hcall.mono ?_
      rintro e w1 ⟨rfl, hb1⟩
      have HB1 : Hid (Below w.heap.size w w1) := HB.out.trans (hb1.mono HB.out.size)
      clear hb1 hcall c0 c1 c2
      cases t with
      | true =>
        go_wp2_with fail
        go_ret
        exact ⟨ret_int (idx_hit HN.out HS.out.1 HT.out.symm).symm, HB1.out⟩
      | false =>
        go_wp2_with fail
        go_roundg (n - (k + 1))
        case measure => clear hr2; omega
        case rel => exact ⟨k + 1, by clear hr2; omega, by go_num, by unfold Hid; rw [HS.out.2, HN.out]; rfl, HB1⟩
    · have hkI : ¬ (k : Int) < (n : Int) := by omega
      obtain rfl : k = n := by omega
      go_wp2_with fail
      go_ret
      exact ⟨ret_int (by have := HN.out; rw [List.take_of_length_le (by rw [HH.out.2.1]; exact Nat.le_refl _)] at this; rw [idx_none this]), HB.out⟩
set_option maxHeartbeats 1000000 in
theorem hasP_any {w : World} {v : Value} {l : List Pj} (h : SlIs PjE 3 w v l) (hl : l.length ≤ 1000000) (g : Nat) (caps : Array Value) (p : Pj → Bool) (eg : ∀ args w, (callFunc g args).run Tryz.prog w = .ok (.enter g args) w) (hf : FnP g caps w l p) :
    Calls Tryz.prog 116 #[v, .func (.func g) #[] caps] w fun e w' => e = .returned (.bool (l.any p)) ∧ Below w.heap.size w w' := by
  have hc := idxP_any h hl g caps p eg hf
  have hz := idx_any p l
  obtain ⟨a, n, cap, rfl, hn, hcap⟩ := h.slice
  generalize idxI p l = z at *
  generalize l.any p = t at *
  have HZ : Hid (decide (0 ≤ z) = t) := hz
  clear h hl hn hf hz
  go_enter Tryz.func116, Tryz.ntmps116
  go_wp2_with fail
  refine hc.mono ?_
  rintro e w1 ⟨rfl, hb1⟩
  go_wp2_with fail
  go_ret
  exact ⟨ret_bool HZ.out, hb1⟩
set_option maxHeartbeats 1000000 in
theorem all1P_any {w : World} {l : List Pj} {p : Pj → Bool} (g : Nat) (caps : Array Value) (eg : ∀ args w, (callFunc g args).run Tryz.prog w = .ok (.enter g args) w) (hf : FnP g caps w l p) (B : Nat) (hB : w.cell? ⟨B, 0, none⟩ = some (.func (.func g) #[] caps)) :
    FnP 119 #[.pointer (some ⟨B, 0, none⟩)] w l (fun x => !p x) := by
  intro W x c0 c1 c2 hW hx hE
  have hlt := World.block_lt_of_cell? w _ hB
  have hB2 := (hW.cell (p := ⟨B, 0, none⟩) hlt).trans hB
  have b1 := below1 W (.cells #[c0, c1, c2] 26)
  have hB3 := (b1.cell (p := ⟨B, 0, none⟩) (Nat.lt_of_lt_of_le hlt hW.size)).trans hB2
  have hc := hf _ x c0 c1 c2 (hW.trans (b1.mono hW.size)) hx (stays_pj _ _ _ _ hE b1)
  show Calls _ _ _ _ fun e w' => e = .returned (.bool (!p x)) ∧ Below W.heap.size W w'
  generalize p x = t at *
  have HB : Hid (Below W.heap.size W (W.alloc (.cells #[c0, c1, c2] 26))) := b1
  clear hB hB2 hE hlt b1 hf
  go_enter Tryz.func119, Tryz.ntmps119
  go_wp2_with fail
  refine hc.mono ?_
  rintro e w1 ⟨rfl, hb1⟩
  go_wp2_with fail
  go_ret
  exact ⟨rfl, HB.out.trans (hb1.mono HB.out.size)⟩
set_option maxHeartbeats 1000000 in
theorem allP_any {w : World} {v : Value} {l : List Pj} (h : SlIs PjE 3 w v l) (hl : l.length ≤ 1000000) (g : Nat) (caps : Array Value) (p : Pj → Bool) (eg : ∀ args w, (callFunc g args).run Tryz.prog w = .ok (.enter g args) w) (hf : FnP g caps w l p) :
    Calls Tryz.prog 74 #[v, .func (.func g) #[] caps] w fun e w' => e = .returned (.bool (l.all p)) ∧ Below w.heap.size w w' := by
  have hb0 := below1 w (.cells #[.func (.func g) #[] caps] 99)
  have bx := box_new w #[.func (.func g) #[] caps] 99
  have hc := hasP_any (h.over stays_pj hb0) hl 119 #[.pointer (some ⟨w.heap.size, 0, none⟩)] (fun x => !p x) (enters_of Tryz.func119 (by kernel_rfl) rfl) (all1P_any g caps eg (fun W x c0 c1 c2 hW hx hE => hf W x c0 c1 c2 (hb0.trans (hW.mono hb0.size)) hx hE) w.heap.size (bx.cell 0 _ rfl))
  have hz := not_any_not p l
  obtain ⟨a, n, cap, rfl, hn, hcap⟩ := h.slice
  generalize l.all p = s at *
  generalize (l.any fun x => !p x) = t at *
  have HZ : Hid ((!t) = s) := hz
  have HB : Hid (Below w.heap.size w (w.alloc (.cells #[.func (.func g) #[] caps] 99))) := hb0
  clear h hl hn hf hz hb0 bx
  go_enter Tryz.func74, Tryz.ntmps74
  go_wp2_with fail
  refine hc.mono ?_
  rintro e w1 ⟨rfl, hb1⟩
  go_wp2_with fail
  go_ret
  exact ⟨ret_bool HZ.out, HB.out.trans (hb1.mono HB.out.size)⟩

/-- A function value that tells of each two of l. -/
def FsP (g : Nat) (caps : Array Value) (w : World) (l : List Pj) (q : Pj → Pj → Bool) : Prop :=
  ∀ (W : World) (x y : Pj) (c0 c1 c2 d0 d1 d2 : Value), Below w.heap.size w W → x ∈ l → y ∈ l → PjE W x [c0, c1, c2] → PjE W y [d0, d1, d2] → Calls Tryz.prog g (#[.agg #[c0, c1, c2], .agg #[d0, d1, d2]] ++ caps) W fun e w' => e = .returned (.bool (q x y)) ∧ Below W.heap.size W w'
set_option maxHeartbeats 1000000 in
theorem tw1P_any {w : World} {l : List Pj} {q : Pj → Pj → Bool} (g : Nat) (caps : Array Value) (eg : ∀ args w, (callFunc g args).run Tryz.prog w = .ok (.enter g args) w) (hf : FsP g caps w l q) (B1 B2 : Nat) (hB1 : w.cell? ⟨B1, 0, none⟩ = some (.func (.func g) #[] caps))
    {y : Pj} {d0 d1 d2 : Value} (hy : y ∈ l) (hE2 : PjE w y [d0, d1, d2]) (e0 : w.cell? ⟨B2, 0, none⟩ = some d0) (e1 : w.cell? ⟨B2, 1, none⟩ = some d1) (e2 : w.cell? ⟨B2, 2, none⟩ = some d2) :
    FnP 120 #[.pointer (some ⟨B1, 0, none⟩), .pointer (some ⟨B2, 0, none⟩)] w l (fun x => q x y) := by
  intro W x c0 c1 c2 hW hx hE
  have b1 := below1 W (.cells #[c0, c1, c2] 26)
  have hWb := hW.trans (b1.mono hW.size)
  have hB3 := (hWb.cell (p := ⟨B1, 0, none⟩) (World.block_lt_of_cell? w _ hB1)).trans hB1
  have f0 := (hWb.cell (p := ⟨B2, 0, none⟩) (World.block_lt_of_cell? w _ e0)).trans e0
  have f1 := (hWb.cell (p := ⟨B2, 1, none⟩) (World.block_lt_of_cell? w _ e1)).trans e1
  have f2 := (hWb.cell (p := ⟨B2, 2, none⟩) (World.block_lt_of_cell? w _ e2)).trans e2
  have hc := hf _ x y c0 c1 c2 d0 d1 d2 hWb hx hy (stays_pj _ _ _ _ hE b1) (stays_pj _ _ _ _ hE2 hWb)
  show Calls _ _ _ _ fun e w' => e = .returned (.bool (q x y)) ∧ Below W.heap.size W w'
  generalize q x y = t at *
  have HB : Hid (Below W.heap.size W (W.alloc (.cells #[c0, c1, c2] 26))) := b1
  clear hB1 e0 e1 e2 hE hE2 b1 hf hWb
  go_enter Tryz.func120, Tryz.ntmps120
  go_wp2_with fail
  refine hc.mono ?_
  rintro e w1 ⟨rfl, hb1⟩
  go_wp2_with fail
  go_ret
  exact ⟨rfl, HB.out.trans (hb1.mono HB.out.size)⟩
set_option maxRecDepth 4000 in
set_option maxHeartbeats 4000000 in
theorem twP_any {w : World} {v : Value} {l : List Pj} (h : SlIs PjE 3 w v l) (hl : l.length ≤ 1000000) (g : Nat) (caps : Array Value) (q : Pj → Pj → Bool) (eg : ∀ args w, (callFunc g args).run Tryz.prog w = .ok (.enter g args) w) (hf : FsP g caps w l q) :
    Calls Tryz.prog 76 #[v, .func (.func g) #[] caps] w fun e w' => e = .returned (.bool (tw q l)) ∧ Below w.heap.size w w' := by
  have hb0 := below1 w (.cells #[.func (.func g) #[] caps] 101)
  have bx := box_new w #[.func (.func g) #[] caps] 101
  obtain ⟨a, n, cap, rfl, hn, hcap⟩ := h.slice
  have hn1 : (n : Int) ≤ 1000000 := by omega
  have HH : Hid (SlIs PjE 3 w (.slice a n cap) l ∧ l.length = n ∧ n ≤ cap ∧ FsP g caps w l q) := ⟨h, hn, hcap, hf⟩
  have H0 : Hid (Unit → Below w.heap.size w _ ∧ Box _ w.heap.size 101 #[.func (.func g) #[] caps]) := fun _ => ⟨hb0, bx⟩
  have hcapI : (n : Int) ≤ (cap : Int) := by omega
  clear h hl hn hf hb0 bx
  go_enter Tryz.func76, Tryz.ntmps76
  go_wp2_with fail
  go_loopg [9] n (fun gg s9 wx => ∃ k : Nat, k + gg = n ∧ s9 = .int .i64 k ∧ Hid (tw q (l.take k) = false) ∧ Hid (Below w.heap.size w wx ∧ Box wx w.heap.size 101 #[.func (.func g) #[] caps]))
  case atStart => exact ⟨0, by omega, rfl, by unfold Hid; rw [List.take_zero]; rfl, H0.out ()⟩
  case round =>
    obtain ⟨k, hkg, rfl, HN, HB⟩ := hrel
    by_cases hk : k < n
    · have hkI : (k : Int) < (n : Int) := by omega
      have hkC : (k : Int) ≤ (cap : Int) := by omega
      have hS := HH.out.1.over stays_pj HB.out.1
      obtain ⟨x, d0, d1, d2, b, off, hs, rfl, hE, c0, c1, c2⟩ := at3P hS hk
      have hr2 : IntKind.i64.wrap ((k : Int) + 1) = (k : Int) + 1 := by rw [IntKind.wrap_i64]; omega
      have HS : Hid (tw q (l.take (k + 1)) = (tw q (l.take k) || (l.take k).any fun y => q y x)) := tw_take hs
      obtain ⟨t, ht⟩ : ∃ t, t = (l.take k).any fun y => q y x := ⟨_, rfl⟩
      rw [← ht] at HS
      have hone := one_three (one_pj hE)
      have HB2 : Hid (∀ z, Below w.heap.size w ((wr.alloc (.cells z 26)).setRow wr.heap.size #[d0, d1, d2]) ∧ Box ((wr.alloc (.cells z 26)).setRow wr.heap.size #[d0, d1, d2]) w.heap.size 101 #[.func (.func g) #[] caps] ∧
          Calls Tryz.prog 116 #[.slice (some ⟨b, off, none⟩) k cap, .func (.func 120) #[] #[.pointer (some ⟨w.heap.size, 0, none⟩), .pointer (some ⟨wr.heap.size, 0, none⟩)]] ((wr.alloc (.cells z 26)).setRow wr.heap.size #[d0, d1, d2]) fun e w' => e = .returned (.bool t) ∧ Below ((wr.alloc (.cells z 26)).setRow wr.heap.size #[d0, d1, d2]).heap.size ((wr.alloc (.cells z 26)).setRow wr.heap.size #[d0, d1, d2]) w') := by
        intro z
        have b1 : Below wr.heap.size wr ((wr.alloc (.cells z 26)).setRow wr.heap.size #[d0, d1, d2]) := below_setRow (below1 wr _) (Nat.le_refl _) _
        have B1 : Box ((wr.alloc (.cells z 26)).setRow wr.heap.size #[d0, d1, d2]) wr.heap.size 26 #[d0, d1, d2] := (box_new wr z 26).setRow _
        have hwb := HB.out.1.trans (b1.mono HB.out.1.size)
        have hcl := tw1P_any (w := (wr.alloc (.cells z 26)).setRow wr.heap.size #[d0, d1, d2]) (l := l) (q := q) g caps eg (fun W x y c0 c1 c2 d0 d1 d2 hW hx hy hE1 hE2 => HH.out.2.2.2 W x y c0 c1 c2 d0 d1 d2 (hwb.trans (hW.mono hwb.size)) hx hy hE1 hE2) w.heap.size wr.heap.size ((HB.out.2.over b1).cell 0 _ rfl) (List.mem_of_getElem? hs) (stays_pj _ _ _ _ hE b1) (B1.cell 0 _ rfl) (B1.cell 1 _ rfl) (B1.cell 2 _ rfl)
        have hcall := hasP_any ((hS.over stays_pj b1).take (Nat.le_of_lt hk)) (by have := HH.out.2.1; rw [List.length_take]; omega) _ _ (fun y => q y x) (enters_of Tryz.func120 (by kernel_rfl) rfl) (fun W y c0 c1 c2 hW hy hE => hcl W y c0 c1 c2 hW (List.mem_of_mem_take hy) hE)
        rw [← ht] at hcall
        exact ⟨hwb, HB.out.2.over b1, hcall⟩
      have HZ : Hid (∀ z, Box (wr.alloc (.cells z 26)) wr.heap.size 26 z) := fun z => box_new wr z _
      clear hE hs ht hS
      go_wp2_with (refine wpList_store_row rfl 26 _ _ rfl wr.heap.size #[d0, d1, d2] rfl rfl 26 _ (HZ.out _) size_pj rfl hone ?_)
      refine (HB2.out _).2.2.mono ?_
      rintro e w1 ⟨rfl, hb1⟩
      have HB1 : Hid (Below w.heap.size w w1 ∧ Box w1 w.heap.size 101 #[.func (.func g) #[] caps]) := ⟨(HB2.out _).1.trans (hb1.mono (HB2.out _).1.size), (HB2.out _).2.1.over hb1⟩
      clear hb1 c0 c1 c2 HB2
      cases t with
      | true =>
        go_wp2_with fail
        go_ret
        exact ⟨ret_bool (tw_take_true (k := k + 1) (by rw [HS.out]; simp)).symm, HB1.out.1⟩
      | false =>
        go_wp2_with fail
        go_roundg (n - (k + 1))
        case measure => clear hr2; omega
        case rel => exact ⟨k + 1, by clear hr2; omega, by go_num, by unfold Hid; rw [HS.out, HN.out]; rfl, HB1⟩
    · have hkI : ¬ (k : Int) < (n : Int) := by omega
      obtain rfl : k = n := by omega
      go_wp2_with fail
      go_ret
      exact ⟨ret_bool (by have := HN.out; rw [List.take_of_length_le (by rw [HH.out.2.1]; exact Nat.le_refl _)] at this; exact this.symm), HB.out.1⟩
end Go.Proofs.YtdjobjbkpagnaaaGreat
/-
  The contracts of slices.IndexFunc and ContainsFunc over a slice of ints, of schema's allHold (and hasTwice) of them, with whatever function is given.
-/
namespace Go.Proofs.YtdjobjbkpagnaaaGreat
open Go.RowKit Go.Shelf

/-- A function value that tells p of each of l. -/
def FnI (g : Nat) (caps : Array Value) (w : World) (l : List (BitVec 64)) (p : (BitVec 64) → Bool) : Prop :=
  ∀ (W : World) (x : (BitVec 64)), Below w.heap.size w W → x ∈ l → Calls Tryz.prog g (#[.int .i64 x.toInt] ++ caps) W fun e w' => e = .returned (.bool (p x)) ∧ Below W.heap.size W w'
theorem at1I {w : World} {a : Option Addr} {n cap : Nat} {l : List (BitVec 64)} (h : SlIs IntE 1 w (.slice a n cap) l) {k : Nat} (hk : k < n) : ∃ (x : (BitVec 64)) (b off : Nat), l[k]? = some x ∧ a = some ⟨b, off, none⟩ ∧ w.cell? ⟨b, off + k, none⟩ = some (.int .i64 x.toInt) := by
  obtain ⟨x, cs, b, off, h1, h2, _, h3, h4, h5⟩ := h.at hk
  have e : cs = [.int .i64 x.toInt] := h4
  subst e
  have := h5 0 _ rfl
  rw [Nat.mul_one] at this
  exact ⟨x, b, off, h1, h2, this⟩
set_option maxRecDepth 4000 in
set_option maxHeartbeats 4000000 in
theorem idxI_any {w : World} {v : Value} {l : List (BitVec 64)} (h : SlIs IntE 1 w v l) (hl : l.length ≤ 1000000) (g : Nat) (caps : Array Value) (p : (BitVec 64) → Bool) (eg : ∀ args w, (callFunc g args).run Tryz.prog w = .ok (.enter g args) w) (hf : FnI g caps w l p) :
    Calls Tryz.prog 159 #[v, .func (.func g) #[] caps] w fun e w' => e = .returned (.int .i64 (idxI p l)) ∧ Below w.heap.size w w' := by
  obtain ⟨a, n, cap, rfl, hn, hcap⟩ := h.slice
  have hn1 : (n : Int) ≤ 1000000 := by omega
  have HH : Hid (SlIs IntE 1 w (.slice a n cap) l ∧ l.length = n ∧ FnI g caps w l p) := ⟨h, hn, hf⟩
  clear h hl hn hf
  go_enter Tryz.func159, Tryz.ntmps159
  go_wp2_with fail
  go_loopg [8] n (fun gg s8 wx => ∃ k : Nat, k + gg = n ∧ s8 = .int .i64 k ∧ Hid ((l.take k).any p = false) ∧ Hid (Below w.heap.size w wx))
  case atStart => exact ⟨0, by omega, rfl, by unfold Hid; rw [List.take_zero]; rfl, Below.refl _ _⟩
  case round =>
    obtain ⟨k, hkg, rfl, HN, HB⟩ := hrel
    by_cases hk : k < n
    · have hkI : (k : Int) < (n : Int) := by omega
      obtain ⟨x, b, off, hs, rfl, c0⟩ := at1I (HH.out.1.over stays_int HB.out) hk
      have hr2 : IntKind.i64.wrap ((k : Int) + 1) = (k : Int) + 1 := by rw [IntKind.wrap_i64]; omega
      have hcall := HH.out.2.2 wr x HB.out (List.mem_of_getElem? hs)
      have HS : Hid (l[k]? = some x ∧ (l.take (k + 1)).any p = ((l.take k).any p || p x)) := ⟨hs, any_take_succ hs⟩
      obtain ⟨t, ht⟩ : ∃ t, t = p x := ⟨_, rfl⟩
      rw [← ht] at hcall HS
      have HT : Hid (t = p x) := ht
      clear hs ht
      go_wp2_with fail
      refine hcall.mono ?_
      rintro e w1 ⟨rfl, hb1⟩
      have HB1 : Hid (Below w.heap.size w w1) := HB.out.trans (hb1.mono HB.out.size)
      clear hb1 hcall c0
      cases t with
      | true =>
        go_wp2_with fail
        go_ret
        exact ⟨ret_int (idx_hit HN.out HS.out.1 HT.out.symm).symm, HB1.out⟩
      | false =>
        go_wp2_with fail
        go_roundg (n - (k + 1))
        case measure => clear hr2; omega
        case rel => exact ⟨k + 1, by clear hr2; omega, by go_num, by unfold Hid; rw [HS.out.2, HN.out]; rfl, HB1⟩
    · have hkI : ¬ (k : Int) < (n : Int) := by omega
      obtain rfl : k = n := by omega
      go_wp2_with fail
      go_ret
      exact ⟨ret_int (by have := HN.out; rw [List.take_of_length_le (by rw [HH.out.2.1]; exact Nat.le_refl _)] at this; rw [idx_none this]), HB.out⟩
set_option maxHeartbeats 1000000 in
theorem hasI_any {w : World} {v : Value} {l : List (BitVec 64)} (h : SlIs IntE 1 w v l) (hl : l.length ≤ 1000000) (g : Nat) (caps : Array Value) (p : (BitVec 64) → Bool) (eg : ∀ args w, (callFunc g args).run Tryz.prog w = .ok (.enter g args) w) (hf : FnI g caps w l p) :
    Calls Tryz.prog 138 #[v, .func (.func g) #[] caps] w fun e w' => e = .returned (.bool (l.any p)) ∧ Below w.heap.size w w' := by
  have hc := idxI_any h hl g caps p eg hf
  have hz := idx_any p l
  obtain ⟨a, n, cap, rfl, hn, hcap⟩ := h.slice
  generalize idxI p l = z at *
  generalize l.any p = t at *
  have HZ : Hid (decide (0 ≤ z) = t) := hz
  clear h hl hn hf hz
  go_enter Tryz.func138, Tryz.ntmps138
  go_wp2_with fail
  refine hc.mono ?_
  rintro e w1 ⟨rfl, hb1⟩
  go_wp2_with fail
  go_ret
  exact ⟨ret_bool HZ.out, hb1⟩
set_option maxHeartbeats 1000000 in
theorem all1I_any {w : World} {l : List (BitVec 64)} {p : (BitVec 64) → Bool} (g : Nat) (caps : Array Value) (eg : ∀ args w, (callFunc g args).run Tryz.prog w = .ok (.enter g args) w) (hf : FnI g caps w l p) (B : Nat) (hB : w.cell? ⟨B, 0, none⟩ = some (.func (.func g) #[] caps)) :
    FnI 139 #[.pointer (some ⟨B, 0, none⟩)] w l (fun x => !p x) := by
  intro W x hW hx
  have hB2 := (hW.cell (p := ⟨B, 0, none⟩) (World.block_lt_of_cell? w _ hB)).trans hB
  have hc := hf _ x hW hx
  show Calls _ _ _ _ fun e w' => e = .returned (.bool (!p x)) ∧ Below W.heap.size W w'
  generalize p x = t at *
  clear hB hf
  go_enter Tryz.func139, Tryz.ntmps139
  go_wp2_with fail
  refine hc.mono ?_
  rintro e w1 ⟨rfl, hb1⟩
  go_wp2_with fail
  go_ret
  exact ⟨rfl, hb1⟩
set_option maxHeartbeats 1000000 in
theorem allI_any {w : World} {v : Value} {l : List (BitVec 64)} (h : SlIs IntE 1 w v l) (hl : l.length ≤ 1000000) (g : Nat) (caps : Array Value) (p : (BitVec 64) → Bool) (eg : ∀ args w, (callFunc g args).run Tryz.prog w = .ok (.enter g args) w) (hf : FnI g caps w l p) :
    Calls Tryz.prog 109 #[v, .func (.func g) #[] caps] w fun e w' => e = .returned (.bool (l.all p)) ∧ Below w.heap.size w w' := by
  have hb0 := below1 w (.cells #[.func (.func g) #[] caps] 103)
  have bx := box_new w #[.func (.func g) #[] caps] 103
  have hc := hasI_any (h.over stays_int hb0) hl 139 #[.pointer (some ⟨w.heap.size, 0, none⟩)] (fun x => !p x) (enters_of Tryz.func139 (by kernel_rfl) rfl) (all1I_any g caps eg (fun W x hW hx => hf W x (hb0.trans (hW.mono hb0.size)) hx) w.heap.size (bx.cell 0 _ rfl))
  have hz := not_any_not p l
  obtain ⟨a, n, cap, rfl, hn, hcap⟩ := h.slice
  generalize l.all p = s at *
  generalize (l.any fun x => !p x) = t at *
  have HZ : Hid ((!t) = s) := hz
  have HB : Hid (Below w.heap.size w (w.alloc (.cells #[.func (.func g) #[] caps] 103))) := hb0
  clear h hl hn hf hz hb0 bx
  go_enter Tryz.func109, Tryz.ntmps109
  go_wp2_with fail
  refine hc.mono ?_
  rintro e w1 ⟨rfl, hb1⟩
  go_wp2_with fail
  go_ret
  exact ⟨ret_bool HZ.out, HB.out.trans (hb1.mono HB.out.size)⟩

/-- A function value that tells of each two of l. -/
def FsI (g : Nat) (caps : Array Value) (w : World) (l : List (BitVec 64)) (q : (BitVec 64) → (BitVec 64) → Bool) : Prop :=
  ∀ (W : World) (x y : (BitVec 64)), Below w.heap.size w W → x ∈ l → y ∈ l → Calls Tryz.prog g (#[.int .i64 x.toInt, .int .i64 y.toInt] ++ caps) W fun e w' => e = .returned (.bool (q x y)) ∧ Below W.heap.size W w'
set_option maxHeartbeats 1000000 in
theorem tw1I_any {w : World} {l : List (BitVec 64)} {q : (BitVec 64) → (BitVec 64) → Bool} (g : Nat) (caps : Array Value) (eg : ∀ args w, (callFunc g args).run Tryz.prog w = .ok (.enter g args) w) (hf : FsI g caps w l q) (B1 B2 : Nat) (hB1 : w.cell? ⟨B1, 0, none⟩ = some (.func (.func g) #[] caps))
    {y : (BitVec 64)} (hy : y ∈ l) (e0 : w.cell? ⟨B2, 0, none⟩ = some (.int .i64 y.toInt)) :
    FnI 140 #[.pointer (some ⟨B1, 0, none⟩), .pointer (some ⟨B2, 0, none⟩)] w l (fun x => q x y) := by
  intro W x hW hx
  have hB3 := (hW.cell (p := ⟨B1, 0, none⟩) (World.block_lt_of_cell? w _ hB1)).trans hB1
  have f0 := (hW.cell (p := ⟨B2, 0, none⟩) (World.block_lt_of_cell? w _ e0)).trans e0
  have hc := hf _ x y hW hx hy
  show Calls _ _ _ _ fun e w' => e = .returned (.bool (q x y)) ∧ Below W.heap.size W w'
  generalize q x y = t at *
  clear hB1 e0 hf
  go_enter Tryz.func140, Tryz.ntmps140
  go_wp2_with fail
  refine hc.mono ?_
  rintro e w1 ⟨rfl, hb1⟩
  go_wp2_with fail
  go_ret
  exact ⟨rfl, hb1⟩
set_option maxRecDepth 4000 in
set_option maxHeartbeats 4000000 in
theorem twI_any {w : World} {v : Value} {l : List (BitVec 64)} (h : SlIs IntE 1 w v l) (hl : l.length ≤ 1000000) (g : Nat) (caps : Array Value) (q : (BitVec 64) → (BitVec 64) → Bool) (eg : ∀ args w, (callFunc g args).run Tryz.prog w = .ok (.enter g args) w) (hf : FsI g caps w l q) :
    Calls Tryz.prog 111 #[v, .func (.func g) #[] caps] w fun e w' => e = .returned (.bool (tw q l)) ∧ Below w.heap.size w w' := by
  have hb0 := below1 w (.cells #[.func (.func g) #[] caps] 127)
  have bx := box_new w #[.func (.func g) #[] caps] 127
  obtain ⟨a, n, cap, rfl, hn, hcap⟩ := h.slice
  have hn1 : (n : Int) ≤ 1000000 := by omega
  have HH : Hid (SlIs IntE 1 w (.slice a n cap) l ∧ l.length = n ∧ n ≤ cap ∧ FsI g caps w l q) := ⟨h, hn, hcap, hf⟩
  have H0 : Hid (Unit → Below w.heap.size w _ ∧ Box _ w.heap.size 127 #[.func (.func g) #[] caps]) := fun _ => ⟨hb0, bx⟩
  have hcapI : (n : Int) ≤ (cap : Int) := by omega
  clear h hl hn hf hb0 bx
  go_enter Tryz.func111, Tryz.ntmps111
  go_wp2_with fail
  go_loopg [9] n (fun gg s9 wx => ∃ k : Nat, k + gg = n ∧ s9 = .int .i64 k ∧ Hid (tw q (l.take k) = false) ∧ Hid (Below w.heap.size w wx ∧ Box wx w.heap.size 127 #[.func (.func g) #[] caps]))
  case atStart => exact ⟨0, by omega, rfl, by unfold Hid; rw [List.take_zero]; rfl, H0.out ()⟩
  case round =>
    obtain ⟨k, hkg, rfl, HN, HB⟩ := hrel
    by_cases hk : k < n
    · have hkI : (k : Int) < (n : Int) := by omega
      have hkC : (k : Int) ≤ (cap : Int) := by omega
      have hS := HH.out.1.over stays_int HB.out.1
      obtain ⟨x, b, off, hs, rfl, c0⟩ := at1I hS hk
      have hr2 : IntKind.i64.wrap ((k : Int) + 1) = (k : Int) + 1 := by rw [IntKind.wrap_i64]; omega
      have HS : Hid (tw q (l.take (k + 1)) = (tw q (l.take k) || (l.take k).any fun y => q y x)) := tw_take hs
      obtain ⟨t, ht⟩ : ∃ t, t = (l.take k).any fun y => q y x := ⟨_, rfl⟩
      rw [← ht] at HS
      have HB2 : Hid (Unit → Below w.heap.size w (wr.alloc (.cells #[.int .i64 x.toInt] 3)) ∧ Box (wr.alloc (.cells #[.int .i64 x.toInt] 3)) w.heap.size 127 #[.func (.func g) #[] caps] ∧
          Calls Tryz.prog 138 #[.slice (some ⟨b, off, none⟩) k cap, .func (.func 140) #[] #[.pointer (some ⟨w.heap.size, 0, none⟩), .pointer (some ⟨wr.heap.size, 0, none⟩)]] (wr.alloc (.cells #[.int .i64 x.toInt] 3)) fun e w' => e = .returned (.bool t) ∧ Below (wr.alloc (.cells #[.int .i64 x.toInt] 3)).heap.size (wr.alloc (.cells #[.int .i64 x.toInt] 3)) w') := by
        intro _
        have b1 : Below wr.heap.size wr (wr.alloc (.cells #[.int .i64 x.toInt] 3)) := below1 wr _
        have B1 : Box (wr.alloc (.cells #[.int .i64 x.toInt] 3)) wr.heap.size 3 #[.int .i64 x.toInt] := box_new wr _ _
        have hwb := HB.out.1.trans (b1.mono HB.out.1.size)
        have hcl := tw1I_any (w := wr.alloc (.cells #[.int .i64 x.toInt] 3)) (l := l) (q := q) g caps eg (fun W x y hW hx hy => HH.out.2.2.2 W x y (hwb.trans (hW.mono hwb.size)) hx hy) w.heap.size wr.heap.size ((HB.out.2.over b1).cell 0 _ rfl) (List.mem_of_getElem? hs) (B1.cell 0 _ rfl)
        have hcall := hasI_any ((hS.over stays_int b1).take (Nat.le_of_lt hk)) (by have := HH.out.2.1; rw [List.length_take]; omega) _ _ (fun y => q y x) (enters_of Tryz.func140 (by kernel_rfl) rfl) (fun W y hW hy => hcl W y hW (List.mem_of_mem_take hy))
        rw [← ht] at hcall
        exact ⟨hwb, HB.out.2.over b1, hcall⟩
      clear hs ht hS
      go_wp2_with fail
      refine (HB2.out ()).2.2.mono ?_
      rintro e w1 ⟨rfl, hb1⟩
      have HB1 : Hid (Below w.heap.size w w1 ∧ Box w1 w.heap.size 127 #[.func (.func g) #[] caps]) := ⟨(HB2.out ()).1.trans (hb1.mono (HB2.out ()).1.size), (HB2.out ()).2.1.over hb1⟩
      clear hb1 c0 HB2
      cases t with
      | true =>
        go_wp2_with fail
        go_ret
        exact ⟨ret_bool (tw_take_true (k := k + 1) (by rw [HS.out]; simp)).symm, HB1.out.1⟩
      | false =>
        go_wp2_with fail
        go_roundg (n - (k + 1))
        case measure => clear hr2; omega
        case rel => exact ⟨k + 1, by clear hr2; omega, by go_num, by unfold Hid; rw [HS.out, HN.out]; rfl, HB1⟩
    · have hkI : ¬ (k : Int) < (n : Int) := by omega
      obtain rfl : k = n := by omega
      go_wp2_with fail
      go_ret
      exact ⟨ret_bool (by have := HN.out; rw [List.take_of_length_le (by rw [HH.out.2.1]; exact Nat.le_refl _)] at this; exact this.symm), HB.out.1⟩
end Go.Proofs.YtdjobjbkpagnaaaGreat
/-
  The contracts of slices.IndexFunc and ContainsFunc over a slice of bytes, of schema's allHold (and hasTwice) of them, with whatever function is given.
-/
namespace Go.Proofs.YtdjobjbkpagnaaaGreat
open Go.RowKit Go.Shelf

/-- A function value that tells p of each of l. -/
def FnB (g : Nat) (caps : Array Value) (w : World) (l : List UInt8) (p : UInt8 → Bool) : Prop :=
  ∀ (W : World) (x : UInt8), Below w.heap.size w W → x ∈ l → Calls Tryz.prog g (#[.int .u8 (x.toNat : Int)] ++ caps) W fun e w' => e = .returned (.bool (p x)) ∧ Below W.heap.size W w'
theorem at1B {w : World} {a : Option Addr} {n cap : Nat} {l : List UInt8} (h : SlIs ByE 1 w (.slice a n cap) l) {k : Nat} (hk : k < n) : ∃ (x : UInt8) (b off : Nat), l[k]? = some x ∧ a = some ⟨b, off, none⟩ ∧ w.cell? ⟨b, off + k, none⟩ = some (.int .u8 (x.toNat : Int)) := by
  obtain ⟨x, cs, b, off, h1, h2, _, h3, h4, h5⟩ := h.at hk
  have e : cs = [.int .u8 (x.toNat : Int)] := h4
  subst e
  have := h5 0 _ rfl
  rw [Nat.mul_one] at this
  exact ⟨x, b, off, h1, h2, this⟩
set_option maxRecDepth 4000 in
set_option maxHeartbeats 4000000 in
theorem idxB_any {w : World} {v : Value} {l : List UInt8} (h : SlIs ByE 1 w v l) (hl : l.length ≤ 1000000) (g : Nat) (caps : Array Value) (p : UInt8 → Bool) (eg : ∀ args w, (callFunc g args).run Tryz.prog w = .ok (.enter g args) w) (hf : FnB g caps w l p) :
    Calls Tryz.prog 158 #[v, .func (.func g) #[] caps] w fun e w' => e = .returned (.int .i64 (idxI p l)) ∧ Below w.heap.size w w' := by
  obtain ⟨a, n, cap, rfl, hn, hcap⟩ := h.slice
  have hn1 : (n : Int) ≤ 1000000 := by omega
  have HH : Hid (SlIs ByE 1 w (.slice a n cap) l ∧ l.length = n ∧ FnB g caps w l p) := ⟨h, hn, hf⟩
  clear h hl hn hf
  go_enter Tryz.func158, Tryz.ntmps158
  go_wp2_with fail
  go_loopg [8] n (fun gg s8 wx => ∃ k : Nat, k + gg = n ∧ s8 = .int .i64 k ∧ Hid ((l.take k).any p = false) ∧ Hid (Below w.heap.size w wx))
  case atStart => exact ⟨0, by omega, rfl, by unfold Hid; rw [List.take_zero]; rfl, Below.refl _ _⟩
  case round =>
    obtain ⟨k, hkg, rfl, HN, HB⟩ := hrel
    by_cases hk : k < n
    · have hkI : (k : Int) < (n : Int) := by omega
      obtain ⟨x, b, off, hs, rfl, c0⟩ := at1B (HH.out.1.over stays_by HB.out) hk
      have hr2 : IntKind.i64.wrap ((k : Int) + 1) = (k : Int) + 1 := by rw [IntKind.wrap_i64]; omega
      have hcall := HH.out.2.2 wr x HB.out (List.mem_of_getElem? hs)
      have HS : Hid (l[k]? = some x ∧ (l.take (k + 1)).any p = ((l.take k).any p || p x)) := ⟨hs, any_take_succ hs⟩
      obtain ⟨t, ht⟩ : ∃ t, t = p x := ⟨_, rfl⟩
      rw [← ht] at hcall HS
      have HT : Hid (t = p x) := ht
      clear hs ht
      go_wp2_with fail
      refine hcall.mono ?_
      rintro e w1 ⟨rfl, hb1⟩
      have HB1 : Hid (Below w.heap.size w w1) := HB.out.trans (hb1.mono HB.out.size)
      clear hb1 hcall c0
      cases t with
      | true =>
        go_wp2_with fail
        go_ret
        exact ⟨ret_int (idx_hit HN.out HS.out.1 HT.out.symm).symm, HB1.out⟩
      | false =>
        go_wp2_with fail
        go_roundg (n - (k + 1))
        case measure => clear hr2; omega
        case rel => exact ⟨k + 1, by clear hr2; omega, by go_num, by unfold Hid; rw [HS.out.2, HN.out]; rfl, HB1⟩
    · have hkI : ¬ (k : Int) < (n : Int) := by omega
      obtain rfl : k = n := by omega
      go_wp2_with fail
      go_ret
      exact ⟨ret_int (by have := HN.out; rw [List.take_of_length_le (by rw [HH.out.2.1]; exact Nat.le_refl _)] at this; rw [idx_none this]), HB.out⟩
set_option maxHeartbeats 1000000 in
theorem hasB_any {w : World} {v : Value} {l : List UInt8} (h : SlIs ByE 1 w v l) (hl : l.length ≤ 1000000) (g : Nat) (caps : Array Value) (p : UInt8 → Bool) (eg : ∀ args w, (callFunc g args).run Tryz.prog w = .ok (.enter g args) w) (hf : FnB g caps w l p) :
    Calls Tryz.prog 133 #[v, .func (.func g) #[] caps] w fun e w' => e = .returned (.bool (l.any p)) ∧ Below w.heap.size w w' := by
  have hc := idxB_any h hl g caps p eg hf
  have hz := idx_any p l
  obtain ⟨a, n, cap, rfl, hn, hcap⟩ := h.slice
  generalize idxI p l = z at *
  generalize l.any p = t at *
  have HZ : Hid (decide (0 ≤ z) = t) := hz
  clear h hl hn hf hz
  go_enter Tryz.func133, Tryz.ntmps133
  go_wp2_with fail
  refine hc.mono ?_
  rintro e w1 ⟨rfl, hb1⟩
  go_wp2_with fail
  go_ret
  exact ⟨ret_bool HZ.out, hb1⟩
set_option maxHeartbeats 1000000 in
theorem all1B_any {w : World} {l : List UInt8} {p : UInt8 → Bool} (g : Nat) (caps : Array Value) (eg : ∀ args w, (callFunc g args).run Tryz.prog w = .ok (.enter g args) w) (hf : FnB g caps w l p) (B : Nat) (hB : w.cell? ⟨B, 0, none⟩ = some (.func (.func g) #[] caps)) :
    FnB 134 #[.pointer (some ⟨B, 0, none⟩)] w l (fun x => !p x) := by
  intro W x hW hx
  have hB2 := (hW.cell (p := ⟨B, 0, none⟩) (World.block_lt_of_cell? w _ hB)).trans hB
  have hc := hf _ x hW hx
  show Calls _ _ _ _ fun e w' => e = .returned (.bool (!p x)) ∧ Below W.heap.size W w'
  generalize p x = t at *
  clear hB hf
  go_enter Tryz.func134, Tryz.ntmps134
  go_wp2_with fail
  refine hc.mono ?_
  rintro e w1 ⟨rfl, hb1⟩
  go_wp2_with fail
  go_ret
  exact ⟨rfl, hb1⟩
set_option maxHeartbeats 1000000 in
theorem allB_any {w : World} {v : Value} {l : List UInt8} (h : SlIs ByE 1 w v l) (hl : l.length ≤ 1000000) (g : Nat) (caps : Array Value) (p : UInt8 → Bool) (eg : ∀ args w, (callFunc g args).run Tryz.prog w = .ok (.enter g args) w) (hf : FnB g caps w l p) :
    Calls Tryz.prog 99 #[v, .func (.func g) #[] caps] w fun e w' => e = .returned (.bool (l.all p)) ∧ Below w.heap.size w w' := by
  have hb0 := below1 w (.cells #[.func (.func g) #[] caps] 117)
  have bx := box_new w #[.func (.func g) #[] caps] 117
  have hc := hasB_any (h.over stays_by hb0) hl 134 #[.pointer (some ⟨w.heap.size, 0, none⟩)] (fun x => !p x) (enters_of Tryz.func134 (by kernel_rfl) rfl) (all1B_any g caps eg (fun W x hW hx => hf W x (hb0.trans (hW.mono hb0.size)) hx) w.heap.size (bx.cell 0 _ rfl))
  have hz := not_any_not p l
  obtain ⟨a, n, cap, rfl, hn, hcap⟩ := h.slice
  generalize l.all p = s at *
  generalize (l.any fun x => !p x) = t at *
  have HZ : Hid ((!t) = s) := hz
  have HB : Hid (Below w.heap.size w (w.alloc (.cells #[.func (.func g) #[] caps] 117))) := hb0
  clear h hl hn hf hz hb0 bx
  go_enter Tryz.func99, Tryz.ntmps99
  go_wp2_with fail
  refine hc.mono ?_
  rintro e w1 ⟨rfl, hb1⟩
  go_wp2_with fail
  go_ret
  exact ⟨ret_bool HZ.out, HB.out.trans (hb1.mono HB.out.size)⟩
end Go.Proofs.YtdjobjbkpagnaaaGreat
/-
  The contracts of schema's isLetter, mayBeInName and isName, and of the document's Name.
-/
namespace Go.Proofs.YtdjobjbkpagnaaaGreat
open Go.RowKit Go.Shelf

set_option maxHeartbeats 1000000 in
theorem letter_any (c : UInt8) (w : World) : Calls Tryz.prog 98 #[.int .u8 (c.toNat : Int)] w fun e w' => e = .returned (.bool (letB c)) ∧ w' = w := by
  by_cases h1 : 97 ≤ (c.toNat : Int)
  · by_cases h2 : (c.toNat : Int) ≤ 122
    all_goals
      go_enter Tryz.func98, Tryz.ntmps98
      go_wp2_with fail
      go_ret
      exact ⟨ret_bool (by simp [letB]; omega), rfl⟩
  · go_enter Tryz.func98, Tryz.ntmps98
    go_wp2_with fail
    go_ret
    exact ⟨ret_bool (by simp [letB]; omega), rfl⟩
set_option maxHeartbeats 1000000 in
theorem inName_any (c : UInt8) (w : World) : Calls Tryz.prog 100 #[.int .u8 (c.toNat : Int)] w fun e w' => e = .returned (.bool (inNm c)) ∧ w' = w := by
  have hl := letter_any c
  cases ht : letB c with
  | true =>
    rw [ht] at hl
    go_enter Tryz.func100, Tryz.ntmps100
    go_wp2_with fail
    refine (hl _).mono ?_
    rintro e w1 ⟨rfl, hw⟩
    replace hw := hw.symm
    subst hw
    go_wp2_with fail
    go_ret
    exact ⟨ret_bool (by simp [inNm, ht]), rfl⟩
  | false =>
    rw [ht] at hl
    have HT : Hid (letB c = false) := ht
    clear ht
    by_cases h1 : 48 ≤ (c.toNat : Int)
    · by_cases h2 : (c.toNat : Int) ≤ 57
      · go_enter Tryz.func100, Tryz.ntmps100
        go_wp2_with fail
        refine (hl _).mono ?_
        rintro e w1 ⟨rfl, hw⟩
        replace hw := hw.symm
        subst hw
        go_wp2_with fail
        go_ret
        exact ⟨ret_bool (by simp [inNm, HT.out]; omega), rfl⟩
      · by_cases h3 : (c.toNat : Int) = 95
        · have h3b : ((c.toNat : Int) == 95) = true := by simpa using h3
          have H3 : Hid ((c.toNat : Int) = 95) := h3
          clear h3
          go_enter Tryz.func100, Tryz.ntmps100
          go_wp2_with fail
          refine (hl _).mono ?_
          rintro e w1 ⟨rfl, hw⟩
          replace hw := hw.symm
          subst hw
          go_wp2_with fail
          go_ret
          exact ⟨ret_bool ((inNm_iff c).2 (.inr (.inr H3.out))).symm, rfl⟩
        · have h3b : ((c.toNat : Int) == 95) = false := by simpa using h3
          have H3 : Hid (¬ (c.toNat : Int) = 95) := h3
          clear h3
          go_enter Tryz.func100, Tryz.ntmps100
          go_wp2_with fail
          refine (hl _).mono ?_
          rintro e w1 ⟨rfl, hw⟩
          replace hw := hw.symm
          subst hw
          go_wp2_with fail
          go_ret
          exact ⟨ret_bool (by have := H3.out; rw [Bool.eq_iff_iff, inNm_iff, HT.out]; simp only [Bool.false_eq_true, false_or, decide_eq_true_eq]; omega), rfl⟩
    · by_cases h3 : (c.toNat : Int) = 95
      · omega
      · have h3b : ((c.toNat : Int) == 95) = false := by simpa using h3
        have H3 : Hid _ := h3
        clear h3
        go_enter Tryz.func100, Tryz.ntmps100
        go_wp2_with fail
        refine (hl _).mono ?_
        rintro e w1 ⟨rfl, hw⟩
        replace hw := hw.symm
        subst hw
        go_wp2_with fail
        go_ret
        exact ⟨ret_bool (by have := H3.out; rw [Bool.eq_iff_iff, inNm_iff, HT.out]; simp only [Bool.false_eq_true, false_or, false_iff]; omega), rfl⟩

theorem by_slice {w : World} {b cap : Nat} {l : List UInt8} (h : RowB w b l) (hc : l.length ≤ cap) : SlIs ByE 1 w (.slice (some ⟨b, 0, none⟩) l.length cap) l := by
  refine ⟨_, cap, rfl, hc, fun _ => ⟨b, 0, rfl, h.lt, fun i x hi => ⟨[.int .u8 (x.toNat : Int)], rfl, rfl, fun j u hu => ?_⟩⟩⟩
  cases j with
  | zero =>
    simp at hu
    subst hu
    have := h.cell i (List.getElem?_eq_some_iff.1 hi).1
    rw [List.getD_eq_getElem?_getD, hi] at this
    simpa using this
  | succ j => simp at hu
/-- '[]byte(s)' as a slice that reads as its bytes. -/
theorem bytes_by (s : ByteArray) (w : World) :
    ∃ cap w', (convert 9 108 (.string s)).run Tryz.prog w = .ok (.slice (some ⟨w.heap.size, 0, none⟩) s.size cap) w' ∧ SlIs ByE 1 w' (.slice (some ⟨w.heap.size, 0, none⟩) s.size cap) s.data.toList ∧ Below w.heap.size w w' := by
  obtain ⟨cap, w', h1, h2, h3⟩ := bytes_of s w
  have h4 := run_bytes_of_string (P := Tryz.prog) w _ _ 5 s Tryz.underlying9 Tryz.underlying108 Tryz.underlying5
  rw [h4] at h1
  simp only [Result.ok.injEq, Value.slice.injEq] at h1
  have hc : s.size ≤ cap := by rw [← h1.1.2.2]; exact grownCap_ge w s.size 0 _
  refine ⟨cap, w', ?_, ?_, h3⟩
  · rw [h4, h1.1.2.2, ← h1.2, h1.1.2.2]
  · have := by_slice h2 (cap := cap) (by simpa using hc)
    simpa using this
set_option maxRecDepth 4000 in
set_option maxHeartbeats 1000000 in
theorem name_any (s : ByteArray) (hs : s.size ≤ maxLen) (w : World) : Calls Tryz.prog 56 #[.string s] w fun e w' => e = .returned (.bool (nameB s)) ∧ Below w.heap.size w w' := by
  unfold maxLen at hs
  have hsI : (s.size : Int) ≤ 9223372036854775807 := by omega
  by_cases h1 : (1 : Int) ≤ (s.size : Int)
  · by_cases h2 : (s.size : Int) ≤ 16
    · have hl := letter_any s[0]
      have e0 : s.data.toList.getD 0 0 = s[0] := getD_data s 0 (by omega)
      cases ht : letB s[0] with
      | true =>
        rw [ht] at hl
        obtain ⟨cap, w', hcv, hS, hb⟩ := bytes_by s w
        have hall := allB_any hS (by simp; omega) 100 #[] inNm (enters_of Tryz.func100 (by kernel_rfl) rfl) (fun W x _ _ => (inName_any x W).mono fun e w' ⟨h1, h2⟩ => ⟨h1, h2 ▸ Below.refl _ _⟩)
        have hn : nameB s = s.data.toList.all inNm := by rw [name_eq (by omega) (by omega), e0, ht, Bool.true_and]
        rw [hn]
        generalize s.data.toList.all inNm = t at *
        have HB : Hid (Below w.heap.size w w') := hb
        clear hS ht e0 hn hb
        go_enter Tryz.func56, Tryz.ntmps56
        go_wp2_with fail
        refine (hl _).mono ?_
        rintro e w1 ⟨rfl, hw⟩
        replace hw := hw.symm
        subst hw
        go_wp2_with fail
        refine hall.mono ?_
        rintro e w2 ⟨rfl, hb2⟩
        go_wp2_with fail
        go_ret
        exact ⟨rfl, HB.out.trans (hb2.mono HB.out.size)⟩
      | false =>
        rw [ht] at hl
        have hn : nameB s = false := by rw [name_eq (by omega) (by omega), e0, ht, Bool.false_and]
        rw [hn]
        clear ht e0 hn
        go_enter Tryz.func56, Tryz.ntmps56
        go_wp2_with fail
        refine (hl _).mono ?_
        rintro e w1 ⟨rfl, hw⟩
        replace hw := hw.symm
        subst hw
        go_wp2_with fail
        go_ret
        exact ⟨rfl, Below.refl _ _⟩
    · have hn : nameB s = false := name_long (by omega)
      rw [hn]
      clear hn
      go_enter Tryz.func56, Tryz.ntmps56
      go_wp2_with fail
      go_ret
      exact ⟨rfl, Below.refl _ _⟩
  · have hn : nameB s = false := name_short (by omega)
    rw [hn]
    clear hn
    go_enter Tryz.func56, Tryz.ntmps56
    go_wp2_with fail
    go_ret
    exact ⟨rfl, Below.refl _ _⟩

set_option maxRecDepth 4000 in
set_option maxHeartbeats 4000000 in
theorem refName_any (s : ByteArray) (hs : s.size ≤ maxLen) (w : World) : Calls Tryz.prog 66 #[.string s] w fun e w' => e = .returned (.bool (nameB s)) ∧ w' = w := by
  unfold maxLen at hs
  have hsI : (s.size : Int) ≤ 9223372036854775807 := by omega
  by_cases h1 : (s.size : Int) < 1
  · have hn : nameB s = false := name_short (by omega)
    rw [hn]
    clear hn
    go_enter Tryz.func66, Tryz.ntmps66
    go_wp2_with fail
    go_ret
    exact ⟨rfl, rfl⟩
  · by_cases h2 : 16 < (s.size : Int)
    · have hn : nameB s = false := name_long (by omega)
      rw [hn]
      clear hn
      go_enter Tryz.func66, Tryz.ntmps66
      go_wp2_with fail
      go_ret
      exact ⟨rfl, rfl⟩
    · go_enter Tryz.func66, Tryz.ntmps66
      go_wp2_with fail
      go_loopg [3] s.size (fun gg s3 wx => ∃ k : Nat, k + gg = s.size ∧ s3 = .int .i64 k ∧ Hid (nmTo s k) ∧ wx = w)
      case atStart => exact ⟨0, by omega, rfl, nm_zero s, rfl⟩
      case round =>
        obtain ⟨k, hkg, rfl, HN, rfl⟩ := hrel
        by_cases hk : k < s.size
        · have hkI : (k : Int) < (s.size : Int) := by omega
          have hr2 : IntKind.i64.wrap ((k : Int) + 1) = (k : Int) + 1 := by rw [IntKind.wrap_i64]; omega
          have hx : s.data.toList[k]? = some s[k] := by rw [Array.getElem?_toList]; exact Array.getElem?_eq_getElem hk
          obtain ⟨c, hc⟩ : ∃ c : UInt8, c = s[k] := ⟨_, rfl⟩
          have HC : Hid (s.data.toList[k]? = some c ∧ 1 ≤ s.size ∧ s.size ≤ 16) := ⟨by rw [hc]; exact hx, by omega, by omega⟩
          clear hx
          by_cases a1 : 97 ≤ (s[k].toNat : Int)
          · by_cases a2 : (s[k].toNat : Int) ≤ 122
            · go_wp2_with fail
              go_roundg (s.size - (k + 1))
              case measure => clear hr2; omega
              case rel =>
                have hlet : letB c = true := by rw [letB_iff, hc]; exact ⟨a1, a2⟩
                exact ⟨k + 1, by clear hr2; omega, by go_num, nm_next HN.out HC.out.1 (let_in hlet) (fun _ => hlet), rfl⟩
            · have hlet : letB c = false := by rw [Bool.eq_false_iff]; intro h; rw [letB_iff, hc] at h; exact a2 h.2
              have HL : Hid (letB c = false) := hlet
              clear hlet
              by_cases k0 : k = 0
              · subst k0
                have k0b : (((0 : Nat) : Int) == 0) = true := rfl
                go_wp2_with fail
                go_ret
                exact ⟨ret_bool (nm_bad HC.out.1 (.inr ⟨rfl, HL.out⟩)).symm, rfl⟩
              · have k0b : ((k : Int) == 0) = false := by simpa using k0
                have k1 : 0 < (k : Int) := by omega
                have go_on : Hid (inNm c = true → nmTo s (k + 1)) := fun h => nm_next HN.out HC.out.1 h (fun h0 => absurd h0 k0)
                have bad : Hid (inNm c = false → nameB s = false) := fun h => nm_bad HC.out.1 (.inl h)
                have ci : Hid (inNm c = true ↔ (48 ≤ (s[k].toNat : Int) ∧ (s[k].toNat : Int) ≤ 57) ∨ (s[k].toNat : Int) = 95) := by
                  have := inNm_iff c
                  rw [HL.out, hc] at this
                  unfold Hid
                  rw [hc, this]
                  simp only [Bool.false_eq_true, false_or]
                by_cases a3 : (s[k].toNat : Int) = 95
                · have a3b : ((s[k].toNat : Int) != 95) = false := by simpa using a3
                  have A3 : Hid ((s[k].toNat : Int) = 95) := a3
                  clear a3
                  go_wp2_with fail
                  go_roundg (s.size - (k + 1))
                  case measure => clear hr2; omega
                  case rel => exact ⟨k + 1, by clear hr2; omega, by go_num, go_on.out (ci.out.2 (.inr A3.out)), rfl⟩
                · have a3b : ((s[k].toNat : Int) != 95) = true := by simpa using a3
                  have A3 : Hid (¬ (s[k].toNat : Int) = 95) := a3
                  clear a3
                  by_cases a4 : (s[k].toNat : Int) < 48
                  · go_wp2_with fail
                    go_ret
                    exact ⟨ret_bool (bad.out (by rw [Bool.eq_false_iff]; intro h; have := ci.out.1 h; have := A3.out; omega)).symm, rfl⟩
                  · by_cases a5 : 57 < (s[k].toNat : Int)
                    · go_wp2_with fail
                      go_ret
                      exact ⟨ret_bool (bad.out (by rw [Bool.eq_false_iff]; intro h; have := ci.out.1 h; have := A3.out; omega)).symm, rfl⟩
                    · go_wp2_with fail
                      go_roundg (s.size - (k + 1))
                      case measure => clear hr2; omega
                      case rel => exact ⟨k + 1, by clear hr2; omega, by go_num, go_on.out (ci.out.2 (.inl (by omega))), rfl⟩
          · have hlet : letB c = false := by rw [Bool.eq_false_iff]; intro h; rw [letB_iff, hc] at h; exact a1 h.1
            have HL : Hid (letB c = false) := hlet
            clear hlet
            by_cases k0 : k = 0
            · subst k0
              have k0b : (((0 : Nat) : Int) == 0) = true := rfl
              go_wp2_with fail
              go_ret
              exact ⟨ret_bool (nm_bad HC.out.1 (.inr ⟨rfl, HL.out⟩)).symm, rfl⟩
            · have k0b : ((k : Int) == 0) = false := by simpa using k0
              have k1 : 0 < (k : Int) := by omega
              have go_on : Hid (inNm c = true → nmTo s (k + 1)) := fun h => nm_next HN.out HC.out.1 h (fun h0 => absurd h0 k0)
              have bad : Hid (inNm c = false → nameB s = false) := fun h => nm_bad HC.out.1 (.inl h)
              have ci : Hid (inNm c = true ↔ (48 ≤ (s[k].toNat : Int) ∧ (s[k].toNat : Int) ≤ 57) ∨ (s[k].toNat : Int) = 95) := by
                have := inNm_iff c
                rw [HL.out, hc] at this
                unfold Hid
                rw [hc, this]
                simp only [Bool.false_eq_true, false_or]
              by_cases a3 : (s[k].toNat : Int) = 95
              · have a3b : ((s[k].toNat : Int) != 95) = false := by simpa using a3
                have A3 : Hid ((s[k].toNat : Int) = 95) := a3
                clear a3
                go_wp2_with fail
                go_roundg (s.size - (k + 1))
                case measure => clear hr2; omega
                case rel => exact ⟨k + 1, by clear hr2; omega, by go_num, go_on.out (ci.out.2 (.inr A3.out)), rfl⟩
              · have a3b : ((s[k].toNat : Int) != 95) = true := by simpa using a3
                have A3 : Hid (¬ (s[k].toNat : Int) = 95) := a3
                clear a3
                by_cases a4 : (s[k].toNat : Int) < 48
                · go_wp2_with fail
                  go_ret
                  exact ⟨ret_bool (bad.out (by rw [Bool.eq_false_iff]; intro h; have := ci.out.1 h; have := A3.out; omega)).symm, rfl⟩
                · by_cases a5 : 57 < (s[k].toNat : Int)
                  · go_wp2_with fail
                    go_ret
                    exact ⟨ret_bool (bad.out (by rw [Bool.eq_false_iff]; intro h; have := ci.out.1 h; have := A3.out; omega)).symm, rfl⟩
                  · go_wp2_with fail
                    go_roundg (s.size - (k + 1))
                    case measure => clear hr2; omega
                    case rel => exact ⟨k + 1, by clear hr2; omega, by go_num, go_on.out (ci.out.2 (.inl (by omega))), rfl⟩
        · have hkI : ¬ (k : Int) < (s.size : Int) := by omega
          obtain rfl : k = s.size := by omega
          go_wp2_with fail
          go_ret
          exact ⟨ret_bool (nm_end HN.out (by omega) (by omega)).symm, rfl⟩
end Go.Proofs.YtdjobjbkpagnaaaGreat
