/-
  3 texts, one behind the other: MDel, MGrow, MMerge.
-/
import Derived.Test.YtflabcmjbhmphaaJoin6
import Derived.RangeFuncIn
import Derived.Shelf.Abstract
/-
  The contracts of mover's hasGone, of Merge's closure, and of slices' IndexFunc and DeleteFunc with it.
-/
namespace Go.Proofs.Ytflabcmjbhmphaa
open Go.RowKit Go.Shelf

theorem infos_lf : (Try.prog.info? 61).map (fun i => (i.zero, i.size, i.bytes)) = some (some (.agg #[.slice none 0 0, .int .i64 0, .int .i64 0]), 3, 40) := by kernel_rfl
theorem size_lf : (Try.prog.info? 61).map (·.size) = some 3 := by kernel_rfl
theorem zero_lf (w : World) : (zeroValue 61).run Try.prog w = .ok (.agg #[.slice none 0 0, .int .i64 0, .int .i64 0]) w := by
  obtain ⟨i0, hi, hz, _, _⟩ := info_parts infos_lf
  simp [zeroValue, typeInfo, hi, hz]
theorem z1_lf : (#[.slice none 0 0, .int .i64 0, .int .i64 0] : Array Value).all (·.oneCell') = true := one_three (by intro u hu; simp only [List.mem_cons, List.not_mem_nil, or_false] at hu; rcases hu with rfl | rfl | rfl <;> rfl)
/-- The life at k. -/
theorem at_lf {w : World} {a : Option Addr} {n cap : Nat} {l : List Lf} (h : LfsIs w (.slice a n cap) l) {k : Nat} (hk : k < n) : ∃ (x : Lf) (b off : Nat) (a2 : Option Addr) (n2 c2 : Nat), l[k]? = some x ∧ a = some ⟨b, off, none⟩ ∧ b < w.heap.size ∧ w.cell? ⟨b, off + k * 3, none⟩ = some (.slice a2 n2 c2) ∧ w.cell? ⟨b, off + k * 3 + 1, none⟩ = some (.int .i64 x.b.toInt) ∧ w.cell? ⟨b, off + k * 3 + 2, none⟩ = some (.int .i64 x.g) ∧ SlIs CE 3 w (.slice a2 n2 c2) x.r ∧ x.r.length = n2 ∧ n2 ≤ c2 := by
  obtain ⟨x, cs, b, off, h1, h2, h3, _, h5, h6⟩ := h.at hk
  obtain ⟨v, rfl, hv⟩ := h5
  obtain ⟨a2, n2, c2, rfl, hn, hc⟩ := hv.slice
  exact ⟨x, b, off, a2, n2, c2, h1, h2, h3, by simpa using h6 0 _ rfl, h6 1 _ rfl, h6 2 _ rfl, hv, hn, hc⟩
set_option maxHeartbeats 1000000 in
theorem hasGone_any (W : World) (a : Option Addr) (n c : Nat) (b g : Int) :
    Calls Try.prog 32 #[.agg #[.slice a n c, .int .i64 b, .int .i64 g]] W fun e w' => e = .returned (.bool (!(decide (g = 0)))) ∧ Below W.heap.size W w' := by
  by_cases h : g = 0
  · subst h
    go_enter Try.func32, Try.ntmps32
    go_wp2_with fail
    go_ret
    exact ⟨ret_bool (by simp), below1 _ _⟩
  · have hb : (g == 0) = false := by simpa using h
    go_enter Try.func32, Try.ntmps32
    go_wp2_with fail
    go_ret
    exact ⟨ret_bool (by simp [h]), below1 _ _⟩
set_option maxHeartbeats 1000000 in
theorem merge1_any (W : World) (a : Option Addr) (n c : Nat) (b g low : Int) (B : Nat) (hB : W.cell? ⟨B, 0, none⟩ = some (.int .i64 low)) :
    Calls Try.prog 31 #[.agg #[.slice a n c, .int .i64 b, .int .i64 g], .pointer (some ⟨B, 0, none⟩)] W fun e w' => e = .returned (.bool (!(decide (g = 0)) && decide (g ≤ low))) ∧ Below W.heap.size W w' := by
  have hlt := World.block_lt_of_cell? W _ hB
  have hc := hasGone_any (W.alloc (.cells #[.slice a n c, .int .i64 b, .int .i64 g] 61)) a n c b g
  have HB : Hid (W.cell? ⟨B, 0, none⟩ = some (.int .i64 low) ∧ B < W.heap.size) := ⟨hB, hlt⟩
  have HX : Hid (Below W.heap.size W (W.alloc (.cells #[.slice a n c, .int .i64 b, .int .i64 g] 61)) ∧ Box (W.alloc (.cells #[.slice a n c, .int .i64 b, .int .i64 g] 61)) W.heap.size 61 #[.slice a n c, .int .i64 b, .int .i64 g]) := ⟨below1 _ _, box_new _ _ _⟩
  clear hB hlt
  obtain ⟨q, hq⟩ : ∃ q, q = !(decide (g = 0)) := ⟨_, rfl⟩
  rw [← hq] at hc
  have HQ : Hid (q = !(decide (g = 0))) := hq
  clear hq
  go_enter Try.func31, Try.ntmps31
  go_wp2_with fail
  refine hc.mono ?_
  rintro e w1 ⟨rfl, hb1⟩
  have HB1 : Hid (Below W.heap.size W w1) := HX.out.1.trans (hb1.mono HX.out.1.size)
  have b2 := (HX.out.2.over hb1).cell 2 _ rfl
  have l1 := (HB1.out.cell (p := ⟨B, 0, none⟩) HB.out.2).trans HB.out.1
  clear hc hb1
  cases q with
  | false =>
    go_wp2_with fail
    go_ret
    exact ⟨ret_bool (by rw [← HQ.out]; rfl), HB1.out⟩
  | true =>
    by_cases h : g ≤ low
    · go_wp2_with fail
      go_ret
      exact ⟨ret_bool (by rw [← HQ.out]; simp [h]), HB1.out⟩
    · go_wp2_with fail
      go_ret
      exact ⟨ret_bool (by rw [← HQ.out]; rfl), HB1.out⟩
def keptL (low : Int) (l : List Lf) (j : Nat) : List Lf := (l.take j).filter fun x => !goesB low x
theorem keptL_step {low : Int} {l : List Lf} {j : Nat} {x : Lf} (hx : l[j]? = some x) : keptL low l (j + 1) = keptL low l j ++ if goesB low x then [] else [x] := by
  unfold keptL
  rw [take_succ_of hx, List.filter_append]
  congr 1
  cases h : goesB low x <;> simp [h]
theorem keptL_le (low : Int) (l : List Lf) (j : Nat) : (keptL low l j).length ≤ j := by
  refine Nat.le_trans (List.length_filter_le _ _) ?_
  rw [List.length_take]; omega
theorem keptL_all (low : Int) (l : List Lf) (j : Nat) (h : l.length ≤ j) : keptL low l j = l.filter fun x => !goesB low x := by rw [keptL, List.take_of_length_le h]
theorem keptL_none {low : Int} {l : List Lf} {j : Nat} (h : ∀ (i : Nat) (x : Lf), i < j → l[i]? = some x → goesB low x = false) : keptL low l j = l.take j := by
  unfold keptL
  rw [List.filter_eq_self]
  intro x hx
  obtain ⟨i, hi⟩ := List.mem_iff_getElem?.1 hx
  rw [List.getElem?_take] at hi
  split at hi
  · rw [h i x (by assumption) hi]; rfl
  · cases hi
set_option maxRecDepth 4000 in
set_option maxHeartbeats 4000000 in
theorem idxL_any {w : World} {v : Value} {l : List Lf} (h : LfsIs w v l) (hl : l.length ≤ 1000000) (low : Int) (B : Nat) (hB : w.cell? ⟨B, 0, none⟩ = some (.int .i64 low)) :
    Calls Try.prog 47 #[v, .func (.func 31) #[] #[.pointer (some ⟨B, 0, none⟩)]] w fun e w' => (∃ j : Nat, (∀ (i : Nat) (x : Lf), i < j → l[i]? = some x → goesB low x = false) ∧ ((j < l.length ∧ e = .returned (.int .i64 j) ∧ ∃ x, l[j]? = some x ∧ goesB low x = true) ∨ (j = l.length ∧ e = .returned (.int .i64 (-1))))) ∧ Below w.heap.size w w' := by
  obtain ⟨a, n, cap, rfl, hn, hcap⟩ := h.slice
  have hn1 : (n : Int) ≤ 1000000 := by omega
  have hlt := World.block_lt_of_cell? w _ hB
  have eg := enters_of Try.func31 (by kernel_rfl) rfl
  have HH : Hid (LfsIs w (.slice a n cap) l ∧ l.length = n ∧ w.cell? ⟨B, 0, none⟩ = some (.int .i64 low) ∧ B < w.heap.size) := ⟨h, hn, hB, hlt⟩
  clear h hl hn hB hlt
  go_enter Try.func47, Try.ntmps47
  go_wp2_with fail
  go_loopg [8] n (fun gg s8 wx => ∃ k : Nat, k + gg = n ∧ s8 = .int .i64 k ∧ Hid (∀ (i : Nat) (x : Lf), i < k → l[i]? = some x → goesB low x = false) ∧ Hid (Below w.heap.size w wx))
  case atStart => exact ⟨0, by omega, rfl, fun i x hi => by omega, Below.refl _ _⟩
  case round =>
    obtain ⟨k, hkg, rfl, HN, HB⟩ := hrel
    by_cases hk : k < n
    · have hkI : (k : Int) < (n : Int) := by omega
      obtain ⟨x, b, off, a2, n2, c2, hs, rfl, hbl, c0, c1, c3, _, _, _⟩ := at_lf (HH.out.1.over stays_lf HB.out) hk
      have hr2 : IntKind.i64.wrap ((k : Int) + 1) = (k : Int) + 1 := by rw [IntKind.wrap_i64]; omega
      have hcall := merge1_any wr a2 n2 c2 x.b.toInt x.g low B ((HB.out.cell (p := ⟨B, 0, none⟩) HH.out.2.2.2).trans HH.out.2.2.1)
      have HS : Hid (l[k]? = some x) := hs
      obtain ⟨t, ht⟩ : ∃ t, t = (!(decide (x.g = 0)) && decide (x.g ≤ low)) := ⟨_, rfl⟩
      rw [← ht] at hcall
      have HT : Hid (t = goesB low x) := ht
      obtain ⟨z, hz⟩ : ∃ z, z = x.b.toInt := ⟨_, rfl⟩
      rw [← hz] at c1 hcall
      obtain ⟨g, hg⟩ : ∃ g, g = x.g := ⟨_, rfl⟩
      rw [← hg] at c3 hcall
      clear hs ht hz hg hbl
      go_wp2_with fail
      refine hcall.mono ?_
      rintro e w1 ⟨rfl, hb1⟩
      have HB1 : Hid (Below w.heap.size w w1) := HB.out.trans (hb1.mono HB.out.size)
      clear hb1 hcall c0 c1 c3
      cases t with
      | true =>
        go_wp2_with fail
        go_ret
        exact ⟨⟨k, HN.out, .inl ⟨by rw [HH.out.2.1]; exact hk, rfl, x, HS.out, HT.out.symm⟩⟩, HB1.out⟩
      | false =>
        go_wp2_with fail
        go_roundg (n - (k + 1))
        case measure => clear hr2; omega
        case rel => exact ⟨k + 1, by clear hr2; omega, by go_num, fun i y hi hy => by
          by_cases e : i = k
          · subst e
            obtain rfl := Option.some.inj (HS.out.symm.trans hy)
            exact HT.out.symm
          · exact HN.out i y (by clear hr2; omega) hy, HB1⟩
    · have hkI : ¬ (k : Int) < (n : Int) := by omega
      obtain rfl : k = n := by omega
      go_wp2_with fail
      go_ret
      exact ⟨⟨k, HN.out, .inr ⟨HH.out.2.1.symm, rfl⟩⟩, HB.out⟩
theorem xok_w {α : Type} (E : World → α → List Value → Prop) (w0 : World) : XOk (fun _ _ => E w0) (fun _ => E w0) := ⟨fun h _ => h, fun h _ => h, fun h => h, fun h _ => h⟩
theorem OwnS.x {α : Type} {E : World → α → List Value → Prop} {sz : Nat} {t : TypeId} {w0 w : World} {v : Value} {l : List α} (h : OwnS E sz t w0 w v l) : OwnX (fun _ _ => E w0) sz t (fun _ => False) w0 w v l := by
  obtain ⟨R, h1, h2, h3, h4⟩ := h
  exact ⟨R, h1, h2, fun k hk => ⟨h3 k hk, fun h => h⟩, fun k hk => hk.elim, h4⟩
theorem OwnX.s {α : Type} {E : World → α → List Value → Prop} {sz : Nat} {t : TypeId} {w0 w : World} {v : Value} {l : List α} (h : OwnX (fun _ _ => E w0) sz t (fun _ => False) w0 w v l) : OwnS E sz t w0 w v l := by
  obtain ⟨R, h1, h2, h3, _, h4⟩ := h
  exact ⟨R, h1, h2, fun k hk => (h3 k hk).1, h4⟩
/-- What DeleteFunc answers. -/
def DelAns (w0 w : World) (l : List Lf) (e : Ending) (w' : World) : Prop := ∃ v, e = .returned v ∧ OwnS LfE 3 61 w0 w' v l ∧ w.heap.size ≤ w'.heap.size
set_option maxRecDepth 4000 in
set_option maxHeartbeats 8000000 in
theorem delL_any {w0 w : World} {v : Value} {l : List Lf} (h : OwnS LfE 3 61 w0 w v l) (hl : l.length ≤ 1000) (low : Int) (B : Nat) (hB : w.cell? ⟨B, 0, none⟩ = some (.int .i64 low)) (hBo : v.ownBlock ≠ some B) :
    Calls Try.prog 29 #[v, .func (.func 31) #[] #[.pointer (some ⟨B, 0, none⟩)]] w (DelAns w0 w (l.filter fun x => !goesB low x)) := by
  have ci := idxL_any (h.is stays_lf) (by omega) low B hB
  have hlt := World.block_lt_of_cell? w _ hB
  obtain ⟨a, n, cap, rfl, hn, hcap⟩ := (h.is stays_lf).slice
  have hcI : (n : Int) ≤ (cap : Int) := by omega
  have hn1 : (n : Int) ≤ 1000 := by omega
  have HH : Hid (OwnS LfE 3 61 w0 w (.slice a n cap) l ∧ l.length = n ∧ w.cell? ⟨B, 0, none⟩ = some (.int .i64 low) ∧ B < w.heap.size ∧ n ≤ cap ∧ (Value.slice a n cap).ownBlock ≠ some B) := ⟨h, hn, hB, hlt, hcap, hBo⟩
  have eg := enters_of Try.func31 (by kernel_rfl) rfl
  clear h hl hn hB hlt hcap hBo
  go_enter Try.func29, Try.ntmps29
  go_wp2_with fail
  refine ci.mono ?_
  rintro e w1 ⟨⟨j0, hno, hj0⟩, hb1⟩
  rcases hj0 with ⟨hj0, rfl, x0, hx0, hg0⟩ | ⟨hj0, rfl⟩
  · have hjn : j0 < n := by have := HH.out.2.1; omega
    obtain ⟨g0, cap2, _, _, e, _, _, hglt, _⟩ := HH.out.1.x.at (xok_w LfE w0) (i := j0) hj0
    rw [HH.out.2.1] at e
    cases e
    have HO1 : Hid (OwnS LfE 3 61 w0 w1 (.slice (some ⟨g0, 0, none⟩) n cap) l) := HH.out.1.over hb1
    have HK : Hid (keptL low l (j0 + 1) = l.take j0) := by unfold Hid; rw [keptL_step hx0, hg0, if_pos rfl, keptL_none hno, List.append_nil]
    have hneb : ((j0 : Int) == -1) = false := by simp
    have hne : ¬ (j0 : Int) = -1 := by omega
    have hr1 : IntKind.i64.wrap ((j0 : Int) + 1) = (j0 : Int) + 1 := by rw [IntKind.wrap_i64]; omega
    have HB1 : Hid (w.heap.size ≤ w1.heap.size ∧ w1.cell? ⟨B, 0, none⟩ = some (.int .i64 low) ∧ g0 ≠ B) := ⟨hb1.size, (hb1.cell (p := ⟨B, 0, none⟩) HH.out.2.2.2.1).trans HH.out.2.2.1, fun e => HH.out.2.2.2.2.2 (by rw [e]; rfl)⟩
    clear ci hno hx0 hg0 hb1 hglt hne
    go_wp2_with fail
    clear hr1 hneb
    go_loopg [5, 6] (n - (j0 + 1)) (fun gg s5 s6 wx => ∃ (i j : Nat) (L : List Lf), j + gg = n ∧ s5 = .int .i64 i ∧ s6 = .int .i64 j ∧ i < j ∧ Hid (OwnS LfE 3 61 w0 wx (.slice (some ⟨g0, 0, none⟩) n cap) L ∧ L.length = n ∧ L.take i = keptL low l j ∧ (∀ t, j ≤ t → L[t]? = l[t]?)) ∧ Hid (w.heap.size ≤ wx.heap.size ∧ wx.cell? ⟨B, 0, none⟩ = some (.int .i64 low)))
    case atStart => exact ⟨j0, j0 + 1, l, by omega, rfl, by go_num, by omega, ⟨HO1.out, HH.out.2.1, HK.out.symm, fun _ _ => rfl⟩, HB1.out.1, HB1.out.2.1⟩
    case round =>
      clear HO1 HK
      obtain ⟨i, j, L, hjg, rfl, rfl, hij, HM, HB⟩ := hrel
      have hiI : (i : Int) < (n : Int) := by omega
      by_cases hj : j < n
      · have hjI : (j : Int) < (n : Int) := by omega
        obtain ⟨x, b, off, a2, n2, c2, hs, e, hbl, c0, c1, c3, _, _, _⟩ := at_lf (HM.out.1.is stays_lf) hj
        cases e
        rw [Nat.zero_add] at c0 c1 c3
        have hr2 : IntKind.i64.wrap ((j : Int) + 1) = (j : Int) + 1 := by rw [IntKind.wrap_i64]; omega
        have hr3 : IntKind.i64.wrap ((i : Int) + 1) = (i : Int) + 1 := by rw [IntKind.wrap_i64]; omega
        have HS : Hid (l[j]? = some x) := by unfold Hid; rw [← HM.out.2.2.2 j (Nat.le_refl _)]; exact hs
        obtain ⟨z, hz⟩ : ∃ z, z = x.b.toInt := ⟨_, rfl⟩
        rw [← hz] at c1
        obtain ⟨g, hg⟩ : ∃ g, g = x.g := ⟨_, rfl⟩
        rw [← hg] at c3
        obtain ⟨ga, gc, gx, gr, ge, _, _, hglt, hgx, hgl, hgE, hgc, _, _, _⟩ := HM.out.1.x.at (xok_w LfE w0) (i := j) (by rw [HM.out.2.1]; exact hj)
        rw [HM.out.2.1] at ge
        cases ge
        have hcs : LfE w0 x [.slice a2 n2 c2, .int .i64 z, .int .i64 g] := by
          obtain rfl := Option.some.inj (hgx.symm.trans hs)
          match gr, hgl, hgE, hgc with
          | [u0, u1, u2], _, hgE, hgc =>
            have e0 := (hgc 0 u0 rfl).1
            have e1 := (hgc 1 u1 rfl).1
            have e2 := (hgc 2 u2 rfl).1
            rw [Nat.add_zero] at e0
            rw [c0] at e0; rw [c1] at e1; rw [c3] at e2
            cases e0; cases e1; cases e2
            exact hgE
        have HC : Hid (LfE w0 x [.slice a2 n2 c2, .int .i64 z, .int .i64 g]) := hcs
        obtain ⟨W1, hW1⟩ : ∃ W1, W1 = (wr.alloc (.cells #[.slice none 0 0, .int .i64 0, .int .i64 0] 61)).setRow wr.heap.size #[.slice a2 n2 c2, .int .i64 z, .int .i64 g] := ⟨_, rfl⟩
        have bW : Below wr.heap.size wr W1 := by rw [hW1]; exact below_setRow (below1 wr _) (Nat.le_refl _) _
        have BW : Box W1 wr.heap.size 61 #[.slice a2 n2 c2, .int .i64 z, .int .i64 g] := by rw [hW1]; exact (box_new wr _ _).setRow _
        have hBlt : B < wr.heap.size := World.block_lt_of_cell? wr _ HB.out.2
        have hcall := merge1_any W1 a2 n2 c2 z g low B ((bW.cell (p := ⟨B, 0, none⟩) hBlt).trans HB.out.2)
        obtain ⟨t, ht⟩ : ∃ t, t = (!(decide (g = 0)) && decide (g ≤ low)) := ⟨_, rfl⟩
        rw [← ht] at hcall
        have HT : Hid (t = goesB low x) := by unfold Hid goesB; rw [ht, hg]
        have hone : (#[.slice a2 n2 c2, .int .i64 z, .int .i64 g] : Array Value).all (fun c => c.oneCell') = true := one_three (by intro u hu; simp only [List.mem_cons, List.not_mem_nil, or_false] at hu; rcases hu with rfl | rfl | rfl <;> rfl)
        have HZ : Hid (∀ z, Box (wr.alloc (.cells z 61)) wr.heap.size 61 z) := fun z => box_new wr z _
        have HW : Hid (W1 = (wr.alloc (.cells #[.slice none 0 0, .int .i64 0, .int .i64 0] 61)).setRow wr.heap.size #[.slice a2 n2 c2, .int .i64 z, .int .i64 g] ∧ Below wr.heap.size wr W1 ∧ Box W1 wr.heap.size 61 #[.slice a2 n2 c2, .int .i64 z, .int .i64 g] ∧ B < wr.heap.size) := ⟨hW1, bW, BW, hBlt⟩
        clear hs hg hz ht hbl hglt hgx hgl hgE hgc hcs hW1 bW hBlt
        obtain ⟨Bp, hBp⟩ : ∃ Bp, Bp = wr.heap.size := ⟨_, rfl⟩
        have HP : Hid (Bp = wr.heap.size) := hBp
        have HCL : Hid (Calls Try.prog 31 #[.agg #[.slice a2 n2 c2, .int .i64 z, .int .i64 g], .pointer (some ⟨B, 0, none⟩)] W1 fun e w' => e = .returned (.bool t) ∧ Below W1.heap.size W1 w') := hcall
        clear hBp BW hcall
        go_wp2_with (refine wpList_store_row rfl 61 _ _ rfl wr.heap.size _ rfl rfl 61 _ (HZ.out _) size_lf rfl hone ?_; rw [← HW.out.1, ← HP.out]; have b0 := HW.out.2.2.1.cell 0 _ rfl; have b1 := HW.out.2.2.1.cell 1 _ rfl; have b2 := HW.out.2.2.1.cell 2 _ rfl; rw [← HP.out] at b0 b1 b2; clear c0 c1 c3)
        refine HCL.out.mono ?_
        rintro e w3 ⟨rfl, b3⟩
        have hbw3 : Below wr.heap.size wr w3 := HW.out.2.1.trans (b3.mono HW.out.2.1.size)
        have HB3 : Hid (Below wr.heap.size wr w3 ∧ Box w3 Bp 61 #[.slice a2 n2 c2, .int .i64 z, .int .i64 g] ∧ OwnS LfE 3 61 w0 w3 (.slice (some ⟨g0, 0, none⟩) n cap) L ∧ w.heap.size ≤ w3.heap.size ∧ w3.cell? ⟨B, 0, none⟩ = some (.int .i64 low)) := ⟨hbw3, by rw [HP.out]; exact HW.out.2.2.1.over b3, HM.out.1.over hbw3, Nat.le_trans HB.out.1 hbw3.size, (hbw3.cell (p := ⟨B, 0, none⟩) HW.out.2.2.2).trans HB.out.2⟩
        clear HCL b3 hbw3 b0 b1 b2
        cases t with
        | true =>
          go_wp2_with fail
          go_roundg (n - (j + 1))
          case measure => clear hr2 hr3; omega
          case rel => exact ⟨i, j + 1, L, by clear hr2 hr3; omega, rfl, by go_num, by clear hr2 hr3; omega, ⟨HB3.out.2.2.1, HM.out.2.1, by rw [HM.out.2.2.1, keptL_step HS.out, ← HT.out, if_pos rfl, List.append_nil], fun t ht => HM.out.2.2.2 t (by clear hr2 hr3; omega)⟩, HB3.out.2.2.2⟩
        | false =>
          have b0 := HB3.out.2.1.cell 0 _ rfl
          have b1 := HB3.out.2.1.cell 1 _ rfl
          have b2 := HB3.out.2.1.cell 2 _ rfl
          obtain ⟨ga, gc, gx, gr, ge, hg1, _, _, _, _, _, _, hth, _, hset⟩ := HB3.out.2.2.1.x.at (xok_w LfE w0) (i := i) (by rw [HM.out.2.1]; omega)
          rw [HM.out.2.1] at ge
          cases ge
          have hth2 : w3.there g0 (i * 3) (#[.slice a2 n2 c2, .int .i64 z, .int .i64 g] : Array Value).size := hth
          have HN : Hid (OwnS LfE 3 61 w0 (w3.setCells g0 (i * 3) [.slice a2 n2 c2, .int .i64 z, .int .i64 g]) (.slice (some ⟨g0, 0, none⟩) n cap) (L.set i x) ∧ Kept (fun k => k = g0) w3 (w3.setCells g0 (i * 3) [.slice a2 n2 c2, .int .i64 z, .int .i64 g])) :=
            ⟨(hset [.slice a2 n2 c2, .int .i64 z, .int .i64 g] x rfl HC.out).s, Kept.setCells (F := fun k => k = g0) (.inl rfl) _ _ _ (Kept.refl _ _)⟩
          clear hg1 hth hset
          go_wp2_with (refine wpList_store_mid rfl 61 _ _ rfl g0 (i * 3) #[.slice a2 n2 c2, .int .i64 z, .int .i64 g] rfl rfl hth2 size_lf hone ?_)
          go_roundg (n - (j + 1))
          case measure => clear hr2 hr3; omega
          case rel => exact ⟨i + 1, j + 1, L.set i x, by clear hr2 hr3; omega, by go_num, by go_num, by clear hr2 hr3; omega, ⟨HN.out.1, by rw [List.length_set]; exact HM.out.2.1, by
            rw [keptL_step HS.out, ← HT.out, if_neg (by simp), ← HM.out.2.2.1]
            have hiL : i < L.length := by rw [HM.out.2.1]; clear hr2 hr3; omega
            rw [take_succ_of (List.getElem?_set_self hiL), List.take_set_of_le (Nat.le_refl _)], fun t ht => by
            rw [List.getElem?_set_ne (by clear hr2 hr3; omega)]
            exact HM.out.2.2.2 t (by clear hr2 hr3; omega)⟩, Nat.le_trans HB3.out.2.2.2.1 HN.out.2.size, by
            rw [World.cell?_of_block (a := ⟨B, 0, none⟩) (HN.out.2.block B (World.block_lt_of_cell? w3 _ HB3.out.2.2.2.2) (fun e => HB1.out.2.2 e.symm))]
            exact HB3.out.2.2.2.2⟩
      · have hjI : ¬ (j : Int) < (n : Int) := by omega
        obtain rfl : j = n := by omega
        obtain ⟨R, r1, r2, r3, r4⟩ := HM.out.1
        have hRn : R.length = j := by rw [r2.1]; exact HM.out.2.1
        obtain ⟨hrows, hcm⟩ : Rows wr g0 61 (cap * 3) 3 R ∧ cap ≤ maxLen := by
          rcases r1 with ⟨e, _⟩ | ⟨g, c, e, q1, q2, q3⟩
          · cases e
          · cases e; exact ⟨q3, q2⟩
        have HF : Hid (Rows wr g0 61 (cap * 3) 3 R) := hrows
        have HRR : Hid (RowsE LfE w0 L R ∧ w0.heap.size ≤ g0 ∧ Below w0.heap.size w0 wr ∧ R.length = j ∧ cap ≤ maxLen) := ⟨r2, r3 g0 rfl, r4, hRn, hcm⟩
        have hd : i + (j - i) ≤ R.length := by omega
        clear r1 r2 r3 r4 hrows hRn hcm
        go_wp2_with (refine clear_rows rfl _ 22 61 #[.slice none 0 0, .int .i64 0, .int .i64 0] 3 rfl Try.underlying22 zero_lf rfl (by decide) z1_lf (q := i) HF (some ⟨g0, i * 3, none⟩) (j - i) (cap - i) rfl (fun _ => rfl) hd ?_; intro w4 k5 k6)
        go_ret
        have hRi : (R.take i).length = i := by rw [List.length_take, HRR.out.2.2.2.1]; omega
        have hki : (keptL low l j).length = i := by rw [← HM.out.2.2.1, List.length_take, HM.out.2.1]; omega
        have hall : keptL low l j = l.filter fun x => !goesB low x := keptL_all low l j (by rw [HH.out.2.1]; exact Nat.le_refl _)
        refine ⟨_, rfl, ⟨R.take i, .inr ⟨g0, cap, by rw [hRi]; rfl, by rw [hRi]; have := HH.out.2.2.2.2.1; omega, HRR.out.2.2.2.2, k5.out⟩, ?_, fun k hk => ?_, HRR.out.2.2.1.trans (k6.out.below (fun k hk => by rw [hk]; exact HRR.out.2.1) HRR.out.2.2.1.size)⟩, Nat.le_trans HB.out.1 k6.out.size⟩
        · rw [← hall, ← HM.out.2.2.1]
          refine ⟨by rw [List.length_take, List.length_take, HRR.out.1.1], fun t x r hx hr => ?_⟩
          rw [List.getElem?_take] at hx hr
          split at hx
          · rw [if_pos (by assumption)] at hr
            exact HRR.out.1.2 t x r hx hr
          · cases hx
        · have e : some g0 = some k := hk
          cases e
          exact HRR.out.2.1
  · have hall : l.filter (fun x => !goesB low x) = l := by
      rw [← keptL_all low l n (by rw [HH.out.2.1]; exact Nat.le_refl _), keptL_none (fun i x hi hx => hno i x (by have := HH.out.2.1; omega) hx), List.take_of_length_le (by rw [HH.out.2.1]; exact Nat.le_refl _)]
    have HF : Hid (l.filter (fun x => !goesB low x) = l) := hall
    have HO1 : Hid (OwnS LfE 3 61 w0 w1 (.slice a n cap) l ∧ w.heap.size ≤ w1.heap.size) := ⟨HH.out.1.over hb1, hb1.size⟩
    have hneb : ((-1 : Int) == -1) = true := rfl
    clear ci hno hb1 hall
    go_wp2_with fail
    go_ret
    exact ⟨_, rfl, by rw [HF.out]; exact HO1.out.1, HO1.out.2⟩
end Go.Proofs.Ytflabcmjbhmphaa
/-
  The contracts of slices' Grow of nil and Concat of two, of lives.
-/
namespace Go.Proofs.Ytflabcmjbhmphaa
open Go.RowKit

theorem infos_lv : (Try.prog.info? 61).map (fun i => (i.zero, i.size, i.bytes)) = some (some (.agg #[.slice none 0 0, .int .i64 0, .int .i64 0]), 3, 40) := by kernel_rfl
theorem rows_of_flat {w : World} {b : Nat} {t : TypeId} {tot sz : Nat} {R : List (List Value)} (hsz : 0 < sz) {cur : Array Value} {tail : List Value} (hb : w.heap[b]? = some (.cells cur t (0, 0))) (hs : cur.size = tot) (hc : cur.toList = R.flatten ++ tail) (hR : ∀ r ∈ R, r.length = sz) : Rows w b t tot sz R := by
  have hl := length_flat R hR
  refine ⟨cur, hb, hs, ?_, hR, ?_⟩
  · have := congrArg List.length hc
    rw [List.length_append, hl, Array.length_toList] at this
    omega
  · intro i r hr j v hv
    have hi : i < R.length := (List.getElem?_eq_some_iff.1 hr).1
    have hj : j < sz := by
      have := hR r (List.mem_of_getElem? hr)
      have := (List.getElem?_eq_some_iff.1 hv).1
      omega
    have hk : i * sz + j < R.flatten.length := by
      rw [hl]
      have : (i + 1) * sz ≤ R.length * sz := Nat.mul_le_mul_right _ hi
      rw [Nat.add_mul] at this
      omega
    rw [← Array.getElem?_toList, hc, List.getElem?_append_left hk, flatten_at hsz R hR]
    have d1 : (i * sz + j) / sz = i := by rw [Nat.mul_comm, Nat.mul_add_div hsz, Nat.div_eq_of_lt hj]; rfl
    have d2 : (i * sz + j) % sz = j := by rw [Nat.mul_comm, Nat.mul_add_mod, Nat.mod_eq_of_lt hj]
    rw [d1, d2, hr]
    exact hv
section
variable {P : Program} {ops : Array Oper} {rest : List Oper} {o : Oper} {a : Act} {w : World} {Q : Exit → Act → World → Prop}
/-- 'append(nil, make(S, k)...)'. -/
theorem append_zeros_nil (hgd : o.guard = none) (s x : Operand) (T Tn e : TypeId) (i : TypeInfo) (z : Value) (sz bytes : Nat) (ho : o.op = .call { callee := .builtin .append, args := #[s, x], argTypes := #[T, Tn] })
    (hT : P.underlying T = some (.slice e)) (hTn : P.underlying Tn = some (.int .i64)) (hi : P.info? e = some i) (hz : i.zero = some z) (hsize : i.size = sz) (hby : i.bytes = bytes) (hzs : z.cells.size = sz) (hsz : 0 < sz) (hbl : bytes ≤ 200)
    (hs : a.eval s = .slice none 0 0) (k : Nat) (hx : a.eval x = .int .i64 k) (hk : 0 < k) (hl : k ≤ 1000000)
    (h : ∀ cap' w', Hid (SRows w' (.slice (some ⟨w.heap.size, 0, none⟩) 0 cap') e sz []) → Hid (k ≤ cap') → Hid (Below w.heap.size w w') → wpList P ops Q rest (a.put o.dst (.slice (some ⟨w.heap.size, 0, none⟩) k cap')) w') :
    wpList P ops Q (o :: rest) a w := by
  subst hsize hby
  have hkb : k * i.bytes ≤ 1000000 * 200 := Nat.mul_le_mul hl hbl
  have hr := Lib.run_append_grow_zeros (P := P) w T Tn o.type e i z .i64 .i64 hT hTn hi hz none 0 0 [] (by simpa using run_firstCells_none (P := P) (w := w.drew) i.size 0 0 0) k hk hsz (by omega) (by omega) (by omega) (growslice_fits (by omega) (by rw [Nat.zero_add]; omega))
  have hge := grownCap_ge w (0 + k) 0 e
  have hcm := grownCap_le_maxLen w (0 + k) 0 e (by unfold maxLen; omega)
  refine wpList_plain hgd fun K hK => ?_
  unfold Oper.wp execOp
  simp only [ho, resolve, invoke, builtin, Sem.run_bind, Sem.run_pure, Result.andThen_ok, List.map_toArray, List.map_cons, List.map_nil, hs, hx, hr]
  rw [Nat.zero_add] at hge hcm ⊢
  refine hK _ _ (h _ _ (show SRows _ _ _ _ _ from ?_) (show _ ≤ _ from hge) (show Below _ _ _ from ((Below.refl _ w).drew).alloc (Nat.le_refl _) _))
  refine .inr ⟨w.heap.size, _, rfl, Nat.zero_le _, hcm, ?_⟩
  refine rows_of_flat hsz (heap_alloc_last w.drew _) ?_ (tail := (([] : List Value).toArray ++ Builtin.zeroCells z.cells k ++ Builtin.zeroCells z.cells (grownCap w k 0 e - k)).toList) (by simp) (by simp)
  simp only [Array.size_append, List.size_toArray, size_zeroCells, hzs, List.length_nil, Nat.zero_add]
  rw [← Nat.add_mul]
  congr 1
  omega
end
set_option maxRecDepth 4000 in
set_option maxHeartbeats 2000000 in
theorem growL_any (k : Nat) (hk : k ≤ 1000000) (w : World) :
    Calls Try.prog 48 #[.slice none 0 0, .int .i64 (k : Int)] w fun e w' => (∃ v', e = .returned v' ∧ SRows w' v' 61 3 [] ∧ ∀ b, v'.ownBlock = some b → w.heap.size ≤ b) ∧ Below w.heap.size w w' := by
  have hkI : (k : Int) ≤ 1000000 := by omega
  have hk0 : ¬ (k : Int) < 0 := by omega
  by_cases h0 : 0 < k
  · have h0I : 0 < (k : Int) := by omega
    obtain ⟨i0, hi, hz0, hz1, hz2⟩ := info_parts infos_lv
    have HI : Hid (Try.prog.info? 61 = some i0 ∧ i0.zero = some (.agg #[.slice none 0 0, .int .i64 0, .int .i64 0]) ∧ i0.size = 3 ∧ i0.bytes = 40 ∧ 0 < k ∧ k ≤ 1000000) := ⟨hi, hz0, hz1, hz2, h0, hk⟩
    clear hi hz0 hz1 hz2 h0 hk
    go_enter Try.func48, Try.ntmps48
    go_wp2_with (at_builtin; refine append_zeros_nil rfl (.tmp 20) (.tmp 21) 22 3 61 i0 (.agg #[.slice none 0 0, .int .i64 0, .int .i64 0]) 3 40 rfl Try.underlying22 Try.underlying3 HI.out.1 HI.out.2.1 HI.out.2.2.1 HI.out.2.2.2.1 rfl (by decide) (by decide) rfl k rfl HI.out.2.2.2.2.1 HI.out.2.2.2.2.2 ?_; intro cap' w1 hs hc hb)
    go_ret
    exact ⟨⟨_, rfl, hs.out, fun b hb => by have e : some w.heap.size = some b := hb; cases e; exact Nat.le_refl _⟩, hb.out⟩
  · have h0I : ¬ 0 < (k : Int) := by omega
    obtain rfl : k = 0 := by omega
    go_enter Try.func48, Try.ntmps48
    go_wp2_with fail
    go_ret
    exact ⟨⟨_, rfl, srows_nil _ _ _, fun b hb => by simp [Value.ownBlock] at hb⟩, Below.refl _ _⟩
set_option maxRecDepth 4000 in
set_option maxHeartbeats 4000000 in
theorem concatL_any {w : World} {B : Nat} {a1 a2 : Option Addr} {n1 n2 c1 c2 : Nat} {l1 l2 : List Lf} (hB1 : w.cell? ⟨B, 0, none⟩ = some (.slice a1 n1 c1)) (hB2 : w.cell? ⟨B, 1, none⟩ = some (.slice a2 n2 c2)) (h1 : LfsIs w (.slice a1 n1 c1) l1) (h2 : LfsIs w (.slice a2 n2 c2) l2) (hn1 : n1 ≤ 1000) (hn2 : n2 ≤ 1000) :
    Calls Try.prog 30 #[.slice (some ⟨B, 0, none⟩) 2 2] w fun e w' => ∃ v, e = .returned v ∧ OwnS LfE 3 61 w w' v (l1 ++ l2) := by
  have hlt := World.block_lt_of_cell? w _ hB1
  have HB : Hid (w.cell? ⟨B, 0, none⟩ = some (.slice a1 n1 c1) ∧ w.cell? ⟨B, 1, none⟩ = some (.slice a2 n2 c2) ∧ B < w.heap.size) := ⟨hB1, hB2, hlt⟩
  have H0 : Hid (LfsIs w (.slice a1 n1 c1) l1 ∧ LfsIs w (.slice a2 n2 c2) l2 ∧ l1.length = n1 ∧ l2.length = n2) := ⟨h1, h2, h1.len.1, h2.len.1⟩
  have hn1I : (n1 : Int) ≤ 1000 := by omega
  have hn2I : (n2 : Int) ≤ 1000 := by omega
  clear h1 h2 hlt hB1 hB2
  go_enter Try.func30, Try.ntmps30
  go_wp2_with fail
  go_loopg [3, 11] 2 (fun gg s3 s11 wx => ∃ k : Nat, k + gg = 2 ∧ s11 = .int .i64 k ∧ s3 = .int .i64 (if k = 0 then 0 else if k = 1 then (n1 : Int) else (n1 : Int) + (n2 : Int)) ∧ wx = w)
  case atStart => exact ⟨0, by omega, rfl, rfl, rfl⟩
  case round =>
    obtain ⟨k, hkg, rfl, rfl, hw⟩ := hrel
    subst hw
    have hk3 : k = 0 ∨ k = 1 ∨ k = 2 := by omega
    rcases hk3 with rfl | rfl | rfl
    · have c0 := HB.out.1
      have hnn : ¬ (n1 : Int) < 0 := by omega
      simp only [if_true]
      go_wp2_with fail
      go_roundg 1
      case measure => omega
      case rel => exact ⟨1, by omega, rfl, by simp, rfl⟩
    · have c1 := HB.out.2.1
      have hnn : ¬ (n1 : Int) + (n2 : Int) < 0 := by omega
      simp only [Nat.one_ne_zero, if_false, if_true]
      go_wp2_with fail
      go_roundg 0
      case measure => omega
      case rel => exact ⟨2, by omega, rfl, by simp, rfl⟩
    · have cg := growL_any (n1 + n2) (by omega) wr
      rw [show ((n1 + n2 : Nat) : Int) = (n1 : Int) + (n2 : Int) by omega] at cg
      simp only [show (2 : Nat) ≠ 0 by decide, show (2 : Nat) ≠ 1 by decide, if_false]
      go_wp2_with fail
      refine cg.mono ?_
      rintro e w1 ⟨⟨v1, rfl, hs1, ho1⟩, hb1⟩
      have HV1 : Hid (OwnS LfE 3 61 wr w1 v1 []) := ⟨[], hs1, ⟨rfl, fun i x r hx => by simp at hx⟩, ho1, hb1⟩
      obtain ⟨ag, q1, rfl⟩ : ∃ a q, v1 = .slice a 0 q := by rcases hs1 with ⟨rfl, _⟩ | ⟨g, cap, rfl, _⟩ <;> exact ⟨_, _, rfl⟩
      clear cg hs1 ho1 hb1
      obtain ⟨Wc, hWc⟩ : ∃ Wc, Wc = wr := ⟨_, rfl⟩
      rw [← hWc] at HB H0 HV1
      have HWC : Hid (Wc = wr) := hWc
      clear hWc
      go_wp2_with fail
      go_loopg [6, 27] 2 (fun gg s6 s27 wx => ∃ (k m : Nat) (a : Option Addr) (q : Nat) (L : List Lf), k + gg = 2 ∧ s27 = .int .i64 k ∧ s6 = .slice a m q ∧ Hid ((k = 0 ∧ L = [] ∧ m = 0) ∨ (k = 1 ∧ L = l1 ∧ m = n1) ∨ (k = 2 ∧ L = l1 ++ l2 ∧ m = n1 + n2)) ∧ Hid (OwnS LfE 3 61 Wc wx (.slice a m q) L))
      case atStart => exact ⟨0, 0, ag, q1, [], by omega, rfl, rfl, .inl ⟨rfl, rfl, rfl⟩, HV1⟩
      case round =>
        clear HV1
        obtain ⟨k, m, a, q, L, hkg, rfl, rfl, HK, HV⟩ := hrel
        rcases HK.out with ⟨rfl, rfl, rfl⟩ | ⟨rfl, rfl, rfl⟩ | ⟨rfl, rfl, rfl⟩
        · clear HK
          have c0 : wr.cell? ⟨B, 0, none⟩ = some (.slice a1 n1 c1) := (HV.out.bel.cell (p := ⟨B, 0, none⟩) HB.out.2.2).trans HB.out.1
          go_wp2_with (at_builtin; refine append_all rfl (.tmp 31) (.tmp 32) 22 61 (.agg #[.slice none 0 0, .int .i64 0, .int .i64 0]) 3 40 rfl Try.underlying22 infos_lv rfl (by decide) (by decide) rfl rfl (fun _ _ h => one_lf h) HV.out H0.out.1 n1 (Nat.zero_add n1) (by omega) ?_; intro va vc w2 HV2)
          go_roundg 1
          case measure => omega
          case rel => exact ⟨1, n1, va, vc, l1, by omega, rfl, rfl, .inr (.inl ⟨rfl, rfl, rfl⟩), by have := HV2.out; rwa [List.nil_append] at this⟩
        · clear HK
          have c0 : wr.cell? ⟨B, 1, none⟩ = some (.slice a2 n2 c2) := (HV.out.bel.cell (p := ⟨B, 1, none⟩) HB.out.2.2).trans HB.out.2.1
          have HSZ : Hid (L.length + n2 = m + n2) := by unfold Hid; rw [H0.out.2.2.1]
          go_wp2_with (at_builtin; refine append_all rfl (.tmp 31) (.tmp 32) 22 61 (.agg #[.slice none 0 0, .int .i64 0, .int .i64 0]) 3 40 rfl Try.underlying22 infos_lv rfl (by decide) (by decide) rfl rfl (fun _ _ h => one_lf h) HV.out H0.out.2.1 (m + n2) HSZ.out (by omega) ?_; intro va vc w2 HV2)
          go_roundg 0
          case measure => omega
          case rel => exact ⟨2, m + n2, va, vc, L ++ l2, by omega, rfl, rfl, .inr (.inr ⟨rfl, rfl, rfl⟩), HV2⟩
        · clear HK
          go_wp2_with fail
          go_ret
          exact ⟨_, rfl, by rw [← HWC.out]; exact HV.out⟩
end Go.Proofs.Ytflabcmjbhmphaa
/-
  The contract of mover's Merge.
-/
namespace Go.Proofs.Ytflabcmjbhmphaa
open Go.RowKit

/-- What Merge answers. -/
def MergeAns (w : World) (l : List Lf) (e : Ending) (w' : World) : Prop := ∃ v, e = .returned v ∧ LfsIs w' v l ∧ Below w.heap.size w w'
set_option maxRecDepth 4000 in
set_option maxHeartbeats 4000000 in
theorem merge_any {w : World} {va vb : Value} {a b : List Lf} (ha : LfsIs w va a) (hb : LfsIs w vb b) (h1 : a.length ≤ 100) (h2 : b.length ≤ 100) (hr : ∀ x ∈ a ++ b, x.r.length ≤ 1000) (low : Int) :
    Calls Try.prog 9 #[va, vb, .int .i64 low] w (MergeAns w (mergeA a b low)) := by
  obtain ⟨aa, na, ca, rfl, hna, hca⟩ := ha.slice
  obtain ⟨ab, nb, cb, rfl, hnb, hcb⟩ := hb.slice
  obtain ⟨W, hW⟩ : ∃ W, W = (w.alloc (.cells #[.int .i64 low] 3)).alloc (.cells #[.slice aa na ca, .slice ab nb cb] 22) := ⟨_, rfl⟩
  have b2 : Below w.heap.size w W := by rw [hW]; exact below2 _ _ _
  have B0 : Box W w.heap.size 3 #[.int .i64 low] := by rw [hW]; exact box_old _ _ _ _
  have B1 : Box W (w.heap.size + 1) 22 #[.slice aa na ca, .slice ab nb cb] := by rw [hW]; have := box_new (w.alloc (.cells #[.int .i64 low] 3)) #[.slice aa na ca, .slice ab nb cb] 22; rwa [World.size_alloc] at this
  have hc := concatL_any (B1.cell 0 _ rfl) (B1.cell 1 _ rfl) (ha.over stays_lf b2) (hb.over stays_lf b2) (by omega) (by omega)
  have HX : Hid (Below w.heap.size w W ∧ Box W w.heap.size 3 #[.int .i64 low] ∧ w.heap.size < W.heap.size) := ⟨b2, B0, B0.lt⟩
  have HH : Hid (a.length ≤ 100 ∧ b.length ≤ 100 ∧ (∀ x ∈ a ++ b, x.r.length ≤ 1000)) := ⟨h1, h2, hr⟩
  have eg := enters_of Try.func31 (by kernel_rfl) rfl
  clear ha hb h1 h2 hr hna hnb hca hcb b2 B0 B1
  have HW : Hid (W = (w.alloc (.cells #[.int .i64 low] 3)).alloc (.cells #[.slice aa na ca, .slice ab nb cb] 22)) := hW
  clear hW
  go_enter Try.func9, Try.ntmps9
  go_wp2_with fail
  rw [← HW.out]
  refine hc.mono ?_
  rintro e w1 ⟨v1, rfl, ho1⟩
  have hl1 : (a ++ b).length ≤ 1000 := by have := HH.out.1; have := HH.out.2.1; rw [List.length_append]; omega
  have hd := delL_any ho1 hl1 low w.heap.size ((HX.out.2.1.over (ho1.bel)).cell 0 _ rfl) (fun hk => by have := ho1.from _ hk; have := HX.out.2.2; omega)
  have HO1 : Hid (OwnS LfE 3 61 W w1 v1 (a ++ b)) := ho1
  obtain ⟨l, hl⟩ : ∃ l, l = (a ++ b).filter (fun x => !goesB low x) := ⟨_, rfl⟩
  rw [← hl] at hd
  have HL : Hid (l = mergeA a b low ∧ ∀ x ∈ l, x.r.length ≤ 1000) := ⟨hl, fun x hx => by rw [hl] at hx; exact HH.out.2.2 x (List.mem_filter.1 hx).1⟩
  have HLl : Hid (l.length ≤ 200) := by unfold Hid; rw [hl]; have := List.length_filter_le (fun x => !goesB low x) (a ++ b); have := HH.out.1; have := HH.out.2.1; rw [List.length_append] at *; omega
  clear hc ho1 hl1 hl
  go_wp2_with fail
  refine hd.mono ?_
  rintro e w2 ⟨v2, rfl, ho2, hsz2⟩
  have HO2 : Hid (OwnX LfX 3 61 (fun _ => False) W w2 v2 l) := ownX_of xok_lf ho2 (fun k h => h.elim) (fun _ _ h => h)
  obtain ⟨a2, n, c2, rfl, hn, _⟩ := (ho2.is stays_lf).slice
  have HN : Hid (l.length = n) := hn
  have hn1 : (n : Int) ≤ 200 := by have := HLl.out; omega
  clear hd ho2 hn hsz2 HO1
  go_wp2_with fail
  go_loopg [17] n (fun gg s17 wx => ∃ k : Nat, k + gg = n ∧ s17 = .int .i64 k ∧ Hid (OwnX LfX 3 61 (fun _ => False) W wx (.slice a2 n c2) l))
  case atStart => exact ⟨0, by omega, rfl, HO2⟩
  case round =>
    clear HO2
    obtain ⟨k, hkg, rfl, HO⟩ := hrel
    by_cases hk : k < n
    · have hkI : (k : Int) < (n : Int) := by omega
      have hr2 : IntKind.i64.wrap ((k : Int) + 1) = (k : Int) + 1 := by rw [IntKind.wrap_i64]; omega
      obtain ⟨g, cap3, x, r, e, _, _, hglt, hx, _, hE, hcells, _, _, _⟩ := HO.out.at xok_lf (i := k) (by rw [HN.out]; exact hk)
      rw [HN.out] at e
      cases e
      obtain ⟨vr, rfl, hvr⟩ := hE
      obtain ⟨a3, n3, c3, rfl, hn3, _⟩ := (hvr.is (E' := CE) fun _ _ h => h).slice
      have m0 := (hcells 0 _ rfl).1
      rw [Nat.add_zero] at m0
      have HC : Hid (Calls Try.prog 33 #[.slice a3 n3 c3] wr (CloneAns CE 3 71 wr x.r)) := cloneR_any (hvr.is (E' := CE) fun _ _ h => h) (by have := HL.out.2 x (List.mem_of_getElem? hx); omega)
      have HX2 : Hid (l[k]? = some x ∧ g < wr.heap.size) := ⟨hx, hglt⟩
      clear hglt hx hcells hvr hn3
      go_wp2_with fail
      refine HC.out.mono ?_
      rintro e w3 ⟨⟨v3, R3, rfl, hs3, hE3, ho3⟩, hb3⟩
      obtain ⟨a4, n4, c4, rfl⟩ : ∃ a n c, v3 = .slice a n c := by rcases hs3 with ⟨rfl, _⟩ | ⟨g, c, rfl, _⟩ <;> exact ⟨_, _, _, rfl⟩
      obtain ⟨g', cap', x', r', e, _, _, _, hx', hrl', hE', hcells', _, hset, _⟩ := (HO.out.over xok_lf hb3).at xok_lf (i := k) (by rw [HN.out]; exact hk)
      rw [HN.out] at e
      cases e
      obtain rfl := Option.some.inj (HX2.out.1.symm.trans hx')
      obtain ⟨u, rfl, _⟩ := hE'
      have hc0 := hcells' 0 u rfl
      rw [Nat.add_zero] at hc0
      have k0 := hc0.1
      have k1 := hc0.2
      have HR : Hid (OwnX LfX 3 61 (fun _ => False) W (w3.setCell ⟨g, k * 3, none⟩ (.slice a4 n4 c4)) (.slice (some ⟨g, 0, none⟩) n c2) l) := by
        have := hset 0 (.slice a4 n4 c4) x (by decide) ⟨_, rfl, cloned_x hs3 hE3 ho3 (fun y hy => by
          rcases hy with hy | hy
          · have e : some g = some y := hy
            cases e; exact HX2.out.2
          · exact hy.elim)⟩
        rw [Nat.add_zero] at this
        have es : l.set k x = l := by
          apply List.ext_getElem?
          intro i
          rw [List.getElem?_set]
          by_cases ei : k = i
          · subst ei
            rw [if_pos rfl, if_pos (by rw [HN.out]; exact hk)]
            exact HX2.out.1.symm
          · rw [if_neg ei]
        rw [es] at this
        exact this
      clear hs3 hE3 ho3 hb3 hx' hrl' hcells' hset hc0 HC m0
      go_wp2_with fail
      go_roundg (n - (k + 1))
      case measure => clear hr2; omega
      case rel => exact ⟨k + 1, by clear hr2; omega, by go_num, HR⟩
    · have hkI : ¬ (k : Int) < (n : Int) := by omega
      go_wp2_with fail
      go_ret
      exact ⟨_, rfl, by rw [← HL.out.1]; exact HO.out.is xok_lf, HX.out.1.trans (HO.out.bel.mono HX.out.1.size)⟩
end Go.Proofs.Ytflabcmjbhmphaa
