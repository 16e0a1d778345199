/-
  The contract of a map's cut.
-/
import Derived.Test.YtjnobdgigeejnaaEIdx
namespace Go.Proofs.Ytjnobdgigeejnaa
open Go.RowKit

/-- What lies ahead of what is taken, and behind it. -/
def sides (h : Nat × Nat) (a c : Nat) : List (Nat × Nat) := [(h.1, a - h.1), (a + c, h.1 + h.2 - (a + c))]
def someOf (l : List (Nat × Nat)) (i : Nat) : List (Nat × Nat) := (l.take i).filter fun x => decide (0 < x.2)
theorem someOf_zero (l : List (Nat × Nat)) : someOf l 0 = [] := by simp [someOf]
theorem someOf_step (l : List (Nat × Nat)) (i : Nat) (x : Nat × Nat) (hx : l[i]? = some x) : someOf l (i + 1) = someOf l i ++ if 0 < x.2 then [x] else [] := by
  unfold someOf
  rw [List.take_add_one, hx, List.filter_append]
  congr 1
  simp only [Option.toList, List.filter_cons, List.filter_nil]
  by_cases h : 0 < x.2 <;> simp [h]
theorem someOf_sides (h : Nat × Nat) (a c : Nat) : someOf (sides h a c) 2 = rest h a c := by
  unfold someOf sides rest
  simp only [List.take_succ_cons, List.take_zero, List.filter_cons, List.filter_nil]
  by_cases h1 : h.1 < a <;> by_cases h2 : a + c < h.1 + h.2
  all_goals
    have e1 : (0 < a - h.1) = (h.1 < a) := propext ⟨fun _ => by omega, fun _ => by omega⟩
    have e2 : (0 < h.1 + h.2 - (a + c)) = (a + c < h.1 + h.2) := propext ⟨fun _ => by omega, fun _ => by omega⟩
    simp [e1, e2, h1, h2]
theorem someOf_len (l : List (Nat × Nat)) (i : Nat) : (someOf l i).length ≤ i := by
  refine Nat.le_trans (List.length_filter_le _ _) ?_
  rw [List.length_take]; omega

theorem index_0 (x1 x2 x3 x4 : Int) (W : World) : (Instr.index 70 (.agg #[.int .i64 x1, .int .i64 x2, .int .i64 x3, .int .i64 x4]) (.int .i64 0)).run Try.prog W = .ok (.agg #[.int .i64 x1, .int .i64 x2]) W := by
  have h := sizeOf_ext
  simp [Instr.index, run_underlying Try.underlying70, asIntOf, h, go_sem]
theorem index_1 (x1 x2 x3 x4 : Int) (W : World) : (Instr.index 70 (.agg #[.int .i64 x1, .int .i64 x2, .int .i64 x3, .int .i64 x4]) (.int .i64 1)).run Try.prog W = .ok (.agg #[.int .i64 x3, .int .i64 x4]) W := by
  have h := sizeOf_ext
  simp [Instr.index, run_underlying Try.underlying70, asIntOf, h, go_sem]
/-- What a call leaves of a map: it may lie elsewhere. -/
def MapTo (w : World) (p g n : Nat) (hs : List (Nat × Nat)) (w' : World) : Prop := ∃ g' cap', MapIs w' p g' n cap' hs ∧ (g' = g ∨ w.heap.size ≤ g') ∧ Kept (fun x => x = p ∨ x = g) w w'

/-- Behind Replace and the store of what it returns. -/
theorem map_stored {w w0 w1 : World} {p g n cap g' cap' : Nat} {hs0 hs : List (Nat × Nat)} (M : MapIs w0 p g n cap hs0) (hb : Below w.heap.size w w0) (h1 : SRows w1 (.slice (some ⟨g', 0, none⟩) hs.length cap') 32 2 (hs.map ec)) (h2 : g' = g ∨ w0.heap.size ≤ g') (h3 : Kept (fun y => y = g) w0 w1) (hn : Nice 0 hs) (hw : Within n hs) :
    MapTo w p g n hs (w1.setCell ⟨p, 1, none⟩ (.slice (some ⟨g', 0, none⟩) hs.length cap')) := by
  have hlt := M.ltp
  have hne : p ≠ g' := by
    rcases h2 with e | h
    · rw [e]; exact M.ne
    · omega
  have hbox := M.box.kept h3 M.ne
  have hsz := hb.size
  refine ⟨g', cap', { box := hbox.set 1 _, rows := h1.of_block (fun k hk => ?_), ne := hne, nice := hn, within := hw, n1 := M.n1, n2 := M.n2 }, ?_, ?_⟩
  · simp [Value.ownBlock] at hk
    subst hk
    exact heap_setCell_other w1 _ _ _ (fun e => hne e.symm)
  · rcases h2 with e | h
    · exact .inl e
    · exact .inr (by omega)
  · refine Kept.setCell ?_ (.inl (.inl rfl)) _
    refine (kept_of_below (fun x => x = p ∨ x = g) hb).trans h3 (fun x hx => .inl (.inr hx))

set_option maxRecDepth 4000 in
set_option maxHeartbeats 4000000 in
theorem cut_any {w : World} {p g n cap : Nat} {A B : List (Nat × Nat)} {h : Nat × Nat} (M : MapIs w p g n cap (A ++ h :: B)) (a c : Nat) (h1 : h.1 ≤ a) (hc : 1 ≤ c) (h2 : a + c ≤ h.1 + h.2) :
    Calls Try.prog 28 #[.pointer (some ⟨p, 0, none⟩), .int .i64 A.length, .agg #[.int .i64 a, .int .i64 c]] w fun e w' => e = .returned (.tuple #[]) ∧ MapTo w p g n (A ++ (rest h a c ++ B)) w' := by
  obtain ⟨q, hq⟩ : ∃ q, q = (A ++ h :: B).length := ⟨_, rfl⟩
  obtain ⟨k, hk⟩ : ∃ k, k = A.length := ⟨_, rfl⟩
  have hx : (A ++ h :: B)[k]? = some h := by rw [hk, List.getElem?_append_right (Nat.le_refl _)]; simp
  have hkq : k < q := by rw [hk, hq, List.length_append, List.length_cons]; omega
  have hfew := M.few
  have hn2 := M.n2
  have hin := M.within h (List.mem_of_getElem? hx)
  rw [← hq] at hfew
  rw [← hk]
  have hb1 := below1 w (.cells #[.int .i64 a, .int .i64 c] 32)
  have M1 := M.over hb1
  have c1 := M1.c1
  obtain ⟨e0, e1⟩ := row_cells M1.rows hx
  rw [← hq] at c1
  have hkI : (k : Int) < (q : Int) := by omega
  obtain ⟨u, hu⟩ : ∃ u, u = a + c := ⟨_, rfl⟩
  obtain ⟨v, hv⟩ : ∃ v, v = h.1 + h.2 := ⟨_, rfl⟩
  obtain ⟨s1, hs1⟩ : ∃ s1, s1 = a - h.1 := ⟨_, rfl⟩
  obtain ⟨s2, hs2⟩ : ∃ s2, s2 = v - u := ⟨_, rfl⟩
  have ca1 := fun W => between_any h.1 a s1 W (by rw [IntKind.wrap_i64]; omega)
  have ca2 := fun W => end_any a c u W (by rw [IntKind.wrap_i64]; omega)
  have ca3 := fun W => end_any h.1 h.2 v W (by rw [IntKind.wrap_i64]; omega)
  have ca4 := fun W => between_any u v s2 W (by rw [IntKind.wrap_i64]; omega)
  have HS : Hid (sides h a c = [(h.1, s1), (u, s2)] ∧ s1 ≤ 4096 ∧ s2 ≤ 4096) := ⟨by unfold sides; rw [hs2, hs1, hu, hv], by omega, by omega⟩
  have HM : Hid (MapIs w p g n cap (A ++ h :: B) ∧ q = (A ++ h :: B).length ∧ k = A.length) := ⟨M, hq, hk⟩
  have HN : Hid (h.1 ≤ a ∧ 1 ≤ c ∧ a + c ≤ h.1 + h.2 ∧ q ≤ 4096) := ⟨h1, hc, h2, by omega⟩
  clear M hq hk hx M1 hb1 h1 hc h2 hin hn2 hu hv hs1 hs2
  go_enter Try.func28, Try.ntmps28
  go_wp2_with fail
  clear c1 e0 e1
  obtain ⟨W, hW⟩ : ∃ W, W = (w.alloc (.cells #[.int .i64 (a : Int), .int .i64 (c : Int)] 32)).alloc (.cells #[.int .i64 (h.1 : Int), .int .i64 (h.2 : Int)] 32) := ⟨_, rfl⟩
  have hb2 : Below w.heap.size w W := by rw [hW]; exact below2 w _ _
  have B0 : Box W w.heap.size 32 #[.int .i64 a, .int .i64 c] := by rw [hW]; exact box_old w _ _ _
  have B1 : Box W (w.heap.size + 1) 32 #[.int .i64 h.1, .int .i64 h.2] := by
    rw [hW]
    have := box_new (w.alloc (.cells #[.int .i64 (a : Int), .int .i64 (c : Int)] 32)) #[.int .i64 h.1, .int .i64 h.2] 32
    rw [World.size_alloc] at this
    exact this
  have x0 := above_cell (B0.cell 0 _ rfl)
  have x1 := above_cell (B0.cell 1 _ rfl)
  have x2 := above_cell (B1.cell 0 _ rfl)
  have x3 := above_cell (B1.cell 1 _ rfl)
  rw [← hW]
  have HB2 : Hid (Below w.heap.size w W) := hb2
  clear hW hb2 B0 B1
  refine wp_region_above (by kernel_rfl) (by kernel_rfl) ?_
  intro hne
  repeat (go_big_quiet_step (first
    | (go_at_call 24; first | with_reducible exact above_of (ca1 _) | with_reducible exact above_of (ca4 _))
    | (go_at_call 34; first | with_reducible exact above_of (ca2 _) | with_reducible exact above_of (ca3 _))))
  refine wpQuiet_nil ?_
  rintro _ ⟨kq, rfl⟩
  have hbq := HB2.out.trans (kq.is.mono HB2.out.size)
  obtain ⟨W3, hW3⟩ : ∃ W3, W3 = kq.it := ⟨_, rfl⟩
  rw [← hW3] at hbq
  rw [← hW3]
  have HB3 : Hid (Below w.heap.size w W3) := hbq
  clear hW3 hbq x0 x1 x2 x3 ca1 ca2 ca3 ca4 hne HB2 kq W
  go_wp2_with fail
  obtain ⟨i0, hi0, hz0, hz1, hz2⟩ := info_parts info_ext
  have HI : Hid (Try.prog.info? 32 = some i0 ∧ i0.zero = some (.agg #[.int .i64 0, .int .i64 0]) ∧ i0.size = 2 ∧ i0.bytes = 16) := ⟨hi0, hz0, hz1, hz2⟩
  clear hi0 hz0 hz1 hz2
  go_loopg [7, 28] 2 (fun gg s7 s28 wx => ∃ (i : Nat) (va : Option Addr) (vc : Nat), i + gg = 2 ∧ s28 = .int .i64 i ∧ s7 = .slice va (someOf (sides h a c) i).length vc ∧ SRows wx (.slice va (someOf (sides h a c) i).length vc) 32 2 ((someOf (sides h a c) i).map ec) ∧ (∀ x, (Value.slice va (someOf (sides h a c) i).length vc).ownBlock = some x → W3.heap.size ≤ x) ∧ Below W3.heap.size W3 wx)
  case atStart =>
    exact ⟨0, none, 0, by omega, rfl, by rw [someOf_zero]; rfl, by rw [someOf_zero]; exact srows_nil _ _ _, by rw [someOf_zero]; exact noOwn _, Below.refl _ _⟩
  case round =>
    obtain ⟨i, va, vc, hig, rfl, rfl, hsr, hown, hbel⟩ := hrel
    have hix0 := fun W => index_0 h.1 s1 u s2 W
    have hix1 := fun W => index_1 h.1 s1 u s2 W
    rcases (show i = 0 ∨ i = 1 ∨ i = 2 by omega) with rfl | rfl | rfl
    · have hst := someOf_step (sides h a c) 0 (h.1, s1) (by rw [HS.out.1]; rfl)
      have HST : Hid (someOf (sides h a c) (0 + 1) = someOf (sides h a c) 0 ++ if 0 < s1 then [(h.1, s1)] else []) := hst
      clear hst
      obtain ⟨m, hm⟩ : ∃ m, m = (someOf (sides h a c) 0).length := ⟨_, rfl⟩
      rw [← hm] at hsr hown ⊢
      have hm2 : m ≤ 0 := by rw [hm]; exact someOf_len _ _
      have HB4 : Hid (Below W3.heap.size W3 wr ∧ m = (someOf (sides h a c) 0).length) := ⟨hbel, hm⟩
      have HV : Hid (SRows wr (.slice va m vc) 32 2 ((someOf (sides h a c) 0).map ec) ∧ ∀ x, (Value.slice va m vc).ownBlock = some x → W3.heap.size ≤ x) := ⟨hsr, hown⟩
      have hsz : W3.heap.size ≤ wr.heap.size := hbel.size
      clear hsr hown hbel hm
      by_cases hpos : 0 < s1
      · have hposI : (0 : Int) < (s1 : Int) := by omega
        have HP : Hid (0 < s1) := hpos
        have b2 := below2 wr (.cells #[.int .i64 (h.1 : Int), .int .i64 (s1 : Int)] 32) (.cells #[.int .i64 (h.1 : Int), .int .i64 (s1 : Int)] 32)
        have HU := srows_new (wr.alloc (.cells #[.int .i64 (h.1 : Int), .int .i64 (s1 : Int)] 32)) (ec (h.1, s1)) 32 (ec_len _)
        rw [World.size_alloc] at HU
        have HU : Hid (SRows ((wr.alloc (.cells #[.int .i64 (h.1 : Int), .int .i64 (s1 : Int)] 32)).alloc (.cells #[.int .i64 (h.1 : Int), .int .i64 (s1 : Int)] 32)) (.slice (some ⟨wr.heap.size + 1, 0, none⟩) 1 1) 32 2 [ec (h.1, s1)]) := HU
        have HV2 : Hid (SRows ((wr.alloc (.cells #[.int .i64 (h.1 : Int), .int .i64 (s1 : Int)] 32)).alloc (.cells #[.int .i64 (h.1 : Int), .int .i64 (s1 : Int)] 32)) (.slice va m vc) 32 2 ((someOf (sides h a c) 0).map ec)) := HV.out.1.of_block (fun k hk => b2.block k (HV.out.1.lt hk))
        have HA : Hid (((someOf (sides h a c) 0).map ec).length + 1 = m + 1 ∧ m + 1 ≤ 1000000 ∧ (someOf (sides h a c) 0).map ec ++ [ec (h.1, s1)] = (someOf (sides h a c) (0 + 1)).map ec ∧ (someOf (sides h a c) (0 + 1)).length = m + 1) := ⟨by rw [List.length_map, ← HB4.out.2], by omega, by rw [HST.out, if_pos HP.out, List.map_append]; rfl, by rw [HST.out, if_pos HP.out, List.length_append, ← HB4.out.2]; rfl⟩
        have HB5 : Hid (Below W3.heap.size W3 ((wr.alloc (.cells #[.int .i64 (h.1 : Int), .int .i64 (s1 : Int)] 32)).alloc (.cells #[.int .i64 (h.1 : Int), .int .i64 (s1 : Int)] 32)) ∧ W3.heap.size ≤ ((wr.alloc (.cells #[.int .i64 (h.1 : Int), .int .i64 (s1 : Int)] 32)).alloc (.cells #[.int .i64 (h.1 : Int), .int .i64 (s1 : Int)] 32)).heap.size) := ⟨HB4.out.1.trans (b2.mono hsz), by simp; omega⟩
        clear b2 hpos
        go_wp2_with (at_builtin; refine append_rows rfl _ _ 45 32 i0 _ 2 16 rfl Try.underlying45 HI.out.1 HI.out.2.1 HI.out.2.2.1 HI.out.2.2.2 rfl (by decide) (by decide) rfl rfl HV2.out HU.out HV.out.2 HB5.out.2 (one_row (ecs_one [(h.1, s1)] _ (by simp)) rfl) (m + 1) HA.out.1 ((someOf (sides h a c) (0 + 1)).map ec) HA.out.2.2.1 HA.out.2.1 ?_; intro va' vc' w' h5 h6 h7; have H5 : Hid (SRows w' (.slice va' (m + 1) vc') 32 2 ((someOf (sides h a c) (0 + 1)).map ec) ∧ (∀ x, (Value.slice va' (m + 1) vc').ownBlock = some x → W3.heap.size ≤ x) ∧ Below W3.heap.size W3 w') := (⟨h5, h6, HB5.out.1.trans h7⟩); clear h5 h6 h7)
        go_roundg (2 - (0 + 1))
        case measure => omega
        case rel =>
          refine ⟨0 + 1, va', vc', by omega, by go_num, by rw [HA.out.2.2.2], ?_, ?_, H5.out.2.2⟩
          · rw [HA.out.2.2.2]; exact H5.out.1
          · rw [HA.out.2.2.2]; exact H5.out.2.1
      · have hposI : ¬ (0 : Int) < (s1 : Int) := by omega
        have HP : Hid (¬ 0 < s1) := hpos
        have b1 := below1 wr (.cells #[.int .i64 (h.1 : Int), .int .i64 (s1 : Int)] 32)
        have HA : Hid (someOf (sides h a c) (0 + 1) = someOf (sides h a c) 0) := by show _ = _; rw [HST.out, if_neg HP.out, List.append_nil]
        have H5 : Hid (SRows (wr.alloc (.cells #[.int .i64 (h.1 : Int), .int .i64 (s1 : Int)] 32)) (.slice va m vc) 32 2 ((someOf (sides h a c) 0).map ec) ∧ Below W3.heap.size W3 (wr.alloc (.cells #[.int .i64 (h.1 : Int), .int .i64 (s1 : Int)] 32))) := ⟨HV.out.1.of_block (fun k hk => b1.block k (HV.out.1.lt hk)), HB4.out.1.trans (b1.mono hsz)⟩
        clear b1 hpos
        go_wp2_with fail
        go_roundg (2 - (0 + 1))
        case measure => omega
        case rel =>
          refine ⟨0 + 1, va, vc, by omega, by go_num, by rw [HA.out, ← HB4.out.2], ?_, ?_, H5.out.2⟩
          · rw [HA.out, ← HB4.out.2]; exact H5.out.1
          · rw [HA.out, ← HB4.out.2]; exact HV.out.2
    · have hst := someOf_step (sides h a c) 1 (u, s2) (by rw [HS.out.1]; rfl)
      have HST : Hid (someOf (sides h a c) (1 + 1) = someOf (sides h a c) 1 ++ if 0 < s2 then [(u, s2)] else []) := hst
      clear hst
      obtain ⟨m, hm⟩ : ∃ m, m = (someOf (sides h a c) 1).length := ⟨_, rfl⟩
      rw [← hm] at hsr hown ⊢
      have hm2 : m ≤ 1 := by rw [hm]; exact someOf_len _ _
      have HB4 : Hid (Below W3.heap.size W3 wr ∧ m = (someOf (sides h a c) 1).length) := ⟨hbel, hm⟩
      have HV : Hid (SRows wr (.slice va m vc) 32 2 ((someOf (sides h a c) 1).map ec) ∧ ∀ x, (Value.slice va m vc).ownBlock = some x → W3.heap.size ≤ x) := ⟨hsr, hown⟩
      have hsz : W3.heap.size ≤ wr.heap.size := hbel.size
      clear hsr hown hbel hm
      by_cases hpos : 0 < s2
      · have hposI : (0 : Int) < (s2 : Int) := by omega
        have HP : Hid (0 < s2) := hpos
        have b2 := below2 wr (.cells #[.int .i64 (u : Int), .int .i64 (s2 : Int)] 32) (.cells #[.int .i64 (u : Int), .int .i64 (s2 : Int)] 32)
        have HU := srows_new (wr.alloc (.cells #[.int .i64 (u : Int), .int .i64 (s2 : Int)] 32)) (ec (u, s2)) 32 (ec_len _)
        rw [World.size_alloc] at HU
        have HU : Hid (SRows ((wr.alloc (.cells #[.int .i64 (u : Int), .int .i64 (s2 : Int)] 32)).alloc (.cells #[.int .i64 (u : Int), .int .i64 (s2 : Int)] 32)) (.slice (some ⟨wr.heap.size + 1, 0, none⟩) 1 1) 32 2 [ec (u, s2)]) := HU
        have HV2 : Hid (SRows ((wr.alloc (.cells #[.int .i64 (u : Int), .int .i64 (s2 : Int)] 32)).alloc (.cells #[.int .i64 (u : Int), .int .i64 (s2 : Int)] 32)) (.slice va m vc) 32 2 ((someOf (sides h a c) 1).map ec)) := HV.out.1.of_block (fun k hk => b2.block k (HV.out.1.lt hk))
        have HA : Hid (((someOf (sides h a c) 1).map ec).length + 1 = m + 1 ∧ m + 1 ≤ 1000000 ∧ (someOf (sides h a c) 1).map ec ++ [ec (u, s2)] = (someOf (sides h a c) (1 + 1)).map ec ∧ (someOf (sides h a c) (1 + 1)).length = m + 1) := ⟨by rw [List.length_map, ← HB4.out.2], by omega, by rw [HST.out, if_pos HP.out, List.map_append]; rfl, by rw [HST.out, if_pos HP.out, List.length_append, ← HB4.out.2]; rfl⟩
        have HB5 : Hid (Below W3.heap.size W3 ((wr.alloc (.cells #[.int .i64 (u : Int), .int .i64 (s2 : Int)] 32)).alloc (.cells #[.int .i64 (u : Int), .int .i64 (s2 : Int)] 32)) ∧ W3.heap.size ≤ ((wr.alloc (.cells #[.int .i64 (u : Int), .int .i64 (s2 : Int)] 32)).alloc (.cells #[.int .i64 (u : Int), .int .i64 (s2 : Int)] 32)).heap.size) := ⟨HB4.out.1.trans (b2.mono hsz), by simp; omega⟩
        clear b2 hpos
        go_wp2_with (at_builtin; refine append_rows rfl _ _ 45 32 i0 _ 2 16 rfl Try.underlying45 HI.out.1 HI.out.2.1 HI.out.2.2.1 HI.out.2.2.2 rfl (by decide) (by decide) rfl rfl HV2.out HU.out HV.out.2 HB5.out.2 (one_row (ecs_one [(u, s2)] _ (by simp)) rfl) (m + 1) HA.out.1 ((someOf (sides h a c) (1 + 1)).map ec) HA.out.2.2.1 HA.out.2.1 ?_; intro va' vc' w' h5 h6 h7; have H5 : Hid (SRows w' (.slice va' (m + 1) vc') 32 2 ((someOf (sides h a c) (1 + 1)).map ec) ∧ (∀ x, (Value.slice va' (m + 1) vc').ownBlock = some x → W3.heap.size ≤ x) ∧ Below W3.heap.size W3 w') := (⟨h5, h6, HB5.out.1.trans h7⟩); clear h5 h6 h7)
        go_roundg (2 - (1 + 1))
        case measure => omega
        case rel =>
          refine ⟨1 + 1, va', vc', by omega, by go_num, by rw [HA.out.2.2.2], ?_, ?_, H5.out.2.2⟩
          · rw [HA.out.2.2.2]; exact H5.out.1
          · rw [HA.out.2.2.2]; exact H5.out.2.1
      · have hposI : ¬ (0 : Int) < (s2 : Int) := by omega
        have HP : Hid (¬ 0 < s2) := hpos
        have b1 := below1 wr (.cells #[.int .i64 (u : Int), .int .i64 (s2 : Int)] 32)
        have HA : Hid (someOf (sides h a c) (1 + 1) = someOf (sides h a c) 1) := by show _ = _; rw [HST.out, if_neg HP.out, List.append_nil]
        have H5 : Hid (SRows (wr.alloc (.cells #[.int .i64 (u : Int), .int .i64 (s2 : Int)] 32)) (.slice va m vc) 32 2 ((someOf (sides h a c) 1).map ec) ∧ Below W3.heap.size W3 (wr.alloc (.cells #[.int .i64 (u : Int), .int .i64 (s2 : Int)] 32))) := ⟨HV.out.1.of_block (fun k hk => b1.block k (HV.out.1.lt hk)), HB4.out.1.trans (b1.mono hsz)⟩
        clear b1 hpos
        go_wp2_with fail
        go_roundg (2 - (1 + 1))
        case measure => omega
        case rel =>
          refine ⟨1 + 1, va, vc, by omega, by go_num, by rw [HA.out, ← HB4.out.2], ?_, ?_, H5.out.2⟩
          · rw [HA.out, ← HB4.out.2]; exact H5.out.1
          · rw [HA.out, ← HB4.out.2]; exact HV.out.2
    · have hm2 := someOf_len (sides h a c) 2
      rw [someOf_sides] at hsr hown hm2 ⊢
      obtain ⟨m, hm⟩ : ∃ m, m = (rest h a c).length := ⟨_, rfl⟩
      rw [← hm] at hsr hown hm2 ⊢
      have hbw := HB3.out.trans (hbel.mono HB3.out.size)
      have M4 := HM.out.1.over hbw
      have c1 := M4.c1
      have hrows := M4.rows
      rw [← HM.out.2.1] at c1 hrows
      have hg3 : g < W3.heap.size := Nat.lt_of_lt_of_le HM.out.1.ltg HB3.out.size
      have hZ : ((A ++ h :: B).map ec).take k ++ ((rest h a c).map ec ++ ((A ++ h :: B).map ec).drop (k + 1)) = (A ++ (rest h a c ++ B)).map ec := by
        rw [HM.out.2.2, List.map_append, List.map_cons, List.map_append, List.map_append]
        rw [List.take_left' (by simp), List.drop_append, List.length_map, List.drop_of_length_le (by simp)]
        simp
      have cr := rep_cut (i := k) (Z := (A ++ (rest h a c ++ B)).map ec) hrows hsr (fun x hx => by
        have := hown x.block (by rw [hx]; rfl)
        omega) (ecs_one _) (ecs_one _) (by have := HN.out; omega) hm2 hkq hZ
      rw [List.length_map] at cr
      have hr1 : IntKind.i64.wrap ((k : Int) + 1) = ((k + 1 : Nat) : Int) := by rw [IntKind.wrap_i64]; have := HN.out; omega
      have HBW : Hid (Below w.heap.size w wr ∧ MapIs wr p g n cap (A ++ h :: B)) := ⟨hbw, M4⟩
      have hp3 := M4.box.frozen 1
      clear hrows hsr hown hbel hZ hbw M4 hg3 hm hix0 hix1
      go_wp2_with fail
      rw [show ((k + 1 : Nat) : Int) = (k : Int) + 1 by omega] at cr
      refine cr.mono ?_
      rintro e w1 ⟨g', cap', rfl, i1, i2, i3⟩
      have hpc : w1.cell? ⟨p, 1, none⟩ = some (.slice (some ⟨g, 0, none⟩) (A ++ h :: B).length cap) := (HBW.out.2.box.kept i3 HBW.out.2.ne).cell 1 _ rfl
      have hpf : w1.frozen? ⟨p, 1, none⟩ = false := (HBW.out.2.box.kept i3 HBW.out.2.ne).frozen 1
      have hend := map_stored HBW.out.2 HBW.out.1 i1 i2 i3 (cut_nice HM.out.1.nice HN.out.1 HN.out.2.1 HN.out.2.2.1) (cut_within HM.out.1.within HN.out.1 HN.out.2.2.1)
      obtain ⟨z, hz⟩ : ∃ z, z = (A ++ (rest h a c ++ B)).length := ⟨_, rfl⟩
      rw [← hz] at hend ⊢
      have HE : Hid (MapTo w p g n (A ++ (rest h a c ++ B)) (w1.setCell ⟨p, 1, none⟩ (.slice (some ⟨g', 0, none⟩) z cap'))) := hend
      clear i1 i2 i3 hend cr hr1 hz c1
      go_wp2_with fail
      refine bodyPost_end (results_none rfl _ _ _) rfl ?_
      exact ⟨rfl, HE.out⟩
end Go.Proofs.Ytjnobdgigeejnaa
