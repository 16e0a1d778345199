/-
  1 texts, one behind the other: XIter.
-/
import Derived.Test.YtdjobjbkpagnaaaGreatJoin5
import Derived.Test.YtdjobjbkpagnaaaGreatShelf
import Derived.Sort.OwnSortedInts
import Derived.RangeFuncNested
import Derived.RangeFuncBound
import Derived.RangeFuncCalls
import Derived.RangeFuncLeaves
import Derived.RangeFuncBox
import Derived.Shelf.Abstract
import Derived.Shelf.RegionOpen
import Derived.OwnWalkIn
import Derived.TacticsInMore
import Derived.LoopNIn
import Derived.LoopIn
/-
  The contracts of slices.Values of ints, of AppendSeq, Collect and Sorted over what it made.
-/
namespace Go.Proofs.YtdjobjbkpagnaaaGreat
open Go.RowKit Go.Shelf Go.Sort
attribute [local go_sem] Oper.semAt_some

abbrev encN (x : BitVec 64) : Array Value := #[.int .i64 x.toInt]
theorem kept_cell {F : Nat → Prop} {w w' : World} {a : Addr} {v : Value} (k : Kept F w w') (h : w.cell? a = some v) (hF : ¬ F a.block) : w'.cell? a = some v := by
  rw [World.cell?_of_block (k.block a.block (World.block_lt_of_cell? w a h) hF)]; exact h
set_option maxRecDepth 100000 in
set_option maxHeartbeats 4000000 in
theorem vals1_in (n : Nat) (hn : 1 ≤ n) (l Bv : Nat) (Fk : Nat → Prop) (we : World) {v : Value} {xs : List (BitVec 64)} (hs : IntsIs we v xs) (hl : xs.length ≤ 1000000)
    (hF : ∀ k, Fk k → we.heap.size ≤ k) (hFv : ¬ Fk Bv) (J Jx : List (BitVec 64) → World → Prop)
    (hY : ∀ pre x W, J pre W → pre.length < 1000000 → YieldAt Fence.wide (n - 1) Tryz.prog l (encN x) W fun e W' =>
      (e = .returned (.bool true) ∧ J (pre ++ [x]) W' ∧ Kept Fk W W') ∨ (e = .returned (.bool false) ∧ Jx (pre ++ [x]) W'))
    (W : World) (hW : Below we.heap.size we W) (hBv : W.cell? ⟨Bv, 0, none⟩ = some v) (h0 : J [] W) :
    CallsIn Fence.wide n Tryz.prog 81 #[.func (.yield l) #[] #[], .pointer (some ⟨Bv, 0, none⟩)] W fun e W' => (∃ v, e = .returned v) ∧
      ((∃ ys, ys = xs ∧ J ys W') ∨ (∃ pre, Jx pre W')) := by
  obtain ⟨a, m, cap, rfl, hm, hcap⟩ := hs.slice
  have hm1 : (m : Int) ≤ 1000000 := by omega
  have HS : Hid (IntsIs we (.slice a m cap) xs ∧ xs.length = m) := ⟨hs, hm⟩
  have HF : Hid ((∀ k, Fk k → we.heap.size ≤ k) ∧ ¬ Fk Bv) := ⟨hF, hFv⟩
  have HY : Hid (∀ pre x W, J pre W → pre.length < 1000000 → YieldAt Fence.wide (n - 1) Tryz.prog l (encN x) W fun e W' =>
      (e = .returned (.bool true) ∧ J (pre ++ [x]) W' ∧ Kept Fk W W') ∨ (e = .returned (.bool false) ∧ Jx (pre ++ [x]) W')) := hY
  clear hs hl hm hF hFv hY
  refine callsIn_of_wp Tryz.func81 rfl trivial ?_ rfl
  simp only [Tryz.ntmps81, List.size_toArray, List.length_cons, List.length_nil, Nat.reduceAdd, Nat.reduceSub, Array.replicate_succ, Array.replicate_zero, List.push_toArray, List.append_toArray, List.nil_append, List.cons_append]
  gi_wp2
  gi_loopw [7] (fun i wr => ∃ k : Nat, k ≤ m ∧ i = .int .i64 (k : Int) ∧ Hid (J (xs.take k) wr ∧ Below we.heap.size we wr))
    (fun i _ => m - (intOf i).toNat)
  case atStart => exact ⟨0, by omega, rfl, ⟨by rw [List.take_zero]; exact h0, hW⟩⟩
  case round =>
    obtain ⟨k, hkm, rfl, HJ⟩ := hrel
    clear h0 hW hBv
    by_cases hk : k < m
    · have hkI : (k : Int) < (m : Int) := by omega
      have hr2 : IntKind.i64.wrap ((k : Int) + 1) = (k : Int) + 1 := by rw [IntKind.wrap_i64]; omega
      obtain ⟨x, b, off, hx, rfl, c0⟩ := at1I (HS.out.1.over stays_int HJ.out.2) hk
      have HX : Hid (xs[k]? = some x) := hx
      clear hx
      obtain ⟨fn, tmps, assign, body, hy, hR⟩ := HY.out _ x wr HJ.out.1 (by rw [List.length_take]; omega)
      dsimp only [encN] at hy
      gi_wp2
      refine hR.mono ?_
      rintro e W3 (⟨rfl, hJ3, hk3⟩ | ⟨rfl, hJx3⟩)
      · gi_wp2
        go_roundw
        case rel => exact ⟨k + 1, by clear hr2; omega, by go_num, ⟨by rw [take_succ_of HX.out]; exact hJ3, HJ.out.2.trans (hk3.below HF.out.1 HJ.out.2.size)⟩⟩
        case measure =>
          clear hr2
          simp [intOf]
          omega
      · gi_wp2
        refine bodyPost_ret (results_none rfl _ _ _) rfl ?_
        exact ⟨⟨_, rfl⟩, .inr ⟨_, hJx3⟩⟩
    · have hkI : ¬ (k : Int) < (m : Int) := by omega
      gi_wp2
      go_end0
      exact ⟨⟨_, rfl⟩, .inl (by have := HJ.out.1; rwa [List.take_of_length_le (by rw [HS.out.2]; omega)] at this)⟩
theorem vals_stops (n : Nat) (hn : 1 ≤ n) (Bv : Nat) (Fk : Nat → Prop) (we : World) {v : Value} {xs : List (BitVec 64)} (hs : IntsIs we v xs) (hl : xs.length ≤ 1000000)
    (hF : ∀ k, Fk k → we.heap.size ≤ k) (hFv : ¬ Fk Bv) (w : World) (hW : Below we.heap.size we w) (hBv : w.cell? ⟨Bv, 0, none⟩ = some v) :
    SeqStopsK Fence.wide n Tryz.prog 81 #[.pointer (some ⟨Bv, 0, none⟩)] encN (Kept Fk) (fun ys => ys = xs) (fun _ => True) 1000000 w := fun l J Jx W hb _ _ hY h0 => by
  refine (vals1_in n hn l Bv Fk we hs hl hF hFv J Jx hY W (hW.trans (hb.mono hW.size)) ((hb.cell (p := ⟨Bv, 0, none⟩) (World.block_lt_of_cell? w _ hBv)).trans hBv) h0).mono ?_
  rintro e W' ⟨he, ⟨ys, hy, hj⟩ | ⟨pre, hj⟩⟩
  · exact ⟨he, .inl ⟨ys, hy, hj⟩⟩
  · exact ⟨he, .inr ⟨pre, trivial, hj⟩⟩

/-- The box behind an append to the row that it holds. -/
theorem app_box {W w1 : World} {tmp : Obj} {s N : Nat} {t1 : TypeId} {v : Value} (hg : (W.alloc tmp).grownBy w1 v.ownBlock) (h1 : Boxed W s t1 v) (hv : ∀ k, v.ownBlock = some k → N ≤ k) (hN : s < N) : Boxed w1 s t1 v :=
  (h1.alloc tmp).kept hg (fun e => by have := hv s e.symm; omega)
theorem row_other {W : World} {N n : Nat} {t : TypeId} {size : Nat} {v u : Value} {xs : List Value} {b : Nat} (h : W.ownsRow N t size v n xs) (hb : b < N) : (W.setCell ⟨b, 0, none⟩ u).ownsRow N t size v n xs :=
  h.kept (grownBy_setCell' W b u) (by
    cases e : v.ownBlock with
    | none => left; rfl
    | some k => right; intro e2; cases e2; have := (h.lt b e).1; omega)
theorem app_keeps {W w1 : World} {tmp : Obj} {N n : Nat} {t : TypeId} {size : Nat} {v : Value} {xs : List Value} (hrow : W.ownsRow N t size v n xs) (hgrow : (W.alloc tmp).grownBy w1 v.ownBlock) : KeepsOthers W w1 := by
  refine (KeepsOthers.alloc W tmp).trans (KeepsOthers.of_grownBy hgrow fun j o ej hj => ?_)
  rcases (hrow.alloc tmp).2 with ⟨rfl, _⟩ | ⟨g, cap, cur, rfl, _, hgb, _⟩
  · simp [Value.ownBlock] at ej
  · obtain rfl : g = j := by simpa [Value.ownBlock] using ej
    rw [hgb] at hj; cases hj; rfl
theorem ownsRow_succ {W : World} {B : Nat} {e : TypeId} {size : Nat} {v : Value} {n : Nat} {xs : List Value} (h : W.ownsRow B e size v (n + 1) xs) : ∃ g cap, v = .slice (some ⟨g, 0, none⟩) (n + 1) cap := by
  rcases h.2 with ⟨_, h0⟩ | ⟨g, cap, cur, rfl, _⟩
  · omega
  · exact ⟨g, cap, rfl⟩
theorem iv_snoc (l : List (BitVec 64)) (x : BitVec 64) : iv (l ++ [x]) = iv l ++ [.int .i64 x.toInt] := by simp [iv]

set_option maxRecDepth 100000 in
set_option maxHeartbeats 4000000 in
theorem appendSeq_any {w : World} {v : Value} {xs : List (BitVec 64)} (hs : IntsIs w v xs) (hl : xs.length ≤ 1000000) (Bv : Nat) (hBv : w.cell? ⟨Bv, 0, none⟩ = some v) :
    Calls Tryz.prog 121 #[.slice none 0 0, .func (.func 81) #[] #[.pointer (some ⟨Bv, 0, none⟩)]] w fun e w' => (∃ v', e = .returned v' ∧ OwnsI w' w.heap.size v' xs) ∧ Below w.heap.size w w' := by
  obtain ⟨i0, hi0, hz0, hz1, hz2⟩ := info_parts info_i64
  have HI : Hid (Tryz.prog.info? 3 = some i0 ∧ i0.zero = some (.int .i64 0) ∧ i0.size = 1 ∧ i0.bytes = 8) := ⟨hi0, hz0, hz1, hz2⟩
  have hlt := World.block_lt_of_cell? w _ hBv
  have HS : Hid (IntsIs w v xs ∧ xs.length ≤ 1000000 ∧ w.cell? ⟨Bv, 0, none⟩ = some v ∧ Bv < w.heap.size) := ⟨hs, hl, hBv, hlt⟩
  clear hs hl hBv hlt hi0 hz0 hz1 hz2
  refine (callsIn_wide (n := 6)).1 ?_
  refine callsIn_of_wp_marks Tryz.func121 rfl trivial ?_ rfl
  simp only [Tryz.ntmps121, List.size_toArray, List.length_cons, List.length_nil, Nat.reduceAdd, Nat.reduceSub, Array.replicate_succ, Array.replicate_zero, List.push_toArray, List.append_toArray, List.nil_append, List.cons_append]
  gi_wp2_with fail
  have bS := Boxed.new w 24 (.slice none 0 0)
  have hW0 := below1 w (.cells #[.slice none 0 0] 24)
  have hsz : (w.alloc (.cells #[.slice none 0 0] 24)).heap.size = w.heap.size + 1 := by simp
  have hB0 := (hW0.cell (p := ⟨Bv, 0, none⟩) HS.out.2.2.2).trans HS.out.2.2.1
  generalize w.alloc (.cells #[.slice none 0 0] 24) = W0 at *
  obtain ⟨s2, hs2⟩ : ∃ s2, s2 = w.heap.size := ⟨_, rfl⟩
  rw [← hs2] at bS hsz
  rw [← hs2]
  have HZ : Hid (s2 = w.heap.size ∧ W0.heap.size = s2 + 1 ∧ Bv < s2) := ⟨hs2, hsz, by rw [hs2]; exact HS.out.2.2.2⟩
  have hseq := vals_stops 5 (by omega) Bv (fun k => k = s2 ∨ W0.heap.size ≤ k) w HS.out.1 HS.out.2.1 (fun k hk => by have := HZ.out; omega) (by have := HZ.out; omega) W0 hW0 hB0
  clear hs2 hsz hB0
  refine wpIn_rangeFunc_ownH rfl (by omega) (gf := 81) (lb := #[.pointer (some ⟨Bv, 0, none⟩)]) rfl trivial (enters_of Tryz.func81 (by kernel_rfl) rfl)
    hseq (fun h k => h.trans k fun _ h => .inl h) (fun W l o o' hl hw _ _ => (Kept.refl _ W).grown (grownBy_putObj' W l o') (fun k e => by cases e; exact .inl (.inr hl))) (Below.refl _ _) (fun _ => rfl)
    (fun pre W => (∃ v, Boxed W s2 24 v ∧ W.ownsRow W0.heap.size 3 1 v pre.length (iv pre) ∧ True) ∧ Kept (fun k => k = s2 ∨ W0.heap.size ≤ k) W0 W)
    (fun _ _ _ => False)
    (OwnFrom.and (Own.from (holdsRow_own W0.heap.size s2 24 3 1 (fun pre => pre.length) (fun pre => iv pre) (fun _ _ => True)) _) (fun _ X Y row hs hg hr => hs.grown hg (fun k e => .inl (.inr (hr k e).1))))
    (fun _ _ _ _ _ hs _ _ => hs)
    ⟨⟨_, bS, World.ownsRow_nil _ _ _ _, trivial⟩, Kept.refl _ _⟩
    (fun x a' _ => a' = { tmps := #[.slice none 0 0, .func (.func 81) #[] #[.pointer (some ⟨Bv, 0, none⟩)], .pointer (some ⟨s2, 0, none⟩), undef, .slice none 0 0, .int .i64 x.toInt, .func (.func 81) #[] #[.pointer (some ⟨Bv, 0, none⟩)], .int .i64 x.toInt, undef, undef, undef, undef, undef], defers := [] })
    (fun x a' _ X Y row hs hg hr => hs)
    ?assign ?body ?done ?stop
  case assign =>
    rintro l pre x W K ⟨⟨v, hv, hrow, _⟩, hB⟩ hK
    gi_wp2
    exact hK _ _ ((KeepsOthers.refl _).from _) (Kept.refl _ W) ⟨⟨v, hv, hrow, trivial⟩, hB⟩ rfl
  case body =>
    rintro l pre x a' W hl _ ⟨⟨v, hv, hrow, _⟩, hB⟩ rfl hlt
    have hsz := hB.size
    have cS := hv.cell
    have fS := hv.frozen
    have HN : Hid (∀ k, v.ownBlock = some k → W0.heap.size ≤ k) := fun k hk => (hrow.lt k hk).1
    have HC : Hid (∀ j u, [Value.int .i64 x.toInt][j]? = some u → (W.alloc (.cells #[.int .i64 x.toInt] 3)).cell? ((⟨W.heap.size, 0, none⟩ : Addr).add j) = some u) := by
      intro j u hu
      cases j with
      | zero =>
        simp at hu
        subst hu
        have hb := box_new W #[.int .i64 x.toInt] 3
        exact hb.cell 0 _ rfl
      | succ j => simp at hu
    have hln : (pre.length : Int) ≤ 1000000 := by omega
    have HL : Hid (pre.length + 1 ≤ maxLen ∧ (pre.length + 1) * 8 ≤ 140737488355328 ∧ W0.heap.size ≤ (W.alloc (.cells #[.int .i64 x.toInt] 3)).heap.size) := ⟨by unfold maxLen; omega, by omega, by simp; omega⟩
    clear hlt
    gi_wp2_with (gi_at_builtin; refine wpListIn_append_own _ rfl _ _ 24 rfl W0.heap.size 3 i0 (.int .i64 0) 1 8 Tryz.underlying24 HI.out.1 HI.out.2.1 HI.out.2.2.1 HI.out.2.2.2 rfl (by decide) _ _ _ rfl (hrow.alloc _) ⟨W.heap.size, 0, none⟩ 1 1 [.int .i64 x.toInt] rfl rfl HC.out (by simp [Value.oneCell']) HL.out.1 HL.out.2.1 HL.out.2.2 ?_; intro v' w1 hown' hgrow _; obtain ⟨g', cap', rfl⟩ := ownsRow_succ hown'; have bS1 := app_box hgrow hv HN.out (by have := HZ.out; omega); have cS1 := bS1.cell; have fS1 := bS1.frozen)
    have HK : Hid (Kept (fun k => k = s2 ∨ W0.heap.size ≤ k) W w1) := ((Kept.refl _ W).alloc _).grown hgrow fun k hk => .inl (.inr (HN.out k hk))
    have k2 := HK.out.setCell (p := ⟨s2, 0, none⟩) (.inl (.inl rfl)) (.slice (some ⟨g', 0, none⟩) (pre.length + 1) cap')
    have hz := HZ.out
    refine ⟨((app_keeps hrow hgrow).trans (KeepsOthers.setCell _ _ _)).from _, k2, ⟨_, bS1.set _, ?_, trivial⟩, hB.trans k2 (fun _ h => .inl h)⟩
    rw [iv_snoc, List.length_append, List.length_singleton]
    exact row_other (u := .slice (some ⟨g', 0, none⟩) (pre.length + 1) cap') hown' (b := s2) (by omega)
  case done =>
    rintro D ys W hD rfl ⟨⟨v, hv, hrow, _⟩, hB⟩ hK
    have hc := hv.cell
    gi_wp2_with fail
    refine ⟨by simp, .inl ⟨_, _, rfl, run_takeDeferred hK, ?_⟩⟩
    have hz := HZ.out
    have hbW : Below w.heap.size w W := hW0.trans (hB.below (fun k hk => by omega) (by omega))
    have hrow2 := ownsRow_putObj hrow (.deferred none) hK rfl
    refine ⟨_, results_tmp rfl _ _ _, ⟨v, rfl, ownsRow_base hrow2 (by omega)⟩, ?_⟩
    exact hbW.trans (belowK_b (w := w) (Nat.le_refl _) W D _ _ (by omega) hK rfl rfl)
  case stop =>
    rintro D c pre W _ _ h _
    exact h.elim
end Go.Proofs.YtdjobjbkpagnaaaGreat
