/-
  9 texts, one behind the other: XSuper, XMay, XMay2, XFind, XRefMay, XRefMay2, XClone, XGrowL, XGrow.
-/
import Derived.Test.YtdjobjbkpagnaaaGreatJoin6
import Derived.Test.YtdjobjbkpagnaaaGreatJoin3
import Derived.Test.YtdjobjbkpagnaaaGreatJoin2
import Derived.Deep.QuietTactic
import Derived.BigQuiet
import Derived.Test.YtdjobjbkpagnaaaGreatJoin5
import Derived.Lib.SliceRun
import Derived.Lib.AppendZerosOnto
/-
  The contracts of slices.Collect and Sorted of numbers, of slices.Equal, of schema's numbers and Super, and of the document's Super.
-/
namespace Go.Proofs.YtdjobjbkpagnaaaGreat
open Go.RowKit Go.Sort Go.Shelf

def ZE (_ : World) (x : Int) (cs : List Value) : Prop := cs = [.int .i64 x]
abbrev ZsIs (w : World) (v : Value) (l : List Int) : Prop := SlIs ZE 1 w v l
theorem stays_z : Stays ZE := fun _ _ _ _ h _ => h
theorem zs_of_ints {w : World} {v : Value} {l : List (BitVec 64)} (h : IntsIs w v l) : ZsIs w v (l.map (·.toInt)) := by
  obtain ⟨a, cap, rfl, hcap, h⟩ := h
  refine ⟨a, cap, by rw [List.length_map], by rw [List.length_map]; exact hcap, fun hl => ?_⟩
  obtain ⟨b, off, rfl, hb, hc⟩ := h (by rintro rfl; exact hl rfl)
  refine ⟨b, off, rfl, hb, fun i x hi => ?_⟩
  rw [List.getElem?_map, Option.map_eq_some_iff] at hi
  obtain ⟨y, hy, rfl⟩ := hi
  exact hc i y hy
theorem flat_one (l : List Int) : (l.map fun x => [Value.int .i64 x]).flatten = l.map (Value.int .i64) := by
  induction l with
  | nil => rfl
  | cons x r ih => rw [List.map_cons, List.flatten_cons, ih]; rfl
theorem zs_of_own {w : World} {B : Nat} {v : Value} {l : List Int} (h : w.ownsRow B 3 1 v l.length (l.map (Value.int .i64))) : ZsIs w v l := by
  have hs : SRows w v 3 1 (l.map fun x => [.int .i64 x]) := srows_of_own h (flat_one l).symm (by simp) (by decide) (by simp)
  refine slIs_of_srows hs ⟨by simp, fun i x r hx hr => ?_⟩
  rw [List.getElem?_map, hx] at hr
  cases hr
  rfl
theorem at1Z {w : World} {a : Option Addr} {n cap : Nat} {l : List Int} (h : ZsIs w (.slice a n cap) l) {k : Nat} (hk : k < n) : ∃ (x : Int) (b off : Nat), l[k]? = some x ∧ a = some ⟨b, off, none⟩ ∧ w.cell? ⟨b, off + k, none⟩ = some (.int .i64 x) := by
  obtain ⟨x, cs, b, off, h1, h2, _, h3, h4, h5⟩ := h.at hk
  have e : cs = [.int .i64 x] := h4
  subst e
  have := h5 0 _ rfl
  rw [Nat.mul_one] at this
  exact ⟨x, b, off, h1, h2, this⟩

/-- Numbers in order. -/
def sortZ (l : List Int) : List Int := l.mergeSort fun x y => decide (x ≤ y)
theorem sort_len (l : List Int) : (sortZ l).length = l.length := List.length_mergeSort _
theorem sort_own {w : World} {B : Nat} {v : Value} {l : List Int} (h : w.ownsRow B 3 1 v l.length (l.map (Value.int .i64))) (hl : l.length ≤ 1000000) (hB : B ≤ w.heap.size) :
    Calls Tryz.prog 80 #[v] w fun e w' => e = .returned (.tuple #[]) ∧ w'.ownsRow B 3 1 v (sortZ l).length ((sortZ l).map (Value.int .i64)) ∧ Below B w w' := by
  rcases h.2 with ⟨rfl, h0⟩ | ⟨g, cap, cur, rfl, hbg, hg, h1, h2, h3, h4⟩
  · have hl0 : l = [] := List.eq_nil_of_length_eq_zero h0
    subst hl0
    exact (Any.slices_Sort_int_none Tryz.lays189 none 0 w).mono fun e w' ⟨e1, e2⟩ => ⟨e1, by rw [e2]; exact ⟨by rw [show sortZ [] = [] by simp [sortZ]]; exact h, Below.refl _ _⟩⟩
  · have hlt := (Array.getElem?_eq_some_iff.1 hg).1
    have hH := holds_of_blockI (ss := l) hg (by rw [Nat.mul_one] at h4; exact h4)
    refine (Any.slices_Sort_int Tryz.lays189 g 0 cap l w hH hlt (by omega)).mono ?_
    rintro e w' ⟨e1, n, os, rfl⟩
    refine ⟨e1, ?_, (Below.refl B w).grown (grownBy_sortedI _) hB (fun k hk => by cases hk; exact hbg)⟩
    have := ownsRow_sortedI (n := n) (os := os) (ss := l) (ts := sortZ l) (sort_len l) hbg hg h1 h2 h3
    rw [sort_len]
    exact this
set_option maxHeartbeats 1000000 in
theorem values_any (a : Option Addr) (n cap : Nat) (w : World) : Calls Tryz.prog 41 #[.slice a n cap] w fun e w' => e = .returned (.func (.func 81) #[] #[.pointer (some ⟨w.heap.size, 0, none⟩)]) ∧ w' = w.alloc (.cells #[.slice a n cap] 24) := by
  go_enter Tryz.func41, Tryz.ntmps41
  go_wp2_with fail
  go_ret
  exact ⟨rfl, rfl⟩
set_option maxHeartbeats 1000000 in
theorem collect_any {w : World} {v : Value} {xs : List (BitVec 64)} (hs : IntsIs w v xs) (hl : xs.length ≤ 1000000) (Bv : Nat) (hBv : w.cell? ⟨Bv, 0, none⟩ = some v) :
    Calls Tryz.prog 79 #[.func (.func 81) #[] #[.pointer (some ⟨Bv, 0, none⟩)]] w fun e w' => (∃ v', e = .returned v' ∧ OwnsI w' w.heap.size v' xs) ∧ Below w.heap.size w w' := by
  have hc := appendSeq_any hs hl Bv hBv
  clear hs hl hBv
  go_enter Tryz.func79, Tryz.ntmps79
  go_wp2_with fail
  refine hc.mono ?_
  rintro e w1 ⟨⟨v', rfl, ho⟩, hb⟩
  have HO : Hid (OwnsI w1 w.heap.size v' xs) := ho
  clear ho
  go_wp2_with fail
  go_ret
  exact ⟨⟨v', rfl, HO.out⟩, hb⟩
set_option maxHeartbeats 1000000 in
theorem sorted_any {w : World} {v : Value} {xs : List (BitVec 64)} (hs : IntsIs w v xs) (hl : xs.length ≤ 1000000) (Bv : Nat) (hBv : w.cell? ⟨Bv, 0, none⟩ = some v) :
    Calls Tryz.prog 40 #[.func (.func 81) #[] #[.pointer (some ⟨Bv, 0, none⟩)]] w fun e w' => (∃ v', e = .returned v' ∧ ZsIs w' v' (sortZ (xs.map (·.toInt)))) ∧ Below w.heap.size w w' := by
  have hc := collect_any hs hl Bv hBv
  have HL : Hid (xs.length ≤ 1000000) := hl
  clear hs hl hBv
  go_enter Tryz.func40, Tryz.ntmps40
  go_wp2_with fail
  refine hc.mono ?_
  rintro e w1 ⟨⟨v', rfl, ho⟩, hb⟩
  have hso := sort_own (w := w1) (B := w.heap.size) (v := v') (l := xs.map (·.toInt)) (by have : w1.ownsRow w.heap.size 3 1 v' xs.length (iv xs) := ho; rw [List.length_map, List.map_map]; exact this) (by rw [List.length_map]; exact HL.out) hb.size
  obtain ⟨va, vc, rfl⟩ : ∃ va vc, v' = .slice va xs.length vc := (own_shape ho).1
  have HB : Hid (Below w.heap.size w w1) := hb
  clear ho hb hc
  go_wp2_with fail
  refine hso.mono ?_
  rintro e w2 ⟨rfl, ho2, hb2⟩
  have HO : Hid (w2.ownsRow w.heap.size 3 1 (.slice va xs.length vc) (sortZ (xs.map (·.toInt))).length ((sortZ (xs.map (·.toInt))).map (Value.int .i64)) ∧ Below w.heap.size w w2) := ⟨ho2, HB.out.trans hb2⟩
  clear ho2 hb2
  go_wp2_with fail
  go_ret
  exact ⟨⟨_, rfl, zs_of_own HO.out.1⟩, HO.out.2⟩

theorem perm_sub : ∀ (R l : List Int), R.Nodup → (∀ x ∈ R, x ∈ l) → l.length ≤ R.length → R.Perm l
  | [], l, _, _, hl => by
    have : l = [] := List.eq_nil_of_length_eq_zero (by simpa using hl)
    subst this; exact List.Perm.refl _
  | r :: R, l, hn, hs, hl => by
    rw [List.nodup_cons] at hn
    have hr : r ∈ l := hs r (by simp)
    have h := perm_sub R (l.erase r) hn.2 (fun x hx => (List.mem_erase_of_ne (by rintro rfl; exact hn.1 hx)).2 (hs x (by simp [hx]))) (by
      rw [List.length_erase_of_mem hr]
      simp only [List.length_cons] at hl
      omega)
    exact (List.Perm.cons r h).trans (List.perm_cons_erase hr).symm
def zran (n : Nat) : List Int := (List.range n).map fun k : Nat => (k : Int)
theorem zran_nodup (n : Nat) : (zran n).Nodup := by
  unfold zran List.Nodup
  rw [List.pairwise_map]
  exact List.pairwise_lt_range.imp fun h e => by omega
theorem zran_le (n : Nat) : (zran n).Pairwise fun x y => x ≤ y := by
  unfold zran
  rw [List.pairwise_map]
  exact List.pairwise_lt_range.imp fun h => by omega
theorem sort_le (l : List Int) : (sortZ l).Pairwise fun x y => x ≤ y := by
  have h := List.pairwise_mergeSort (le := fun x y : Int => decide (x ≤ y)) (fun a b c h1 h2 => by simp at h1 h2 ⊢; omega) (fun a b => by simp; omega) l
  exact h.imp fun h => by simpa using h
theorem sort_perm (l : List Int) : (sortZ l).Perm l := List.mergeSort_perm _ _
theorem hasI_iff {l : List (BitVec 64)} {c : Nat} : hasI l c = true ↔ (c : Int) ∈ l.map (·.toInt) := by
  unfold hasI
  rw [List.any_eq_true, List.mem_map]
  constructor
  · rintro ⟨x, hx, h⟩; exact ⟨x, hx, by simpa using h⟩
  · rintro ⟨x, hx, h⟩; exact ⟨x, hx, by simpa using h⟩
theorem super_sort (n : Nat) (l : List (BitVec 64)) : decide (sortZ (l.map (·.toInt)) = zran n) = superB n l := by
  have hiff : sortZ (l.map (·.toInt)) = zran n ↔ superB n l = true := by
    unfold superB
    rw [Bool.and_eq_true, decide_eq_true_iff, List.all_eq_true]
    constructor
    · intro h
      have hp : (zran n).Perm (l.map (·.toInt)) := h ▸ sort_perm _
      refine ⟨fun c hc => hasI_iff.2 (hp.mem_iff.1 ?_), ?_⟩
      · unfold zran; rw [List.mem_map]; exact ⟨c, hc, rfl⟩
      · have := hp.length_eq
        simp [zran] at this
        exact this.symm
    · rintro ⟨h1, h2⟩
      have hp : (zran n).Perm (l.map (·.toInt)) := perm_sub _ _ (zran_nodup n) (fun x hx => by
        unfold zran at hx
        rw [List.mem_map] at hx
        obtain ⟨c, hc, rfl⟩ := hx
        exact hasI_iff.1 (h1 c hc)) (by simp [zran, h2])
      exact List.Perm.eq_of_pairwise (le := fun x y => x ≤ y) (fun a b _ _ h1 h2 => by omega) (sort_le _) (zran_le n) ((sort_perm _).trans hp.symm)
  rw [Bool.eq_iff_iff, decide_eq_true_iff]
  exact hiff
theorem nums_len (n : Nat) : (nums n).length = n := by simp [nums]
theorem nums_zran {n : Nat} (h : n ≤ 1000000) : (nums n).map (·.toInt) = zran n := by
  unfold nums zran
  rw [List.map_map]
  apply List.map_congr_left
  intro k hk
  rw [List.mem_range] at hk
  exact Wd.toInt_of_small _ (by omega)
theorem nums_snoc (n : Nat) : nums (n + 1) = nums n ++ [BitVec.ofNat 64 n] := by simp [nums, List.range_succ]
theorem nums_set (k g : Nat) (x : BitVec 64) : (nums k ++ List.replicate (g + 1) x).set k (BitVec.ofNat 64 k) = nums (k + 1) ++ List.replicate g x := by
  rw [List.set_append_right _ _ (by rw [nums_len]; exact Nat.le_refl _), nums_len, Nat.sub_self, List.replicate_succ, List.set_cons_zero, nums_snoc, List.append_assoc]
  rfl

set_option maxHeartbeats 1000000 in
theorem numbers_any (a : Option Addr) (m cap : Nat) (hm : m ≤ 1000000) (w : World) :
    Calls Tryz.prog 42 #[.slice a m cap] w fun e w' => (∃ v', e = .returned v' ∧ OwnsI w' w.heap.size v' (nums m)) ∧ Below w.heap.size w w' := by
  have hmI : (m : Int) ≤ 1000000 := by omega
  go_enter Tryz.func42, Tryz.ntmps42
  go_wp2_with (at_make; refine make_ints rfl _ _ rfl rfl rfl rfl hm (Nat.le_refl _) ?_; intro w2 hown2 hb2)
  go_loopg [10] m (fun g s10 wx => ∃ k : Nat, k + g = m ∧ s10 = .int .i64 k ∧ OwnsI wx w.heap.size (.slice (some ⟨w.heap.size, 0, none⟩) m m) (nums k ++ List.replicate g 0#64) ∧ Below w.heap.size w wx)
  case atStart => exact ⟨0, by omega, rfl, by simpa [nums] using hown2, hb2⟩
  case round =>
    obtain ⟨k, hkg, rfl, hown, hb⟩ := hrel
    clear hown2 hb2
    cases gk with
    | zero =>
      have hkI : ¬ (k : Int) < (m : Int) := by omega
      obtain rfl : k = m := by omega
      rw [List.replicate_zero, List.append_nil] at hown
      go_wp2
      go_ret
      exact ⟨⟨_, rfl, hown⟩, hb⟩
    | succ g =>
      have hkI : (k : Int) < (m : Int) := by omega
      have hll : (nums k ++ List.replicate (g + 1) 0#64).length = m := by rw [List.length_append, nums_len, List.length_replicate]; omega
      obtain ⟨hc, hf, hset, hBg⟩ := OwnsI.store hown hll.symm k (by rw [hll]; omega) (BitVec.ofNat 64 k)
      rw [nums_set, Wd.toInt_of_small _ (by omega)] at hset
      obtain ⟨y, hy⟩ : ∃ y, y = ((nums k ++ List.replicate (g + 1) 0#64).getD k 0#64).toInt := ⟨_, rfl⟩
      rw [← hy] at hc
      clear hy hll hown
      go_wp2_with fail
      go_roundg g
      case measure => omega
      case rel => exact ⟨k + 1, by omega, by go_num, hset, hb.setCell (Nat.le_refl _) _⟩

set_option maxRecDepth 4000 in
set_option maxHeartbeats 4000000 in
theorem equal_any {w : World} {v1 v2 : Value} {l1 l2 : List Int} (h1 : ZsIs w v1 l1) (h2 : ZsIs w v2 l2) (hl : l1.length ≤ 1000000) (hl2 : l2.length ≤ 1000000) :
    Calls Tryz.prog 39 #[v1, v2] w fun e w' => e = .returned (.bool (decide (l1 = l2))) ∧ Below w.heap.size w w' := by
  obtain ⟨a1, n1, c1, rfl, hn1, hc1⟩ := h1.slice
  obtain ⟨a2, n2, c2, rfl, hn2, hc2⟩ := h2.slice
  have hn1I : (n1 : Int) ≤ 1000000 := by omega
  have hn2I : (n2 : Int) ≤ 1000000 := by omega
  by_cases hn : n1 = n2
  · subst hn
    have HH : Hid (ZsIs w (.slice a1 n1 c1) l1 ∧ ZsIs w (.slice a2 n1 c2) l2 ∧ l1.length = n1 ∧ l2.length = n1) := ⟨h1, h2, hn1, hn2⟩
    clear h1 h2 hl hl2 hn1 hn2 hc1 hc2 hn2I
    go_enter Tryz.func39, Tryz.ntmps39
    go_wp2_with fail
    go_loopg [13] n1 (fun gg s13 wx => ∃ k : Nat, k + gg = n1 ∧ s13 = .int .i64 k ∧ Hid (l1.take k = l2.take k) ∧ Hid (Below w.heap.size w wx))
    case atStart => exact ⟨0, by omega, rfl, by unfold Hid; rw [List.take_zero, List.take_zero], Below.refl _ _⟩
    case round =>
      obtain ⟨k, hkg, rfl, HN, HB⟩ := hrel
      by_cases hk : k < n1
      · have hkI : (k : Int) < (n1 : Int) := by omega
        obtain ⟨x, b, off, hx, rfl, e1⟩ := at1Z (HH.out.1.over stays_z HB.out) hk
        obtain ⟨y, b2, off2, hy, rfl, e2⟩ := at1Z (HH.out.2.1.over stays_z HB.out) hk
        have hr2 : IntKind.i64.wrap ((k : Int) + 1) = (k : Int) + 1 := by rw [IntKind.wrap_i64]; omega
        have HX : Hid (l1[k]? = some x ∧ l2[k]? = some y) := ⟨hx, hy⟩
        clear hx hy
        by_cases hxy : x = y
        · have hb : (x != y) = false := by simpa using hxy
          have HXY : Hid (x = y) := hxy
          clear hxy
          go_wp2_with fail
          go_quiet (fail)
          go_wp2_with fail
          go_roundg (n1 - (k + 1))
          case measure => clear hr2; omega
          case rel => exact ⟨k + 1, by clear hr2; omega, by go_num, by unfold Hid; rw [take_succ_of HX.out.1, take_succ_of HX.out.2, HN.out, HXY.out], ⟨HB.out.os, HB.out.tape, HB.out.output, HB.out.size, HB.out.block⟩⟩
        · have hb : (x != y) = true := by simpa using hxy
          have HXY : Hid (¬ x = y) := hxy
          clear hxy
          go_wp2_with fail
          go_quiet (fail)
          go_wp2_with fail
          go_ret
          exact ⟨ret_bool (by
            symm
            rw [decide_eq_false_iff_not]
            rintro rfl
            have := HX.out.1.symm.trans HX.out.2
            exact HXY.out (Option.some.inj this)), ⟨HB.out.os, HB.out.tape, HB.out.output, HB.out.size, HB.out.block⟩⟩
      · have hkI : ¬ (k : Int) < (n1 : Int) := by omega
        obtain rfl : k = n1 := by omega
        go_wp2_with fail
        go_ret
        exact ⟨ret_bool (by
          symm
          rw [decide_eq_true_iff]
          have := HN.out
          rwa [List.take_of_length_le (by rw [HH.out.2.2.1]; exact Nat.le_refl _), List.take_of_length_le (by rw [HH.out.2.2.2]; exact Nat.le_refl _)] at this), HB.out⟩
  · have hnb : ((n1 : Int) != (n2 : Int)) = true := by simp; omega
    have HN : Hid (¬ l1 = l2) := by rintro rfl; exact hn (hn1.symm.trans hn2)
    clear h1 h2 hl hl2 hn1 hn2 hc1 hc2 hn
    go_enter Tryz.func39, Tryz.ntmps39
    go_wp2_with fail
    go_ret
    exact ⟨ret_bool (decide_eq_false HN.out).symm, Below.refl _ _⟩

set_option maxRecDepth 4000 in
set_option maxHeartbeats 4000000 in
theorem super_any {w : World} {t : Tb} {p : Pj} {c0 c1 c2 d0 d1 d2 : Value} (ht : TbE w t [c0, c1, c2]) (hp : PjE w p [d0, d1, d2]) (hn : t.cols.length ≤ 1000000) (hm : p.cols.length ≤ 1000000) :
    Calls Tryz.prog 14 #[.agg #[c0, c1, c2], .agg #[d0, d1, d2]] w fun e w' => e = .returned (.bool (superB t.cols.length p.cols)) ∧ Below w.heap.size w w' := by
  obtain ⟨vc, vp, et, hC, hP⟩ := ht
  obtain ⟨vi, ep, hI⟩ := hp
  simp only [List.cons.injEq, and_true] at et ep
  obtain ⟨rfl, rfl, rfl⟩ := et
  obtain ⟨rfl, rfl, rfl⟩ := ep
  obtain ⟨a, n, cap, rfl, hna, hca⟩ := hC.slice
  obtain ⟨a2, m, cap2, rfl, hma, hca2⟩ := hI.slice
  obtain ⟨a3, n3, cap3, rfl, _⟩ := hP.slice
  rw [hna] at hn ⊢
  rw [hma] at hm
  have hz := super_sort n p.cols
  have hb0 := below2 w (.cells #[.string t.name, .slice a n cap, .slice a3 n3 cap3] 41) (.cells #[.string p.name, .slice a2 m cap2, .int .i64 p.keys.toInt] 26)
  have B1 := box_old w #[.string t.name, .slice a n cap, .slice a3 n3 cap3] 41 (.cells #[.string p.name, .slice a2 m cap2, .int .i64 p.keys.toInt] 26)
  have B2 := box_new (w.alloc (.cells #[.string t.name, .slice a n cap, .slice a3 n3 cap3] 41)) #[.string p.name, .slice a2 m cap2, .int .i64 p.keys.toInt] 26
  rw [World.size_alloc] at B2
  obtain ⟨w0, hw0⟩ : ∃ w0, w0 = (w.alloc (.cells #[.string t.name, .slice a n cap, .slice a3 n3 cap3] 41)).alloc (.cells #[.string p.name, .slice a2 m cap2, .int .i64 p.keys.toInt] 26) := ⟨_, rfl⟩
  rw [← hw0] at hb0 B1 B2
  have H0 : Hid (Below w.heap.size w w0 ∧ Box w0 w.heap.size 41 #[.string t.name, .slice a n cap, .slice a3 n3 cap3] ∧ Box w0 (w.heap.size + 1) 26 #[.string p.name, .slice a2 m cap2, .int .i64 p.keys.toInt]) := ⟨hb0, B1, B2⟩
  have HI : Hid (IntsIs w0 (.slice a2 m cap2) p.cols ∧ p.cols.length = m ∧ m ≤ 1000000 ∧ n ≤ 1000000) := ⟨hI.over stays_int hb0, hma, hm, hn⟩
  have HZ : Hid (decide (sortZ (p.cols.map (·.toInt)) = zran n) = superB n p.cols) := hz
  obtain ⟨tn, htn⟩ : ∃ x, x = t.name := ⟨_, rfl⟩
  obtain ⟨pn, hpn⟩ : ∃ x, x = p.name := ⟨_, rfl⟩
  obtain ⟨pk, hpk⟩ : ∃ x, x = p.keys.toInt := ⟨_, rfl⟩
  rw [← htn, ← hpn, ← hpk] at hw0 H0
  rw [← htn, ← hpn, ← hpk]
  have HW : Hid (w0 = (w.alloc (.cells #[.string tn, .slice a n cap, .slice a3 n3 cap3] 41)).alloc (.cells #[.string pn, .slice a2 m cap2, .int .i64 pk] 26)) := hw0
  clear hC hP hI hna hma hca hca2 hn hm hz hb0 B1 B2 hw0 htn hpn hpk
  go_enter Tryz.func14, Tryz.ntmps14
  go_wp2_with fail
  rw [← HW.out]
  refine wp_region_held_then (fun w' : World => w'.cell? ⟨w.heap.size, 1, none⟩ = some (.slice a n cap) ∧ w'.cell? ⟨w.heap.size + 1, 1, none⟩ = some (.slice a2 m cap2)) _ (by kernel_rfl) rfl (by kernel_rfl) ?_
  have hHeld : (fun w' : World => w'.cell? ⟨w.heap.size, 1, none⟩ = some (.slice a n cap) ∧ w'.cell? ⟨w.heap.size + 1, 1, none⟩ = some (.slice a2 m cap2)) w0.drew := ⟨H0.out.2.1.cell 1 _ rfl, H0.out.2.2.cell 1 _ rfl⟩
  dsimp only [List.dropLast, List.length, List.getLast]
  ((refine takeL 0 (v := ?_) rfl (by kernel_rfl) (by kernel_rfl) (by kernel_rfl) (fun _ _ _ h => h) (by rfl) hHeld ?_ ?_; rotate_left; focus (intro w hSw; (try dsimp only at hSw); go_simp <;> with_reducible rfl); (try simp only [Act.put, List.setIfInBounds_toArray, List.set_cons_zero, List.set_cons_succ])); (refine takeL 1 (v := ?_) rfl (by kernel_rfl) (by kernel_rfl) (by kernel_rfl) (fun _ _ _ h => h) (by rfl) hHeld ?_ ?_; rotate_left; focus (intro w hSw; (try dsimp only at hSw); go_simp <;> with_reducible rfl); (try simp only [Act.put, List.setIfInBounds_toArray, List.set_cons_zero, List.set_cons_succ])); (refine takeL 4 (v := ?_) rfl (by kernel_rfl) (by kernel_rfl) (by kernel_rfl) (fun _ _ _ h => h) (by rfl) hHeld ?_ ?_; rotate_left; focus (intro w hSw; (try dsimp only at hSw); go_simp <;> with_reducible rfl); (try simp only [Act.put, List.setIfInBounds_toArray, List.set_cons_zero, List.set_cons_succ])); (refine takeL 5 (v := ?_) rfl (by kernel_rfl) (by kernel_rfl) (by kernel_rfl) (fun _ _ _ h => h) (by rfl) hHeld ?_ ?_; rotate_left; focus (intro w hSw; (try dsimp only at hSw); go_simp <;> with_reducible rfl); (try simp only [Act.put, List.setIfInBounds_toArray, List.set_cons_zero, List.set_cons_succ])))
  dsimp only [Act.put]
  simp only [List.setIfInBounds_toArray, List.set_cons_zero, List.set_cons_succ]
  refine callL 2 (f := 41) (vs := #[.slice a2 m cap2]) rfl (by kernel_rfl) (by rfl) (by go_simp) ?_
  refine (values_any a2 m cap2 _).mono ?_
  rintro e w1 ⟨rfl, hw1⟩
  have b1 : Below w0.heap.size w0 w1 := by rw [hw1]; exact ((Below.refl _ w0).drew).alloc (Nat.le_refl _) _
  have hB1 : w1.cell? ⟨w0.drew.heap.size, 0, none⟩ = some (.slice a2 m cap2) := by rw [hw1]; exact (box_new w0.drew #[.slice a2 m cap2] 24).cell 0 _ rfl
  have H1 : Hid (Below w0.heap.size w0 w1) := b1
  have hHeld1 : (fun w' : World => w'.cell? ⟨w.heap.size, 1, none⟩ = some (.slice a n cap) ∧ w'.cell? ⟨w.heap.size + 1, 1, none⟩ = some (.slice a2 m cap2)) w1 := ⟨(H0.out.2.1.over b1).cell 1 _ rfl, (H0.out.2.2.over b1).cell 1 _ rfl⟩
  have cs := sorted_any (HI.out.1.over stays_int b1) (by rw [HI.out.2.1]; exact HI.out.2.2.1) _ hB1
  obtain ⟨Bv, hBv⟩ : ∃ Bv, Bv = w0.drew.heap.size := ⟨_, rfl⟩
  rw [← hBv] at cs ⊢
  clear hw1 b1 hB1 hBv hHeld
  refine ⟨_, rfl, hHeld1, ?_⟩
  try dsimp only [Act.put]
  try simp only [List.setIfInBounds_toArray, List.set_cons_zero, List.set_cons_succ]
  refine callL 3 (f := 40) (vs := #[.func (.func 81) #[] #[.pointer (some ⟨Bv, 0, none⟩)]]) rfl (by kernel_rfl) (by rfl) (by go_simp) ?_
  refine cs.mono ?_
  rintro e w2 ⟨⟨v2, rfl, hv2⟩, b2⟩
  have b02 := H1.out.trans (b2.mono H1.out.size)
  have H2 : Hid (Below w0.heap.size w0 w2 ∧ ZsIs w2 v2 (sortZ (p.cols.map (·.toInt)))) := ⟨b02, hv2⟩
  have hHeld2 : (fun w' : World => w'.cell? ⟨w.heap.size, 1, none⟩ = some (.slice a n cap) ∧ w'.cell? ⟨w.heap.size + 1, 1, none⟩ = some (.slice a2 m cap2)) w2 := ⟨(H0.out.2.1.over b02).cell 1 _ rfl, (H0.out.2.2.over b02).cell 1 _ rfl⟩
  obtain ⟨a4, n4, cap4, rfl, _⟩ := hv2.slice
  clear cs b2 b02 hHeld1 hv2 H1
  refine ⟨_, rfl, hHeld2, ?_⟩
  try dsimp only [Act.put]
  try simp only [List.setIfInBounds_toArray, List.set_cons_zero, List.set_cons_succ]
  refine callL 6 (f := 42) (vs := #[.slice a n cap]) rfl (by kernel_rfl) (by rfl) (by go_simp) ?_
  refine (numbers_any a n cap HI.out.2.2.2 _).mono ?_
  rintro e w3 ⟨⟨v3, rfl, hv3⟩, b3⟩
  have b03 := H2.out.1.trans (b3.mono H2.out.1.size)
  have hzs := zs_of_ints (ints_of_own hv3)
  rw [nums_zran HI.out.2.2.2] at hzs
  have ce := equal_any (H2.out.2.over stays_z b3) hzs (by rw [sort_len, List.length_map, HI.out.2.1]; exact HI.out.2.2.1) (by simp [zran]; exact HI.out.2.2.2)
  rw [HZ.out] at ce
  have H3 : Hid (Below w0.heap.size w0 w3) := b03
  have hHeld3 : (fun w' : World => w'.cell? ⟨w.heap.size, 1, none⟩ = some (.slice a n cap) ∧ w'.cell? ⟨w.heap.size + 1, 1, none⟩ = some (.slice a2 m cap2)) w3 := ⟨(H0.out.2.1.over b03).cell 1 _ rfl, (H0.out.2.2.over b03).cell 1 _ rfl⟩
  obtain ⟨⟨a5, cap5, rfl⟩, _⟩ := own_shape hv3
  obtain ⟨r, hr⟩ : ∃ r, r = superB n p.cols := ⟨_, rfl⟩
  rw [← hr] at ce
  have HR : Hid (r = superB n p.cols) := hr
  clear hr
  clear b3 b03 hHeld2 hv3 H2 hzs
  refine ⟨_, rfl, hHeld3, ?_⟩
  try dsimp only [Act.put]
  try simp only [List.setIfInBounds_toArray, List.set_cons_zero, List.set_cons_succ]
  refine callL 7 (f := 39) (vs := #[.slice a4 n4 cap4, .slice a5 (nums n).length cap5]) rfl (by kernel_rfl) (by rfl) (by go_simp) ?_
  refine ce.mono ?_
  rintro e w4 ⟨rfl, b4⟩
  have b04 := H3.out.trans (b4.mono H3.out.size)
  have H4 : Hid (Below w.heap.size w w4) := H0.out.1.trans (b04.mono H0.out.1.size)
  have hHeld4 : (fun w' : World => w'.cell? ⟨w.heap.size, 1, none⟩ = some (.slice a n cap) ∧ w'.cell? ⟨w.heap.size + 1, 1, none⟩ = some (.slice a2 m cap2)) w4 := ⟨(H0.out.2.1.over b04).cell 1 _ rfl, (H0.out.2.2.over b04).cell 1 _ rfl⟩
  clear ce b4 b04 hHeld3 H3
  refine ⟨_, rfl, hHeld4, ?_⟩
  refine doneL (by kernel_rfl) ?_
  try dsimp only [Act.put]
  unfold Oper.wp
  clear hHeld4
  go_simp
  go_wp2_with fail
  go_ret
  exact ⟨ret_bool HR.out, H4.out⟩

theorem all_range_succ (f : Nat → Bool) (n : Nat) : (List.range (n + 1)).all f = ((List.range n).all f && f n) := by rw [List.range_succ]; simp
theorem all_range_false {f : Nat → Bool} {n c : Nat} (hc : c < n) (h : f c = false) : (List.range n).all f = false := by
  rw [List.all_eq_false]
  exact ⟨c, List.mem_range.2 hc, by rw [h]; simp⟩
set_option maxRecDepth 4000 in
set_option maxHeartbeats 4000000 in
theorem refSuper_any {w : World} {t : Tb} {p : Pj} {c0 c1 c2 d0 d1 d2 : Value} (ht : TbE w t [c0, c1, c2]) (hp : PjE w p [d0, d1, d2]) (hn : t.cols.length ≤ 1000000) (hm : p.cols.length ≤ 1000000) :
    Calls Tryz.prog 23 #[.agg #[c0, c1, c2], .agg #[d0, d1, d2]] w fun e w' => e = .returned (.bool (superB t.cols.length p.cols)) ∧ Below w.heap.size w w' := by
  obtain ⟨vc, vp, et, hC, hP⟩ := ht
  obtain ⟨vi, ep, hI⟩ := hp
  simp only [List.cons.injEq, and_true] at et ep
  obtain ⟨rfl, rfl, rfl⟩ := et
  obtain ⟨rfl, rfl, rfl⟩ := ep
  obtain ⟨a, n, cap, rfl, hna, hca⟩ := hC.slice
  obtain ⟨a2, m, cap2, rfl, hma, hca2⟩ := hI.slice
  obtain ⟨a3, n3, cap3, rfl, _⟩ := hP.slice
  rw [hna] at hn ⊢
  rw [hma] at hm
  have hb0 := below2 w (.cells #[.string t.name, .slice a n cap, .slice a3 n3 cap3] 41) (.cells #[.string p.name, .slice a2 m cap2, .int .i64 p.keys.toInt] 26)
  have B1 := box_old w #[.string t.name, .slice a n cap, .slice a3 n3 cap3] 41 (.cells #[.string p.name, .slice a2 m cap2, .int .i64 p.keys.toInt] 26)
  have B2 := box_new (w.alloc (.cells #[.string t.name, .slice a n cap, .slice a3 n3 cap3] 41)) #[.string p.name, .slice a2 m cap2, .int .i64 p.keys.toInt] 26
  rw [World.size_alloc] at B2
  have H0 : Hid (Unit → Below w.heap.size w _ ∧ Box _ w.heap.size 41 #[.string t.name, .slice a n cap, .slice a3 n3 cap3] ∧ Box _ (w.heap.size + 1) 26 #[.string p.name, .slice a2 m cap2, .int .i64 p.keys.toInt]) := fun _ => ⟨hb0, B1, B2⟩
  have HI : Hid (IntsIs w (.slice a2 m cap2) p.cols ∧ p.cols.length = m) := ⟨hI, hma⟩
  have hnI : (n : Int) ≤ 1000000 := by omega
  have hmI : (m : Int) ≤ 1000000 := by omega
  clear hC hP hI hna hma hca hca2 hb0 B1 B2
  go_enter Tryz.func23, Tryz.ntmps23
  go_wp2_with fail
  go_loopg [5] n (fun gg s5 wx => ∃ c : Nat, c + gg = n ∧ s5 = .int .i64 c ∧ Hid ((List.range c).all (hasI p.cols) = true) ∧ Hid (Below w.heap.size w wx ∧ Box wx w.heap.size 41 #[.string t.name, .slice a n cap, .slice a3 n3 cap3] ∧ Box wx (w.heap.size + 1) 26 #[.string p.name, .slice a2 m cap2, .int .i64 p.keys.toInt]))
  case atStart => exact ⟨0, by omega, rfl, by unfold Hid; simp, H0.out ()⟩
  case round =>
    obtain ⟨c, hcg, rfl, HN, HB⟩ := hrel
    have e1 := HB.out.2.1.cell 1 _ rfl
    have e2 := HB.out.2.2.cell 1 _ rfl
    by_cases hc : c < n
    · have hcI : (c : Int) < (n : Int) := by omega
      have hr2 : IntKind.i64.wrap ((c : Int) + 1) = (c : Int) + 1 := by rw [IntKind.wrap_i64]; omega
      go_wp2_with fail
      go_loopg [6, 7] m (fun gg s6 s7 wx => ∃ i : Nat, i + gg = m ∧ s7 = .int .i64 i ∧ s6 = .bool (hasI (p.cols.take i) c) ∧ wx = wr)
      case atStart => exact ⟨0, by omega, rfl, rfl, rfl⟩
      case round =>
        obtain ⟨i, hig, rfl, rfl, hw⟩ := hrel
        subst hw
        by_cases hi : i < m
        · have hiI : (i : Int) < (m : Int) := by omega
          have hr3 : IntKind.i64.wrap ((i : Int) + 1) = (i : Int) + 1 := by rw [IntKind.wrap_i64]; omega
          obtain ⟨x, b, off, hx, rfl, f0⟩ := at1I (HI.out.1.over stays_int HB.out.1) hi
          have HS : Hid (hasI (p.cols.take (i + 1)) c = (hasI (p.cols.take i) c || decide (x.toInt = (c : Int)))) := by unfold Hid hasI; exact any_take_succ hx
          generalize hasI (p.cols.take i) c = q at *
          clear hx
          cases q with
          | true =>
            go_wp2_with fail
            go_roundg (m - (i + 1))
            case measure => clear hr2 hr3; omega
            case rel => exact ⟨i + 1, by clear hr2 hr3; omega, by go_num, by rw [HS.out]; rfl, rfl⟩
          | false =>
            rw [Bool.false_or] at HS
            obtain ⟨q, hq⟩ : ∃ q, (x.toInt == (c : Int)) = q := ⟨_, rfl⟩
            have HQ : Hid (decide (x.toInt = (c : Int)) = q) := by unfold Hid; rw [← hq, Bool.eq_iff_iff]; simp
            go_wp2_with fail
            go_roundg (m - (i + 1))
            case measure => clear hr2 hr3; omega
            case rel => exact ⟨i + 1, by clear hr2 hr3; omega, by go_num, by rw [HS.out, HQ.out], rfl⟩
        · have hiI : ¬ (i : Int) < (m : Int) := by omega
          obtain rfl : i = m := by omega
          rw [List.take_of_length_le (by rw [HI.out.2]; exact Nat.le_refl _)]
          obtain ⟨q, hq⟩ : ∃ q, q = hasI p.cols c := ⟨_, rfl⟩
          rw [← hq]
          have HQ : Hid (q = hasI p.cols c) := hq
          clear hq
          cases q with
          | true =>
            go_wp2_with fail
            go_roundg (n - (c + 1))
            case measure => clear hr2; omega
            case rel => exact ⟨c + 1, by clear hr2; omega, by go_num, by unfold Hid; rw [all_range_succ, HN.out, ← HQ.out]; rfl, HB⟩
          | false =>
            go_wp2_with fail
            go_ret
            exact ⟨ret_bool (by unfold superB; rw [all_range_false hc HQ.out.symm]; rfl), HB.out.1⟩
    · have hcI : ¬ (c : Int) < (n : Int) := by omega
      obtain rfl : c = n := by omega
      have HE : Hid (superB c p.cols = decide (m = c)) := by unfold Hid superB; rw [HN.out, HI.out.2]; rfl
      obtain ⟨q, hq⟩ : ∃ q, ((m : Int) == (c : Int)) = q := ⟨_, rfl⟩
      have HQ : Hid (decide (m = c) = q) := by unfold Hid; rw [← hq, Bool.eq_iff_iff]; simp; omega
      go_wp2_with fail
      go_ret
      exact ⟨ret_bool (by rw [HE.out, HQ.out]), HB.out.1⟩
end Go.Proofs.YtdjobjbkpagnaaaGreat
/-
  The contracts of schema's mayBeColumn, mayBeColumns, mayBeOf, canBeRead, mayBe and Check, and of the closures that they give.
-/
namespace Go.Proofs.YtdjobjbkpagnaaaGreat
open Go.RowKit Go.Shelf

/-- Of few bytes, of few parts. -/
def litC (c : Col) : Prop := c.name.size ≤ 1000
def litP (p : Pj) : Prop := p.name.size ≤ 1000 ∧ p.cols.length ≤ 100000
def litT (t : Tb) : Prop := t.name.size ≤ 1000 ∧ t.cols.length ≤ 1000 ∧ t.projs.length ≤ 1000 ∧ (∀ c ∈ t.cols, litC c) ∧ (∀ p ∈ t.projs, litP p)
def litL (l : List Tb) : Prop := l.length ≤ 1000 ∧ ∀ t ∈ l, litT t

theorem eqS_beq (a b : ByteArray) : (a.toList == b.toList) = eqS a b := by unfold eqS; rw [Bool.eq_iff_iff]; simp
set_option maxHeartbeats 1000000 in
theorem mayCol_any (c : Col) (hc : litC c) (w : World) : Calls Tryz.prog 102 #[.agg #[.string c.name, .int .i64 c.kind.toInt, .bool c.null]] w fun e w' => e = .returned (.bool (colOk c)) ∧ Below w.heap.size w w' := by
  have b1 := below1 w (.cells #[.string c.name, .int .i64 c.kind.toInt, .bool c.null] 53)
  have hn := fun W => name_any c.name (by unfold litC at hc; unfold maxLen; omega) W
  have HB : Hid (Below w.heap.size w (w.alloc (.cells #[.string c.name, .int .i64 c.kind.toInt, .bool c.null] 53))) := b1
  have B1 := box_new w #[.string c.name, .int .i64 c.kind.toInt, .bool c.null] 53
  have HX : Hid (Box (w.alloc (.cells #[.string c.name, .int .i64 c.kind.toInt, .bool c.null] 53)) w.heap.size 53 #[.string c.name, .int .i64 c.kind.toInt, .bool c.null]) := B1
  have HE : Hid (colOk c = (nameB c.name && (decide (c.kind.toInt = 1) || decide (c.kind.toInt = 2)))) := rfl
  obtain ⟨n, k, u⟩ := c
  simp only at hn HB HX HE ⊢
  obtain ⟨t, ht⟩ : ∃ t, t = nameB n := ⟨_, rfl⟩
  rw [← ht] at hn HE
  obtain ⟨k1, hk1⟩ : ∃ k1, k1 = k.toInt := ⟨_, rfl⟩
  rw [← hk1] at HB HX HE ⊢
  clear hc b1 B1 ht hk1
  cases t with
  | false =>
    go_enter Tryz.func102, Tryz.ntmps102
    go_wp2_with fail
    refine (hn _).mono ?_
    rintro e w1 ⟨rfl, hb⟩
    go_wp2_with fail
    go_ret
    exact ⟨ret_bool (by rw [HE.out]; rfl), HB.out.trans (hb.mono HB.out.size)⟩
  | true =>
    by_cases h1 : k1 = 1
    · subst h1
      go_enter Tryz.func102, Tryz.ntmps102
      go_wp2_with fail
      refine (hn _).mono ?_
      rintro e w1 ⟨rfl, hb⟩
      have c1 := (HX.out.over hb).cell 1 _ rfl
      go_wp2_with fail
      go_ret
      exact ⟨ret_bool (by rw [HE.out]; rfl), HB.out.trans (hb.mono HB.out.size)⟩
    · have h1b : (k1 == 1) = false := by simpa using h1
      obtain ⟨q, hq⟩ : ∃ q, (k1 == 2) = q := ⟨_, rfl⟩
      have HQ : Hid (decide (k1 = 2) = q ∧ decide (k1 = 1) = false) := ⟨by rw [← hq, Bool.eq_iff_iff]; simp, by simpa using h1⟩
      clear h1
      go_enter Tryz.func102, Tryz.ntmps102
      go_wp2_with fail
      refine (hn _).mono ?_
      rintro e w1 ⟨rfl, hb⟩
      have c1 := (HX.out.over hb).cell 1 _ rfl
      go_wp2_with fail
      go_ret
      exact ⟨ret_bool (by rw [HE.out, HQ.out.1, HQ.out.2]; rfl), HB.out.trans (hb.mono HB.out.size)⟩
set_option maxHeartbeats 1000000 in
theorem sameC_any (a b : Col) (w : World) : Calls Tryz.prog 104 #[.agg #[.string a.name, .int .i64 a.kind.toInt, .bool a.null], .agg #[.string b.name, .int .i64 b.kind.toInt, .bool b.null]] w fun e w' => e = .returned (.bool (sameC a b)) ∧ Below w.heap.size w w' := by
  have b1 := below2 w (.cells #[.string a.name, .int .i64 a.kind.toInt, .bool a.null] 53) (.cells #[.string b.name, .int .i64 b.kind.toInt, .bool b.null] 53)
  go_enter Tryz.func104, Tryz.ntmps104
  go_wp2_with fail
  go_ret
  exact ⟨ret_bool (eqS_beq _ _), b1⟩
theorem fn_mayCol {l : List Col} (hl : ∀ c ∈ l, litC c) (w : World) : FnC 102 #[] w l colOk := fun W x c0 c1 c2 _ hx hE => by
  have e : [c0, c1, c2] = colC x := hE
  simp only [colC, List.cons.injEq, and_true] at e
  obtain ⟨rfl, rfl, rfl⟩ := e
  exact mayCol_any x (hl x hx) W
theorem fs_sameC (l : List Col) (w : World) : FsC 104 #[] w l sameC := fun W x y c0 c1 c2 d0 d1 d2 _ _ _ hE hE2 => by
  have e : [c0, c1, c2] = colC x := hE
  have e2 : [d0, d1, d2] = colC y := hE2
  simp only [colC, List.cons.injEq, and_true] at e e2
  obtain ⟨rfl, rfl, rfl⟩ := e
  obtain ⟨rfl, rfl, rfl⟩ := e2
  exact sameC_any x y W
set_option maxHeartbeats 1000000 in
theorem mayCols_any {w : World} {v : Value} {l : List Col} (h : ColsIs w v l) (hl : l.length ≤ 1000000) (hc : ∀ c ∈ l, litC c) :
    Calls Tryz.prog 57 #[v] w fun e w' => e = .returned (.bool (colsB l)) ∧ Below w.heap.size w w' := by
  have ca := allC_any h hl 102 #[] colOk (enters_of Tryz.func102 (by kernel_rfl) rfl) (fn_mayCol hc w)
  have ct := fun W (hW : Below w.heap.size w W) => twC_any (h.over stays_col hW) hl 104 #[] sameC (enters_of Tryz.func104 (by kernel_rfl) rfl) (fs_sameC l W)
  obtain ⟨a, n, cap, rfl, hn, _⟩ := h.slice
  have HE : Hid (colsB l = (decide (1 ≤ n) && decide (n ≤ 8) && l.all colOk && !tw sameC l)) := by unfold Hid colsB; rw [hn]
  obtain ⟨p, hp⟩ : ∃ p, p = l.all colOk := ⟨_, rfl⟩
  obtain ⟨q, hq⟩ : ∃ q, q = tw sameC l := ⟨_, rfl⟩
  rw [← hp, ← hq] at HE
  rw [← hp] at ca
  rw [← hq] at ct
  have hnI : (n : Int) ≤ 1000000 := by omega
  clear h hl hc hn hp hq
  by_cases h1 : 1 ≤ (n : Int)
  · have d1 : decide (1 ≤ n) = true := by simp; omega
    by_cases h2 : (n : Int) ≤ 8
    · have d2 : decide (n ≤ 8) = true := by simp; omega
      rw [d1, d2] at HE
      clear d1 d2
      cases p with
      | false =>
        go_enter Tryz.func57, Tryz.ntmps57
        go_wp2_with fail
        refine ca.mono ?_
        rintro e w1 ⟨rfl, hb⟩
        go_wp2_with fail
        go_ret
        exact ⟨ret_bool (by rw [HE.out]; rfl), hb⟩
      | true =>
        go_enter Tryz.func57, Tryz.ntmps57
        go_wp2_with fail
        refine ca.mono ?_
        rintro e w1 ⟨rfl, hb⟩
        have ct1 := ct w1 hb
        clear ct ca
        go_wp2_with fail
        refine ct1.mono ?_
        rintro e w2 ⟨rfl, hb2⟩
        go_wp2_with fail
        go_ret
        exact ⟨ret_bool (by rw [HE.out]; rfl), hb.trans (hb2.mono hb.size)⟩
    · have d2 : decide (n ≤ 8) = false := by simp; omega
      rw [d1, d2] at HE
      go_enter Tryz.func57, Tryz.ntmps57
      go_wp2_with fail
      go_ret
      exact ⟨ret_bool (by rw [HE.out]; rfl), Below.refl _ _⟩
  · have d1 : decide (1 ≤ n) = false := by simp; omega
    rw [d1] at HE
    go_enter Tryz.func57, Tryz.ntmps57
    go_wp2_with fail
    go_ret
    exact ⟨ret_bool (by rw [HE.out]; rfl), Below.refl _ _⟩

set_option maxHeartbeats 1000000 in
theorem colIn_any (x : BitVec 64) (B n : Nat) (a : Option Addr) (cap : Nat) (W : World) (hB : W.cell? ⟨B, 1, none⟩ = some (.slice a n cap)) :
    Calls Tryz.prog 110 #[.int .i64 x.toInt, .pointer (some ⟨B, 0, none⟩)] W fun e w' => e = .returned (.bool (colIn n x)) ∧ Below W.heap.size W w' := by
  obtain ⟨z, hz⟩ : ∃ z, z = x.toInt := ⟨_, rfl⟩
  have HE : Hid (colIn n x = (decide (0 ≤ z) && decide (z < (n : Int)))) := by unfold Hid colIn; rw [hz]
  rw [← hz]
  clear hz
  by_cases h0 : 0 ≤ z
  · have d0 : decide (0 ≤ z) = true := by simpa using h0
    rw [d0] at HE
    by_cases h1 : z < (n : Int)
    all_goals
      go_enter Tryz.func110, Tryz.ntmps110
      go_wp2_with fail
      go_ret
      exact ⟨ret_bool (by rw [HE.out]; simp [h1]), Below.refl _ _⟩
  · have d0 : decide (0 ≤ z) = false := by simpa using h0
    rw [d0] at HE
    go_enter Tryz.func110, Tryz.ntmps110
    go_wp2_with fail
    go_ret
    exact ⟨ret_bool (by rw [HE.out]; rfl), Below.refl _ _⟩
set_option maxHeartbeats 1000000 in
theorem sameI_any (x y : BitVec 64) (W : World) : Calls Tryz.prog 112 #[.int .i64 x.toInt, .int .i64 y.toInt] W fun e w' => e = .returned (.bool (sameI x y)) ∧ Below W.heap.size W w' := by
  have HE : Hid ((x.toInt == y.toInt) = sameI x y) := by unfold Hid sameI; rw [Bool.eq_iff_iff]; simp only [beq_iff_eq, decide_eq_true_eq]
  go_enter Tryz.func112, Tryz.ntmps112
  go_wp2_with fail
  go_ret
  exact ⟨ret_bool HE.out, Below.refl _ _⟩
set_option maxRecDepth 4000 in
set_option maxHeartbeats 4000000 in
theorem mayOf_any {w : World} {t : Tb} {p : Pj} {c0 c1 c2 d0 d1 d2 : Value} (ht : TbE w t [c0, c1, c2]) (hp : PjE w p [d0, d1, d2]) (hn : t.cols.length ≤ 1000000) (hm : litP p) :
    Calls Tryz.prog 60 #[.agg #[c0, c1, c2], .agg #[d0, d1, d2]] w fun e w' => e = .returned (.bool (pjB t.cols.length p)) ∧ Below w.heap.size w w' := by
  obtain ⟨vc, vp, et, hC, hP⟩ := ht
  obtain ⟨vi, ep, hI⟩ := hp
  simp only [List.cons.injEq, and_true] at et ep
  obtain ⟨rfl, rfl, rfl⟩ := et
  obtain ⟨rfl, rfl, rfl⟩ := ep
  obtain ⟨a, n, cap, rfl, hna, hca⟩ := hC.slice
  obtain ⟨a2, m, cap2, rfl, hma, hca2⟩ := hI.slice
  obtain ⟨a3, n3, cap3, rfl, _⟩ := hP.slice
  rw [hna] at hn ⊢
  have hm2 := hm.2
  rw [hma] at hm2
  have hb0 := below2 w (.cells #[.string t.name, .slice a n cap, .slice a3 n3 cap3] 41) (.cells #[.string p.name, .slice a2 m cap2, .int .i64 p.keys.toInt] 26)
  have B1 := box_old w #[.string t.name, .slice a n cap, .slice a3 n3 cap3] 41 (.cells #[.string p.name, .slice a2 m cap2, .int .i64 p.keys.toInt] 26)
  have B2 := box_new (w.alloc (.cells #[.string t.name, .slice a n cap, .slice a3 n3 cap3] 41)) #[.string p.name, .slice a2 m cap2, .int .i64 p.keys.toInt] 26
  rw [World.size_alloc] at B2
  have hn0 := fun W (_ : Below w.heap.size w W) => name_any p.name (by have := hm.1; unfold maxLen; omega) W
  have HE : Hid (pjB n p = (nameB p.name && decide (1 ≤ m) && decide (m ≤ n) && decide (0 ≤ p.keys.toInt) && decide (p.keys.toInt ≤ (m : Int)) && p.cols.all (colIn n) && !tw sameI p.cols)) := by unfold Hid pjB; rw [hma]
  have ca := fun W (hW : Below w.heap.size w W) (B : Nat) (hB : W.cell? ⟨B, 1, none⟩ = some (.slice a n cap)) => allI_any (hI.over stays_int hW) (by rw [hma]; omega) 110 #[.pointer (some ⟨B, 0, none⟩)] (colIn n) (enters_of Tryz.func110 (by kernel_rfl) rfl) (fun W2 x hW2 _ => colIn_any x B n a cap W2 ((hW2.cell (p := ⟨B, 1, none⟩) (World.block_lt_of_cell? W _ hB)).trans hB))
  have ct := fun W (hW : Below w.heap.size w W) => twI_any (hI.over stays_int hW) (by rw [hma]; omega) 112 #[] sameI (enters_of Tryz.func112 (by kernel_rfl) rfl) (fun W2 x y _ _ _ => sameI_any x y W2)
  obtain ⟨tn, htn⟩ : ∃ x, x = t.name := ⟨_, rfl⟩
  obtain ⟨pn, hpn⟩ : ∃ x, x = p.name := ⟨_, rfl⟩
  obtain ⟨pk, hpk⟩ : ∃ x, x = p.keys.toInt := ⟨_, rfl⟩
  rw [← htn, ← hpn, ← hpk] at hb0 B1 B2
  rw [← hpn] at hn0
  rw [← hpn, ← hpk] at HE
  rw [← htn, ← hpn, ← hpk]
  have HB : Hid (Below w.heap.size w _) := hb0
  have HX : Hid (Box _ w.heap.size 41 #[.string tn, .slice a n cap, .slice a3 n3 cap3] ∧ Box _ (w.heap.size + 1) 26 #[.string pn, .slice a2 m cap2, .int .i64 pk]) := ⟨B1, B2⟩
  obtain ⟨q1, hq1⟩ : ∃ q, q = nameB pn := ⟨_, rfl⟩
  obtain ⟨q2, hq2⟩ : ∃ q, q = p.cols.all (colIn n) := ⟨_, rfl⟩
  obtain ⟨q3, hq3⟩ : ∃ q, q = tw sameI p.cols := ⟨_, rfl⟩
  rw [← hq1, ← hq2, ← hq3] at HE
  rw [← hq1] at hn0
  rw [← hq2] at ca
  rw [← hq3] at ct
  have hnI : (n : Int) ≤ 1000000 := by omega
  have hmI : (m : Int) ≤ 1000000 := by omega
  have hn := hn0
  have HCA : Hid (∀ W, Below w.heap.size w W → ∀ B : Nat, W.cell? ⟨B, 1, none⟩ = some (.slice a n cap) → Calls Tryz.prog 109 #[.slice a2 m cap2, .func (.func 110) #[] #[.pointer (some ⟨B, 0, none⟩)]] W fun e w' => e = .returned (.bool q2) ∧ Below W.heap.size W w') := ca
  have HCT : Hid (∀ W, Below w.heap.size w W → Calls Tryz.prog 111 #[.slice a2 m cap2, .func (.func 112) #[] #[]] W fun e w' => e = .returned (.bool q3) ∧ Below W.heap.size W w') := ct
  clear hC hP hI hna hma hca hca2 hb0 B1 B2 htn hpn hpk hq1 hq2 hq3 ca ct hm hm2 hn0
  cases q1 with
  | false =>
    go_enter Tryz.func60, Tryz.ntmps60
    go_wp2_with fail
    refine (hn _ HB.out).mono ?_
    rintro e w1 ⟨rfl, hb⟩
    have hw1 := HB.out.trans (hb.mono HB.out.size)
    have p1 := (HX.out.2.over hb).cell 1 _ rfl
    have p2 := (HX.out.2.over hb).cell 2 _ rfl
    have t1 := (HX.out.1.over hb).cell 1 _ rfl
    clear hn
    go_wp2_with fail
    go_ret
    exact ⟨ret_bool (by rw [HE.out]; rfl), hw1⟩
  | true =>
    by_cases h1 : (m : Int) < 1
    · have e1 : decide (1 ≤ m) = false := by simp; omega
      rw [e1] at HE
      go_enter Tryz.func60, Tryz.ntmps60
      go_wp2_with fail
      refine (hn _ HB.out).mono ?_
      rintro e w1 ⟨rfl, hb⟩
      have hw1 := HB.out.trans (hb.mono HB.out.size)
      have p1 := (HX.out.2.over hb).cell 1 _ rfl
      have p2 := (HX.out.2.over hb).cell 2 _ rfl
      have t1 := (HX.out.1.over hb).cell 1 _ rfl
      clear hn
      go_wp2_with fail
      go_ret
      exact ⟨ret_bool (by rw [HE.out]; rfl), hw1⟩
    · have e1 : decide (1 ≤ m) = true := by simp; omega
      by_cases h2 : (n : Int) < (m : Int)
      · have e2 : decide (m ≤ n) = false := by simp; omega
        rw [e1, e2] at HE
        clear e1 e2
        go_enter Tryz.func60, Tryz.ntmps60
        go_wp2_with fail
        refine (hn _ HB.out).mono ?_
        rintro e w1 ⟨rfl, hb⟩
        have hw1 := HB.out.trans (hb.mono HB.out.size)
        have p1 := (HX.out.2.over hb).cell 1 _ rfl
        have p2 := (HX.out.2.over hb).cell 2 _ rfl
        have t1 := (HX.out.1.over hb).cell 1 _ rfl
        clear hn
        go_wp2_with fail
        go_ret
        exact ⟨ret_bool (by rw [HE.out]; rfl), hw1⟩
      · have e2 : decide (m ≤ n) = true := by simp; omega
        by_cases h3 : pk < 0
        · have e3 : decide (0 ≤ pk) = false := by simp; omega
          rw [e1, e2, e3] at HE
          clear e1 e2 e3
          go_enter Tryz.func60, Tryz.ntmps60
          go_wp2_with fail
          refine (hn _ HB.out).mono ?_
          rintro e w1 ⟨rfl, hb⟩
          have hw1 := HB.out.trans (hb.mono HB.out.size)
          have p1 := (HX.out.2.over hb).cell 1 _ rfl
          have p2 := (HX.out.2.over hb).cell 2 _ rfl
          have t1 := (HX.out.1.over hb).cell 1 _ rfl
          clear hn
          go_wp2_with fail
          go_ret
          exact ⟨ret_bool (by rw [HE.out]; rfl), hw1⟩
        · have e3 : decide (0 ≤ pk) = true := by simp; omega
          by_cases h4 : (m : Int) < pk
          · have e4 : decide (pk ≤ (m : Int)) = false := by simp; omega
            rw [e1, e2, e3, e4] at HE
            clear e1 e2 e3 e4
            go_enter Tryz.func60, Tryz.ntmps60
            go_wp2_with fail
            refine (hn _ HB.out).mono ?_
            rintro e w1 ⟨rfl, hb⟩
            have hw1 := HB.out.trans (hb.mono HB.out.size)
            have p1 := (HX.out.2.over hb).cell 1 _ rfl
            have p2 := (HX.out.2.over hb).cell 2 _ rfl
            have t1 := (HX.out.1.over hb).cell 1 _ rfl
            clear hn
            go_wp2_with fail
            go_ret
            exact ⟨ret_bool (by rw [HE.out]; rfl), hw1⟩
          · have e4 : decide (pk ≤ (m : Int)) = true := by simp; omega
            rw [e1, e2, e3, e4] at HE
            clear e1 e2 e3 e4
            cases q2 with
            | false =>
              go_enter Tryz.func60, Tryz.ntmps60
              go_wp2_with fail
              refine (hn _ HB.out).mono ?_
              rintro e w1 ⟨rfl, hb⟩
              have hw1 := HB.out.trans (hb.mono HB.out.size)
              have p1 := (HX.out.2.over hb).cell 1 _ rfl
              have p2 := (HX.out.2.over hb).cell 2 _ rfl
              have t1 := (HX.out.1.over hb).cell 1 _ rfl
              clear hn
              go_wp2_with fail
              refine (HCA.out _ hw1 _ t1).mono ?_
              rintro e w2 ⟨rfl, hb2⟩
              have hw2 := hw1.trans (hb2.mono hw1.size)
              go_wp2_with fail
              go_ret
              exact ⟨ret_bool (by rw [HE.out]; rfl), hw2⟩
            | true =>
              go_enter Tryz.func60, Tryz.ntmps60
              go_wp2_with fail
              refine (hn _ HB.out).mono ?_
              rintro e w1 ⟨rfl, hb⟩
              have hw1 := HB.out.trans (hb.mono HB.out.size)
              have p1 := (HX.out.2.over hb).cell 1 _ rfl
              have p2 := (HX.out.2.over hb).cell 2 _ rfl
              have t1 := (HX.out.1.over hb).cell 1 _ rfl
              clear hn
              go_wp2_with fail
              refine (HCA.out _ hw1 _ t1).mono ?_
              rintro e w2 ⟨rfl, hb2⟩
              have hw2 := hw1.trans (hb2.mono hw1.size)
              have hb12 := hb.trans (hb2.mono hb.size)
              clear p1 p2 t1
              have p1 := (HX.out.2.over hb12).cell 1 _ rfl
              go_wp2_with fail
              refine (HCT.out _ hw2).mono ?_
              rintro e w3 ⟨rfl, hb3⟩
              have hw3 := hw2.trans (hb3.mono hw2.size)
              go_wp2_with fail
              go_ret
              exact ⟨ret_bool (by rw [HE.out]; rfl), hw3⟩
end Go.Proofs.YtdjobjbkpagnaaaGreat
/-
  The contracts of schema's canBeRead, mayBe and Check, and of the closures that they give.
-/
namespace Go.Proofs.YtdjobjbkpagnaaaGreat
open Go.RowKit Go.Shelf

set_option maxHeartbeats 1000000 in
theorem fn_read {w : World} {t : Tb} {b0 b1 b2 : Value} (ht : TbE w t [b0, b1, b2]) (B : Nat) (hB0 : w.cell? ⟨B, 0, none⟩ = some b0) (hB1 : w.cell? ⟨B, 1, none⟩ = some b1) (hB2 : w.cell? ⟨B, 2, none⟩ = some b2) (hn : t.cols.length ≤ 1000000) (hl : ∀ p ∈ t.projs, litP p) :
    FnP 117 #[.pointer (some ⟨B, 0, none⟩)] w t.projs (fun p => superB t.cols.length p.cols) := by
  intro W x c0 c1 c2 hW hx hE
  have b1' := below1 W (.cells #[c0, c1, c2] 26)
  have hWb := hW.trans (b1'.mono hW.size)
  have f0 := (hWb.cell (p := ⟨B, 0, none⟩) (World.block_lt_of_cell? w _ hB0)).trans hB0
  have f1 := (hWb.cell (p := ⟨B, 1, none⟩) (World.block_lt_of_cell? w _ hB1)).trans hB1
  have f2 := (hWb.cell (p := ⟨B, 2, none⟩) (World.block_lt_of_cell? w _ hB2)).trans hB2
  have hc := super_any (stays_tb _ _ _ _ ht hWb) (stays_pj _ _ _ _ hE b1') hn (Nat.le_trans (hl x hx).2 (by decide))
  show Calls _ _ _ _ fun e w' => e = .returned (.bool (superB t.cols.length x.cols)) ∧ Below W.heap.size W w'
  have HB : Hid (Below W.heap.size W (W.alloc (.cells #[c0, c1, c2] 26))) := b1'
  generalize superB t.cols.length x.cols = r at *
  clear ht hB0 hB1 hB2 hl hE b1' hWb hn
  go_enter Tryz.func117, Tryz.ntmps117
  go_wp2_with fail
  refine hc.mono ?_
  rintro e w1 ⟨rfl, hb1⟩
  go_wp2_with fail
  go_ret
  exact ⟨rfl, HB.out.trans (hb1.mono HB.out.size)⟩
set_option maxHeartbeats 1000000 in
theorem fn_mayOf {w : World} {t : Tb} {b0 b1 b2 : Value} (ht : TbE w t [b0, b1, b2]) (B : Nat) (hB0 : w.cell? ⟨B, 0, none⟩ = some b0) (hB1 : w.cell? ⟨B, 1, none⟩ = some b1) (hB2 : w.cell? ⟨B, 2, none⟩ = some b2) (hn : t.cols.length ≤ 1000000) (hl : ∀ p ∈ t.projs, litP p) :
    FnP 75 #[.pointer (some ⟨B, 0, none⟩)] w t.projs (pjB t.cols.length) := by
  intro W x c0 c1 c2 hW hx hE
  have b1' := below1 W (.cells #[c0, c1, c2] 26)
  have hWb := hW.trans (b1'.mono hW.size)
  have f0 := (hWb.cell (p := ⟨B, 0, none⟩) (World.block_lt_of_cell? w _ hB0)).trans hB0
  have f1 := (hWb.cell (p := ⟨B, 1, none⟩) (World.block_lt_of_cell? w _ hB1)).trans hB1
  have f2 := (hWb.cell (p := ⟨B, 2, none⟩) (World.block_lt_of_cell? w _ hB2)).trans hB2
  have hc := mayOf_any (stays_tb _ _ _ _ ht hWb) (stays_pj _ _ _ _ hE b1') hn (hl x hx)
  show Calls _ _ _ _ fun e w' => e = .returned (.bool (pjB t.cols.length x)) ∧ Below W.heap.size W w'
  have HB : Hid (Below W.heap.size W (W.alloc (.cells #[c0, c1, c2] 26))) := b1'
  generalize pjB t.cols.length x = r at *
  clear ht hB0 hB1 hB2 hl hE b1' hWb hn
  go_enter Tryz.func75, Tryz.ntmps75
  go_wp2_with fail
  refine hc.mono ?_
  rintro e w1 ⟨rfl, hb1⟩
  go_wp2_with fail
  go_ret
  exact ⟨rfl, HB.out.trans (hb1.mono HB.out.size)⟩
theorem pj_cells {w : World} {p : Pj} {d0 d1 d2 : Value} (h : PjE w p [d0, d1, d2]) : d0 = .string p.name ∧ ∃ a n c, d1 = .slice a n c ∧ d2 = .int .i64 p.keys.toInt := by
  obtain ⟨vi, ep, hI⟩ := h
  simp only [List.cons.injEq, and_true] at ep
  obtain ⟨rfl, rfl, rfl⟩ := ep
  obtain ⟨a, m, cap, rfl, _⟩ := hI.slice
  exact ⟨rfl, a, m, cap, rfl, rfl⟩
theorem tb_cells {w : World} {t : Tb} {c0 c1 c2 : Value} (h : TbE w t [c0, c1, c2]) : c0 = .string t.name ∧ ∃ a n c a2 n2 c3, c1 = .slice a n c ∧ c2 = .slice a2 n2 c3 ∧ t.cols.length = n ∧ t.projs.length = n2 ∧ ColsIs w (.slice a n c) t.cols ∧ PjsIs w (.slice a2 n2 c3) t.projs := by
  obtain ⟨vc, vp, ep, hC, hP⟩ := h
  simp only [List.cons.injEq, and_true] at ep
  obtain ⟨rfl, rfl, rfl⟩ := ep
  obtain ⟨a, m, cap, rfl, h1, _⟩ := hC.slice
  obtain ⟨a2, m2, cap2, rfl, h2, _⟩ := hP.slice
  exact ⟨rfl, a, m, cap, a2, m2, cap2, rfl, rfl, h1, h2, hC, hP⟩
set_option maxHeartbeats 1000000 in
theorem fs_sameP (l : List Pj) (w : World) : FsP 77 #[] w l sameP := fun W x y c0 c1 c2 d0 d1 d2 _ _ _ hE hE2 => by
  obtain ⟨rfl, a, n, c, rfl, rfl⟩ := pj_cells hE
  obtain ⟨rfl, a2, n2, c2, rfl, rfl⟩ := pj_cells hE2
  have HB : Hid (Below W.heap.size W _) := below2 W (.cells #[.string x.name, .slice a n c, .int .i64 x.keys.toInt] 26) (.cells #[.string y.name, .slice a2 n2 c2, .int .i64 y.keys.toInt] 26)
  clear hE hE2
  go_enter Tryz.func77, Tryz.ntmps77
  go_wp2_with fail
  go_ret
  exact ⟨ret_bool (eqS_beq _ _), HB.out⟩
set_option maxHeartbeats 1000000 in
theorem fs_sameT (l : List Tb) (w : World) : FsT 37 #[] w l sameT := fun W x y c0 c1 c2 d0 d1 d2 _ _ _ hE hE2 => by
  obtain ⟨rfl, a, n, c, a3, n3, c3, rfl, rfl, _⟩ := tb_cells hE
  obtain ⟨rfl, a4, n4, c4, a5, n5, c5, rfl, rfl, _⟩ := tb_cells hE2
  have HB : Hid (Below W.heap.size W _) := below2 W (.cells #[.string x.name, .slice a n c, .slice a3 n3 c3] 41) (.cells #[.string y.name, .slice a4 n4 c4, .slice a5 n5 c5] 41)
  clear hE hE2
  go_enter Tryz.func37, Tryz.ntmps37
  go_wp2_with fail
  go_ret
  exact ⟨ret_bool (eqS_beq _ _), HB.out⟩

set_option maxHeartbeats 1000000 in
theorem canRead_any {w : World} {t : Tb} {c0 c1 c2 : Value} (ht : TbE w t [c0, c1, c2]) (hl : litT t) :
    Calls Tryz.prog 65 #[.agg #[c0, c1, c2]] w fun e w' => e = .returned (.bool (readB t.cols.length t.projs)) ∧ Below w.heap.size w w' := by
  have b1 := below1 w (.cells #[c0, c1, c2] 41)
  have B1 := box_new w #[c0, c1, c2] 41
  have hT := stays_tb _ _ _ _ ht b1
  have hfn := fn_read hT w.heap.size (B1.cell 0 _ rfl) (B1.cell 1 _ rfl) (B1.cell 2 _ rfl) (Nat.le_trans hl.2.1 (by decide)) hl.2.2.2.2
  obtain ⟨rfl, a, n, c, a3, n3, c3, rfl, rfl, h1, h2, hC, hP⟩ := tb_cells hT
  have hc := hasP_any hP (Nat.le_trans hl.2.2.1 (by decide)) _ _ _ (enters_of Tryz.func117 (by kernel_rfl) rfl) hfn
  have HE : Hid (readB t.cols.length t.projs = t.projs.any fun p => superB t.cols.length p.cols) := rfl
  obtain ⟨r, hr⟩ : ∃ r, r = t.projs.any fun p => superB t.cols.length p.cols := ⟨_, rfl⟩
  rw [← hr] at hc HE
  have HB : Hid (Below w.heap.size w _) := b1
  clear ht hl b1 B1 hT hfn h1 h2 hC hP hr
  go_enter Tryz.func65, Tryz.ntmps65
  go_wp2_with fail
  refine hc.mono ?_
  rintro e w1 ⟨rfl, hb1⟩
  go_wp2_with fail
  go_ret
  exact ⟨ret_bool HE.out.symm, HB.out.trans (hb1.mono HB.out.size)⟩
set_option maxRecDepth 4000 in
set_option maxHeartbeats 4000000 in
theorem mayT_any {w : World} {t : Tb} {c0 c1 c2 : Value} (ht : TbE w t [c0, c1, c2]) (hl : litT t) :
    Calls Tryz.prog 35 #[.agg #[c0, c1, c2]] w fun e w' => e = .returned (.bool (tbB t)) ∧ Below w.heap.size w w' := by
  have b1 := below1 w (.cells #[c0, c1, c2] 41)
  have B1 := box_new w #[c0, c1, c2] 41
  have hT := stays_tb _ _ _ _ ht b1
  obtain ⟨rfl, a, n, c, a3, n3, c3, rfl, rfl, h1, h2, hC, hP⟩ := tb_cells ht
  have hn := fun W => name_any t.name (by have := hl.1; unfold maxLen; omega) W
  have HC1 : Hid (∀ W, Below w.heap.size w W → Calls Tryz.prog 57 #[.slice a n c] W fun e w' => e = .returned (.bool (colsB t.cols)) ∧ Below W.heap.size W w') := fun W hW => mayCols_any (hC.over stays_col hW) (Nat.le_trans hl.2.1 (by decide)) hl.2.2.2.1
  have HC2 : Hid (∀ W, Below w.heap.size w W → Below (w.alloc (.cells #[.string t.name, .slice a n c, .slice a3 n3 c3] 41)).heap.size (w.alloc (.cells #[.string t.name, .slice a n c, .slice a3 n3 c3] 41)) W → Calls Tryz.prog 74 #[.slice a3 n3 c3, .func (.func 75) #[] #[.pointer (some ⟨w.heap.size, 0, none⟩)]] W fun e w' => e = .returned (.bool (t.projs.all (pjB t.cols.length))) ∧ Below W.heap.size W w') := fun W hW hW2 =>
    allP_any (hP.over stays_pj hW) (Nat.le_trans hl.2.2.1 (by decide)) _ _ _ (enters_of Tryz.func75 (by kernel_rfl) rfl) (fn_mayOf (stays_tb _ _ _ _ ht hW) w.heap.size ((B1.over hW2).cell 0 _ rfl) ((B1.over hW2).cell 1 _ rfl) ((B1.over hW2).cell 2 _ rfl) (Nat.le_trans hl.2.1 (by decide)) hl.2.2.2.2)
  have HC3 : Hid (∀ W, Below w.heap.size w W → Calls Tryz.prog 65 #[.agg #[.string t.name, .slice a n c, .slice a3 n3 c3]] W fun e w' => e = .returned (.bool (readB t.cols.length t.projs)) ∧ Below W.heap.size W w') := fun W hW => canRead_any (stays_tb _ _ _ _ ht hW) hl
  have HC4 : Hid (∀ W, Below w.heap.size w W → Calls Tryz.prog 76 #[.slice a3 n3 c3, .func (.func 77) #[] #[]] W fun e w' => e = .returned (.bool (tw sameP t.projs)) ∧ Below W.heap.size W w') := fun W hW => twP_any (hP.over stays_pj hW) (Nat.le_trans hl.2.2.1 (by decide)) _ _ _ (enters_of Tryz.func77 (by kernel_rfl) rfl) (fs_sameP _ _)
  have HE : Hid (tbB t = (nameB t.name && colsB t.cols && decide (n3 ≤ 6) && t.projs.all (pjB t.cols.length) && readB t.cols.length t.projs && !tw sameP t.projs)) := by unfold Hid tbB; rw [h2]
  have h3 : (n3 : Int) ≤ 1000000 := by have := hl.2.2.1; omega
  obtain ⟨q1, hq1⟩ : ∃ q, q = nameB t.name := ⟨_, rfl⟩
  obtain ⟨q2, hq2⟩ : ∃ q, q = colsB t.cols := ⟨_, rfl⟩
  obtain ⟨q4, hq4⟩ : ∃ q, q = t.projs.all (pjB t.cols.length) := ⟨_, rfl⟩
  obtain ⟨q5, hq5⟩ : ∃ q, q = readB t.cols.length t.projs := ⟨_, rfl⟩
  obtain ⟨q6, hq6⟩ : ∃ q, q = tw sameP t.projs := ⟨_, rfl⟩
  rw [← hq1, ← hq2, ← hq4, ← hq5, ← hq6] at HE
  rw [← hq1] at hn
  rw [← hq2] at HC1
  rw [← hq4] at HC2
  rw [← hq5] at HC3
  rw [← hq6] at HC4
  have HB : Hid (Below w.heap.size w _) := b1
  have HX : Hid (Box _ w.heap.size 41 #[.string t.name, .slice a n c, .slice a3 n3 c3]) := B1
  clear ht hl b1 B1 hT h1 h2 hC hP hq1 hq2 hq4 hq5 hq6
  cases q1 with
  | false =>
    go_enter Tryz.func35, Tryz.ntmps35
    go_wp2_with fail
    refine (hn _).mono ?_
    rintro e w1 ⟨rfl, hb⟩
    have hw1 := HB.out.trans (hb.mono HB.out.size)
    clear hn
    go_wp2_with fail
    go_ret
    exact ⟨ret_bool (by rw [HE.out]; rfl), hw1⟩
  | true =>
    cases q2 with
    | false =>
      go_enter Tryz.func35, Tryz.ntmps35
      go_wp2_with fail
      refine (hn _).mono ?_
      rintro e w1 ⟨rfl, hb⟩
      have hw1 := HB.out.trans (hb.mono HB.out.size)
      clear hn
      have p1 := (HX.out.over hb).cell 1 _ rfl
      go_wp2_with fail
      refine (HC1.out _ hw1).mono ?_
      rintro e w2 ⟨rfl, hb2⟩
      have hw2 := hw1.trans (hb2.mono hw1.size)
      have hb12 := hb.trans (hb2.mono hb.size)
      clear p1
      have p2 := (HX.out.over hb12).cell 2 _ rfl
      go_wp2_with fail
      go_ret
      exact ⟨ret_bool (by rw [HE.out]; rfl), hw2⟩
    | true =>
      by_cases h6 : 6 < (n3 : Int)
      · have e6 : decide (n3 ≤ 6) = false := by simp; omega
        rw [e6] at HE
        clear e6
        go_enter Tryz.func35, Tryz.ntmps35
        go_wp2_with fail
        refine (hn _).mono ?_
        rintro e w1 ⟨rfl, hb⟩
        have hw1 := HB.out.trans (hb.mono HB.out.size)
        clear hn
        have p1 := (HX.out.over hb).cell 1 _ rfl
        go_wp2_with fail
        refine (HC1.out _ hw1).mono ?_
        rintro e w2 ⟨rfl, hb2⟩
        have hw2 := hw1.trans (hb2.mono hw1.size)
        have hb12 := hb.trans (hb2.mono hb.size)
        clear p1
        have p2 := (HX.out.over hb12).cell 2 _ rfl
        go_wp2_with fail
        go_ret
        exact ⟨ret_bool (by rw [HE.out]; rfl), hw2⟩
      · have e6 : decide (n3 ≤ 6) = true := by simp; omega
        rw [e6] at HE
        clear e6
        cases q4 with
        | false =>
          go_enter Tryz.func35, Tryz.ntmps35
          go_wp2_with fail
          refine (hn _).mono ?_
          rintro e w1 ⟨rfl, hb⟩
          have hw1 := HB.out.trans (hb.mono HB.out.size)
          clear hn
          have p1 := (HX.out.over hb).cell 1 _ rfl
          go_wp2_with fail
          refine (HC1.out _ hw1).mono ?_
          rintro e w2 ⟨rfl, hb2⟩
          have hw2 := hw1.trans (hb2.mono hw1.size)
          have hb12 := hb.trans (hb2.mono hb.size)
          clear p1
          have p2 := (HX.out.over hb12).cell 2 _ rfl
          go_wp2_with fail
          refine (HC2.out _ hw2 hb12).mono ?_
          rintro e w3 ⟨rfl, hb3⟩
          have hw3 := hw2.trans (hb3.mono hw2.size)
          have hb13 := hb12.trans (hb3.mono hb12.size)
          clear p2
          have p0 := (HX.out.over hb13).cell 0 _ rfl
          have p1 := (HX.out.over hb13).cell 1 _ rfl
          have p2 := (HX.out.over hb13).cell 2 _ rfl
          go_wp2_with fail
          go_ret
          exact ⟨ret_bool (by rw [HE.out]; rfl), hw3⟩
        | true =>
          cases q5 with
          | false =>
            go_enter Tryz.func35, Tryz.ntmps35
            go_wp2_with fail
            refine (hn _).mono ?_
            rintro e w1 ⟨rfl, hb⟩
            have hw1 := HB.out.trans (hb.mono HB.out.size)
            clear hn
            have p1 := (HX.out.over hb).cell 1 _ rfl
            go_wp2_with fail
            refine (HC1.out _ hw1).mono ?_
            rintro e w2 ⟨rfl, hb2⟩
            have hw2 := hw1.trans (hb2.mono hw1.size)
            have hb12 := hb.trans (hb2.mono hb.size)
            clear p1
            have p2 := (HX.out.over hb12).cell 2 _ rfl
            go_wp2_with fail
            refine (HC2.out _ hw2 hb12).mono ?_
            rintro e w3 ⟨rfl, hb3⟩
            have hw3 := hw2.trans (hb3.mono hw2.size)
            have hb13 := hb12.trans (hb3.mono hb12.size)
            clear p2
            have p0 := (HX.out.over hb13).cell 0 _ rfl
            have p1 := (HX.out.over hb13).cell 1 _ rfl
            have p2 := (HX.out.over hb13).cell 2 _ rfl
            go_wp2_with fail
            refine (HC3.out _ hw3).mono ?_
            rintro e w4 ⟨rfl, hb4⟩
            have hw4 := hw3.trans (hb4.mono hw3.size)
            have hb14 := hb13.trans (hb4.mono hb13.size)
            clear p0 p1 p2
            have p2 := (HX.out.over hb14).cell 2 _ rfl
            go_wp2_with fail
            go_ret
            exact ⟨ret_bool (by rw [HE.out]; rfl), hw4⟩
          | true =>
            go_enter Tryz.func35, Tryz.ntmps35
            go_wp2_with fail
            refine (hn _).mono ?_
            rintro e w1 ⟨rfl, hb⟩
            have hw1 := HB.out.trans (hb.mono HB.out.size)
            clear hn
            have p1 := (HX.out.over hb).cell 1 _ rfl
            go_wp2_with fail
            refine (HC1.out _ hw1).mono ?_
            rintro e w2 ⟨rfl, hb2⟩
            have hw2 := hw1.trans (hb2.mono hw1.size)
            have hb12 := hb.trans (hb2.mono hb.size)
            clear p1
            have p2 := (HX.out.over hb12).cell 2 _ rfl
            go_wp2_with fail
            refine (HC2.out _ hw2 hb12).mono ?_
            rintro e w3 ⟨rfl, hb3⟩
            have hw3 := hw2.trans (hb3.mono hw2.size)
            have hb13 := hb12.trans (hb3.mono hb12.size)
            clear p2
            have p0 := (HX.out.over hb13).cell 0 _ rfl
            have p1 := (HX.out.over hb13).cell 1 _ rfl
            have p2 := (HX.out.over hb13).cell 2 _ rfl
            go_wp2_with fail
            refine (HC3.out _ hw3).mono ?_
            rintro e w4 ⟨rfl, hb4⟩
            have hw4 := hw3.trans (hb4.mono hw3.size)
            have hb14 := hb13.trans (hb4.mono hb13.size)
            clear p0 p1 p2
            have p2 := (HX.out.over hb14).cell 2 _ rfl
            go_wp2_with fail
            refine (HC4.out _ hw4).mono ?_
            rintro e w5 ⟨rfl, hb5⟩
            have hw5 := hw4.trans (hb5.mono hw4.size)
            go_wp2_with fail
            go_ret
            exact ⟨ret_bool (by rw [HE.out]; rfl), hw5⟩
theorem fn_mayT {l : List Tb} (hl : ∀ t ∈ l, litT t) (w : World) : FnT 35 #[] w l tbB := fun _ x _ _ _ _ hx hE => mayT_any hE (hl x hx)
def errT (b : Bool) : Int := if b then 0 else 1
set_option maxHeartbeats 1000000 in
theorem check_any {w : World} {v : Value} {l : List Tb} (h : TabsIs w v l) (hl : litL l) :
    Calls Tryz.prog 12 #[v] w fun e w' => e = .returned (.int .i64 (errT (tabsB l))) ∧ Below w.heap.size w w' := by
  have hl1 : l.length ≤ 1000000 := Nat.le_trans hl.1 (by decide)
  have ca := allT_any h hl1 35 #[] tbB (enters_of Tryz.func35 (by kernel_rfl) rfl) (fn_mayT hl.2 w)
  have ct := fun W (hW : Below w.heap.size w W) => twT_any (h.over stays_tb hW) hl1 37 #[] sameT (enters_of Tryz.func37 (by kernel_rfl) rfl) (fs_sameT l W)
  obtain ⟨a, n, cap, rfl, hn, _⟩ := h.slice
  have HE : Hid (tabsB l = (decide (n ≤ 8) && l.all tbB && !tw sameT l)) := by unfold Hid tabsB; rw [hn]
  obtain ⟨p, hp⟩ : ∃ p, p = l.all tbB := ⟨_, rfl⟩
  obtain ⟨q, hq⟩ : ∃ q, q = tw sameT l := ⟨_, rfl⟩
  rw [← hp, ← hq] at HE
  rw [← hp] at ca
  rw [← hq] at ct
  have hnI : (n : Int) ≤ 1000000 := by omega
  clear h hl hl1 hn hp hq
  by_cases h1 : 8 < (n : Int)
  · have d1 : decide (n ≤ 8) = false := by simp; omega
    rw [d1] at HE
    go_enter Tryz.func12, Tryz.ntmps12
    go_wp2_with fail
    go_ret
    exact ⟨ret_int (by rw [HE.out]; rfl), Below.refl _ _⟩
  · have d1 : decide (n ≤ 8) = true := by simp; omega
    rw [d1] at HE
    cases p with
    | false =>
      go_enter Tryz.func12, Tryz.ntmps12
      go_wp2_with fail
      refine ca.mono ?_
      rintro e w1 ⟨rfl, hb⟩
      go_wp2_with fail
      go_ret
      exact ⟨ret_int (by rw [HE.out]; rfl), hb⟩
    | true =>
      cases q with
      | false =>
        go_enter Tryz.func12, Tryz.ntmps12
        go_wp2_with fail
        refine ca.mono ?_
        rintro e w1 ⟨rfl, hb⟩
        have ct1 := ct w1 hb
        clear ct ca
        go_wp2_with fail
        refine ct1.mono ?_
        rintro e w2 ⟨rfl, hb2⟩
        go_wp2_with fail
        go_ret
        exact ⟨ret_int (by rw [HE.out]; rfl), hb.trans (hb2.mono hb.size)⟩
      | true =>
        go_enter Tryz.func12, Tryz.ntmps12
        go_wp2_with fail
        refine ca.mono ?_
        rintro e w1 ⟨rfl, hb⟩
        have ct1 := ct w1 hb
        clear ct ca
        go_wp2_with fail
        refine ct1.mono ?_
        rintro e w2 ⟨rfl, hb2⟩
        go_wp2_with fail
        go_ret
        exact ⟨ret_int (by rw [HE.out]; rfl), hb.trans (hb2.mono hb.size)⟩
end Go.Proofs.YtdjobjbkpagnaaaGreat
/-
  The contracts of schema's Find, Column and whichOf, of the closures that they give, and of the document's Find, Column and projection.
-/
namespace Go.Proofs.YtdjobjbkpagnaaaGreat
open Go.RowKit Go.Shelf

set_option maxHeartbeats 1000000 in
theorem fn_nameT (l : List Tb) (w : World) (n : ByteArray) (B : Nat) (hB : w.cell? ⟨B, 0, none⟩ = some (.string n)) : FnT 44 #[.pointer (some ⟨B, 0, none⟩)] w l (fun x => eqS x.name n) := by
  intro W x c0 c1 c2 hW hx hE
  obtain ⟨rfl, a, n2, c, a3, n3, c3, rfl, rfl, _⟩ := tb_cells hE
  have b1 := below1 W (.cells #[.string x.name, .slice a n2 c, .slice a3 n3 c3] 41)
  have hWb := hW.trans (b1.mono hW.size)
  have f0 := (hWb.cell (p := ⟨B, 0, none⟩) (World.block_lt_of_cell? w _ hB)).trans hB
  have HB : Hid (Below W.heap.size W _) := b1
  clear hB hE b1 hWb
  go_enter Tryz.func44, Tryz.ntmps44
  go_wp2_with fail
  go_ret
  exact ⟨ret_bool (eqS_beq _ _), HB.out⟩
set_option maxHeartbeats 1000000 in
theorem fn_nameC (l : List Col) (w : World) (n : ByteArray) (B : Nat) (hB : w.cell? ⟨B, 0, none⟩ = some (.string n)) : FnC 55 #[.pointer (some ⟨B, 0, none⟩)] w l (fun x => eqS x.name n) := by
  intro W x c0 c1 c2 hW hx hE
  have e : [c0, c1, c2] = colC x := hE
  simp only [colC, List.cons.injEq, and_true] at e
  obtain ⟨rfl, rfl, rfl⟩ := e
  have b1 := below1 W (.cells #[.string x.name, .int .i64 x.kind.toInt, .bool x.null] 53)
  have hWb := hW.trans (b1.mono hW.size)
  have f0 := (hWb.cell (p := ⟨B, 0, none⟩) (World.block_lt_of_cell? w _ hB)).trans hB
  have HB : Hid (Below W.heap.size W _) := b1
  clear hB hE b1 hWb
  go_enter Tryz.func55, Tryz.ntmps55
  go_wp2_with fail
  go_ret
  exact ⟨ret_bool (eqS_beq _ _), HB.out⟩
set_option maxHeartbeats 1000000 in
theorem fn_nameP (l : List Pj) (w : World) (n : ByteArray) (B : Nat) (hB : w.cell? ⟨B, 0, none⟩ = some (.string n)) : FnP 114 #[.pointer (some ⟨B, 0, none⟩)] w l (fun x => eqS x.name n) := by
  intro W x c0 c1 c2 hW hx hE
  obtain ⟨rfl, a, n2, c, rfl, rfl⟩ := pj_cells hE
  have b1 := below1 W (.cells #[.string x.name, .slice a n2 c, .int .i64 x.keys.toInt] 26)
  have hWb := hW.trans (b1.mono hW.size)
  have f0 := (hWb.cell (p := ⟨B, 0, none⟩) (World.block_lt_of_cell? w _ hB)).trans hB
  have HB : Hid (Below W.heap.size W _) := b1
  clear hB hE b1 hWb
  go_enter Tryz.func114, Tryz.ntmps114
  go_wp2_with fail
  go_ret
  exact ⟨ret_bool (eqS_beq _ _), HB.out⟩
set_option maxHeartbeats 1000000 in
theorem find_any {w : World} {v : Value} {l : List Tb} (h : TabsIs w v l) (hl : l.length ≤ 1000000) (n : ByteArray) :
    Calls Tryz.prog 15 #[v, .string n] w fun e w' => e = .returned (.int .i64 (findT l n)) ∧ Below w.heap.size w w' := by
  have b1 := below1 w (.cells #[.string n] 9)
  have B1 := box_new w #[.string n] 9
  have hc := idxT_any (h.over stays_tb b1) hl _ _ _ (enters_of Tryz.func44 (by kernel_rfl) rfl) (fn_nameT l _ n w.heap.size (B1.cell 0 _ rfl))
  have HE : Hid (findT l n = idxI (fun x => eqS x.name n) l) := rfl
  obtain ⟨r, hr⟩ : ∃ r, r = idxI (fun x : Tb => eqS x.name n) l := ⟨_, rfl⟩
  rw [← hr] at hc HE
  have HB : Hid (Below w.heap.size w _) := b1
  obtain ⟨a, m, cap, rfl, _⟩ := h.slice
  clear h hl b1 B1 hr
  go_enter Tryz.func15, Tryz.ntmps15
  go_wp2_with fail
  refine hc.mono ?_
  rintro e w1 ⟨rfl, hb1⟩
  go_wp2_with fail
  go_ret
  exact ⟨ret_int HE.out.symm, HB.out.trans (hb1.mono HB.out.size)⟩
set_option maxHeartbeats 1000000 in
theorem column_any {w : World} {t : Tb} {c0 c1 c2 : Value} (ht : TbE w t [c0, c1, c2]) (hl : t.cols.length ≤ 1000000) (n : ByteArray) :
    Calls Tryz.prog 21 #[.agg #[c0, c1, c2], .string n] w fun e w' => e = .returned (.int .i64 (findC t.cols n)) ∧ Below w.heap.size w w' := by
  obtain ⟨rfl, a, m, c, a3, m3, c3, rfl, rfl, h1, h2, hC, hP⟩ := tb_cells ht
  have b1 := below2 w (.cells #[.string t.name, .slice a m c, .slice a3 m3 c3] 41) (.cells #[.string n] 9)
  have B1 := box_new (w.alloc (.cells #[.string t.name, .slice a m c, .slice a3 m3 c3] 41)) #[.string n] 9
  rw [World.size_alloc] at B1
  have hc := idxC_any (hC.over stays_col b1) hl _ _ _ (enters_of Tryz.func55 (by kernel_rfl) rfl) (fn_nameC t.cols _ n (w.heap.size + 1) (B1.cell 0 _ rfl))
  have HE : Hid (findC t.cols n = idxI (fun x => eqS x.name n) t.cols) := rfl
  obtain ⟨r, hr⟩ : ∃ r, r = idxI (fun x => eqS x.name n) t.cols := ⟨_, rfl⟩
  rw [← hr] at hc HE
  have HB : Hid (Below w.heap.size w _) := b1
  clear ht hl b1 B1 h1 h2 hC hP hr
  go_enter Tryz.func21, Tryz.ntmps21
  go_wp2_with fail
  refine hc.mono ?_
  rintro e w1 ⟨rfl, hb1⟩
  go_wp2_with fail
  go_ret
  exact ⟨ret_int HE.out.symm, HB.out.trans (hb1.mono HB.out.size)⟩
set_option maxHeartbeats 1000000 in
theorem which_any {w : World} {t : Tb} {c0 c1 c2 : Value} (ht : TbE w t [c0, c1, c2]) (hl : t.projs.length ≤ 1000000) (n : ByteArray) :
    Calls Tryz.prog 61 #[.agg #[c0, c1, c2], .string n] w fun e w' => e = .returned (.int .i64 (findP t.projs n)) ∧ Below w.heap.size w w' := by
  obtain ⟨rfl, a, m, c, a3, m3, c3, rfl, rfl, h1, h2, hC, hP⟩ := tb_cells ht
  have b1 := below2 w (.cells #[.string t.name, .slice a m c, .slice a3 m3 c3] 41) (.cells #[.string n] 9)
  have B1 := box_new (w.alloc (.cells #[.string t.name, .slice a m c, .slice a3 m3 c3] 41)) #[.string n] 9
  rw [World.size_alloc] at B1
  have hc := idxP_any (hP.over stays_pj b1) hl _ _ _ (enters_of Tryz.func114 (by kernel_rfl) rfl) (fn_nameP t.projs _ n (w.heap.size + 1) (B1.cell 0 _ rfl))
  have HE : Hid (findP t.projs n = idxI (fun x => eqS x.name n) t.projs) := rfl
  obtain ⟨r, hr⟩ : ∃ r, r = idxI (fun x => eqS x.name n) t.projs := ⟨_, rfl⟩
  rw [← hr] at hc HE
  have HB : Hid (Below w.heap.size w _) := b1
  clear ht hl b1 B1 h1 h2 hC hP hr
  go_enter Tryz.func61, Tryz.ntmps61
  go_wp2_with fail
  refine hc.mono ?_
  rintro e w1 ⟨rfl, hb1⟩
  go_wp2_with fail
  go_ret
  exact ⟨ret_int HE.out.symm, HB.out.trans (hb1.mono HB.out.size)⟩
set_option maxRecDepth 4000 in
set_option maxHeartbeats 4000000 in
theorem refFind_any {w : World} {v : Value} {l : List Tb} (h : TabsIs w v l) (hl : l.length ≤ 1000000) (nm : ByteArray) :
    Calls Tryz.prog 20 #[v, .string nm] w fun e w' => e = .returned (.int .i64 (findT l nm)) ∧ w' = w := by
  obtain ⟨a, n, cap, rfl, hn, hcap⟩ := h.slice
  have hn1 : (n : Int) ≤ 1000000 := by omega
  have HH : Hid (TabsIs w (.slice a n cap) l ∧ l.length = n) := ⟨h, hn⟩
  clear h hl hn
  go_enter Tryz.func20, Tryz.ntmps20
  go_wp2_with fail
  go_loopg [5] n (fun gg s5 wx => ∃ k : Nat, k + gg = n ∧ s5 = .int .i64 k ∧ Hid ((l.take k).any (fun t => eqS t.name nm) = false) ∧ wx = w)
  case atStart => exact ⟨0, by omega, rfl, by unfold Hid; rw [List.take_zero]; rfl, rfl⟩
  case round =>
    obtain ⟨k, hkg, rfl, HN, hw⟩ := hrel
    subst hw
    by_cases hk : k < n
    · have hkI : (k : Int) < (n : Int) := by omega
      obtain ⟨x, d0, d1, d2, b, off, hs, rfl, hE, c0, c1, c2⟩ := at3T HH.out.1 hk
      obtain ⟨rfl, _⟩ := tb_cells hE
      have hr2 : IntKind.i64.wrap ((k : Int) + 1) = (k : Int) + 1 := by rw [IntKind.wrap_i64]; omega
      obtain ⟨q, hq⟩ : ∃ q, (x.name.toList == nm.toList) = q := ⟨_, rfl⟩
      have HS : Hid (l[k]? = some x ∧ (l.take (k + 1)).any (fun t => eqS t.name nm) = ((l.take k).any (fun t => eqS t.name nm) || eqS x.name nm) ∧ eqS x.name nm = q) := ⟨hs, any_take_succ hs, by rw [← hq, eqS_beq]⟩
      clear hE hs c1 c2
      cases q with
      | true =>
        go_wp2_with fail
        go_ret
        exact ⟨ret_int (idx_hit HN.out HS.out.1 HS.out.2.2).symm, rfl⟩
      | false =>
        go_wp2_with fail
        go_roundg (n - (k + 1))
        case measure => clear hr2; omega
        case rel => exact ⟨k + 1, by clear hr2; omega, by go_num, by unfold Hid; rw [HS.out.2.1, HN.out, HS.out.2.2]; rfl, rfl⟩
    · have hkI : ¬ (k : Int) < (n : Int) := by omega
      obtain rfl : k = n := by omega
      go_wp2_with fail
      go_ret
      exact ⟨ret_int (by have := HN.out; rw [List.take_of_length_le (by rw [HH.out.2]; exact Nat.le_refl _)] at this; exact (idx_none this).symm), rfl⟩
set_option maxRecDepth 4000 in
set_option maxHeartbeats 4000000 in
theorem refColumn_any {w : World} {t : Tb} {c0 c1 c2 : Value} (ht : TbE w t [c0, c1, c2]) (hl : t.cols.length ≤ 1000000) (nm : ByteArray) :
    Calls Tryz.prog 22 #[.agg #[c0, c1, c2], .string nm] w fun e w' => e = .returned (.int .i64 (findC t.cols nm)) ∧ Below w.heap.size w w' := by
  obtain ⟨rfl, aC, nC, capC, aP, nP, capP, rfl, rfl, hnC, hnP, hC, hP⟩ := tb_cells ht
  have b1 := below1 w (.cells #[.string t.name, .slice aC nC capC, .slice aP nP capP] 41)
  have B1 := box_new w #[.string t.name, .slice aC nC capC, .slice aP nP capP] 41
  have hn1 : (nC : Int) ≤ 1000000 := by omega
  have HH : Hid (SlIs ColE 3 w (.slice aC nC capC) t.cols ∧ t.cols.length = nC) := ⟨hC, hnC⟩
  have HZ : Hid (Unit → Below w.heap.size w _ ∧ Box _ w.heap.size 41 #[.string t.name, .slice aC nC capC, .slice aP nP capP]) := fun _ => ⟨b1, B1⟩
  clear ht hl hC hP hnC hnP b1 B1
  go_enter Tryz.func22, Tryz.ntmps22
  go_wp2_with fail
  go_loopg [5] nC (fun gg s5 wx => ∃ k : Nat, k + gg = nC ∧ s5 = .int .i64 k ∧ Hid ((t.cols.take k).any (fun t => eqS t.name nm) = false) ∧ Hid (Below w.heap.size w wx ∧ Box wx w.heap.size 41 #[.string t.name, .slice aC nC capC, .slice aP nP capP]))
  case atStart => exact ⟨0, by omega, rfl, by unfold Hid; rw [List.take_zero]; rfl, HZ.out ()⟩
  case round =>
    obtain ⟨k, hkg, rfl, HN, HB⟩ := hrel
    have f1 := HB.out.2.cell 1 _ rfl
    by_cases hk : k < nC
    · have hkI : (k : Int) < (nC : Int) := by omega
      obtain ⟨x, d0, d1, d2, b, off, hs, rfl, hE, c0, c1, c2⟩ := at3C (HH.out.1.over stays_col HB.out.1) hk
      have e : [d0, d1, d2] = colC x := hE
      simp only [colC, List.cons.injEq, and_true] at e
      obtain ⟨rfl, rfl, rfl⟩ := e
      have hr2 : IntKind.i64.wrap ((k : Int) + 1) = (k : Int) + 1 := by rw [IntKind.wrap_i64]; omega
      obtain ⟨q, hq⟩ : ∃ q, (x.name.toList == nm.toList) = q := ⟨_, rfl⟩
      have HS : Hid (t.cols[k]? = some x ∧ (t.cols.take (k + 1)).any (fun t => eqS t.name nm) = ((t.cols.take k).any (fun t => eqS t.name nm) || eqS x.name nm) ∧ eqS x.name nm = q) := ⟨hs, any_take_succ hs, by rw [← hq, eqS_beq]⟩
      clear hE hs c1 c2
      cases q with
      | true =>
        go_wp2_with fail
        go_ret
        exact ⟨ret_int (idx_hit HN.out HS.out.1 HS.out.2.2).symm, HB.out.1⟩
      | false =>
        go_wp2_with fail
        go_roundg (nC - (k + 1))
        case measure => clear hr2; omega
        case rel => exact ⟨k + 1, by clear hr2; omega, by go_num, by unfold Hid; rw [HS.out.2.1, HN.out, HS.out.2.2]; rfl, HB⟩
    · have hkI : ¬ (k : Int) < (nC : Int) := by omega
      obtain rfl : k = nC := by omega
      go_wp2_with fail
      go_ret
      exact ⟨ret_int (by have := HN.out; rw [List.take_of_length_le (by rw [HH.out.2]; exact Nat.le_refl _)] at this; exact (idx_none this).symm), HB.out.1⟩
set_option maxRecDepth 4000 in
set_option maxHeartbeats 4000000 in
theorem refWhich_any {w : World} {t : Tb} {c0 c1 c2 : Value} (ht : TbE w t [c0, c1, c2]) (hl : t.projs.length ≤ 1000000) (nm : ByteArray) :
    Calls Tryz.prog 70 #[.agg #[c0, c1, c2], .string nm] w fun e w' => e = .returned (.int .i64 (findP t.projs nm)) ∧ Below w.heap.size w w' := by
  obtain ⟨rfl, aC, nC, capC, aP, nP, capP, rfl, rfl, hnC, hnP, hC, hP⟩ := tb_cells ht
  have b1 := below1 w (.cells #[.string t.name, .slice aC nC capC, .slice aP nP capP] 41)
  have B1 := box_new w #[.string t.name, .slice aC nC capC, .slice aP nP capP] 41
  have hn1 : (nP : Int) ≤ 1000000 := by omega
  have HH : Hid (SlIs PjE 3 w (.slice aP nP capP) t.projs ∧ t.projs.length = nP) := ⟨hP, hnP⟩
  have HZ : Hid (Unit → Below w.heap.size w _ ∧ Box _ w.heap.size 41 #[.string t.name, .slice aC nC capC, .slice aP nP capP]) := fun _ => ⟨b1, B1⟩
  clear ht hl hC hP hnC hnP b1 B1
  go_enter Tryz.func70, Tryz.ntmps70
  go_wp2_with fail
  go_loopg [5] nP (fun gg s5 wx => ∃ k : Nat, k + gg = nP ∧ s5 = .int .i64 k ∧ Hid ((t.projs.take k).any (fun t => eqS t.name nm) = false) ∧ Hid (Below w.heap.size w wx ∧ Box wx w.heap.size 41 #[.string t.name, .slice aC nC capC, .slice aP nP capP]))
  case atStart => exact ⟨0, by omega, rfl, by unfold Hid; rw [List.take_zero]; rfl, HZ.out ()⟩
  case round =>
    obtain ⟨k, hkg, rfl, HN, HB⟩ := hrel
    have f1 := HB.out.2.cell 2 _ rfl
    by_cases hk : k < nP
    · have hkI : (k : Int) < (nP : Int) := by omega
      obtain ⟨x, d0, d1, d2, b, off, hs, rfl, hE, c0, c1, c2⟩ := at3P (HH.out.1.over stays_pj HB.out.1) hk
      obtain ⟨rfl, _⟩ := pj_cells hE
      have hr2 : IntKind.i64.wrap ((k : Int) + 1) = (k : Int) + 1 := by rw [IntKind.wrap_i64]; omega
      obtain ⟨q, hq⟩ : ∃ q, (x.name.toList == nm.toList) = q := ⟨_, rfl⟩
      have HS : Hid (t.projs[k]? = some x ∧ (t.projs.take (k + 1)).any (fun t => eqS t.name nm) = ((t.projs.take k).any (fun t => eqS t.name nm) || eqS x.name nm) ∧ eqS x.name nm = q) := ⟨hs, any_take_succ hs, by rw [← hq, eqS_beq]⟩
      clear hE hs c1 c2
      cases q with
      | true =>
        go_wp2_with fail
        go_ret
        exact ⟨ret_int (idx_hit HN.out HS.out.1 HS.out.2.2).symm, HB.out.1⟩
      | false =>
        go_wp2_with fail
        go_roundg (nP - (k + 1))
        case measure => clear hr2; omega
        case rel => exact ⟨k + 1, by clear hr2; omega, by go_num, by unfold Hid; rw [HS.out.2.1, HN.out, HS.out.2.2]; rfl, HB⟩
    · have hkI : ¬ (k : Int) < (nP : Int) := by omega
      obtain rfl : k = nP := by omega
      go_wp2_with fail
      go_ret
      exact ⟨ret_int (by have := HN.out; rw [List.take_of_length_le (by rw [HH.out.2]; exact Nat.le_refl _)] at this; exact (idx_none this).symm), HB.out.1⟩
end Go.Proofs.YtdjobjbkpagnaaaGreat
/-
  The contracts of the document's Columns, Projection, table and May.
-/
namespace Go.Proofs.YtdjobjbkpagnaaaGreat
open Go.RowKit Go.Shelf

theorem tw_true_of {α : Type} {same : α → α → Bool} {l : List α} {i j : Nat} {x y : α} (hij : i < j) (hx : l[i]? = some x) (hy : l[j]? = some y) (h : same x y = true) : tw same l = true := by
  cases e : tw same l with
  | true => rfl
  | false => rw [tw_false_iff.1 e i j x y hij hx hy] at h; exact h
theorem all_false_of {α : Type} {p : α → Bool} {l : List α} {i : Nat} {x : α} (hx : l[i]? = some x) (h : p x = false) : l.all p = false := by
  rw [List.all_eq_false]
  exact ⟨x, List.mem_of_getElem? hx, by rw [h]; simp⟩
theorem cols_bad1 {l : List Col} {i : Nat} {x : Col} (hx : l[i]? = some x) (h : colOk x = false) : colsB l = false := by
  unfold colsB; rw [all_false_of hx h, Bool.and_false, Bool.false_and]
theorem cols_bad2 {l : List Col} {i j : Nat} {x y : Col} (hij : i < j) (hx : l[i]? = some x) (hy : l[j]? = some y) (h : sameC x y = true) : colsB l = false := by
  unfold colsB; rw [tw_true_of hij hx hy h, Bool.not_true, Bool.and_false]
theorem cols_end {l : List Col} (h1 : l.all colOk = true) (h2 : tw sameC l = false) : colsB l = (decide (1 ≤ l.length) && decide (l.length ≤ 8)) := by
  unfold colsB; rw [h1, h2, Bool.not_false, Bool.and_true, Bool.and_true]
theorem any_take_take {α : Type} {p : α → Bool} {l : List α} {i k : Nat} {y : α} (hk : k < i) (hy : l[k]? = some y) : ((l.take i).take (k + 1)).any p = (((l.take i).take k).any p || p y) :=
  any_take_succ (by rw [List.getElem?_take, if_pos hk]; exact hy)
theorem colOk_parts (x : Col) (q : Bool) (k : Int) (hq : q = nameB x.name) (hk : k = x.kind.toInt) : colOk x = (q && (decide (k = 1) || decide (k = 2))) := by
  unfold colOk; rw [hq, hk]

set_option maxRecDepth 4000 in
set_option maxHeartbeats 4000000 in
theorem refCols_any {w : World} {v : Value} {l : List Col} (h : ColsIs w v l) (hl : l.length ≤ 1000000) (hc : ∀ c ∈ l, litC c) :
    Calls Tryz.prog 67 #[v] w fun e w' => e = .returned (.bool (colsB l)) ∧ Below w.heap.size w w' := by
  obtain ⟨a, n, cap, rfl, hn, hcap⟩ := h.slice
  have hn1 : (n : Int) ≤ 1000000 := by omega
  have HH : Hid (ColsIs w (.slice a n cap) l ∧ l.length = n ∧ ∀ c ∈ l, litC c) := ⟨h, hn, hc⟩
  clear h hl hn hc
  go_enter Tryz.func67, Tryz.ntmps67
  go_wp2_with fail
  go_loopg [3] n (fun gg s3 wx => ∃ i : Nat, i + gg = n ∧ s3 = .int .i64 i ∧ Hid ((l.take i).all colOk = true ∧ tw sameC (l.take i) = false) ∧ Hid (Below w.heap.size w wx))
  case atStart => exact ⟨0, by omega, rfl, by unfold Hid; rw [List.take_zero]; exact ⟨rfl, rfl⟩, Below.refl _ _⟩
  case round =>
    obtain ⟨i, hig, rfl, HN, HB⟩ := hrel
    by_cases hi : i < n
    · have hiI : (i : Int) < (n : Int) := by omega
      obtain ⟨x, d0, d1, d2, b, off, hs, rfl, hE, c0, c1, c2⟩ := at3C (HH.out.1.over stays_col HB.out) hi
      have e : [d0, d1, d2] = colC x := hE
      simp only [colC, List.cons.injEq, and_true] at e
      obtain ⟨rfl, rfl, rfl⟩ := e
      have hr2 : IntKind.i64.wrap ((i : Int) + 1) = (i : Int) + 1 := by rw [IntKind.wrap_i64]; omega
      have hnm := fun W => refName_any x.name (by have := HH.out.2.2 x (List.mem_of_getElem? hs); unfold litC at this; unfold maxLen; omega) W
      obtain ⟨q, hq⟩ : ∃ q, q = nameB x.name := ⟨_, rfl⟩
      obtain ⟨k1, hk1⟩ : ∃ k1, k1 = x.kind.toInt := ⟨_, rfl⟩
      have HS : Hid (l[i]? = some x ∧ colOk x = (q && (decide (k1 = 1) || decide (k1 = 2)))) := ⟨hs, colOk_parts x q k1 hq hk1⟩
      rw [← hq] at hnm
      rw [← hk1] at c1
      clear hE hs hq hk1 c2
      cases q with
      | false =>
        go_wp2_with fail
        refine (hnm _).mono ?_
        rintro e w1 ⟨rfl, hw⟩
        replace hw := hw.symm
        subst hw
        go_wp2_with fail
        go_ret
        exact ⟨ret_bool (cols_bad1 HS.out.1 (by rw [HS.out.2]; rfl)).symm, HB.out⟩
      | true =>
        have hkk : (∃ q1 q2, (k1 != 1) = q1 ∧ (k1 != 2) = q2 ∧ colOk x = !(q1 && q2)) := ⟨_, _, rfl, rfl, by rw [HS.out.2, Bool.true_and, Bool.eq_iff_iff]; simp⟩
        obtain ⟨q1, q2, hq1, hq2, hok⟩ := hkk
        have HO : Hid (colOk x = !(q1 && q2)) := hok
        clear hok
        have hways : (q1 = true ∧ q2 = true) ∨ (q1 = true ∧ q2 = false) ∨ q1 = false := by cases q1 <;> cases q2 <;> simp
        rcases hways with ⟨rfl, rfl⟩ | ⟨rfl, rfl⟩ | rfl
        · go_wp2_with fail
          refine (hnm _).mono ?_
          rintro e w1 ⟨rfl, hw⟩
          replace hw := hw.symm
          subst hw
          go_wp2_with fail
          go_ret
          exact ⟨ret_bool (cols_bad1 HS.out.1 HO.out).symm, HB.out⟩
        all_goals
          go_wp2_with fail
          refine (hnm _).mono ?_
          rintro e w1 ⟨rfl, hw⟩
          replace hw := hw.symm
          subst hw
          clear hnm
          go_wp2_with fail
          go_loopg [4] i (fun gg s4 wx => ∃ k : Nat, k + gg = i ∧ s4 = .int .i64 k ∧ Hid (((l.take i).take k).any (fun y => sameC y x) = false) ∧ Hid (Below w.heap.size w wx))
          case atStart => exact ⟨0, by omega, rfl, by unfold Hid; rw [List.take_zero]; rfl, HB⟩
          case round =>
            clear c0 c1 HB
            obtain ⟨k, hkg, rfl, HK, HB⟩ := hrel
            by_cases hk : k < i
            · have hkI : (k : Int) < (i : Int) := by omega
              have hkn : (k : Int) < (n : Int) := by omega
              obtain ⟨y, f0, f1, f2, b2, off2, hy, eb, hE2, g0, g1, g2⟩ := at3C (HH.out.1.over stays_col HB.out) (k := k) (by omega)
              obtain ⟨x2, e0, e1, e2, b3, off3, hx2, eb2, hE3, g3, g4, g5⟩ := at3C (HH.out.1.over stays_col HB.out) (k := i) hi
              cases eb
              cases eb2
              have e : [f0, f1, f2] = colC y := hE2
              simp only [colC, List.cons.injEq, and_true] at e
              obtain ⟨rfl, rfl, rfl⟩ := e
              obtain rfl : x2 = x := Option.some.inj (hx2.symm.trans HS.out.1)
              have e : [e0, e1, e2] = colC x2 := hE3
              simp only [colC, List.cons.injEq, and_true] at e
              obtain ⟨rfl, rfl, rfl⟩ := e
              have hr3 : IntKind.i64.wrap ((k : Int) + 1) = (k : Int) + 1 := by rw [IntKind.wrap_i64]; omega
              obtain ⟨q, hq⟩ : ∃ q, (y.name.toList == x2.name.toList) = q := ⟨_, rfl⟩
              have HY : Hid (l[k]? = some y ∧ ((l.take i).take (k + 1)).any (fun y => sameC y x2) = (((l.take i).take k).any (fun y => sameC y x2) || sameC y x2) ∧ sameC y x2 = q) := ⟨hy, any_take_take hk hy, by rw [← hq, eqS_beq]; rfl⟩
              clear hE2 hE3 hy hx2 g1 g2 g4 g5
              cases q with
              | true =>
                go_wp2_with fail
                go_quiet (fail)
                go_wp2_with fail
                go_ret
                exact ⟨ret_bool (cols_bad2 hk HY.out.1 HS.out.1 HY.out.2.2).symm, ⟨HB.out.os, HB.out.tape, HB.out.output, HB.out.size, HB.out.block⟩⟩
              | false =>
                go_wp2_with fail
                go_quiet (fail)
                go_wp2_with fail
                go_roundg (i - (k + 1))
                case measure => clear hr2 hr3; omega
                case rel => exact ⟨k + 1, by clear hr2 hr3; omega, by go_num, by unfold Hid; rw [HY.out.2.1, HK.out, HY.out.2.2]; rfl, ⟨HB.out.os, HB.out.tape, HB.out.output, HB.out.size, HB.out.block⟩⟩
            · have hkI : ¬ (k : Int) < (i : Int) := by omega
              obtain rfl : k = i := by omega
              go_wp2_with fail
              go_roundg (n - (k + 1))
              case measure => clear hr2; omega
              case rel => exact ⟨k + 1, by clear hr2; omega, by go_num, ⟨by rw [all_take_succ HS.out.1, HN.out.1, HO.out]; rfl, by rw [tw_take HS.out.1, HN.out.2]; have := HK.out; rw [List.take_of_length_le (by rw [List.length_take]; omega)] at this; rw [this]; rfl⟩, HB⟩
    · have hiI : ¬ (i : Int) < (n : Int) := by omega
      obtain rfl : i = n := by omega
      have hend : Hid (colsB l = (decide (1 ≤ i) && decide (i ≤ 8))) := by
        have := HN.out
        rw [List.take_of_length_le (by rw [HH.out.2.1]; exact Nat.le_refl _)] at this
        unfold Hid
        rw [cols_end this.1 this.2, HH.out.2.1]
      by_cases h1 : 1 ≤ (i : Int)
      · have d1 : decide (1 ≤ i) = true := by simp; omega
        rw [d1] at hend
        obtain ⟨q, hq⟩ : ∃ q, decide ((i : Int) ≤ 8) = q := ⟨_, rfl⟩
        have HQ : Hid (decide (i ≤ 8) = q) := by unfold Hid; rw [← hq, Bool.eq_iff_iff]; simp; omega
        go_wp2_with fail
        go_ret
        exact ⟨ret_bool (by rw [hend.out, HQ.out]; simp), HB.out⟩
      · have d1 : decide (1 ≤ i) = false := by simp; omega
        rw [d1] at hend
        go_wp2_with fail
        go_ret
        exact ⟨ret_bool (by rw [hend.out]; simp), HB.out⟩
end Go.Proofs.YtdjobjbkpagnaaaGreat
/-
  The contracts of the document's Projection, table and May.
-/
namespace Go.Proofs.YtdjobjbkpagnaaaGreat
open Go.RowKit Go.Shelf

theorem drewN_below {w w' : World} (h : Below w.heap.size w w') (n : Nat) : Below w.heap.size w (w'.drewN n) := ⟨h.os, h.tape, h.output, h.size, h.block⟩
/-- What is asked of a projection ahead of its Cols. -/
def pjHead (n : Nat) (p : Pj) : Bool := nameB p.name && decide (1 ≤ p.cols.length) && decide (p.cols.length ≤ n) && decide (0 ≤ p.keys.toInt) && decide (p.keys.toInt ≤ (p.cols.length : Int))
theorem pj_head (n : Nat) (p : Pj) : pjB n p = (pjHead n p && p.cols.all (colIn n) && !tw sameI p.cols) := rfl
theorem pj_bad0 {n : Nat} {p : Pj} (h : pjHead n p = false) : pjB n p = false := by rw [pj_head, h]; rfl
theorem pj_bad1 {n : Nat} {p : Pj} {i : Nat} {x : BitVec 64} (hx : p.cols[i]? = some x) (h : colIn n x = false) : pjB n p = false := by
  rw [pj_head, all_false_of hx h, Bool.and_false, Bool.false_and]
theorem pj_bad2 {n : Nat} {p : Pj} {i j : Nat} {x y : BitVec 64} (hij : i < j) (hx : p.cols[i]? = some x) (hy : p.cols[j]? = some y) (h : sameI x y = true) : pjB n p = false := by
  rw [pj_head, tw_true_of hij hx hy h, Bool.not_true, Bool.and_false]
theorem pj_end {n : Nat} {p : Pj} (h0 : pjHead n p = true) (h1 : p.cols.all (colIn n) = true) (h2 : tw sameI p.cols = false) : pjB n p = true := by
  rw [pj_head, h0, h1, h2]; rfl
set_option maxRecDepth 4000 in
set_option maxHeartbeats 4000000 in
theorem refProj_any {w : World} {p : Pj} {d0 d1 d2 : Value} (hp : PjE w p [d0, d1, d2]) (n : Nat) (hn : n ≤ 1000000) (hm : litP p) :
    Calls Tryz.prog 69 #[.agg #[d0, d1, d2], .int .i64 (n : Int)] w fun e w' => e = .returned (.bool (pjB n p)) ∧ Below w.heap.size w w' := by
  obtain ⟨vi, ep, hI⟩ := hp
  simp only [List.cons.injEq, and_true] at ep
  obtain ⟨rfl, rfl, rfl⟩ := ep
  obtain ⟨a, m, cap, rfl, hma, hca⟩ := hI.slice
  have hm2 := hm.2
  rw [hma] at hm2
  have b1 := below1 w (.cells #[.string p.name, .slice a m cap, .int .i64 p.keys.toInt] 26)
  have B1 := box_new w #[.string p.name, .slice a m cap, .int .i64 p.keys.toInt] 26
  have hnm := fun W => refName_any p.name (by have := hm.1; unfold maxLen; omega) W
  have HE : Hid (pjHead n p = (nameB p.name && decide (1 ≤ m) && decide (m ≤ n) && decide (0 ≤ p.keys.toInt) && decide (p.keys.toInt ≤ (m : Int)))) := by unfold Hid pjHead; rw [hma]
  obtain ⟨pn, hpn⟩ : ∃ x, x = p.name := ⟨_, rfl⟩
  obtain ⟨pk, hpk⟩ : ∃ x, x = p.keys.toInt := ⟨_, rfl⟩
  rw [← hpn, ← hpk] at b1 B1 HE
  rw [← hpn] at hnm
  rw [← hpn, ← hpk]
  have HB0 : Hid (Below w.heap.size w _ ∧ Box _ w.heap.size 26 #[.string pn, .slice a m cap, .int .i64 pk]) := ⟨b1, B1⟩
  obtain ⟨q1, hq1⟩ : ∃ q, q = nameB pn := ⟨_, rfl⟩
  rw [← hq1] at HE hnm
  have HI : Hid (IntsIs w (.slice a m cap) p.cols ∧ p.cols.length = m) := ⟨hI, hma⟩
  have hnI : (n : Int) ≤ 1000000 := by omega
  have hmI : (m : Int) ≤ 1000000 := by omega
  clear hI hma hca b1 B1 hpn hpk hq1 hm hm2
  cases q1 with
  | false =>
    go_enter Tryz.func69, Tryz.ntmps69
    go_wp2_with fail
    refine (hnm _).mono ?_
    rintro e w1 ⟨rfl, hw⟩
    replace hw := hw.symm
    subst hw
    clear hnm
    go_wp2_with fail
    go_ret
    exact ⟨ret_bool (pj_bad0 (by rw [HE.out]; rfl)).symm, HB0.out.1⟩
  | true =>
    by_cases h1 : (m : Int) < 1
    · have e1 : decide (1 ≤ m) = false := by simp; omega
      rw [e1] at HE
      clear e1
      go_enter Tryz.func69, Tryz.ntmps69
      go_wp2_with fail
      refine (hnm _).mono ?_
      rintro e w1 ⟨rfl, hw⟩
      replace hw := hw.symm
      subst hw
      clear hnm
      go_wp2_with fail
      go_ret
      exact ⟨ret_bool (pj_bad0 (by rw [HE.out]; rfl)).symm, HB0.out.1⟩
    · have e1 : decide (1 ≤ m) = true := by simp; omega
      by_cases h2 : (n : Int) < (m : Int)
      · have e2 : decide (m ≤ n) = false := by simp; omega
        rw [e1, e2] at HE
        clear e1 e2
        go_enter Tryz.func69, Tryz.ntmps69
        go_wp2_with fail
        refine (hnm _).mono ?_
        rintro e w1 ⟨rfl, hw⟩
        replace hw := hw.symm
        subst hw
        clear hnm
        go_wp2_with fail
        go_ret
        exact ⟨ret_bool (pj_bad0 (by rw [HE.out]; rfl)).symm, HB0.out.1⟩
      · have e2 : decide (m ≤ n) = true := by simp; omega
        by_cases h3 : pk < 0
        · have e3 : decide (0 ≤ pk) = false := by simp; omega
          rw [e1, e2, e3] at HE
          clear e1 e2 e3
          go_enter Tryz.func69, Tryz.ntmps69
          go_wp2_with fail
          refine (hnm _).mono ?_
          rintro e w1 ⟨rfl, hw⟩
          replace hw := hw.symm
          subst hw
          clear hnm
          go_wp2_with fail
          go_ret
          exact ⟨ret_bool (pj_bad0 (by rw [HE.out]; rfl)).symm, HB0.out.1⟩
        · have e3 : decide (0 ≤ pk) = true := by simp; omega
          by_cases h4 : (m : Int) < pk
          · have e4 : decide (pk ≤ (m : Int)) = false := by simp; omega
            rw [e1, e2, e3, e4] at HE
            clear e1 e2 e3 e4
            go_enter Tryz.func69, Tryz.ntmps69
            go_wp2_with fail
            refine (hnm _).mono ?_
            rintro e w1 ⟨rfl, hw⟩
            replace hw := hw.symm
            subst hw
            clear hnm
            go_wp2_with fail
            go_ret
            exact ⟨ret_bool (pj_bad0 (by rw [HE.out]; rfl)).symm, HB0.out.1⟩
          · have e4 : decide (pk ≤ (m : Int)) = true := by simp; omega
            rw [e1, e2, e3, e4] at HE
            clear e1 e2 e3 e4
            have j1 : decide ((m : Int) < 1) = false := by simpa using h1
            have j2 : decide ((n : Int) < (m : Int)) = false := by simpa using h2
            have j2n : decide (n < m) = false := by simp; omega
            have j3 : decide (pk < 0) = false := by simpa using h3
            have j4 : decide ((m : Int) < pk) = false := by simpa using h4
            clear h1 h2 h3 h4
            go_enter Tryz.func69, Tryz.ntmps69
            go_wp2_with fail
            refine (hnm _).mono ?_
            rintro e w1 ⟨rfl, hw⟩
            replace hw := hw.symm
            subst hw
            clear hnm
            go_wp2_with fail
            go_loopg [5] m (fun gg s5 wx => ∃ i : Nat, i + gg = m ∧ s5 = .int .i64 i ∧ Hid ((p.cols.take i).all (colIn n) = true ∧ tw sameI (p.cols.take i) = false) ∧ Hid (Below w.heap.size w wx ∧ Box wx w.heap.size 26 #[.string pn, .slice a m cap, .int .i64 pk]))
            case atStart => exact ⟨0, by omega, rfl, by unfold Hid; rw [List.take_zero]; exact ⟨rfl, rfl⟩, HB0⟩
            case round =>
              obtain ⟨i, hig, rfl, HN, HB⟩ := hrel
              have f1 := HB.out.2.cell 1 _ rfl
              by_cases hi : i < m
              · have hiI : (i : Int) < (m : Int) := by omega
                obtain ⟨x, b, off, hs, rfl, c0⟩ := at1I (HI.out.1.over stays_int HB.out.1) hi
                have hr2 : IntKind.i64.wrap ((i : Int) + 1) = (i : Int) + 1 := by rw [IntKind.wrap_i64]; omega
                obtain ⟨z, hz⟩ : ∃ z, z = x.toInt := ⟨_, rfl⟩
                have HS : Hid (p.cols[i]? = some x ∧ colIn n x = (decide (0 ≤ z) && decide (z < (n : Int))) ∧ z = x.toInt) := ⟨hs, by unfold colIn; rw [hz], hz⟩
                rw [← hz] at c0
                clear hs hz
                by_cases z1 : z < 0
                · go_wp2_with fail
                  go_ret
                  exact ⟨ret_bool (pj_bad1 HS.out.1 (by rw [HS.out.2.1, decide_eq_false (by omega)]; rfl)).symm, HB.out.1⟩
                · by_cases z2 : (n : Int) ≤ z
                  · go_wp2_with fail
                    go_ret
                    exact ⟨ret_bool (pj_bad1 HS.out.1 (by rw [HS.out.2.1, decide_eq_false (p := z < (n : Int)) (by omega), Bool.and_false])).symm, HB.out.1⟩
                  · have HO : Hid (colIn n x = true) := by unfold Hid; rw [HS.out.2.1, decide_eq_true (p := 0 ≤ z) (by omega), decide_eq_true (p := z < (n : Int)) (by omega)]; rfl
                    go_wp2_with fail
                    go_loopg [6] i (fun gg s6 wx => ∃ k : Nat, k + gg = i ∧ s6 = .int .i64 k ∧ Hid (((p.cols.take i).take k).any (fun y => sameI y x) = false) ∧ Hid (Below w.heap.size w wx ∧ Box wx w.heap.size 26 #[.string pn, .slice (some ⟨b, off, none⟩) m cap, .int .i64 pk]))
                    case atStart => exact ⟨0, by omega, rfl, by unfold Hid; rw [List.take_zero]; rfl, HB⟩
                    case round =>
                      clear c0 f1 HB
                      obtain ⟨k, hkg, rfl, HK, HB⟩ := hrel
                      have f1 := HB.out.2.cell 1 _ rfl
                      by_cases hk : k < i
                      · have hkI : (k : Int) < (i : Int) := by omega
                        have hkn : (k : Int) < (m : Int) := by omega
                        obtain ⟨y, b2, off2, hy, eb, g0⟩ := at1I (HI.out.1.over stays_int HB.out.1) (k := k) (by omega)
                        obtain ⟨x2, b3, off3, hx2, eb2, g3⟩ := at1I (HI.out.1.over stays_int HB.out.1) (k := i) hi
                        cases eb
                        cases eb2
                        obtain rfl : x2 = x := Option.some.inj (hx2.symm.trans HS.out.1)
                        have hr3 : IntKind.i64.wrap ((k : Int) + 1) = (k : Int) + 1 := by rw [IntKind.wrap_i64]; omega
                        obtain ⟨q, hq⟩ : ∃ q, (y.toInt == x2.toInt) = q := ⟨_, rfl⟩
                        have HY : Hid (p.cols[k]? = some y ∧ ((p.cols.take i).take (k + 1)).any (fun y => sameI y x2) = (((p.cols.take i).take k).any (fun y => sameI y x2) || sameI y x2) ∧ sameI y x2 = q) := ⟨hy, any_take_take hk hy, by rw [← hq]; unfold sameI; rw [Bool.eq_iff_iff]; simp only [beq_iff_eq, decide_eq_true_eq]⟩
                        clear hy hx2
                        cases q with
                        | true =>
                          go_wp2_with fail
                          go_quiet (fail)
                          go_wp2_with fail
                          go_ret
                          exact ⟨ret_bool (pj_bad2 hk HY.out.1 HS.out.1 HY.out.2.2).symm, drewN_below HB.out.1 _⟩
                        | false =>
                          go_wp2_with fail
                          go_quiet (fail)
                          go_wp2_with fail
                          go_roundg (i - (k + 1))
                          case measure => clear hr2 hr3; omega
                          case rel => exact ⟨k + 1, by clear hr2 hr3; omega, by go_num, by unfold Hid; rw [HY.out.2.1, HK.out, HY.out.2.2]; rfl, ⟨drewN_below HB.out.1 _, HB.out.2⟩⟩
                      · have hkI : ¬ (k : Int) < (i : Int) := by omega
                        obtain rfl : k = i := by omega
                        go_wp2_with fail
                        go_roundg (m - (k + 1))
                        case measure => clear hr2; omega
                        case rel => exact ⟨k + 1, by clear hr2; omega, by go_num, ⟨by rw [all_take_succ HS.out.1, HN.out.1, HO.out]; rfl, by rw [tw_take HS.out.1, HN.out.2]; have := HK.out; rw [List.take_of_length_le (by rw [List.length_take]; omega)] at this; rw [this]; rfl⟩, HB⟩
              · have hiI : ¬ (i : Int) < (m : Int) := by omega
                obtain rfl : i = m := by omega
                go_wp2_with fail
                go_ret
                have hend := HN.out
                rw [List.take_of_length_le (by rw [HI.out.2]; exact Nat.le_refl _)] at hend
                exact ⟨ret_bool (pj_end (by rw [HE.out]; rfl) hend.1 hend.2).symm, HB.out.1⟩
end Go.Proofs.YtdjobjbkpagnaaaGreat
/-
  The contracts of slices.Clone of tables, columns, projections and numbers.
-/
namespace Go.Proofs.YtdjobjbkpagnaaaGreat
open Go.RowKit Go.Shelf

/-- A new list with the same elements. -/
def CloneAns {α : Type} (E : World → α → List Value → Prop) (sz : Nat) (t : TypeId) (w : World) (l : List α) (e : Ending) (w' : World) : Prop :=
  (∃ v' R, e = .returned v' ∧ SRows w' v' t sz R ∧ RowsE E w l R ∧ ∀ k, v'.ownBlock = some k → w.heap.size ≤ k) ∧ Below w.heap.size w w'
theorem add_off (b o j : Nat) : (⟨b, o, none⟩ : Addr).add j = ⟨b, o + j, none⟩ := by unfold Addr.add; split <;> simp_all
theorem flat_cells {w : World} {b off sz : Nat} (hsz : 0 < sz) {R : List (List Value)} (hR : ∀ r ∈ R, r.length = sz) (h : ∀ (i : Nat) (r : List Value), R[i]? = some r → ∀ (j : Nat) (u : Value), r[j]? = some u → w.cell? ⟨b, off + i * sz + j, none⟩ = some u) (j : Nat) (u : Value) (hu : R.flatten[j]? = some u) : w.cell? ((⟨b, off, none⟩ : Addr).add j) = some u := by
  rw [flatten_at hsz R hR] at hu
  cases hr : R[j / sz]? with
  | none => rw [hr] at hu; simp at hu
  | some r =>
    rw [hr] at hu
    have := h _ r hr (j % sz) u hu
    rw [add_off]
    rw [show off + j = off + j / sz * sz + j % sz by rw [Nat.add_assoc, Nat.div_add_mod']]
    exact this
theorem rowsE_over {α : Type} {E : World → α → List Value → Prop} (hE : Stays E) {w w' : World} {l : List α} {R : List (List Value)} (h : RowsE E w l R) (k : Below w.heap.size w w') : RowsE E w' l R := ⟨h.1, fun i x r hx hr => hE _ _ _ _ (h.2 i x r hx hr) k⟩
theorem srows_empty (w : World) (t : TypeId) (sz : Nat) : SRows (w.alloc (.cells #[] t)) (.slice (some ⟨w.heap.size, 0, none⟩) 0 0) t sz [] :=
  .inr ⟨w.heap.size, 0, rfl, Nat.le_refl _, Nat.zero_le _, #[], heap_alloc_last w _, by simp, by simp, by simp, fun i r hr => by simp at hr⟩
/-- A slice that is something has rows at its address. -/
theorem slIs_from {α : Type} {E : World → α → List Value → Prop} {sz : Nat} (hsz : 0 < sz) {w : World} {ad : Addr} {n cap : Nat} {l : List α} (h : SlIs E sz w (.slice (some ad) n cap) l) :
    ∃ R : List (List Value), RowsE E w l R ∧ (∀ r ∈ R, r.length = sz) ∧ R.length = n ∧ ∀ W, Below w.heap.size w W → ∀ (j : Nat) (u : Value), R.flatten[j]? = some u → W.cell? (ad.add j) = some u := by
  obtain ⟨R, h1, h2, h3⟩ := h.rows
  refine ⟨R, h1, h2, by rw [h1.1]; exact h.len.1, fun W hW j u hu => ?_⟩
  by_cases hl : l = []
  · subst hl
    have : R = [] := List.eq_nil_of_length_eq_zero h1.1
    subst this
    simp at hu
  · obtain ⟨b, off, e, hb, hc⟩ := h3 hl
    cases e
    exact flat_cells hsz h2 (fun i r hr j u hu => (hW.cell (p := ⟨b, off + i * sz + j, none⟩) hb).trans (hc i r hr j u hu)) j u hu
theorem slIs_none {α : Type} {E : World → α → List Value → Prop} {sz : Nat} {w : World} {n cap : Nat} {l : List α} (h : SlIs E sz w (.slice none n cap) l) : l = [] ∧ n = 0 := by
  have hn := h.len
  by_cases hl : l = []
  · subst hl; exact ⟨rfl, by simpa using hn.1.symm⟩
  · obtain ⟨b, off, e, _⟩ := h.lies hl
    cases e
theorem infos_tb : (Tryz.prog.info? 41).map (fun i => (i.zero, i.size, i.bytes)) = some (some (.agg #[.string ⟨#[]⟩, .slice none 0 0, .slice none 0 0]), 3, 64) := by kernel_rfl
set_option maxRecDepth 4000 in
set_option maxHeartbeats 2000000 in
theorem cloneT_gen {α : Type} {E : World → α → List Value → Prop} {w : World} {v : Value} {l : List α} (h : SlIs E 3 w v l) (ho1 : ∀ x cs, E w x cs → ∀ u ∈ cs, u.oneCell' = true) (hl : l.length ≤ 1000000) :
    Calls Tryz.prog 105 #[v] w (CloneAns E 3 41 w l) := by
  obtain ⟨a, n, cap, rfl, hn, hcap⟩ := h.slice
  have q0 : ∀ (w : World) (a : Option Addr) (n c n' c' : Nat), (binOp .eql 22 (.slice a n c) (.slice none n' c')).run Tryz.prog w = .ok (.bool a.isNone) w := fun w a n c n' c' => Lib.run_eql_slice_nil w _ _ a n c n' c' Tryz.underlying22
  cases a with
  | none =>
    obtain ⟨rfl, rfl⟩ := slIs_none h
    clear h hl hn ho1
    go_enter Tryz.func105, Tryz.ntmps105
    go_wp2_with fail
    go_ret
    exact ⟨⟨_, [], rfl, srows_nil _ _ _, ⟨rfl, fun i x r hx => by simp at hx⟩, fun k hk => by simp [Value.ownBlock] at hk⟩, Below.refl _ _⟩
  | some ad =>
    obtain ⟨R, hRE, hRl, hRn, hRc⟩ := slIs_from (by decide) h
    obtain ⟨i0, hi, hz0, hz1, hz2⟩ := info_parts infos_tb
    have hb0 := below1 w (.cells #[] 41)
    have hone : ∀ r ∈ R, ∀ c ∈ r, c.oneCell' = true := fun r hr => by
      obtain ⟨i, hi⟩ := List.getElem?_of_mem hr
      have hil := (List.getElem?_eq_some_iff.1 hi).1
      have hx : l[i]? = some (l[i]'(by rw [← hRE.1]; exact hil)) := List.getElem?_eq_getElem _
      exact ho1 _ _ (hRE.2 i _ r hx hi)
    have HX : Hid (Below w.heap.size w (w.alloc (.cells #[] 41)) ∧ RowsE E w l R) := ⟨hb0, hRE⟩
    have hc := hRc _ hb0
    have hv := srows_empty w 41 3
    have hm : n ≤ 1000000 := by omega
    have HH : Hid ((∀ r ∈ R, r.length = 3) ∧ R.length = n ∧ (∀ r ∈ R, ∀ c ∈ r, c.oneCell' = true) ∧ n ≤ 1000000 ∧ SRows (w.alloc (.cells #[] 41)) (.slice (some ⟨w.heap.size, 0, none⟩) 0 0) 41 3 [] ∧ (∀ (j : Nat) (u : Value), R.flatten[j]? = some u → (w.alloc (.cells #[] 41)).cell? (ad.add j) = some u) ∧ Tryz.prog.info? 41 = some i0 ∧ i0.zero = some (.agg #[.string ⟨#[]⟩, .slice none 0 0, .slice none 0 0]) ∧ i0.size = 3 ∧ i0.bytes = 64) := ⟨hRl, hRn, hone, hm, hv, hc, hi, hz0, hz1, hz2⟩
    clear h hl hn ho1 hRE hRl hRn hRc hone hb0 hc hv hm hi hz0 hz1 hz2
    go_enter Tryz.func105, Tryz.ntmps105
    go_wp2_with (at_builtin; refine append_any rfl (.tmp 5) (.tmp 6) 22 41 i0 (.agg #[.string ⟨#[]⟩, .slice none 0 0, .slice none 0 0]) 3 64 rfl Tryz.underlying22 HH.out.2.2.2.2.2.2.1 HH.out.2.2.2.2.2.2.2.1 HH.out.2.2.2.2.2.2.2.2.1 HH.out.2.2.2.2.2.2.2.2.2 rfl (by decide) (by decide) rfl rfl HH.out.2.2.2.2.1 HH.out.2.1 HH.out.1 HH.out.2.2.2.2.2.1 HH.out.2.2.1 n (Nat.zero_add n) R rfl HH.out.2.2.2.1 ?_; intro va vc w1 hs hwh hk)
    go_ret
    have hb : Below w.heap.size w w1 := HX.out.1.trans (hk.out.below (fun k hk => by have e : some w.heap.size = some k := hk; cases e; exact Nat.le_refl _) (by simp))
    refine ⟨⟨_, R, rfl, hs.out, HX.out.2, fun k hk => ?_⟩, hb⟩
    rcases hwh.out k hk with h1 | h1
    · have e : some w.heap.size = some k := h1; cases e; exact Nat.le_refl _
    · simp at h1; omega
theorem cloneT_any {w : World} {v : Value} {l : List Tb} (h : SlIs TbE 3 w v l) (hl : l.length ≤ 1000000) :
    Calls Tryz.prog 105 #[v] w (CloneAns TbE 3 41 w l) := cloneT_gen h (fun _ _ h => one_tb h) hl
theorem infos_col : (Tryz.prog.info? 53).map (fun i => (i.zero, i.size, i.bytes)) = some (some (.agg #[.string ⟨#[]⟩, .int .i64 0, .bool false]), 3, 32) := by kernel_rfl
set_option maxRecDepth 4000 in
set_option maxHeartbeats 2000000 in
theorem cloneC_gen {α : Type} {E : World → α → List Value → Prop} {w : World} {v : Value} {l : List α} (h : SlIs E 3 w v l) (ho1 : ∀ x cs, E w x cs → ∀ u ∈ cs, u.oneCell' = true) (hl : l.length ≤ 1000000) :
    Calls Tryz.prog 106 #[v] w (CloneAns E 3 53 w l) := by
  obtain ⟨a, n, cap, rfl, hn, hcap⟩ := h.slice
  have q0 : ∀ (w : World) (a : Option Addr) (n c n' c' : Nat), (binOp .eql 23 (.slice a n c) (.slice none n' c')).run Tryz.prog w = .ok (.bool a.isNone) w := fun w a n c n' c' => Lib.run_eql_slice_nil w _ _ a n c n' c' Tryz.underlying23
  cases a with
  | none =>
    obtain ⟨rfl, rfl⟩ := slIs_none h
    clear h hl hn ho1
    go_enter Tryz.func106, Tryz.ntmps106
    go_wp2_with fail
    go_ret
    exact ⟨⟨_, [], rfl, srows_nil _ _ _, ⟨rfl, fun i x r hx => by simp at hx⟩, fun k hk => by simp [Value.ownBlock] at hk⟩, Below.refl _ _⟩
  | some ad =>
    obtain ⟨R, hRE, hRl, hRn, hRc⟩ := slIs_from (by decide) h
    obtain ⟨i0, hi, hz0, hz1, hz2⟩ := info_parts infos_col
    have hb0 := below1 w (.cells #[] 53)
    have hone : ∀ r ∈ R, ∀ c ∈ r, c.oneCell' = true := fun r hr => by
      obtain ⟨i, hi⟩ := List.getElem?_of_mem hr
      have hil := (List.getElem?_eq_some_iff.1 hi).1
      have hx : l[i]? = some (l[i]'(by rw [← hRE.1]; exact hil)) := List.getElem?_eq_getElem _
      exact ho1 _ _ (hRE.2 i _ r hx hi)
    have HX : Hid (Below w.heap.size w (w.alloc (.cells #[] 53)) ∧ RowsE E w l R) := ⟨hb0, hRE⟩
    have hc := hRc _ hb0
    have hv := srows_empty w 53 3
    have hm : n ≤ 1000000 := by omega
    have HH : Hid ((∀ r ∈ R, r.length = 3) ∧ R.length = n ∧ (∀ r ∈ R, ∀ c ∈ r, c.oneCell' = true) ∧ n ≤ 1000000 ∧ SRows (w.alloc (.cells #[] 53)) (.slice (some ⟨w.heap.size, 0, none⟩) 0 0) 53 3 [] ∧ (∀ (j : Nat) (u : Value), R.flatten[j]? = some u → (w.alloc (.cells #[] 53)).cell? (ad.add j) = some u) ∧ Tryz.prog.info? 53 = some i0 ∧ i0.zero = some (.agg #[.string ⟨#[]⟩, .int .i64 0, .bool false]) ∧ i0.size = 3 ∧ i0.bytes = 32) := ⟨hRl, hRn, hone, hm, hv, hc, hi, hz0, hz1, hz2⟩
    clear h hl hn ho1 hRE hRl hRn hRc hone hb0 hc hv hm hi hz0 hz1 hz2
    go_enter Tryz.func106, Tryz.ntmps106
    go_wp2_with (at_builtin; refine append_any rfl (.tmp 5) (.tmp 6) 23 53 i0 (.agg #[.string ⟨#[]⟩, .int .i64 0, .bool false]) 3 32 rfl Tryz.underlying23 HH.out.2.2.2.2.2.2.1 HH.out.2.2.2.2.2.2.2.1 HH.out.2.2.2.2.2.2.2.2.1 HH.out.2.2.2.2.2.2.2.2.2 rfl (by decide) (by decide) rfl rfl HH.out.2.2.2.2.1 HH.out.2.1 HH.out.1 HH.out.2.2.2.2.2.1 HH.out.2.2.1 n (Nat.zero_add n) R rfl HH.out.2.2.2.1 ?_; intro va vc w1 hs hwh hk)
    go_ret
    have hb : Below w.heap.size w w1 := HX.out.1.trans (hk.out.below (fun k hk => by have e : some w.heap.size = some k := hk; cases e; exact Nat.le_refl _) (by simp))
    refine ⟨⟨_, R, rfl, hs.out, HX.out.2, fun k hk => ?_⟩, hb⟩
    rcases hwh.out k hk with h1 | h1
    · have e : some w.heap.size = some k := h1; cases e; exact Nat.le_refl _
    · simp at h1; omega
theorem cloneC_any {w : World} {v : Value} {l : List Col} (h : SlIs ColE 3 w v l) (hl : l.length ≤ 1000000) :
    Calls Tryz.prog 106 #[v] w (CloneAns ColE 3 53 w l) := cloneC_gen h (fun _ _ h => one_col h) hl
theorem infos_pj : (Tryz.prog.info? 26).map (fun i => (i.zero, i.size, i.bytes)) = some (some (.agg #[.string ⟨#[]⟩, .slice none 0 0, .int .i64 0]), 3, 48) := by kernel_rfl
set_option maxRecDepth 4000 in
set_option maxHeartbeats 2000000 in
theorem cloneP_gen {α : Type} {E : World → α → List Value → Prop} {w : World} {v : Value} {l : List α} (h : SlIs E 3 w v l) (ho1 : ∀ x cs, E w x cs → ∀ u ∈ cs, u.oneCell' = true) (hl : l.length ≤ 1000000) :
    Calls Tryz.prog 107 #[v] w (CloneAns E 3 26 w l) := by
  obtain ⟨a, n, cap, rfl, hn, hcap⟩ := h.slice
  have q0 : ∀ (w : World) (a : Option Addr) (n c n' c' : Nat), (binOp .eql 39 (.slice a n c) (.slice none n' c')).run Tryz.prog w = .ok (.bool a.isNone) w := fun w a n c n' c' => Lib.run_eql_slice_nil w _ _ a n c n' c' Tryz.underlying39
  cases a with
  | none =>
    obtain ⟨rfl, rfl⟩ := slIs_none h
    clear h hl hn ho1
    go_enter Tryz.func107, Tryz.ntmps107
    go_wp2_with fail
    go_ret
    exact ⟨⟨_, [], rfl, srows_nil _ _ _, ⟨rfl, fun i x r hx => by simp at hx⟩, fun k hk => by simp [Value.ownBlock] at hk⟩, Below.refl _ _⟩
  | some ad =>
    obtain ⟨R, hRE, hRl, hRn, hRc⟩ := slIs_from (by decide) h
    obtain ⟨i0, hi, hz0, hz1, hz2⟩ := info_parts infos_pj
    have hb0 := below1 w (.cells #[] 26)
    have hone : ∀ r ∈ R, ∀ c ∈ r, c.oneCell' = true := fun r hr => by
      obtain ⟨i, hi⟩ := List.getElem?_of_mem hr
      have hil := (List.getElem?_eq_some_iff.1 hi).1
      have hx : l[i]? = some (l[i]'(by rw [← hRE.1]; exact hil)) := List.getElem?_eq_getElem _
      exact ho1 _ _ (hRE.2 i _ r hx hi)
    have HX : Hid (Below w.heap.size w (w.alloc (.cells #[] 26)) ∧ RowsE E w l R) := ⟨hb0, hRE⟩
    have hc := hRc _ hb0
    have hv := srows_empty w 26 3
    have hm : n ≤ 1000000 := by omega
    have HH : Hid ((∀ r ∈ R, r.length = 3) ∧ R.length = n ∧ (∀ r ∈ R, ∀ c ∈ r, c.oneCell' = true) ∧ n ≤ 1000000 ∧ SRows (w.alloc (.cells #[] 26)) (.slice (some ⟨w.heap.size, 0, none⟩) 0 0) 26 3 [] ∧ (∀ (j : Nat) (u : Value), R.flatten[j]? = some u → (w.alloc (.cells #[] 26)).cell? (ad.add j) = some u) ∧ Tryz.prog.info? 26 = some i0 ∧ i0.zero = some (.agg #[.string ⟨#[]⟩, .slice none 0 0, .int .i64 0]) ∧ i0.size = 3 ∧ i0.bytes = 48) := ⟨hRl, hRn, hone, hm, hv, hc, hi, hz0, hz1, hz2⟩
    clear h hl hn ho1 hRE hRl hRn hRc hone hb0 hc hv hm hi hz0 hz1 hz2
    go_enter Tryz.func107, Tryz.ntmps107
    go_wp2_with (at_builtin; refine append_any rfl (.tmp 5) (.tmp 6) 39 26 i0 (.agg #[.string ⟨#[]⟩, .slice none 0 0, .int .i64 0]) 3 48 rfl Tryz.underlying39 HH.out.2.2.2.2.2.2.1 HH.out.2.2.2.2.2.2.2.1 HH.out.2.2.2.2.2.2.2.2.1 HH.out.2.2.2.2.2.2.2.2.2 rfl (by decide) (by decide) rfl rfl HH.out.2.2.2.2.1 HH.out.2.1 HH.out.1 HH.out.2.2.2.2.2.1 HH.out.2.2.1 n (Nat.zero_add n) R rfl HH.out.2.2.2.1 ?_; intro va vc w1 hs hwh hk)
    go_ret
    have hb : Below w.heap.size w w1 := HX.out.1.trans (hk.out.below (fun k hk => by have e : some w.heap.size = some k := hk; cases e; exact Nat.le_refl _) (by simp))
    refine ⟨⟨_, R, rfl, hs.out, HX.out.2, fun k hk => ?_⟩, hb⟩
    rcases hwh.out k hk with h1 | h1
    · have e : some w.heap.size = some k := h1; cases e; exact Nat.le_refl _
    · simp at h1; omega
theorem cloneP_any {w : World} {v : Value} {l : List Pj} (h : SlIs PjE 3 w v l) (hl : l.length ≤ 1000000) :
    Calls Tryz.prog 107 #[v] w (CloneAns PjE 3 26 w l) := cloneP_gen h (fun _ _ h => one_pj h) hl
theorem infos_int : (Tryz.prog.info? 3).map (fun i => (i.zero, i.size, i.bytes)) = some (some (.int .i64 0), 1, 8) := by kernel_rfl
theorem one_int {w : World} {c : BitVec 64} {cs : List Value} (h : IntE w c cs) : ∀ u ∈ cs, u.oneCell' = true := by
  have e : cs = [.int .i64 c.toInt] := h
  subst e
  simp [Value.oneCell']
set_option maxRecDepth 4000 in
set_option maxHeartbeats 2000000 in
theorem cloneI_gen {α : Type} {E : World → α → List Value → Prop} {w : World} {v : Value} {l : List α} (h : SlIs E 1 w v l) (ho1 : ∀ x cs, E w x cs → ∀ u ∈ cs, u.oneCell' = true) (hl : l.length ≤ 1000000) :
    Calls Tryz.prog 108 #[v] w (CloneAns E 1 3 w l) := by
  obtain ⟨a, n, cap, rfl, hn, hcap⟩ := h.slice
  have q0 : ∀ (w : World) (a : Option Addr) (n c n' c' : Nat), (binOp .eql 24 (.slice a n c) (.slice none n' c')).run Tryz.prog w = .ok (.bool a.isNone) w := fun w a n c n' c' => Lib.run_eql_slice_nil w _ _ a n c n' c' Tryz.underlying24
  cases a with
  | none =>
    obtain ⟨rfl, rfl⟩ := slIs_none h
    clear h hl hn ho1
    go_enter Tryz.func108, Tryz.ntmps108
    go_wp2_with fail
    go_ret
    exact ⟨⟨_, [], rfl, srows_nil _ _ _, ⟨rfl, fun i x r hx => by simp at hx⟩, fun k hk => by simp [Value.ownBlock] at hk⟩, Below.refl _ _⟩
  | some ad =>
    obtain ⟨R, hRE, hRl, hRn, hRc⟩ := slIs_from (by decide) h
    obtain ⟨i0, hi, hz0, hz1, hz2⟩ := info_parts infos_int
    have hb0 := below1 w (.cells #[] 3)
    have hone : ∀ r ∈ R, ∀ c ∈ r, c.oneCell' = true := fun r hr => by
      obtain ⟨i, hi⟩ := List.getElem?_of_mem hr
      have hil := (List.getElem?_eq_some_iff.1 hi).1
      have hx : l[i]? = some (l[i]'(by rw [← hRE.1]; exact hil)) := List.getElem?_eq_getElem _
      exact ho1 _ _ (hRE.2 i _ r hx hi)
    have HX : Hid (Below w.heap.size w (w.alloc (.cells #[] 3)) ∧ RowsE E w l R) := ⟨hb0, hRE⟩
    have hc := hRc _ hb0
    have hv := srows_empty w 3 1
    have hm : n ≤ 1000000 := by omega
    have HH : Hid ((∀ r ∈ R, r.length = 1) ∧ R.length = n ∧ (∀ r ∈ R, ∀ c ∈ r, c.oneCell' = true) ∧ n ≤ 1000000 ∧ SRows (w.alloc (.cells #[] 3)) (.slice (some ⟨w.heap.size, 0, none⟩) 0 0) 3 1 [] ∧ (∀ (j : Nat) (u : Value), R.flatten[j]? = some u → (w.alloc (.cells #[] 3)).cell? (ad.add j) = some u) ∧ Tryz.prog.info? 3 = some i0 ∧ i0.zero = some (.int .i64 0) ∧ i0.size = 1 ∧ i0.bytes = 8) := ⟨hRl, hRn, hone, hm, hv, hc, hi, hz0, hz1, hz2⟩
    clear h hl hn ho1 hRE hRl hRn hRc hone hb0 hc hv hm hi hz0 hz1 hz2
    go_enter Tryz.func108, Tryz.ntmps108
    go_wp2_with (at_builtin; refine append_any rfl (.tmp 5) (.tmp 6) 24 3 i0 (.int .i64 0) 1 8 rfl Tryz.underlying24 HH.out.2.2.2.2.2.2.1 HH.out.2.2.2.2.2.2.2.1 HH.out.2.2.2.2.2.2.2.2.1 HH.out.2.2.2.2.2.2.2.2.2 rfl (by decide) (by decide) rfl rfl HH.out.2.2.2.2.1 HH.out.2.1 HH.out.1 HH.out.2.2.2.2.2.1 HH.out.2.2.1 n (Nat.zero_add n) R rfl HH.out.2.2.2.1 ?_; intro va vc w1 hs hwh hk)
    go_ret
    have hb : Below w.heap.size w w1 := HX.out.1.trans (hk.out.below (fun k hk => by have e : some w.heap.size = some k := hk; cases e; exact Nat.le_refl _) (by simp))
    refine ⟨⟨_, R, rfl, hs.out, HX.out.2, fun k hk => ?_⟩, hb⟩
    rcases hwh.out k hk with h1 | h1
    · have e : some w.heap.size = some k := h1; cases e; exact Nat.le_refl _
    · simp at h1; omega
theorem cloneI_any {w : World} {v : Value} {l : List (BitVec 64)} (h : SlIs IntE 1 w v l) (hl : l.length ≤ 1000000) :
    Calls Tryz.prog 108 #[v] w (CloneAns IntE 1 3 w l) := cloneI_gen h (fun _ _ h => one_int h) hl
end Go.Proofs.YtdjobjbkpagnaaaGreat
/-
  append to a full slice that is not the call's own; 'append(nil, make(S, k)...)'. No program is spoken of.
-/
namespace Go.Proofs.YtdjobjbkpagnaaaGreat
open Go.RowKit Go.Shelf

theorem rows_of_flat {w : World} {b : Nat} {t : TypeId} {tot sz : Nat} {R : List (List Value)} (hsz : 0 < sz) {cur : Array Value} {tail : List Value} (hb : w.heap[b]? = some (.cells cur t (0, 0))) (hs : cur.size = tot) (hc : cur.toList = R.flatten ++ tail) (hR : ∀ r ∈ R, r.length = sz) : Rows w b t tot sz R := by
  have hl := length_flat R hR
  refine ⟨cur, hb, hs, ?_, hR, ?_⟩
  · have := congrArg List.length hc
    rw [List.length_append, hl, Array.length_toList] at this
    omega
  · intro i r hr j v hv
    have hi : i < R.length := (List.getElem?_eq_some_iff.1 hr).1
    have hj : j < sz := by
      have := hR r (List.mem_of_getElem? hr)
      have := (List.getElem?_eq_some_iff.1 hv).1
      omega
    have hk : i * sz + j < R.flatten.length := by
      rw [hl]
      have : (i + 1) * sz ≤ R.length * sz := Nat.mul_le_mul_right _ hi
      rw [Nat.add_mul] at this
      omega
    rw [← Array.getElem?_toList, hc, List.getElem?_append_left hk, flatten_at hsz R hR]
    have d1 : (i * sz + j) / sz = i := by rw [Nat.mul_comm, Nat.mul_add_div hsz, Nat.div_eq_of_lt hj]; rfl
    have d2 : (i * sz + j) % sz = j := by rw [Nat.mul_comm, Nat.mul_add_mod, Nat.mod_eq_of_lt hj]
    rw [d1, d2, hr]
    exact hv
/-- 'append(s[:len(s):len(s)], x)': a new block. -/
theorem run_full {P : Program} {α : Type} {E : World → α → List Value → Prop} {sz : Nat} (w0 w : World) (T ty e : TypeId) (i : TypeInfo) (z : Value) (bytes : Nat) (hT : P.underlying T = some (.slice e)) (hi : P.info? e = some i) (hz : i.zero = some z) (hsize : i.size = sz) (hby : i.bytes = bytes) (hzs : z.cells.size = sz) (hsz : 0 < sz) (hbl : bytes ≤ 200)
    {a : Option Addr} {n : Nat} {l : List α} (h : SlIs E sz w0 (.slice a n n) l) (hb0 : Below w0.heap.size w0 w) (hn : n ≤ 999999) (ad : Addr) (c : Nat) (x : α) (r : List Value) (hr : r.length = sz) (hx : E w0 x r) (hnews : ∀ j v, r[j]? = some v → w.cell? (ad.add j) = some v) (h1 : ∀ u ∈ r, u.oneCell' = true) :
    ∃ g vc w' R, (Builtin.append_ #[T, T] ty #[.slice a n n, .slice (some ad) 1 c]).run P w = .ok (.slice (some ⟨g, 0, none⟩) (n + 1) vc) w' ∧ SRows w' (.slice (some ⟨g, 0, none⟩) (n + 1) vc) e sz R ∧ RowsE E w0 (l ++ [x]) R ∧ w.heap.size ≤ g ∧ Below w.heap.size w w' := by
  have hb2 : (n + 1) * bytes ≤ 1000000 * 200 := Nat.mul_le_mul (by omega) hbl
  have hrow : ∀ (R : List (List Value)), RowsE E w0 l R → RowsE E w0 (l ++ [x]) (R ++ [r]) := by
    intro R hR
    refine ⟨by simp [hR.1], fun k y s hy hs => ?_⟩
    by_cases hk : k < l.length
    · rw [List.getElem?_append_left hk] at hy
      rw [List.getElem?_append_left (by rw [hR.1]; exact hk)] at hs
      exact hR.2 k y s hy hs
    · have hk2 := (List.getElem?_eq_some_iff.1 hy).1
      rw [List.length_append, List.length_singleton] at hk2
      have hk3 : k = l.length := by omega
      subst hk3
      rw [List.getElem?_append_right (Nat.le_refl _)] at hy
      rw [List.getElem?_append_right (by rw [hR.1]; exact Nat.le_refl _), hR.1] at hs
      simp at hy hs
      subst hy hs
      exact hx
  cases a with
  | none =>
    obtain ⟨rfl, rfl⟩ := slIs_none h
    have hown := World.ownsRow_nil w w.heap.size e sz
    obtain ⟨v', w', h2, h3, h4, _⟩ := run_append_own (P := P) w w.heap.size T ty e i z sz bytes hT hi hz hsize hby hzs hsz _ 0 [] hown ad 1 c r (by rw [hr]; omega) hnews h1 (by unfold maxLen; omega) (by omega) (Nat.le_refl _)
    have hb : Below w.heap.size w w' := (Below.refl _ w).grown h4 (Nat.le_refl _) (fun k hk => by simp [Value.ownBlock] at hk)
    rcases h3.2 with ⟨_, h0⟩ | ⟨g, cap, cur, rfl, hg, h5⟩
    · simp at h0
    · exact ⟨g, cap, w', [r], h2, srows_of_own h3 (by simp) (by simp [hr]) hsz (by simp), hrow [] ⟨rfl, fun k y s hy => by simp at hy⟩, hg, hb⟩
  | some b =>
    obtain ⟨R, hRE, hRl, hRn, hRc⟩ := slIs_from hsz h
    subst hsize
    have hfl := length_flat R hRl
    rw [hRn] at hfl
    have h2 := run_append_grow (P := P) w T ty e i z hT hi hz b n n R.flatten hfl (fun j v hv => hRc w hb0 j v hv) ad 1 c r (by rw [hr]; omega) hnews (by omega) (by omega) (growslice_fits (by omega) (by rw [hby]; omega))
    have hb : Below w.heap.size w (w.drew.alloc (.cells (R.flatten.toArray ++ r.toArray ++ Builtin.zeroCells z.cells (grownCap w (n + 1) n e - (n + 1))) e)) := ((Below.refl _ w).drew).alloc (Nat.le_refl _) _
    have hge := grownCap_ge w (n + 1) n e
    have hcm := grownCap_le_maxLen w (n + 1) n e (by unfold maxLen; omega)
    refine ⟨w.heap.size, _, _, R ++ [r], h2, ?_, hrow R hRE, Nat.le_refl _, hb⟩
    refine .inr ⟨w.heap.size, grownCap w (n + 1) n e, by simp [hRn], by simp [hRn]; exact hge, hcm, ?_⟩
    refine rows_of_flat hsz (heap_alloc_last w.drew _) ?_ (tail := (Builtin.zeroCells z.cells (grownCap w (n + 1) n e - (n + 1))).toList) (by simp) (by
      intro s hs
      rcases List.mem_append.1 hs with hs | hs
      · exact hRl s hs
      · simp at hs; rw [hs]; exact hr)
    simp only [Array.size_append, List.size_toArray, size_zeroCells, hzs, hfl, hr]
    have : (n + 1) * i.size + (grownCap w (n + 1) n e - (n + 1)) * i.size = grownCap w (n + 1) n e * i.size := by rw [← Nat.add_mul]; congr 1; omega
    rw [← this, Nat.add_mul]
    omega
section
variable {P : Program} {ops : Array Oper} {rest : List Oper} {o : Oper} {a : Act} {w : World} {Q : Exit → Act → World → Prop}
/-- 'append(nil, make(S, k)...)'. -/
theorem append_zeros_nil (hgd : o.guard = none) (s x : Operand) (T Tn e : TypeId) (i : TypeInfo) (z : Value) (sz bytes : Nat) (ho : o.op = .call { callee := .builtin .append, args := #[s, x], argTypes := #[T, Tn] })
    (hT : P.underlying T = some (.slice e)) (hTn : P.underlying Tn = some (.int .i64)) (hi : P.info? e = some i) (hz : i.zero = some z) (hsize : i.size = sz) (hby : i.bytes = bytes) (hzs : z.cells.size = sz) (hsz : 0 < sz) (hbl : bytes ≤ 200)
    (hs : a.eval s = .slice none 0 0) (k : Nat) (hx : a.eval x = .int .i64 k) (hk : 0 < k) (hl : k ≤ 1000000)
    (h : ∀ cap' w', Hid (SRows w' (.slice (some ⟨w.heap.size, 0, none⟩) 0 cap') e sz []) → Hid (k ≤ cap') → Hid (Below w.heap.size w w') → wpList P ops Q rest (a.put o.dst (.slice (some ⟨w.heap.size, 0, none⟩) k cap')) w') :
    wpList P ops Q (o :: rest) a w := by
  subst hsize hby
  have hkb : k * i.bytes ≤ 1000000 * 200 := Nat.mul_le_mul hl hbl
  have hr := Lib.run_append_grow_zeros (P := P) w T Tn o.type e i z .i64 .i64 hT hTn hi hz none 0 0 [] (by simpa using run_firstCells_none (P := P) (w := w.drew) i.size 0 0 0) k hk hsz (by omega) (by omega) (by omega) (growslice_fits (by omega) (by rw [Nat.zero_add]; omega))
  have hge := grownCap_ge w (0 + k) 0 e
  have hcm := grownCap_le_maxLen w (0 + k) 0 e (by unfold maxLen; omega)
  refine wpList_plain hgd fun K hK => ?_
  unfold Oper.wp execOp
  simp only [ho, resolve, invoke, builtin, Sem.run_bind, Sem.run_pure, Result.andThen_ok, List.map_toArray, List.map_cons, List.map_nil, hs, hx, hr]
  rw [Nat.zero_add] at hge hcm ⊢
  refine hK _ _ (h _ _ (show SRows _ _ _ _ _ from ?_) (show _ ≤ _ from hge) (show Below _ _ _ from ((Below.refl _ w).drew).alloc (Nat.le_refl _) _))
  refine .inr ⟨w.heap.size, _, rfl, Nat.zero_le _, hcm, ?_⟩
  refine rows_of_flat hsz (heap_alloc_last w.drew _) ?_ (tail := (([] : List Value).toArray ++ Builtin.zeroCells z.cells k ++ Builtin.zeroCells z.cells (grownCap w k 0 e - k)).toList) (by simp) (by simp)
  simp only [Array.size_append, List.size_toArray, size_zeroCells, hzs, List.length_nil, Nat.zero_add]
  rw [← Nat.add_mul]
  congr 1
  omega
end
end Go.Proofs.YtdjobjbkpagnaaaGreat
/-
  The contracts of slices.Grow of nil, of slices.Concat of two, and of schema's grown, without and with.
-/
namespace Go.Proofs.YtdjobjbkpagnaaaGreat
open Go.RowKit Go.Shelf

theorem rowsE_append {α : Type} {E : World → α → List Value → Prop} {w : World} {l1 l2 : List α} {R1 R2 : List (List Value)} (h1 : RowsE E w l1 R1) (h2 : RowsE E w l2 R2) : RowsE E w (l1 ++ l2) (R1 ++ R2) := by
  refine ⟨by simp [h1.1, h2.1], fun i x r hx hr => ?_⟩
  by_cases hi : i < l1.length
  · rw [List.getElem?_append_left hi] at hx
    rw [List.getElem?_append_left (by rw [h1.1]; exact hi)] at hr
    exact h1.2 i x r hx hr
  · rw [List.getElem?_append_right (by omega)] at hx
    rw [List.getElem?_append_right (by rw [h1.1]; omega), h1.1] at hr
    exact h2.2 _ x r hx hr
theorem rowsE_one {α : Type} {E : World → α → List Value → Prop} {w : World} {l : List α} {R : List (List Value)} (h : RowsE E w l R) (hone : ∀ (x : α) (cs : List Value), E w x cs → ∀ u ∈ cs, u.oneCell' = true) : ∀ r ∈ R, ∀ c ∈ r, c.oneCell' = true := fun r hr => by
  obtain ⟨i, hi⟩ := List.getElem?_of_mem hr
  have hil := (List.getElem?_eq_some_iff.1 hi).1
  have hx : l[i]? = some (l[i]'(by rw [← h.1]; exact hil)) := List.getElem?_eq_getElem _
  exact hone _ _ (h.2 i _ r hx hi)
set_option maxRecDepth 4000 in
set_option maxHeartbeats 2000000 in
theorem growT_any (k : Nat) (hk : k ≤ 1000000) (w : World) :
    Calls Tryz.prog 142 #[.slice none 0 0, .int .i64 (k : Int)] w fun e w' => (∃ v', e = .returned v' ∧ SRows w' v' 41 3 [] ∧ ∀ b, v'.ownBlock = some b → w.heap.size ≤ b) ∧ Below w.heap.size w w' := by
  have hkI : (k : Int) ≤ 1000000 := by omega
  have hk0 : ¬ (k : Int) < 0 := by omega
  by_cases h0 : 0 < k
  · have h0I : 0 < (k : Int) := by omega
    obtain ⟨i0, hi, hz0, hz1, hz2⟩ := info_parts infos_tb
    have HI : Hid (Tryz.prog.info? 41 = some i0 ∧ i0.zero = some (.agg #[.string ⟨#[]⟩, .slice none 0 0, .slice none 0 0]) ∧ i0.size = 3 ∧ i0.bytes = 64 ∧ 0 < k ∧ k ≤ 1000000) := ⟨hi, hz0, hz1, hz2, h0, hk⟩
    clear hi hz0 hz1 hz2 h0 hk
    go_enter Tryz.func142, Tryz.ntmps142
    go_wp2_with (at_builtin; refine append_zeros_nil rfl (.tmp 20) (.tmp 21) 22 3 41 i0 (.agg #[.string ⟨#[]⟩, .slice none 0 0, .slice none 0 0]) 3 64 rfl Tryz.underlying22 Tryz.underlying3 HI.out.1 HI.out.2.1 HI.out.2.2.1 HI.out.2.2.2.1 rfl (by decide) (by decide) rfl k rfl HI.out.2.2.2.2.1 HI.out.2.2.2.2.2 ?_; intro cap' w1 hs hc hb)
    go_ret
    exact ⟨⟨_, rfl, hs.out, fun b hb => by have e : some w.heap.size = some b := hb; cases e; exact Nat.le_refl _⟩, hb.out⟩
  · have h0I : ¬ 0 < (k : Int) := by omega
    obtain rfl : k = 0 := by omega
    go_enter Tryz.func142, Tryz.ntmps142
    go_wp2_with fail
    go_ret
    exact ⟨⟨_, rfl, srows_nil _ _ _, fun b hb => by simp [Value.ownBlock] at hb⟩, Below.refl _ _⟩
set_option maxRecDepth 4000 in
set_option maxHeartbeats 4000000 in
theorem concatT_gen {α : Type} {E : World → α → List Value → Prop} {w0 w : World} (hb0 : Below w0.heap.size w0 w) (ho : ∀ x cs, E w0 x cs → ∀ u ∈ cs, u.oneCell' = true) {B : Nat} {ad1 ad2 : Addr} {n1 n2 c1 c2 : Nat} {l1 l2 : List α} (hB1 : w.cell? ⟨B, 0, none⟩ = some (.slice (some ad1) n1 c1)) (hB2 : w.cell? ⟨B, 1, none⟩ = some (.slice (some ad2) n2 c2)) (h1 : SlIs E 3 w0 (.slice (some ad1) n1 c1) l1) (h2 : SlIs E 3 w0 (.slice (some ad2) n2 c2) l2) (hn1 : n1 ≤ 1000) (hn2 : n2 ≤ 1000) :
    Calls Tryz.prog 118 #[.slice (some ⟨B, 0, none⟩) 2 2] w (CloneAns E 3 41 w0 (l1 ++ l2)) := by
  obtain ⟨R1, hE1, hl1, hr1, hc1⟩ := slIs_from (by decide) h1
  obtain ⟨R2, hE2, hl2, hr2, hc2⟩ := slIs_from (by decide) h2
  have ho1 := rowsE_one hE1 ho
  have ho2 := rowsE_one hE2 ho
  obtain ⟨i0, hi, hz0, hz1, hz2⟩ := info_parts infos_tb
  have HI : Hid (Tryz.prog.info? 41 = some i0 ∧ i0.zero = some (.agg #[.string ⟨#[]⟩, .slice none 0 0, .slice none 0 0]) ∧ i0.size = 3 ∧ i0.bytes = 64) := ⟨hi, hz0, hz1, hz2⟩
  have HR : Hid (RowsE E w0 l1 R1 ∧ RowsE E w0 l2 R2) := ⟨hE1, hE2⟩
  have H1 : Hid ((∀ r ∈ R1, r.length = 3) ∧ R1.length = n1 ∧ (∀ W, Below w0.heap.size w0 W → ∀ (j : Nat) (u : Value), R1.flatten[j]? = some u → W.cell? (ad1.add j) = some u) ∧ (∀ r ∈ R1, ∀ c ∈ r, c.oneCell' = true)) := ⟨hl1, hr1, hc1, ho1⟩
  have H2 : Hid ((∀ r ∈ R2, r.length = 3) ∧ R2.length = n2 ∧ (∀ W, Below w0.heap.size w0 W → ∀ (j : Nat) (u : Value), R2.flatten[j]? = some u → W.cell? (ad2.add j) = some u) ∧ (∀ r ∈ R2, ∀ c ∈ r, c.oneCell' = true)) := ⟨hl2, hr2, hc2, ho2⟩
  have hlt := World.block_lt_of_cell? w _ hB1
  have HB : Hid (w.cell? ⟨B, 0, none⟩ = some (.slice (some ad1) n1 c1) ∧ w.cell? ⟨B, 1, none⟩ = some (.slice (some ad2) n2 c2) ∧ B < w.heap.size) := ⟨hB1, hB2, hlt⟩
  have H0 : Hid (Below w0.heap.size w0 w) := hb0
  have hn1I : (n1 : Int) ≤ 1000 := by omega
  have hn2I : (n2 : Int) ≤ 1000 := by omega
  clear hb0 ho h1 h2 hE1 hE2 hl1 hl2 hr1 hr2 hc1 hc2 ho1 ho2 hi hz0 hz1 hz2 hlt hB1 hB2
  go_enter Tryz.func118, Tryz.ntmps118
  go_wp2_with fail
  go_loopg [3, 11] 2 (fun gg s3 s11 wx => ∃ k : Nat, k + gg = 2 ∧ s11 = .int .i64 k ∧ s3 = .int .i64 (if k = 0 then 0 else if k = 1 then (n1 : Int) else (n1 : Int) + (n2 : Int)) ∧ wx = w)
  case atStart => exact ⟨0, by omega, rfl, rfl, rfl⟩
  case round =>
    obtain ⟨k, hkg, rfl, rfl, hw⟩ := hrel
    subst hw
    have hk3 : k = 0 ∨ k = 1 ∨ k = 2 := by omega
    rcases hk3 with rfl | rfl | rfl
    · have c0 := HB.out.1
      have hnn : ¬ (n1 : Int) < 0 := by omega
      simp only [if_true]
      go_wp2_with fail
      go_roundg 1
      case measure => omega
      case rel => exact ⟨1, by omega, rfl, by simp, rfl⟩
    · have c1 := HB.out.2.1
      have hnn : ¬ (n1 : Int) + (n2 : Int) < 0 := by omega
      simp only [Nat.one_ne_zero, if_false, if_true]
      go_wp2_with fail
      go_roundg 0
      case measure => omega
      case rel => exact ⟨2, by omega, rfl, by simp, rfl⟩
    · have cg := growT_any (n1 + n2) (by omega) wr
      rw [show ((n1 + n2 : Nat) : Int) = (n1 : Int) + (n2 : Int) by omega] at cg
      simp only [show (2 : Nat) ≠ 0 by decide, show (2 : Nat) ≠ 1 by decide, if_false]
      go_wp2_with fail
      refine cg.mono ?_
      rintro e w1 ⟨⟨v1, rfl, hs1, ho1⟩, hb1⟩
      have HV1 : Hid (SRows w1 v1 41 3 [] ∧ (∀ b, v1.ownBlock = some b → wr.heap.size ≤ b) ∧ Below wr.heap.size wr w1) := ⟨hs1, ho1, hb1⟩
      obtain ⟨a1, q1, rfl⟩ : ∃ a q, v1 = .slice a 0 q := by rcases hs1 with ⟨rfl, _⟩ | ⟨g, cap, rfl, _⟩ <;> exact ⟨_, _, rfl⟩
      clear cg hs1 ho1 hb1
      go_wp2_with fail
      go_loopg [6, 27] 2 (fun gg s6 s27 wx => ∃ (k : Nat) (a : Option Addr) (q : Nat), k + gg = 2 ∧ s27 = .int .i64 k ∧ s6 = .slice a (if k = 0 then 0 else if k = 1 then n1 else n1 + n2) q ∧ Hid (SRows wx (.slice a (if k = 0 then 0 else if k = 1 then n1 else n1 + n2) q) 41 3 (if k = 0 then [] else if k = 1 then R1 else R1 ++ R2) ∧ (∀ b, (Value.slice a (if k = 0 then 0 else if k = 1 then n1 else n1 + n2) q).ownBlock = some b → wr.heap.size ≤ b) ∧ Below wr.heap.size wr wx))
      case atStart => exact ⟨0, a1, q1, by omega, rfl, rfl, HV1⟩
      case round =>
        clear HV1
        obtain ⟨k, a, q, hkg, rfl, rfl, HV⟩ := hrel
        have hk3 : k = 0 ∨ k = 1 ∨ k = 2 := by omega
        rcases hk3 with rfl | rfl | rfl
        · simp only [if_true] at HV ⊢
          have c0 : wr.cell? ⟨B, 0, none⟩ = some (.slice (some ad1) n1 c1) := (HV.out.2.2.cell (p := ⟨B, 0, none⟩) HB.out.2.2).trans HB.out.1
          have hNe := H1.out.2.2.1 _ (H0.out.trans (HV.out.2.2.mono H0.out.size))
          have HNE : Hid (∀ (j : Nat) (u : Value), R1.flatten[j]? = some u → wr.cell? (ad1.add j) = some u) := hNe
          clear hNe
          go_wp2_with (at_builtin; refine append_any rfl (.tmp 31) (.tmp 32) 22 41 i0 (.agg #[.string ⟨#[]⟩, .slice none 0 0, .slice none 0 0]) 3 64 rfl Tryz.underlying22 HI.out.1 HI.out.2.1 HI.out.2.2.1 HI.out.2.2.2 rfl (by decide) (by decide) rfl rfl HV.out.1 H1.out.2.1 H1.out.1 HNE.out H1.out.2.2.2 n1 (Nat.zero_add n1) R1 rfl (by omega) ?_; intro va vc w2 hs hwh hk)
          go_roundg 1
          case measure => omega
          case rel =>
            refine ⟨1, va, vc, by omega, rfl, rfl, hs.out, fun b hb => ?_, ?_⟩
            · rcases hwh.out b hb with h | h
              · exact HV.out.2.1 b h
              · have := HV.out.2.2.size; omega
            · exact HV.out.2.2.trans (hk.out.below (fun x hx => HV.out.2.1 x hx) HV.out.2.2.size)
        · simp only [Nat.one_ne_zero, if_false, if_true] at HV ⊢
          have c0 : wr.cell? ⟨B, 1, none⟩ = some (.slice (some ad2) n2 c2) := (HV.out.2.2.cell (p := ⟨B, 1, none⟩) HB.out.2.2).trans HB.out.2.1
          have hNe := H2.out.2.2.1 _ (H0.out.trans (HV.out.2.2.mono H0.out.size))
          have HNE : Hid (∀ (j : Nat) (u : Value), R2.flatten[j]? = some u → wr.cell? (ad2.add j) = some u) := hNe
          have HSZ : Hid (R1.length + n2 = n1 + n2) := by unfold Hid; rw [H1.out.2.1]
          clear hNe
          go_wp2_with (at_builtin; refine append_any rfl (.tmp 31) (.tmp 32) 22 41 i0 (.agg #[.string ⟨#[]⟩, .slice none 0 0, .slice none 0 0]) 3 64 rfl Tryz.underlying22 HI.out.1 HI.out.2.1 HI.out.2.2.1 HI.out.2.2.2 rfl (by decide) (by decide) rfl rfl HV.out.1 H2.out.2.1 H2.out.1 HNE.out H2.out.2.2.2 (n1 + n2) HSZ.out (R1 ++ R2) rfl (by omega) ?_; intro va vc w2 hs hwh hk)
          go_roundg 0
          case measure => omega
          case rel =>
            refine ⟨2, va, vc, by omega, rfl, rfl, hs.out, fun b hb => ?_, ?_⟩
            · rcases hwh.out b hb with h | h
              · exact HV.out.2.1 b h
              · have := HV.out.2.2.size; omega
            · exact HV.out.2.2.trans (hk.out.below (fun x hx => HV.out.2.1 x hx) HV.out.2.2.size)
        · simp only [show (2 : Nat) ≠ 0 by decide, show (2 : Nat) ≠ 1 by decide, if_false] at HV ⊢
          go_wp2_with fail
          go_ret
          exact ⟨⟨_, _, rfl, HV.out.1, rowsE_append HR.out.1 HR.out.2, fun b hb => Nat.le_trans H0.out.size (HV.out.2.1 b hb)⟩, H0.out.trans (HV.out.2.2.mono H0.out.size)⟩
set_option maxRecDepth 4000 in
set_option maxHeartbeats 2000000 in
theorem growP_any (k : Nat) (hk : k ≤ 1000000) (w : World) :
    Calls Tryz.prog 141 #[.slice none 0 0, .int .i64 (k : Int)] w fun e w' => (∃ v', e = .returned v' ∧ SRows w' v' 26 3 [] ∧ ∀ b, v'.ownBlock = some b → w.heap.size ≤ b) ∧ Below w.heap.size w w' := by
  have hkI : (k : Int) ≤ 1000000 := by omega
  have hk0 : ¬ (k : Int) < 0 := by omega
  by_cases h0 : 0 < k
  · have h0I : 0 < (k : Int) := by omega
    obtain ⟨i0, hi, hz0, hz1, hz2⟩ := info_parts infos_pj
    have HI : Hid (Tryz.prog.info? 26 = some i0 ∧ i0.zero = some (.agg #[.string ⟨#[]⟩, .slice none 0 0, .int .i64 0]) ∧ i0.size = 3 ∧ i0.bytes = 48 ∧ 0 < k ∧ k ≤ 1000000) := ⟨hi, hz0, hz1, hz2, h0, hk⟩
    clear hi hz0 hz1 hz2 h0 hk
    go_enter Tryz.func141, Tryz.ntmps141
    go_wp2_with (at_builtin; refine append_zeros_nil rfl (.tmp 20) (.tmp 21) 39 3 26 i0 (.agg #[.string ⟨#[]⟩, .slice none 0 0, .int .i64 0]) 3 48 rfl Tryz.underlying39 Tryz.underlying3 HI.out.1 HI.out.2.1 HI.out.2.2.1 HI.out.2.2.2.1 rfl (by decide) (by decide) rfl k rfl HI.out.2.2.2.2.1 HI.out.2.2.2.2.2 ?_; intro cap' w1 hs hc hb)
    go_ret
    exact ⟨⟨_, rfl, hs.out, fun b hb => by have e : some w.heap.size = some b := hb; cases e; exact Nat.le_refl _⟩, hb.out⟩
  · have h0I : ¬ 0 < (k : Int) := by omega
    obtain rfl : k = 0 := by omega
    go_enter Tryz.func141, Tryz.ntmps141
    go_wp2_with fail
    go_ret
    exact ⟨⟨_, rfl, srows_nil _ _ _, fun b hb => by simp [Value.ownBlock] at hb⟩, Below.refl _ _⟩
set_option maxRecDepth 4000 in
set_option maxHeartbeats 4000000 in
theorem concatP_gen {α : Type} {E : World → α → List Value → Prop} {w0 w : World} (hb0 : Below w0.heap.size w0 w) (ho : ∀ x cs, E w0 x cs → ∀ u ∈ cs, u.oneCell' = true) {B : Nat} {ad1 ad2 : Addr} {n1 n2 c1 c2 : Nat} {l1 l2 : List α} (hB1 : w.cell? ⟨B, 0, none⟩ = some (.slice (some ad1) n1 c1)) (hB2 : w.cell? ⟨B, 1, none⟩ = some (.slice (some ad2) n2 c2)) (h1 : SlIs E 3 w0 (.slice (some ad1) n1 c1) l1) (h2 : SlIs E 3 w0 (.slice (some ad2) n2 c2) l2) (hn1 : n1 ≤ 1000) (hn2 : n2 ≤ 1000) :
    Calls Tryz.prog 115 #[.slice (some ⟨B, 0, none⟩) 2 2] w (CloneAns E 3 26 w0 (l1 ++ l2)) := by
  obtain ⟨R1, hE1, hl1, hr1, hc1⟩ := slIs_from (by decide) h1
  obtain ⟨R2, hE2, hl2, hr2, hc2⟩ := slIs_from (by decide) h2
  have ho1 := rowsE_one hE1 ho
  have ho2 := rowsE_one hE2 ho
  obtain ⟨i0, hi, hz0, hz1, hz2⟩ := info_parts infos_pj
  have HI : Hid (Tryz.prog.info? 26 = some i0 ∧ i0.zero = some (.agg #[.string ⟨#[]⟩, .slice none 0 0, .int .i64 0]) ∧ i0.size = 3 ∧ i0.bytes = 48) := ⟨hi, hz0, hz1, hz2⟩
  have HR : Hid (RowsE E w0 l1 R1 ∧ RowsE E w0 l2 R2) := ⟨hE1, hE2⟩
  have H1 : Hid ((∀ r ∈ R1, r.length = 3) ∧ R1.length = n1 ∧ (∀ W, Below w0.heap.size w0 W → ∀ (j : Nat) (u : Value), R1.flatten[j]? = some u → W.cell? (ad1.add j) = some u) ∧ (∀ r ∈ R1, ∀ c ∈ r, c.oneCell' = true)) := ⟨hl1, hr1, hc1, ho1⟩
  have H2 : Hid ((∀ r ∈ R2, r.length = 3) ∧ R2.length = n2 ∧ (∀ W, Below w0.heap.size w0 W → ∀ (j : Nat) (u : Value), R2.flatten[j]? = some u → W.cell? (ad2.add j) = some u) ∧ (∀ r ∈ R2, ∀ c ∈ r, c.oneCell' = true)) := ⟨hl2, hr2, hc2, ho2⟩
  have hlt := World.block_lt_of_cell? w _ hB1
  have HB : Hid (w.cell? ⟨B, 0, none⟩ = some (.slice (some ad1) n1 c1) ∧ w.cell? ⟨B, 1, none⟩ = some (.slice (some ad2) n2 c2) ∧ B < w.heap.size) := ⟨hB1, hB2, hlt⟩
  have H0 : Hid (Below w0.heap.size w0 w) := hb0
  have hn1I : (n1 : Int) ≤ 1000 := by omega
  have hn2I : (n2 : Int) ≤ 1000 := by omega
  clear hb0 ho h1 h2 hE1 hE2 hl1 hl2 hr1 hr2 hc1 hc2 ho1 ho2 hi hz0 hz1 hz2 hlt hB1 hB2
  go_enter Tryz.func115, Tryz.ntmps115
  go_wp2_with fail
  go_loopg [3, 11] 2 (fun gg s3 s11 wx => ∃ k : Nat, k + gg = 2 ∧ s11 = .int .i64 k ∧ s3 = .int .i64 (if k = 0 then 0 else if k = 1 then (n1 : Int) else (n1 : Int) + (n2 : Int)) ∧ wx = w)
  case atStart => exact ⟨0, by omega, rfl, rfl, rfl⟩
  case round =>
    obtain ⟨k, hkg, rfl, rfl, hw⟩ := hrel
    subst hw
    have hk3 : k = 0 ∨ k = 1 ∨ k = 2 := by omega
    rcases hk3 with rfl | rfl | rfl
    · have c0 := HB.out.1
      have hnn : ¬ (n1 : Int) < 0 := by omega
      simp only [if_true]
      go_wp2_with fail
      go_roundg 1
      case measure => omega
      case rel => exact ⟨1, by omega, rfl, by simp, rfl⟩
    · have c1 := HB.out.2.1
      have hnn : ¬ (n1 : Int) + (n2 : Int) < 0 := by omega
      simp only [Nat.one_ne_zero, if_false, if_true]
      go_wp2_with fail
      go_roundg 0
      case measure => omega
      case rel => exact ⟨2, by omega, rfl, by simp, rfl⟩
    · have cg := growP_any (n1 + n2) (by omega) wr
      rw [show ((n1 + n2 : Nat) : Int) = (n1 : Int) + (n2 : Int) by omega] at cg
      simp only [show (2 : Nat) ≠ 0 by decide, show (2 : Nat) ≠ 1 by decide, if_false]
      go_wp2_with fail
      refine cg.mono ?_
      rintro e w1 ⟨⟨v1, rfl, hs1, ho1⟩, hb1⟩
      have HV1 : Hid (SRows w1 v1 26 3 [] ∧ (∀ b, v1.ownBlock = some b → wr.heap.size ≤ b) ∧ Below wr.heap.size wr w1) := ⟨hs1, ho1, hb1⟩
      obtain ⟨a1, q1, rfl⟩ : ∃ a q, v1 = .slice a 0 q := by rcases hs1 with ⟨rfl, _⟩ | ⟨g, cap, rfl, _⟩ <;> exact ⟨_, _, rfl⟩
      clear cg hs1 ho1 hb1
      go_wp2_with fail
      go_loopg [6, 27] 2 (fun gg s6 s27 wx => ∃ (k : Nat) (a : Option Addr) (q : Nat), k + gg = 2 ∧ s27 = .int .i64 k ∧ s6 = .slice a (if k = 0 then 0 else if k = 1 then n1 else n1 + n2) q ∧ Hid (SRows wx (.slice a (if k = 0 then 0 else if k = 1 then n1 else n1 + n2) q) 26 3 (if k = 0 then [] else if k = 1 then R1 else R1 ++ R2) ∧ (∀ b, (Value.slice a (if k = 0 then 0 else if k = 1 then n1 else n1 + n2) q).ownBlock = some b → wr.heap.size ≤ b) ∧ Below wr.heap.size wr wx))
      case atStart => exact ⟨0, a1, q1, by omega, rfl, rfl, HV1⟩
      case round =>
        clear HV1
        obtain ⟨k, a, q, hkg, rfl, rfl, HV⟩ := hrel
        have hk3 : k = 0 ∨ k = 1 ∨ k = 2 := by omega
        rcases hk3 with rfl | rfl | rfl
        · simp only [if_true] at HV ⊢
          have c0 : wr.cell? ⟨B, 0, none⟩ = some (.slice (some ad1) n1 c1) := (HV.out.2.2.cell (p := ⟨B, 0, none⟩) HB.out.2.2).trans HB.out.1
          have hNe := H1.out.2.2.1 _ (H0.out.trans (HV.out.2.2.mono H0.out.size))
          have HNE : Hid (∀ (j : Nat) (u : Value), R1.flatten[j]? = some u → wr.cell? (ad1.add j) = some u) := hNe
          clear hNe
          go_wp2_with (at_builtin; refine append_any rfl (.tmp 31) (.tmp 32) 39 26 i0 (.agg #[.string ⟨#[]⟩, .slice none 0 0, .int .i64 0]) 3 48 rfl Tryz.underlying39 HI.out.1 HI.out.2.1 HI.out.2.2.1 HI.out.2.2.2 rfl (by decide) (by decide) rfl rfl HV.out.1 H1.out.2.1 H1.out.1 HNE.out H1.out.2.2.2 n1 (Nat.zero_add n1) R1 rfl (by omega) ?_; intro va vc w2 hs hwh hk)
          go_roundg 1
          case measure => omega
          case rel =>
            refine ⟨1, va, vc, by omega, rfl, rfl, hs.out, fun b hb => ?_, ?_⟩
            · rcases hwh.out b hb with h | h
              · exact HV.out.2.1 b h
              · have := HV.out.2.2.size; omega
            · exact HV.out.2.2.trans (hk.out.below (fun x hx => HV.out.2.1 x hx) HV.out.2.2.size)
        · simp only [Nat.one_ne_zero, if_false, if_true] at HV ⊢
          have c0 : wr.cell? ⟨B, 1, none⟩ = some (.slice (some ad2) n2 c2) := (HV.out.2.2.cell (p := ⟨B, 1, none⟩) HB.out.2.2).trans HB.out.2.1
          have hNe := H2.out.2.2.1 _ (H0.out.trans (HV.out.2.2.mono H0.out.size))
          have HNE : Hid (∀ (j : Nat) (u : Value), R2.flatten[j]? = some u → wr.cell? (ad2.add j) = some u) := hNe
          have HSZ : Hid (R1.length + n2 = n1 + n2) := by unfold Hid; rw [H1.out.2.1]
          clear hNe
          go_wp2_with (at_builtin; refine append_any rfl (.tmp 31) (.tmp 32) 39 26 i0 (.agg #[.string ⟨#[]⟩, .slice none 0 0, .int .i64 0]) 3 48 rfl Tryz.underlying39 HI.out.1 HI.out.2.1 HI.out.2.2.1 HI.out.2.2.2 rfl (by decide) (by decide) rfl rfl HV.out.1 H2.out.2.1 H2.out.1 HNE.out H2.out.2.2.2 (n1 + n2) HSZ.out (R1 ++ R2) rfl (by omega) ?_; intro va vc w2 hs hwh hk)
          go_roundg 0
          case measure => omega
          case rel =>
            refine ⟨2, va, vc, by omega, rfl, rfl, hs.out, fun b hb => ?_, ?_⟩
            · rcases hwh.out b hb with h | h
              · exact HV.out.2.1 b h
              · have := HV.out.2.2.size; omega
            · exact HV.out.2.2.trans (hk.out.below (fun x hx => HV.out.2.1 x hx) HV.out.2.2.size)
        · simp only [show (2 : Nat) ≠ 0 by decide, show (2 : Nat) ≠ 1 by decide, if_false] at HV ⊢
          go_wp2_with fail
          go_ret
          exact ⟨⟨_, _, rfl, HV.out.1, rowsE_append HR.out.1 HR.out.2, fun b hb => Nat.le_trans H0.out.size (HV.out.2.1 b hb)⟩, H0.out.trans (HV.out.2.2.mono H0.out.size)⟩
end Go.Proofs.YtdjobjbkpagnaaaGreat
