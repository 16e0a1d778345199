/-
  The contract of slices.DeleteFunc, as a device's Spoil calls it.
-/
import Derived.Test.YtmgodahdljnbmaaDSpoil
namespace Go.Proofs.Ytmgodahdljnbmaa
open Go.RowKit

theorem clear_wide {P : Program} (w : World) (t e ty : TypeId) (z : Array Value) (sz : Nat) (ht : P.underlying t = some (.slice e)) (hv : ∀ w, (zeroValue e).run P w = .ok (.agg z) w) (hz : z.size = sz) (hsz : 0 < sz) (h1 : z.all (·.oneCell') = true) (b o n c : Nat) (hn : 0 < n)
    (hth : w.there b o (n * sz)) : ∃ cs : List Value, cs.length = n * sz ∧ (Builtin.clear_ #[t] ty #[.slice (some ⟨b, o, none⟩) n c]).run P w = .ok (.tuple #[]) (w.setCells b o cs) := by
  refine ⟨(Builtin.zeroCells z n).toList, by simp [Builtin.zeroCells, hz], ?_⟩
  have hst := run_storeCells_cells (P := P) b o (Builtin.zeroCells z n).toList 0 w (fun j hj => by
      simp [Builtin.zeroCells, hz] at hj
      simpa using (hth j hj).1) (fun j hj => by
      simp [Builtin.zeroCells, hz] at hj
      simpa using (hth j hj).2) (fun v hv' => by
      simp [Builtin.zeroCells] at hv'
      obtain ⟨i, _, rfl⟩ := hv'
      have hlt : i % z.size < z.size := Nat.mod_lt _ (by omega)
      rw [getElem!_pos z _ hlt]
      rw [Array.all_eq_true] at h1
      exact h1 _ hlt)
  simp only [Nat.add_zero] at hst
  obtain ⟨m, rfl⟩ : ∃ m, n = m + 1 := ⟨n - 1, by omega⟩
  have hcl : (Value.agg z).cells = z := rfl
  simp [Builtin.clear_, run_underlying ht, hv, hcl, hst]
theorem wpList_clear {P : Program} {ops : Array Oper} {rest : List Oper} {op : Oper} {a : Act} {w : World} {Q : Exit → Act → World → Prop} (hgd : op.guard = none) (x : Operand) (t e : TypeId) (z : Array Value) (sz : Nat)
    (ho : op.op = .call { callee := .builtin .clear, args := #[x], argTypes := #[t] }) (b o n c : Nat) (hx : a.eval x = .slice (some ⟨b, o, none⟩) n c) (ht : P.underlying t = some (.slice e)) (hv : ∀ w, (zeroValue e).run P w = .ok (.agg z) w) (hz : z.size = sz) (hsz : 0 < sz) (h1 : z.all (·.oneCell') = true) (hn : 0 < n)
    (hth : w.there b o (n * sz)) (h : ∀ cs : List Value, cs.length = n * sz → wpList P ops Q rest (a.put op.dst (.tuple #[])) (w.setCells b o cs)) : wpList P ops Q (op :: rest) a w := by
  refine wpList_plain hgd fun K hK => ?_
  obtain ⟨cs, hl, hr⟩ := clear_wide (P := P) w t e op.type z sz ht hv hz hsz h1 b o n c hn hth
  unfold Oper.wp execOp
  simp only [ho, resolve, invoke, builtin, Sem.run_bind, Sem.run_pure, Result.andThen_ok, List.map_toArray, List.map_cons, List.map_nil, hx, hr]
  exact hK _ _ (h cs hl)

def kept (wt : List (Nat × List UInt8)) (k j : Nat) : List (Nat × List UInt8) := (wt.take j).filter fun y => y.1 != k
theorem kept_all (wt : List (Nat × List UInt8)) (k j : Nat) (h : wt.length ≤ j) : kept wt k j = wt.filter fun y => y.1 != k := by rw [kept, List.take_of_length_le h]
theorem kept_none (wt : List (Nat × List UInt8)) (k j : Nat) (h : noneTo wt k j) : kept wt k j = wt.take j := by
  unfold kept
  rw [List.filter_eq_self]
  intro x hx
  obtain ⟨i, hi⟩ := List.mem_iff_getElem?.1 hx
  rw [List.getElem?_take] at hi
  split at hi
  · have := h i x (by assumption) hi
    simpa using this
  · cases hi
theorem kept_step (wt : List (Nat × List UInt8)) (k j : Nat) (x : Nat × List UInt8) (hx : wt[j]? = some x) : kept wt k (j + 1) = kept wt k j ++ if x.1 != k then [x] else [] := by
  unfold kept
  rw [List.take_add_one, hx, List.filter_append]
  congr 1
  simp only [Option.toList, List.filter_cons, List.filter_nil]
theorem kept_le (wt : List (Nat × List UInt8)) (k j : Nat) : (kept wt k j).length ≤ j := by
  refine Nat.le_trans (List.length_filter_le _ _) ?_
  rw [List.length_take]; omega
/-- In the midst: the head is what is kept, behind j all is as it was. -/
structure Midst (w0 w : World) (g0 cap m : Nat) (wt : List (Nat × List UInt8)) (k i j : Nat) : Prop where
  rows : ∃ R : List (List Value), Rows w g0 72 (cap * 129) 129 R ∧ R.length = m ∧ (∀ t, t < i → R[t]? = ((kept wt k j).map wcells)[t]?) ∧ ∀ t, j ≤ t → R[t]? = (wt.map wcells)[t]?
  n : i = (kept wt k j).length
  lt : i < j
  le : j ≤ m
  kp : Kept (fun x => x = g0) w0 w
section
variable {w0 w w' : World} {g0 cap m : Nat} {wt : List (Nat × List UInt8)} {k i j : Nat}
theorem Midst.below (M : Midst w0 w g0 cap m wt k i j) (b : Below w.heap.size w w') : Midst w0 w' g0 cap m wt k i j := by
  obtain ⟨⟨R, h1, h2⟩, h3, h4, h5, h6⟩ := M
  exact ⟨⟨R, h1.of_block (b.block g0 h1.lt), h2⟩, h3, h4, h5, h6.trans (kept_of_below (fun _ => False) b) (fun _ h => h.elim)⟩
theorem Midst.lt_heap (M : Midst w0 w g0 cap m wt k i j) : g0 < w.heap.size := by
  obtain ⟨⟨R, h1, h2⟩, h3, h4, h5, h6⟩ := M
  exact h1.lt
theorem Midst.range (M : Midst w0 w g0 cap m wt k i j) {x : Nat × List UInt8} (hx : wt[j]? = some x) : w.rangeAt g0 (j * 129) (wcells x) := by
  obtain ⟨⟨R, h1, h2, h3, h4⟩, _⟩ := M
  exact h1.range (by rw [h4 j (Nat.le_refl _), List.getElem?_map, hx]; rfl)
theorem Midst.there (M : Midst w0 w g0 cap m wt k i j) : w.there g0 (i * 129) 129 := by
  obtain ⟨⟨R, h1, h2, h3, h4⟩, hn, hlt, hle, _⟩ := M
  exact h1.there (by omega)
theorem Midst.skip (M : Midst w0 w g0 cap m wt k i j) {x : Nat × List UInt8} (hx : wt[j]? = some x) (hk : x.1 = k) (hj : j < m) : Midst w0 w g0 cap m wt k i (j + 1) := by
  obtain ⟨⟨R, h1, h2, h3, h4⟩, hn, hlt, hle, hk6⟩ := M
  have e : kept wt k (j + 1) = kept wt k j := by rw [kept_step wt k j x hx, hk]; simp
  exact ⟨⟨R, h1, h2, by rw [e]; exact h3, fun t ht => h4 t (by omega)⟩, by rw [e]; exact hn, by omega, by omega, hk6⟩
theorem Midst.put (M : Midst w0 w g0 cap m wt k i j) {x : Nat × List UInt8} (hx : wt[j]? = some x) (hk : x.1 ≠ k) (hj : j < m) (h128 : x.2.length = 128) : Midst w0 (w.setCells g0 (i * 129) (wcells x)) g0 cap m wt k (i + 1) (j + 1) := by
  obtain ⟨⟨R, h1, h2, h3, h4⟩, hn, hlt, hle, hk6⟩ := M
  have e : kept wt k (j + 1) = kept wt k j ++ [x] := by rw [kept_step wt k j x hx]; simp [hk]
  have hwl : (wcells x).length = 129 := by simp [wcells, bcells_len, h128]
  refine ⟨⟨R.set i (wcells x), h1.set (by omega) hwl, by rw [List.length_set]; exact h2, ?_, ?_⟩, by rw [e, List.length_append, ← hn]; rfl, by omega, by omega, Kept.setCells (F := fun x => x = g0) (.inl rfl) _ _ _ hk6⟩
  · intro t ht
    rw [e, List.map_append]
    by_cases ht' : t = i
    · subst ht'
      rw [List.getElem?_set_self (by omega), List.getElem?_append_right (by rw [List.length_map, ← hn]; exact Nat.le_refl _)]
      simp [← hn]
    · rw [List.getElem?_set_ne (fun h => ht' h.symm), h3 t (by omega), List.getElem?_append_left (by rw [List.length_map, ← hn]; omega)]
  · intro t ht
    rw [List.getElem?_set_ne (by omega)]
    exact h4 t (by omega)
theorem Midst.first (hs : SRows w (.slice (some ⟨g0, 0, none⟩) m cap) 72 129 (wt.map wcells)) (hm : m = wt.length) {j : Nat} (hj : j < m) (h1 : isTo wt k j) (h2 : noneTo wt k j) : Midst w w g0 cap m wt k j (j + 1) := by
  have e : kept wt k (j + 1) = wt.take j := by
    obtain ⟨x, hx, hxk⟩ := h1
    rw [kept_step wt k j x hx, hxk, kept_none wt k j h2]
    simp
  rcases hs with ⟨hv, _⟩ | ⟨g', cap', hv, _, _, hrows⟩
  · simp at hv
  · simp only [Value.slice.injEq, Option.some.injEq, Addr.mk.injEq, and_true] at hv
    obtain ⟨rfl, _, rfl⟩ := hv
    refine ⟨⟨wt.map wcells, hrows, by simp [hm], ?_, fun t _ => rfl⟩, by rw [e, List.length_take]; omega, by omega, by omega, Kept.refl _ _⟩
    intro t ht
    rw [e, List.getElem?_map, List.getElem?_map, List.getElem?_take, if_pos ht]
theorem Midst.done (M : Midst w0 w g0 cap m wt k i j) (hj : j = m) (hm : m = wt.length) (hcap : m ≤ cap) (hcm : cap ≤ maxLen) (cs : List Value) (hl : cs.length = (m - i) * 129) :
    SRows (w.setCells g0 (i * 129) cs) (.slice (some ⟨g0, 0, none⟩) (wt.filter fun y => y.1 != k).length cap) 72 129 ((wt.filter fun y => y.1 != k).map wcells) ∧ Kept (fun x => x = g0) w0 (w.setCells g0 (i * 129) cs) := by
  obtain ⟨⟨R, h1, h2, h3, h4⟩, hn, hlt, hle, hk6⟩ := M
  have e : kept wt k j = wt.filter fun y => y.1 != k := kept_all wt k j (by omega)
  rw [e] at hn h3
  have hR : R.take i = (wt.filter fun y => y.1 != k).map wcells := by
    apply List.ext_getElem?
    intro t
    rw [List.getElem?_take]
    split
    · rename_i ht; exact h3 t ht
    · rename_i ht
      rw [List.getElem?_eq_none (by rw [List.length_map, ← hn]; omega)]
  have hlen : (R.take i).length = i := by rw [List.length_take]; omega
  have hb := (h1.take i).behind cs (o := i * 129) (by rw [hlen]; exact Nat.le_refl _) (by
    rw [hl, ← Nat.add_mul]
    exact Nat.mul_le_mul_right _ (by omega))
  rw [hR] at hb
  refine ⟨.inr ⟨g0, cap, by simp, by rw [List.length_map, ← hn]; omega, hcm, hb⟩, Kept.setCells (F := fun x => x = g0) (.inl rfl) _ _ _ hk6⟩
theorem Midst.room (M : Midst w0 w g0 cap m wt k i j) (hcap : m ≤ cap) : w.there g0 (i * 129) ((m - i) * 129) := by
  obtain ⟨⟨R, h1, h2, h3, h4⟩, hn, hlt, hle, hk6⟩ := M
  refine h1.there_at ?_
  rw [← Nat.add_mul]
  exact Nat.mul_le_mul_right _ (by omega)
end

theorem zw_one : zw.all (·.oneCell') = true := by decide +kernel

set_option maxRecDepth 4000 in
set_option maxHeartbeats 4000000 in
theorem del_some {w : World} {g0 cap : Nat} {wt : List (Nat × List UInt8)} (hs : SRows w (.slice (some ⟨g0, 0, none⟩) wt.length cap) 72 129 (wt.map wcells)) (h128 : ∀ x ∈ wt, x.2.length = 128) (hl6 : wt.length ≤ 1000000) (k bb : Nat) (hc : w.cell? ⟨bb, 0, none⟩ = some (.int .i64 k)) (hb : bb < w.heap.size) (hbg : bb ≠ g0) :
    Calls Try.prog 33 #[.slice (some ⟨g0, 0, none⟩) wt.length cap, .func (.func 34) #[] #[.pointer (some ⟨bb, 0, none⟩)]] w fun e w' => e = .returned (.slice (some ⟨g0, 0, none⟩) (wt.filter fun y => y.1 != k).length cap) ∧ SRows w' (.slice (some ⟨g0, 0, none⟩) (wt.filter fun y => y.1 != k).length cap) 72 129 ((wt.filter fun y => y.1 != k).map wcells) ∧ Kept (fun x => x = g0) w w' := by
  have ci := index_any hs h128 hl6 k bb hc hb
  obtain ⟨m, hm⟩ : ∃ m, m = wt.length := ⟨_, rfl⟩
  rw [← hm] at ci hs hl6 ⊢
  obtain ⟨q, hq⟩ : ∃ q, q = (wt.filter fun y => y.1 != k).length := ⟨_, rfl⟩
  rw [← hq]
  have hcaps : m ≤ cap ∧ cap ≤ maxLen := by
    rcases hs with ⟨hv, _⟩ | ⟨g', cap', hv, h1, h2, _⟩
    · simp at hv
    · simp only [Value.slice.injEq] at hv
      obtain ⟨_, _, rfl⟩ := hv
      rw [List.length_map, ← hm] at h1
      exact ⟨h1, h2⟩
  have HM : Hid (m = wt.length ∧ (∀ x ∈ wt, x.2.length = 128) ∧ q = (wt.filter fun y => y.1 != k).length) := ⟨hm, h128, hq⟩
  have HS : Hid (SRows w (.slice (some ⟨g0, 0, none⟩) m cap) 72 129 (wt.map wcells)) := hs
  have hz := zero_write
  have hz1 := zw_one
  have HCP : Hid (m ≤ cap ∧ cap ≤ maxLen) := hcaps
  have hcI : (m : Int) ≤ (cap : Int) := by omega
  clear hm h128 hs hq hcaps
  go_enter Try.func33, Try.ntmps33
  go_wp2_with fail
  refine ci.mono ?_
  rintro e w1 ⟨⟨j0, hj0, hno⟩, hb1⟩
  rcases hj0 with ⟨hj0, rfl, hto⟩ | ⟨hj0, rfl⟩
  · have hs1 := HS.out.of_block (w' := w1) fun x hx => hb1.block x (HS.out.lt hx)
    have M0 := Midst.first hs1 HM.out.1 hj0 hto hno
    have HM0 : Hid (Midst w1 w1 g0 cap m wt k j0 (j0 + 1)) := M0
    have hne : ¬ (j0 : Int) = -1 := by omega
    have hneb : ((j0 : Int) == -1) = false := by simp
    have hr1 : IntKind.i64.wrap ((j0 : Int) + 1) = (j0 : Int) + 1 := by rw [IntKind.wrap_i64]; omega
    have HB1 : Hid (Below w.heap.size w w1) := hb1
    have hc1 := (hb1.cell (p := ⟨bb, 0, none⟩) hb).trans hc
    have hbb1 : bb < w1.heap.size := Nat.lt_of_lt_of_le hb hb1.size
    clear ci hs1 M0 hto hno hne hb1 hc hb
    go_wp2_with fail
    clear hr1
    go_loopg [5, 6] (m - (j0 + 1)) (fun g s5 s6 wx => ∃ (i j : Nat), j + g = m ∧ s5 = .int .i64 i ∧ s6 = .int .i64 j ∧ Midst w1 wx g0 cap m wt k i j)
    case atStart => exact ⟨j0, j0 + 1, by omega, rfl, by go_num, HM0.out⟩
    case round =>
      obtain ⟨i, j, hjg, rfl, rfl, M⟩ := hrel
      clear HM0
      have hij := M.lt
      have hjm := M.le
      have hiI : (i : Int) < (m : Int) := by omega
      by_cases hj : j < m
      · have hjI : (j : Int) < (m : Int) := by omega
        obtain ⟨x, hx⟩ : ∃ x, wt[j]? = some x := ⟨_, List.getElem?_eq_getElem (by have := HM.out.1; omega)⟩
        have hrange := M.range hx
        have hxl := HM.out.2.1 x (List.mem_of_getElem? hx)
        have hwl : some (wcells x).length = some 129 := by simp [wcells, bcells_len, hxl]
        have hws := wArr_size hxl
        have hcb : wr.cell? ⟨bb, 0, none⟩ = some (.int .i64 k) := (World.cell?_of_block (M.kp.block bb hbb1 hbg)).trans hc1
        have hbbr : bb < wr.heap.size := Nat.lt_of_lt_of_le hbb1 M.kp.size
        have hcb2 : (wr.alloc (.cells (wArr x) 72)).cell? ⟨bb, 0, none⟩ = some (.int .i64 k) := (World.cell?_of_block (heap_alloc_old _ _ hbbr)).trans hcb
        have c1 := spoil1_any x k bb (wr.alloc (.cells (wArr x) 72)) hcb2 (by simp; omega)
        have hr2 : IntKind.i64.wrap ((j : Int) + 1) = (j : Int) + 1 := by rw [IntKind.wrap_i64]; omega
        have hr3 : IntKind.i64.wrap ((i : Int) + 1) = (i : Int) + 1 := by rw [IntKind.wrap_i64]; omega
        have HMM : Hid (Midst w1 wr g0 cap m wt k i j ∧ wt[j]? = some x ∧ x.2.length = 128) := ⟨M, hx, hxl⟩
        have hlast := heap_alloc_last wr (.cells (wArr x) 72)
        clear M hx hxl hcb hcb2
        go_wp2_with (first
          | (refine wpList_load_mid rfl 72 _ rfl g0 (j * 129) rfl (wcells x) _ hrange Try.underlying72 rfl (size_write.trans hwl.symm) ?_)
          | (refine alloc_wide hz rfl rfl ?_)
          | (refine store_wide size_write _ _ _ zw (wArr x) wr rfl rfl rfl rfl rfl rfl zw_size hws (wArr_one x) ?_)
          | (refine wpList_load_row rfl 72 _ rfl wr.heap.size rfl 72 (wArr x) (0, 0) _ hlast Try.underlying72 rfl (size_write.trans (congrArg some hws.symm)) ?_))
        refine c1.mono ?_
        rintro e w3 ⟨rfl, b3⟩
        have HB3 : Hid (Below (wr.alloc (.cells (wArr x) 72)).heap.size (wr.alloc (.cells (wArr x) 72)) w3) := b3
        have hl3 : w3.heap[wr.heap.size]? = some (.cells (wArr x) 72 (0, 0)) := (b3.block _ (by simp)).trans hlast
        clear c1 hrange b3
        by_cases hxk : x.1 = k
        · have hb8 : (x.1 == k) = true := by simpa using hxk
          have HXK : Hid (x.1 = k) := hxk
          rw [hb8]
          clear hb8 hxk
          go_wp2_with fail
          obtain ⟨M, hx, hxl⟩ := HMM.out
          have M3 := (M.below (below1 wr _)).below HB3.out
          go_roundg (m - (j + 1))
          case measure => clear hr2 hr3; omega
          case rel => exact ⟨i, j + 1, by clear hr2 hr3; omega, rfl, by go_num, M3.skip hx HXK.out hj⟩
        · have hb8 : (x.1 == k) = false := by simpa using hxk
          have HXK : Hid (¬ x.1 = k) := hxk
          rw [hb8]
          have M3 : Midst w1 w3 g0 cap m wt k i j := (HMM.out.1.below (below1 wr _)).below HB3.out
          have hth := M3.there
          have HM3 : Hid (Midst w1 w3 g0 cap m wt k i j) := M3
          have hth2 : w3.there g0 (i * 129) (wArr x).size := by rw [hws]; exact hth
          clear hb8 hxk M3 hth
          go_wp2_with (first
            | (refine wpList_load_row rfl 72 _ rfl wr.heap.size rfl 72 (wArr x) (0, 0) _ hl3 Try.underlying72 rfl (size_write.trans (congrArg some hws.symm)) ?_)
            | (refine wpList_store_mid rfl 72 _ _ rfl g0 (i * 129) (wArr x) rfl rfl hth2 (size_write.trans (congrArg some hws.symm)) (wArr_one x) ?_))
          obtain ⟨M, hx, hxl⟩ := HMM.out
          go_roundg (m - (j + 1))
          case measure => clear hr2 hr3; omega
          case rel => exact ⟨i + 1, j + 1, by clear hr2 hr3; omega, by go_num, by go_num, HM3.out.put hx HXK.out hj hxl⟩
      · have hjI : ¬ (j : Int) < (m : Int) := by omega
        obtain rfl : j = m := by omega
        have hroom := M.room HCP.out.1
        have HMM : Hid (Midst w1 wr g0 cap j wt k i j) := M
        have hn0 : 0 < j - i := by omega
        clear M
        go_wp2_with (refine wpList_clear rfl _ 54 72 zw 129 rfl g0 (i * 129) (j - i) (cap - i) rfl Try.underlying54 hz zw_size (by decide) hz1 hn0 hroom ?_; intro cs hcl)
        have hqi : i = q := by rw [HMM.out.n, kept_all wt k j (by rw [HM.out.1]; exact Nat.le_refl _), ← HM.out.2.2]
        have hd := HMM.out.done rfl HM.out.1 HCP.out.1 HCP.out.2 cs hcl
        rw [← HM.out.2.2] at hd
        go_ret
        exact ⟨by rw [hqi]; rfl, hd.1, (kept_of_below _ HB1.out).trans hd.2 (fun _ h => .inl h)⟩
  · have hneb : ((-1 : Int) == -1) = true := rfl
    have hs1 := HS.out.of_block (w' := w1) fun x hx => hb1.block x (HS.out.lt hx)
    have hall : wt.filter (fun y => y.1 != k) = wt := by
      rw [← kept_all wt k m (by rw [HM.out.1]; exact Nat.le_refl _), kept_none wt k m (by rw [← hj0]; exact hno), List.take_of_length_le (by rw [HM.out.1]; exact Nat.le_refl _)]
    have HF : Hid (wt.filter (fun y => y.1 != k) = wt) := hall
    have HB1 : Hid (Below w.heap.size w w1) := hb1
    have HS1 : Hid (SRows w1 (.slice (some ⟨g0, 0, none⟩) m cap) 72 129 (wt.map wcells)) := hs1
    clear ci hs1 hno hb1 hall
    go_wp2_with fail
    go_ret
    have hqm : q = m := by rw [HM.out.2.2, HF.out, HM.out.1]
    rw [hqm, HF.out]
    exact ⟨rfl, HS1.out, kept_of_below _ HB1.out⟩
end Go.Proofs.Ytmgodahdljnbmaa
