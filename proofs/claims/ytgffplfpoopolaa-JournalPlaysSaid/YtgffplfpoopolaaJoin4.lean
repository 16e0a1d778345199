/-
  14 texts, one behind the other: DRefA, DRefR, DRefS, DRefC, DRefP, DSame, DDoes, DOps, JCrash, JRefG, JA, JB, JC, JD.
-/
import Derived.Test.YtgffplfpoopolaaJoin3
import Derived.Test.YtgffplfpoopolaaJoin2
import Derived.Test.YtgffplfpoopolaaShelf
/-
  The contracts of peristyleref04's with, Put and New.
-/
namespace Go.Proofs.Ytgffplfpoopolaa
open Go.RowKit

theorem info_str : (Try.prog.info? 9).map (fun i => (i.zero, i.size, i.bytes)) = some (some (.string { data := #[] }), 1, 16) := by kernel_rfl
theorem info_rw : (Try.prog.info? 78).map (fun i => (i.zero, i.size, i.bytes)) = some (some (.agg #[.int .i64 0, .string { data := #[] }]), 2, 24) := by kernel_rfl
theorem s1_one : ∀ (su : List (List UInt8)), ∀ r ∈ su.map s1, ∀ c ∈ r, c.oneCell' = true := by
  intro su r hr c hc
  obtain ⟨b, _, rfl⟩ := List.mem_map.1 hr
  simp [s1] at hc
  subst hc; rfl
theorem w2_one : ∀ (wt : List (Nat × List UInt8)), ∀ r ∈ wt.map w2, ∀ c ∈ r, c.oneCell' = true := by
  intro wt r hr c hc
  obtain ⟨b, _, rfl⟩ := List.mem_map.1 hr
  simp [w2] at hc
  rcases hc with rfl | rfl <;> rfl
theorem SRows.at_ {w : World} {a : Option Addr} {n c : Nat} {t : TypeId} {sz : Nat} {R : List (List Value)} (h : SRows w (.slice a n c) t sz R) {i : Nat} {r : List Value} (hr : R[i]? = some r) : ∃ g, a = some ⟨g, 0, none⟩ ∧ n = R.length ∧ w.rangeAt g (i * sz) r := by
  rcases h with ⟨_, rfl⟩ | ⟨g, cap, hv, _, _, hrows⟩
  · simp at hr
  · simp only [Value.slice.injEq] at hv
    obtain ⟨rfl, hn, rfl⟩ := hv
    exact ⟨g, rfl, hn, hrows.range hr⟩
/-- An element of one cell, turned. -/
theorem SRows.put1 {w : World} {g n c : Nat} {t : TypeId} {R : List (List Value)} (h : SRows w (.slice (some ⟨g, 0, none⟩) n c) t 1 R) {i : Nat} (hi : i < R.length) (v : Value) : SRows (w.setCell ⟨g, i, none⟩ v) (.slice (some ⟨g, 0, none⟩) n c) t 1 (R.set i [v]) := by
  rcases h with ⟨hv, _⟩ | ⟨g', cap, hv, h1, h2, hrows⟩
  · simp at hv
  · simp only [Value.slice.injEq, Option.some.injEq, Addr.mk.injEq, and_true] at hv
    obtain ⟨rfl, rfl, rfl⟩ := hv
    have := hrows.set (i := i) hi (r := [v]) rfl
    rw [Nat.mul_one] at this
    refine .inr ⟨g, c, by simp, by simpa using h1, h2, ?_⟩
    exact this
theorem SRows.there1 {w : World} {g n c : Nat} {t : TypeId} {R : List (List Value)} (h : SRows w (.slice (some ⟨g, 0, none⟩) n c) t 1 R) {i : Nat} (hi : i < R.length) : w.frozen? ⟨g, i, none⟩ = false := by
  rcases h with ⟨hv, _⟩ | ⟨g', cap, hv, h1, h2, hrows⟩
  · simp at hv
  · simp only [Value.slice.injEq, Option.some.injEq, Addr.mk.injEq, and_true] at hv
    obtain ⟨rfl, rfl, rfl⟩ := hv
    have := (hrows.there hi 0 (by omega)).2
    simpa using this
theorem range_at {w : World} {b o : Nat} {cs : List Value} (h : w.rangeAt b o cs) (j : Nat) (v : Value) (hj : cs[j]? = some v) : w.cell? ⟨b, o + j, none⟩ = some v := h j v hj

set_option maxHeartbeats 1000000 in
theorem with_any {w : World} {sa : Option Addr} {sc : Nat} {su : List (List UInt8)} (hr : SRows w (.slice sa su.length sc) 9 1 (su.map s1)) (k : Nat) (hk : k < su.length) (hl : su.length ≤ 4096) (b : List UInt8) :
    Calls Try.prog 55 #[.slice sa su.length sc, .int .i64 k, .string (strB b)] w fun e w' => (∃ va vc, e = .returned (.slice va su.length vc) ∧ SRows w' (.slice va su.length vc) 9 1 ((su.set k b).map s1) ∧ ∀ x, (Value.slice va su.length vc).ownBlock = some x → w.heap.size ≤ x) ∧ Below w.heap.size w w' := by
  obtain ⟨i0, hi0, hz0, hz1, hz2⟩ := info_parts info_str
  have hkI : (k : Int) < (su.length : Int) := by omega
  have hlm : ([] : List (List Value)).length + (su.map s1).length = su.length := by simp
  have hl6 : su.length ≤ 1000000 := by omega
  have hkm : k < (su.map s1).length := by simpa using hk
  obtain ⟨b0, hb0⟩ : ∃ b0, su[k]? = some b0 := ⟨_, List.getElem?_eq_getElem hk⟩
  have HS : Hid ((su.map s1)[k]? = some [.string (strB b0)]) := by show _ = _; rw [List.getElem?_map, hb0]; rfl
  have HL : Hid (([] : List (List Value)).length + (su.map s1).length = su.length) := hlm
  clear hlm hb0
  go_enter Try.func55, Try.ntmps55
  go_wp2_with (at_builtin; refine append_rows rfl (.tmp 8) (.tmp 9) 27 9 i0 _ 1 16 rfl Try.underlying27 hi0 hz0 hz1 hz2 rfl (by decide) (by decide) rfl rfl (srows_nil w _ _) hr (noOwn w.heap.size) (Nat.le_refl _) (s1_one su) su.length HL.out (su.map s1) rfl hl6 ?_; intro va vc w1 h1 h2 h3; obtain ⟨g, rfl, hnn, hra⟩ := h1.at_ HS.out; clear hnn; have hc := range_at hra 0 _ rfl; simp only [Nat.mul_one, Nat.add_zero] at hc; have hf := h1.there1 hkm; have hp := h1.put1 hkm (.string (strB b)); have hg := h2 g rfl; have H2 : Hid (∀ x, (Value.slice (some ⟨g, 0, none⟩) su.length vc).ownBlock = some x → w.heap.size ≤ x) := h2; clear h2 hra)
  go_ret
  refine ⟨⟨_, _, rfl, ?_, H2.out⟩, h3.setCell hg _⟩
  rw [List.map_set]
  exact hp
theorem size_rd : (Try.prog.info? 30).map (·.size) = some 4 := by kernel_rfl
/-- The document's device as cells. -/
abbrev rd (sa : Option Addr) (n sc : Nat) (wa : Option Addr) (m wc : Nat) (f : Int) (o : Bool) : Array Value := #[.slice sa n sc, .slice wa m wc, .int .i64 f, .bool o]
theorem rd_one (sa : Option Addr) (n sc : Nat) (wa : Option Addr) (m wc : Nat) (f : Int) (o : Bool) : (rd sa n sc wa m wc f o).all (·.oneCell') = true := by simp [Value.oneCell']

set_option maxHeartbeats 1000000 in
theorem put_bad (sa : Option Addr) (n sc : Nat) (wa : Option Addr) (m wc : Nat) (f : Int) (o : Bool) (at_ : Int) (str : ByteArray) (w : World) (h : ¬ ((0 ≤ at_ ∧ at_ < n) ∧ str.size = 128)) :
    Calls Try.prog 38 #[.agg #[.slice sa n sc, .slice wa m wc, .int .i64 f, .bool o], .int .i64 at_, .string str] w fun e w' => e = .returned (.tuple #[.agg #[.slice sa n sc, .slice wa m wc, .int .i64 f, .bool o], .int .i64 1]) ∧ Below w.heap.size w w' := by
  have ci := fun W => in_any sa n sc wa m wc f o at_ W
  have hone := rd_one sa n sc wa m wc f o
  by_cases h1 : 0 ≤ at_ ∧ at_ < n
  case' pos =>
    have hd : decide (0 ≤ at_ ∧ at_ < (n : Int)) = true := by simp [h1]
    have h8 : ((str.size : Int) == 128) = false := by
      have : ¬ str.size = 128 := fun e => h ⟨h1, e⟩
      simp; omega
  case' neg =>
    have hd : decide (0 ≤ at_ ∧ at_ < (n : Int)) = false := by simpa using h1
  all_goals
    rw [hd] at ci
    clear h h1 hd
    go_enter Try.func38, Try.ntmps38
    go_wp2_with fail
    refine (ci _).mono ?_
    rintro e w1 ⟨rfl, hb⟩
    obtain ⟨B0, B1, hB⟩ := two_box hb
    have F1 := B1.setRow (rd sa n sc wa m wc f o)
    clear ci hb
    go_wp2_with (first
      | (refine wpList_load_row rfl 30 _ rfl w.heap.size rfl 30 (rd sa n sc wa m wc f o) (0, 0) _ B0 Try.underlying30 rfl size_rd ?_)
      | (refine wpList_store_row rfl 30 _ _ rfl (w.heap.size + 1) (rd sa n sc wa m wc f o) rfl rfl 30 _ B1 size_rd rfl hone ?_))
    exact bodyPost_ret (res_box_slot Try.results38 _ rfl F1 Try.underlying30 rfl size_rd _ rfl) rfl ⟨rfl, below_setRow hB (by omega) _⟩

set_option maxHeartbeats 1000000 in
theorem put_off (sa : Option Addr) (n sc : Nat) (wa : Option Addr) (m wc : Nat) (s : St) (hz : -9223372036854775808 ≤ s.fuse ∧ s.fuse < 9223372036854775808) (k : Nat) (hk : k < n) (str : ByteArray) (h8 : str.size = 128) (hg : s.goes = false) (w : World) :
    Calls Try.prog 38 #[.agg #[.slice sa n sc, .slice wa m wc, .int .i64 s.fuse, .bool s.off], .int .i64 k, .string str] w fun e w' => e = .returned (.tuple #[.agg #[.slice sa n sc, .slice wa m wc, .int .i64 s.burnt.fuse, .bool s.burnt.off], .int .i64 40]) ∧ Below w.heap.size w w' := by
  have ci := fun W => in_any sa n sc wa m wc s.fuse s.off k W
  have cd := fun W => done_any sa n sc wa m wc s hz W
  rw [hg] at cd
  have hd : decide (0 ≤ (k : Int) ∧ (k : Int) < (n : Int)) = true := by simp; omega
  have h8' : ((str.size : Int) == 128) = true := by simp; omega
  rw [hd] at ci
  obtain ⟨f, hf⟩ : ∃ f, f = s.fuse := ⟨_, rfl⟩
  obtain ⟨o, ho⟩ : ∃ o, o = s.off := ⟨_, rfl⟩
  obtain ⟨f', hf'⟩ : ∃ f', f' = s.burnt.fuse := ⟨_, rfl⟩
  obtain ⟨o', ho'⟩ : ∃ o', o' = s.burnt.off := ⟨_, rfl⟩
  simp only [← hf, ← ho, ← hf', ← ho'] at ci cd ⊢
  clear hd hz hg hf ho hf' ho'
  have hone := rd_one sa n sc wa m wc f' o'
  go_enter Try.func38, Try.ntmps38
  go_wp2_with fail
  refine (ci _).mono ?_
  rintro e w1 ⟨rfl, hb⟩
  obtain ⟨B0, B1, hB⟩ := two_box hb
  clear ci hb
  go_wp2_with (refine wpList_load_row rfl 30 _ rfl w.heap.size rfl 30 (rd sa n sc wa m wc f o) (0, 0) _ B0 Try.underlying30 rfl size_rd ?_)
  refine (cd _).mono ?_
  rintro e w2' ⟨rfl, hb'⟩
  have B1a := (B1.over hb').alloc (.cells (rd sa n sc wa m wc f' o') 30)
  have F1 := B1a.setRow (rd sa n sc wa m wc f' o')
  have hB2 : Below w.heap.size w (w2'.alloc (.cells (rd sa n sc wa m wc f' o') 30)) := (hB.trans (hb'.mono hB.size)).alloc (Nat.le_trans hB.size hb'.size) _
  clear cd hb' B0 B1 hB
  go_wp2_with (refine wpList_store_row rfl 30 _ _ rfl (w.heap.size + 1) (rd sa n sc wa m wc f' o') rfl rfl 30 _ B1a size_rd rfl hone ?_)
  exact bodyPost_ret (res_box_slot Try.results38 _ rfl F1 Try.underlying30 rfl size_rd _ rfl) rfl ⟨rfl, below_setRow hB2 (by omega) _⟩

set_option maxHeartbeats 4000000 in
theorem put_on (sa : Option Addr) (n sc : Nat) (wa : Option Addr) (wc : Nat) (wt : List (Nat × List UInt8)) (s : St) (hz : -9223372036854775808 ≤ s.fuse ∧ s.fuse < 9223372036854775808) (k : Nat) (hk : k < n) (b : List UInt8) (h8 : b.length = 128) (hg : s.goes = true) (w : World)
    (hr : SRows w (.slice wa wt.length wc) 78 2 (wt.map w2)) (hl : wt.length < 900000) :
    Calls Try.prog 38 #[.agg #[.slice sa n sc, .slice wa wt.length wc, .int .i64 s.fuse, .bool s.off], .int .i64 k, .string (strB b)] w fun e w' => (∃ va vc, e = .returned (.tuple #[.agg #[.slice sa n sc, .slice va (wt.length + 1) vc, .int .i64 s.burnt.fuse, .bool s.burnt.off], .int .i64 0]) ∧ SRows w' (.slice va (wt.length + 1) vc) 78 2 ((wt ++ [(k, b)]).map w2) ∧ ∀ x, (Value.slice va (wt.length + 1) vc).ownBlock = some x → w.heap.size ≤ x) ∧ Below w.heap.size w w' := by
  obtain ⟨m, hm⟩ : ∃ m, m = wt.length := ⟨_, rfl⟩
  rw [← hm] at hr ⊢
  have ci := fun W => in_any sa n sc wa m wc s.fuse s.off k W
  have cd := fun W => done_any sa n sc wa m wc s hz W
  rw [hg] at cd
  have hd : decide (0 ≤ (k : Int) ∧ (k : Int) < (n : Int)) = true := by simp; omega
  have h8' : (((strB b).size : Int) == 128) = true := by rw [strB_size]; simp; omega
  rw [hd] at ci
  obtain ⟨f, hf⟩ : ∃ f, f = s.fuse := ⟨_, rfl⟩
  obtain ⟨o, ho⟩ : ∃ o, o = s.off := ⟨_, rfl⟩
  obtain ⟨f', hf'⟩ : ∃ f', f' = s.burnt.fuse := ⟨_, rfl⟩
  obtain ⟨o', ho'⟩ : ∃ o', o' = s.burnt.off := ⟨_, rfl⟩
  simp only [← hf, ← ho, ← hf', ← ho'] at ci cd ⊢
  obtain ⟨str, hstr⟩ : ∃ str, str = strB b := ⟨_, rfl⟩
  rw [← hstr] at h8' ⊢
  have HW : Hid (∀ W, Below w.heap.size w W → SRows W (.slice wa m wc) 78 2 (wt.map w2)) := fun W hb => hr.of_block fun k hk => hb.block k (hr.lt hk)
  obtain ⟨i0, hi0, hz0, hz1', hz2'⟩ := info_parts info_rw
  have HI : Hid (Try.prog.info? 78 = some i0 ∧ i0.zero = some (.agg #[.int .i64 0, .string { data := #[] }]) ∧ i0.size = 2 ∧ i0.bytes = 24) := ⟨hi0, hz0, hz1', hz2'⟩
  have HM : Hid (m = wt.length ∧ str = strB b) := ⟨hm, hstr⟩
  clear hd hz hg hf ho hf' ho' hstr hr hi0 hz0 hz1' hz2' h8
  have hl6 : m + 1 ≤ 1000000 := by omega
  have hl7 : m ≤ 1000000 := by omega
  clear hm hl
  go_enter Try.func38, Try.ntmps38
  go_wp2_with fail
  refine (ci _).mono ?_
  rintro e w1 ⟨rfl, hb⟩
  obtain ⟨B0, B1, hB⟩ := two_box hb
  clear ci hb
  go_wp2_with (refine wpList_load_row rfl 30 _ rfl w.heap.size rfl 30 (rd sa n sc wa m wc f o) (0, 0) _ B0 Try.underlying30 rfl size_rd ?_)
  refine (cd _).mono ?_
  rintro e W ⟨rfl, hb'⟩
  have B1a := (B1.over hb').alloc (.cells (rd sa n sc wa m wc f' o') 30)
  have hB2 : Below w.heap.size w (W.alloc (.cells (rd sa n sc wa m wc f' o') 30)) := (hB.trans (hb'.mono hB.size)).alloc (Nat.le_trans hB.size hb'.size) _
  have hlt : w.heap.size + 1 < W.heap.size := (B1.over hb').lt
  have B8 := box_new W (rd sa n sc wa m wc f' o') 30
  have HB : Hid (Below w.heap.size w (W.alloc (.cells (rd sa n sc wa m wc f' o') 30)) ∧ Box (W.alloc (.cells (rd sa n sc wa m wc f' o') 30)) (w.heap.size + 1) 30 (rd none 0 0 none 0 0 0 false) ∧ Box (W.alloc (.cells (rd sa n sc wa m wc f' o') 30)) W.heap.size 30 (rd sa n sc wa m wc f' o')) := ⟨hB2, B1a, B8⟩
  have hS := HW.out _ hB2
  clear cd hb' B0 B1 hB B1a hB2 B8
  go_wp2_with (first
    | (at_builtin; refine append_rows rfl (.tmp 29) (.tmp 31) 28 78 i0 _ 2 24 rfl Try.underlying28 HI.out.1 HI.out.2.1 HI.out.2.2.1 HI.out.2.2.2 rfl (by decide) (by decide) rfl rfl (srows_nil _ _ _) hS (noOwn (W.heap.size + 1)) (by simp) (w2_one wt) m ?hm (wt.map w2) rfl hl7 ?_; (case hm => rw [HM.out.1]; simp); intro va vc w3 h1 h2 h3; have HX : Hid (SRows w3 (.slice va m vc) 78 2 (wt.map w2) ∧ (∀ k, (Value.slice va m vc).ownBlock = some k → W.heap.size + 1 ≤ k) ∧ Below (W.heap.size + 1) (W.alloc (.cells (rd sa n sc wa m wc f' o') 30)) w3) := ⟨h1, h2, h3⟩; have hz3 : W.heap.size < w3.heap.size := (by have := h3.size; simp at this; omega); clear h1 h2 h3 hS)
    | (at_builtin; refine append_rows rfl (.tmp 33) (.tmp 37) 28 78 i0 _ 2 24 rfl Try.underlying28 HI.out.1 HI.out.2.1 HI.out.2.2.1 HI.out.2.2.2 rfl (by decide) (by decide) rfl rfl (HX.out.1.of_block (fun k hk => heap_alloc_old _ _ (HX.out.1.lt hk))) (srows_new w3 [.int .i64 k, .string str] 78 (sz := 2) rfl) HX.out.2.1 ?hB ?h1 (m + 1) ?hm ((wt ++ [(k, b)]).map w2) ?hR hl6 ?_; (case hB => simp; omega); (case h1 => intro r hr c hc; simp at hr; subst hr; simp at hc; rcases hc with rfl | rfl <;> rfl); (case hm => rw [HM.out.1]; simp); (case hR => rw [HM.out.2]; simp [w2]); intro va4 vc4 w4 h1 h2 h4; have BZ := ((HB.out.2.1.below HX.out.2.2 (by omega)).alloc (.cells #[.int .i64 k, .string str] 78)).below h4 (by omega); have BE := ((HB.out.2.2.below HX.out.2.2 (by omega)).alloc (.cells #[.int .i64 k, .string str] 78)).below h4 (by omega); have q1 := BE.cell 1 _ rfl; have q2 := BE.frozen 1; have BZ2 := BZ.other (a := ⟨W.heap.size, 1, none⟩) (by simp; omega) (.slice va4 (m + 1) vc4); have BE2 := BE.set 1 (.slice va4 (m + 1) vc4); replace BE2 : Box (w4.setCell ⟨W.heap.size, 1, none⟩ (.slice va4 (m + 1) vc4)) W.heap.size 30 (rd sa n sc va4 (m + 1) vc4 f' o') := BE2; have F1 := BZ2.setRow (rd sa n sc va4 (m + 1) vc4 f' o'); have HY : Hid (SRows w4 (.slice va4 (m + 1) vc4) 78 2 ((wt ++ [(k, b)]).map w2) ∧ (∀ k, (Value.slice va4 (m + 1) vc4).ownBlock = some k → W.heap.size + 1 ≤ k) ∧ Below (W.heap.size + 1) (w3.alloc (.cells #[.int .i64 k, .string str] 78)) w4) := ⟨h1, h2, h4⟩; have hone := rd_one sa n sc va4 (m + 1) vc4 f' o'; clear h1 h2 h4 BZ BE)
    | (refine wpList_load_row rfl 30 _ rfl W.heap.size rfl 30 (rd sa n sc va4 (m + 1) vc4 f' o') (0, 0) _ BE2 Try.underlying30 rfl size_rd ?_)
    | (refine wpList_store_row rfl 30 _ _ rfl (w.heap.size + 1) (rd sa n sc va4 (m + 1) vc4 f' o') rfl rfl 30 _ BZ2 size_rd rfl hone ?_))
  obtain ⟨h1, h2, h4⟩ := HY.out
  obtain ⟨_, _, h3⟩ := HX.out
  have e1 : Below w.heap.size w w4 := by
    have a1 := HB.out.1.trans (h3.mono (by omega))
    have a2 := a1.alloc a1.size (.cells #[.int .i64 k, .string str] 78)
    exact a2.trans (h4.mono (by omega))
  refine bodyPost_ret (res_box_slot Try.results38 _ rfl F1 Try.underlying30 rfl size_rd _ rfl) rfl ⟨⟨_, _, rfl, ?_, fun x hx => by have := h2 x hx; omega⟩, below_setRow (e1.setCell (by simp; omega) _) (by omega) _⟩
  refine h1.of_block fun x hx => ?_
  have := h2 x hx
  rw [setRow_other _ _ _ _ (by omega), heap_setCell_other _ _ _ _ (by simp; omega)]
end Go.Proofs.Ytgffplfpoopolaa
/-
  The contract of peristyleref04's Read.
-/
namespace Go.Proofs.Ytgffplfpoopolaa
open Go.RowKit

theorem one_box {w w1 : World} {c0 : Array Value} {t0 : TypeId} (hb : Below (w.alloc (.cells c0 t0)).heap.size (w.alloc (.cells c0 t0)) w1) : Box w1 w.heap.size t0 c0 ∧ Below w.heap.size w w1 :=
  ⟨(box_new _ _ _).over hb, (below1 _ _).trans (hb.mono (by simp))⟩
theorem rread_bad (sa : Option Addr) (n sc : Nat) (wa : Option Addr) (m wc : Nat) (f : Int) (o : Bool) (at_ : Int) (w : World) (h : ¬ (0 ≤ at_ ∧ at_ < n)) :
    Calls Try.prog 14 #[.agg #[.slice sa n sc, .slice wa m wc, .int .i64 f, .bool o], .int .i64 at_] w fun e w' => e = .returned (.tuple #[.string { data := #[] }, .int .i64 1]) ∧ Below w.heap.size w w' := by
  have ci := fun W => in_any sa n sc wa m wc f o at_ W
  have hd : decide (0 ≤ at_ ∧ at_ < (n : Int)) = false := by simpa using h
  rw [hd] at ci
  clear h hd
  go_enter Try.func14, Try.ntmps14
  go_wp2_with fail
  refine (ci _).mono ?_
  rintro e w1 ⟨rfl, hb⟩
  obtain ⟨B0, hB⟩ := one_box hb
  go_wp2
  go_ret2
  exact ⟨rfl, hB⟩
theorem rread_off (sa : Option Addr) (n sc : Nat) (wa : Option Addr) (m wc : Nat) (f : Int) (k : Nat) (w : World) (h : k < n) :
    Calls Try.prog 14 #[.agg #[.slice sa n sc, .slice wa m wc, .int .i64 f, .bool true], .int .i64 k] w fun e w' => e = .returned (.tuple #[.string { data := #[] }, .int .i64 40]) ∧ Below w.heap.size w w' := by
  have ci := fun W => in_any sa n sc wa m wc f true k W
  have hd : decide (0 ≤ (k : Int) ∧ (k : Int) < (n : Int)) = true := by simp; omega
  rw [hd] at ci
  clear h hd
  go_enter Try.func14, Try.ntmps14
  go_wp2_with fail
  refine (ci _).mono ?_
  rintro e w1 ⟨rfl, hb⟩
  obtain ⟨B0, hB⟩ := one_box hb
  have q3 := B0.cell 3 _ rfl
  go_wp2
  go_ret2
  exact ⟨rfl, hB⟩
theorem w2_at {w : World} {wa : Option Addr} {wc : Nat} {wt : List (Nat × List UInt8)} (h : SRows w (.slice wa wt.length wc) 78 2 (wt.map w2)) {i : Nat} {x : Nat × List UInt8} (hx : wt[i]? = some x) :
    ∃ g, wa = some ⟨g, 0, none⟩ ∧ w.cell? ⟨g, i * 2, none⟩ = some (.int .i64 x.1) ∧ w.cell? ⟨g, i * 2 + 1, none⟩ = some (.string (strB x.2)) ∧ g < w.heap.size := by
  obtain ⟨g, rfl, _, hr⟩ := h.at_ (i := i) (r := w2 x) (by rw [List.getElem?_map, hx]; rfl)
  exact ⟨g, rfl, hr 0 _ rfl, hr 1 _ rfl, h.lt rfl⟩
theorem s1_at {w : World} {sa : Option Addr} {sc : Nat} {su : List (List UInt8)} (h : SRows w (.slice sa su.length sc) 9 1 (su.map s1)) {i : Nat} {x : List UInt8} (hx : su[i]? = some x) :
    ∃ g, sa = some ⟨g, 0, none⟩ ∧ w.cell? ⟨g, i, none⟩ = some (.string (strB x)) ∧ g < w.heap.size := by
  obtain ⟨g, rfl, _, hr⟩ := h.at_ (i := i) (r := s1 x) (by rw [List.getElem?_map, hx]; rfl)
  have := hr 0 _ rfl
  simp only [Nat.mul_one, Nat.add_zero] at this
  exact ⟨g, rfl, this, h.lt rfl⟩

set_option maxHeartbeats 2000000 in
theorem rread_on {w : World} {sa : Option Addr} {sc : Nat} {wa : Option Addr} {wc : Nat} {su : List (List UInt8)} {wt : List (Nat × List UInt8)} (hs : SRows w (.slice sa su.length sc) 9 1 (su.map s1)) (hw : SRows w (.slice wa wt.length wc) 78 2 (wt.map w2))
    (hl6 : wt.length ≤ 1000000) (f : Int) (k : Nat) (l : List UInt8) (hl : (lay su wt)[k]? = some l) :
    Calls Try.prog 14 #[.agg #[.slice sa su.length sc, .slice wa wt.length wc, .int .i64 f, .bool false], .int .i64 k] w fun e w' => e = .returned (.tuple #[.string (strB l), .int .i64 0]) ∧ Below w.heap.size w w' := by
  have hk : k < su.length := by
    have := (List.getElem?_eq_some_iff.1 hl).1
    rwa [lay_len] at this
  obtain ⟨n, hn⟩ : ∃ n, n = su.length := ⟨_, rfl⟩
  obtain ⟨m, hm⟩ : ∃ m, m = wt.length := ⟨_, rfl⟩
  have HS : Hid (∀ W, Below w.heap.size w W → SRows W (.slice sa su.length sc) 9 1 (su.map s1)) := fun W hb => hs.of_block fun k hk => hb.block k (hs.lt hk)
  have HW : Hid (∀ W, Below w.heap.size w W → SRows W (.slice wa wt.length wc) 78 2 (wt.map w2)) := fun W hb => hw.of_block fun k hk => hb.block k (hw.lt hk)
  rw [← hn, ← hm]
  rw [← hm] at hl6
  rw [← hn] at hk
  have ci := fun W => in_any sa n sc wa m wc f false k W
  have hd : decide (0 ≤ (k : Int) ∧ (k : Int) < (n : Int)) = true := by simp; omega
  rw [hd] at ci
  have hkI : (k : Int) < (n : Int) := by omega
  have HN : Hid (n = su.length ∧ m = wt.length ∧ (lay su wt)[k]? = some l) := ⟨hn, hm, hl⟩
  clear hd hs hw hn hm hl
  have hr1 : IntKind.i64.wrap ((m : Int) - 1) = (m : Int) - 1 := by rw [IntKind.wrap_i64]; omega
  have hr1' : wrap64 ((m : Int) - 1) = (m : Int) - 1 := by unfold wrap64; omega
  go_enter Try.func14, Try.ntmps14
  go_wp2_with fail
  refine (ci _).mono ?_
  rintro e w1 ⟨rfl, hb⟩
  obtain ⟨B0, hB⟩ := one_box hb
  have q0 := B0.cell 0 _ rfl
  have q1 := B0.cell 1 _ rfl
  have q3 := B0.cell 3 _ rfl
  have HW1 : Hid (SRows w1 (.slice wa wt.length wc) 78 2 (wt.map w2) ∧ SRows w1 (.slice sa su.length sc) 9 1 (su.map s1)) := ⟨HW.out _ hB, HS.out _ hB⟩
  clear ci hb B0 HW HS
  go_wp2_with fail
  clear hr1 hr1'
  go_loopg [4, 5, 6] m (fun g s4 s5 s6 wx => ∃ j : Nat, j = g ∧ j ≤ m ∧ s6 = .int .i64 ((j : Int) - 1) ∧ wx = w1 ∧ ∀ i x, j ≤ i → wt[i]? = some x → x.1 ≠ k)
  case atStart => exact ⟨m, rfl, Nat.le_refl _, rfl, rfl, fun i x hi hx => by have := (List.getElem?_eq_some_iff.1 hx).1; have := HN.out.2.1; omega⟩
  case round =>
    obtain ⟨j, rfl, hjm, rfl, rfl, hno⟩ := hrel
    cases j with
    | zero =>
      have e0 : ((0 : Nat) : Int) - 1 = -1 := by omega
      rw [e0]
      have hle : su[k]? = some l := by
        rw [← HN.out.2.2]
        refine (lay_other k wt su ?_).symm
        intro x hx
        obtain ⟨i, hi⟩ := List.mem_iff_getElem?.1 hx
        exact hno i x (Nat.zero_le _) hi
      obtain ⟨g, rfl, hc, _⟩ := s1_at HW1.out.2 hle
      clear hle hno e0
      go_wp2
      go_ret2
      exact ⟨rfl, hB⟩
    | succ i =>
      have e0 : ((i + 1 : Nat) : Int) - 1 = (i : Int) := by omega
      rw [e0]
      obtain ⟨x, hx⟩ : ∃ x, wt[i]? = some x := ⟨_, List.getElem?_eq_getElem (by have := HN.out.2.1; omega)⟩
      obtain ⟨g, rfl, hc0, hc1, _⟩ := w2_at HW1.out.1 hx
      have hiI : (i : Int) < (m : Int) := by omega
      have hr2 : IntKind.i64.wrap ((i : Int) - 1) = (i : Int) - 1 := by rw [IntKind.wrap_i64]; omega
      by_cases hxk : x.1 = k
      · have hle : x.2 = l := by
          have hsp : wt = wt.take i ++ x :: wt.drop (i + 1) := by
            have h1 := (List.take_append_drop i wt).symm
            rw [List.drop_eq_getElem_cons (List.getElem?_eq_some_iff.1 hx).1] at h1
            rwa [(List.getElem?_eq_some_iff.1 hx).2] at h1
          have h2 := lay_last su (wt.take i) x (wt.drop (i + 1)) (by
            intro y hy
            obtain ⟨p, hp⟩ := List.mem_iff_getElem?.1 hy
            rw [List.getElem?_drop] at hp
            rw [hxk]
            exact hno _ y (by omega) hp) (by rw [hxk, ← HN.out.1]; exact hk)
          rw [← hsp, hxk, HN.out.2.2] at h2
          exact (Option.some.inj h2).symm
        have hxb : ((x.1 : Int) == (k : Int)) = true := by simp [hxk]
        rw [hle] at hc1
        obtain ⟨x1, hx1⟩ : ∃ x1, x1 = x.1 := ⟨_, rfl⟩
        rw [← hx1] at hc0 hxb
        clear hxk hle hno hx hx1 e0
        go_wp2
        go_ret2
        exact ⟨rfl, hB⟩
      · have hxb : ((x.1 : Int) == (k : Int)) = false := by simp; omega
        have Hno : Hid (∀ i' x', i ≤ i' → wt[i']? = some x' → x'.1 ≠ k) := fun i' x' hi' hx' => by
          by_cases e : i' = i
          · subst e
            rw [hx] at hx'
            rw [← Option.some.inj hx']
            exact hxk
          · exact hno i' x' (by omega) hx'
        obtain ⟨x1, hx1⟩ : ∃ x1, x1 = x.1 := ⟨_, rfl⟩
        rw [← hx1] at hc0 hxb
        clear hxk hno hx hx1 e0
        go_wp2
        go_roundg i
        case measure => clear hr2; omega
        case rel => exact ⟨i, rfl, by clear hr2; omega, by go_num, rfl, Hno.out⟩
end Go.Proofs.Ytgffplfpoopolaa
/-
  The contract of peristyleref04's Sync.
-/
namespace Go.Proofs.Ytgffplfpoopolaa
open Go.RowKit

theorem with_n {w : World} {sa : Option Addr} {n sc : Nat} {su : List (List UInt8)} (hn : su.length = n) (hr : SRows w (.slice sa n sc) 9 1 (su.map s1)) (k : Nat) (hk : k < n) (hl : n ≤ 4096) (b : List UInt8) :
    Calls Try.prog 55 #[.slice sa n sc, .int .i64 k, .string (strB b)] w fun e w' => (∃ va vc, e = .returned (.slice va n vc) ∧ SRows w' (.slice va n vc) 9 1 ((su.set k b).map s1) ∧ ∀ x, (Value.slice va n vc).ownBlock = some x → w.heap.size ≤ x) ∧ Below w.heap.size w w' := by
  subst hn
  exact with_any hr k hk hl b
theorem SRows.over {w w' : World} {v : Value} {t : TypeId} {sz : Nat} {R : List (List Value)} (h : SRows w v t sz R) (b : Below w.heap.size w w') : SRows w' v t sz R := h.of_block fun k hk => b.block k (h.lt hk)
theorem SRows.setOther {w : World} {v : Value} {t : TypeId} {sz : Nat} {R : List (List Value)} (h : SRows w v t sz R) {a : Addr} (u : Value) (hn : ∀ k, v.ownBlock = some k → k ≠ a.block) : SRows (w.setCell a u) v t sz R := h.of_block fun k hk => heap_setCell_other w a k u (hn k hk)
theorem SRows.rowOther {w : World} {v : Value} {t : TypeId} {sz : Nat} {R : List (List Value)} (h : SRows w v t sz R) {p : Nat} (c : Array Value) (hn : ∀ k, v.ownBlock = some k → k ≠ p) : SRows (w.setRow p c) v t sz R := h.of_block fun k hk => setRow_other w p k c (hn k hk)

set_option maxHeartbeats 1000000 in
theorem rsync_off (sa : Option Addr) (n sc : Nat) (wa : Option Addr) (m wc : Nat) (s : St) (hz : -9223372036854775808 ≤ s.fuse ∧ s.fuse < 9223372036854775808) (hg : s.goes = false) (w : World) :
    Calls Try.prog 39 #[.agg #[.slice sa n sc, .slice wa m wc, .int .i64 s.fuse, .bool s.off]] w fun e w' => e = .returned (.tuple #[.agg #[.slice sa n sc, .slice wa m wc, .int .i64 s.burnt.fuse, .bool s.burnt.off], .int .i64 40]) ∧ Below w.heap.size w w' := by
  have cd := fun W => done_any sa n sc wa m wc s hz W
  rw [hg] at cd
  obtain ⟨f, hf⟩ : ∃ f, f = s.fuse := ⟨_, rfl⟩
  obtain ⟨o, ho⟩ : ∃ o, o = s.off := ⟨_, rfl⟩
  obtain ⟨f', hf'⟩ : ∃ f', f' = s.burnt.fuse := ⟨_, rfl⟩
  obtain ⟨o', ho'⟩ : ∃ o', o' = s.burnt.off := ⟨_, rfl⟩
  simp only [← hf, ← ho, ← hf', ← ho'] at cd ⊢
  clear hz hg hf ho hf' ho'
  have hone := rd_one sa n sc wa m wc f' o'
  go_enter Try.func39, Try.ntmps39
  go_wp2_with fail
  refine (cd _).mono ?_
  rintro e w1 ⟨rfl, hb⟩
  obtain ⟨B0, B1, hB⟩ := two_box hb
  have B1a := B1.alloc (.cells (rd sa n sc wa m wc f' o') 30)
  have F1 := B1a.setRow (rd sa n sc wa m wc f' o')
  have hB2 : Below w.heap.size w (w1.alloc (.cells (rd sa n sc wa m wc f' o') 30)) := hB.alloc hB.size _
  clear cd hb B0 B1 hB
  go_wp2_with (refine wpList_store_row rfl 30 _ _ rfl (w.heap.size + 1) (rd sa n sc wa m wc f' o') rfl rfl 30 _ B1a size_rd rfl hone ?_)
  exact bodyPost_ret (res_box_slot Try.results39 _ rfl F1 Try.underlying30 rfl size_rd _ rfl) rfl ⟨rfl, below_setRow hB2 (by omega) _⟩

/-- In the midst of Sync, or of Crash: the box b has the lists; z is the result's. -/
structure Mid (w0 w : World) (G : Nat → Prop) (b z : Nat) (sa : Option Addr) (n sc : Nat) (wa : Option Addr) (m wc : Nat) (f : Int) (o : Bool) (su : List (List UInt8)) (wt : List (Nat × List UInt8)) : Prop where
  box : Box w b 30 (rd sa n sc wa m wc f o)
  zero : Box w z 30 (rd none 0 0 none 0 0 0 false)
  sure : SRows w (.slice sa n sc) 9 1 (su.map s1)
  wait : SRows w (.slice wa m wc) 78 2 (wt.map w2)
  own : ∀ x, (Value.slice sa n sc).ownBlock = some x → ¬ G x ∧ x ≠ b ∧ x ≠ z
  ownw : ∀ x, (Value.slice wa m wc).ownBlock = some x → ¬ G x ∧ x ≠ b ∧ x ≠ z
  bel : Below w0.heap.size w0 w
  abv : w0.heap.size ≤ b ∧ w0.heap.size ≤ z
  ne : b ≠ z
  len : su.length = n
  lenw : wt.length = m
section
variable {w0 w w' : World} {G : Nat → Prop} {b z : Nat} {sa : Option Addr} {n sc : Nat} {wa : Option Addr} {m wc : Nat} {f : Int} {o : Bool} {su su' : List (List UInt8)} {wt : List (Nat × List UInt8)}
theorem Mid.over (M : Mid w0 w G b z sa n sc wa m wc f o su wt) (h : Below w.heap.size w w') : Mid w0 w' G b z sa n sc wa m wc f o su wt :=
  { M with box := M.box.over h, zero := M.zero.over h, sure := M.sure.over h, wait := M.wait.over h, bel := M.bel.trans (h.mono M.bel.size) }
theorem Mid.drew (M : Mid w0 w G b z sa n sc wa m wc f o su wt) : Mid w0 w.drew G b z sa n sc wa m wc f o su wt := M.over ⟨rfl, rfl, rfl, Nat.le_refl _, fun _ _ => rfl⟩
/-- The field Sure is another list, which was made since. -/
theorem Mid.put (M : Mid w0 w G b z sa n sc wa m wc f o su wt) (h : Below w.heap.size w w') (hG : ∀ k, G k → k < w0.heap.size) {va : Option Addr} {vc : Nat} (hs : SRows w' (.slice va n vc) 9 1 (su'.map s1)) (hl : su'.length = n) (hv : ∀ x, (Value.slice va n vc).ownBlock = some x → w.heap.size ≤ x) :
    Mid w0 (w'.setCell ⟨b, 0, none⟩ (.slice va n vc)) G b z va n vc wa m wc f o su' wt := by
  have M' := M.over h
  have hfar : ∀ x, (Value.slice va n vc).ownBlock = some x → ¬ G x ∧ x ≠ b ∧ x ≠ z := fun x hx => by
    have h1 := hv x hx
    refine ⟨fun hg => ?_, fun e => ?_, fun e => ?_⟩
    · have := hG x hg; have := M.bel.size; omega
    · have := M.box.lt; omega
    · have := M.zero.lt; omega
  exact { M' with
    box := M'.box.set 0 _
    zero := M'.zero.other (fun e => M.ne e.symm) _
    sure := hs.setOther _ fun k hk => (hfar k hk).2.1
    wait := M'.wait.setOther _ fun k hk => (M.ownw k hk).2.1
    own := hfar
    bel := M'.bel.setCell M.abv.1 _
    len := hl }
end

set_option maxRecDepth 4000 in
set_option maxHeartbeats 4000000 in
theorem rsync_on {w : World} {G : Nat → Prop} {R : RH} {su : List (List UInt8)} {wt : List (Nat × List UInt8)} (r : RefIs w G R su wt) (hG : ∀ k, G k → k < w.heap.size) (s : St) (hz : -9223372036854775808 ≤ s.fuse ∧ s.fuse < 9223372036854775808) (hg : s.goes = true)
    (ha : ∀ x ∈ wt, x.1 < su.length) (hl : su.length ≤ 4096) (hlw : wt.length ≤ 1000000) :
    Calls Try.prog 39 #[.agg #[.slice R.sa su.length R.sc, .slice R.wa wt.length R.wc, .int .i64 s.fuse, .bool s.off]] w fun e w' => (∃ R', e = .returned (.tuple #[.agg #[.slice R'.sa su.length R'.sc, .slice none 0 0, .int .i64 s.burnt.fuse, .bool s.burnt.off], .int .i64 0]) ∧ RefIs w' G R' (lay su wt) [] ∧ R'.wa = none ∧ R'.wc = 0) ∧ Below w.heap.size w w' := by
  obtain ⟨n, hn⟩ : ∃ n, n = su.length := ⟨_, rfl⟩
  obtain ⟨m, hm⟩ : ∃ m, m = wt.length := ⟨_, rfl⟩
  obtain ⟨sa, sc, wa, wc⟩ := R
  simp only at r ⊢
  have cd := fun W => done_any sa n sc wa m wc s hz W
  rw [hg] at cd
  obtain ⟨f, hf⟩ : ∃ f, f = s.fuse := ⟨_, rfl⟩
  obtain ⟨o, ho⟩ : ∃ o, o = s.off := ⟨_, rfl⟩
  obtain ⟨f', hf'⟩ : ∃ f', f' = s.burnt.fuse := ⟨_, rfl⟩
  obtain ⟨o', ho'⟩ : ∃ o', o' = s.burnt.off := ⟨_, rfl⟩
  simp only [← hf, ← ho, ← hf', ← ho'] at cd ⊢
  have r1 := r.sure
  have r2 := r.wait
  have r3 := r.g1
  have r4 := r.g2
  simp only at r1 r2 r3 r4
  rw [← hn] at r1 r3 hl
  rw [← hm] at r2 r4 hlw
  rw [← hn, ← hm]
  have HN : Hid (n = su.length ∧ m = wt.length ∧ ∀ x ∈ wt, x.1 < n) := ⟨hn, hm, by rw [hn]; exact ha⟩
  clear hz hg hf ho hf' ho' hn hm r ha
  go_enter Try.func39, Try.ntmps39
  go_wp2_with fail
  refine (cd _).mono ?_
  rintro e w1 ⟨rfl, hb⟩
  obtain ⟨B0, B1, hB⟩ := two_box hb
  have hlt := B1.lt
  have M0 : Mid w (w1.alloc (.cells (rd sa n sc wa m wc f' o') 30)) G w1.heap.size (w.heap.size + 1) sa n sc wa m wc f' o' su wt :=
    { box := box_new _ _ _
      zero := B1.alloc _
      sure := r1.over (hB.alloc hB.size _)
      wait := r2.over (hB.alloc hB.size _)
      own := fun x hx => by have := r1.lt hx; exact ⟨r3 x hx, by omega, by omega⟩
      ownw := fun x hx => by have := r2.lt hx; exact ⟨r4 x hx, by omega, by omega⟩
      bel := hB.alloc hB.size _
      abv := ⟨by omega, by omega⟩
      ne := by omega
      len := HN.out.1.symm
      lenw := HN.out.2.1.symm }
  have HG : Hid (∀ k, G k → k < w.heap.size) := hG
  have HM0 : Hid (Mid w (w1.alloc (.cells (rd sa n sc wa m wc f' o') 30)) G w1.heap.size (w.heap.size + 1) sa n sc wa m wc f' o' su wt) := M0
  clear M0 B0 B1 hB hb cd r1 r2 r3 r4 hG
  go_wp2_with fail
  obtain ⟨b, hbb⟩ : ∃ b, b = w1.heap.size := ⟨_, rfl⟩
  obtain ⟨z, hzz⟩ : ∃ z, z = w.heap.size + 1 := ⟨_, rfl⟩
  obtain ⟨W, hW⟩ : ∃ W, W = w1.alloc (.cells (rd sa n sc wa m wc f' o') 30) := ⟨_, rfl⟩
  rw [← hbb, ← hzz, ← hW] at HM0
  show Code.wp _ _ _ _ (w1.alloc (.cells (rd sa n sc wa m wc f' o') 30))
  rw [← hbb, ← hzz, ← hW]
  clear hbb hzz hW hlt
  obtain ⟨sa0, hsa0⟩ : ∃ x, x = sa := ⟨_, rfl⟩
  obtain ⟨sc0, hsc0⟩ : ∃ x, x = sc := ⟨_, rfl⟩
  go_loopg [6] m (fun g s6 wx => ∃ (i : Nat) (sa : Option Addr) (sc : Nat), i + g = m ∧ s6 = .int .i64 i ∧ Mid w wx G b z sa n sc wa m wc f' o' (lay su (wt.take i)) wt)
  case atStart => exact ⟨0, sa, sc, by omega, rfl, by simpa [lay] using HM0.out⟩
  case round =>
    obtain ⟨i, sa, sc, hig, rfl, M⟩ := hrel
    clear HM0
    have p0 := M.box.cell 0 _ rfl
    have p1 := M.box.cell 1 _ rfl
    by_cases hi : i < m
    · have hiI : (i : Int) < (m : Int) := by omega
      obtain ⟨x, hx⟩ : ∃ x, wt[i]? = some x := ⟨_, List.getElem?_eq_getElem (by have := HN.out.2.1; omega)⟩
      have hwt := M.wait
      rw [HN.out.2.1] at hwt
      obtain ⟨g, rfl, e0, e1, hgl⟩ := w2_at hwt hx
      have hxa : x.1 < n := HN.out.2.2 x (List.mem_of_getElem? hx)
      have hxI : (x.1 : Int) < (n : Int) := by omega
      have cw := with_n (w := wr.drew) M.len M.drew.sure x.1 hxa hl x.2
      have hst := lay_take su wt i x hx
      have hr2 : IntKind.i64.wrap ((i : Int) + 1) = (i : Int) + 1 := by rw [IntKind.wrap_i64]; omega
      have f0 := M.box.frozen 0
      have hbl := M.box.lt
      have hne : g ≠ b := (M.ownw g rfl).2.1
      have HMM : Hid (Mid w wr G b z sa n sc (some ⟨g, 0, none⟩) m wc f' o' (lay su (wt.take i)) wt) := M
      have HST : Hid (lay su (wt.take (i + 1)) = (lay su (wt.take i)).set x.1 x.2) := hst
      obtain ⟨x1, hx1⟩ : ∃ x1, x1 = x.1 := ⟨_, rfl⟩
      obtain ⟨str, hstr⟩ : ∃ str, str = strB x.2 := ⟨_, rfl⟩
      rw [← hx1] at e0 hxI hxa cw
      rw [← hstr] at e1 cw
      have HX : Hid (x1 = x.1 ∧ str = strB x.2) := ⟨hx1, hstr⟩
      clear M hx hst hwt hx1 hstr
      go_wp2_with fail
      refine wp_region_held_then (fun w' => w'.cell? ⟨b, 0, none⟩ = some (.slice sa n sc) ∧ w'.cell? ⟨b, 1, none⟩ = some (.slice (some ⟨g, 0, none⟩) m wc) ∧ w'.cell? ⟨g, i * 2, none⟩ = some (.int .i64 x1) ∧ w'.cell? ⟨g, i * 2 + 1, none⟩ = some (.string str)) _ (by kernel_rfl) rfl (by kernel_rfl) ?_
      have hHeld : (fun w' : World => w'.cell? ⟨b, 0, none⟩ = some (.slice sa n sc) ∧ w'.cell? ⟨b, 1, none⟩ = some (.slice (some ⟨g, 0, none⟩) m wc) ∧ w'.cell? ⟨g, i * 2, none⟩ = some (.int .i64 x1) ∧ w'.cell? ⟨g, i * 2 + 1, none⟩ = some (.string str)) wr.drew := ⟨p0, p1, e0, e1⟩
      dsimp only [List.dropLast, List.length, List.getLast]
      ((refine takeL 0 (v := ?_) rfl (by kernel_rfl) (by kernel_rfl) (by kernel_rfl) (fun _ _ _ h => h) (by rfl) hHeld ?_ ?_; rotate_left; focus (intro w hSw; (try dsimp only at hSw); go_simp <;> with_reducible rfl); (try simp only [Act.put, List.setIfInBounds_toArray, List.set_cons_zero, List.set_cons_succ])); (refine takeL 1 (v := ?_) rfl (by kernel_rfl) (by kernel_rfl) (by kernel_rfl) (fun _ _ _ h => h) (by rfl) hHeld ?_ ?_; rotate_left; focus (intro w hSw; (try dsimp only at hSw); go_simp <;> with_reducible rfl); (try simp only [Act.put, List.setIfInBounds_toArray, List.set_cons_zero, List.set_cons_succ])); (refine takeL 2 (v := ?_) rfl (by kernel_rfl) (by kernel_rfl) (by kernel_rfl) (fun _ _ _ h => h) (by rfl) hHeld ?_ ?_; rotate_left; focus (intro w hSw; (try dsimp only at hSw); go_simp <;> with_reducible rfl); (try simp only [Act.put, List.setIfInBounds_toArray, List.set_cons_zero, List.set_cons_succ])); (refine takeL 3 (v := ?_) rfl (by kernel_rfl) (by kernel_rfl) (by kernel_rfl) (fun _ _ _ h => h) (by rfl) hHeld ?_ ?_; rotate_left; focus (intro w hSw; (try dsimp only at hSw); go_simp <;> with_reducible rfl); (try simp only [Act.put, List.setIfInBounds_toArray, List.set_cons_zero, List.set_cons_succ])); (refine takeL 4 (v := ?_) rfl (by kernel_rfl) (by kernel_rfl) (by kernel_rfl) (fun _ _ _ h => h) (by rfl) hHeld ?_ ?_; rotate_left; focus (intro w hSw; (try dsimp only at hSw); go_simp <;> with_reducible rfl); (try simp only [Act.put, List.setIfInBounds_toArray, List.set_cons_zero, List.set_cons_succ])); (refine takeL 5 (v := ?_) rfl (by kernel_rfl) (by kernel_rfl) (by kernel_rfl) (fun _ _ _ h => h) (by rfl) hHeld ?_ ?_; rotate_left; focus (intro w hSw; (try dsimp only at hSw); go_simp <;> with_reducible rfl); (try simp only [Act.put, List.setIfInBounds_toArray, List.set_cons_zero, List.set_cons_succ])); (refine takeL 6 (v := ?_) rfl (by kernel_rfl) (by kernel_rfl) (by kernel_rfl) (fun _ _ _ h => h) (by rfl) hHeld ?_ ?_; rotate_left; focus (intro w hSw; (try dsimp only at hSw); go_simp <;> with_reducible rfl); (try simp only [Act.put, List.setIfInBounds_toArray, List.set_cons_zero, List.set_cons_succ])); (refine takeL 7 (v := ?_) rfl (by kernel_rfl) (by kernel_rfl) (by kernel_rfl) (fun _ _ _ h => h) (by rfl) hHeld ?_ ?_; rotate_left; focus (intro w hSw; (try dsimp only at hSw); go_simp <;> with_reducible rfl); (try simp only [Act.put, List.setIfInBounds_toArray, List.set_cons_zero, List.set_cons_succ])); (refine takeL 8 (v := ?_) rfl (by kernel_rfl) (by kernel_rfl) (by kernel_rfl) (fun _ _ _ h => h) (by rfl) hHeld ?_ ?_; rotate_left; focus (intro w hSw; (try dsimp only at hSw); go_simp <;> with_reducible rfl); (try simp only [Act.put, List.setIfInBounds_toArray, List.set_cons_zero, List.set_cons_succ])); (refine takeL 9 (v := ?_) rfl (by kernel_rfl) (by kernel_rfl) (by kernel_rfl) (fun _ _ _ h => h) (by rfl) hHeld ?_ ?_; rotate_left; focus (intro w hSw; (try dsimp only at hSw); go_simp <;> with_reducible rfl); (try simp only [Act.put, List.setIfInBounds_toArray, List.set_cons_zero, List.set_cons_succ])); (refine takeL 10 (v := ?_) rfl (by kernel_rfl) (by kernel_rfl) (by kernel_rfl) (fun _ _ _ h => h) (by rfl) hHeld ?_ ?_; rotate_left; focus (intro w hSw; (try dsimp only at hSw); go_simp <;> with_reducible rfl); (try simp only [Act.put, List.setIfInBounds_toArray, List.set_cons_zero, List.set_cons_succ])); (refine takeL 11 (v := ?_) rfl (by kernel_rfl) (by kernel_rfl) (by kernel_rfl) (fun _ _ _ h => h) (by rfl) hHeld ?_ ?_; rotate_left; focus (intro w hSw; (try dsimp only at hSw); go_simp <;> with_reducible rfl); (try simp only [Act.put, List.setIfInBounds_toArray, List.set_cons_zero, List.set_cons_succ])); (refine takeL 12 (v := ?_) rfl (by kernel_rfl) (by kernel_rfl) (by kernel_rfl) (fun _ _ _ h => h) (by rfl) hHeld ?_ ?_; rotate_left; focus (intro w hSw; (try dsimp only at hSw); go_simp <;> with_reducible rfl); (try simp only [Act.put, List.setIfInBounds_toArray, List.set_cons_zero, List.set_cons_succ])); (refine takeL 13 (v := ?_) rfl (by kernel_rfl) (by kernel_rfl) (by kernel_rfl) (fun _ _ _ h => h) (by rfl) hHeld ?_ ?_; rotate_left; focus (intro w hSw; (try dsimp only at hSw); go_simp <;> with_reducible rfl); (try simp only [Act.put, List.setIfInBounds_toArray, List.set_cons_zero, List.set_cons_succ])))
      dsimp only [Act.put]
      simp only [List.setIfInBounds_toArray, List.set_cons_zero, List.set_cons_succ]
      refine callL 14 (f := 55) (vs := #[.slice sa n sc, .int .i64 x1, .string str]) rfl (by kernel_rfl) (by rfl) (by go_simp) ?_
      refine cw.mono ?_
      rintro e w2 ⟨⟨va, vc, rfl, hr2', hf2⟩, hb2⟩
      refine ⟨_, rfl, ?_⟩
      have M5 := HMM.out.drew.put hb2 HG.out hr2' (by rw [List.length_set]; exact HMM.out.len) hf2
      have HM5 : Hid (Mid w (w2.setCell ⟨b, 0, none⟩ (.slice va n vc)) G b z va n vc (some ⟨g, 0, none⟩) m wc f' o' ((lay su (wt.take i)).set x.1 x.2) wt) := by rw [← HX.out.1]; exact M5
      have p02 := (hb2.cell (p := ⟨b, 0, none⟩) hbl).trans p0
      have f02 := (hb2.frozen (p := ⟨b, 0, none⟩) hbl).trans f0
      have hHeld2 : (fun w' : World => w'.cell? ⟨b, 0, none⟩ = some (.slice sa n sc) ∧ w'.cell? ⟨b, 1, none⟩ = some (.slice (some ⟨g, 0, none⟩) m wc) ∧ w'.cell? ⟨g, i * 2, none⟩ = some (.int .i64 x1) ∧ w'.cell? ⟨g, i * 2 + 1, none⟩ = some (.string str)) w2 := ⟨p02, (hb2.cell (p := ⟨b, 1, none⟩) hbl).trans p1, (hb2.cell (p := ⟨g, i * 2, none⟩) hgl).trans e0, (hb2.cell (p := ⟨g, i * 2 + 1, none⟩) hgl).trans e1⟩
      refine ⟨hHeld2, ?_⟩
      clear M5 hr2' hf2
      ((refine takeL 15 (v := ?_) rfl (by kernel_rfl) (by kernel_rfl) (by kernel_rfl) (fun _ _ _ h => h) (by rfl) hHeld2 ?_ ?_; rotate_left; focus (intro w hSw; (try dsimp only at hSw); go_simp <;> with_reducible rfl); (try simp only [Act.put, List.setIfInBounds_toArray, List.set_cons_zero, List.set_cons_succ])))
      refine doneL (by kernel_rfl) ?_
      dsimp only [Act.put]
      simp only [List.setIfInBounds_toArray, List.set_cons_zero, List.set_cons_succ]
      unfold Oper.wp
      go_simp
      go_wp2
      go_roundg (m - (i + 1))
      case measure => clear hr2; omega
      case rel => exact ⟨i + 1, va, vc, by clear hr2; omega, by go_num, by rw [HST.out]; exact HM5.out⟩
    · have hiI : ¬ (i : Int) < (m : Int) := by omega
      have ht : wt.take i = wt := List.take_of_length_le (by have := HN.out.2.1; omega)
      rw [ht] at M
      have f1 := M.box.frozen 1
      have B4 : Box (wr.setCell ⟨b, 1, none⟩ (.slice none 0 0)) b 30 (rd sa n sc none 0 0 f' o') := M.box.set 1 (.slice none 0 0)
      have Z4 := M.zero.other (a := ⟨b, 1, none⟩) (fun e => M.ne e.symm) (.slice none 0 0)
      have F1 := Z4.setRow (rd sa n sc none 0 0 f' o')
      have hone := rd_one sa n sc none 0 0 f' o'
      have HMM : Hid (Mid w wr G b z sa n sc wa m wc f' o' (lay su wt) wt) := M
      clear M ht
      go_wp2_with (first
        | (refine wpList_load_row rfl 30 _ rfl b rfl 30 (rd sa n sc none 0 0 f' o') (0, 0) _ B4 Try.underlying30 rfl size_rd ?_)
        | (refine wpList_store_row rfl 30 _ _ rfl z (rd sa n sc none 0 0 f' o') rfl rfl 30 _ Z4 size_rd rfl hone ?_))
      have M := HMM.out
      refine bodyPost_ret (res_box_slot Try.results39 _ rfl F1 Try.underlying30 rfl size_rd _ rfl) rfl ⟨⟨⟨sa, sc, none, 0⟩, rfl, ⟨?_, srows_nil _ _ _, ?_, ?_⟩, rfl, rfl⟩, below_setRow (M.bel.setCell M.abv.1 _) M.abv.2 _⟩
      · have := (M.sure.setOther (a := ⟨b, 1, none⟩) (.slice none 0 0) fun k hk => (M.own k hk).2.1).rowOther (p := z) (rd sa n sc none 0 0 f' o') fun k hk => (M.own k hk).2.2
        simp only [M.len]
        exact this
      · simp only [M.len]
        exact fun k hk => (M.own k hk).1
      · intro k hk
        simp [Value.ownBlock] at hk
end Go.Proofs.Ytgffplfpoopolaa
/-
  The contract of peristyleref04's Crash.
-/
namespace Go.Proofs.Ytgffplfpoopolaa
open Go.RowKit

set_option maxRecDepth 4000 in
set_option maxHeartbeats 4000000 in
theorem rcrash_any {w : World} {G : Nat → Prop} {R : RH} {su : List (List UInt8)} {wt : List (Nat × List UInt8)} (r : RefIs w G R su wt) (hG : ∀ k, G k → k < w.heap.size) (f : Int) (o : Bool) (v : Value) (l : List (BitVec 64)) (hv : ReadsI w v l) (hll : l.length ≤ maxLen)
    (ha : ∀ x ∈ wt, x.1 < su.length) (hl : su.length ≤ 4096) (hlw : wt.length ≤ 1000000) :
    Calls Try.prog 42 #[.agg #[.slice R.sa su.length R.sc, .slice R.wa wt.length R.wc, .int .i64 f, .bool o], v] w fun e w' => (∃ R', e = .returned (.agg #[.slice R'.sa su.length R'.sc, .slice none 0 0, .int .i64 (-1), .bool false]) ∧ RefIs w' G R' (lay su (keepW (among l) 0 wt)) [] ∧ R'.wa = none ∧ R'.wc = 0) ∧ Below w.heap.size w w' := by
  obtain ⟨n, hn⟩ : ∃ n, n = su.length := ⟨_, rfl⟩
  obtain ⟨m, hm⟩ : ∃ m, m = wt.length := ⟨_, rfl⟩
  obtain ⟨sa, sc, wa, wc⟩ := R
  simp only at r ⊢
  have r1 := r.sure
  have r2 := r.wait
  have r3 := r.g1
  have r4 := r.g2
  simp only at r1 r2 r3 r4
  rw [← hn] at r1 r3 hl
  rw [← hm] at r2 r4 hlw
  rw [← hn, ← hm]
  have HN : Hid (n = su.length ∧ m = wt.length ∧ ∀ x ∈ wt, x.1 < n) := ⟨hn, hm, by rw [hn]; exact ha⟩
  clear hn hm r ha
  have hB := below2 w (.cells (rd sa n sc wa m wc f o) 30) (.cells (rd none 0 0 none 0 0 0 false) 30)
  obtain ⟨B0, B1, _⟩ := two_box (Below.refl ((w.alloc (.cells (rd sa n sc wa m wc f o) 30)).alloc (.cells (rd none 0 0 none 0 0 0 false) 30)).heap.size ((w.alloc (.cells (rd sa n sc wa m wc f o) 30)).alloc (.cells (rd none 0 0 none 0 0 0 false) 30)))
  obtain ⟨W, hW⟩ : ∃ W, W = (w.alloc (.cells (rd sa n sc wa m wc f o) 30)).alloc (.cells (rd none 0 0 none 0 0 0 false) 30) := ⟨_, rfl⟩
  rw [← hW] at hB B0 B1
  have M0 : Mid w W G w.heap.size (w.heap.size + 1) sa n sc wa m wc f o su wt :=
    { box := B0
      zero := B1
      sure := r1.over hB
      wait := r2.over hB
      own := fun x hx => by have := r1.lt hx; exact ⟨r3 x hx, by omega, by omega⟩
      ownw := fun x hx => by have := r2.lt hx; exact ⟨r4 x hx, by omega, by omega⟩
      bel := hB
      abv := ⟨by omega, by omega⟩
      ne := by omega
      len := HN.out.1.symm
      lenw := HN.out.2.1.symm }
  have HG : Hid (∀ k, G k → k < w.heap.size) := hG
  have HV : Hid (ReadsI w v l ∧ l.length ≤ maxLen) := ⟨hv, hll⟩
  have HM0 : Hid (Mid w W G w.heap.size (w.heap.size + 1) sa n sc wa m wc f o su wt) := M0
  have HWW : Hid (W = (w.alloc (.cells (rd sa n sc wa m wc f o) 30)).alloc (.cells (rd none 0 0 none 0 0 0 false) 30)) := hW
  clear M0 B0 B1 hB r1 r2 r3 r4 hG hW hv hll
  go_enter Try.func42, Try.ntmps42
  go_wp2_with fail
  obtain ⟨b, hbb⟩ : ∃ b, b = w.heap.size := ⟨_, rfl⟩
  obtain ⟨z, hzz⟩ : ∃ z, z = w.heap.size + 1 := ⟨_, rfl⟩
  rw [← hzz, ← hbb] at HM0
  show Code.wp _ _ _ _ ((w.alloc (.cells (rd sa n sc wa m wc f o) 30)).alloc (.cells (rd none 0 0 none 0 0 0 false) 30))
  rw [← HWW.out, ← hzz, ← hbb]
  clear hbb hzz HWW
  obtain ⟨sa0, hsa0⟩ : ∃ x, x = sa := ⟨_, rfl⟩
  obtain ⟨sc0, hsc0⟩ : ∃ x, x = sc := ⟨_, rfl⟩
  go_loopg [5] m (fun g s5 wx => ∃ (i : Nat) (sa : Option Addr) (sc : Nat), i + g = m ∧ s5 = .int .i64 i ∧ Mid w wx G b z sa n sc wa m wc f o (lay su (keepW (among l) 0 (wt.take i))) wt)
  case atStart => exact ⟨0, sa, sc, by omega, rfl, by simpa [lay, keepW] using HM0.out⟩
  case round =>
    obtain ⟨i, sa, sc, hig, rfl, M⟩ := hrel
    clear HM0
    have p0 := M.box.cell 0 _ rfl
    have p1 := M.box.cell 1 _ rfl
    by_cases hi : i < m
    · have hiI : (i : Int) < (m : Int) := by omega
      obtain ⟨x, hx⟩ : ∃ x, wt[i]? = some x := ⟨_, List.getElem?_eq_getElem (by have := HN.out.2.1; omega)⟩
      have hwt := M.wait
      rw [HN.out.2.1] at hwt
      obtain ⟨g, rfl, e0, e1, hgl⟩ := w2_at hwt hx
      have hxa : x.1 < n := HN.out.2.2 x (List.mem_of_getElem? hx)
      have hxI : (x.1 : Int) < (n : Int) := by omega
      have cw := with_n (w := wr.drew) M.len M.drew.sure x.1 hxa hl x.2
      have ch := has_is wr v l (HV.out.1.below M.bel) HV.out.2 i
      have hst := keep_take (among l) wt i x hx
      have hr2 : IntKind.i64.wrap ((i : Int) + 1) = (i : Int) + 1 := by rw [IntKind.wrap_i64]; omega
      have f0 := M.box.frozen 0
      have hbl := M.box.lt
      have hne : g ≠ b := (M.ownw g rfl).2.1
      have HMM : Hid (Mid w wr G b z sa n sc (some ⟨g, 0, none⟩) m wc f o (lay su (keepW (among l) 0 (wt.take i))) wt) := M
      have HST : Hid (keepW (among l) 0 (wt.take (i + 1)) = keepW (among l) 0 (wt.take i) ++ if among l i then [x] else []) := hst
      obtain ⟨x1, hx1⟩ : ∃ x1, x1 = x.1 := ⟨_, rfl⟩
      obtain ⟨str, hstr⟩ : ∃ str, str = strB x.2 := ⟨_, rfl⟩
      rw [← hx1] at e0 hxI hxa cw
      rw [← hstr] at e1 cw
      have HX : Hid (x1 = x.1 ∧ str = strB x.2) := ⟨hx1, hstr⟩
      clear M hx hst hwt hx1 hstr
      cases hal : among l i with
      | false =>
        rw [hal] at ch
        have HA : Hid (among l i = false) := hal
        clear hal
        go_wp2_with fail
        refine ch.mono ?_
        rintro e w1 ⟨rfl, hw1⟩
        replace hw1 := hw1.symm
        subst hw1
        go_wp2_with fail
        go_roundg (m - (i + 1))
        case measure => clear hr2; omega
        case rel => exact ⟨i + 1, sa, sc, by clear hr2; omega, by go_num, by rw [HST.out, HA.out]; simpa using HMM.out⟩
      | true =>
        rw [hal] at ch
        have HA : Hid (among l i = true) := hal
        clear hal
        go_wp2_with fail
        refine ch.mono ?_
        rintro e w1 ⟨rfl, hw1⟩
        replace hw1 := hw1.symm
        subst hw1
        clear ch
        go_wp2_with fail
        refine wp_region_held_then (fun w' => w'.cell? ⟨b, 0, none⟩ = some (.slice sa n sc) ∧ w'.cell? ⟨b, 1, none⟩ = some (.slice (some ⟨g, 0, none⟩) m wc) ∧ w'.cell? ⟨g, i * 2, none⟩ = some (.int .i64 x1) ∧ w'.cell? ⟨g, i * 2 + 1, none⟩ = some (.string str)) _ (by kernel_rfl) rfl (by kernel_rfl) ?_
        have hHeld : (fun w' : World => w'.cell? ⟨b, 0, none⟩ = some (.slice sa n sc) ∧ w'.cell? ⟨b, 1, none⟩ = some (.slice (some ⟨g, 0, none⟩) m wc) ∧ w'.cell? ⟨g, i * 2, none⟩ = some (.int .i64 x1) ∧ w'.cell? ⟨g, i * 2 + 1, none⟩ = some (.string str)) wr.drew := ⟨p0, p1, e0, e1⟩
        dsimp only [List.dropLast, List.length, List.getLast]
        ((refine takeL 0 (v := ?_) rfl (by kernel_rfl) (by kernel_rfl) (by kernel_rfl) (fun _ _ _ h => h) (by rfl) hHeld ?_ ?_; rotate_left; focus (intro w hSw; (try dsimp only at hSw); go_simp <;> with_reducible rfl); (try simp only [Act.put, List.setIfInBounds_toArray, List.set_cons_zero, List.set_cons_succ])); (refine takeL 1 (v := ?_) rfl (by kernel_rfl) (by kernel_rfl) (by kernel_rfl) (fun _ _ _ h => h) (by rfl) hHeld ?_ ?_; rotate_left; focus (intro w hSw; (try dsimp only at hSw); go_simp <;> with_reducible rfl); (try simp only [Act.put, List.setIfInBounds_toArray, List.set_cons_zero, List.set_cons_succ])); (refine takeL 2 (v := ?_) rfl (by kernel_rfl) (by kernel_rfl) (by kernel_rfl) (fun _ _ _ h => h) (by rfl) hHeld ?_ ?_; rotate_left; focus (intro w hSw; (try dsimp only at hSw); go_simp <;> with_reducible rfl); (try simp only [Act.put, List.setIfInBounds_toArray, List.set_cons_zero, List.set_cons_succ])); (refine takeL 3 (v := ?_) rfl (by kernel_rfl) (by kernel_rfl) (by kernel_rfl) (fun _ _ _ h => h) (by rfl) hHeld ?_ ?_; rotate_left; focus (intro w hSw; (try dsimp only at hSw); go_simp <;> with_reducible rfl); (try simp only [Act.put, List.setIfInBounds_toArray, List.set_cons_zero, List.set_cons_succ])); (refine takeL 4 (v := ?_) rfl (by kernel_rfl) (by kernel_rfl) (by kernel_rfl) (fun _ _ _ h => h) (by rfl) hHeld ?_ ?_; rotate_left; focus (intro w hSw; (try dsimp only at hSw); go_simp <;> with_reducible rfl); (try simp only [Act.put, List.setIfInBounds_toArray, List.set_cons_zero, List.set_cons_succ])); (refine takeL 5 (v := ?_) rfl (by kernel_rfl) (by kernel_rfl) (by kernel_rfl) (fun _ _ _ h => h) (by rfl) hHeld ?_ ?_; rotate_left; focus (intro w hSw; (try dsimp only at hSw); go_simp <;> with_reducible rfl); (try simp only [Act.put, List.setIfInBounds_toArray, List.set_cons_zero, List.set_cons_succ])); (refine takeL 6 (v := ?_) rfl (by kernel_rfl) (by kernel_rfl) (by kernel_rfl) (fun _ _ _ h => h) (by rfl) hHeld ?_ ?_; rotate_left; focus (intro w hSw; (try dsimp only at hSw); go_simp <;> with_reducible rfl); (try simp only [Act.put, List.setIfInBounds_toArray, List.set_cons_zero, List.set_cons_succ])); (refine takeL 7 (v := ?_) rfl (by kernel_rfl) (by kernel_rfl) (by kernel_rfl) (fun _ _ _ h => h) (by rfl) hHeld ?_ ?_; rotate_left; focus (intro w hSw; (try dsimp only at hSw); go_simp <;> with_reducible rfl); (try simp only [Act.put, List.setIfInBounds_toArray, List.set_cons_zero, List.set_cons_succ])); (refine takeL 8 (v := ?_) rfl (by kernel_rfl) (by kernel_rfl) (by kernel_rfl) (fun _ _ _ h => h) (by rfl) hHeld ?_ ?_; rotate_left; focus (intro w hSw; (try dsimp only at hSw); go_simp <;> with_reducible rfl); (try simp only [Act.put, List.setIfInBounds_toArray, List.set_cons_zero, List.set_cons_succ])); (refine takeL 9 (v := ?_) rfl (by kernel_rfl) (by kernel_rfl) (by kernel_rfl) (fun _ _ _ h => h) (by rfl) hHeld ?_ ?_; rotate_left; focus (intro w hSw; (try dsimp only at hSw); go_simp <;> with_reducible rfl); (try simp only [Act.put, List.setIfInBounds_toArray, List.set_cons_zero, List.set_cons_succ])); (refine takeL 10 (v := ?_) rfl (by kernel_rfl) (by kernel_rfl) (by kernel_rfl) (fun _ _ _ h => h) (by rfl) hHeld ?_ ?_; rotate_left; focus (intro w hSw; (try dsimp only at hSw); go_simp <;> with_reducible rfl); (try simp only [Act.put, List.setIfInBounds_toArray, List.set_cons_zero, List.set_cons_succ])); (refine takeL 11 (v := ?_) rfl (by kernel_rfl) (by kernel_rfl) (by kernel_rfl) (fun _ _ _ h => h) (by rfl) hHeld ?_ ?_; rotate_left; focus (intro w hSw; (try dsimp only at hSw); go_simp <;> with_reducible rfl); (try simp only [Act.put, List.setIfInBounds_toArray, List.set_cons_zero, List.set_cons_succ])); (refine takeL 12 (v := ?_) rfl (by kernel_rfl) (by kernel_rfl) (by kernel_rfl) (fun _ _ _ h => h) (by rfl) hHeld ?_ ?_; rotate_left; focus (intro w hSw; (try dsimp only at hSw); go_simp <;> with_reducible rfl); (try simp only [Act.put, List.setIfInBounds_toArray, List.set_cons_zero, List.set_cons_succ])); (refine takeL 13 (v := ?_) rfl (by kernel_rfl) (by kernel_rfl) (by kernel_rfl) (fun _ _ _ h => h) (by rfl) hHeld ?_ ?_; rotate_left; focus (intro w hSw; (try dsimp only at hSw); go_simp <;> with_reducible rfl); (try simp only [Act.put, List.setIfInBounds_toArray, List.set_cons_zero, List.set_cons_succ])))
        dsimp only [Act.put]
        simp only [List.setIfInBounds_toArray, List.set_cons_zero, List.set_cons_succ]
        refine callL 14 (f := 55) (vs := #[.slice sa n sc, .int .i64 x1, .string str]) rfl (by kernel_rfl) (by rfl) (by go_simp) ?_
        refine cw.mono ?_
        rintro e w2 ⟨⟨va, vc, rfl, hr2', hf2⟩, hb2⟩
        refine ⟨_, rfl, ?_⟩
        have M5 := HMM.out.drew.put hb2 HG.out hr2' (by rw [List.length_set]; exact HMM.out.len) hf2
        have HM5 : Hid (Mid w (w2.setCell ⟨b, 0, none⟩ (.slice va n vc)) G b z va n vc (some ⟨g, 0, none⟩) m wc f o ((lay su (keepW (among l) 0 (wt.take i))).set x.1 x.2) wt) := by rw [← HX.out.1]; exact M5
        have p02 := (hb2.cell (p := ⟨b, 0, none⟩) hbl).trans p0
        have f02 := (hb2.frozen (p := ⟨b, 0, none⟩) hbl).trans f0
        have hHeld2 : (fun w' : World => w'.cell? ⟨b, 0, none⟩ = some (.slice sa n sc) ∧ w'.cell? ⟨b, 1, none⟩ = some (.slice (some ⟨g, 0, none⟩) m wc) ∧ w'.cell? ⟨g, i * 2, none⟩ = some (.int .i64 x1) ∧ w'.cell? ⟨g, i * 2 + 1, none⟩ = some (.string str)) w2 := ⟨p02, (hb2.cell (p := ⟨b, 1, none⟩) hbl).trans p1, (hb2.cell (p := ⟨g, i * 2, none⟩) hgl).trans e0, (hb2.cell (p := ⟨g, i * 2 + 1, none⟩) hgl).trans e1⟩
        refine ⟨hHeld2, ?_⟩
        clear M5 hr2' hf2
        ((refine takeL 15 (v := ?_) rfl (by kernel_rfl) (by kernel_rfl) (by kernel_rfl) (fun _ _ _ h => h) (by rfl) hHeld2 ?_ ?_; rotate_left; focus (intro w hSw; (try dsimp only at hSw); go_simp <;> with_reducible rfl); (try simp only [Act.put, List.setIfInBounds_toArray, List.set_cons_zero, List.set_cons_succ])))
        refine doneL (by kernel_rfl) ?_
        dsimp only [Act.put]
        simp only [List.setIfInBounds_toArray, List.set_cons_zero, List.set_cons_succ]
        unfold Oper.wp
        go_simp
        go_wp2
        go_roundg (m - (i + 1))
        case measure => clear hr2; omega
        case rel => exact ⟨i + 1, va, vc, by clear hr2; omega, by go_num, by rw [HST.out, HA.out, if_pos rfl, lay_snoc]; exact HM5.out⟩
    · have hiI : ¬ (i : Int) < (m : Int) := by omega
      have ht : wt.take i = wt := List.take_of_length_le (by have := HN.out.2.1; omega)
      rw [ht] at M
      have Z4 := M.zero
      have F1 := Z4.setRow (rd sa n sc none 0 0 (-1) false)
      have hone := rd_one sa n sc none 0 0 (-1) false
      have HMM : Hid (Mid w wr G b z sa n sc wa m wc f o (lay su (keepW (among l) 0 wt)) wt) := M
      clear M ht
      go_wp2_with (refine wpList_store_row rfl 30 _ _ rfl z (rd sa n sc none 0 0 (-1) false) rfl rfl 30 _ Z4 size_rd rfl hone ?_)
      have M := HMM.out
      refine bodyPost_ret (res_box Try.results42 _ rfl F1 Try.underlying30 rfl size_rd) rfl ⟨⟨⟨sa, sc, none, 0⟩, rfl, ⟨?_, srows_nil _ _ _, ?_, ?_⟩, rfl, rfl⟩, below_setRow M.bel M.abv.2 _⟩
      · have := M.sure.rowOther (p := z) (rd sa n sc none 0 0 (-1) false) fun k hk => (M.own k hk).2.2
        simp only [M.len]
        exact this
      · simp only [M.len]
        exact fun k hk => (M.own k hk).1
      · intro k hk
        simp [Value.ownBlock] at hk
end Go.Proofs.Ytgffplfpoopolaa
/-
  The contract of peristyleref04's Spoil.
-/
namespace Go.Proofs.Ytgffplfpoopolaa
open Go.RowKit

theorem filter_take (wt : List (Nat × List UInt8)) (k i : Nat) (x : Nat × List UInt8) (hx : wt[i]? = some x) : (wt.take (i + 1)).filter (fun y => y.1 != k) = (wt.take i).filter (fun y => y.1 != k) ++ if x.1 != k then [x] else [] := by
  rw [List.take_add_one, hx, List.filter_append]
  congr 1
  simp only [Option.toList, List.filter_cons, List.filter_nil]

end Go.Proofs.Ytgffplfpoopolaa
/-
  The contract of law 4's same: where a device and the document's device are in one state.
-/
namespace Go.Proofs.Ytgffplfpoopolaa
open Go.RowKit

theorem ats_take (wt : List (Nat × List UInt8)) (i : Nat) (x : Nat × List UInt8) (hx : wt[i]? = some x) : ats (wt.take (i + 1)) = ats (wt.take i) ++ [BitVec.ofNat 64 x.1] := by
  rw [List.take_add_one, hx]
  simp [ats]

end Go.Proofs.Ytgffplfpoopolaa
/-
  The contract of law 4's does: both sides do a call, and are in one state behind it.
-/
namespace Go.Proofs.Ytgffplfpoopolaa
open Go.RowKit

theorem Turned.after {H H' : Hnd} {a b c : World} (k : Below a.heap.size a b) (h : Turned H H' b c) : Turned H H' a c :=
  ⟨h.p, (kept_of_below H.foot k).trans h.kept (fun _ hx => .inl hx), fun x hx => by
    rcases h.foot x hx with h1 | h1
    · exact .inl h1
    · exact .inr (Nat.le_trans k.size h1)⟩
/-- Both sides, in one state. -/
structure Both (w : World) (H : Hnd) (R : RH) (s : St) : Prop where
  dev : DevIs w H s
  ref : RefIs w H.foot R s.sure s.wait
section
variable {w w' : World} {H H' : Hnd} {R R' : RH} {s s' : St}
theorem Both.below (b : Both w H R s) (k : Below w.heap.size w w') : Both w' H R s := ⟨b.dev.below k, b.ref.below k⟩
theorem Both.lt (b : Both w H R s) : ∀ k, H.foot k → k < w.heap.size := fun _ hk => b.dev.lt hk
/-- The device is turned behind the document's one. -/
theorem Both.turn {su : List (List UInt8)} {wt : List (Nat × List UInt8)} (D : DevIs w' H' s') (T : Turned H H' w w') (r : RefIs w H.foot R' su wt) (h1 : su = s'.sure) (h2 : wt = s'.wait) : Both w' H' R' s' := by
  subst h1 h2
  have r2 : RefIs w H'.foot R' s'.sure s'.wait := r.grow (fun k hk h hf => by
    rcases T.foot k hf with h1 | h1
    · exact h h1
    · omega)
  refine ⟨D, ⟨r.sure.kept T.kept fun g hg => r.g1 g hg, r.wait.kept T.kept fun g hg => r.g2 g hg, r2.g1, r2.g2⟩⟩
end
def St.fz (s : St) : Int := max s.fuse (-1)
theorem max_beq (f : Int) : (max f (-1) == 0) = (f == 0) := by rw [Bool.eq_iff_iff]; simp; omega
theorem fz_goes (s : St) (su : List (List UInt8)) (wt : List (Nat × List UInt8)) : St.goes ⟨su, wt, s.fz, s.off⟩ = s.goes := by
  obtain ⟨sure, wait, f, o⟩ := s
  show (!o && !(max f (-1) == 0)) = (!o && !(f == 0))
  rw [max_beq]
theorem fz_burnt (s : St) (su : List (List UInt8)) (wt : List (Nat × List UInt8)) : (St.burnt ⟨su, wt, s.fz, s.off⟩).fuse = s.burnt.fz ∧ (St.burnt ⟨su, wt, s.fz, s.off⟩).off = s.burnt.off := by
  obtain ⟨sure, wait, f, o⟩ := s
  refine ⟨?_, ?_⟩
  · show (if o = true then max f (-1) else if max f (-1) = 0 then -1 else if 0 < max f (-1) then max f (-1) - 1 else max f (-1)) = max (if o = true then f else if f = 0 then -1 else if 0 < f then f - 1 else f) (-1)
    cases o with
    | true => rfl
    | false =>
      simp only [Bool.false_eq_true, if_false]
      by_cases h0 : f = 0
      · subst h0; rfl
      · rw [if_neg (by omega), if_neg h0]
        by_cases hp : 0 < f
        · rw [if_pos (by omega), if_pos hp]; omega
        · rw [if_neg (by omega), if_neg hp]
  · show (o || (max f (-1) == 0)) = (o || (f == 0))
    rw [max_beq]
theorem fz_bound {w : World} {H : Hnd} {s : St} (D : DevIs w H s) : -9223372036854775808 ≤ s.fz ∧ s.fz < 9223372036854775808 := by
  have := D.fz
  unfold St.fz
  omega
/-- What does answers, whatever the call is. -/
def DoesAns (w : World) (H : Hnd) (s : St) (e : Ending) (w' : World) : Prop :=
  ∃ H' R' s', e = .returned (.tuple #[.agg #[.slice R'.sa s'.sure.length R'.sc, .slice R'.wa s'.wait.length R'.wc, .int .i64 s'.fz, .bool s'.off], .bool true]) ∧ Both w' H' R' s' ∧ Turned H H' w w' ∧ s'.wait.length ≤ s.wait.length + 1 ∧ s'.sure.length = s.sure.length
/-- The end: the result lies in the block z, which was noughts. -/
theorem box_four {w : World} {z : Nat} {t : TypeId} {c : Array Value} (h : Box w z t c) (hc : c.size = 4) (a b d e : Value) : Box ((((w.setCell ⟨z, 0, none⟩ a).setCell ⟨z, 1, none⟩ b).setCell ⟨z, 2, none⟩ d).setCell ⟨z, 3, none⟩ e) z t #[a, b, d, e] := by
  have := (((h.set 0 a).set 1 b).set 2 d).set 3 e
  obtain ⟨l⟩ := c
  match l, hc with
  | [_, _, _, _], _ => exact this
theorem kept_four {F : Nat → Prop} {a w : World} (h : Kept F a w) {z : Nat} (hz : F z ∨ a.heap.size ≤ z) (x y u v : Value) : Kept F a ((((w.setCell ⟨z, 0, none⟩ x).setCell ⟨z, 1, none⟩ y).setCell ⟨z, 2, none⟩ u).setCell ⟨z, 3, none⟩ v) :=
  (((h.setCell (p := ⟨z, 0, none⟩) hz x).setCell (p := ⟨z, 1, none⟩) hz y).setCell (p := ⟨z, 2, none⟩) hz u).setCell (p := ⟨z, 3, none⟩) hz v
end Go.Proofs.Ytgffplfpoopolaa
/-
  Write, Sync, Spoil, Crash and Fuse of both sides, whatever their arguments and the state are: the same state behind, and the same error.
-/
namespace Go.Proofs.Ytgffplfpoopolaa
open Go.RowKit

def St.okAt (s : St) (at_ : Int) (str : ByteArray) : Prop := (0 ≤ at_ ∧ at_ < s.sure.length) ∧ str.size = 128
theorem okAt_nat {s : St} {at_ : Int} {str : ByteArray} (h : s.okAt at_ str) : ∃ k : Nat, at_ = (k : Int) ∧ k < s.sure.length ∧ str.size = 128 := ⟨at_.toNat, by have := h.1; omega, by have := h.1; omega, h.2⟩
/-- The state and the error behind a Write. -/
structure PutR (s : St) (at_ : Int) (str : ByteArray) (s' : St) (e : Int) : Prop where
  bad : ¬ s.okAt at_ str → s' = s ∧ e = 1
  off : s.okAt at_ str → s.goes = false → s' = s.burnt ∧ e = 40
  on : s.okAt at_ str → s.goes = true → s' = s.write at_.toNat str.data.toList ∧ e = 0
theorem putR_some (s : St) (at_ : Int) (str : ByteArray) : ∃ s' e, PutR s at_ str s' e := by
  by_cases h : s.okAt at_ str
  · cases hg : s.goes with
    | true => exact ⟨_, _, fun h' => absurd h h', fun _ h' => (by rw [hg] at h'; cases h'), fun _ _ => ⟨rfl, rfl⟩⟩
    | false => exact ⟨_, _, fun h' => absurd h h', fun _ _ => ⟨rfl, rfl⟩, fun _ h' => by rw [hg] at h'; cases h'⟩
  · exact ⟨_, _, fun _ => ⟨rfl, rfl⟩, fun h' => absurd h' h, fun h' => absurd h' h⟩
structure SyncR (s : St) (s' : St) (e : Int) : Prop where
  off : s.goes = false → s' = s.burnt ∧ e = 40
  on : s.goes = true → s' = s.synced ∧ e = 0
theorem syncR_some (s : St) : ∃ s' e, SyncR s s' e := by
  cases hg : s.goes with
  | true => exact ⟨_, _, fun h' => (by rw [hg] at h'; cases h'), fun _ => ⟨rfl, rfl⟩⟩
  | false => exact ⟨_, _, fun _ => ⟨rfl, rfl⟩, fun h' => by rw [hg] at h'; cases h'⟩
structure SpoilR (s : St) (at_ : Int) (str : ByteArray) (s' : St) (e : Int) : Prop where
  bad : ¬ s.okAt at_ str → s' = s ∧ e = 1
  on : s.okAt at_ str → s' = s.spoilt at_.toNat str.data.toList ∧ e = 0
theorem spoilR_some (s : St) (at_ : Int) (str : ByteArray) : ∃ s' e, SpoilR s at_ str s' e := by
  by_cases h : s.okAt at_ str
  · exact ⟨_, _, fun h' => absurd h h', fun _ => ⟨rfl, rfl⟩⟩
  · exact ⟨_, _, fun _ => ⟨rfl, rfl⟩, fun h' => absurd h' h⟩

/-- The document's device behind a call. -/
def RefAns (w : World) (G : Nat → Prop) (s' : St) (err : Int) (e : Ending) (w' : World) : Prop :=
  (∃ R', e = .returned (.tuple #[.agg #[.slice R'.sa s'.sure.length R'.sc, .slice R'.wa s'.wait.length R'.wc, .int .i64 s'.fz, .bool s'.off], .int .i64 err]) ∧ RefIs w' G R' s'.sure s'.wait) ∧ Below w.heap.size w w'
/-- The device behind a call. -/
def DevAns (w : World) (H : Hnd) (s' : St) (err : Int) (e : Ending) (w' : World) : Prop :=
  e = .returned (.int .i64 err) ∧ ∃ H', DevIs w' H' s' ∧ Turned H H' w w'
section
variable {w : World} {H : Hnd} {G : Nat → Prop} {R : RH} {s s' : St} {err : Int}
theorem rput_all (D : DevIs w H s) (r0 : RefIs w G R s.sure s.wait) (hG : ∀ k, G k → k < w.heap.size) (hl : s.wait.length < 900000) (at_ : Int) (str : ByteArray) (p : PutR s at_ str s' err) :
    Calls Try.prog 38 #[.agg #[.slice R.sa s.sure.length R.sc, .slice R.wa s.wait.length R.wc, .int .i64 s.fz, .bool s.off], .int .i64 at_, .string str] w (RefAns w G s' err) := by
  by_cases h : s.okAt at_ str
  · obtain ⟨k, rfl, hk, h8⟩ := okAt_nat h
    have hfb := fz_burnt s s.sure s.wait
    cases hg : s.goes with
    | false =>
      obtain ⟨rfl, rfl⟩ := p.off h hg
      have := put_off R.sa s.sure.length R.sc R.wa s.wait.length R.wc ⟨s.sure, s.wait, s.fz, s.off⟩ (fz_bound D) k hk str h8 (by rw [fz_goes]; exact hg) w
      rw [hfb.1, hfb.2] at this
      refine this.mono ?_
      rintro e w' ⟨rfl, b⟩
      exact ⟨⟨R, rfl, r0.below b⟩, b⟩
    | true =>
      obtain ⟨rfl, rfl⟩ := p.on h hg
      have := put_on R.sa s.sure.length R.sc R.wa R.wc s.wait ⟨s.sure, s.wait, s.fz, s.off⟩ (fz_bound D) k hk str.data.toList (by simpa using h8) (by rw [fz_goes]; exact hg) w r0.wait hl
      rw [hfb.1, hfb.2, strB_of] at this
      refine this.mono ?_
      rintro e w' ⟨⟨va, vc, rfl, h1, h2⟩, b⟩
      have r := r0.below b
      refine ⟨⟨⟨R.sa, R.sc, va, vc⟩, ?_, ⟨r.sure, ?_, r.g1, ?_⟩⟩, b⟩
      · simp [St.write]
        exact ⟨rfl, rfl⟩
      · simpa [St.write] using h1
      · intro x hx hf
        have h3 := h2 x (by simpa [St.write] using hx)
        have := hG x hf
        omega
  · obtain ⟨rfl, rfl⟩ := p.bad h
    refine (put_bad R.sa s'.sure.length R.sc R.wa s'.wait.length R.wc s'.fz s'.off at_ str w h).mono ?_
    rintro e w' ⟨rfl, b⟩
    exact ⟨⟨R, rfl, r0.below b⟩, b⟩
theorem dput_all (D : DevIs w H s) (hl : s.wait.length < 900000) (at_ : Int) (str : ByteArray) (p : PutR s at_ str s' err) :
    Calls Try.prog 30 #[.pointer (some ⟨H.p, 0, none⟩), .int .i64 at_, .string str] w (DevAns w H s' err) := by
  by_cases h : s.okAt at_ str
  · obtain ⟨k, rfl, hk, h8⟩ := okAt_nat h
    cases hg : s.goes with
    | false =>
      obtain ⟨rfl, rfl⟩ := p.off h hg
      refine (write_off D k str hk h8 hg).mono ?_
      rintro e w' ⟨rfl, D', T⟩
      exact ⟨rfl, H, D', T⟩
    | true =>
      obtain ⟨rfl, rfl⟩ := p.on h hg
      refine (write_on D k str hk h8 hg (by omega)).mono ?_
      rintro e w' ⟨rfl, H', D', T⟩
      exact ⟨rfl, H', D', T⟩
  · obtain ⟨rfl, rfl⟩ := p.bad h
    refine (write_bad _ _ at_ str w D.size h).mono ?_
    rintro e w' ⟨rfl, rfl⟩
    exact ⟨rfl, H, D, Turned.refl _ _⟩
theorem rsync_all (D : DevIs w H s) (r0 : RefIs w G R s.sure s.wait) (hG : ∀ k, G k → k < w.heap.size) (p : SyncR s s' err) :
    Calls Try.prog 39 #[.agg #[.slice R.sa s.sure.length R.sc, .slice R.wa s.wait.length R.wc, .int .i64 s.fz, .bool s.off]] w (RefAns w G s' err) := by
  have hfb := fz_burnt s s.sure s.wait
  cases hg : s.goes with
  | false =>
    obtain ⟨rfl, rfl⟩ := p.off hg
    have := rsync_off R.sa s.sure.length R.sc R.wa s.wait.length R.wc ⟨s.sure, s.wait, s.fz, s.off⟩ (fz_bound D) (by rw [fz_goes]; exact hg) w
    rw [hfb.1, hfb.2] at this
    refine this.mono ?_
    rintro e w' ⟨rfl, b⟩
    exact ⟨⟨R, rfl, r0.below b⟩, b⟩
  | true =>
    obtain ⟨rfl, rfl⟩ := p.on hg
    have := rsync_on r0 hG ⟨s.sure, s.wait, s.fz, s.off⟩ (fz_bound D) (by rw [fz_goes]; exact hg) (fun x hx => (D.ats x hx).1) D.top D.few
    rw [hfb.1, hfb.2] at this
    refine this.mono ?_
    rintro e w' ⟨⟨R', rfl, r, hwa, hwc⟩, b⟩
    refine ⟨⟨R', ?_, r⟩, b⟩
    show Ending.returned (.tuple #[.agg #[.slice R'.sa s.sure.length R'.sc, .slice none 0 0, .int .i64 s.burnt.fz, .bool s.burnt.off], .int .i64 0]) = .returned (.tuple #[.agg #[.slice R'.sa (lay s.sure s.wait).length R'.sc, .slice R'.wa 0 R'.wc, .int .i64 s.burnt.fz, .bool s.burnt.off], .int .i64 0])
    rw [lay_len, hwa, hwc]
theorem dsync_all (D : DevIs w H s) (p : SyncR s s' err) :
    Calls Try.prog 32 #[.pointer (some ⟨H.p, 0, none⟩)] w (DevAns w H s' err) := by
  cases hg : s.goes with
  | false =>
    obtain ⟨rfl, rfl⟩ := p.off hg
    refine (sync_off D hg).mono ?_
    rintro e w' ⟨rfl, D', T⟩
    exact ⟨rfl, H, D', T⟩
  | true =>
    obtain ⟨rfl, rfl⟩ := p.on hg
    refine (sync_on D hg).mono ?_
    rintro e w' ⟨rfl, H', D', T⟩
    exact ⟨rfl, H', D', T⟩
theorem rcrash_all (D : DevIs w H s) (r0 : RefIs w G R s.sure s.wait) (hG : ∀ k, G k → k < w.heap.size) (v : Value) (l : List (BitVec 64)) (hv : ReadsI w v l) (hll : l.length ≤ maxLen) :
    Calls Try.prog 42 #[.agg #[.slice R.sa s.sure.length R.sc, .slice R.wa s.wait.length R.wc, .int .i64 s.fz, .bool s.off], v] w fun e w' => (∃ R', e = .returned (.agg #[.slice R'.sa (s.crashed (among l)).sure.length R'.sc, .slice R'.wa (s.crashed (among l)).wait.length R'.wc, .int .i64 (s.crashed (among l)).fz, .bool (s.crashed (among l)).off]) ∧ RefIs w' G R' (s.crashed (among l)).sure (s.crashed (among l)).wait) ∧ Below w.heap.size w w' := by
  refine (rcrash_any r0 hG s.fz s.off v l hv hll (fun x hx => (D.ats x hx).1) D.top D.few).mono ?_
  rintro e w' ⟨⟨R', rfl, r, hwa, hwc⟩, b⟩
  refine ⟨⟨R', ?_, r⟩, b⟩
  show Ending.returned (.agg #[.slice R'.sa s.sure.length R'.sc, .slice none 0 0, .int .i64 (-1), .bool false]) = .returned (.agg #[.slice R'.sa (lay s.sure (keepW (among l) 0 s.wait)).length R'.sc, .slice R'.wa 0 R'.wc, .int .i64 (-1), .bool false])
  rw [lay_len, hwa, hwc]
/-- The end of does, where the result was laid into the block z. -/
theorem does_end {w w2 W3 w4 : World} {H' : Hnd} {z : Nat} (r : RefIs w2 G R s'.sure s'.wait) (b23 : Below w2.heap.size w2 W3) (bw : Below w.heap.size w W3) (D : DevIs w4 H' s') (T : Turned H H' W3 w4) (hG : ∀ k, H.foot k → G k) (hz : G z) (hzw : w.heap.size ≤ z) (hz3 : z < W3.heap.size) (hHz : ¬ H.foot z) (x y u v : Value) :
    Both ((((w4.setCell ⟨z, 0, none⟩ x).setCell ⟨z, 1, none⟩ y).setCell ⟨z, 2, none⟩ u).setCell ⟨z, 3, none⟩ v) H' R s' ∧ Turned H H' w ((((w4.setCell ⟨z, 0, none⟩ x).setCell ⟨z, 1, none⟩ y).setCell ⟨z, 2, none⟩ u).setCell ⟨z, 3, none⟩ v) := by
  have r2 : RefIs w2 H'.foot R s'.sure s'.wait := r.grow (fun k hk h hf => by
    rcases T.foot k hf with h1 | h1
    · exact h (hG k h1)
    · have := b23.size; omega)
  have hzf : ¬ H'.foot z := fun hf => by
    rcases T.foot z hf with h1 | h1
    · exact hHz h1
    · omega
  have k4 := kept_four (F := fun k => k = z) (Kept.refl _ w4) (.inl rfl) x y u v
  have r5 := ((r.below b23).kept T.kept (fun x h hf => h (hG x hf))).kept k4 (fun k h e => h (by rw [e]; exact hz))
  refine ⟨⟨D.kept k4 (fun k hk e => hzf (by rw [← e]; exact hk)), ⟨r5.sure, r5.wait, r2.g1, r2.g2⟩⟩, T.p, ?_, ?_⟩
  · exact kept_four ((kept_of_below H.foot bw).trans T.kept (fun _ h => .inl h)) (.inr hzw) x y u v
  · intro k hk
    rcases T.foot k hk with h1 | h1
    · exact .inl h1
    · exact .inr (Nat.le_trans bw.size h1)
end
end Go.Proofs.Ytgffplfpoopolaa
/-
  A journal on a device, without memory: what adding a record does to the blocks, and what a crash leaves of them. Pure mathematics. No program is spoken of.
-/
namespace Go.Proofs.Ytgffplfpoopolaa
open Leb

/-- A block that may lie in a journal's extent. -/
def okB (b : List UInt8) : Bool := (readP b).isSome || (b == zeros)
theorem okB_zeros : okB zeros = true := by simp [okB]
theorem okB_blk (turn : BitVec 64) (first : Nat) {s : List UInt8} (h1 : 1 ≤ s.length) (h2 : s.length ≤ 8192) {i : Nat} (hi : i < needs s.length) : okB (blkL turn first s i) = true := by
  simp [okB, blk_read turn first h1 h2 hi]
/-- The blocks of an extent. -/
def extL (B : List (List UInt8)) (f c : Nat) : List (List UInt8) := (B.drop f).take c
theorem extL_at {B : List (List UInt8)} {f c k : Nat} (hk : k < c) : (extL B f c)[k]? = B[f + k]? := by
  simp [extL, hk]
theorem extL_len {B : List (List UInt8)} {f c : Nat} (h : f + c ≤ B.length) : (extL B f c).length = c := by simp [extL]; omega
theorem extL_snoc {B : List (List UInt8)} {f c k : Nat} (hk : k < c) {b : List UInt8} (hb : B[f + k]? = some b) : (extL B f c).take (k + 1) = (extL B f c).take k ++ [b] := by
  have h1 : (extL B f c)[k]? = some b := by rw [extL_at hk, hb]
  rw [List.take_add_one, h1]
  rfl

/-! ### Writes, one behind the other, and a sync -/
def wrs : Nat → List (List UInt8) → List (Nat × List UInt8)
  | _, [] => []
  | a, b :: r => (a, b) :: wrs (a + 1) r
def putAll : St → Nat → List (List UInt8) → St × Int
  | s, _, [] => if s.goes then (s.synced, 0) else (s.burnt, 40)
  | s, a, b :: r => if s.goes then putAll (s.write a b) (a + 1) r else (s.burnt, 40)
theorem goes_on {s : St} (h : s.goes = true) : s.off = false ∧ s.burnt.off = false := by
  obtain ⟨su, wt, f, o⟩ := s
  simp only [St.goes, Bool.and_eq_true, Bool.not_eq_true', bne_iff_ne] at h
  refine ⟨h.1, ?_⟩
  show (o || f == 0) = false
  rw [h.1]
  simpa using h.2
theorem putAll_spec : ∀ (bl : List (List UInt8)) (s : St) (a : Nat),
    ((putAll s a bl).2 = 0 ∧ (putAll s a bl).1.sure = lay s.sure (s.wait ++ wrs a bl) ∧ (putAll s a bl).1.wait = [] ∧ (putAll s a bl).1.off = false) ∨
    ((putAll s a bl).2 = 40 ∧ (putAll s a bl).1.sure = s.sure ∧ ∃ k, (putAll s a bl).1.wait = s.wait ++ (wrs a bl).take k)
  | [], s, a => by
    unfold putAll
    cases h : s.goes with
    | true => left; exact ⟨rfl, by simp [wrs, St.synced, St.burnt], rfl, (goes_on h).2⟩
    | false => right; exact ⟨rfl, rfl, 0, by simp [St.burnt]⟩
  | b :: r, s, a => by
    unfold putAll
    cases h : s.goes with
    | true =>
      simp only [if_true]
      rcases putAll_spec r (s.write a b) (a + 1) with ⟨h1, h2, h3, h4⟩ | ⟨h1, h2, k, h3⟩
      · left
        refine ⟨h1, ?_, h3, h4⟩
        rw [h2]
        show lay s.sure ((s.wait ++ [(a, b)]) ++ wrs (a + 1) r) = lay s.sure (s.wait ++ wrs a (b :: r))
        rw [List.append_assoc]
        rfl
      · right
        refine ⟨h1, h2, k + 1, ?_⟩
        rw [h3]
        show (s.wait ++ [(a, b)]) ++ (wrs (a + 1) r).take k = s.wait ++ (wrs a (b :: r)).take (k + 1)
        rw [List.append_assoc]
        rfl
    | false => right; exact ⟨rfl, rfl, 0, by simp [St.burnt]⟩
theorem wrs_mem : ∀ (bl : List (List UInt8)) (a : Nat) (x : Nat × List UInt8), x ∈ wrs a bl → ∃ i, x.1 = a + i ∧ bl[i]? = some x.2
  | [], _, _, h => by simp [wrs] at h
  | b :: r, a, x, h => by
    rcases List.mem_cons.1 h with rfl | h
    · exact ⟨0, rfl, rfl⟩
    · obtain ⟨i, h1, h2⟩ := wrs_mem r (a + 1) x h
      exact ⟨i + 1, by omega, by simpa using h2⟩
theorem lay_wrs : ∀ (bl : List (List UInt8)) (a : Nat) (S : List (List UInt8)) (i : Nat) (b : List UInt8), bl[i]? = some b → a + bl.length ≤ S.length → (lay S (wrs a bl))[a + i]? = some b
  | [], _, _, _, _, h, _ => by simp at h
  | b :: r, a, S, i, x, h, hl => by
    show (lay (S.set a b) (wrs (a + 1) r))[a + i]? = some x
    cases i with
    | zero =>
      rw [lay_other _ _ _ (fun y hy => by obtain ⟨j, h1, _⟩ := wrs_mem r (a + 1) y hy; omega)]
      simp only [List.length_cons] at hl
      rw [Nat.add_zero, List.getElem?_set_self (by omega)]
      simpa using h
    | succ i =>
      have := lay_wrs r (a + 1) (S.set a b) i x (by simpa using h) (by simp only [List.length_set]; simp only [List.length_cons] at hl; omega)
      rw [show a + (i + 1) = a + 1 + i by omega]
      exact this
/-- Of some of the writes: a block is as it was, or one of theirs. -/
theorem lay_some {bl : List (List UInt8)} {a : Nat} : ∀ (ws : List (Nat × List UInt8)) (S : List (List UInt8)), (∀ x ∈ ws, ∃ i, x.1 = a + i ∧ bl[i]? = some x.2) → ∀ k b, (lay S ws)[k]? = some b → S[k]? = some b ∨ ∃ i, k = a + i ∧ bl[i]? = some b
  | [], _, _, _, _, h => .inl h
  | x :: r, S, hw, k, b, h => by
    rw [lay_cons] at h
    rcases lay_some r _ (fun y hy => hw y (by simp [hy])) k b h with h1 | h1
    · by_cases e : x.1 = k
      · subst e
        obtain ⟨i, h2, h3⟩ := hw x (by simp)
        right
        refine ⟨i, h2, ?_⟩
        have hx : x.1 < (S.set x.1 x.2).length := (List.getElem?_eq_some_iff.1 h1).1
        rw [List.getElem?_set_self (by simpa using hx)] at h1
        rw [h3]
        exact h1
      · rw [List.getElem?_set_ne e] at h1
        exact .inl h1
    · exact .inr h1

/-! ### A journal in an extent -/
def blkLs (turn : BitVec 64) (u : Nat) (t : List UInt8) : List (List UInt8) := (List.range (needs t.length)).map (blkL turn u t)
theorem blkLs_at {turn : BitVec 64} {u : Nat} {t : List UInt8} {i : Nat} {b : List UInt8} (h : (blkLs turn u t)[i]? = some b) : i < needs t.length ∧ b = blkL turn u t i := by
  simp only [blkLs, List.getElem?_map, Option.map_eq_some_iff] at h
  obtain ⟨j, h1, h2⟩ := h
  have h3 := List.getElem?_eq_some_iff.1 h1
  obtain ⟨h4, h5⟩ := h3
  simp at h4 h5
  subst h5
  exact ⟨h4, h2.symm⟩
theorem blkLs_get {turn : BitVec 64} {u : Nat} {t : List UInt8} {i : Nat} (h : i < needs t.length) : (blkLs turn u t)[i]? = some (blkL turn u t i) := by simp [blkLs, h]
theorem blkLs_len (turn : BitVec 64) (u : Nat) (t : List UInt8) : (blkLs turn u t).length = needs t.length := by simp [blkLs]
/-- Records lie in an extent, and noughts behind them. -/
structure Jst (S : List (List UInt8)) (f c : Nat) (turn : BitVec 64) (added : List (List UInt8)) (u : Nat) : Prop where
  line : Line (extL S f c) turn 0 added u
  rest : ∀ k, u ≤ k → k < c → S[f + k]? = some zeros
  fit : f + c ≤ S.length
theorem Jst.le {S : List (List UInt8)} {f c : Nat} {turn : BitVec 64} {added : List (List UInt8)} {u : Nat} (h : Jst S f c turn added u) : u ≤ c := by
  have := (line_le h.line (Nat.zero_le _)).2
  rw [extL_len h.fit] at this
  exact this
theorem jst_new {n f c : Nat} {turn : BitVec 64} (h : f + c ≤ n) : Jst (List.replicate n zeros) f c turn [] 0 := by
  refine ⟨rfl, fun k _ hk => ?_, by simpa using h⟩
  rw [List.getElem?_replicate]
  simp
  omega
section
variable {S : List (List UInt8)} {f c : Nat} {turn : BitVec 64} {added : List (List UInt8)} {u : Nat} {t : List UInt8}
theorem Jst.add (h : Jst S f c turn added u) (h1 : 1 ≤ t.length) (h2 : t.length ≤ 8192) (hr : u + needs t.length ≤ c) : Jst (lay S (wrs (f + u) (blkLs turn u t))) f c turn (added ++ [t]) (u + needs t.length) := by
  have hfit := h.fit
  have hlen : (lay S (wrs (f + u) (blkLs turn u t))).length = S.length := lay_len _ _
  have hoth : ∀ k, k < f + u ∨ f + u + needs t.length ≤ k → (lay S (wrs (f + u) (blkLs turn u t)))[k]? = S[k]? := by
    intro k hk
    apply lay_other
    intro x hx
    obtain ⟨i, h3, h4⟩ := wrs_mem _ _ x hx
    have := (blkLs_at h4).1
    omega
  have hel : (extL (lay S (wrs (f + u) (blkLs turn u t))) f c).length = (extL S f c).length := by rw [extL_len (by omega), extL_len hfit]
  have hl2 : Line (extL (lay S (wrs (f + u) (blkLs turn u t))) f c) turn 0 added u := by
    refine line_over h.line hel fun k hk => ?_
    have := h.le
    rw [extL_at (by omega), extL_at (by omega), hoth _ (by omega)]
  refine ⟨line_snoc hl2 ⟨h1, h2, by rw [hel, extL_len hfit]; exact hr, fun i hi => ?_⟩, fun k hk hkc => ?_, by omega⟩
  · rw [extL_at (by omega), show f + (u + i) = f + u + i by omega]
    exact lay_wrs _ _ _ _ _ (blkLs_get hi) (by rw [blkLs_len]; omega)
  · rw [hoth _ (by omega)]
    exact h.rest k (by omega) hkc
/-- Behind a crash: the records that were added, and the last one, or not. -/
theorem Jst.crash (h : Jst S f c turn added u) (h1 : 1 ≤ t.length) (h2 : t.length ≤ 8192) (ws : List (Nat × List UInt8)) (hw : ∀ x ∈ ws, x ∈ wrs (f + u) (blkLs turn u t)) :
    Recs (extL (lay S ws) f c) turn added u ∨ Recs (extL (lay S ws) f c) turn (added ++ [t]) (u + needs t.length) := by
  have hfit := h.fit
  have hw2 : ∀ x ∈ ws, ∃ i, x.1 = f + u + i ∧ (blkLs turn u t)[i]? = some x.2 := fun x hx => wrs_mem _ _ x (hw x hx)
  have hel : (extL (lay S ws) f c).length = (extL S f c).length := by rw [extL_len (by rw [lay_len]; exact hfit), extL_len hfit]
  have hl2 : Line (extL (lay S ws) f c) turn 0 added u := by
    refine line_over h.line hel fun k hk => ?_
    have := h.le
    rw [extL_at (by omega), extL_at (by omega)]
    apply lay_other
    intro x hx
    obtain ⟨i, h3, _⟩ := hw2 x hx
    omega
  refine crash_recs hl2 h1 h2 ?_
  intro k b hk hb
  have hkc : k < c := by
    have := (List.getElem?_eq_some_iff.1 hb).1
    rw [hel, extL_len hfit] at this
    exact this
  rw [extL_at hkc] at hb
  rcases lay_some ws S hw2 _ b hb with h3 | ⟨i, h3, h4⟩
  · rw [h.rest k hk hkc] at h3
    exact .inl (Option.some.inj h3).symm
  · obtain ⟨h5, h6⟩ := blkLs_at h4
    have e : k - u = i := by omega
    rw [e]
    exact .inr ⟨h5, h6⟩
theorem line_ok : ∀ {l : List (List UInt8)} {out : List (List UInt8)} {a e : Nat}, Line l turn a out e → ∀ k b, a ≤ k → k < e → l[k]? = some b → okB b = true
  | _, [], _, _, h, k, _, h1, h2, _ => by
    have h : _ = _ := h
    omega
  | l, s :: r, a, e, h, k, b, h1, h2, hb => by
    by_cases hk : k < a + needs s.length
    · have := h.1.blk (k - a) (by omega)
      rw [show a + (k - a) = k by omega, hb] at this
      rw [Option.some.inj this]
      exact okB_blk turn a h.1.s0 h.1.s1 (by omega)
    · exact line_ok h.2 k b (by omega) h2 hb
/-- No block is spoilt by a crash. -/
theorem Jst.ok (h : Jst S f c turn added u) (h1 : 1 ≤ t.length) (h2 : t.length ≤ 8192) (ws : List (Nat × List UInt8)) (hw : ∀ x ∈ ws, x ∈ wrs (f + u) (blkLs turn u t)) : ∀ b ∈ extL (lay S ws) f c, okB b = true := by
  intro b hb
  obtain ⟨k, hk⟩ := List.mem_iff_getElem?.1 hb
  have hfit := h.fit
  have hkc : k < c := by
    have := (List.getElem?_eq_some_iff.1 hk).1
    rw [extL_len (by rw [lay_len]; exact hfit)] at this
    exact this
  rw [extL_at hkc] at hk
  rcases lay_some ws S (fun x hx => wrs_mem _ _ x (hw x hx)) _ b hk with h3 | ⟨i, h3, h4⟩
  · by_cases hku : k < u
    · exact line_ok h.line k b (Nat.zero_le _) hku (by rw [extL_at hkc]; exact h3)
    · rw [h.rest k (by omega) hkc] at h3
      rw [← Option.some.inj h3]
      exact okB_zeros
  · obtain ⟨h5, h6⟩ := blkLs_at h4
    rw [h6]
    exact okB_blk turn u h1 h2 h5
/-- Without a write that waits. -/
theorem Jst.recs (h : Jst S f c turn added u) : Recs (extL S f c) turn added u := by
  refine ⟨h.line, fun s hs => ?_⟩
  have hfit := hs.fit
  rw [extL_len h.fit] at hfit
  have hn := needs_pos hs.s0
  exact rec_first hs (b := zeros) (by rw [extL_at (by omega)]; exact h.rest u (Nat.le_refl _) (by omega)) rfl
end
end Go.Proofs.Ytgffplfpoopolaa
/-
  The contract of package peristyleref23's Open.
-/
namespace Go.Proofs.Ytgffplfpoopolaa
open Go.RowKit Leb

/-- 'make([]byte, n)' under a guard that says yes. -/
theorem make_u8g {ops : Array Oper} {rest : List Oper} {o : Oper} {a : Act} {Q : Exit → Act → World → Prop} (hgd : Region.wanted o (yielded ops a.tmps) = true) (l c : Operand) (hop : o.op = Op.makeSlice 60 l c)
    {w : World} {C : Int} {n : Nat} (hl : a.eval l = .int .i64 C) (hc : a.eval c = .int .i64 C) (hC : C = (n : Int)) (hn : n ≤ 1000000)
    (h : ∀ w', RowB w' w.heap.size (List.replicate n 0) → Below w.heap.size w w' → wpList Try.prog ops Q rest (a.put o.dst (.slice (some ⟨w.heap.size, 0, none⟩) n n)) w') : wpList Try.prog ops Q (o :: rest) a w := by
  obtain ⟨i0, hi, hz0, hz1, hz2⟩ := info_parts infoB_u8
  refine BigFrame.wpList_want hgd fun K hK' => ?_
  have hr := run_make (P := Try.prog) w 60 5 i0 (.int .u8 0) Try.underlying60 hi hz0 .i64 .i64 n n (by omega) (Int.le_refl _) (by rw [hz2]; omega) (by omega)
  subst hC
  unfold Oper.wp
  simp [execOp, hop, hl, hc, hr, Result.andThen]
  refine hK' _ _ (h _ ?_ ?_)
  · refine rowB_new _ _ _ _ ?_
    intro i hi
    rw [List.length_replicate] at hi
    rw [hz1, Nat.mul_one]
    have e : (Value.int IntKind.u8 0).cells = #[.int .u8 0] := rfl
    rw [e]
    simp [madeCells, hi, Nat.mod_one]
  · exact (Below.refl _ _).alloc (Nat.le_refl _) _
/-- A journal's value. -/
def jv (first count turn : Int) (v : Value) (used : Int) : Array Value := #[.int .i64 first, .int .i64 count, .int .i64 turn, v, .int .i64 used]
def jz : Array Value := jv 0 0 0 (.slice none 0 0) 0
def ev (first count : Int) : Array Value := #[.int .i64 first, .int .i64 count]
theorem size_jv : (Try.prog.info? 41).map (·.size) = some 5 := by kernel_rfl
/-- What stays while a journal is opened: the device, the extent, the answer. -/
structure Opn (w wx : World) (dv e : Array Value) : Prop where
  bd : Box wx w.heap.size 30 dv
  be : Box wx (w.heap.size + 1) 37 e
  bj : Box wx (w.heap.size + 1 + 1) 41 jz
  bel : Below w.heap.size w wx
theorem Opn.over {w w1 w2 : World} {dv e : Array Value} (o : Opn w w1 dv e) (b : Below w1.heap.size w1 w2) : Opn w w2 dv e := ⟨o.bd.over b, o.be.over b, o.bj.over b, o.bel.trans (b.mono o.bel.size)⟩
theorem opn_new (w : World) (dv e : Array Value) : Opn w (((w.alloc (.cells dv 30)).alloc (.cells e 37)).alloc (.cells jz 41)) dv e := by
  have h3 := heap3 w (.cells dv 30) (.cells e 37) (.cells jz 41)
  exact ⟨h3.1, h3.2.1, h3.2.2, (((Below.refl _ w).alloc (Nat.le_refl _) _).alloc (by simp) _).alloc (by simp; omega) _⟩
set_option maxRecDepth 4000 in
set_option maxHeartbeats 1000000 in
theorem refOpen_arg (sa : Option Addr) (n sc : Nat) (hn : n ≤ 4096) (wa : Option Addr) (m wc : Nat) (f : Int) (o : Bool) (first count : Int) (turn : BitVec 64) (hm : mayJ n first count turn.toInt = false) (w : World) :
    Calls Try.prog 43 #[.agg #[.slice sa n sc, .slice wa m wc, .int .i64 f, .bool o], .agg #[.int .i64 first, .int .i64 count], .int .i64 turn.toInt] w fun e w' => e = .returned (.tuple #[.agg jz, .int .i64 1]) ∧ Below w.heap.size w w' := by
  have c := refMay_any n hn first count turn.toInt
  rw [hm] at c
  have hO := opn_new w #[.slice sa n sc, .slice wa m wc, .int .i64 f, .bool o] #[.int .i64 first, .int .i64 count]
  have HO := (show Hid _ from hO)
  clear hm hO
  go_enter Try.func43, Try.ntmps43
  go_wp2_with fail
  refine (c _).mono ?_
  rintro e w1 ⟨rfl, hb1⟩
  have O1 := HO.out.over hb1
  have z0 := O1.bj.cell 0 _ rfl
  have z1 := O1.bj.cell 1 _ rfl
  have z2 := O1.bj.cell 2 _ rfl
  have z3 := O1.bj.cell 3 _ rfl
  have z4 := O1.bj.cell 4 _ rfl
  have y0 := O1.bj.frozen 0
  have y1 := O1.bj.frozen 1
  have y2 := O1.bj.frozen 2
  have y3 := O1.bj.frozen 3
  have y4 := O1.bj.frozen 4
  have F5 := box_five O1.bj (.int .i64 0) (.int .i64 0) (.int .i64 0) (.slice none 0 0) (.int .i64 0)
  have hb3 := below_five O1.bel (z := w.heap.size + 1 + 1) (by omega) (.int .i64 0) (.int .i64 0) (.int .i64 0) (.slice none 0 0) (.int .i64 0)
  have HF := (show Hid _ from F5)
  have HB3 := (show Hid _ from hb3)
  clear F5 hb3 O1 hb1
  go_wp2_with fail
  exact bodyPost_ret (res_box_slot Try.results43 _ rfl HF.out Try.underlying41 rfl size_jv _ rfl) rfl ⟨rfl, HB3.out⟩
theorem mayJ_nat {n : Nat} {first count turn : Int} (h : mayJ n first count turn = true) : ∃ f c : Nat, first = (f : Int) ∧ count = (c : Int) ∧ 1 ≤ c ∧ f + c ≤ n ∧ 1 ≤ turn ∧ turn ≤ 4294967296 := by
  simp only [mayJ, Bool.and_eq_true, decide_eq_true_eq] at h
  obtain ⟨⟨⟨⟨⟨h1, h2⟩, h3⟩, h4⟩, h5⟩, h6⟩ := h
  exact ⟨first.toNat, count.toNat, by omega, by omega, by omega, by omega, h5, h6⟩
set_option maxRecDepth 4000 in
set_option maxHeartbeats 1000000 in
theorem refOpen_off (sa : Option Addr) (n sc : Nat) (hn : n ≤ 4096) (wa : Option Addr) (m wc : Nat) (fz : Int) (f c : Nat) (hc : 1 ≤ c) (hfc : f + c ≤ n) (turn : BitVec 64) (hm : mayJ n f c turn.toInt = true) (w : World) :
    Calls Try.prog 43 #[.agg #[.slice sa n sc, .slice wa m wc, .int .i64 fz, .bool true], .agg #[.int .i64 f, .int .i64 c], .int .i64 turn.toInt] w fun e w' => e = .returned (.tuple #[.agg jz, .int .i64 40]) ∧ Below w.heap.size w w' := by
  have cm := refMay_any n hn f c turn.toInt
  rw [hm] at cm
  have cr := fun W => rread_off sa n sc wa m wc fz f W (by omega)
  have hO := opn_new w #[.slice sa n sc, .slice wa m wc, .int .i64 fz, .bool true] #[.int .i64 f, .int .i64 c]
  have HO := (show Hid _ from hO)
  have hcI : (1 : Int) ≤ (c : Int) := by omega
  have hcI0 : (0 : Int) < (c : Int) := by omega
  clear hm hO
  go_enter Try.func43, Try.ntmps43
  go_wp2_with fail
  refine (cm _).mono ?_
  rintro e w1 ⟨rfl, hb1⟩
  have O1 := HO.out.over hb1
  have HO1 := (show Hid _ from O1)
  have b0 := O1.bd.cell 0 _ rfl
  have b1 := O1.bd.cell 1 _ rfl
  have b2 := O1.bd.cell 2 _ rfl
  have b3 := O1.bd.cell 3 _ rfl
  have e0 := O1.be.cell 0 _ rfl
  have e1 := O1.be.cell 1 _ rfl
  clear O1 hb1 HO
  go_wp2_with fail
  go_loopg [8, 9] 0 (fun g s8 s9 wx => g = 0 ∧ s9 = .int .i64 0 ∧ wx = w1)
  case atStart => exact ⟨rfl, rfl, rfl⟩
  case round =>
    obtain ⟨_, rfl, rfl⟩ := hrel
    go_wp2_with fail
    refine (cr _).mono ?_
    rintro e w2 ⟨rfl, hb2⟩
    have O2 := HO1.out.over hb2
    have z0 := O2.bj.cell 0 _ rfl
    have z1 := O2.bj.cell 1 _ rfl
    have z2 := O2.bj.cell 2 _ rfl
    have z3 := O2.bj.cell 3 _ rfl
    have z4 := O2.bj.cell 4 _ rfl
    have y0 := O2.bj.frozen 0
    have y1 := O2.bj.frozen 1
    have y2 := O2.bj.frozen 2
    have y3 := O2.bj.frozen 3
    have y4 := O2.bj.frozen 4
    have F5 := box_five O2.bj (.int .i64 0) (.int .i64 0) (.int .i64 0) (.slice none 0 0) (.int .i64 0)
    have hb3 := below_five O2.bel (z := w.heap.size + 1 + 1) (by omega) (.int .i64 0) (.int .i64 0) (.int .i64 0) (.slice none 0 0) (.int .i64 0)
    have HF := (show Hid _ from F5)
    have HB3 := (show Hid _ from hb3)
    clear F5 hb3 O2 hb2
    go_wp2_with fail
    exact bodyPost_ret (res_box_slot Try.results43 _ rfl HF.out Try.underlying41 rfl size_jv _ rfl) rfl ⟨rfl, HB3.out⟩
end Go.Proofs.Ytgffplfpoopolaa
/-
  The contracts of package journal's small functions: Needs, given, Room, has, Begin, isBeside, cut, noughts.
-/
namespace Go.Proofs.Ytgffplfpoopolaa
open Go.RowKit

set_option maxHeartbeats 400000 in
theorem jneeds_any (x : Int) (w : World) :
    Calls Try.prog 19 #[.int .i64 x] w fun e w' => e = .returned (.int .i64 (needsI x)) ∧ w' = w := by
  by_cases h : 1 ≤ x ∧ x ≤ 8192
  · obtain ⟨k, rfl⟩ : ∃ k : Nat, x = (k : Int) := ⟨x.toNat, by omega⟩
    have h1 : (1 : Int) ≤ k := h.1
    have h2 : (k : Int) ≤ 8192 := h.2
    have HN : Hid (needsI (k : Int) = ((needs k : Nat) : Int)) := needsI_nat (by omega) (by omega)
    clear h
    go_enter Try.func19, Try.ntmps19
    go_wp2
    go_ret
    rw [HN.out]
    refine ⟨?_, rfl⟩
    have hz : ((k : Int) - 1) / 96 + 1 = ((needs k : Nat) : Int) := by unfold needs; omega
    rw [← hz]
    rfl
  · have HN : Hid (needsI x = 0) := needsI_no h
    by_cases h1 : x < 1
    · clear h
      go_enter Try.func19, Try.ntmps19
      go_wp2
      go_ret
      rw [HN.out]
      exact ⟨rfl, rfl⟩
    · have h2 : 8192 < x := by omega
      clear h
      go_enter Try.func19, Try.ntmps19
      go_wp2
      go_ret
      rw [HN.out]
      exact ⟨rfl, rfl⟩

/-- A journal's cells. -/
def jc (d : Value) (f c turn : Int) (rv : Value) (u : Int) : Array Value := #[d, .int .i64 f, .int .i64 c, .int .i64 turn, rv, .int .i64 u]
section
variable {w : World} {p : Nat} {d rv : Value} {f c turn u : Int}
theorem jc0 (B : Box w p 63 (jc d f c turn rv u)) : w.cell? ⟨p, 0, none⟩ = some d := B.cell 0 d rfl
theorem jc1 (B : Box w p 63 (jc d f c turn rv u)) : w.cell? ⟨p, 1, none⟩ = some (.int .i64 f) := B.cell 1 _ rfl
theorem jc2 (B : Box w p 63 (jc d f c turn rv u)) : w.cell? ⟨p, 2, none⟩ = some (.int .i64 c) := B.cell 2 _ rfl
theorem jc3 (B : Box w p 63 (jc d f c turn rv u)) : w.cell? ⟨p, 3, none⟩ = some (.int .i64 turn) := B.cell 3 _ rfl
theorem jc4 (B : Box w p 63 (jc d f c turn rv u)) : w.cell? ⟨p, 4, none⟩ = some rv := B.cell 4 rv rfl
theorem jc5 (B : Box w p 63 (jc d f c turn rv u)) : w.cell? ⟨p, 5, none⟩ = some (.int .i64 u) := B.cell 5 _ rfl
end
theorem jgiven_nil (w : World) :
    Calls Try.prog 24 #[.pointer none] w fun e w' => e = .returned (.bool false) ∧ w' = w := by
  go_enter Try.func24, Try.ntmps24
  go_wp2
  go_ret
  exact ⟨rfl, rfl⟩
theorem jgiven_no (p : Nat) (w : World) (hc : w.cell? ⟨p, 0, none⟩ = some (.pointer none)) :
    Calls Try.prog 24 #[.pointer (some ⟨p, 0, none⟩)] w fun e w' => e = .returned (.bool false) ∧ w' = w := by
  go_enter Try.func24, Try.ntmps24
  go_wp2
  go_ret
  exact ⟨rfl, rfl⟩
theorem jgiven_yes (p : Nat) (a : Addr) (w : World) (hc : w.cell? ⟨p, 0, none⟩ = some (.pointer (some a))) :
    Calls Try.prog 24 #[.pointer (some ⟨p, 0, none⟩)] w fun e w' => e = .returned (.bool true) ∧ w' = w := by
  go_enter Try.func24, Try.ntmps24
  go_wp2
  go_ret
  exact ⟨rfl, rfl⟩
/-- Nobody's journal: nil, or the zero one. -/
def NoJ (v : Value) (w : World) : Prop := v = .pointer none ∨ ∃ p, v = .pointer (some ⟨p, 0, none⟩) ∧ w.cell? ⟨p, 0, none⟩ = some (.pointer none)
theorem jgiven_noj {v : Value} {w : World} (h : NoJ v w) : Calls Try.prog 24 #[v] w fun e w' => e = .returned (.bool false) ∧ w' = w := by
  rcases h with rfl | ⟨p, rfl, hc⟩
  · exact jgiven_nil w
  · exact jgiven_no p w hc
theorem jroom_noj {v : Value} {w : World} (h : NoJ v w) : Calls Try.prog 12 #[v] w fun e w' => e = .returned (.int .i64 0) ∧ w' = w := by
  have c := jgiven_noj h
  clear h
  go_enter Try.func12, Try.ntmps12
  go_wp2_with (go_at_call 24; refine c.mono ?_; rintro e w1 ⟨rfl, hw1⟩; subst hw1)
  go_ret
  exact ⟨rfl, rfl⟩
theorem jrecords_noj {v : Value} {w : World} (h : NoJ v w) : Calls Try.prog 11 #[v] w fun e w' => e = .returned (.slice none 0 0) ∧ w' = w := by
  have c := jgiven_noj h
  clear h
  go_enter Try.func11, Try.ntmps11
  go_wp2_with (go_at_call 24; refine c.mono ?_; rintro e w1 ⟨rfl, hw1⟩; subst hw1)
  go_ret
  exact ⟨rfl, rfl⟩
theorem jadd_noj {v : Value} {w : World} (h : NoJ v w) (s : ByteArray) : Calls Try.prog 16 #[v, .string s] w fun e w' => e = .returned (.int .i64 1) ∧ w' = w := by
  have c := jgiven_noj h
  have c2 := jneeds_any s.size w
  obtain ⟨n, hn⟩ : ∃ n, n = needsI s.size := ⟨_, rfl⟩
  rw [← hn] at c2
  clear h hn
  go_enter Try.func16, Try.ntmps16
  go_wp2_with (first
    | (go_at_call 24; refine c.mono ?_; rintro e w1 ⟨rfl, hw1⟩; subst hw1)
    | (go_at_call 19; refine c2.mono ?_; rintro e w1 ⟨rfl, hw1⟩; replace hw1 := hw1.symm; subst hw1))
  go_ret
  exact ⟨rfl, rfl⟩
theorem jroom_any {w : World} {p : Nat} {a : Addr} {f c turn : Int} {rv : Value} {u : Int} (B : Box w p 63 (jc (.pointer (some a)) f c turn rv u)) (hu : 0 ≤ u ∧ u ≤ c ∧ c ≤ 1000000) :
    Calls Try.prog 12 #[.pointer (some ⟨p, 0, none⟩)] w fun e w' => e = .returned (.int .i64 (c - u)) ∧ Below w.heap.size w w' := by
  have c0 := jgiven_yes p a w (jc0 B)
  have h2 := jc2 B
  have h5 := jc5 B
  obtain ⟨u0, u1, u2⟩ := hu
  clear B
  go_enter Try.func12, Try.ntmps12
  go_wp2_with (go_at_call 24; refine c0.mono ?_; rintro e w1 ⟨rfl, hw1⟩; replace hw1 := hw1.symm; subst hw1)
  go_quiet (fail)
  go_wp2
  go_ret
  exact ⟨rfl, below_drewN _ _⟩

/-- The size of a device, whatever is made. -/
def SizeUp (d : Value) (n : Nat) (w : World) : Prop := ∀ w', Below w.heap.size w w' → SizeIs d n w'
theorem sizeUp_nil (w : World) : SizeUp (.pointer none) 0 w := fun w' _ => sizeIs_nil w'
theorem DevIs.up {w : World} {H : Hnd} {s : St} (D : DevIs w H s) : SizeUp (.pointer (some ⟨H.p, 0, none⟩)) s.sure.length w := fun _ b => (D.below b).size
def hasJ (n : Nat) (first count : Int) : Bool := decide (0 ≤ first) && decide (1 ≤ count) && decide (count ≤ n - first)
set_option maxRecDepth 4000 in
set_option maxHeartbeats 1000000 in
theorem jhas_any (d : Value) (n : Nat) (hn : n ≤ 4096) (first count : Int) (hf : first < 9223372036854775808) (w : World) (hs : SizeUp d n w) :
    Calls Try.prog 15 #[d, .agg #[.int .i64 first, .int .i64 count]] w fun e w' => e = .returned (.bool (hasJ n first count)) ∧ Below w.heap.size w w' := by
  have hb1 := below1 w (.cells #[.int .i64 first, .int .i64 count] 37)
  have c := hs _ hb1
  have B := box_new w #[.int .i64 first, .int .i64 count] 37
  obtain ⟨W, hW⟩ : ∃ W, W = w.alloc (.cells #[.int .i64 first, .int .i64 count] 37) := ⟨_, rfl⟩
  by_cases h1 : 0 ≤ first
  case' neg =>
    have HM : Hid (hasJ n first count = false) := by show _ = _; simp [hasJ, h1]
    have d1 : decide (0 ≤ first) = false := by simp [h1]
  case' pos =>
    have d1 : decide (0 ≤ first) = true := by simp [h1]
    by_cases h2 : 1 ≤ count
    case' neg =>
      have HM : Hid (hasJ n first count = false) := by show _ = _; simp [hasJ, h2]
      have d2 : decide (1 ≤ count) = false := by simp [h2]
    case' pos =>
      have d2 : decide (1 ≤ count) = true := by simp [h2]
      have hw : wrap64 ((n : Int) - first) = (n : Int) - first := by unfold wrap64; omega
      by_cases h3 : count ≤ (n : Int) - first
      case' neg => have HM : Hid (hasJ n first count = false) := by show _ = _; simp [hasJ, h3]
      case' pos => have HM : Hid (hasJ n first count = true) := by show _ = _; simp [hasJ, h1, h2, h3]
  all_goals
    go_enter Try.func15, Try.ntmps15
    go_wp2
    rw [← hW] at c hb1 B ⊢
    have z0 : W.cell? ⟨w.heap.size, 0, none⟩ = some (.int .i64 first) := B.cell 0 _ rfl
    have z1 : W.cell? ⟨w.heap.size, 1, none⟩ = some (.int .i64 count) := B.cell 1 _ rfl
    clear B hW
    go_quiet ((go_at_call 28; exact Calls.quiet_of_same (c _ rfl)))
    go_wp2
    go_ret
    rw [HM.out]
    exact ⟨by first | rfl | simp_all, hb1.trans ((below_drewN _ _).mono hb1.size)⟩
theorem has_may (n : Nat) (first count turn : Int) : mayJ n first count turn = (hasJ n first count && (decide (1 ≤ turn) && decide (turn ≤ 4294967296))) := by
  rw [Bool.eq_iff_iff]
  simp only [mayJ, hasJ, Bool.and_eq_true, decide_eq_true_eq]
  omega
theorem jbeside_any (x : Int) (w : World) :
    Calls Try.prog 64 #[.int .i64 x] w fun e w' => e = .returned (.bool (decide (0 ≤ x ∧ x ≤ 86))) ∧ w' = w := by
  by_cases h : 0 ≤ x
  all_goals
    go_enter Try.func64, Try.ntmps64
    go_wp2
    go_ret
    simp [h]
    try omega
end Go.Proofs.Ytgffplfpoopolaa
/-
  The contracts of package journal's Begin, cut, noughts and Records.
-/
namespace Go.Proofs.Ytgffplfpoopolaa
open Go.RowKit

set_option maxRecDepth 4000 in
set_option maxHeartbeats 1000000 in
theorem jbegin_no (d : Value) (n : Nat) (hn : n ≤ 4096) (first count turn : Int) (hf : first < 9223372036854775808) (w : World) (hs : SizeUp d n w) (hm : mayJ n first count turn = false) :
    Calls Try.prog 6 #[d, .agg #[.int .i64 first, .int .i64 count], .int .i64 turn] w fun e w' => e = .returned (.tuple #[.pointer none, .int .i64 1]) ∧ Below w.heap.size w w' := by
  have hb1 := below1 w (.cells #[.int .i64 first, .int .i64 count] 37)
  have c := jhas_any d n hn first count hf _ (fun w' b => hs w' (hb1.trans (b.mono hb1.size)))
  rw [has_may] at hm
  cases hj : hasJ n first count with
  | false =>
    rw [hj] at c
    clear hm hj hs
    go_enter Try.func6, Try.ntmps6
    go_wp2_with (go_at_call 15; refine c.mono ?_; rintro e w1 ⟨rfl, hb2⟩)
    go_ret2
    exact ⟨rfl, hb1.trans (hb2.mono hb1.size)⟩
  | true =>
    rw [hj] at c hm
    by_cases h1 : 1 ≤ turn
    · have h2 : 4294967296 < turn := by
        rw [Bool.true_and] at hm
        simp [h1] at hm
        omega
      clear hm hj hs
      go_enter Try.func6, Try.ntmps6
      go_wp2_with (go_at_call 15; refine c.mono ?_; rintro e w1 ⟨rfl, hb2⟩)
      go_ret2
      exact ⟨rfl, hb1.trans (hb2.mono hb1.size)⟩
    · have h2 : turn < 1 := by omega
      clear hm hj hs
      go_enter Try.func6, Try.ntmps6
      go_wp2_with (go_at_call 15; refine c.mono ?_; rintro e w1 ⟨rfl, hb2⟩)
      go_ret2
      exact ⟨rfl, hb1.trans (hb2.mono hb1.size)⟩
set_option maxRecDepth 4000 in
set_option maxHeartbeats 1000000 in
theorem jbegin_yes (q : Option Addr) (n : Nat) (hn : n ≤ 4096) (first count turn : Int) (hf : first < 9223372036854775808) (w : World) (hs : SizeUp (.pointer q) n w) (hm : mayJ n first count turn = true) :
    Calls Try.prog 6 #[.pointer q, .agg #[.int .i64 first, .int .i64 count], .int .i64 turn] w fun e w' => (∃ p, e = .returned (.tuple #[.pointer (some ⟨p, 0, none⟩), .int .i64 0]) ∧ Box w' p 63 (jc (.pointer q) first count turn (.slice none 0 0) 0) ∧ w.heap.size ≤ p) ∧ Below w.heap.size w w' := by
  have hb1 := below1 w (.cells #[.int .i64 first, .int .i64 count] 37)
  have c := jhas_any (.pointer q) n hn first count hf _ (fun w' b => hs w' (hb1.trans (b.mono hb1.size)))
  have B := box_new w #[.int .i64 first, .int .i64 count] 37
  rw [has_may, Bool.and_eq_true, Bool.and_eq_true, decide_eq_true_eq, decide_eq_true_eq] at hm
  obtain ⟨hj, h1, h2⟩ := hm
  rw [hj] at c
  clear hj hs
  go_enter Try.func6, Try.ntmps6
  go_wp2_with fail
  refine c.mono ?_
  rintro e w1 ⟨rfl, hb2⟩
  have B1 := B.over hb2
  have z0 : w1.cell? ⟨w.heap.size, 0, none⟩ = some (.int .i64 first) := B1.cell 0 _ rfl
  have z1 : w1.cell? ⟨w.heap.size, 1, none⟩ = some (.int .i64 count) := B1.cell 1 _ rfl
  have hb3 := hb1.trans (hb2.mono hb1.size)
  have HB : Hid (Below w.heap.size w w1) := hb3
  clear B B1 hb1 hb2 hb3 c
  go_wp2
  go_ret2
  exact ⟨⟨w1.heap.size, rfl, box_new _ _ _, HB.out.size⟩, HB.out.trans ((below1 _ _).mono HB.out.size)⟩
theorem piece_of (s : List UInt8) (i : Nat) (m : Nat) (hm : m = min s.length (96 * i + 96)) : (strB s).extract (96 * i) m = strB (piece s i) := by rw [hm]; exact piece_cut s i
set_option maxHeartbeats 1000000 in
theorem jcut_any (s : List UInt8) (hs : s.length ≤ 8192) (i : Nat) (hi : 96 * i ≤ s.length) (w : World) :
    Calls Try.prog 29 #[.string (strB s), .int .i64 i] w fun e w' => e = .returned (.string (strB (piece s i))) ∧ w' = w := by
  obtain ⟨k, hk⟩ : ∃ k, k = 96 * i := ⟨_, rfl⟩
  obtain ⟨m, hm⟩ : ∃ m, m = min s.length (96 * i + 96) := ⟨_, rfl⟩
  have HE : Hid ((strB s).extract k m = strB (piece s i)) := by rw [hk]; exact piece_of s i m hm
  have r1 : (i : Int) * 96 = (k : Int) := by omega
  have hz : (strB s).size = s.length := rfl
  obtain ⟨S, hS⟩ : ∃ S, S = strB s := ⟨_, rfl⟩
  rw [← hS] at HE hz ⊢
  have hmin : min ((k : Int) + 96) (S.size : Int) = (m : Int) := by omega
  have b0 : 0 ≤ (k : Int) ∧ (k : Int) ≤ (m : Int) := by omega
  have b1 : (m : Int) ≤ (S.size : Int) := by omega
  have b2 : (k : Int) ≤ 8192 := by omega
  have b3 : (S.size : Int) ≤ 8192 := by omega
  clear hk hS hs hi hm hz
  go_enter Try.func29, Try.ntmps29
  go_wp2
  go_ret
  rw [← HE.out]
  simp
theorem repeat_zero : ∀ n, Lib.repeatL [0] n = List.replicate n 0
  | 0 => rfl
  | n + 1 => by rw [Lib.repeatL, repeat_zero n]; rfl
theorem jnoughts_any (n : Nat) (hn : n ≤ 128) (w : World) :
    Calls Try.prog 48 #[.int .i64 n] w fun e w' => e = .returned (.string (strB (List.replicate n 0))) ∧ Below w.heap.size w w' := by
  have c := Any.strings_Repeat Try.lays105 Try.Builder_Extra_105 { data := #[0] } n w (by omega) (by show 1 * n ≤ _; omega)
  rw [show ({ data := #[0] } : ByteArray).data.toList = [0] from rfl, repeat_zero] at c
  replace c : Calls Try.prog 62 #[.string { data := #[0] }, .int .i64 n] w fun e w' => e = .returned (.string (strB (List.replicate n 0))) ∧ Below w.heap.size w w' := c
  obtain ⟨Z, hZ⟩ : ∃ Z, Z = strB (List.replicate n 0) := ⟨_, rfl⟩
  rw [← hZ] at c ⊢
  clear hZ
  go_enter Try.func48, Try.ntmps48
  go_wp2_with (go_at_call 62; refine c.mono ?_; rintro e w1 ⟨rfl, hb⟩)
  go_ret
  exact ⟨rfl, hb⟩
theorem ReadsS.clone {w : World} {v : Value} {l : List ByteArray} (h : ReadsS w v l) (hl : l.length ≤ 1000000) :
    Calls Try.prog 25 #[v] w fun e w' => (∃ v', e = .returned v' ∧ OwnsS w' w.heap.size v' l) ∧ Below w.heap.size w w' := by
  rcases h with ⟨rfl, a, c, rfl⟩ | ⟨b, off, c, rfl, hne, hbw, hc⟩
  · cases a with
    | none => exact (Any.slices_Clone_string_nil Try.laysNm216 0 c w).mono fun e w' ⟨h1, h2⟩ => ⟨⟨_, h1, ownsS_nil _ _⟩, h2 ▸ Below.refl _ _⟩
    | some a => exact (Any.slices_Clone_string_zero Try.laysNm216 a c w).mono fun e w' ⟨v', h1, h2, _, h3⟩ => ⟨⟨v', h1, h2⟩, h3⟩
  · refine (Any.slices_Clone_string Try.laysNm216 b off l.length c l w (Nat.le_refl _) (by omega) (fun j hj => ?_)).mono fun e w' ⟨v', h1, h2, _, h3⟩ => ⟨⟨v', h1, ?_⟩, h3⟩
    · rw [hc j _ (List.getElem?_eq_getElem hj)]
      simp [hj]
    · rw [List.take_of_length_le (Nat.le_refl _)] at h2
      exact h2
theorem jrecords_any {w : World} {p : Nat} {a : Addr} {f c turn u : Int} {rv : Value} (B : Box w p 63 (jc (.pointer (some a)) f c turn rv u)) {l : List ByteArray} (h : ReadsS w rv l) (hl : l.length ≤ 1000000) :
    Calls Try.prog 11 #[.pointer (some ⟨p, 0, none⟩)] w fun e w' => (∃ v', e = .returned v' ∧ OwnsS w' w.heap.size v' l) ∧ Below w.heap.size w w' := by
  have c0 := jgiven_yes p a w (jc0 B)
  have h4 := jc4 B
  have c1 := h.clone hl
  clear B h
  go_enter Try.func11, Try.ntmps11
  go_wp2_with (first
    | (go_at_call 24; refine c0.mono ?_; rintro e w1 ⟨rfl, hw1⟩; replace hw1 := hw1.symm; subst hw1)
    | (go_at_call 25; refine c1.mono ?_; rintro e w2 ⟨⟨v', rfl, hv⟩, hb⟩))
  go_ret
  exact ⟨⟨v', rfl, hv⟩, hb⟩
end Go.Proofs.Ytgffplfpoopolaa
/-
  The contract of package journal's part.block.
-/
namespace Go.Proofs.Ytgffplfpoopolaa
open Go.RowKit

set_option maxRecDepth 4000 in
set_option maxHeartbeats 1000000 in
theorem jblock_any (p : Pt) (hb : (bodyL p).length ≤ 124) (w : World) :
    Calls Try.prog 31 #[.agg (pv p)] w fun e w' => e = .returned (.string (strB (partL p))) ∧ Below w.heap.size w w' := by
  have hbl : (bodyL p).length = (enc1 p.turn).length + (enc1 p.num).length + (enc1 p.ahead).length + (enc1 p.behind).length + (enc1 (BitVec.ofNat 64 p.s.length)).length + p.s.length := by
    rw [bodyL, List.length_append, Pt.nums, encs_five_len]
  have hpl : partL p = sealL (bodyL p) ++ List.replicate (128 - ((bodyL p).length + 4)) 0 := by rw [partL, sealL_len]
  have c1 := fun w => put_any p.turn w
  have c2 := fun w => put_any p.num w
  have c3 := fun w => put_any p.ahead w
  have c4 := fun w => put_any p.behind w
  have c5 := fun w => put_any (BitVec.ofNat 64 p.s.length) w
  have hsl : p.s.length ≤ 124 := by omega
  rw [ofNat_toInt (by omega)] at c5
  have ht := part_text p
  have hz : (strB p.s).size = p.s.length := rfl
  have z1 : (str (enc1 p.turn)).size = (enc1 p.turn).length := rfl
  have z2 : (str (enc1 p.num)).size = (enc1 p.num).length := rfl
  have z3 : (str (enc1 p.ahead)).size = (enc1 p.ahead).length := rfl
  have z4 : (str (enc1 p.behind)).size = (enc1 p.behind).length := rfl
  have z5 : (str (enc1 (BitVec.ofNat 64 p.s.length))).size = (enc1 (BitVec.ofNat 64 p.s.length)).length := rfl
  show Calls _ _ #[.agg #[.int .i64 p.turn.toInt, .int .i64 p.num.toInt, .int .i64 p.ahead.toInt, .int .i64 p.behind.toInt, .string (strB p.s)]] w _
  obtain ⟨S, hS⟩ : ∃ S, S = strB p.s := ⟨_, rfl⟩
  obtain ⟨n, hn⟩ : ∃ n, n = p.s.length := ⟨_, rfl⟩
  obtain ⟨e1, he1⟩ : ∃ e, e = str (enc1 p.turn) := ⟨_, rfl⟩
  obtain ⟨e2, he2⟩ : ∃ e, e = str (enc1 p.num) := ⟨_, rfl⟩
  obtain ⟨e3, he3⟩ : ∃ e, e = str (enc1 p.ahead) := ⟨_, rfl⟩
  obtain ⟨e4, he4⟩ : ∃ e, e = str (enc1 p.behind) := ⟨_, rfl⟩
  obtain ⟨e5, he5⟩ : ∃ e, e = str (enc1 (BitVec.ofNat 64 p.s.length)) := ⟨_, rfl⟩
  obtain ⟨t1, ht1⟩ : ∃ t, t = p.turn.toInt := ⟨_, rfl⟩
  obtain ⟨t2, ht2⟩ : ∃ t, t = p.num.toInt := ⟨_, rfl⟩
  obtain ⟨t3, ht3⟩ : ∃ t, t = p.ahead.toInt := ⟨_, rfl⟩
  obtain ⟨t4, ht4⟩ : ∃ t, t = p.behind.toInt := ⟨_, rfl⟩
  rw [← str_is, ← str_is, ← str_is, ← str_is, ← str_is] at ht
  rw [← he1, ← ht1] at c1
  rw [← he2, ← ht2] at c2
  rw [← he3, ← ht3] at c3
  rw [← he4, ← ht4] at c4
  rw [← he5] at c5
  rw [← he1] at z1 ht
  rw [← he2] at z2 ht
  rw [← he3] at z3 ht
  rw [← he4] at z4 ht
  rw [← he5] at z5 ht
  rw [← hS] at hz ht
  rw [← hS, ← ht1, ← ht2, ← ht3, ← ht4]
  rw [← hn] at hz hbl hsl c5 z5
  obtain ⟨m, hm⟩ : ∃ m, m = (bodyL p).length := ⟨_, rfl⟩
  rw [← hm] at hb hbl hpl
  have q1 : e1.size ≤ 124 := by omega
  have r2 : e2.size ≤ 124 := by omega
  have r3 : e3.size ≤ 124 := by omega
  have r4 : e4.size ≤ 124 := by omega
  have r5 : e5.size ≤ 124 := by omega
  have q2 : (e1 ++ e2).size ≤ 124 := by rw [ByteArray.size_append]; omega
  have q3 : (e1 ++ e2 ++ e3).size ≤ 124 := by rw [ByteArray.size_append, ByteArray.size_append]; omega
  have q4 : (e1 ++ e2 ++ e3 ++ e4).size ≤ 124 := by rw [ByteArray.size_append, ByteArray.size_append, ByteArray.size_append]; omega
  have q5 : (e1 ++ e2 ++ e3 ++ e4 ++ e5).size ≤ 124 := by rw [ByteArray.size_append, ByteArray.size_append, ByteArray.size_append, ByteArray.size_append]; omega
  have q6 : (e1 ++ e2 ++ e3 ++ e4 ++ e5 ++ S).size = m := by rw [ByteArray.size_append, ByteArray.size_append, ByteArray.size_append, ByteArray.size_append, ByteArray.size_append]; omega
  have cs := fun w => seal_any (e1 ++ e2 ++ e3 ++ e4 ++ e5 ++ S) (by omega) w
  obtain ⟨B, hB⟩ : ∃ B, B = sealS (e1 ++ e2 ++ e3 ++ e4 ++ e5 ++ S) := ⟨_, rfl⟩
  have hBz : B.size = m + 4 := by rw [hB, sealS_size, q6]
  rw [← hB] at cs ht
  obtain ⟨g, hg⟩ : ∃ g, g = 128 - (m + 4) := ⟨_, rfl⟩
  rw [← hg] at hpl
  have hz9 : (strB (List.replicate g 0)).size = g := by rw [strB_size, List.length_replicate]
  have hg9 : g ≤ 124 := by omega
  have cn := fun w => jnoughts_any g (by omega) w
  obtain ⟨Z, hZ⟩ : ∃ Z, Z = strB (List.replicate g 0) := ⟨_, rfl⟩
  have HE : Hid (B ++ Z = strB (partL p)) := by
    show _ = _
    rw [ht, hZ, strB_append, hpl]
  rw [← hZ] at hz9 cn
  have hmI : (m : Int) ≤ 124 := by omega
  have hwI : (128 : Int) - ((m : Int) + 4) = (g : Int) := by omega
  clear hS he1 he2 he3 he4 he5 z1 z2 z3 z4 z5 hbl hpl hB ht hn hm hb hg hZ ht1 ht2 ht3 ht4
  have B0 := box_new w #[.int .i64 t1, .int .i64 t2, .int .i64 t3, .int .i64 t4, .string S] 83
  have hb1 := below1 w (.cells #[.int .i64 t1, .int .i64 t2, .int .i64 t3, .int .i64 t4, .string S] 83)
  have k0 : ∀ k : Above (w.alloc (.cells #[.int .i64 t1, .int .i64 t2, .int .i64 t3, .int .i64 t4, .string S] 83)), k.it.cell? ⟨w.heap.size, 0, none⟩ = some (.int .i64 t1) := fun k => (B0.over k.is).cell 0 _ rfl
  have k1 : ∀ k : Above (w.alloc (.cells #[.int .i64 t1, .int .i64 t2, .int .i64 t3, .int .i64 t4, .string S] 83)), k.it.cell? ⟨w.heap.size, 1, none⟩ = some (.int .i64 t2) := fun k => (B0.over k.is).cell 1 _ rfl
  have k2 : ∀ k : Above (w.alloc (.cells #[.int .i64 t1, .int .i64 t2, .int .i64 t3, .int .i64 t4, .string S] 83)), k.it.cell? ⟨w.heap.size, 2, none⟩ = some (.int .i64 t3) := fun k => (B0.over k.is).cell 2 _ rfl
  have k3 : ∀ k : Above (w.alloc (.cells #[.int .i64 t1, .int .i64 t2, .int .i64 t3, .int .i64 t4, .string S] 83)), k.it.cell? ⟨w.heap.size, 3, none⟩ = some (.int .i64 t4) := fun k => (B0.over k.is).cell 3 _ rfl
  have k4 : ∀ k : Above (w.alloc (.cells #[.int .i64 t1, .int .i64 t2, .int .i64 t3, .int .i64 t4, .string S] 83)), k.it.cell? ⟨w.heap.size, 4, none⟩ = some (.string S) := fun k => (B0.over k.is).cell 4 _ rfl
  clear B0
  go_enter Try.func31, Try.ntmps31
  go_wp2
  refine wp_region_above (by kernel_rfl) (by kernel_rfl) ?_
  intro hne
  repeat (go_big_quiet_step (first
    | (go_at_call 47; first | with_reducible exact above_of (c1 _) | with_reducible exact above_of (c2 _) | with_reducible exact above_of (c3 _) | with_reducible exact above_of (c4 _) | with_reducible exact above_of (c5 _))
    | (go_at_call 46; exact above_of (cs _))))
  refine wpQuiet_nil ?_
  rintro _ ⟨kq, rfl⟩
  have hbq := kq.is
  replace hbq := hb1.trans (hbq.mono hb1.size)
  clear k0 k1 k2 k3 k4
  go_wp2_with (go_at_call 48; refine (cn _).mono ?_; rintro e w3 ⟨rfl, hb3⟩)
  go_ret
  exact ⟨congrArg (fun x => Ending.returned (.string x)) HE.out, hbq.trans (hb3.mono hbq.size)⟩
end Go.Proofs.Ytgffplfpoopolaa
/-
  The contract of package journal's take.
-/
namespace Go.Proofs.Ytgffplfpoopolaa
open Go.RowKit Leb

/-- What is told of a block. -/
def TakeAns (b : List UInt8) (w : World) (e : Ending) (w' : World) : Prop :=
  ((∃ p, readP b = some p ∧ e = .returned (.tuple #[.agg (pv p), .int .i64 0])) ∨ (readP b = none ∧ e = .returned (.tuple #[.agg (pv noPt), .int .i64 5]))) ∧ Below w.heap.size w w'
theorem take_good {b : List UInt8} (hb : b.length = 128) {a n x y z : BitVec 64} {u k : Nat} (h : tkN 5 b = some ([a, n, x, y, z], u)) (hx0 : 0 ≤ x.toInt) (hx : x.toInt ≤ 86) (hy0 : 0 ≤ y.toInt) (hy : y.toInt ≤ 86) (hz : z.toInt = (k : Int)) (hk : 1 ≤ k) (hk2 : k ≤ 96) (hk3 : u + k ≤ 128) :
    (⟨a, n, x, y, (b.drop u).take k⟩ : Pt).May ∧ readP b = if partL ⟨a, n, x, y, (b.drop u).take k⟩ = b then some ⟨a, n, x, y, (b.drop u).take k⟩ else none := by
  have hl : ((b.drop u).take k).length = k := by simp; omega
  have hm : (⟨a, n, x, y, (b.drop u).take k⟩ : Pt).May := ⟨hx0, hx, hy0, hy, by rw [hl]; exact hk, by rw [hl]; exact hk2⟩
  refine ⟨hm, ?_⟩
  rw [readP_of h]
  have e : ptOf b [a, n, x, y, z] u = ⟨a, n, x, y, (b.drop u).take k⟩ := by
    show (⟨a, n, x, y, (b.drop u).take z.toInt.toNat⟩ : Pt) = _
    rw [hz]
    simp
  rw [e, (mayB_iff _).2 hm, Bool.true_and]
  simp only [beq_iff_eq]
theorem size_part : (Try.prog.info? 83).map (·.size) = some 5 := by kernel_rfl
theorem cut_rest (l : List UInt8) (n : Nat) : (strB l).extract n (strB l).size = strB (l.drop n) := by
  rw [← strB_of ((strB l).extract n (strB l).size), extract_rest, strB_list]
theorem cut_head (l : List UInt8) (n : Nat) : (strB l).extract 0 n = strB (l.take n) := by
  rw [← strB_of ((strB l).extract 0 n), extract_head, strB_list]
set_option maxRecDepth 4000 in
set_option maxHeartbeats 1600000 in
theorem jtake_any (b : List UInt8) (hb : b.length = 128) (w : World) :
    Calls Try.prog 49 #[.string (strB b)] w (TakeAns b w) := by
  have HT : Hid (∀ (l : List UInt8) (w : World), l.length ≤ 128 → Calls Try.prog 63 #[.string (strB l)] w fun e w' => e = .returned (.tuple #[.int .i64 (zagW (tk l).1).toInt, .int .i64 (tk l).2.1, .int .i64 (tk l).2.2]) ∧ w' = w) := by
    intro l w hl
    have := take_any (strB l) (by rw [strB_size]; unfold maxLen; omega) w
    rw [strB_list] at this
    exact this
  have HB : Hid (b.length = 128) := hb
  obtain ⟨S, hS⟩ : ∃ S, S = strB b := ⟨_, rfl⟩
  have HS : Hid (S = strB b) := hS
  rw [← hS]
  clear hb hS
  go_enter Try.func49, Try.ntmps49
  go_wp2
  go_loopg [5, 13] 5 (fun g s5 s13 wx => ∃ (k u : Nat) (d : List (BitVec 64)) (R : ByteArray), k + g = 5 ∧ s13 = .int .i64 k ∧ s5 = .string R ∧ R = strB (b.drop u) ∧ d.length = k ∧ u ≤ 128 ∧ tkF (5 - k) b d u = tkF 5 b [] 0 ∧ Box wx w.heap.size 83 (pv noPt) ∧ Box wx (w.heap.size + 1) 126 (arr5 d) ∧ Below w.heap.size w wx)
  case atStart =>
    have b1 := box_new (w.alloc (.cells (pv noPt) 83)) (arr5 []) 126
    rw [World.size_alloc] at b1
    exact ⟨0, 0, [], S, rfl, rfl, rfl, HS.out, rfl, by omega, rfl, box_old _ _ _ _, b1, below2 _ _ _⟩
  case round =>
    obtain ⟨k, u, d, R, hkg, rfl, rfl, hR, hdk, hu, htk, hB0, hB1, hbel⟩ := hrel
    have HF : Hid (tkF (5 - k) b d u = tkF 5 b [] 0) := htk
    have HD : Hid (d.length = k) := hdk
    have HR : Hid (R = strB (b.drop u)) := hR
    have HB0 : Hid (Box wr w.heap.size 83 (pv noPt)) := hB0
    have HB1 : Hid (Box wr (w.heap.size + 1) 126 (arr5 d)) := hB1
    have HBel : Hid (Below w.heap.size w wr) := hbel
    have hRz : R.size = 128 - u := by rw [hR, strB_size, List.length_drop, HB.out]
    by_cases hk : k < 5
    · have hkI : (k : Int) < 5 := by omega
      have c := HT.out (b.drop u) wr (by rw [List.length_drop, HB.out]; omega)
      rw [← hR] at c
      rcases tk_cases (b.drop u) with ⟨z, hp, e⟩ | ⟨_, e⟩
      · have hlen := hp.length_le
        have hzl : lenW z = (leb z.toNat).length := rfl
        rw [List.length_drop, HB.out, ← hzl] at hlen
        have HE : Hid (tk (b.drop u) = (z, lenW z, 0)) := e
        rw [e] at c
        simp only at c
        obtain ⟨x, hx⟩ : ∃ x, x = zagW z := ⟨_, rfl⟩
        obtain ⟨n, hn⟩ : ∃ n, n = lenW z := ⟨_, rfl⟩
        rw [← hx, ← hn] at c
        rw [← hn] at hlen
        have HX : Hid (x = zagW z ∧ n = lenW z) := ⟨hx, hn⟩
        have hbd : 0 ≤ (n : Int) ∧ (n : Int) ≤ (R.size : Int) := by omega
        have hk0 : 0 ≤ (k : Int) ∧ (k : Int) < 5 := by omega
        obtain ⟨v, hv⟩ := arr5_at d k hk
        have hc1 := hB1.cell k v hv
        have hf1 := hB1.frozen k
        clear hx hn e hp hzl htk hdk hB0 hB1 hR hv hRz hlen
        go_wp2_with fail
        refine c.mono ?_
        rintro e w2 ⟨rfl, hw2⟩
        replace hw2 := hw2.symm
        subst hw2
        go_wp2_with fail
        refine wp_region_held_then (fun _ : World => True) _ (by kernel_rfl) rfl (by kernel_rfl) ?_
        have hHeld : (fun _ : World => True) wr.drew := trivial
        dsimp only [List.dropLast, List.length, List.getLast]
        ((refine takeL 0 (v := ?_) rfl (by kernel_rfl) (by kernel_rfl) (by kernel_rfl) (fun _ _ _ h => h) (by rfl) hHeld ?_ ?_; rotate_left; focus (intro w hSw; (try dsimp only at hSw); go_simp <;> with_reducible rfl); (try simp only [Act.put, List.setIfInBounds_toArray, List.set_cons_zero, List.set_cons_succ])); (refine takeL 1 (v := ?_) rfl (by kernel_rfl) (by kernel_rfl) (by kernel_rfl) (fun _ _ _ h => h) (by rfl) hHeld ?_ ?_; rotate_left; focus (intro w hSw; (try dsimp only at hSw); go_simp <;> with_reducible rfl); (try simp only [Act.put, List.setIfInBounds_toArray, List.set_cons_zero, List.set_cons_succ])); (refine takeL 2 (v := ?_) rfl (by kernel_rfl) (by kernel_rfl) (by kernel_rfl) (fun _ _ _ h => h) (by rfl) hHeld ?_ ?_; rotate_left; focus (intro w hSw; (try dsimp only at hSw); go_simp <;> with_reducible rfl); (try simp only [Act.put, List.setIfInBounds_toArray, List.set_cons_zero, List.set_cons_succ])); (refine takeL 3 (v := ?_) rfl (by kernel_rfl) (by kernel_rfl) (by kernel_rfl) (fun _ _ _ h => h) (by rfl) hHeld ?_ ?_; rotate_left; focus (intro w hSw; (try dsimp only at hSw); go_simp <;> with_reducible rfl); (try simp only [Act.put, List.setIfInBounds_toArray, List.set_cons_zero, List.set_cons_succ])); (refine takeL 4 (v := ?_) rfl (by kernel_rfl) (by kernel_rfl) (by kernel_rfl) (fun _ _ _ h => h) (by rfl) hHeld ?_ ?_; rotate_left; focus (intro w hSw; (try dsimp only at hSw); go_simp <;> with_reducible rfl); (try simp only [Act.put, List.setIfInBounds_toArray, List.set_cons_zero, List.set_cons_succ])); (refine takeL 5 (v := ?_) rfl (by kernel_rfl) (by kernel_rfl) (by kernel_rfl) (fun _ _ _ h => h) (by rfl) hHeld ?_ ?_; rotate_left; focus (intro w hSw; (try dsimp only at hSw); go_simp <;> with_reducible rfl); (try simp only [Act.put, List.setIfInBounds_toArray, List.set_cons_zero, List.set_cons_succ])))
        dsimp only [Act.put]
        simp only [List.setIfInBounds_toArray, List.set_cons_zero, List.set_cons_succ]
        refine stepL 6 (wr.drew.setCell ⟨w.heap.size + 1, k, none⟩ (.int .i64 x.toInt)) rfl (by kernel_rfl) (by rfl) (by go_simp) trivial ?_
        refine doneL (by kernel_rfl) ?_
        dsimp only [Act.put]
        unfold Oper.wp
        go_simp
        go_wp2_with fail
        go_roundg (5 - (k + 1))
        case measure => omega
        case rel =>
          obtain ⟨hx, hn⟩ := HX.out
          have hset := HB1.out.drew.set k (.int .i64 x.toInt)
          have hdl := HD.out
          subst hdl
          rw [arr5_set d x hk] at hset
          refine ⟨d.length + 1, u + n, d ++ [x], R.extract n R.size, by omega, by go_num, by simp, ?_, by simp, ?_, ?_, HB0.out.drew.other (by simp) _, hset, HBel.out.drew.setCell (p := ⟨w.heap.size + 1, d.length, none⟩) (by simp) _⟩
          · rw [HR.out, cut_rest, List.drop_drop]
          · have h1 := hbd.2
            rw [HR.out, strB_size, List.length_drop, HB.out] at h1
            omega
          · rw [← HF.out, show 5 - d.length = (5 - (d.length + 1)) + 1 by omega, tkF_ok HE.out, hx, hn]
      · have HE : Hid (readP b = none) := by
          show _ = _
          apply readP_none
          have h1 := HF.out
          rw [show 5 - k = (5 - (k + 1)) + 1 by omega, tkF_no e] at h1
          unfold tkF at h1
          cases h2 : tkN 5 b with
          | none => rfl
          | some q => rw [List.drop_zero, h2] at h1; cases h1
        rw [e] at c
        simp only at c
        rw [zag_zero] at c
        have z0 := hB0.cell 0 (.int .i64 0) rfl
        have z1 := hB0.cell 1 (.int .i64 0) rfl
        have z2 := hB0.cell 2 (.int .i64 0) rfl
        have z3 := hB0.cell 3 (.int .i64 0) rfl
        have z4 := hB0.cell 4 (.string { data := #[] }) rfl
        have y0 := hB0.frozen 0
        have y1 := hB0.frozen 1
        have y2 := hB0.frozen 2
        have y3 := hB0.frozen 3
        have y4 := hB0.frozen 4
        have F5 := box_five hB0 (.int .i64 0) (.int .i64 0) (.int .i64 0) (.int .i64 0) (.string { data := #[] })
        have hb3 := below_five hbel (Nat.le_refl _) (.int .i64 0) (.int .i64 0) (.int .i64 0) (.int .i64 0) (.string { data := #[] })
        have HA : Hid _ := (show Hid _ from F5)
        have HA3 : Hid _ := (show Hid _ from hb3)
        clear e F5 hb3 hB0 hB1 htk hdk hR hRz
        go_wp2_with fail
        refine c.mono ?_
        rintro e w2 ⟨rfl, hw2⟩
        replace hw2 := hw2.symm
        subst hw2
        go_wp2_with fail
        refine bodyPost_ret (res_box_slot Try.results49 _ rfl HA.out Try.underlying83 rfl size_part _ rfl) rfl ⟨.inr ⟨HE.out, rfl⟩, HA3.out⟩
    · have hkI : ¬ (k : Int) < 5 := by omega
      have hk5 : k = 5 := by omega
      subst hk5
      obtain ⟨a, n, x, y, z, rfl⟩ := five_of HD.out
      have HT5 : Hid (tkN 5 b = some ([a, n, x, y, z], u)) := by
        show _ = _
        have h1 := HF.out
        rw [show 5 - 5 = 0 from rfl, tkF_zero] at h1
        unfold tkF at h1
        cases h2 : tkN 5 b with
        | none => rw [List.drop_zero, h2] at h1; cases h1
        | some q =>
          rw [List.drop_zero, h2] at h1
          simp at h1
          rw [h1.1, h1.2]
      have l0 := hB1.cell 0 (.int .i64 a.toInt) rfl
      have l1 := hB1.cell 1 (.int .i64 n.toInt) rfl
      have l2 := hB1.cell 2 (.int .i64 x.toInt) rfl
      have l3 := hB1.cell 3 (.int .i64 y.toInt) rfl
      have l4 := hB1.cell 4 (.int .i64 z.toInt) rfl
      have z0 := hB0.cell 0 (.int .i64 0) rfl
      have z1 := hB0.cell 1 (.int .i64 0) rfl
      have z2 := hB0.cell 2 (.int .i64 0) rfl
      have z3 := hB0.cell 3 (.int .i64 0) rfl
      have z4 := hB0.cell 4 (.string { data := #[] }) rfl
      have y0 := hB0.frozen 0
      have y1 := hB0.frozen 1
      have y2 := hB0.frozen 2
      have y3 := hB0.frozen 3
      have y4 := hB0.frozen 4
      obtain ⟨m, hm⟩ : ∃ m, m = min 96 R.size := ⟨_, rfl⟩
      have hmin : min (96 : Int) (R.size : Int) = (m : Int) := by omega
      have hu2 : m ≤ 96 ∧ m ≤ 128 - u := by omega
      have hRs : (R.size : Int) ≤ 128 := by omega
      by_cases hall : 1 ≤ z.toInt ∧ z.toInt ≤ (m : Int)
      · obtain ⟨h1, h2⟩ := hall
        obtain ⟨k, hk5⟩ : ∃ k : Nat, z.toInt = (k : Int) := ⟨z.toInt.toNat, by omega⟩
        rw [hk5] at l4 h1 h2
        have hkz : 1 ≤ k ∧ k ≤ 96 ∧ u + k ≤ 128 := by omega
        have hcut : R.extract 0 k = strB ((b.drop u).take k) := by rw [HR.out, cut_head]
        obtain ⟨P, hP⟩ : ∃ P, P = R.extract 0 k := ⟨_, rfl⟩
        have HP : Hid (P = strB ((b.drop u).take k)) := by show _ = _; rw [hP, hcut]
        have hPe : R.extract 0 k = P := hP.symm
        have HK : Hid (z.toInt = (k : Int) ∧ 1 ≤ k ∧ k ≤ 96 ∧ u + k ≤ 128) := ⟨hk5, hkz⟩
        have hbd : 0 ≤ (k : Int) ∧ (k : Int) ≤ (R.size : Int) := by omega
        clear hk5 hkz hcut hP hm hu2 hR hRz htk hdk hB0 hB1 HF HD
        go_wp2_with fail
        refine wp_region_held_then (fun w' : World => w'.cell? ⟨w.heap.size + 1, 0, none⟩ = some (.int .i64 a.toInt) ∧ w'.cell? ⟨w.heap.size + 1, 1, none⟩ = some (.int .i64 n.toInt) ∧ w'.cell? ⟨w.heap.size + 1, 2, none⟩ = some (.int .i64 x.toInt) ∧ w'.cell? ⟨w.heap.size + 1, 3, none⟩ = some (.int .i64 y.toInt)) _ (by kernel_rfl) rfl (by kernel_rfl) ?_
        have hHeld : (fun w' : World => w'.cell? ⟨w.heap.size + 1, 0, none⟩ = some (.int .i64 a.toInt) ∧ w'.cell? ⟨w.heap.size + 1, 1, none⟩ = some (.int .i64 n.toInt) ∧ w'.cell? ⟨w.heap.size + 1, 2, none⟩ = some (.int .i64 x.toInt) ∧ w'.cell? ⟨w.heap.size + 1, 3, none⟩ = some (.int .i64 y.toInt)) wr.drew := ⟨l0, l1, l2, l3⟩
        dsimp only [List.dropLast, List.length, List.getLast]
        ((refine takeL 0 (v := ?_) rfl (by kernel_rfl) (by kernel_rfl) (by kernel_rfl) (fun _ _ _ h => h) (by rfl) hHeld ?_ ?_; rotate_left; focus (intro w hSw; (try dsimp only at hSw); go_simp <;> with_reducible rfl); (try simp only [Act.put, List.setIfInBounds_toArray, List.set_cons_zero, List.set_cons_succ])); (refine takeL 1 (v := ?_) rfl (by kernel_rfl) (by kernel_rfl) (by kernel_rfl) (fun _ _ _ h => h) (by rfl) hHeld ?_ ?_; rotate_left; focus (intro w hSw; (try dsimp only at hSw); go_simp <;> with_reducible rfl); (try simp only [Act.put, List.setIfInBounds_toArray, List.set_cons_zero, List.set_cons_succ])); (refine takeL 2 (v := ?_) rfl (by kernel_rfl) (by kernel_rfl) (by kernel_rfl) (fun _ _ _ h => h) (by rfl) hHeld ?_ ?_; rotate_left; focus (intro w hSw; (try dsimp only at hSw); go_simp <;> with_reducible rfl); (try simp only [Act.put, List.setIfInBounds_toArray, List.set_cons_zero, List.set_cons_succ])); (refine takeL 3 (v := ?_) rfl (by kernel_rfl) (by kernel_rfl) (by kernel_rfl) (fun _ _ _ h => h) (by rfl) hHeld ?_ ?_; rotate_left; focus (intro w hSw; (try dsimp only at hSw); go_simp <;> with_reducible rfl); (try simp only [Act.put, List.setIfInBounds_toArray, List.set_cons_zero, List.set_cons_succ])); (refine takeL 4 (v := ?_) rfl (by kernel_rfl) (by kernel_rfl) (by kernel_rfl) (fun _ _ _ h => h) (by rfl) hHeld ?_ ?_; rotate_left; focus (intro w hSw; (try dsimp only at hSw); go_simp <;> with_reducible rfl); (try simp only [Act.put, List.setIfInBounds_toArray, List.set_cons_zero, List.set_cons_succ])); (refine takeL 5 (v := ?_) rfl (by kernel_rfl) (by kernel_rfl) (by kernel_rfl) (fun _ _ _ h => h) (by rfl) hHeld ?_ ?_; rotate_left; focus (intro w hSw; (try dsimp only at hSw); go_simp <;> with_reducible rfl); (try simp only [Act.put, List.setIfInBounds_toArray, List.set_cons_zero, List.set_cons_succ])); (refine takeL 6 (v := ?_) rfl (by kernel_rfl) (by kernel_rfl) (by kernel_rfl) (fun _ _ _ h => h) (by rfl) hHeld ?_ ?_; rotate_left; focus (intro w hSw; (try dsimp only at hSw); go_simp <;> with_reducible rfl); (try simp only [Act.put, List.setIfInBounds_toArray, List.set_cons_zero, List.set_cons_succ])); (refine takeL 7 (v := ?_) rfl (by kernel_rfl) (by kernel_rfl) (by kernel_rfl) (fun _ _ _ h => h) (by rfl) hHeld ?_ ?_; rotate_left; focus (intro w hSw; (try dsimp only at hSw); go_simp <;> with_reducible rfl); (try simp only [Act.put, List.setIfInBounds_toArray, List.set_cons_zero, List.set_cons_succ])); (refine takeL 8 (v := ?_) rfl (by kernel_rfl) (by kernel_rfl) (by kernel_rfl) (fun _ _ _ h => h) (by rfl) hHeld ?_ ?_; rotate_left; focus (intro w hSw; (try dsimp only at hSw); go_simp <;> with_reducible rfl); (try simp only [Act.put, List.setIfInBounds_toArray, List.set_cons_zero, List.set_cons_succ])); (refine takeL 9 (v := ?_) rfl (by kernel_rfl) (by kernel_rfl) (by kernel_rfl) (fun _ _ _ h => h) (by rfl) hHeld ?_ ?_; rotate_left; focus (intro w hSw; (try dsimp only at hSw); go_simp <;> with_reducible rfl); (try simp only [Act.put, List.setIfInBounds_toArray, List.set_cons_zero, List.set_cons_succ])); (refine takeL 10 (v := ?_) rfl (by kernel_rfl) (by kernel_rfl) (by kernel_rfl) (fun _ _ _ h => h) (by rfl) hHeld ?_ ?_; rotate_left; focus (intro w hSw; (try dsimp only at hSw); go_simp <;> with_reducible rfl); (try simp only [Act.put, List.setIfInBounds_toArray, List.set_cons_zero, List.set_cons_succ])); (refine takeL 11 (v := ?_) rfl (by kernel_rfl) (by kernel_rfl) (by kernel_rfl) (fun _ _ _ h => h) (by rfl) hHeld ?_ ?_; rotate_left; focus (intro w hSw; (try dsimp only at hSw); go_simp <;> with_reducible rfl); (try simp only [Act.put, List.setIfInBounds_toArray, List.set_cons_zero, List.set_cons_succ])); (refine takeL 12 (v := ?_) rfl (by kernel_rfl) (by kernel_rfl) (by kernel_rfl) (fun _ _ _ h => h) (by rfl) hHeld ?_ ?_; rotate_left; focus (intro w hSw; (try dsimp only at hSw); go_simp <;> with_reducible rfl); (try simp only [Act.put, List.setIfInBounds_toArray, List.set_cons_zero, List.set_cons_succ])))
        dsimp only [Act.put]
        simp only [List.setIfInBounds_toArray, List.set_cons_zero, List.set_cons_succ]
        have A0 := HB0.out.drew.alloc (.cells #[.int .i64 0, .int .i64 0, .int .i64 0, .int .i64 0, .string { data := #[] }] 83)
        have A1 := HB1.out.drew.alloc (.cells #[.int .i64 0, .int .i64 0, .int .i64 0, .int .i64 0, .string { data := #[] }] 83)
        have A2 := box_new wr.drew #[.int .i64 0, .int .i64 0, .int .i64 0, .int .i64 0, .string { data := #[] }] 83
        have bA := HBel.out.drew.alloc HBel.out.drew.size (.cells #[.int .i64 0, .int .i64 0, .int .i64 0, .int .i64 0, .string { data := #[] }] 83)
        have hg0 : w.heap.size + 2 ≤ wr.drew.heap.size := by have := HB1.out.lt; show _ ≤ wr.heap.size; omega
        refine newL 13 (wr.drew.alloc (.cells #[.int .i64 0, .int .i64 0, .int .i64 0, .int .i64 0, .string { data := #[] }] 83)) (.pointer (some ⟨wr.drew.heap.size, 0, none⟩)) rfl (by kernel_rfl) (by rfl) (by go_simp) ⟨A1.cell 0 _ rfl, A1.cell 1 _ rfl, A1.cell 2 _ rfl, A1.cell 3 _ rfl⟩ ?_
        refine doneL (by kernel_rfl) ?_
        dsimp only [Act.put]
        unfold Oper.wp
        obtain ⟨g, hg⟩ : ∃ g, g = wr.drew.heap.size := ⟨_, rfl⟩
        obtain ⟨W, hW⟩ : ∃ W, W = wr.drew.alloc (.cells #[.int .i64 0, .int .i64 0, .int .i64 0, .int .i64 0, .string { data := #[] }] 83) := ⟨_, rfl⟩
        rw [← hW] at A0 A1 A2 bA ⊢
        rw [← hg] at A2 hg0 ⊢
        have q0 := A2.cell 0 (.int .i64 0) rfl
        have q1 := A2.cell 1 (.int .i64 0) rfl
        have q2 := A2.cell 2 (.int .i64 0) rfl
        have q3 := A2.cell 3 (.int .i64 0) rfl
        have q4 := A2.cell 4 (.string { data := #[] }) rfl
        have p0 := A2.frozen 0
        have p1 := A2.frozen 1
        have p2 := A2.frozen 2
        have p3 := A2.frozen 3
        have p4 := A2.frozen 4
        have G5 := box_five A2 (.int .i64 a.toInt) (.int .i64 n.toInt) (.int .i64 x.toInt) (.int .i64 y.toInt) (.string P)
        have C5 := other_five A0 (z := g) (by omega) (.int .i64 a.toInt) (.int .i64 n.toInt) (.int .i64 x.toInt) (.int .i64 y.toInt) (.string P)
        have b5 := below_five bA (z := g) (by omega) (.int .i64 a.toInt) (.int .i64 n.toInt) (.int .i64 x.toInt) (.int .i64 y.toInt) (.string P)
        clear hg hW l0 l1 l2 l3 l4 z0 z1 z2 z3 z4 y0 y1 y2 y3 y4 A0 A1 A2 bA HB0 HB1 HBel hbel
        go_simp
        obtain ⟨W2, hW2⟩ : ∃ W2, W2 = ((((W.setCell ⟨g, 0, none⟩ (.int .i64 a.toInt)).setCell ⟨g, 1, none⟩ (.int .i64 n.toInt)).setCell ⟨g, 2, none⟩ (.int .i64 x.toInt)).setCell ⟨g, 3, none⟩ (.int .i64 y.toInt)).setCell ⟨g, 4, none⟩ (.string P) := ⟨_, rfl⟩
        rw [← hW2] at G5 C5 b5 ⊢
        clear hW2 q0 q1 q2 q3 q4 p0 p1 p2 p3 p4
        have k0 := G5.cell 0 (.int .i64 a.toInt) rfl
        have k1 := G5.cell 1 (.int .i64 n.toInt) rfl
        have k2 := G5.cell 2 (.int .i64 x.toInt) rfl
        have k3 := G5.cell 3 (.int .i64 y.toInt) rfl
        have k4 := G5.cell 4 (.string P) rfl
        have z0 := C5.cell 0 (.int .i64 0) rfl
        have z1 := C5.cell 1 (.int .i64 0) rfl
        have z2 := C5.cell 2 (.int .i64 0) rfl
        have z3 := C5.cell 3 (.int .i64 0) rfl
        have z4 := C5.cell 4 (.string { data := #[] }) rfl
        have y0 := C5.frozen 0
        have y1 := C5.frozen 1
        have y2 := C5.frozen 2
        have y3 := C5.frozen 3
        have y4 := C5.frozen 4
        have cx := fun w => jbeside_any x.toInt w
        have cy := fun w => jbeside_any y.toInt w
        by_cases hx : 0 ≤ x.toInt ∧ x.toInt ≤ 86
        case' neg =>
          have HE : Hid (readP b = none) := readP_bad HB.out HT5.out (by omega)
          have hd : decide (0 ≤ x.toInt ∧ x.toInt ≤ 86) = false := by simpa using hx
          rw [hd] at cx
          have F5 := box_five C5 (.int .i64 0) (.int .i64 0) (.int .i64 0) (.int .i64 0) (.string { data := #[] })
          have hb3 := below_five b5 (Nat.le_refl _) (.int .i64 0) (.int .i64 0) (.int .i64 0) (.int .i64 0) (.string { data := #[] })
          have HA : Hid _ := (show Hid _ from F5)
          have HA3 : Hid _ := (show Hid _ from hb3)
          clear F5 hb3 C5 G5 b5 hx hd
          go_wp2_with fail
          refine (cx _).mono ?_
          rintro e w3 ⟨rfl, hw3⟩
          replace hw3 := hw3.symm
          subst hw3
          go_wp2_with fail
          refine bodyPost_ret (res_box_slot Try.results49 _ rfl HA.out Try.underlying83 rfl size_part _ rfl) rfl ⟨.inr ⟨HE.out, rfl⟩, HA3.out⟩
        by_cases hy : 0 ≤ y.toInt ∧ y.toInt ≤ 86
        case' neg =>
          have HE : Hid (readP b = none) := readP_bad HB.out HT5.out (by omega)
          have hd : decide (0 ≤ x.toInt ∧ x.toInt ≤ 86) = true := by simpa using hx
          have hd2 : decide (0 ≤ y.toInt ∧ y.toInt ≤ 86) = false := by simpa using hy
          rw [hd] at cx
          rw [hd2] at cy
          have F5 := box_five C5 (.int .i64 0) (.int .i64 0) (.int .i64 0) (.int .i64 0) (.string { data := #[] })
          have hb3 := below_five b5 (Nat.le_refl _) (.int .i64 0) (.int .i64 0) (.int .i64 0) (.int .i64 0) (.string { data := #[] })
          have HA : Hid _ := (show Hid _ from F5)
          have HA3 : Hid _ := (show Hid _ from hb3)
          clear F5 hb3 C5 G5 b5 hx hd hy hd2
          go_wp2_with fail
          refine (cx _).mono ?_
          rintro e w3 ⟨rfl, hw3⟩
          replace hw3 := hw3.symm
          subst hw3
          go_wp2_with fail
          refine (cy _).mono ?_
          rintro e w3 ⟨rfl, hw3⟩
          replace hw3 := hw3.symm
          subst hw3
          go_wp2_with fail
          refine bodyPost_ret (res_box_slot Try.results49 _ rfl HA.out Try.underlying83 rfl size_part _ rfl) rfl ⟨.inr ⟨HE.out, rfl⟩, HA3.out⟩
        obtain ⟨hk5, k1', k2', k3'⟩ := HK.out
        obtain ⟨hmay, hrd⟩ := take_good HB.out HT5.out hx.1 hx.2 hy.1 hy.2 hk5 k1' k2' k3'
        have cb := fun w => jblock_any ⟨a, n, x, y, (b.drop u).take k⟩ (Nat.le_trans (body_len hmay) (by omega)) w
        have hpv : pv ⟨a, n, x, y, (b.drop u).take k⟩ = #[.int .i64 a.toInt, .int .i64 n.toInt, .int .i64 x.toInt, .int .i64 y.toInt, .string P] := by rw [HP.out]; rfl
        rw [hpv] at cb
        have HPV : Hid (pv ⟨a, n, x, y, (b.drop u).take k⟩ = #[.int .i64 a.toInt, .int .i64 n.toInt, .int .i64 x.toInt, .int .i64 y.toInt, .string P]) := hpv
        have hd : decide (0 ≤ x.toInt ∧ x.toInt ≤ 86) = true := by simpa using hx
        have hd2 : decide (0 ≤ y.toInt ∧ y.toInt ≤ 86) = true := by simpa using hy
        rw [hd] at cx
        rw [hd2] at cy
        obtain ⟨Q, hQ⟩ : ∃ Q, Q = strB (partL ⟨a, n, x, y, (b.drop u).take k⟩) := ⟨_, rfl⟩
        have hq : (Q.toList == S.toList) = decide (partL ⟨a, n, x, y, (b.drop u).take k⟩ = b) := by
          rw [hQ, HS.out, strB_toList, strB_toList, Bool.eq_iff_iff]
          simp
        rw [← hQ] at cb
        have HG : Hid (Box W2 g 83 #[.int .i64 a.toInt, .int .i64 n.toInt, .int .i64 x.toInt, .int .i64 y.toInt, .string P] ∧ Box W2 w.heap.size 83 (pv noPt) ∧ Below w.heap.size w W2) := ⟨G5, C5, b5⟩
        by_cases hsame : partL ⟨a, n, x, y, (b.drop u).take k⟩ = b
        case' pos =>
          have hq2 : (Q.toList == S.toList) = true := by rw [hq]; simpa using hsame
          have HE : Hid (readP b = some ⟨a, n, x, y, (b.drop u).take k⟩) := by show _ = _; rw [hrd, if_pos hsame]
        case' neg =>
          have hq2 : (Q.toList == S.toList) = false := by rw [hq]; simpa using hsame
          have HE : Hid (readP b = none) := by show _ = _; rw [hrd, if_neg hsame]
        all_goals
          clear hq hsame hrd hpv hmay hQ hx hy hd hd2 hk5 k1' k2' k3' G5 C5 b5
          go_wp2_with fail
          refine (cx _).mono ?_
          rintro e w3 ⟨rfl, hw3⟩
          replace hw3 := hw3.symm
          subst hw3
          go_wp2_with fail
          refine (cy _).mono ?_
          rintro e w3 ⟨rfl, hw3⟩
          replace hw3 := hw3.symm
          subst hw3
          go_wp2_with fail
          refine (cb _).mono ?_
          rintro e w3 ⟨rfl, hb3⟩
          have D5 := HG.out.1.over hb3
          have E5 := HG.out.2.1.over hb3
          have b6 := HG.out.2.2.trans (hb3.mono HG.out.2.2.size)
          clear k0 k1 k2 k3 k4 z0 z1 z2 z3 z4 y0 y1 y2 y3 y4
          have z0 := E5.cell 0 (.int .i64 0) rfl
          have z1 := E5.cell 1 (.int .i64 0) rfl
          have z2 := E5.cell 2 (.int .i64 0) rfl
          have z3 := E5.cell 3 (.int .i64 0) rfl
          have z4 := E5.cell 4 (.string { data := #[] }) rfl
          have y0 := E5.frozen 0
          have y1 := E5.frozen 1
          have y2 := E5.frozen 2
          have y3 := E5.frozen 3
          have y4 := E5.frozen 4
          have k0 := D5.cell 0 (.int .i64 a.toInt) rfl
          have k1 := D5.cell 1 (.int .i64 n.toInt) rfl
          have k2 := D5.cell 2 (.int .i64 x.toInt) rfl
          have k3 := D5.cell 3 (.int .i64 y.toInt) rfl
          have k4 := D5.cell 4 (.string P) rfl
          go_wp2_with fail
        · have F5 := box_five E5 (.int .i64 0) (.int .i64 0) (.int .i64 0) (.int .i64 0) (.string { data := #[] })
          have hb4 := below_five b6 (Nat.le_refl _) (.int .i64 0) (.int .i64 0) (.int .i64 0) (.int .i64 0) (.string { data := #[] })
          exact bodyPost_ret (res_box_slot Try.results49 _ rfl F5 Try.underlying83 rfl size_part _ rfl) rfl ⟨.inr ⟨HE.out, rfl⟩, hb4⟩
        · have F5 := box_five E5 (.int .i64 a.toInt) (.int .i64 n.toInt) (.int .i64 x.toInt) (.int .i64 y.toInt) (.string P)
          have hb4 := below_five b6 (Nat.le_refl _) (.int .i64 a.toInt) (.int .i64 n.toInt) (.int .i64 x.toInt) (.int .i64 y.toInt) (.string P)
          refine bodyPost_ret (res_box_slot Try.results49 _ rfl F5 Try.underlying83 rfl size_part _ rfl) rfl ⟨.inl ⟨_, HE.out, ?_⟩, hb4⟩
          rw [HPV.out]
          rfl
      · have HE : Hid (readP b = none) := readP_bad HB.out HT5.out (by omega)
        have F5 := box_five hB0 (.int .i64 0) (.int .i64 0) (.int .i64 0) (.int .i64 0) (.string { data := #[] })
        have hb3 := below_five hbel (Nat.le_refl _) (.int .i64 0) (.int .i64 0) (.int .i64 0) (.int .i64 0) (.string { data := #[] })
        have HA : Hid _ := (show Hid _ from F5)
        have HA3 : Hid _ := (show Hid _ from hb3)
        have hw : z.toInt < 1 ∨ (1 ≤ z.toInt ∧ (m : Int) < z.toInt) := by omega
        clear F5 hb3 hB0 hB1 htk hdk hR hRz hall hm hu2
        rcases hw with h1 | ⟨h1, h2⟩
        all_goals
          go_wp2_with fail
          refine bodyPost_ret (res_box_slot Try.results49 _ rfl HA.out Try.underlying83 rfl size_part _ rfl) rfl ⟨.inr ⟨HE.out, rfl⟩, HA3.out⟩
end Go.Proofs.Ytgffplfpoopolaa
