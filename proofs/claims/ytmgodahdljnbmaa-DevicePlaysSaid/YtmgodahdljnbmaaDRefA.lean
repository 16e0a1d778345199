/-
  The contracts of peristyleref04's with, Put and New.
-/
import Derived.Test.YtmgodahdljnbmaaDRef
import Derived.Test.YtmgodahdljnbmaaSApp
import Derived.Test.YtmgodahdljnbmaaBox
namespace Go.Proofs.Ytmgodahdljnbmaa
open Go.RowKit

theorem info_str : (Try.prog.info? 9).map (fun i => (i.zero, i.size, i.bytes)) = some (some (.string { data := #[] }), 1, 16) := by kernel_rfl
theorem info_rw : (Try.prog.info? 67).map (fun i => (i.zero, i.size, i.bytes)) = some (some (.agg #[.int .i64 0, .string { data := #[] }]), 2, 24) := by kernel_rfl
theorem s1_one : ∀ (su : List (List UInt8)), ∀ r ∈ su.map s1, ∀ c ∈ r, c.oneCell' = true := by
  intro su r hr c hc
  obtain ⟨b, _, rfl⟩ := List.mem_map.1 hr
  simp [s1] at hc
  subst hc; rfl
theorem w2_one : ∀ (wt : List (Nat × List UInt8)), ∀ r ∈ wt.map w2, ∀ c ∈ r, c.oneCell' = true := by
  intro wt r hr c hc
  obtain ⟨b, _, rfl⟩ := List.mem_map.1 hr
  simp [w2] at hc
  rcases hc with rfl | rfl <;> rfl
theorem SRows.at_ {w : World} {a : Option Addr} {n c : Nat} {t : TypeId} {sz : Nat} {R : List (List Value)} (h : SRows w (.slice a n c) t sz R) {i : Nat} {r : List Value} (hr : R[i]? = some r) : ∃ g, a = some ⟨g, 0, none⟩ ∧ n = R.length ∧ w.rangeAt g (i * sz) r := by
  rcases h with ⟨_, rfl⟩ | ⟨g, cap, hv, _, _, hrows⟩
  · simp at hr
  · simp only [Value.slice.injEq] at hv
    obtain ⟨rfl, hn, rfl⟩ := hv
    exact ⟨g, rfl, hn, hrows.range hr⟩
/-- An element of one cell, turned. -/
theorem SRows.put1 {w : World} {g n c : Nat} {t : TypeId} {R : List (List Value)} (h : SRows w (.slice (some ⟨g, 0, none⟩) n c) t 1 R) {i : Nat} (hi : i < R.length) (v : Value) : SRows (w.setCell ⟨g, i, none⟩ v) (.slice (some ⟨g, 0, none⟩) n c) t 1 (R.set i [v]) := by
  rcases h with ⟨hv, _⟩ | ⟨g', cap, hv, h1, h2, hrows⟩
  · simp at hv
  · simp only [Value.slice.injEq, Option.some.injEq, Addr.mk.injEq, and_true] at hv
    obtain ⟨rfl, rfl, rfl⟩ := hv
    have := hrows.set (i := i) hi (r := [v]) rfl
    rw [Nat.mul_one] at this
    refine .inr ⟨g, c, by simp, by simpa using h1, h2, ?_⟩
    exact this
theorem SRows.there1 {w : World} {g n c : Nat} {t : TypeId} {R : List (List Value)} (h : SRows w (.slice (some ⟨g, 0, none⟩) n c) t 1 R) {i : Nat} (hi : i < R.length) : w.frozen? ⟨g, i, none⟩ = false := by
  rcases h with ⟨hv, _⟩ | ⟨g', cap, hv, h1, h2, hrows⟩
  · simp at hv
  · simp only [Value.slice.injEq, Option.some.injEq, Addr.mk.injEq, and_true] at hv
    obtain ⟨rfl, rfl, rfl⟩ := hv
    have := (hrows.there hi 0 (by omega)).2
    simpa using this
theorem range_at {w : World} {b o : Nat} {cs : List Value} (h : w.rangeAt b o cs) (j : Nat) (v : Value) (hj : cs[j]? = some v) : w.cell? ⟨b, o + j, none⟩ = some v := h j v hj

set_option maxHeartbeats 1000000 in
theorem with_any {w : World} {sa : Option Addr} {sc : Nat} {su : List (List UInt8)} (hr : SRows w (.slice sa su.length sc) 9 1 (su.map s1)) (k : Nat) (hk : k < su.length) (hl : su.length ≤ 4096) (b : List UInt8) :
    Calls Try.prog 37 #[.slice sa su.length sc, .int .i64 k, .string (strB b)] w fun e w' => (∃ va vc, e = .returned (.slice va su.length vc) ∧ SRows w' (.slice va su.length vc) 9 1 ((su.set k b).map s1) ∧ ∀ x, (Value.slice va su.length vc).ownBlock = some x → w.heap.size ≤ x) ∧ Below w.heap.size w w' := by
  obtain ⟨i0, hi0, hz0, hz1, hz2⟩ := info_parts info_str
  have hkI : (k : Int) < (su.length : Int) := by omega
  have hlm : ([] : List (List Value)).length + (su.map s1).length = su.length := by simp
  have hl6 : su.length ≤ 1000000 := by omega
  have hkm : k < (su.map s1).length := by simpa using hk
  obtain ⟨b0, hb0⟩ : ∃ b0, su[k]? = some b0 := ⟨_, List.getElem?_eq_getElem hk⟩
  have HS : Hid ((su.map s1)[k]? = some [.string (strB b0)]) := by show _ = _; rw [List.getElem?_map, hb0]; rfl
  have HL : Hid (([] : List (List Value)).length + (su.map s1).length = su.length) := hlm
  clear hlm hb0
  go_enter Try.func37, Try.ntmps37
  go_wp2_with (at_builtin; refine append_rows rfl (.tmp 8) (.tmp 9) 27 9 i0 _ 1 16 rfl Try.underlying27 hi0 hz0 hz1 hz2 rfl (by decide) (by decide) rfl rfl (srows_nil w _ _) hr (noOwn w.heap.size) (Nat.le_refl _) (s1_one su) su.length HL.out (su.map s1) rfl hl6 ?_; intro va vc w1 h1 h2 h3; obtain ⟨g, rfl, hnn, hra⟩ := h1.at_ HS.out; clear hnn; have hc := range_at hra 0 _ rfl; simp only [Nat.mul_one, Nat.add_zero] at hc; have hf := h1.there1 hkm; have hp := h1.put1 hkm (.string (strB b)); have hg := h2 g rfl; have H2 : Hid (∀ x, (Value.slice (some ⟨g, 0, none⟩) su.length vc).ownBlock = some x → w.heap.size ≤ x) := h2; clear h2 hra)
  go_ret
  refine ⟨⟨_, _, rfl, ?_, H2.out⟩, h3.setCell hg _⟩
  rw [List.map_set]
  exact hp
theorem size_rd : (Try.prog.info? 30).map (·.size) = some 4 := by kernel_rfl
/-- The document's device as cells. -/
abbrev rd (sa : Option Addr) (n sc : Nat) (wa : Option Addr) (m wc : Nat) (f : Int) (o : Bool) : Array Value := #[.slice sa n sc, .slice wa m wc, .int .i64 f, .bool o]
theorem rd_one (sa : Option Addr) (n sc : Nat) (wa : Option Addr) (m wc : Nat) (f : Int) (o : Bool) : (rd sa n sc wa m wc f o).all (·.oneCell') = true := by simp [Value.oneCell']

set_option maxHeartbeats 1000000 in
theorem put_bad (sa : Option Addr) (n sc : Nat) (wa : Option Addr) (m wc : Nat) (f : Int) (o : Bool) (at_ : Int) (str : ByteArray) (w : World) (h : ¬ ((0 ≤ at_ ∧ at_ < n) ∧ str.size = 128)) :
    Calls Try.prog 22 #[.agg #[.slice sa n sc, .slice wa m wc, .int .i64 f, .bool o], .int .i64 at_, .string str] w fun e w' => e = .returned (.tuple #[.agg #[.slice sa n sc, .slice wa m wc, .int .i64 f, .bool o], .int .i64 1]) ∧ Below w.heap.size w w' := by
  have ci := fun W => in_any sa n sc wa m wc f o at_ W
  have hone := rd_one sa n sc wa m wc f o
  by_cases h1 : 0 ≤ at_ ∧ at_ < n
  case' pos =>
    have hd : decide (0 ≤ at_ ∧ at_ < (n : Int)) = true := by simp [h1]
    have h8 : ((str.size : Int) == 128) = false := by
      have : ¬ str.size = 128 := fun e => h ⟨h1, e⟩
      simp; omega
  case' neg =>
    have hd : decide (0 ≤ at_ ∧ at_ < (n : Int)) = false := by simpa using h1
  all_goals
    rw [hd] at ci
    clear h h1 hd
    go_enter Try.func22, Try.ntmps22
    go_wp2_with fail
    refine (ci _).mono ?_
    rintro e w1 ⟨rfl, hb⟩
    obtain ⟨B0, B1, hB⟩ := two_box hb
    have F1 := B1.setRow (rd sa n sc wa m wc f o)
    clear ci hb
    go_wp2_with (first
      | (refine wpList_load_row rfl 30 _ rfl w.heap.size rfl 30 (rd sa n sc wa m wc f o) (0, 0) _ B0 Try.underlying30 rfl size_rd ?_)
      | (refine wpList_store_row rfl 30 _ _ rfl (w.heap.size + 1) (rd sa n sc wa m wc f o) rfl rfl 30 _ B1 size_rd rfl hone ?_))
    exact bodyPost_ret (res_box_slot Try.results22 _ rfl F1 Try.underlying30 rfl size_rd _ rfl) rfl ⟨rfl, below_setRow hB (by omega) _⟩

set_option maxHeartbeats 1000000 in
theorem put_off (sa : Option Addr) (n sc : Nat) (wa : Option Addr) (m wc : Nat) (s : St) (hz : -9223372036854775808 ≤ s.fuse ∧ s.fuse < 9223372036854775808) (k : Nat) (hk : k < n) (str : ByteArray) (h8 : str.size = 128) (hg : s.goes = false) (w : World) :
    Calls Try.prog 22 #[.agg #[.slice sa n sc, .slice wa m wc, .int .i64 s.fuse, .bool s.off], .int .i64 k, .string str] w fun e w' => e = .returned (.tuple #[.agg #[.slice sa n sc, .slice wa m wc, .int .i64 s.burnt.fuse, .bool s.burnt.off], .int .i64 40]) ∧ Below w.heap.size w w' := by
  have ci := fun W => in_any sa n sc wa m wc s.fuse s.off k W
  have cd := fun W => done_any sa n sc wa m wc s hz W
  rw [hg] at cd
  have hd : decide (0 ≤ (k : Int) ∧ (k : Int) < (n : Int)) = true := by simp; omega
  have h8' : ((str.size : Int) == 128) = true := by simp; omega
  rw [hd] at ci
  obtain ⟨f, hf⟩ : ∃ f, f = s.fuse := ⟨_, rfl⟩
  obtain ⟨o, ho⟩ : ∃ o, o = s.off := ⟨_, rfl⟩
  obtain ⟨f', hf'⟩ : ∃ f', f' = s.burnt.fuse := ⟨_, rfl⟩
  obtain ⟨o', ho'⟩ : ∃ o', o' = s.burnt.off := ⟨_, rfl⟩
  simp only [← hf, ← ho, ← hf', ← ho'] at ci cd ⊢
  clear hd hz hg hf ho hf' ho'
  have hone := rd_one sa n sc wa m wc f' o'
  go_enter Try.func22, Try.ntmps22
  go_wp2_with fail
  refine (ci _).mono ?_
  rintro e w1 ⟨rfl, hb⟩
  obtain ⟨B0, B1, hB⟩ := two_box hb
  clear ci hb
  go_wp2_with (refine wpList_load_row rfl 30 _ rfl w.heap.size rfl 30 (rd sa n sc wa m wc f o) (0, 0) _ B0 Try.underlying30 rfl size_rd ?_)
  refine (cd _).mono ?_
  rintro e w2' ⟨rfl, hb'⟩
  have B1a := (B1.over hb').alloc (.cells (rd sa n sc wa m wc f' o') 30)
  have F1 := B1a.setRow (rd sa n sc wa m wc f' o')
  have hB2 : Below w.heap.size w (w2'.alloc (.cells (rd sa n sc wa m wc f' o') 30)) := (hB.trans (hb'.mono hB.size)).alloc (Nat.le_trans hB.size hb'.size) _
  clear cd hb' B0 B1 hB
  go_wp2_with (refine wpList_store_row rfl 30 _ _ rfl (w.heap.size + 1) (rd sa n sc wa m wc f' o') rfl rfl 30 _ B1a size_rd rfl hone ?_)
  exact bodyPost_ret (res_box_slot Try.results22 _ rfl F1 Try.underlying30 rfl size_rd _ rfl) rfl ⟨rfl, below_setRow hB2 (by omega) _⟩

set_option maxHeartbeats 4000000 in
theorem put_on (sa : Option Addr) (n sc : Nat) (wa : Option Addr) (wc : Nat) (wt : List (Nat × List UInt8)) (s : St) (hz : -9223372036854775808 ≤ s.fuse ∧ s.fuse < 9223372036854775808) (k : Nat) (hk : k < n) (b : List UInt8) (h8 : b.length = 128) (hg : s.goes = true) (w : World)
    (hr : SRows w (.slice wa wt.length wc) 67 2 (wt.map w2)) (hl : wt.length < 900000) :
    Calls Try.prog 22 #[.agg #[.slice sa n sc, .slice wa wt.length wc, .int .i64 s.fuse, .bool s.off], .int .i64 k, .string (strB b)] w fun e w' => (∃ va vc, e = .returned (.tuple #[.agg #[.slice sa n sc, .slice va (wt.length + 1) vc, .int .i64 s.burnt.fuse, .bool s.burnt.off], .int .i64 0]) ∧ SRows w' (.slice va (wt.length + 1) vc) 67 2 ((wt ++ [(k, b)]).map w2) ∧ ∀ x, (Value.slice va (wt.length + 1) vc).ownBlock = some x → w.heap.size ≤ x) ∧ Below w.heap.size w w' := by
  obtain ⟨m, hm⟩ : ∃ m, m = wt.length := ⟨_, rfl⟩
  rw [← hm] at hr ⊢
  have ci := fun W => in_any sa n sc wa m wc s.fuse s.off k W
  have cd := fun W => done_any sa n sc wa m wc s hz W
  rw [hg] at cd
  have hd : decide (0 ≤ (k : Int) ∧ (k : Int) < (n : Int)) = true := by simp; omega
  have h8' : (((strB b).size : Int) == 128) = true := by rw [strB_size]; simp; omega
  rw [hd] at ci
  obtain ⟨f, hf⟩ : ∃ f, f = s.fuse := ⟨_, rfl⟩
  obtain ⟨o, ho⟩ : ∃ o, o = s.off := ⟨_, rfl⟩
  obtain ⟨f', hf'⟩ : ∃ f', f' = s.burnt.fuse := ⟨_, rfl⟩
  obtain ⟨o', ho'⟩ : ∃ o', o' = s.burnt.off := ⟨_, rfl⟩
  simp only [← hf, ← ho, ← hf', ← ho'] at ci cd ⊢
  obtain ⟨str, hstr⟩ : ∃ str, str = strB b := ⟨_, rfl⟩
  rw [← hstr] at h8' ⊢
  have HW : Hid (∀ W, Below w.heap.size w W → SRows W (.slice wa m wc) 67 2 (wt.map w2)) := fun W hb => hr.of_block fun k hk => hb.block k (hr.lt hk)
  obtain ⟨i0, hi0, hz0, hz1', hz2'⟩ := info_parts info_rw
  have HI : Hid (Try.prog.info? 67 = some i0 ∧ i0.zero = some (.agg #[.int .i64 0, .string { data := #[] }]) ∧ i0.size = 2 ∧ i0.bytes = 24) := ⟨hi0, hz0, hz1', hz2'⟩
  have HM : Hid (m = wt.length ∧ str = strB b) := ⟨hm, hstr⟩
  clear hd hz hg hf ho hf' ho' hstr hr hi0 hz0 hz1' hz2' h8
  have hl6 : m + 1 ≤ 1000000 := by omega
  have hl7 : m ≤ 1000000 := by omega
  clear hm hl
  go_enter Try.func22, Try.ntmps22
  go_wp2_with fail
  refine (ci _).mono ?_
  rintro e w1 ⟨rfl, hb⟩
  obtain ⟨B0, B1, hB⟩ := two_box hb
  clear ci hb
  go_wp2_with (refine wpList_load_row rfl 30 _ rfl w.heap.size rfl 30 (rd sa n sc wa m wc f o) (0, 0) _ B0 Try.underlying30 rfl size_rd ?_)
  refine (cd _).mono ?_
  rintro e W ⟨rfl, hb'⟩
  have B1a := (B1.over hb').alloc (.cells (rd sa n sc wa m wc f' o') 30)
  have hB2 : Below w.heap.size w (W.alloc (.cells (rd sa n sc wa m wc f' o') 30)) := (hB.trans (hb'.mono hB.size)).alloc (Nat.le_trans hB.size hb'.size) _
  have hlt : w.heap.size + 1 < W.heap.size := (B1.over hb').lt
  have B8 := box_new W (rd sa n sc wa m wc f' o') 30
  have HB : Hid (Below w.heap.size w (W.alloc (.cells (rd sa n sc wa m wc f' o') 30)) ∧ Box (W.alloc (.cells (rd sa n sc wa m wc f' o') 30)) (w.heap.size + 1) 30 (rd none 0 0 none 0 0 0 false) ∧ Box (W.alloc (.cells (rd sa n sc wa m wc f' o') 30)) W.heap.size 30 (rd sa n sc wa m wc f' o')) := ⟨hB2, B1a, B8⟩
  have hS := HW.out _ hB2
  clear cd hb' B0 B1 hB B1a hB2 B8
  go_wp2_with (first
    | (at_builtin; refine append_rows rfl (.tmp 29) (.tmp 31) 28 67 i0 _ 2 24 rfl Try.underlying28 HI.out.1 HI.out.2.1 HI.out.2.2.1 HI.out.2.2.2 rfl (by decide) (by decide) rfl rfl (srows_nil _ _ _) hS (noOwn (W.heap.size + 1)) (by simp) (w2_one wt) m ?hm (wt.map w2) rfl hl7 ?_; (case hm => rw [HM.out.1]; simp); intro va vc w3 h1 h2 h3; have HX : Hid (SRows w3 (.slice va m vc) 67 2 (wt.map w2) ∧ (∀ k, (Value.slice va m vc).ownBlock = some k → W.heap.size + 1 ≤ k) ∧ Below (W.heap.size + 1) (W.alloc (.cells (rd sa n sc wa m wc f' o') 30)) w3) := ⟨h1, h2, h3⟩; have hz3 : W.heap.size < w3.heap.size := (by have := h3.size; simp at this; omega); clear h1 h2 h3 hS)
    | (at_builtin; refine append_rows rfl (.tmp 33) (.tmp 37) 28 67 i0 _ 2 24 rfl Try.underlying28 HI.out.1 HI.out.2.1 HI.out.2.2.1 HI.out.2.2.2 rfl (by decide) (by decide) rfl rfl (HX.out.1.of_block (fun k hk => heap_alloc_old _ _ (HX.out.1.lt hk))) (srows_new w3 [.int .i64 k, .string str] 67 (sz := 2) rfl) HX.out.2.1 ?hB ?h1 (m + 1) ?hm ((wt ++ [(k, b)]).map w2) ?hR hl6 ?_; (case hB => simp; omega); (case h1 => intro r hr c hc; simp at hr; subst hr; simp at hc; rcases hc with rfl | rfl <;> rfl); (case hm => rw [HM.out.1]; simp); (case hR => rw [HM.out.2]; simp [w2]); intro va4 vc4 w4 h1 h2 h4; have BZ := ((HB.out.2.1.below HX.out.2.2 (by omega)).alloc (.cells #[.int .i64 k, .string str] 67)).below h4 (by omega); have BE := ((HB.out.2.2.below HX.out.2.2 (by omega)).alloc (.cells #[.int .i64 k, .string str] 67)).below h4 (by omega); have q1 := BE.cell 1 _ rfl; have q2 := BE.frozen 1; have BZ2 := BZ.other (a := ⟨W.heap.size, 1, none⟩) (by simp; omega) (.slice va4 (m + 1) vc4); have BE2 := BE.set 1 (.slice va4 (m + 1) vc4); replace BE2 : Box (w4.setCell ⟨W.heap.size, 1, none⟩ (.slice va4 (m + 1) vc4)) W.heap.size 30 (rd sa n sc va4 (m + 1) vc4 f' o') := BE2; have F1 := BZ2.setRow (rd sa n sc va4 (m + 1) vc4 f' o'); have HY : Hid (SRows w4 (.slice va4 (m + 1) vc4) 67 2 ((wt ++ [(k, b)]).map w2) ∧ (∀ k, (Value.slice va4 (m + 1) vc4).ownBlock = some k → W.heap.size + 1 ≤ k) ∧ Below (W.heap.size + 1) (w3.alloc (.cells #[.int .i64 k, .string str] 67)) w4) := ⟨h1, h2, h4⟩; have hone := rd_one sa n sc va4 (m + 1) vc4 f' o'; clear h1 h2 h4 BZ BE)
    | (refine wpList_load_row rfl 30 _ rfl W.heap.size rfl 30 (rd sa n sc va4 (m + 1) vc4 f' o') (0, 0) _ BE2 Try.underlying30 rfl size_rd ?_)
    | (refine wpList_store_row rfl 30 _ _ rfl (w.heap.size + 1) (rd sa n sc va4 (m + 1) vc4 f' o') rfl rfl 30 _ BZ2 size_rd rfl hone ?_))
  obtain ⟨h1, h2, h4⟩ := HY.out
  obtain ⟨_, _, h3⟩ := HX.out
  have e1 : Below w.heap.size w w4 := by
    have a1 := HB.out.1.trans (h3.mono (by omega))
    have a2 := a1.alloc a1.size (.cells #[.int .i64 k, .string str] 67)
    exact a2.trans (h4.mono (by omega))
  refine bodyPost_ret (res_box_slot Try.results22 _ rfl F1 Try.underlying30 rfl size_rd _ rfl) rfl ⟨⟨_, _, rfl, ?_, fun x hx => by have := h2 x hx; omega⟩, below_setRow (e1.setCell (by simp; omega) _) (by omega) _⟩
  refine h1.of_block fun x hx => ?_
  have := h2 x hx
  rw [setRow_other _ _ _ _ (by omega), heap_setCell_other _ _ _ _ (by simp; omega)]
end Go.Proofs.Ytmgodahdljnbmaa
