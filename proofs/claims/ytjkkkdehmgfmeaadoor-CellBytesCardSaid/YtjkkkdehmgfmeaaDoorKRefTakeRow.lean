/-
  The contract of the document's Take.
-/
import Derived.Test.YtjkkkdehmgfmeaaDoorKTakeRow
import Derived.Test.YtjkkkdehmgfmeaaDoorKRefTake
namespace Go.Proofs.YtjkkkdehmgfmeaaDoor
open Go.RowKit Leb

set_option maxRecDepth 4000 in
set_option maxHeartbeats 4000000 in
theorem refTakeRow_any (s : ByteArray) (hs : s.size ≤ maxLen) (w : World) :
    Calls Tryd.prog 20 #[.string s] w (TakeAns w s.data.toList) := by
  have hsm := hs
  unfold maxLen at hs
  cases he : s.toList.isEmpty with
  | true =>
    have HE : Hid (takeR s.data.toList = none) := by
      rw [List.isEmpty_iff, Lib.toList_data] at he
      unfold Hid; rw [he]; rfl
    go_enter Tryd.func20, Tryd.ntmps20
    go_wp2_with fail
    go_ret3
    exact takeAns_none HE.out (Below.refl _ _)
  | false =>
    have hpos : 0 < s.size := by
      rw [emp_size] at he
      have : s.size ≠ 0 := by simpa using he
      omega
    have hsl := Lib.size_eq s
    have htk : takeR s.data.toList = tkG s[0].toNat s.data.toList 1 [] := by
      rw [takeR_some (by omega), getD_data s 0 hpos]
    have hn256 : (s[0].toNat : Int) < 256 := by have := s[0].toNat_lt; omega
    obtain ⟨i0, hi0, hz0, hz1, hz2⟩ := info_parts info_cell
    have HI : Hid (Tryd.prog.info? 23 = some i0 ∧ i0.zero = some (.agg #[.int .i64 0, .int .i64 0, .string ⟨#[]⟩]) ∧ i0.size = 3 ∧ i0.bytes = 32) := ⟨hi0, hz0, hz1, hz2⟩
    have HT : Hid (takeR s.data.toList = tkG s[0].toNat s.data.toList 1 []) := htk
    have HS : Hid (s.size = s.data.toList.length) := hsl
    clear htk hi0 hz0 hz1 hz2 hsl
    go_enter Tryd.func20, Tryd.ntmps20
    go_wp2_with fail
    go_loopg [5, 6, 7] s[0].toNat (fun gg s6 s5 s14 wx => ∃ (i used : Nat) (done : List Cl), i + gg = s[0].toNat ∧ s14 = .int .i64 i ∧ s6 = .int .i64 used ∧ used ≤ s.size ∧ done.length = i ∧ Hid (takeR s.data.toList = tkG gg s.data.toList used done) ∧ Hid (SRows wx s5 23 3 (done.map cl3) ∧ ∀ k, s5.ownBlock = some k → w.heap.size ≤ k) ∧ Below w.heap.size w wx)
    case atStart => exact ⟨0, 1, [], by omega, rfl, rfl, by omega, rfl, HT, ⟨srows_nil _ _ _, noOwn _⟩, Below.refl _ _⟩
    case round =>
      obtain ⟨i, used, done, hig, rfl, rfl, hus, hdl, hF, hR, hb⟩ := hrel
      by_cases hi : i < s[0].toNat
      · have hiI : (i : Int) < (s[0].toNat : Int) := by omega
        obtain ⟨g, rfl⟩ : ∃ g, gk = g + 1 := ⟨gk - 1, by omega⟩
        have e1 := extract_drop s used
        have hx2 : (s.extract used s.size).size ≤ maxLen := by
          unfold maxLen; rw [Lib.size_eq, e1, List.length_drop, ← HS.out]; omega
        have tx : ∀ w, Calls Tryd.prog 36 #[.string (s.extract used s.size)] w fun e w' => e = .returned (.tuple #[cv (tkC (s.data.toList.drop used)).1, .int .i64 (tkC (s.data.toList.drop used)).2]) ∧ Below w.heap.size w w' := fun w => by
          have := refOne_any (s.extract used s.size) hx2 w
          rw [e1] at this
          exact this
        have hle := tkC_le (s.data.toList.drop used)
        rw [List.length_drop, ← HS.out] at hle
        have hF2 : takeR s.data.toList = if (tkC (s.data.toList.drop used)).2 = 0 then none else tkG g s.data.toList (used + (tkC (s.data.toList.drop used)).2) (done ++ [(tkC (s.data.toList.drop used)).1]) := hF.out
        obtain ⟨x, hx⟩ : ∃ x, x = tkC (s.data.toList.drop used) := ⟨_, rfl⟩
        rw [← hx] at tx hle hF2
        obtain ⟨c, m⟩ := x
        simp only at tx hle hF2
        have HF : Hid (takeR s.data.toList = if m = 0 then none else tkG g s.data.toList (used + m) (done ++ [c])) := hF2
        have hr2 : IntKind.i64.wrap ((i : Int) + 1) = (i : Int) + 1 := by rw [IntKind.wrap_i64]; omega
        have hr3 : IntKind.i64.wrap ((used : Int) + (m : Int)) = (used : Int) + (m : Int) := by rw [IntKind.wrap_i64]; omega
        have hu1 : (0 : Int) ≤ (used : Int) ∧ (used : Int) ≤ (s.size : Int) := by omega
        have hu2 : (used : Int) ≤ (s.size : Int) := by omega
        have hum : (used : Int) + (m : Int) ≤ (s.size : Int) := by omega
        have hsz := hb.size
        have HB : Hid (Below w.heap.size w wr) := hb
        clear e1 hx2 hF hF2 hx hb
        by_cases hm : m = 0
        · have HE : Hid (takeR s.data.toList = none) := by unfold Hid; rw [HF.out, if_pos hm]
          subst hm
          clear HF
          go_wp2_with (go_at_call 36; refine (tx _).mono ?_; rintro e w1 ⟨rfl, hb1⟩; have HB1 : Hid (Below w.heap.size w w1) := HB.out.trans (hb1.mono hsz); clear hb1)
          go_ret3
          exact takeAns_none HE.out (HB1.out.trans (belowOne _ HB1.out.size _))
        · have HE : Hid (takeR s.data.toList = tkG g s.data.toList (used + m) (done ++ [c])) := by unfold Hid; rw [HF.out, if_neg hm]
          have hmb : ((m : Int) == 0) = false := by simp; omega
          have hdl2 : done.length + 1 ≤ 1000000 := by omega
          clear HF hm
          obtain ⟨a5, c5, h5⟩ := srows_slice hR.out.1
          rw [List.length_map, hdl] at h5
          subst h5
          have hone : ∀ r ∈ [cl3 c], ∀ x ∈ r, x.oneCell' = true := by
            intro r hr x hx
            simp only [List.mem_singleton] at hr
            subst hr
            simp only [cl3, List.mem_cons, List.not_mem_nil, or_false] at hx
            rcases hx with rfl | rfl | rfl <;> rfl
          have HH : Hid (done.length = i ∧ (done.map cl3).length + [cl3 c].length = i + 1 ∧ done.map cl3 ++ [cl3 c] = (done ++ [c]).map cl3 ∧ i + 1 ≤ 1000000) := ⟨hdl, by simp [hdl], by simp, by omega⟩
          clear hdl hdl2
          go_wp2_with (first
            | (go_at_call 36; refine (tx _).mono ?_; rintro e w1 ⟨rfl, hb1⟩; have hW2 : Below wr.heap.size wr ((w1.alloc (.cells #[.int .i64 c.k, .int .i64 c.n, .string c.s] 23)).alloc (.cells #[.int .i64 c.k, .int .i64 c.n, .string c.s] 23)) := hb1.trans ((below2 _ _ _).mono hb1.size); have HV : Hid (SRows ((w1.alloc (.cells #[.int .i64 c.k, .int .i64 c.n, .string c.s] 23)).alloc (.cells #[.int .i64 c.k, .int .i64 c.n, .string c.s] 23)) (.slice a5 i c5) 23 3 (done.map cl3) ∧ SRows ((w1.alloc (.cells #[.int .i64 c.k, .int .i64 c.n, .string c.s] 23)).alloc (.cells #[.int .i64 c.k, .int .i64 c.n, .string c.s] 23)) (.slice (some ⟨w1.heap.size + 1, 0, none⟩) 1 1) 23 3 [cl3 c]) := ⟨hR.out.1.of_block (fun k hk => hW2.block k (hR.out.1.lt hk)), by have := srows_new (w1.alloc (.cells #[.int .i64 c.k, .int .i64 c.n, .string c.s] 23)) (cl3 c) 23 (sz := 3) rfl; rw [World.size_alloc] at this; exact this⟩; have HB2 : Hid (Below w.heap.size w ((w1.alloc (.cells #[.int .i64 c.k, .int .i64 c.n, .string c.s] 23)).alloc (.cells #[.int .i64 c.k, .int .i64 c.n, .string c.s] 23))) := HB.out.trans (hW2.mono hsz); clear hb1 hW2)
            | (at_builtin; refine append_rows rfl (.tmp 28) (.tmp 30) 32 23 i0 _ 3 32 rfl Tryd.underlying32 HI.out.1 HI.out.2.1 HI.out.2.2.1 HI.out.2.2.2 rfl (by decide) (by decide) rfl rfl HV.out.1 HV.out.2 hR.out.2 HB2.out.size hone (i + 1) HH.out.2.1 ((done ++ [c]).map cl3) HH.out.2.2.1 HH.out.2.2.2 ?_; intro va vc w4 h1 h2 h3; have H4 : Hid (SRows w4 (.slice va (i + 1) vc) 23 3 ((done ++ [c]).map cl3) ∧ ∀ k, (Value.slice va (i + 1) vc).ownBlock = some k → w.heap.size ≤ k) := ⟨h1, h2⟩; have HB4 : Hid (Below w.heap.size w w4) := HB2.out.trans h3; clear h1 h2 h3))
          go_roundg g
          case measure => omega
          case rel => exact ⟨i + 1, used + m, done ++ [c], by clear hr2 hr3; omega, by go_num, by go_num, by clear hr2 hr3; omega, by rw [List.length_append, HH.out.1]; rfl, HE, H4, HB4.out⟩
      · have hiI : ¬ (i : Int) < (s[0].toNat : Int) := by omega
        obtain rfl : gk = 0 := by omega
        have HE : Hid (takeR s.data.toList = some (done, used)) := hF
        have HB : Hid (Below w.heap.size w wr) := hb
        clear hF hb
        go_wp2_with fail
        go_ret3
        exact takeAns_some HE.out HB.out (row_of_srows hR.out.1)
end Go.Proofs.YtjkkkdehmgfmeaaDoor
