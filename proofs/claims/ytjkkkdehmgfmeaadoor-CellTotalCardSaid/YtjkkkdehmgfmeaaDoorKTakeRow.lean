/-
  The row that bytes begin with: the contract of package cell's Take.
-/
import Derived.Test.YtjkkkdehmgfmeaaDoorKTake
namespace Go.Proofs.YtjkkkdehmgfmeaaDoor
open Go.RowKit Leb

/-- So many cells, from a place on, behind those that are there. -/
def tkG : Nat → List UInt8 → Nat → List Cl → Option (List Cl × Nat)
  | 0, _, used, done => some (done, used)
  | g + 1, l, used, done => if (tkC (l.drop used)).2 = 0 then none else tkG g l (used + (tkC (l.drop used)).2) (done ++ [(tkC (l.drop used)).1])
/-- The row that bytes begin with, and how many it has. -/
def takeR : List UInt8 → Option (List Cl × Nat)
  | [] => none
  | k :: r => tkG k.toNat (k :: r) 1 []
theorem tkC_le (l : List UInt8) : (tkC l).2 ≤ l.length := by
  cases l with
  | nil => simp [tkC]
  | cons k r =>
    simp only [tkC]
    split
    · simp
    · split
      · split
        · rename_i h
          rcases tk_cases r with ⟨z, hz, e0⟩ | ⟨_, e0⟩
          · rw [e0]
            have := hz.length_le
            have h2 : (leb z.toNat).length = lenW z := rfl
            simp only [List.length_cons]
            omega
          · rw [e0] at h; simp at h
        · simp
      · split
        · cases r with
          | nil => simp
          | cons n q =>
            simp only
            split
            · simp only [List.length_cons]; omega
            · simp
        · simp
theorem takeR_some {l : List UInt8} (h : 0 < l.length) : takeR l = tkG (l.getD 0 0).toNat l 1 [] := by
  cases l with
  | nil => simp at h
  | cons k r => rfl
/-- A cell's cells. -/
abbrev cl3 (c : Cl) : List Value := [.int .i64 c.k, .int .i64 c.n, .string c.s]
theorem info_cell : (Tryd.prog.info? 23).map (fun i => (i.zero, i.size, i.bytes)) = some (some (.agg #[.int .i64 0, .int .i64 0, .string ⟨#[]⟩]), 3, 32) := by kernel_rfl
/-- What Take answers. -/
def TakeAns (w : World) (l : List UInt8) (e : Ending) (w' : World) : Prop :=
  Below w.heap.size w w' ∧ match takeR l with
    | none => e = .returned (.tuple #[.slice none 0 0, .int .i64 0, .int .i64 20])
    | some x => ∃ v, e = .returned (.tuple #[v, .int .i64 x.2, .int .i64 0]) ∧ RowIs w' v x.1
theorem belowOne {w1 : World} (B : Nat) (h : B ≤ w1.heap.size) (A : Obj) : Below B w1 (w1.alloc A) := (Below.refl _ _).alloc h _
theorem row_of_srows {w : World} {v : Value} {r : List Cl} (h : SRows w v 23 3 (r.map cl3)) : RowIs w v r := by
  rcases h with ⟨rfl, h0⟩ | ⟨g, cap, rfl, hc1, hc2, hrows⟩
  · have : r = [] := by simpa using h0
    subst this
    exact ⟨none, 0, rfl, fun h => absurd rfl h⟩
  · refine ⟨some ⟨g, 0, none⟩, cap, by rw [List.length_map], fun _ => ⟨g, 0, rfl, hrows.lt, fun i c hi => ?_⟩⟩
    have hr := hrows.range (i := i) (r := cl3 c) (by rw [List.getElem?_map, hi]; rfl)
    have h0 := hr 0 _ rfl
    have h1 := hr 1 _ rfl
    have h2 := hr 2 _ rfl
    rw [Nat.zero_add]
    exact ⟨h0, h1, h2⟩
theorem takeAns_none {w w' : World} {l : List UInt8} (h : takeR l = none) (hb : Below w.heap.size w w') : TakeAns w l (.returned (.tuple #[.slice none 0 0, .int .i64 0, .int .i64 20])) w' := by
  unfold TakeAns
  rw [h]
  exact ⟨hb, rfl⟩
theorem takeAns_some {w w' : World} {l : List UInt8} {r : List Cl} {m : Nat} {v : Value} (h : takeR l = some (r, m)) (hb : Below w.heap.size w w') (hv : RowIs w' v r) : TakeAns w l (.returned (.tuple #[v, .int .i64 m, .int .i64 0])) w' := by
  unfold TakeAns
  rw [h]
  exact ⟨hb, v, rfl, hv⟩
theorem srows_slice {w : World} {v : Value} {t : TypeId} {sz : Nat} {R : List (List Value)} (h : SRows w v t sz R) : ∃ a c, v = .slice a R.length c := by
  rcases h with ⟨rfl, rfl⟩ | ⟨g, cap, rfl, _⟩
  · exact ⟨none, 0, rfl⟩
  · exact ⟨_, _, rfl⟩

set_option maxRecDepth 4000 in
set_option maxHeartbeats 4000000 in
theorem takeRow_any (s : ByteArray) (hs : s.size ≤ maxLen) (w : World) :
    Calls Tryd.prog 19 #[.string s] w (TakeAns w s.data.toList) := by
  have hsm := hs
  unfold maxLen at hs
  cases he : s.toList.isEmpty with
  | true =>
    have HE : Hid (takeR s.data.toList = none) := by
      rw [List.isEmpty_iff, Lib.toList_data] at he
      unfold Hid; rw [he]; rfl
    go_enter Tryd.func19, Tryd.ntmps19
    go_wp2_with fail
    go_ret3
    exact takeAns_none HE.out (Below.refl _ _)
  | false =>
    have hpos : 0 < s.size := by
      rw [emp_size] at he
      have : s.size ≠ 0 := by simpa using he
      omega
    have hsl := Lib.size_eq s
    have htk : takeR s.data.toList = tkG s[0].toNat s.data.toList 1 [] := by
      rw [takeR_some (by omega), getD_data s 0 hpos]
    have hn256 : (s[0].toNat : Int) < 256 := by have := s[0].toNat_lt; omega
    obtain ⟨i0, hi0, hz0, hz1, hz2⟩ := info_parts info_cell
    have HI : Hid (Tryd.prog.info? 23 = some i0 ∧ i0.zero = some (.agg #[.int .i64 0, .int .i64 0, .string ⟨#[]⟩]) ∧ i0.size = 3 ∧ i0.bytes = 32) := ⟨hi0, hz0, hz1, hz2⟩
    have HT : Hid (takeR s.data.toList = tkG s[0].toNat s.data.toList 1 []) := htk
    have HS : Hid (s.size = s.data.toList.length) := hsl
    clear htk hi0 hz0 hz1 hz2 hsl
    go_enter Tryd.func19, Tryd.ntmps19
    go_wp2_with fail
    go_loopg [5, 6, 14] s[0].toNat (fun gg s5 s6 s14 wx => ∃ (i used : Nat) (done : List Cl), i + gg = s[0].toNat ∧ s14 = .int .i64 i ∧ s6 = .int .i64 used ∧ used ≤ s.size ∧ done.length = i ∧ Hid (takeR s.data.toList = tkG gg s.data.toList used done) ∧ Hid (SRows wx s5 23 3 (done.map cl3) ∧ ∀ k, s5.ownBlock = some k → w.heap.size ≤ k) ∧ Below w.heap.size w wx)
    case atStart => exact ⟨0, 1, [], by omega, rfl, rfl, by omega, rfl, HT, ⟨srows_nil _ _ _, noOwn _⟩, Below.refl _ _⟩
    case round =>
      obtain ⟨i, used, done, hig, rfl, rfl, hus, hdl, hF, hR, hb⟩ := hrel
      by_cases hi : i < s[0].toNat
      · have hiI : (i : Int) < (s[0].toNat : Int) := by omega
        obtain ⟨g, rfl⟩ : ∃ g, gk = g + 1 := ⟨gk - 1, by omega⟩
        have e1 := extract_drop s used
        have hx2 : (s.extract used s.size).size ≤ maxLen := by
          unfold maxLen; rw [Lib.size_eq, e1, List.length_drop, ← HS.out]; omega
        have tx : ∀ w, Calls Tryd.prog 35 #[.string (s.extract used s.size)] w fun e w' => e = .returned (.tuple #[cv (tkC (s.data.toList.drop used)).1, .int .i64 (tkC (s.data.toList.drop used)).2]) ∧ Below w.heap.size w w' := fun w => by
          have := takeC_any (s.extract used s.size) hx2 w
          rw [e1] at this
          exact this
        have hle := tkC_le (s.data.toList.drop used)
        rw [List.length_drop, ← HS.out] at hle
        have hF2 : takeR s.data.toList = if (tkC (s.data.toList.drop used)).2 = 0 then none else tkG g s.data.toList (used + (tkC (s.data.toList.drop used)).2) (done ++ [(tkC (s.data.toList.drop used)).1]) := hF.out
        obtain ⟨x, hx⟩ : ∃ x, x = tkC (s.data.toList.drop used) := ⟨_, rfl⟩
        rw [← hx] at tx hle hF2
        obtain ⟨c, m⟩ := x
        simp only at tx hle hF2
        have HF : Hid (takeR s.data.toList = if m = 0 then none else tkG g s.data.toList (used + m) (done ++ [c])) := hF2
        have hr2 : IntKind.i64.wrap ((i : Int) + 1) = (i : Int) + 1 := by rw [IntKind.wrap_i64]; omega
        have hr3 : IntKind.i64.wrap ((used : Int) + (m : Int)) = (used : Int) + (m : Int) := by rw [IntKind.wrap_i64]; omega
        have hu1 : (0 : Int) ≤ (used : Int) ∧ (used : Int) ≤ (s.size : Int) := by omega
        have hu2 : (used : Int) ≤ (s.size : Int) := by omega
        have hum : (used : Int) + (m : Int) ≤ (s.size : Int) := by omega
        have hsz := hb.size
        have HB : Hid (Below w.heap.size w wr) := hb
        clear e1 hx2 hF hF2 hx hb
        by_cases hm : m = 0
        · have HE : Hid (takeR s.data.toList = none) := by unfold Hid; rw [HF.out, if_pos hm]
          subst hm
          clear HF
          go_wp2_with (go_at_call 35; refine (tx _).mono ?_; rintro e w1 ⟨rfl, hb1⟩; have HB1 : Hid (Below w.heap.size w w1) := HB.out.trans (hb1.mono hsz); clear hb1)
          go_ret3
          exact takeAns_none HE.out (HB1.out.trans (belowOne _ HB1.out.size _))
        · have HE : Hid (takeR s.data.toList = tkG g s.data.toList (used + m) (done ++ [c])) := by unfold Hid; rw [HF.out, if_neg hm]
          have hmb : ((m : Int) == 0) = false := by simp; omega
          have hdl2 : done.length + 1 ≤ 1000000 := by omega
          clear HF hm
          obtain ⟨a5, c5, h5⟩ := srows_slice hR.out.1
          rw [List.length_map, hdl] at h5
          subst h5
          have hone : ∀ r ∈ [cl3 c], ∀ x ∈ r, x.oneCell' = true := by
            intro r hr x hx
            simp only [List.mem_singleton] at hr
            subst hr
            simp only [cl3, List.mem_cons, List.not_mem_nil, or_false] at hx
            rcases hx with rfl | rfl | rfl <;> rfl
          have HH : Hid (done.length = i ∧ (done.map cl3).length + [cl3 c].length = i + 1 ∧ done.map cl3 ++ [cl3 c] = (done ++ [c]).map cl3 ∧ i + 1 ≤ 1000000) := ⟨hdl, by simp [hdl], by simp, by omega⟩
          clear hdl hdl2
          go_wp2_with (first
            | (go_at_call 35; refine (tx _).mono ?_; rintro e w1 ⟨rfl, hb1⟩; have hW2 : Below wr.heap.size wr ((w1.alloc (.cells #[.int .i64 c.k, .int .i64 c.n, .string c.s] 23)).alloc (.cells #[.int .i64 c.k, .int .i64 c.n, .string c.s] 23)) := hb1.trans ((below2 _ _ _).mono hb1.size); have HV : Hid (SRows ((w1.alloc (.cells #[.int .i64 c.k, .int .i64 c.n, .string c.s] 23)).alloc (.cells #[.int .i64 c.k, .int .i64 c.n, .string c.s] 23)) (.slice a5 i c5) 23 3 (done.map cl3) ∧ SRows ((w1.alloc (.cells #[.int .i64 c.k, .int .i64 c.n, .string c.s] 23)).alloc (.cells #[.int .i64 c.k, .int .i64 c.n, .string c.s] 23)) (.slice (some ⟨w1.heap.size + 1, 0, none⟩) 1 1) 23 3 [cl3 c]) := ⟨hR.out.1.of_block (fun k hk => hW2.block k (hR.out.1.lt hk)), by have := srows_new (w1.alloc (.cells #[.int .i64 c.k, .int .i64 c.n, .string c.s] 23)) (cl3 c) 23 (sz := 3) rfl; rw [World.size_alloc] at this; exact this⟩; have HB2 : Hid (Below w.heap.size w ((w1.alloc (.cells #[.int .i64 c.k, .int .i64 c.n, .string c.s] 23)).alloc (.cells #[.int .i64 c.k, .int .i64 c.n, .string c.s] 23))) := HB.out.trans (hW2.mono hsz); clear hb1 hW2)
            | (at_builtin; refine append_rows rfl (.tmp 25) (.tmp 27) 32 23 i0 _ 3 32 rfl Tryd.underlying32 HI.out.1 HI.out.2.1 HI.out.2.2.1 HI.out.2.2.2 rfl (by decide) (by decide) rfl rfl HV.out.1 HV.out.2 hR.out.2 HB2.out.size hone (i + 1) HH.out.2.1 ((done ++ [c]).map cl3) HH.out.2.2.1 HH.out.2.2.2 ?_; intro va vc w4 h1 h2 h3; have H4 : Hid (SRows w4 (.slice va (i + 1) vc) 23 3 ((done ++ [c]).map cl3) ∧ ∀ k, (Value.slice va (i + 1) vc).ownBlock = some k → w.heap.size ≤ k) := ⟨h1, h2⟩; have HB4 : Hid (Below w.heap.size w w4) := HB2.out.trans h3; clear h1 h2 h3))
          go_roundg g
          case measure => omega
          case rel => exact ⟨i + 1, used + m, done ++ [c], by clear hr2 hr3; omega, by go_num, by go_num, by clear hr2 hr3; omega, by rw [List.length_append, HH.out.1]; rfl, HE, H4, HB4.out⟩
      · have hiI : ¬ (i : Int) < (s[0].toNat : Int) := by omega
        obtain rfl : gk = 0 := by omega
        have HE : Hid (takeR s.data.toList = some (done, used)) := hF
        have HB : Hid (Below w.heap.size w wr) := hb
        clear hF hb
        go_wp2_with fail
        go_ret3
        exact takeAns_some HE.out HB.out (row_of_srows hR.out.1)
end Go.Proofs.YtjkkkdehmgfmeaaDoor
