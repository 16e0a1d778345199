/-
  The contracts of peristyleref05's all, set, Take, Free and Left.
-/
import Derived.Test.YtjnobdgigeejnaaERefA
namespace Go.Proofs.Ytjnobdgigeejnaa
open Go.RowKit

/-- Are all of them so? -/
def AllAre (tk : Nat → Bool) (a c : Nat) (v : Bool) : Prop := ∀ j, j < c → tk (a + j) = v

set_option maxRecDepth 4000 in
set_option maxHeartbeats 4000000 in
theorem all_any {w : World} {b c n : Nat} {tk : Nat → Bool} (M : RefM w b c n tk) (hn : n ≤ 4096) (a d : Nat) (had : a + d ≤ n) (v : Bool) :
    Calls Try.prog 30 #[.slice (some ⟨b, 0, none⟩) n c, .agg #[.int .i64 a, .int .i64 d], .bool v] w fun e w' => (e = .returned (.bool true) ∧ AllAre tk a d v ∨ e = .returned (.bool false) ∧ ¬ AllAre tk a d v) ∧ Below w.heap.size w w' := by
  obtain ⟨W, hW⟩ : ∃ W, W = w.alloc (.cells #[.int .i64 (a : Int), .int .i64 (d : Int)] 32) := ⟨_, rfl⟩
  have hb : Below w.heap.size w W := by rw [hW]; exact below1 w _
  have B0 : Box W w.heap.size 32 #[.int .i64 (a : Int), .int .i64 (d : Int)] := by rw [hW]; exact box_new w _ _
  have HM : Hid (RefM W b c n tk ∧ Below w.heap.size w W ∧ Box W w.heap.size 32 #[.int .i64 (a : Int), .int .i64 (d : Int)] ∧ a + d ≤ n ∧ n ≤ 4096) := ⟨M.over hb, hb, B0, had, hn⟩
  clear M hb B0 had hn
  go_enter Try.func30, Try.ntmps30
  go_wp2_with fail
  rw [← hW]
  clear hW
  obtain ⟨xb, hxb⟩ : ∃ xb, xb = w.heap.size := ⟨_, rfl⟩
  have x0 := HM.out.2.2.1.cell 0 _ rfl
  have x1 := HM.out.2.2.1.cell 1 _ rfl
  rw [← hxb] at x0 x1 ⊢
  clear hxb
  go_loopg [7] d (fun gg s7 wx => ∃ j : Nat, j + gg = d ∧ s7 = .int .i64 j ∧ AllAre tk a j v ∧ wx = W)
  case atStart => exact ⟨0, by omega, rfl, fun j hj => by omega, rfl⟩
  case round =>
    obtain ⟨j, hjg, rfl, hall, rfl⟩ := hrel
    have HA : Hid (AllAre tk a j v) := hall
    clear hall
    by_cases hj : j < d
    · have hjI : (j : Int) < (d : Int) := by omega
      have hadn := HM.out.2.2.2
      have hwa : IntKind.i64.wrap ((a : Int) + (j : Int)) = (a : Int) + (j : Int) := by rw [IntKind.wrap_i64]; omega
      have hb0 : (0 : Int) ≤ (a : Int) + (j : Int) := by clear hwa; omega
      have hb1 : (a : Int) + (j : Int) < (n : Int) := by clear hwa; omega
      have htn : ((a : Int) + (j : Int)).toNat = a + j := by clear hwa; omega
      have hrj : IntKind.i64.wrap ((j : Int) + 1) = (j : Int) + 1 := by rw [IntKind.wrap_i64]; clear hwa; omega
      have t0 := HM.out.1.cell (a + j) (by clear hwa hrj; omega)
      obtain ⟨y, hy⟩ : ∃ y, y = tk (a + j) := ⟨_, rfl⟩
      rw [← hy] at t0
      have HY : Hid (y = tk (a + j)) := hy
      clear hy hadn
      by_cases hyv : y = v
      · subst hyv
        go_wp2_with fail
        go_roundg (d - (j + 1))
        case measure => clear hwa hrj; omega
        case rel =>
          refine ⟨j + 1, by clear hwa hrj; omega, by go_num, fun i hi => ?_, rfl⟩
          by_cases e : i = j
          · subst e; exact HY.out.symm
          · exact HA.out i (by clear hwa hrj; omega)
      · have hne : (y == v) = false := by cases y <;> cases v <;> simp_all
        have HV : Hid (y ≠ v) := hyv
        clear hyv
        go_wp2_with fail
        go_ret
        exact ⟨.inr ⟨rfl, fun h => HV.out (HY.out.trans (h j hj))⟩, HM.out.2.1⟩
    · have hjI : ¬ (j : Int) < (d : Int) := by omega
      obtain rfl : j = d := by omega
      go_wp2_with fail
      go_ret
      exact ⟨.inl ⟨rfl, HA.out⟩, HM.out.2.1⟩

set_option maxRecDepth 4000 in
set_option maxHeartbeats 4000000 in
theorem set_any {w : World} {b c n : Nat} {tk : Nat → Bool} (M : RefM w b c n tk) (hn1 : 1 ≤ n) (hn : n ≤ 4096) (a d : Nat) (had : a + d ≤ n) (v : Bool) :
    Calls Try.prog 31 #[.slice (some ⟨b, 0, none⟩) n c, .agg #[.int .i64 a, .int .i64 d], .bool v] w fun e w' => (∃ b' c', e = .returned (.slice (some ⟨b', 0, none⟩) n c') ∧ RefM w' b' c' n (setTo tk a d v) ∧ w.heap.size ≤ b') ∧ Below w.heap.size w w' := by
  obtain ⟨W, hW⟩ : ∃ W, W = w.alloc (.cells #[.int .i64 (a : Int), .int .i64 (d : Int)] 32) := ⟨_, rfl⟩
  have hb : Below w.heap.size w W := by rw [hW]; exact below1 w _
  have B0 : Box W w.heap.size 32 #[.int .i64 (a : Int), .int .i64 (d : Int)] := by rw [hW]; exact box_new w _ _
  have hM := M.over hb
  obtain ⟨i0, hi0, hz0, hz1, hz2⟩ := info_parts info_bool
  have HI : Hid (Try.prog.info? 4 = some i0 ∧ i0.zero = some (.bool false) ∧ i0.size = 1 ∧ i0.bytes = 1) := ⟨hi0, hz0, hz1, hz2⟩
  have HM : Hid (RefM W b c n tk ∧ Below w.heap.size w W ∧ Box W w.heap.size 32 #[.int .i64 (a : Int), .int .i64 (d : Int)] ∧ a + d ≤ n ∧ n ≤ 4096) := ⟨hM, hb, B0, had, hn⟩
  have HN1 : Hid (∀ (j : Nat) u, (bl tk n).flatten[j]? = some u → W.cell? ((⟨b, 0, none⟩ : Addr).add j) = some u) := by
    have h := hM.rows.read (p := 0) (X := bl tk n) (by decide) (fun k r hk => by rw [Nat.zero_add]; exact hk) (bl_lens _ _)
    rw [Nat.zero_mul] at h
    exact h
  have HA : Hid (([] : List (List Value)).length + n = n ∧ [] ++ bl tk n = bl tk n ∧ n ≤ 1000000) := ⟨by simp, rfl, by omega⟩
  have HP : Hid (1 ≤ n) := hn1
  clear M hb B0 had hn hM hi0 hz0 hz1 hz2 hn1
  go_enter Try.func31, Try.ntmps31
  subst hW
  go_wp2_with (at_builtin; refine append_any rfl _ _ 28 4 i0 _ 1 1 rfl Try.underlying28 HI.out.1 HI.out.2.1 HI.out.2.2.1 HI.out.2.2.2 rfl (by decide) (by decide) rfl rfl (srows_nil _ 4 1) (bl_len tk n) (bl_lens _ _) HN1.out (bl_one _ _) n HA.out.1 (bl tk n) HA.out.2.1 HA.out.2.2 ?_; intro va vc w2 s1 s2 s3)
  obtain ⟨W, hW⟩ : ∃ W, W = w.alloc (.cells #[.int .i64 (a : Int), .int .i64 (d : Int)] 32) := ⟨_, rfl⟩
  rw [← hW] at HM HN1 s2 s3
  clear hW
  have hno : ∀ y, ¬ (Value.slice none 0 0).ownBlock = some y := fun y h => by simp [Value.ownBlock] at h
  obtain ⟨b', c', hvv, hM2, hb'⟩ : ∃ b' c', (Value.slice va n vc : Value) = .slice (some ⟨b', 0, none⟩) n c' ∧ RefM w2 b' c' n tk ∧ W.heap.size ≤ b' := by
    rcases s1.out with ⟨_, h⟩ | ⟨g, cap, h, h1, h2, h3⟩
    · have := congrArg List.length h
      rw [bl_len] at this
      have := HP.out
      simp at *
      omega
    · rw [bl_len] at h h1
      refine ⟨g, cap, h, ⟨h3, h1, h2⟩, ?_⟩
      rcases s2.out g (by rw [h]; rfl) with h' | h'
      · exact absurd h' (hno g)
      · exact h'
  simp only [Value.slice.injEq, true_and] at hvv
  obtain ⟨rfl, rfl⟩ := hvv
  have bk : Below W.heap.size W w2 := s3.out.below (fun y hy => absurd hy (hno y)) (Nat.le_refl _)
  obtain ⟨xb, hxb⟩ : ∃ xb, xb = w.heap.size := ⟨_, rfl⟩
  have X2 := HM.out.2.2.1.over bk
  have hxlt := HM.out.2.2.1.lt
  rw [← hxb] at X2 hxlt
  have HS : Hid (RefM w2 b' vc n tk ∧ Box w2 xb 32 #[.int .i64 (a : Int), .int .i64 (d : Int)] ∧ Below w.heap.size w w2 ∧ xb ≠ b' ∧ w.heap.size ≤ b') := ⟨hM2, X2, HM.out.2.1.trans (bk.mono HM.out.2.1.size), by omega, by have := HM.out.2.1.size; omega⟩
  have hbb : Below W.heap.size W w2 := bk
  rw [← hxb]
  clear hM2 X2 bk hb' hxlt hxb s1 s2 s3 hbb HN1
  go_loopg [8] d (fun gg s8 wx => ∃ j : Nat, j + gg = d ∧ s8 = .int .i64 j ∧ RefM wx b' vc n (setTo tk a j v) ∧ Box wx xb 32 #[.int .i64 (a : Int), .int .i64 (d : Int)] ∧ Below w.heap.size w wx)
  case atStart => exact ⟨0, by omega, rfl, by rw [setTo_zero]; exact HS.out.1, HS.out.2.1, HS.out.2.2.1⟩
  case round =>
    obtain ⟨j, hjg, rfl, M4, X4, b4⟩ := hrel
    have q0 := X4.cell 0 _ rfl
    have q1 := X4.cell 1 _ rfl
    by_cases hj : j < d
    · have hjI : (j : Int) < (d : Int) := by omega
      have hadn := HM.out.2.2.2
      have hwa : IntKind.i64.wrap ((a : Int) + (j : Int)) = (a : Int) + (j : Int) := by rw [IntKind.wrap_i64]; omega
      have hb0 : (0 : Int) ≤ (a : Int) + (j : Int) := by clear hwa; omega
      have hb1 : (a : Int) + (j : Int) < (n : Int) := by clear hwa; omega
      have htn : ((a : Int) + (j : Int)).toNat = a + j := by clear hwa; omega
      have hrj : IntKind.i64.wrap ((j : Int) + 1) = (j : Int) + 1 := by rw [IntKind.wrap_i64]; clear hwa; omega
      have t0 := M4.cell (a + j) (by clear hwa hrj; omega)
      have t1 := M4.frozen (a + j)
      have M5 := M4.set (a + j) v (by clear hwa hrj; omega)
      rw [setTo_step] at M5
      have X5 := X4.other (a := ⟨b', a + j, none⟩) HS.out.2.2.2.1 (.bool v)
      have HK5 : Hid (RefM (wr.setCell ⟨b', a + j, none⟩ (.bool v)) b' vc n (setTo tk a (j + 1) v) ∧ Box (wr.setCell ⟨b', a + j, none⟩ (.bool v)) xb 32 #[.int .i64 (a : Int), .int .i64 (d : Int)] ∧ Below w.heap.size w (wr.setCell ⟨b', a + j, none⟩ (.bool v))) := ⟨M5, X5, b4.setCell (p := ⟨b', a + j, none⟩) HS.out.2.2.2.2 _⟩
      clear M4 X4 M5 X5 hadn b4
      go_wp2_with fail
      go_roundg (d - (j + 1))
      case measure => clear hwa hrj; omega
      case rel => exact ⟨j + 1, by clear hwa hrj; omega, by go_num, HK5.out.1, HK5.out.2.1, HK5.out.2.2⟩
    · have hjI : ¬ (j : Int) < (d : Int) := by omega
      obtain rfl : j = d := by omega
      have HF : Hid (RefM wr b' vc n (setTo tk a j v) ∧ Below w.heap.size w wr) := ⟨M4, b4⟩
      clear M4 X4 b4
      go_wp2_with fail
      go_ret
      exact ⟨⟨b', vc, rfl, HF.out.1, HS.out.2.2.2.2⟩, HF.out.2⟩

set_option maxRecDepth 4000 in
set_option maxHeartbeats 4000000 in
theorem rleft_any {w : World} {b c n : Nat} {tk : Nat → Bool} (M : RefM w b c n tk) (hn : n ≤ 4096) :
    Calls Try.prog 36 #[.slice (some ⟨b, 0, none⟩) n c] w fun e w' => e = .returned (.int .i64 (cnt (fun b => !tk b) n)) ∧ w' = w := by
  have HM : Hid (RefM w b c n tk) := M
  clear M
  go_enter Try.func36, Try.ntmps36
  go_wp2_with fail
  go_loopg [3, 4] n (fun gg s3 s4 wx => ∃ j : Nat, j + gg = n ∧ s4 = .int .i64 j ∧ s3 = .int .i64 (cnt (fun b => !tk b) j) ∧ wx = w)
  case atStart => exact ⟨0, by omega, rfl, rfl, rfl⟩
  case round =>
    obtain ⟨j, hjg, rfl, rfl, rfl⟩ := hrel
    obtain ⟨k, hk⟩ : ∃ k, k = cnt (fun b => !tk b) j := ⟨_, rfl⟩
    rw [← hk]
    have hkj : k ≤ j := by rw [hk]; exact cnt_le _ _
    have HC : Hid (k = cnt (fun b => !tk b) j) := hk
    clear hk
    by_cases hj : j < n
    · have hjI : (j : Int) < (n : Int) := by omega
      have t0 := HM.out.cell j hj
      have hrj : IntKind.i64.wrap ((j : Int) + 1) = (j : Int) + 1 := by rw [IntKind.wrap_i64]; omega
      have hrc : IntKind.i64.wrap ((k : Int) + 1) = (k : Int) + 1 := by rw [IntKind.wrap_i64]; clear hrj; omega
      cases htk : tk j
      · rw [htk] at t0
        have HT : Hid (tk j = false) := htk
        clear htk
        go_wp2_with fail
        go_roundg (n - (j + 1))
        case measure => clear hrj hrc; omega
        case rel =>
          refine ⟨j + 1, by clear hrj hrc; omega, by go_num, ?_, rfl⟩
          rw [cnt, HT.out, ← HC.out]
          go_num
      · rw [htk] at t0
        have HT : Hid (tk j = true) := htk
        clear htk
        go_wp2_with fail
        go_roundg (n - (j + 1))
        case measure => clear hrj hrc; omega
        case rel =>
          refine ⟨j + 1, by clear hrj hrc; omega, by go_num, ?_, rfl⟩
          rw [cnt, HT.out, ← HC.out]
          rfl
    · have hjI : ¬ (j : Int) < (n : Int) := by omega
      obtain rfl : j = n := by omega
      go_wp2_with fail
      go_ret
      rw [← HC.out]
      exact ⟨rfl, rfl⟩

/-- What Take and Free leave of the document's map. -/
def RPost (w : World) (b c n : Nat) (tk : Nat → Bool) (a d : Nat) (was : Bool) (e : Ending) (w' : World) : Prop :=
  ((e = .returned (.tuple #[.slice (some ⟨b, 0, none⟩) n c, .int .i64 3]) ∧ ¬ AllAre tk a d was) ∨ (∃ b' c', e = .returned (.tuple #[.slice (some ⟨b', 0, none⟩) n c', .int .i64 0]) ∧ AllAre tk a d was ∧ RefM w' b' c' n (setTo tk a d (!was)) ∧ w.heap.size ≤ b')) ∧ Below w.heap.size w w'

set_option maxRecDepth 4000 in
set_option maxHeartbeats 4000000 in
theorem rtake_bad (v : Option Addr) (n c : Nat) (hn : n ≤ 4096) (a d : Int) (ha : -9223372036854775808 ≤ a ∧ a < 9223372036854775808) (hno : ¬ (0 < n ∧ 0 ≤ a ∧ 1 ≤ d ∧ d ≤ n - a)) (w : World) :
    Calls Try.prog 15 #[.slice v n c, .agg #[.int .i64 a, .int .i64 d]] w fun e w' => e = .returned (.tuple #[.slice v n c, .int .i64 1]) ∧ Below w.heap.size w w' := by
  have hb := below1 w (.cells #[.int .i64 a, .int .i64 d] 32)
  have cm := may_any v n c hn a d ha (w.alloc (.cells #[.int .i64 a, .int .i64 d] 32))
  rw [decide_eq_false hno] at cm
  clear hno ha hn
  go_enter Try.func15, Try.ntmps15
  go_wp2_with fail
  refine cm.mono ?_
  rintro e w1 ⟨rfl, b1⟩
  have HB : Hid (Below w.heap.size w w1) := hb.trans (b1.mono hb.size)
  clear cm b1 hb
  go_wp2_with fail
  go_ret2
  exact ⟨rfl, HB.out⟩
set_option maxRecDepth 4000 in
set_option maxHeartbeats 4000000 in
theorem rtake_any {w : World} {b c n : Nat} {tk : Nat → Bool} (M : RefM w b c n tk) (hn : n ≤ 4096) (a d : Nat) (hd : 1 ≤ d) (had : a + d ≤ n) :
    Calls Try.prog 15 #[.slice (some ⟨b, 0, none⟩) n c, .agg #[.int .i64 a, .int .i64 d]] w (RPost w b c n tk a d false) := by
  have hb := below1 w (.cells #[.int .i64 (a : Int), .int .i64 (d : Int)] 32)
  have B0 := box_new w #[.int .i64 (a : Int), .int .i64 (d : Int)] 32
  have cm := may_any (some ⟨b, 0, none⟩) n c hn a d (by omega) (w.alloc (.cells #[.int .i64 (a : Int), .int .i64 (d : Int)] 32))
  rw [decide_eq_true (show 0 < n ∧ (0 : Int) ≤ a ∧ (1 : Int) ≤ d ∧ (d : Int) ≤ n - a by omega)] at cm
  have HM : Hid (RefM w b c n tk ∧ n ≤ 4096 ∧ a + d ≤ n ∧ 1 ≤ d) := ⟨M, hn, had, hd⟩
  clear M hn had hd
  go_enter Try.func15, Try.ntmps15
  go_wp2_with fail
  refine cm.mono ?_
  rintro e w1 ⟨rfl, b1⟩
  have hb1 := hb.trans (b1.mono hb.size)
  have X1 := B0.over b1
  have M1 := HM.out.1.over hb1
  have ca := all_any M1 HM.out.2.1 a d HM.out.2.2.1 false
  have x0 := X1.cell 0 _ rfl
  have x1 := X1.cell 1 _ rfl
  have HB1 : Hid (Below w.heap.size w w1 ∧ Box w1 w.heap.size 32 #[.int .i64 (a : Int), .int .i64 (d : Int)]) := ⟨hb1, X1⟩
  clear cm b1 hb B0 hb1 X1 M1
  go_wp2_with fail
  refine ca.mono ?_
  rintro e w2 ⟨⟨rfl, hall⟩ | ⟨rfl, hall⟩, b2⟩
  · have hb2 := HB1.out.1.trans (b2.mono HB1.out.1.size)
    have X2 := HB1.out.2.over b2
    have M2 := HM.out.1.over hb2
    have cs := set_any M2 (by have := HM.out; omega) HM.out.2.1 a d HM.out.2.2.1 (!false)
    have y0 := X2.cell 0 _ rfl
    have y1 := X2.cell 1 _ rfl
    have HA : Hid (AllAre tk a d false ∧ Below w.heap.size w w2) := ⟨hall, hb2⟩
    clear ca b2 X2 M2 x0 x1 hall hb2
    go_wp2_with fail
    refine cs.mono ?_
    rintro e w3 ⟨⟨b', c', rfl, hM3, hb'⟩, b3⟩
    have HE : Hid (RefM w3 b' c' n (setTo tk a d (!false)) ∧ w.heap.size ≤ b' ∧ Below w.heap.size w w3) := ⟨hM3, Nat.le_trans HA.out.2.size hb', HA.out.2.trans (b3.mono HA.out.2.size)⟩
    clear cs hM3 hb' b3 y0 y1
    go_wp2_with fail
    go_ret2
    exact ⟨.inr ⟨b', c', rfl, HA.out.1, HE.out.1, HE.out.2.1⟩, HE.out.2.2⟩
  · have HA : Hid (¬ AllAre tk a d false ∧ Below w.heap.size w w2) := ⟨hall, HB1.out.1.trans (b2.mono HB1.out.1.size)⟩
    clear ca b2 x0 x1 hall
    go_wp2_with fail
    go_ret2
    exact ⟨.inl ⟨rfl, HA.out.1⟩, HA.out.2⟩


set_option maxRecDepth 4000 in
set_option maxHeartbeats 4000000 in
theorem rfree_bad (v : Option Addr) (n c : Nat) (hn : n ≤ 4096) (a d : Int) (ha : -9223372036854775808 ≤ a ∧ a < 9223372036854775808) (hno : ¬ (0 < n ∧ 0 ≤ a ∧ 1 ≤ d ∧ d ≤ n - a)) (w : World) :
    Calls Try.prog 13 #[.slice v n c, .agg #[.int .i64 a, .int .i64 d]] w fun e w' => e = .returned (.tuple #[.slice v n c, .int .i64 1]) ∧ Below w.heap.size w w' := by
  have hb := below1 w (.cells #[.int .i64 a, .int .i64 d] 32)
  have cm := may_any v n c hn a d ha (w.alloc (.cells #[.int .i64 a, .int .i64 d] 32))
  rw [decide_eq_false hno] at cm
  clear hno ha hn
  go_enter Try.func13, Try.ntmps13
  go_wp2_with fail
  refine cm.mono ?_
  rintro e w1 ⟨rfl, b1⟩
  have HB : Hid (Below w.heap.size w w1) := hb.trans (b1.mono hb.size)
  clear cm b1 hb
  go_wp2_with fail
  go_ret2
  exact ⟨rfl, HB.out⟩
set_option maxRecDepth 4000 in
set_option maxHeartbeats 4000000 in
theorem rfree_any {w : World} {b c n : Nat} {tk : Nat → Bool} (M : RefM w b c n tk) (hn : n ≤ 4096) (a d : Nat) (hd : 1 ≤ d) (had : a + d ≤ n) :
    Calls Try.prog 13 #[.slice (some ⟨b, 0, none⟩) n c, .agg #[.int .i64 a, .int .i64 d]] w (RPost w b c n tk a d true) := by
  have hb := below1 w (.cells #[.int .i64 (a : Int), .int .i64 (d : Int)] 32)
  have B0 := box_new w #[.int .i64 (a : Int), .int .i64 (d : Int)] 32
  have cm := may_any (some ⟨b, 0, none⟩) n c hn a d (by omega) (w.alloc (.cells #[.int .i64 (a : Int), .int .i64 (d : Int)] 32))
  rw [decide_eq_true (show 0 < n ∧ (0 : Int) ≤ a ∧ (1 : Int) ≤ d ∧ (d : Int) ≤ n - a by omega)] at cm
  have HM : Hid (RefM w b c n tk ∧ n ≤ 4096 ∧ a + d ≤ n ∧ 1 ≤ d) := ⟨M, hn, had, hd⟩
  clear M hn had hd
  go_enter Try.func13, Try.ntmps13
  go_wp2_with fail
  refine cm.mono ?_
  rintro e w1 ⟨rfl, b1⟩
  have hb1 := hb.trans (b1.mono hb.size)
  have X1 := B0.over b1
  have M1 := HM.out.1.over hb1
  have ca := all_any M1 HM.out.2.1 a d HM.out.2.2.1 true
  have x0 := X1.cell 0 _ rfl
  have x1 := X1.cell 1 _ rfl
  have HB1 : Hid (Below w.heap.size w w1 ∧ Box w1 w.heap.size 32 #[.int .i64 (a : Int), .int .i64 (d : Int)]) := ⟨hb1, X1⟩
  clear cm b1 hb B0 hb1 X1 M1
  go_wp2_with fail
  refine ca.mono ?_
  rintro e w2 ⟨⟨rfl, hall⟩ | ⟨rfl, hall⟩, b2⟩
  · have hb2 := HB1.out.1.trans (b2.mono HB1.out.1.size)
    have X2 := HB1.out.2.over b2
    have M2 := HM.out.1.over hb2
    have cs := set_any M2 (by have := HM.out; omega) HM.out.2.1 a d HM.out.2.2.1 (!true)
    have y0 := X2.cell 0 _ rfl
    have y1 := X2.cell 1 _ rfl
    have HA : Hid (AllAre tk a d true ∧ Below w.heap.size w w2) := ⟨hall, hb2⟩
    clear ca b2 X2 M2 x0 x1 hall hb2
    go_wp2_with fail
    refine cs.mono ?_
    rintro e w3 ⟨⟨b', c', rfl, hM3, hb'⟩, b3⟩
    have HE : Hid (RefM w3 b' c' n (setTo tk a d (!true)) ∧ w.heap.size ≤ b' ∧ Below w.heap.size w w3) := ⟨hM3, Nat.le_trans HA.out.2.size hb', HA.out.2.trans (b3.mono HA.out.2.size)⟩
    clear cs hM3 hb' b3 y0 y1
    go_wp2_with fail
    go_ret2
    exact ⟨.inr ⟨b', c', rfl, HA.out.1, HE.out.1, HE.out.2.1⟩, HE.out.2.2⟩
  · have HA : Hid (¬ AllAre tk a d true ∧ Below w.heap.size w w2) := ⟨hall, HB1.out.1.trans (b2.mono HB1.out.1.size)⟩
    clear ca b2 x0 x1 hall
    go_wp2_with fail
    go_ret2
    exact ⟨.inl ⟨rfl, HA.out.1⟩, HA.out.2⟩
end Go.Proofs.Ytjnobdgigeejnaa
