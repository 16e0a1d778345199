/-
  10 texts, one behind the other: JE, JF0, JF, JG, JH, JI, JSame, JL, JW, JX.
-/
import Derived.Test.YtgffplfpoopolaaJoin4
import Derived.Test.YtgffplfpoopolaaJoin3
import Derived.Test.YtgffplfpoopolaaJoin2
import Derived.Test.YtgffplfpoopolaaJoin1
/-
  The contract of package journal's read.
-/
namespace Go.Proofs.Ytgffplfpoopolaa
open Go.RowKit Leb

/-- The part that stands for a block. -/
def prt (b : List UInt8) : Pt := (readP b).getD noPt
def prow (b : List UInt8) : List Value := (pv (prt b)).toList
theorem prow_len (b : List UInt8) : (prow b).length = 5 := rfl
theorem prt_zeros : prt zeros = noPt := by unfold prt; rw [zeros_no]; rfl
theorem prt_some {b : List UInt8} {p : Pt} (h : readP b = some p) : prt b = p := by unfold prt; rw [h]; rfl
theorem prt_none {b : List UInt8} (h : readP b = none) : prt b = noPt := by unfold prt; rw [h]; rfl
theorem info_part : (Try.prog.info? 83).map (fun i => (i.zero, i.size, i.bytes)) = some (some (.agg (pv noPt)), 5, 48) := by kernel_rfl
/-- 'make([]part, n)', in whatever world. -/
theorem make_parts (n : Nat) (hn : n ≤ 4096) : ∃ c : Array Value, c.size = n * 5 ∧ (∀ i j v, i < n → (pv noPt)[j]? = some v → c[i * 5 + j]? = some v) ∧
    ∀ w : World, (Instr.makeSlice 88 (.int .i64 (n : Int)) (.int .i64 (n : Int))).run Try.prog w = .ok (.slice (some ⟨w.heap.size, 0, none⟩) n n) (w.alloc (.cells c 83)) := by
  obtain ⟨i0, hi, hz0, hz1, hz2⟩ := info_parts info_part
  refine ⟨madeCells (pv noPt) (n * 5), size_madeCells _ _, ?_, ?_⟩
  · intro i j v h hj
    have hj5 : j < 5 := (Array.getElem?_eq_some_iff.1 hj).1
    have h2 : (i * 5 + j) % (pv noPt).size = j := by show (i * 5 + j) % 5 = j; omega
    unfold madeCells
    rw [Array.getElem?_map, Array.getElem?_range, if_pos (by omega)]
    simp only [Option.map_some, h2]
    rw [getElem!_def, hj]
  · intro w
    have hr := run_make (P := Try.prog) w 88 83 i0 _ Try.underlying88 hi hz0 .i64 .i64 n n (by omega) (Int.le_refl _) (by rw [hz2]; omega) (by omega)
    simp only [Int.toNat_natCast, hz1] at hr
    exact hr
/-- The rows of the first k blocks; noughts' behind them. -/
def prows (B : List (List UInt8)) (f c k : Nat) : List (List Value) := (List.range c).map fun i => prow (if i < k then B.getD (f + i) [] else zeros)
theorem prows_len (B : List (List UInt8)) (f c k : Nat) : (prows B f c k).length = c := by simp [prows]
theorem prows_set (B : List (List UInt8)) (f c k : Nat) (_ : k < c) : (prows B f c k).set k (prow (B.getD (f + k) [])) = prows B f c (k + 1) := by
  apply List.ext_getElem
  · simp [prows]
  · intro i h1 h2
    rw [List.getElem_set]
    simp only [prows, List.getElem_map, List.getElem_range]
    by_cases e : k = i
    · subst e
      rw [if_pos rfl, if_pos (by omega)]
    · rw [if_neg e]
      by_cases h : i < k
      · rw [if_pos h, if_pos (by omega)]
      · rw [if_neg h, if_neg (by omega)]
theorem prows_zero (B : List (List UInt8)) (f c k : Nat) (hz : B.getD (f + k) [] = zeros) : prows B f c (k + 1) = prows B f c k := by
  unfold prows
  apply List.map_congr_left
  intro i _
  by_cases h : i < k
  · rw [if_pos h, if_pos (by omega)]
  · rw [if_neg h]
    by_cases e : i = k
    · subst e
      rw [if_pos (by omega), hz]
    · rw [if_neg (by omega)]
theorem prows_all (B : List (List UInt8)) (f c : Nat) (h : f + c ≤ B.length) : prows B f c c = (extL B f c).map prow := by
  apply List.ext_getElem
  · simp [prows, extL_len h]
  · intro i h1 h2
    have hi : i < c := by simpa [prows] using h1
    simp only [prows, List.getElem_map, List.getElem_range]
    rw [if_pos hi]
    have h3 := extL_at (B := B) (f := f) hi
    rw [List.getElem?_eq_getElem (by rw [extL_len h]; exact hi), List.getElem?_eq_getElem (by omega)] at h3
    rw [Option.some.inj h3]
    simp [show f + i < B.length by omega]
theorem rows_parts {w : World} {b n : Nat} {c : Array Value} {t : TypeId} (h : w.heap[b]? = some (.cells c t (0, 0))) (hs : c.size = n * 5) (hc : ∀ i j v, i < n → (pv noPt)[j]? = some v → c[i * 5 + j]? = some v) (B : List (List UInt8)) (f : Nat) :
    Rows w b t (n * 5) 5 (prows B f n 0) := by
  refine ⟨c, h, hs, by rw [prows_len]; exact Nat.le_refl _, ?_, ?_⟩
  · intro r hr
    simp only [prows, List.mem_map] at hr
    obtain ⟨i, _, rfl⟩ := hr
    exact prow_len _
  · intro i r hr j v hv
    have hi : i < n := by have := (List.getElem?_eq_some_iff.1 hr).1; rwa [prows_len] at this
    have hr2 : r = prow zeros := by
      simp only [prows, List.getElem?_map, List.getElem?_range hi, Option.map_some, Option.some.injEq] at hr
      rw [← hr]
      simp
    subst hr2
    unfold prow at hv
    rw [prt_zeros] at hv
    exact hc i j v hi (by rw [← hv]; simp)
theorem five_cells (w : World) (b o : Nat) (a0 a1 a2 a3 a4 : Value) : ((((w.setCell ⟨b, o, none⟩ a0).setCell ⟨b, o + 1, none⟩ a1).setCell ⟨b, o + 2, none⟩ a2).setCell ⟨b, o + 3, none⟩ a3).setCell ⟨b, o + 4, none⟩ a4 = w.setCells b o [a0, a1, a2, a3, a4] := rfl
/-- What read tells. -/
def PartsAns (B : List (List UInt8)) (f c : Nat) (w : World) (e : Ending) (w' : World) : Prop :=
  (((∀ b ∈ extL B f c, okB b = true) ∧ ∃ g, e = .returned (.tuple #[.slice (some ⟨g, 0, none⟩) c c, .int .i64 0]) ∧ Rows w' g 83 (c * 5) 5 ((extL B f c).map prow) ∧ w.heap.size ≤ g) ∨
    ((∃ b ∈ extL B f c, okB b = false) ∧ e = .returned (.tuple #[.slice none 0 0, .int .i64 5]))) ∧ Below w.heap.size w w'
/-- What stays while read goes on. -/
structure Rdg (w wx : World) (H : Hnd) (s : St) (f c : Nat) (R : List (List Value)) : Prop where
  dev : DevIs wx H s
  ext : Box wx w.heap.size 37 (ev f c)
  rows : Rows wx (w.heap.size + 1) 83 (c * 5) 5 R
  bel : Below w.heap.size w wx
  far : ∀ k, H.foot k → k < w.heap.size
theorem Rdg.over {w w1 w2 : World} {H : Hnd} {s : St} {f c : Nat} {R : List (List Value)} (o : Rdg w w1 H s f c R) (b : Below w1.heap.size w1 w2) : Rdg w w2 H s f c R :=
  ⟨o.dev.below b, o.ext.over b, o.rows.of_block (b.block _ o.rows.lt), o.bel.trans (b.mono o.bel.size), o.far⟩
theorem Rdg.set {w w1 : World} {H : Hnd} {s : St} {f c : Nat} {R : List (List Value)} (o : Rdg w w1 H s f c R) {i : Nat} (hi : i < R.length) (p : Pt) : Rdg w (w1.setCells (w.heap.size + 1) (i * 5) (pv p).toList) H s f c (R.set i (pv p).toList) := by
  have K : Kept (fun k => k = w.heap.size + 1) w1 (w1.setCells (w.heap.size + 1) (i * 5) (pv p).toList) := Kept.setCells (F := fun k => k = w.heap.size + 1) (.inl rfl) _ _ _ (Kept.refl _ _)
  refine ⟨o.dev.kept K (fun x hx e => by have := o.far x hx; omega), o.ext.kept K (by omega), o.rows.set hi rfl, ?_, o.far⟩
  exact o.bel.trans (K.below (fun k hk => by omega) o.bel.size)
set_option maxRecDepth 4000 in
set_option maxHeartbeats 1600000 in
theorem jread_on {w : World} {H : Hnd} {s : St} (D : DevIs w H s) (hoff : s.off = false) (f c : Nat) (hc : 1 ≤ c) (hfc : f + c ≤ s.sure.length) (hn : s.sure.length ≤ 4096) (hblk : ∀ b ∈ lay s.sure s.wait, b.length = 128) :
    Calls Try.prog 34 #[.pointer (some ⟨H.p, 0, none⟩), .agg (ev f c)] w (PartsAns (lay s.sure s.wait) f c w) := by
  have hBl : (lay s.sure s.wait).length = s.sure.length := lay_len _ _
  have HCR : Hid (∀ (k : Nat) (b : List UInt8) (W : World), (lay s.sure s.wait)[f + k]? = some b → DevIs W H s → Calls Try.prog 13 #[.pointer (some ⟨H.p, 0, none⟩), .int .i64 ((f : Int) + (k : Int))] W fun e w' => e = .returned (.tuple #[.string (strB b), .int .i64 0]) ∧ w' = W) := by
    intro k b W hb DW
    have := read_on DW (f + k) b hb hoff
    rw [show ((f + k : Nat) : Int) = (f : Int) + (k : Int) by omega] at this
    exact this
  obtain ⟨B, hB⟩ : ∃ B, B = lay s.sure s.wait := ⟨_, rfl⟩
  rw [← hB] at hblk hBl HCR ⊢
  obtain ⟨cc, hs1, hs2, hmk⟩ := make_parts c (by omega)
  have HC : Hid (cc.size = c * 5 ∧ ∀ i j v, i < c → (pv noPt)[j]? = some v → cc[i * 5 + j]? = some v) := ⟨hs1, hs2⟩
  have HBK : Hid (∀ b ∈ B, b.length = 128) := hblk
  have HBL : Hid (B.length = s.sure.length ∧ f + c ≤ s.sure.length ∧ 1 ≤ c) := ⟨hBl, hfc, hc⟩
  have HDV : Hid (DevIs w H s ∧ ∀ k, H.foot k → k < w.heap.size) := ⟨D, fun k hk => D.lt hk⟩
  have hcI : (c : Int) ≤ 4096 := by omega
  have hfI : (f : Int) ≤ 4096 := by omega
  have cn := fun w => jnoughts_any 128 (by omega) w
  obtain ⟨Z, hZ⟩ : ∃ Z, Z = strB (List.replicate 128 0) := ⟨_, rfl⟩
  rw [← hZ] at cn
  have HZ : Hid (Z = strB zeros) := hZ
  obtain ⟨hp, hhp⟩ : ∃ hp, hp = H.p := ⟨_, rfl⟩
  rw [← hhp] at HCR ⊢
  clear D hblk hBl hfc hc hn hs1 hs2 hB hZ hoff hhp
  show Calls _ _ #[_, .agg #[.int .i64 f, .int .i64 c]] w _
  go_enter Try.func34, Try.ntmps34
  go_wp2
  go_loopg [15] c (fun g s15 wx => ∃ k : Nat, k + g = c ∧ s15 = .int .i64 k ∧ (∀ i b, i < k → B[f + i]? = some b → okB b = true) ∧ Rdg w wx H s f c (prows B f c k))
  case atStart =>
    have b1 := box_new w (ev f c) 37
    have b2 := heap_alloc_last (w.alloc (.cells (ev f c) 37)) (.cells cc 83)
    rw [World.size_alloc] at b2
    refine ⟨0, by omega, rfl, fun i b hi _ => by omega, ⟨HDV.out.1.below (below2 _ _ _), b1.alloc _, rows_parts b2 HC.out.1 HC.out.2 B f, below2 _ _ _, HDV.out.2⟩⟩
  case round =>
    obtain ⟨k, hkg, rfl, hok, hR⟩ := hrel
    have HR : Hid (Rdg w wr H s f c (prows B f c k)) := hR
    have HOK : Hid (∀ i b, i < k → B[f + i]? = some b → okB b = true) := hok
    have e0 : wr.cell? ⟨w.heap.size, 0, none⟩ = some (.int .i64 f) := hR.ext.cell 0 _ rfl
    by_cases hk : k < c
    · have hkI : (k : Int) < c := by omega
      obtain ⟨b, hb⟩ : ∃ b, B[f + k]? = some b := ⟨_, List.getElem?_eq_getElem (by have := HBL.out; omega)⟩
      have hb8 : b.length = 128 := HBK.out b (List.mem_of_getElem? hb)
      have hgd : B.getD (f + k) [] = b := by rw [List.getD_eq_getElem?_getD, hb]; rfl
      have cr := HCR.out k b wr hb hR.dev
      have HBB : Hid (B[f + k]? = some b ∧ B.getD (f + k) [] = b) := ⟨hb, hgd⟩
      have hq : ((strB b).toList == Z.toList) = decide (b = zeros) := by
        rw [HZ.out, strB_toList, strB_toList, Bool.eq_iff_iff]
        simp
      have ct := fun w => jtake_any b hb8 w
      obtain ⟨S, hS⟩ : ∃ S, S = strB b := ⟨_, rfl⟩
      rw [← hS] at cr hq ct
      clear hR hok hb hgd hS
      go_wp2_with fail
      refine cr.mono ?_
      rintro e w2 ⟨rfl, hw2⟩
      replace hw2 := hw2.symm
      subst hw2
      go_wp2_with fail
      refine (cn _).mono ?_
      rintro e w2 ⟨rfl, hb2⟩
      have R2 := HR.out.over hb2
      have HR2 := (show Hid _ from R2)
      by_cases hz : b = zeros
      · have hq2 : (S.toList == Z.toList) = true := by rw [hq]; simpa using hz
        clear R2 hq
        go_wp2_with fail
        go_roundg (c - (k + 1))
        case measure => omega
        case rel =>
          refine ⟨k + 1, by omega, by go_num, ?_, ?_⟩
          · intro i b' hi hb'
            by_cases hik : i < k
            · exact HOK.out i b' hik hb'
            · have : i = k := by omega
              subst this
              rw [HBB.out.1] at hb'
              rw [← Option.some.inj hb', hz]
              exact okB_zeros
          · rw [prows_zero B f c k (by rw [HBB.out.2, hz])]
            exact HR2.out
      · have hq2 : (S.toList == Z.toList) = false := by rw [hq]; simpa using hz
        have HNZ : Hid (b ≠ zeros) := hz
        clear R2 hq hz
        go_wp2_with fail
        refine (ct _).mono ?_
        rintro e w3 ⟨hans, hb3⟩
        have R3 := HR2.out.over hb3
        have HR3 := (show Hid _ from R3)
        have hth := R3.rows.there (i := k) (by rw [prows_len]; exact hk)
        have t0 := hth 0 (by omega)
        have t1 := hth 1 (by omega)
        have t2 := hth 2 (by omega)
        have t3 := hth 3 (by omega)
        have t4 := hth 4 (by omega)
        have t0 : (w3.cell? ⟨w.heap.size + 1, k * 5, none⟩).isSome = true ∧ w3.frozen? ⟨w.heap.size + 1, k * 5, none⟩ = false := t0
        obtain ⟨c0, f0⟩ := t0
        obtain ⟨c1, f1⟩ := t1
        obtain ⟨c2, f2⟩ := t2
        obtain ⟨c3, f3⟩ := t3
        obtain ⟨c4, f4⟩ := t4
        obtain ⟨v0, c0⟩ := Option.isSome_iff_exists.1 c0
        obtain ⟨v1, c1⟩ := Option.isSome_iff_exists.1 c1
        obtain ⟨v2, c2⟩ := Option.isSome_iff_exists.1 c2
        obtain ⟨v3, c3⟩ := Option.isSome_iff_exists.1 c3
        obtain ⟨v4, c4⟩ := Option.isSome_iff_exists.1 c4
        have hk0 : 0 ≤ (k : Int) ∧ (k : Int) < c := by omega
        clear hth R3
        rcases hans with ⟨p, hp1, rfl⟩ | ⟨hp1, rfl⟩
        · have HP : Hid (readP b = some p) := hp1
          clear hp1
          unfold pv
          go_wp2_with fail
          go_roundg (c - (k + 1))
          case measure => omega
          case rel =>
            refine ⟨k + 1, by omega, by go_num, ?_, ?_⟩
            · intro i b' hi hb'
              by_cases hik : i < k
              · exact HOK.out i b' hik hb'
              · have : i = k := by omega
                subst this
                rw [HBB.out.1] at hb'
                rw [← Option.some.inj hb']
                simp [okB, HP.out]
            · rw [← prows_set B f c k hk, HBB.out.2]
              have := HR3.out.set (i := k) (by rw [prows_len]; exact hk) p
              unfold prow
              rw [prt_some HP.out]
              exact this
        · have HP : Hid (readP b = none) := hp1
          have HF := (show Hid _ from HR3.out.set (i := k) (by rw [prows_len]; exact hk) noPt)
          have HE : Hid (∃ b ∈ extL B f c, okB b = false) := by
            refine ⟨b, List.mem_of_getElem? (by rw [extL_at hk]; exact HBB.out.1), ?_⟩
            have := HNZ.out
            simp [okB, HP.out, this]
          clear hp1
          unfold pv noPt
          go_wp2_with fail
          go_ret2
          exact ⟨.inr ⟨HE.out, rfl⟩, HF.out.bel⟩
    · have hkI : ¬ (k : Int) < c := by omega
      have hkc : k = c := by omega
      subst hkc
      clear hR hok
      go_wp2_with fail
      go_ret2
      refine ⟨.inl ⟨?_, w.heap.size + 1, rfl, ?_, by omega⟩, HR.out.bel⟩
      · intro b hb
        obtain ⟨i, hi⟩ := List.mem_iff_getElem?.1 hb
        have hil : i < k := by
          have := (List.getElem?_eq_some_iff.1 hi).1
          rwa [extL_len (by have := HBL.out; omega)] at this
        rw [extL_at hil] at hi
        exact HOK.out i b hil hi
      · rw [← prows_all B f k (by have := HBL.out; omega)]
        exact HR.out.rows
end Go.Proofs.Ytgffplfpoopolaa
/-
  Which parts make a record: the code's way, as mathematics. No program is spoken of.
-/
namespace Go.Proofs.Ytgffplfpoopolaa
open Leb

/-- The bytes of the first k parts, from the block a on. -/
def accS (l : List (List UInt8)) (a : Nat) : Nat → List UInt8
  | 0 => []
  | k + 1 => accS l a k ++ (prt (l.getD (a + k) [])).s
/-- The head of a part is the one that belongs there. -/
structure HeadOk (p : Pt) (turn : BitVec 64) (a count i : Nat) : Prop where
  turn : p.turn.toInt = turn.toInt
  num : p.num.toInt = (a : Int) + (i : Int)
  ahead : p.ahead.toInt = (i : Int)
  behind : p.behind.toInt = (count : Int) - 1 - (i : Int)
def LenOk (p : Pt) (count i : Nat) : Prop := i + 1 < count → 96 ≤ p.s.length
def Fit (l : List (List UInt8)) (turn : BitVec 64) (a count k : Nat) : Prop := ∀ i, i < k → HeadOk (prt (l.getD (a + i) [])) turn a count i ∧ LenOk (prt (l.getD (a + i) [])) count i
theorem bv_eq {x y : BitVec 64} (h : x.toInt = y.toInt) : x = y := BitVec.eq_of_toInt_eq h
theorem prt_real {b : List UInt8} {turn : BitVec 64} (ht : 1 ≤ turn.toInt) (h : (prt b).turn.toInt = turn.toInt) : readP b = some (prt b) := by
  cases e : readP b with
  | some p => rw [prt_some e]
  | none =>
    rw [prt_none e] at h
    have : noPt.turn.toInt = 0 := rfl
    omega
theorem prt_len (b : List UInt8) : (prt b).s.length ≤ 96 := by
  cases e : readP b with
  | some p => rw [prt_some e]; exact (readP_some e).1.s1
  | none => rw [prt_none e]; exact Nat.zero_le _
theorem prt_behind (b : List UInt8) : 0 ≤ (prt b).behind.toInt ∧ (prt b).behind.toInt ≤ 86 := by
  cases e : readP b with
  | some p => rw [prt_some e]; exact ⟨(readP_some e).1.b0, (readP_some e).1.b1⟩
  | none => rw [prt_none e]; decide
theorem fit_len {l : List (List UInt8)} {turn : BitVec 64} {a count k : Nat} (h : Fit l turn a count k) : ∀ j, j ≤ k → j < count → (accS l a j).length = 96 * j := by
  intro j
  induction j with
  | zero => intro _ _; rfl
  | succ j ih =>
    intro hj hc
    rw [accS, List.length_append, ih (by omega) (by omega)]
    have h1 := (h j (by omega)).2 (by omega)
    have h2 := prt_len (l.getD (a + j) [])
    omega
theorem acc_le {l : List (List UInt8)} {a : Nat} : ∀ k, (accS l a k).length ≤ 96 * k
  | 0 => by simp [accS]
  | k + 1 => by
    have h1 := acc_le (l := l) (a := a) k
    have h2 := prt_len (l.getD (a + k) [])
    rw [accS, List.length_append]
    omega
theorem acc_split (l : List (List UInt8)) (a i : Nat) : ∀ k, i < k → ∃ r, accS l a k = accS l a i ++ (prt (l.getD (a + i) [])).s ++ r ∧ (k = i + 1 → r = [])
  | 0, h => by omega
  | k + 1, h => by
    by_cases e : i = k
    · subst e
      exact ⟨[], by rw [accS]; simp, fun _ => rfl⟩
    · obtain ⟨r, hr, _⟩ := acc_split l a i k (by omega)
      refine ⟨r ++ (prt (l.getD (a + k) [])).s, ?_, fun h2 => by omega⟩
      rw [accS, hr]
      simp [List.append_assoc]
theorem acc_piece {l : List (List UInt8)} {turn : BitVec 64} {a count : Nat} (h : Fit l turn a count count) {i : Nat} (hi : i < count) : piece (accS l a count) i = (prt (l.getD (a + i) [])).s := by
  obtain ⟨r, hr, hr2⟩ := acc_split l a i count hi
  have h1 := fit_len h i (by omega) hi
  have h2 := prt_len (l.getD (a + i) [])
  unfold piece
  rw [hr, List.append_assoc, ← h1, List.drop_left]
  by_cases e : count = i + 1
  · rw [hr2 e, List.append_nil]
    exact List.take_of_length_le (by omega)
  · have h3 := (h i hi).2 (by omega)
    have h4 : (prt (l.getD (a + i) [])).s.length = 96 := by omega
    rw [← h4, List.take_left]
theorem rec_of_fit {l : List (List UInt8)} {turn : BitVec 64} (ht : 1 ≤ turn.toInt) {a count : Nat} (hc : 1 ≤ count) (hc2 : count ≤ 87) (ha : a + count ≤ l.length) (hl : l.length ≤ 4096) (h : Fit l turn a count count) (h8 : (accS l a count).length ≤ 8192) : RecAt l turn a (accS l a count) := by
  obtain ⟨n, rfl⟩ : ∃ n, count = n + 1 := ⟨count - 1, by omega⟩
  have hlast := prt_real ht (h n (by omega)).1.turn
  have hm := (readP_some hlast).1
  have hlen : (accS l a (n + 1)).length = 96 * n + (prt (l.getD (a + n) [])).s.length := by
    rw [accS, List.length_append, fit_len h n (by omega) (by omega)]
  have hn : needs (accS l a (n + 1)).length = n + 1 := by
    rw [hlen]
    exact needs_more hm.s0 hm.s1
  refine ⟨by have := hm.s0; omega, h8, by omega, fun i hi => ?_⟩
  rw [hn] at hi
  obtain ⟨ho, hlo⟩ := h i hi
  have hr := prt_real ht ho.turn
  have hp := (readP_some hr).2
  have hg : l[a + i]? = some (l.getD (a + i) []) := by
    rw [List.getElem?_eq_getElem (by omega)]
    simp [show a + i < l.length by omega]
  rw [hg, blkL, ← hp]
  congr 1
  have e : prt (l.getD (a + i) []) = ptAt turn a (accS l a (n + 1)) i := by
    have e1 := bv_eq ho.turn
    have e2 : (prt (l.getD (a + i) [])).num = BitVec.ofNat 64 (a + i) := bv_eq (by rw [ho.num, ofNat_toInt (by omega)]; omega)
    have e3 : (prt (l.getD (a + i) [])).ahead = BitVec.ofNat 64 i := bv_eq (by rw [ho.ahead, ofNat_toInt (by omega)])
    have e4 : (prt (l.getD (a + i) [])).behind = BitVec.ofNat 64 (needs (accS l a (n + 1)).length - 1 - i) := bv_eq (by rw [ho.behind, hn, ofNat_toInt (by omega)]; omega)
    have e5 := acc_piece h hi
    unfold ptAt
    rw [e5, ← e4, ← e3, ← e2, ← e1]
  rw [← e]
/-- What a record tells of its parts. -/
theorem rec_prt {l : List (List UInt8)} {turn : BitVec 64} {a : Nat} {t : List UInt8} (h : RecAt l turn a t) {i : Nat} (hi : i < needs t.length) : prt (l.getD (a + i) []) = ptAt turn a t i := by
  have h1 := h.blk i hi
  have h2 : l.getD (a + i) [] = blkL turn a t i := by rw [List.getD_eq_getElem?_getD, h1]; rfl
  rw [h2]
  exact prt_some (blk_read turn a h.s0 h.s1 hi)
theorem rec_count {l : List (List UInt8)} (hl : l.length ≤ 4096) {turn : BitVec 64} {a : Nat} {t : List UInt8} (h : RecAt l turn a t) : (prt (l.getD a [])).behind.toInt + 1 = (needs t.length : Int) := by
  have h1 := rec_prt h (i := 0) (needs_pos h.s0)
  have h2 := needs_pos h.s0
  have h3 := h.fit
  rw [Nat.add_zero] at h1
  rw [h1]
  show (BitVec.ofNat 64 (needs t.length - 1 - 0)).toInt + 1 = _
  rw [ofNat_toInt (by omega)]
  omega
theorem rec_head {l : List (List UInt8)} (hl : l.length ≤ 4096) {turn : BitVec 64} {a : Nat} {t : List UInt8} (h : RecAt l turn a t) {i : Nat} (hi : i < needs t.length) : HeadOk (prt (l.getD (a + i) [])) turn a (needs t.length) i ∧ LenOk (prt (l.getD (a + i) [])) (needs t.length) i := by
  have h3 := h.fit
  rw [rec_prt h hi]
  refine ⟨⟨rfl, ?_, ?_, ?_⟩, ?_⟩
  · show (BitVec.ofNat 64 (a + i)).toInt = _
    rw [ofNat_toInt (by omega)]
    omega
  · show (BitVec.ofNat 64 i).toInt = _
    rw [ofNat_toInt (by omega)]
  · show (BitVec.ofNat 64 (needs t.length - 1 - i)).toInt = _
    rw [ofNat_toInt (by omega)]
    omega
  · intro h4
    show 96 ≤ (piece t i).length
    rw [piece_len]
    have : needs t.length = (t.length + 95) / 96 := rfl
    omega
theorem rec_acc {l : List (List UInt8)} {turn : BitVec 64} {a : Nat} {t : List UInt8} (h : RecAt l turn a t) : ∀ k, k ≤ needs t.length → accS l a k = t.take (96 * k)
  | 0, _ => by simp [accS]
  | k + 1, hk => by
    rw [accS, rec_acc h k (by omega), rec_prt h (by omega), ← take_piece]
    rfl
end Go.Proofs.Ytgffplfpoopolaa
/-
  The contract of package journal's record.
-/
namespace Go.Proofs.Ytgffplfpoopolaa
open Go.RowKit Leb

/-- A strings.Builder that holds bytes. -/
def IsB (w : World) (B b : Nat) (l : List UInt8) : Prop := Lib.IsBuilder 108 5 B b (Lib.byteCells l) w
theorem bat_over {T e : TypeId} {B b : Nat} {p : Value} {bs : List Value} {w w' : World} (h : Lib.BuilderAt T e B b p bs w) (hb : Below w.heap.size w w') : Lib.BuilderAt T e B b p bs w' := by
  obtain ⟨h1, v, h2, h3, h4⟩ := h
  exact ⟨h1, v, (hb.block b (Array.getElem?_eq_some_iff.1 h2).1).trans h2, ownsRow_below h3 hb, h4⟩
theorem IsB.over {w w' : World} {B b : Nat} {l : List UInt8} (h : IsB w B b l) (hb : Below w.heap.size w w') : IsB w' B b l := by
  rcases h with h | h
  · exact .inl (bat_over h hb)
  · exact .inr (bat_over h hb)
theorem isB_new (w : World) : IsB (w.alloc (.cells #[.pointer none, .slice none 0 0] 108)) w.heap.size w.heap.size [] :=
  .inl ⟨Nat.le_refl _, .slice none 0 0, heap_alloc_last w _, World.ownsRow_nil _ _ _ _, by simp [Value.ownBlock]⟩
theorem bld_write {w : World} {B b : Nat} {l : List UInt8} (h : IsB w B b l) (s : List UInt8) (hl : l.length + s.length ≤ 1000000) (hB : B ≤ w.heap.size) :
    Calls Try.prog 50 #[.pointer (some ⟨b, 0, none⟩), .string (strB s)] w fun e w' => e = .returned (.tuple #[.int .i64 s.length, .nilIface]) ∧ IsB w' B b (l ++ s) ∧ Below B w w' := by
  have c := Any.Builder_WriteString { Try.lays105 with } Try.Builder_Extra_105 B b (Lib.byteCells l) (strB s) w h (by rw [Lib.byteCells_length, strB_size]; omega) hB
  refine Calls.mono c fun e w' ⟨h1, h2, h3⟩ => ⟨h1, .inr ?_, h3⟩
  rw [Lib.byteCells_append]
  rw [Lib.strCells_eq, strB_list] at h2
  exact h2
theorem bld_len {w : World} {B b : Nat} {l : List UInt8} (h : IsB w B b l) :
    Calls Try.prog 51 #[.pointer (some ⟨b, 0, none⟩)] w fun e w' => e = .returned (.int .i64 l.length) ∧ w' = w := by
  have c := Any.Builder_Len { Try.lays105 with } B b (Lib.byteCells l) w h
  rw [Lib.byteCells_length] at c
  exact c
theorem bld_string {w : World} {B b : Nat} {l : List UInt8} (h : IsB w B b l) (hB : B ≤ w.heap.size) :
    Calls Try.prog 52 #[.pointer (some ⟨b, 0, none⟩)] w fun e w' => e = .returned (.string (strB l)) ∧ Below B w w' :=
  Any.Builder_String_any { Try.lays105 with } Try.Builder_Extra_105 B b l w h hB

def JRecAns (l : List (List UInt8)) (turn : BitVec 64) (a : Nat) (w : World) (e : Ending) (w' : World) : Prop :=
  ((∃ t, RecAt l turn a t ∧ e = .returned (.tuple #[.string (strB t), .bool true])) ∨ ((∀ t, ¬ RecAt l turn a t) ∧ e = .returned (.tuple #[.string { data := #[] }, .bool false]))) ∧ Below w.heap.size w w'
theorem rows_pv {w : World} {g tot : Nat} {l : List (List UInt8)} (h : Rows w g 83 tot 5 (l.map prow)) {k : Nat} (hk : k < l.length) (j : Nat) (v : Value) (hv : (pv (prt (l.getD k [])))[j]? = some v) : w.cell? ⟨g, k * 5 + j, none⟩ = some v := by
  have h1 : (l.map prow)[k]? = some (prow (l.getD k [])) := by
    rw [List.getElem?_map, List.getElem?_eq_getElem hk]
    simp [hk]
  exact h.range h1 j v (by unfold prow; rw [← hv]; simp)
set_option maxRecDepth 4000 in
set_option maxHeartbeats 1600000 in
theorem jrecord_any (l : List (List UInt8)) (hll : l.length ≤ 4096) (turn : BitVec 64) (ht : 1 ≤ turn.toInt) (a : Nat) (ha : a ≤ l.length) (g cap tot : Nat) (w : World) (hr : Rows w g 83 tot 5 (l.map prow)) :
    Calls Try.prog 35 #[.slice (some ⟨g, a * 5, none⟩) (l.length - a) cap, .int .i64 turn.toInt, .int .i64 a] w (JRecAns l turn a w) := by
  have hg := hr.lt
  obtain ⟨n, hn⟩ : ∃ n, n = l.length - a := ⟨_, rfl⟩
  rw [← hn]
  rcases Nat.eq_zero_or_pos n with h0 | hpos
  · subst h0
    have HE : Hid (∀ t, ¬ RecAt l turn a t) := rec_beyond (by omega)
    clear hn hr ht
    go_enter Try.func35, Try.ntmps35
    go_wp2_with fail
    go_ret2
    exact ⟨.inr ⟨HE.out, rfl⟩, Below.refl _ _⟩
  · have HRow : Hid (∀ w' k j v, Below w.heap.size w w' → k < n → (pv (prt (l.getD (a + k) [])))[j]? = some v → w'.cell? ⟨g, a * 5 + k * 5 + j, none⟩ = some v) := by
      intro w' k j v hb hk hv
      have h1 := rows_pv hr (k := a + k) (by omega) j v hv
      rw [show a * 5 + k * 5 + j = (a + k) * 5 + j by omega]
      exact (hb.cell (p := ⟨g, (a + k) * 5 + j, none⟩) hg).trans h1
    have hbe := prt_behind (l.getD a [])
    have c03 : w.cell? ⟨g, a * 5 + 3, none⟩ = some (.int .i64 (prt (l.getD a [])).behind.toInt) := HRow.out w 0 3 _ (Below.refl _ _) hpos rfl
    obtain ⟨c, hc⟩ : ∃ c : Nat, (prt (l.getD a [])).behind.toInt + 1 = (c : Int) := ⟨((prt (l.getD a [])).behind.toInt + 1).toNat, by omega⟩
    have hcb : (prt (l.getD a [])).behind.toInt = (c : Int) - 1 := by omega
    rw [hcb] at c03
    have hc1 : (1 : Int) ≤ c ∧ (c : Int) ≤ 87 := by omega
    have HC : Hid (1 ≤ c ∧ c ≤ 87 ∧ ∀ t, RecAt l turn a t → needs t.length = c) := ⟨by omega, by omega, fun t h => by have := rec_count hll h; omega⟩
    have HL : Hid (l.length ≤ 4096 ∧ 1 ≤ turn.toInt ∧ a ≤ l.length ∧ n = l.length - a) := ⟨hll, ht, ha, hn⟩
    have haI : (a : Int) ≤ 4096 := by omega
    have hnI : (n : Int) ≤ 4096 ∧ (1 : Int) ≤ n := by omega
    have hn0 : ((n : Int) == 0) = false := by simp; omega
    have hc0 : wrap64 ((c : Int) - 1 + 1) = (c : Int) := by unfold wrap64; omega
    obtain ⟨T, hT⟩ : ∃ T, T = turn.toInt := ⟨_, rfl⟩
    rw [← hT]
    have HTu : Hid (T = turn.toInt) := hT
    obtain ⟨hc1a, hc1b⟩ := hc1
    clear hr ht hn hcb hc hT hbe hll ha
    by_cases hlt : (n : Int) < c
    · have HE : Hid (∀ t, ¬ RecAt l turn a t) := fun t h => by
        have h1 := HC.out.2.2 t h
        have h2 := h.fit
        have h3 := HL.out
        omega
      go_enter Try.func35, Try.ntmps35
      go_wp2_with fail
      go_ret2
      exact ⟨.inr ⟨HE.out, rfl⟩, Below.refl _ _⟩
    · have hcn : c ≤ n := by omega
      go_enter Try.func35, Try.ntmps35
      go_wp2_with fail
      go_loopg [27] c (fun gg s27 wx => ∃ k : Nat, k + gg = c ∧ s27 = .int .i64 k ∧ Fit l turn a c k ∧ IsB wx w.heap.size w.heap.size (accS l a k) ∧ Below w.heap.size w wx)
      case atStart => exact ⟨0, by omega, rfl, fun i hi => by omega, isB_new w, below1 _ _⟩
      case round =>
        obtain ⟨k, hkg, rfl, hfit, hB, hbel⟩ := hrel
        have HF : Hid (Fit l turn a c k) := hfit
        have HB : Hid (IsB wr w.heap.size w.heap.size (accS l a k) ∧ Below w.heap.size w wr) := ⟨hB, hbel⟩
        by_cases hk : k < c
        · have hkI : (k : Int) < c := by omega
          have hk0 : 0 ≤ (k : Int) ∧ (k : Int) < n := by omega
          obtain ⟨p, hp⟩ : ∃ p, p = prt (l.getD (a + k) []) := ⟨_, rfl⟩
          have c0 := HRow.out wr k 0 (.int .i64 p.turn.toInt) hbel (by omega) (by rw [hp]; rfl)
          have c1 := HRow.out wr k 1 (.int .i64 p.num.toInt) hbel (by omega) (by rw [hp]; rfl)
          have c2 := HRow.out wr k 2 (.int .i64 p.ahead.toInt) hbel (by omega) (by rw [hp]; rfl)
          have c3 := HRow.out wr k 3 (.int .i64 p.behind.toInt) hbel (by omega) (by rw [hp]; rfl)
          have c4 := HRow.out wr k 4 (.string (strB p.s)) hbel (by omega) (by rw [hp]; rfl)
          have c0 : wr.cell? ⟨g, a * 5 + k * 5, none⟩ = some (.int .i64 p.turn.toInt) := c0
          have HP : Hid (p = prt (l.getD (a + k) [])) := hp
          have HS : Hid (∀ t, RecAt l turn a t → HeadOk p turn a c k ∧ LenOk p c k) := fun t h => by
            have h1 := rec_head HL.out.1 h (i := k) (by rw [HC.out.2.2 t h]; exact hk)
            rw [← hp, HC.out.2.2 t h] at h1
            exact h1
          have HLe : Hid (p.s.length ≤ 96) := by rw [hp]; exact prt_len _
          clear hp hfit hB hbel
          by_cases hh : HeadOk p turn a c k
          · have hh1 := hh.turn
            rw [← HTu.out] at hh1
            rw [hh1] at c0
            rw [hh.num] at c1
            rw [hh.ahead] at c2
            rw [hh.behind] at c3
            have hz : (strB p.s).size = p.s.length := rfl
            by_cases hlo : LenOk p c k
            · have HOK : Hid (HeadOk p turn a c k ∧ LenOk p c k) := ⟨hh, hlo⟩
              have hcase : ¬ (0 < (c : Int) - 1 - (k : Int)) ∨ (0 < (c : Int) - 1 - (k : Int) ∧ ¬ ((strB p.s).size : Int) < 96) := by
                by_cases h : k + 1 < c
                · have := hlo h; omega
                · omega
              have cw := fun W (h1 : IsB W w.heap.size w.heap.size (accS l a k)) (h2 : w.heap.size ≤ W.heap.size) => bld_write h1 p.s (by have := acc_le (l := l) (a := a) k; have := HLe.out; omega) h2
              have HW := (show Hid _ from cw)
              obtain ⟨P, hP⟩ : ∃ P, P = strB p.s := ⟨_, rfl⟩
              rw [← hP] at c4 hcase HW
              clear hh hlo hh1 hz cw hP
              rcases hcase with h96 | ⟨h95, h96⟩
              all_goals
                go_wp2_with fail
                have bal := below1 wr (.cells #[.int .i64 T, .int .i64 ((a : Int) + (k : Int)), .int .i64 (k : Int), .int .i64 ((c : Int) - 1 - (k : Int)), .string P] 83)
                refine (HW.out _ (HB.out.1.over bal) (Nat.le_trans HB.out.2.size bal.size)).mono ?_
                rintro e w3 ⟨rfl, hB3, hb3⟩
                have HB3 : Hid (IsB w3 w.heap.size w.heap.size (accS l a k ++ p.s) ∧ Below w.heap.size w w3) := ⟨hB3, (HB.out.2.trans (bal.mono HB.out.2.size)).trans hb3⟩
                clear bal hB3 hb3
                go_wp2_with fail
                go_roundg (c - (k + 1))
                case measure => omega
                case rel =>
                  refine ⟨k + 1, by omega, by go_num, ?_, ?_, HB3.out.2⟩
                  · intro i hi
                    by_cases hik : i < k
                    · exact HF.out i hik
                    · have : i = k := by omega
                      subst this
                      rw [← HP.out]
                      exact HOK.out
                  · rw [accS, ← HP.out]
                    exact HB3.out.1
            · have HE : Hid (∀ t, ¬ RecAt l turn a t) := fun t h => hlo (HS.out t h).2
              have h95 : 0 < (c : Int) - 1 - (k : Int) := by
                by_cases h : k + 1 < c
                · omega
                · exact absurd (fun h2 => absurd h2 h) hlo
              have h96 : ((strB p.s).size : Int) < 96 := by
                by_cases h : (strB p.s).size < 96
                · omega
                · exact absurd (fun _ => by omega) hlo
              obtain ⟨P, hP⟩ : ∃ P, P = strB p.s := ⟨_, rfl⟩
              rw [← hP] at c4 h96
              clear hh hlo hh1 hz hP
              go_wp2_with fail
              go_ret2
              exact ⟨.inr ⟨HE.out, rfl⟩, HB.out.2.trans ((below1 _ _).mono HB.out.2.size)⟩
          · have HE : Hid (∀ t, ¬ RecAt l turn a t) := fun t h => hh (HS.out t h).1
            have hcase : ¬ p.turn.toInt = T ∨ (p.turn.toInt = T ∧ ¬ p.num.toInt = (a : Int) + (k : Int)) ∨ (p.turn.toInt = T ∧ p.num.toInt = (a : Int) + (k : Int) ∧ ¬ p.ahead.toInt = (k : Int)) ∨ (p.turn.toInt = T ∧ p.num.toInt = (a : Int) + (k : Int) ∧ p.ahead.toInt = (k : Int) ∧ ¬ p.behind.toInt = (c : Int) - 1 - (k : Int)) := by
              by_cases h1 : p.turn.toInt = T
              · by_cases h2 : p.num.toInt = (a : Int) + (k : Int)
                · by_cases h3 : p.ahead.toInt = (k : Int)
                  · by_cases h4 : p.behind.toInt = (c : Int) - 1 - (k : Int)
                    · exact absurd ⟨by rw [h1, HTu.out], h2, h3, h4⟩ hh
                    · exact .inr (.inr (.inr ⟨h1, h2, h3, h4⟩))
                  · exact .inr (.inr (.inl ⟨h1, h2, h3⟩))
                · exact .inr (.inl ⟨h1, h2⟩)
              · exact .inl h1
            obtain ⟨t1, ht1⟩ : ∃ t, t = p.turn.toInt := ⟨_, rfl⟩
            obtain ⟨t2, ht2⟩ : ∃ t, t = p.num.toInt := ⟨_, rfl⟩
            obtain ⟨t3, ht3⟩ : ∃ t, t = p.ahead.toInt := ⟨_, rfl⟩
            obtain ⟨t4, ht4⟩ : ∃ t, t = p.behind.toInt := ⟨_, rfl⟩
            rw [← ht1] at c0 hcase
            rw [← ht2] at c1 hcase
            rw [← ht3] at c2 hcase
            rw [← ht4] at c3 hcase
            obtain ⟨P, hP⟩ : ∃ P, P = strB p.s := ⟨_, rfl⟩
            rw [← hP] at c4
            clear hh ht1 ht2 ht3 ht4 hP
            rcases hcase with h1 | ⟨rfl, h1⟩ | ⟨rfl, rfl, h1⟩ | ⟨rfl, rfl, rfl, h1⟩
            all_goals
              go_wp2_with fail
              go_ret2
              exact ⟨.inr ⟨HE.out, rfl⟩, HB.out.2.trans ((below1 _ _).mono HB.out.2.size)⟩
        · have hkc : k = c := by omega
          subst hkc
          have hkI : ¬ (k : Int) < k := by omega
          have cl := bld_len hB
          have csr := bld_string hB hbel.size
          obtain ⟨X, hX⟩ : ∃ X, X = accS l a k := ⟨_, rfl⟩
          obtain ⟨m, hm⟩ : ∃ m, m = (accS l a k).length := ⟨_, rfl⟩
          obtain ⟨Y, hY⟩ : ∃ Y, Y = strB (accS l a k) := ⟨_, rfl⟩
          rw [← hm] at cl
          rw [← hY] at csr
          have hm8 : m ≤ 8352 := by have := acc_le (l := l) (a := a) k; have := HC.out; omega
          have HBel : Hid (Below w.heap.size w wr) := hbel
          by_cases h8 : (8192 : Int) < m
          · have HE : Hid (∀ t, ¬ RecAt l turn a t) := fun t h => by
              have h1 := rec_acc h k (by rw [HC.out.2.2 t h]; exact Nat.le_refl _)
              rw [h1, List.length_take] at hm
              have := h.s1
              omega
            clear hfit hB hm hY hX hbel
            go_wp2_with fail
            refine cl.mono ?_
            rintro e w2 ⟨rfl, hw2⟩
            replace hw2 := hw2.symm
            subst hw2
            go_wp2_with fail
            go_ret2
            exact ⟨.inr ⟨HE.out, rfl⟩, HBel.out⟩
          · have HE : Hid (RecAt l turn a (accS l a k) ∧ Y = strB (accS l a k)) := by
              obtain ⟨q1, q2, q3, q4⟩ := HL.out
              exact ⟨rec_of_fit q2 HC.out.1 HC.out.2.1 (by omega) q1 hfit (by omega), hY⟩
            clear hfit hB hm hY hX hbel
            go_wp2_with fail
            refine cl.mono ?_
            rintro e w2 ⟨rfl, hw2⟩
            replace hw2 := hw2.symm
            subst hw2
            go_wp2_with fail
            refine csr.mono ?_
            rintro e w2 ⟨rfl, hb2⟩
            go_wp2_with fail
            go_ret2
            exact ⟨.inl ⟨_, HE.out.1, by rw [← HE.out.2]; rfl⟩, HBel.out.trans hb2⟩
end Go.Proofs.Ytgffplfpoopolaa
/-
  The contract of package journal's keep.
-/
namespace Go.Proofs.Ytgffplfpoopolaa
open Go.RowKit Leb

theorem jc_set4 (d rv rv' : Value) (f c turn u : Int) : (jc d f c turn rv u).setIfInBounds 4 rv' = jc d f c turn rv' u := rfl
theorem jc_set5 (d rv : Value) (f c turn u u' : Int) : (jc d f c turn rv u).setIfInBounds 5 (.int .i64 u') = jc d f c turn rv u' := rfl
/-- What keep leaves. -/
def KeepAns (p : Nat) (d rv : Value) (f c turn : Int) (u : Nat) (l : List ByteArray) (w : World) (e : Ending) (w' : World) : Prop :=
  e = .returned (.tuple #[]) ∧ ∃ rv', Box w' p 63 (jc d f c turn rv' u) ∧ OwnsS w' 0 rv' l ∧ Kept (fun k => k = p ∨ rv.ownBlock = some k) w w' ∧ (∀ k, rv'.ownBlock = some k → k ≠ p ∧ (rv.ownBlock = some k ∨ w.heap.size ≤ k))
theorem owns_lt {w : World} {B : Nat} {v : Value} {l : List ByteArray} (h : OwnsS w B v l) {k : Nat} (hk : v.ownBlock = some k) : k < w.heap.size := (World.ownsRow.lt h k hk).2
theorem OwnsS.keptS {w w' : World} {B : Nat} {v : Value} {l : List ByteArray} (h : OwnsS w B v l) (e : ∀ k, v.ownBlock = some k → w'.heap[k]? = w.heap[k]?) : OwnsS w' B v l := by
  refine ⟨h.1, ?_⟩
  rcases h.2 with hn | ⟨g, cap, cur, rfl, hbg, hg, rest⟩
  · exact .inl hn
  · exact .inr ⟨g, cap, cur, rfl, hbg, by rw [e g rfl]; exact hg, rest⟩
set_option maxRecDepth 4000 in
set_option maxHeartbeats 1600000 in
theorem jkeep_any {w : World} {p : Nat} {d rv : Value} {f c turn : Int} {u : Nat} {l : List ByteArray} (B : Box w p 63 (jc d f c turn rv u)) (R : OwnsS w 0 rv l) (hne : ∀ k, rv.ownBlock = some k → k ≠ p) (s : List UInt8) (h1 : 1 ≤ s.length) (h2 : s.length ≤ 8192) (hu : u ≤ 10000) (hl : l.length ≤ 10000) :
    Calls Try.prog 33 #[.pointer (some ⟨p, 0, none⟩), .string (strB s)] w (KeepAns p d rv f c turn (u + needs s.length) (l ++ [strB s]) w) := by
  obtain ⟨i0, hi, hz0, hz1, hz2⟩ := info_parts info_text
  have hpw := B.lt
  have cn := fun w => jneeds_any (s.length : Int) w
  rw [needsI_nat h1 h2] at cn
  have hnl := needs_le h2
  have hz : (strB s).size = s.length := rfl
  have x4 := jc4 B
  obtain ⟨N, hN⟩ : ∃ N, N = needs s.length := ⟨_, rfl⟩
  rw [← hN] at cn hnl ⊢
  obtain ⟨S, hS⟩ : ∃ S, S = strB s := ⟨_, rfl⟩
  rw [← hS] at hz ⊢
  obtain ⟨n, hn⟩ : ∃ n, n = s.length := ⟨_, rfl⟩
  rw [← hn] at hz cn h2
  have hown : (w.alloc (.cells #[.string S] 9)).ownsRow 0 9 1 rv l.length (sv l) := World.ownsRow.alloc R _
  have HI : Hid (Try.prog.info? 9 = some i0 ∧ i0.zero = some (.string ByteArray.empty) ∧ i0.size = 1 ∧ i0.bytes = 16) := ⟨hi, hz0, hz1, hz2⟩
  have HB : Hid (Box w p 63 (jc d f c turn rv u) ∧ OwnsS w 0 rv l ∧ ∀ k, rv.ownBlock = some k → k ≠ p) := ⟨B, R, hne⟩
  have hnw := cell_one_new w (.string S) 9
  have huI : (u : Int) ≤ 10000 := by omega
  have hNI : (N : Int) ≤ 86 := by omega
  have hwr : IntKind.i64.wrap ((u : Int) + (N : Int)) = (u : Int) + (N : Int) := by rw [IntKind.wrap_i64]; omega
  clear hN hS hn B R hne hi hz0 hz1 hz2 h1 h2
  go_enter Try.func33, Try.ntmps33
  go_wp2_with (at_builtin; refine wpList_append_lies _ rfl (.tmp 8) (.tmp 10) 27 rfl 0 9 i0 (.string ByteArray.empty) 1 16 Try.underlying27 HI.out.1 HI.out.2.1 HI.out.2.2.1 HI.out.2.2.2 rfl (by decide) rv l.length (sv l) (by simp [Act.eval]) hown ⟨w.heap.size, 0, none⟩ 1 1 [.string S] (by simp [Act.eval]) rfl hnw (fun u hu => by simp at hu; subst hu; rfl) (by decide) (by simp only [maxLen]; omega) (by omega) (Nat.zero_le _) (w.heap.size + 1) (by simp) ?_; intro g cap w3 hown3 hgrow hat hlt; have K1 : Kept (fun k => k = p ∨ rv.ownBlock = some k) w w3 := ((Kept.refl _ w).alloc _).grown hgrow (fun k hk => .inl (.inr hk)); have B3 : Box w3 p 63 (jc d f c turn rv u) := HB.out.1.of_block ((hgrow.block p (by simp; omega) (fun e => HB.out.2.2 p e.symm rfl)).trans (heap_alloc_old _ _ hpw)); have y4 := jc4 B3; have z4 := B3.frozen 4; have HX : Hid (w3.ownsRow 0 9 1 (.slice (some ⟨g, 0, none⟩) (l.length + 1) cap) (l.length + 1) (sv l ++ [.string S]) ∧ Kept (fun k => k = p ∨ rv.ownBlock = some k) w w3 ∧ Box w3 p 63 (jc d f c turn rv u) ∧ (rv.ownBlock = some g ∨ g = w.heap.size + 1)) := ⟨hown3, K1, B3, hat⟩; clear hown3 K1 B3 hat hgrow x4 hown hnw)
  obtain ⟨rv', hrv⟩ : ∃ rv', rv' = Value.slice (some ⟨g, 0, none⟩) (l.length + 1) cap := ⟨_, rfl⟩
  have B4 : Box (w3.setCell ⟨p, 4, none⟩ rv') p 63 (jc d f c turn rv' u) := by
    have := HX.out.2.2.1.set 4 rv'
    rw [jc_set4] at this
    exact this
  have hgp : g ≠ p := by
    rcases HX.out.2.2.2 with h | h
    · exact HB.out.2.2 g h
    · omega
  rw [← hrv]
  have O4 : OwnsS (w3.setCell ⟨p, 4, none⟩ rv') 0 rv' (l ++ [S]) := by
    have h := HX.out.1
    rw [← hrv] at h
    have h3 : OwnsS w3 0 rv' (l ++ [S]) := by simpa [OwnsS, sv] using h
    exact h3.keptS fun k hk => by
      rw [hrv] at hk
      have : k = g := by simpa [Value.ownBlock] using hk.symm
      subst this
      exact heap_setCell_other _ _ _ _ hgp
  have K4 : Kept (fun k => k = p ∨ rv.ownBlock = some k) w (w3.setCell ⟨p, 4, none⟩ rv') := HX.out.2.1.setCell (.inl (.inl rfl)) _
  have L4 : ∀ k, rv'.ownBlock = some k → k ≠ p ∧ (rv.ownBlock = some k ∨ w.heap.size ≤ k) := by
    intro k hk
    rw [hrv] at hk
    have : k = g := by simpa [Value.ownBlock] using hk.symm
    subst this
    refine ⟨hgp, ?_⟩
    rcases HX.out.2.2.2 with h | h
    · exact .inl h
    · exact .inr (by omega)
  obtain ⟨W, hW⟩ : ∃ W, W = w3.setCell ⟨p, 4, none⟩ rv' := ⟨_, rfl⟩
  rw [← hW] at B4 O4 K4 ⊢
  have HA : Hid (Box W p 63 (jc d f c turn rv' u) ∧ OwnsS W 0 rv' (l ++ [S]) ∧ Kept (fun k => k = p ∨ rv.ownBlock = some k) w W ∧ ∀ k, rv'.ownBlock = some k → k ≠ p ∧ (rv.ownBlock = some k ∨ w.heap.size ≤ k)) := ⟨B4, O4, K4, L4⟩
  have q5 := jc5 B4
  have f5 := B4.frozen 5
  clear hW hrv B4 O4 K4 L4 hgp HX y4 z4
  refine wp_region_held_then (fun w' : World => w'.cell? ⟨p, 5, none⟩ = some (.int .i64 u)) _ (by kernel_rfl) rfl (by kernel_rfl) ?_
  have hHeld : (fun w' : World => w'.cell? ⟨p, 5, none⟩ = some (.int .i64 u)) W.drew := q5
  dsimp only [List.dropLast, List.length, List.getLast]
  ((refine takeL 0 (v := ?_) rfl (by kernel_rfl) (by kernel_rfl) (by kernel_rfl) (fun _ _ _ h => h) (by rfl) hHeld ?_ ?_; rotate_left; focus (intro w hSw; (try dsimp only at hSw); go_simp <;> with_reducible rfl); (try simp only [Act.put, List.setIfInBounds_toArray, List.set_cons_zero, List.set_cons_succ])); (refine takeL 1 (v := ?_) rfl (by kernel_rfl) (by kernel_rfl) (by kernel_rfl) (fun _ _ _ h => h) (by rfl) hHeld ?_ ?_; rotate_left; focus (intro w hSw; (try dsimp only at hSw); go_simp <;> with_reducible rfl); (try simp only [Act.put, List.setIfInBounds_toArray, List.set_cons_zero, List.set_cons_succ])); (refine takeL 2 (v := ?_) rfl (by kernel_rfl) (by kernel_rfl) (by kernel_rfl) (fun _ _ _ h => h) (by rfl) hHeld ?_ ?_; rotate_left; focus (intro w hSw; (try dsimp only at hSw); go_simp <;> with_reducible rfl); (try simp only [Act.put, List.setIfInBounds_toArray, List.set_cons_zero, List.set_cons_succ])); (refine takeL 3 (v := ?_) rfl (by kernel_rfl) (by kernel_rfl) (by kernel_rfl) (fun _ _ _ h => h) (by rfl) hHeld ?_ ?_; rotate_left; focus (intro w hSw; (try dsimp only at hSw); go_simp <;> with_reducible rfl); (try simp only [Act.put, List.setIfInBounds_toArray, List.set_cons_zero, List.set_cons_succ])); (refine takeL 4 (v := ?_) rfl (by kernel_rfl) (by kernel_rfl) (by kernel_rfl) (fun _ _ _ h => h) (by rfl) hHeld ?_ ?_; rotate_left; focus (intro w hSw; (try dsimp only at hSw); go_simp <;> with_reducible rfl); (try simp only [Act.put, List.setIfInBounds_toArray, List.set_cons_zero, List.set_cons_succ])); (refine takeL 5 (v := ?_) rfl (by kernel_rfl) (by kernel_rfl) (by kernel_rfl) (fun _ _ _ h => h) (by rfl) hHeld ?_ ?_; rotate_left; focus (intro w hSw; (try dsimp only at hSw); go_simp <;> with_reducible rfl); (try simp only [Act.put, List.setIfInBounds_toArray, List.set_cons_zero, List.set_cons_succ])))
  dsimp only [Act.put]
  simp only [List.setIfInBounds_toArray, List.set_cons_zero, List.set_cons_succ]
  refine callL 6 (f := 19) (vs := #[.int .i64 n]) rfl (by kernel_rfl) (by rfl) (by go_simp) ?_
  refine (cn _).mono ?_
  rintro e w5 ⟨rfl, hw5⟩
  subst hw5
  refine ⟨_, rfl, hHeld, ?_⟩
  ((refine takeL 7 (v := ?_) rfl (by kernel_rfl) (by kernel_rfl) (by kernel_rfl) (fun _ _ _ h => h) (by rfl) hHeld ?_ ?_; rotate_left; focus (intro w hSw; (try dsimp only at hSw); go_simp <;> with_reducible rfl); (try simp only [Act.put, List.setIfInBounds_toArray, List.set_cons_zero, List.set_cons_succ])); (refine takeL 8 (v := ?_) rfl (by kernel_rfl) (by kernel_rfl) (by kernel_rfl) (fun _ _ _ h => h) (by rfl) hHeld ?_ ?_; rotate_left; focus (intro w hSw; (try dsimp only at hSw); go_simp <;> with_reducible rfl); (try simp only [Act.put, List.setIfInBounds_toArray, List.set_cons_zero, List.set_cons_succ])); (refine takeL 9 (v := ?_) rfl (by kernel_rfl) (by kernel_rfl) (by kernel_rfl) (fun _ _ _ h => h) (by rfl) hHeld ?_ ?_; rotate_left; focus (intro w hSw; (try dsimp only at hSw); go_simp <;> with_reducible rfl); (try simp only [Act.put, List.setIfInBounds_toArray, List.set_cons_zero, List.set_cons_succ])))
  try dsimp only [Act.put]
  try simp only [List.setIfInBounds_toArray, List.set_cons_zero, List.set_cons_succ]
  refine doneL (by kernel_rfl) ?_
  try dsimp only [Act.put]
  unfold Oper.wp
  go_simp
  go_wp2_with fail
  refine bodyPost_end (results_none rfl _ _ _) rfl ?_
  obtain ⟨B4, O4, K4, L4⟩ := HA.out
  have B5 := B4.set 5 (.int .i64 ((u : Int) + (N : Int)))
  rw [jc_set5] at B5
  refine ⟨rfl, rv', ?_, ?_, (K4.setCell (.inl (.inl rfl)) _).drew, L4⟩
  · rw [show ((u + N : Nat) : Int) = (u : Int) + (N : Int) by omega]
    exact B5.drew
  · exact O4.keptS fun k hk => heap_setCell_other _ _ _ _ (L4 k hk).1
end Go.Proofs.Ytgffplfpoopolaa
/-
  The contract of package journal's Open.
-/
namespace Go.Proofs.Ytgffplfpoopolaa
open Go.RowKit Leb

/-- A journal in memory: where it lies. -/
structure Jh where
  H : Hnd
  p : Nat
  rv : Value
def Jh.foot (J : Jh) (k : Nat) : Prop := J.H.foot k ∨ k = J.p ∨ J.rv.ownBlock = some k
structure Jnl (w : World) (J : Jh) (s : St) (f c : Nat) (turn : BitVec 64) (u : Nat) (out : List (List UInt8)) : Prop where
  dev : DevIs w J.H s
  box : Box w J.p 63 (jc (.pointer (some ⟨J.H.p, 0, none⟩)) f c turn.toInt J.rv u)
  recs : OwnsS w 0 J.rv (bks out)
  np : ¬ J.H.foot J.p
  nr : ∀ k, J.rv.ownBlock = some k → k ≠ J.p ∧ ¬ J.H.foot k
theorem Jnl.lt {w : World} {J : Jh} {s : St} {f c : Nat} {turn : BitVec 64} {u : Nat} {out : List (List UInt8)} (j : Jnl w J s f c turn u out) {k : Nat} (hk : J.foot k) : k < w.heap.size := by
  rcases hk with h | h | h
  · exact j.dev.lt h
  · rw [h]; exact j.box.lt
  · exact owns_lt j.recs h
theorem Jnl.over {w w' : World} {J : Jh} {s : St} {f c : Nat} {turn : BitVec 64} {u : Nat} {out : List (List UInt8)} (j : Jnl w J s f c turn u out) (b : Below w.heap.size w w') : Jnl w' J s f c turn u out :=
  ⟨j.dev.below b, j.box.over b, j.recs.below b, j.np, j.nr⟩
/-- What a call leaves of the memory beside a journal. -/
structure JTurned (J J' : Jh) (w w' : World) : Prop where
  p : J'.p = J.p
  hp : J'.H.p = J.H.p
  kept : Kept J.foot w w'
  foot : ∀ k, J'.foot k → J.foot k ∨ w.heap.size ≤ k
theorem JTurned.refl (J : Jh) (w : World) : JTurned J J w w := ⟨rfl, rfl, Kept.refl _ _, fun _ h => .inl h⟩
theorem JTurned.trans {J J' J'' : Jh} {a b c : World} (h : JTurned J J' a b) (k : JTurned J' J'' b c) : JTurned J J'' a c :=
  ⟨k.p.trans h.p, k.hp.trans h.hp, h.kept.trans k.kept h.foot, fun x hx => by
    rcases k.foot x hx with h1 | h1
    · exact h.foot x h1
    · right; have := h.kept.size; omega⟩
theorem JTurned.of_below {J J' : Jh} {a b c : World} (h : JTurned J J' a b) (k : Below b.heap.size b c) : JTurned J J' a c := h.trans ⟨rfl, rfl, kept_of_below _ k, fun _ h => .inl h⟩
theorem JTurned.pre {J J' : Jh} {a b c : World} (k : Below a.heap.size a b) (h : JTurned J J' b c) : JTurned J J' a c := (JTurned.of_below (JTurned.refl J a) k).trans h
/-- What Open tells of a device whose power is on. -/
def JOpenAns (H : Hnd) (s : St) (f c : Nat) (turn : BitVec 64) (w : World) (e : Ending) (w' : World) : Prop :=
  (((∀ b ∈ extL (lay s.sure s.wait) f c, okB b = true) ∧ ∃ (J : Jh) (u : Nat) (out : List (List UInt8)), e = .returned (.tuple #[.pointer (some ⟨J.p, 0, none⟩), .int .i64 0]) ∧ J.H = H ∧ Jnl w' J s f c turn u out ∧ Recs (extL (lay s.sure s.wait) f c) turn out u ∧ u ≤ c ∧ w.heap.size ≤ J.p ∧ ∀ k, J.rv.ownBlock = some k → w.heap.size ≤ k) ∨
    ((∃ b ∈ extL (lay s.sure s.wait) f c, okB b = false) ∧ e = .returned (.tuple #[.pointer none, .int .i64 5]))) ∧ Below w.heap.size w w'
set_option maxRecDepth 4000 in
set_option maxHeartbeats 1600000 in
theorem jopen_no (d : Value) (n : Nat) (hn : n ≤ 4096) (first count turn : Int) (hf : first < 9223372036854775808) (w : World) (hs : SizeUp d n w) (hm : mayJ n first count turn = false) :
    Calls Try.prog 18 #[d, .agg #[.int .i64 first, .int .i64 count], .int .i64 turn] w fun e w' => e = .returned (.tuple #[.pointer none, .int .i64 1]) ∧ Below w.heap.size w w' := by
  have hb1 := below1 w (.cells #[.int .i64 first, .int .i64 count] 37)
  have c := jbegin_no d n hn first count turn hf _ (fun w' b => hs w' (hb1.trans (b.mono hb1.size))) hm
  clear hs hm
  go_enter Try.func18, Try.ntmps18
  go_wp2_with fail
  refine c.mono ?_
  rintro e w1 ⟨rfl, hb2⟩
  go_wp2_with fail
  go_ret2
  exact ⟨rfl, hb1.trans (hb2.mono hb1.size)⟩
theorem jrecord_nil (l : List (List UInt8)) (turn : BitVec 64) (a : Nat) (ha : l.length ≤ a) (q : Option Addr) (cap : Nat) (w : World) :
    Calls Try.prog 35 #[.slice q 0 cap, .int .i64 turn.toInt, .int .i64 a] w fun e w' => ((∀ t, ¬ RecAt l turn a t) ∧ e = .returned (.tuple #[.string { data := #[] }, .bool false])) ∧ Below w.heap.size w w' := by
  have HE : Hid (∀ t, ¬ RecAt l turn a t) := rec_beyond ha
  go_enter Try.func35, Try.ntmps35
  go_wp2_with fail
  go_ret2
  exact ⟨⟨HE.out, rfl⟩, Below.refl _ _⟩
/-- What stays while Open goes on. -/
structure Opg (w wx : World) (H : Hnd) (s : St) (p g : Nat) (rv : Value) (f c : Nat) (turn : BitVec 64) (u : Nat) (out : List (List UInt8)) (R : List (List Value)) : Prop where
  dev : DevIs wx H s
  far : ∀ k, H.foot k → k < w.heap.size
  box : Box wx p 63 (jc (.pointer (some ⟨H.p, 0, none⟩)) f c turn.toInt rv u)
  recs : OwnsS wx 0 rv (bks out)
  rows : Rows wx g 83 (c * 5) 5 R
  pw : w.heap.size ≤ p
  gw : w.heap.size ≤ g
  pg : p ≠ g
  rw : ∀ k, rv.ownBlock = some k → w.heap.size ≤ k ∧ k ≠ p ∧ k ≠ g
  bel : Below w.heap.size w wx
theorem Opg.over {w w1 w2 : World} {H : Hnd} {s : St} {p g : Nat} {rv : Value} {f c : Nat} {turn : BitVec 64} {u : Nat} {out : List (List UInt8)} {R : List (List Value)} (o : Opg w w1 H s p g rv f c turn u out R) (b : Below w1.heap.size w1 w2) : Opg w w2 H s p g rv f c turn u out R :=
  ⟨o.dev.below b, o.far, o.box.over b, o.recs.below b, o.rows.of_block (b.block _ o.rows.lt), o.pw, o.gw, o.pg, o.rw, o.bel.trans (b.mono o.bel.size)⟩
theorem Opg.keep {w w1 w2 : World} {H : Hnd} {s : St} {p g : Nat} {rv : Value} {f c : Nat} {turn : BitVec 64} {u : Nat} {out : List (List UInt8)} {R : List (List Value)} (o : Opg w w1 H s p g rv f c turn u out R) {t : List UInt8} {e : Ending} (k : KeepAns p (.pointer (some ⟨H.p, 0, none⟩)) rv f c turn.toInt (u + needs t.length) (bks out ++ [strB t]) w1 e w2) : e = .returned (.tuple #[]) ∧ ∃ rv', Opg w w2 H s p g rv' f c turn (u + needs t.length) (out ++ [t]) R := by
  obtain ⟨he, rv', h1, h2, h3, h4⟩ := k
  have hn : ∀ x, H.foot x → ¬ (x = p ∨ rv.ownBlock = some x) := fun x hx h => by
    have := o.far x hx
    have := o.pw
    rcases h with h | h
    · omega
    · have := (o.rw x h).1; omega
  have hg : ¬ (g = p ∨ rv.ownBlock = some g) := fun h => by
    rcases h with h | h
    · exact o.pg h.symm
    · exact (o.rw g h).2.2 rfl
  refine ⟨he, rv', o.dev.kept h3 hn, o.far, h1, ?_, o.rows.kept h3 hg, o.pw, o.gw, o.pg, ?_, ?_⟩
  · rw [bks_snoc]
    exact h2
  · intro x hx
    obtain ⟨h5, h6⟩ := h4 x hx
    rcases h6 with h6 | h6
    · exact o.rw x h6
    · have := o.bel.size
      have := o.rows.lt
      exact ⟨by omega, h5, by omega⟩
  · exact o.bel.trans (h3.below (fun x hx => by
      rcases hx with rfl | hx
      · exact o.pw
      · exact (o.rw x hx).1) o.bel.size)
set_option maxRecDepth 4000 in
set_option maxHeartbeats 1600000 in
theorem jopen_on {w : World} {H : Hnd} {s : St} (D : DevIs w H s) (hoff : s.off = false) (f c : Nat) (hc : 1 ≤ c) (hfc : f + c ≤ s.sure.length) (hn : s.sure.length ≤ 4096) (hblk : ∀ b ∈ lay s.sure s.wait, b.length = 128) (turn : BitVec 64) (hm : mayJ s.sure.length f c turn.toInt = true) :
    Calls Try.prog 18 #[.pointer (some ⟨H.p, 0, none⟩), .agg (ev f c), .int .i64 turn.toInt] w (JOpenAns H s f c turn w) := by
  have hBl : (lay s.sure s.wait).length = s.sure.length := lay_len _ _
  have ht : 1 ≤ turn.toInt := by
    have := mayJ_nat hm
    obtain ⟨_, _, _, _, _, _, h, _⟩ := this
    exact h
  show Calls _ _ #[_, .agg #[.int .i64 f, .int .i64 c], _] w _
  have hb1 := below1 w (.cells #[.int .i64 f, .int .i64 c] 37)
  have B1 := box_new w #[.int .i64 f, .int .i64 c] 37
  have cb := jbegin_yes (some ⟨H.p, 0, none⟩) s.sure.length hn f c turn.toInt (by omega) _ (D.below hb1).up hm
  have HR : Hid (∀ W, DevIs W H s → Calls Try.prog 34 #[.pointer (some ⟨H.p, 0, none⟩), .agg #[.int .i64 f, .int .i64 c]] W (PartsAns (lay s.sure s.wait) f c W)) := fun W DW => jread_on DW hoff f c hc hfc hn hblk
  have HDV : Hid (DevIs w H s ∧ ∀ k, H.foot k → k < w.heap.size) := ⟨D, fun k hk => D.lt hk⟩
  obtain ⟨E, hE⟩ : ∃ E, E = extL (lay s.sure s.wait) f c := ⟨_, rfl⟩
  have hEl : E.length = c := by rw [hE]; exact extL_len (by omega)
  have HPA : Hid (∀ W e w', PartsAns (lay s.sure s.wait) f c W e w' → (((∀ b ∈ E, okB b = true) ∧ ∃ g, e = .returned (.tuple #[.slice (some ⟨g, 0, none⟩) c c, .int .i64 0]) ∧ Rows w' g 83 (c * 5) 5 (E.map prow) ∧ W.heap.size ≤ g) ∨
    ((∃ b ∈ E, okB b = false) ∧ e = .returned (.tuple #[.slice none 0 0, .int .i64 5]))) ∧ Below W.heap.size W w') := fun W e w' h => by rw [hE]; exact h
  have HEE : Hid (E = extL (lay s.sure s.wait) f c ∧ E.length = c ∧ 1 ≤ turn.toInt ∧ c ≤ 4096) := ⟨hE, hEl, ht, by omega⟩
  have hcI : (c : Int) ≤ 4096 := by omega
  obtain ⟨hp, hhp⟩ : ∃ hp, hp = H.p := ⟨_, rfl⟩
  have HH : Hid (hp = H.p) := hhp
  rw [← hhp] at HR cb ⊢
  obtain ⟨T, hT⟩ : ∃ T, T = turn.toInt := ⟨_, rfl⟩
  have HT : Hid (T = turn.toInt) := hT
  rw [← hT] at cb ⊢
  clear D hBl ht hfc hn hblk hm hE hEl hoff hhp hT hc
  go_enter Try.func18, Try.ntmps18
  go_wp2_with fail
  refine cb.mono ?_
  rintro e w1 ⟨⟨p, rfl, hbox, hpw⟩, hb2⟩
  have B2 := B1.over hb2
  have b12 := hb1.trans (hb2.mono hb1.size)
  have z0 : w1.cell? ⟨w.heap.size, 0, none⟩ = some (.int .i64 f) := B2.cell 0 _ rfl
  have z1 : w1.cell? ⟨w.heap.size, 1, none⟩ = some (.int .i64 c) := B2.cell 1 _ rfl
  have cr := HR.out w1 (HDV.out.1.below b12)
  have HX : Hid (Box w1 p 63 (jc (.pointer (some ⟨hp, 0, none⟩)) f c T (.slice none 0 0) 0) ∧ w.heap.size ≤ p ∧ Below w.heap.size w w1) := ⟨hbox, Nat.le_trans hb1.size hpw, b12⟩
  clear hb1 B1 cb hb2 B2 b12 hbox hpw
  go_wp2_with fail
  refine cr.mono ?_
  intro e w2 hans
  obtain ⟨hans, hb2⟩ := HPA.out w1 e w2 hans
  have b02 := HX.out.2.2.trans (hb2.mono HX.out.2.2.size)
  rcases hans with ⟨hok, g, rfl, hrows, hgw⟩ | ⟨hbad, rfl⟩
  · have HOK : Hid (∀ b ∈ E, okB b = true) := hok
    have O0 : Opg w w2 H s p g (.slice none 0 0) f c turn 0 [] (E.map prow) := by
      have hbx := HX.out.1
      rw [HH.out, HT.out] at hbx
      refine ⟨HDV.out.1.below b02, HDV.out.2, hbx.over hb2, ownsS_nil _ _, hrows, HX.out.2.1, Nat.le_trans HX.out.2.2.size hgw, ?_, ?_, b02⟩
      · have := HX.out.1.lt; omega
      · intro k hk; simp [Value.ownBlock] at hk
    have HO := (show Hid _ from O0)
    clear hok hrows hgw O0 b02 hb2 z0 z1 cr
    go_wp2_with fail
    go_loopg [] c (fun gg wx => ∃ (u : Nat) (out : List (List UInt8)) (rv : Value), u + gg = c ∧ Line E turn 0 out u ∧ Opg w wx H s p g rv f c turn u out (E.map prow))
    case atStart => exact ⟨0, [], _, by omega, rfl, HO.out⟩
    case round =>
      obtain ⟨u, out, rv, hug, hline, hop⟩ := hrel
      have HL : Hid (Line E turn 0 out u ∧ Opg w wr H s p g rv f c turn u out (E.map prow)) := ⟨hline, hop⟩
      have x5 : wr.cell? ⟨p, 5, none⟩ = some (.int .i64 u) := jc5 hop.box
      have huI : 0 ≤ (u : Int) ∧ (u : Int) ≤ c := by omega
      rcases Nat.lt_or_ge u c with hcu | hcu
      · have hcn : ¬ c = u := by omega
        have crec : ∀ W, Below wr.heap.size wr W → Calls Try.prog 35 #[.slice (some ⟨g, u * 5, none⟩) (c - u) (c - u), .int .i64 T, .int .i64 u] W (JRecAns E turn u W) := by
          intro W hW
          have h := jrecord_any E (by have := HEE.out; omega) turn HEE.out.2.2.1 u (by have := HEE.out; omega) g (c - u) (c * 5) W (hop.over hW).rows
          rw [HEE.out.2.1, ← HT.out] at h
          exact h
        clear hline hop
        go_wp2_with fail
        refine wp_region_held_then (fun w' : World => w'.cell? ⟨p, 5, none⟩ = some (.int .i64 u)) _ (by kernel_rfl) rfl (by kernel_rfl) ?_
        have hHeld : (fun w' : World => w'.cell? ⟨p, 5, none⟩ = some (.int .i64 u)) wr.drew := x5
        dsimp only [List.dropLast, List.length, List.getLast]
        ((refine takeL 0 (v := ?_) rfl (by kernel_rfl) (by kernel_rfl) (by kernel_rfl) (fun _ _ _ h => h) (by rfl) hHeld ?_ ?_; rotate_left; focus (intro w hSw; (try dsimp only at hSw); go_simp <;> with_reducible rfl); (try simp only [Act.put, List.setIfInBounds_toArray, List.set_cons_zero, List.set_cons_succ])); (refine takeL 1 (v := ?_) rfl (by kernel_rfl) (by kernel_rfl) (by kernel_rfl) (fun _ _ _ h => h) (by rfl) hHeld ?_ ?_; rotate_left; focus (intro w hSw; (try dsimp only at hSw); go_simp <;> with_reducible rfl); (try simp only [Act.put, List.setIfInBounds_toArray, List.set_cons_zero, List.set_cons_succ])); (refine takeL 2 (v := ?_) rfl (by kernel_rfl) (by kernel_rfl) (by kernel_rfl) (fun _ _ _ h => h) (by rfl) hHeld ?_ ?_; rotate_left; focus (intro w hSw; (try dsimp only at hSw); go_simp <;> with_reducible rfl); (try simp only [Act.put, List.setIfInBounds_toArray, List.set_cons_zero, List.set_cons_succ])); (refine takeL 3 (v := ?_) rfl (by kernel_rfl) (by kernel_rfl) (by kernel_rfl) (fun _ _ _ h => h) (by rfl) hHeld ?_ ?_; rotate_left; focus (intro w hSw; (try dsimp only at hSw); go_simp <;> with_reducible rfl); (try simp only [Act.put, List.setIfInBounds_toArray, List.set_cons_zero, List.set_cons_succ])); (refine takeL 4 (v := ?_) rfl (by kernel_rfl) (by kernel_rfl) (by kernel_rfl) (fun _ _ _ h => h) (by rfl) hHeld ?_ ?_; rotate_left; focus (intro w hSw; (try dsimp only at hSw); go_simp <;> with_reducible rfl); (try simp only [Act.put, List.setIfInBounds_toArray, List.set_cons_zero, List.set_cons_succ])); (refine takeL 5 (v := ?_) rfl (by kernel_rfl) (by kernel_rfl) (by kernel_rfl) (fun _ _ _ h => h) (by rfl) hHeld ?_ ?_; rotate_left; focus (intro w hSw; (try dsimp only at hSw); go_simp <;> with_reducible rfl); (try simp only [Act.put, List.setIfInBounds_toArray, List.set_cons_zero, List.set_cons_succ])); (refine takeL 6 (v := ?_) rfl (by kernel_rfl) (by kernel_rfl) (by kernel_rfl) (fun _ _ _ h => h) (by rfl) hHeld ?_ ?_; rotate_left; focus (intro w hSw; (try dsimp only at hSw); go_simp <;> with_reducible rfl); (try simp only [Act.put, List.setIfInBounds_toArray, List.set_cons_zero, List.set_cons_succ])); (refine takeL 7 (v := ?_) rfl (by kernel_rfl) (by kernel_rfl) (by kernel_rfl) (fun _ _ _ h => h) (by rfl) hHeld ?_ ?_; rotate_left; focus (intro w hSw; (try dsimp only at hSw); go_simp <;> with_reducible rfl); (try simp only [Act.put, List.setIfInBounds_toArray, List.set_cons_zero, List.set_cons_succ])); (refine takeL 8 (v := ?_) rfl (by kernel_rfl) (by kernel_rfl) (by kernel_rfl) (fun _ _ _ h => h) (by rfl) hHeld ?_ ?_; rotate_left; focus (intro w hSw; (try dsimp only at hSw); go_simp <;> with_reducible rfl); (try simp only [Act.put, List.setIfInBounds_toArray, List.set_cons_zero, List.set_cons_succ])); (refine takeL 9 (v := ?_) rfl (by kernel_rfl) (by kernel_rfl) (by kernel_rfl) (fun _ _ _ h => h) (by rfl) hHeld ?_ ?_; rotate_left; focus (intro w hSw; (try dsimp only at hSw); go_simp <;> with_reducible rfl); (try simp only [Act.put, List.setIfInBounds_toArray, List.set_cons_zero, List.set_cons_succ])); (refine takeL 10 (v := ?_) rfl (by kernel_rfl) (by kernel_rfl) (by kernel_rfl) (fun _ _ _ h => h) (by rfl) hHeld ?_ ?_; rotate_left; focus (intro w hSw; (try dsimp only at hSw); go_simp <;> with_reducible rfl); (try simp only [Act.put, List.setIfInBounds_toArray, List.set_cons_zero, List.set_cons_succ])))
        dsimp only [Act.put]
        simp only [List.setIfInBounds_toArray, List.set_cons_zero, List.set_cons_succ]
        refine callL 11 (f := 35) (vs := #[.slice (some ⟨g, u * 5, none⟩) (c - u) (c - u), .int .i64 T, .int .i64 u]) rfl (by kernel_rfl) (by rfl) (by go_simp) ?_
        refine (crec _ (Below.refl _ _).drew).mono ?_
        rintro e w3 ⟨hans, hb3⟩
        have O3 := HL.out.2.over ((Below.refl _ wr).drew.trans hb3)
        have HO3 := (show Hid _ from O3)
        have hHeld2 : (fun w' : World => w'.cell? ⟨p, 5, none⟩ = some (.int .i64 u)) w3 := jc5 O3.box
        rcases hans with ⟨t, hrec, rfl⟩ | ⟨hno, rfl⟩
        · have HREC : Hid (RecAt E turn u t) := hrec
          have ck := jkeep_any O3.box O3.recs (fun k hk => (O3.rw k hk).2.1) t hrec.s0 hrec.s1 (by have := HEE.out; omega) (by rw [bks_len]; have := line_count HL.out.1; have := HEE.out; omega)
          rw [← HH.out] at ck
          have HK : Hid (∀ e w', KeepAns p (.pointer (some ⟨hp, 0, none⟩)) rv f c turn.toInt (u + needs t.length) (bks out ++ [strB t]) w3 e w' → e = .returned (.tuple #[]) ∧ ∃ rv', Opg w w' H s p g rv' f c turn (u + needs t.length) (out ++ [t]) (E.map prow)) := fun e w' h => HO3.out.keep (by rw [← HH.out]; exact h)
          clear hrec O3
          refine ⟨_, rfl, hHeld2, ?_⟩
          ((refine takeL 12 (v := ?_) rfl (by kernel_rfl) (by kernel_rfl) (by kernel_rfl) (fun _ _ _ h => h) (by rfl) hHeld2 ?_ ?_; rotate_left; focus (intro w hSw; (try dsimp only at hSw); go_simp <;> with_reducible rfl); (try simp only [Act.put, List.setIfInBounds_toArray, List.set_cons_zero, List.set_cons_succ])); (refine takeL 13 (v := ?_) rfl (by kernel_rfl) (by kernel_rfl) (by kernel_rfl) (fun _ _ _ h => h) (by rfl) hHeld2 ?_ ?_; rotate_left; focus (intro w hSw; (try dsimp only at hSw); go_simp <;> with_reducible rfl); (try simp only [Act.put, List.setIfInBounds_toArray, List.set_cons_zero, List.set_cons_succ])); (refine takeL 14 (v := ?_) rfl (by kernel_rfl) (by kernel_rfl) (by kernel_rfl) (fun _ _ _ h => h) (by rfl) hHeld2 ?_ ?_; rotate_left; focus (intro w hSw; (try dsimp only at hSw); go_simp <;> with_reducible rfl); (try simp only [Act.put, List.setIfInBounds_toArray, List.set_cons_zero, List.set_cons_succ])))
          try dsimp only [Act.put]
          try simp only [List.setIfInBounds_toArray, List.set_cons_zero, List.set_cons_succ]
          refine newL 15 w3 (.string (strB t)) rfl (by kernel_rfl) (by rfl) (by go_simp) hHeld2 ?_
          refine doneL (by kernel_rfl) ?_
          try dsimp only [Act.put]
          unfold Oper.wp
          go_simp
          go_wp2_with fail
          refine ck.mono ?_
          intro e w4 hk
          obtain ⟨rfl, rv', O4⟩ := HK.out e w4 hk
          have HO4 := (show Hid _ from O4)
          clear O4 hk ck
          go_wp2_with fail
          go_roundg (c - (u + needs t.length))
          case measure =>
            have h1 := needs_pos HREC.out.s0
            have h2 := HREC.out.fit
            have h3 := HEE.out.2.1
            omega
          case rel =>
            have h2 := HREC.out.fit
            have h3 := HEE.out.2.1
            exact ⟨u + needs t.length, out ++ [t], rv', by omega, line_snoc HL.out.1 HREC.out, HO4.out⟩
        · have HNO : Hid (∀ t, ¬ RecAt E turn u t) := hno
          clear hno O3
          refine ⟨_, rfl, hHeld2, ?_⟩
          ((refine takeL 12 (v := ?_) rfl (by kernel_rfl) (by kernel_rfl) (by kernel_rfl) (fun _ _ _ h => h) (by rfl) hHeld2 ?_ ?_; rotate_left; focus (intro w hSw; (try dsimp only at hSw); go_simp <;> with_reducible rfl); (try simp only [Act.put, List.setIfInBounds_toArray, List.set_cons_zero, List.set_cons_succ])); (refine takeL 13 (v := ?_) rfl (by kernel_rfl) (by kernel_rfl) (by kernel_rfl) (fun _ _ _ h => h) (by rfl) hHeld2 ?_ ?_; rotate_left; focus (intro w hSw; (try dsimp only at hSw); go_simp <;> with_reducible rfl); (try simp only [Act.put, List.setIfInBounds_toArray, List.set_cons_zero, List.set_cons_succ])); (refine takeL 14 (v := ?_) rfl (by kernel_rfl) (by kernel_rfl) (by kernel_rfl) (fun _ _ _ h => h) (by rfl) hHeld2 ?_ ?_; rotate_left; focus (intro w hSw; (try dsimp only at hSw); go_simp <;> with_reducible rfl); (try simp only [Act.put, List.setIfInBounds_toArray, List.set_cons_zero, List.set_cons_succ])))
          try dsimp only [Act.put]
          try simp only [List.setIfInBounds_toArray, List.set_cons_zero, List.set_cons_succ]
          refine newL 15 w3 (.string { data := #[] }) rfl (by kernel_rfl) (by rfl) (by go_simp) hHeld2 ?_
          refine doneL (by kernel_rfl) ?_
          try dsimp only [Act.put]
          unfold Oper.wp
          go_simp
          go_wp2_with fail
          go_ret2
          have o := HO3.out
          refine ⟨.inl ⟨?_, ⟨H, p, rv⟩, u, out, rfl, rfl, ⟨o.dev, o.box, o.recs, ?_, ?_⟩, ?_, by omega, o.pw, fun k hk => (o.rw k hk).1⟩, o.bel⟩
          · rw [← HEE.out.1]; exact HOK.out
          · intro h; have := o.far p h; have := o.pw; omega
          · intro k hk; refine ⟨(o.rw k hk).2.1, fun h => ?_⟩; have := o.far k h; have := (o.rw k hk).1; omega
          · rw [← HEE.out.1]; exact ⟨HL.out.1, HNO.out⟩
      · have hcu2 : u = c := by omega
        have crec : ∀ W, Calls Try.prog 35 #[.slice (some ⟨g, 0, none⟩) 0 0, .int .i64 T, .int .i64 c] W fun e w' => ((∀ t, ¬ RecAt E turn c t) ∧ e = .returned (.tuple #[.string { data := #[] }, .bool false])) ∧ Below W.heap.size W w' := by
          intro W
          have h := jrecord_nil E turn c (by have := HEE.out; omega) (some ⟨g, 0, none⟩) 0 W
          rw [← HT.out] at h
          exact h
        rw [hcu2] at HL x5 huI
        clear hline hop hcu hcu2 hug
        go_wp2_with fail
        refine wp_region_held_then (fun w' : World => w'.cell? ⟨p, 5, none⟩ = some (.int .i64 c)) _ (by kernel_rfl) rfl (by kernel_rfl) ?_
        have hHeld : (fun w' : World => w'.cell? ⟨p, 5, none⟩ = some (.int .i64 c)) wr.drew := x5
        dsimp only [List.dropLast, List.length, List.getLast]
        ((refine takeL 0 (v := ?_) rfl (by kernel_rfl) (by kernel_rfl) (by kernel_rfl) (fun _ _ _ h => h) (by rfl) hHeld ?_ ?_; rotate_left; focus (intro w hSw; (try dsimp only at hSw); go_simp <;> with_reducible rfl); (try simp only [Act.put, List.setIfInBounds_toArray, List.set_cons_zero, List.set_cons_succ])); (refine takeL 1 (v := ?_) rfl (by kernel_rfl) (by kernel_rfl) (by kernel_rfl) (fun _ _ _ h => h) (by rfl) hHeld ?_ ?_; rotate_left; focus (intro w hSw; (try dsimp only at hSw); go_simp <;> with_reducible rfl); (try simp only [Act.put, List.setIfInBounds_toArray, List.set_cons_zero, List.set_cons_succ])); (refine takeL 2 (v := ?_) rfl (by kernel_rfl) (by kernel_rfl) (by kernel_rfl) (fun _ _ _ h => h) (by rfl) hHeld ?_ ?_; rotate_left; focus (intro w hSw; (try dsimp only at hSw); go_simp <;> with_reducible rfl); (try simp only [Act.put, List.setIfInBounds_toArray, List.set_cons_zero, List.set_cons_succ])); (refine takeL 3 (v := ?_) rfl (by kernel_rfl) (by kernel_rfl) (by kernel_rfl) (fun _ _ _ h => h) (by rfl) hHeld ?_ ?_; rotate_left; focus (intro w hSw; (try dsimp only at hSw); go_simp <;> with_reducible rfl); (try simp only [Act.put, List.setIfInBounds_toArray, List.set_cons_zero, List.set_cons_succ])); (refine takeL 4 (v := ?_) rfl (by kernel_rfl) (by kernel_rfl) (by kernel_rfl) (fun _ _ _ h => h) (by rfl) hHeld ?_ ?_; rotate_left; focus (intro w hSw; (try dsimp only at hSw); go_simp <;> with_reducible rfl); (try simp only [Act.put, List.setIfInBounds_toArray, List.set_cons_zero, List.set_cons_succ])); (refine takeL 5 (v := ?_) rfl (by kernel_rfl) (by kernel_rfl) (by kernel_rfl) (fun _ _ _ h => h) (by rfl) hHeld ?_ ?_; rotate_left; focus (intro w hSw; (try dsimp only at hSw); go_simp <;> with_reducible rfl); (try simp only [Act.put, List.setIfInBounds_toArray, List.set_cons_zero, List.set_cons_succ])); (refine takeL 6 (v := ?_) rfl (by kernel_rfl) (by kernel_rfl) (by kernel_rfl) (fun _ _ _ h => h) (by rfl) hHeld ?_ ?_; rotate_left; focus (intro w hSw; (try dsimp only at hSw); go_simp <;> with_reducible rfl); (try simp only [Act.put, List.setIfInBounds_toArray, List.set_cons_zero, List.set_cons_succ])); (refine takeL 7 (v := ?_) rfl (by kernel_rfl) (by kernel_rfl) (by kernel_rfl) (fun _ _ _ h => h) (by rfl) hHeld ?_ ?_; rotate_left; focus (intro w hSw; (try dsimp only at hSw); go_simp <;> with_reducible rfl); (try simp only [Act.put, List.setIfInBounds_toArray, List.set_cons_zero, List.set_cons_succ])); (refine takeL 8 (v := ?_) rfl (by kernel_rfl) (by kernel_rfl) (by kernel_rfl) (fun _ _ _ h => h) (by rfl) hHeld ?_ ?_; rotate_left; focus (intro w hSw; (try dsimp only at hSw); go_simp <;> with_reducible rfl); (try simp only [Act.put, List.setIfInBounds_toArray, List.set_cons_zero, List.set_cons_succ])); (refine takeL 9 (v := ?_) rfl (by kernel_rfl) (by kernel_rfl) (by kernel_rfl) (fun _ _ _ h => h) (by rfl) hHeld ?_ ?_; rotate_left; focus (intro w hSw; (try dsimp only at hSw); go_simp <;> with_reducible rfl); (try simp only [Act.put, List.setIfInBounds_toArray, List.set_cons_zero, List.set_cons_succ])); (refine takeL 10 (v := ?_) rfl (by kernel_rfl) (by kernel_rfl) (by kernel_rfl) (fun _ _ _ h => h) (by rfl) hHeld ?_ ?_; rotate_left; focus (intro w hSw; (try dsimp only at hSw); go_simp <;> with_reducible rfl); (try simp only [Act.put, List.setIfInBounds_toArray, List.set_cons_zero, List.set_cons_succ])))
        dsimp only [Act.put]
        simp only [List.setIfInBounds_toArray, List.set_cons_zero, List.set_cons_succ]
        refine callL 11 (f := 35) (vs := #[.slice (some ⟨g, 0, none⟩) 0 0, .int .i64 T, .int .i64 c]) rfl (by kernel_rfl) (by rfl) (by go_simp) ?_
        refine (crec _).mono ?_
        rintro e w3 ⟨⟨hno, rfl⟩, hb3⟩
        have O3 := HL.out.2.over ((Below.refl _ wr).drew.trans hb3)
        have HO3 := (show Hid _ from O3)
        have hHeld2 : (fun w' : World => w'.cell? ⟨p, 5, none⟩ = some (.int .i64 c)) w3 := jc5 O3.box
        have HNO : Hid (∀ t, ¬ RecAt E turn c t) := hno
        clear hno O3
        refine ⟨_, rfl, hHeld2, ?_⟩
        ((refine takeL 12 (v := ?_) rfl (by kernel_rfl) (by kernel_rfl) (by kernel_rfl) (fun _ _ _ h => h) (by rfl) hHeld2 ?_ ?_; rotate_left; focus (intro w hSw; (try dsimp only at hSw); go_simp <;> with_reducible rfl); (try simp only [Act.put, List.setIfInBounds_toArray, List.set_cons_zero, List.set_cons_succ])); (refine takeL 13 (v := ?_) rfl (by kernel_rfl) (by kernel_rfl) (by kernel_rfl) (fun _ _ _ h => h) (by rfl) hHeld2 ?_ ?_; rotate_left; focus (intro w hSw; (try dsimp only at hSw); go_simp <;> with_reducible rfl); (try simp only [Act.put, List.setIfInBounds_toArray, List.set_cons_zero, List.set_cons_succ])); (refine takeL 14 (v := ?_) rfl (by kernel_rfl) (by kernel_rfl) (by kernel_rfl) (fun _ _ _ h => h) (by rfl) hHeld2 ?_ ?_; rotate_left; focus (intro w hSw; (try dsimp only at hSw); go_simp <;> with_reducible rfl); (try simp only [Act.put, List.setIfInBounds_toArray, List.set_cons_zero, List.set_cons_succ])))
        try dsimp only [Act.put]
        try simp only [List.setIfInBounds_toArray, List.set_cons_zero, List.set_cons_succ]
        refine newL 15 w3 (.string { data := #[] }) rfl (by kernel_rfl) (by rfl) (by go_simp) hHeld2 ?_
        refine doneL (by kernel_rfl) ?_
        try dsimp only [Act.put]
        unfold Oper.wp
        go_simp
        go_wp2_with fail
        go_ret2
        have o := HO3.out
        refine ⟨.inl ⟨?_, ⟨H, p, rv⟩, c, out, rfl, rfl, ⟨o.dev, o.box, o.recs, ?_, ?_⟩, ?_, by omega, o.pw, fun k hk => (o.rw k hk).1⟩, o.bel⟩
        · rw [← HEE.out.1]; exact HOK.out
        · intro h; have := o.far p h; have := o.pw; omega
        · intro k hk; refine ⟨(o.rw k hk).2.1, fun h => ?_⟩; have := o.far k h; have := (o.rw k hk).1; omega
        · rw [← HEE.out.1]; exact ⟨HL.out.1, HNO.out⟩
  · have HE : Hid (∃ b ∈ E, okB b = false) := hbad
    have HB : Hid (Below w.heap.size w w2) := b02
    clear hbad b02 hb2 z0 z1 cr
    go_wp2_with fail
    go_ret2
    refine ⟨.inr ⟨?_, rfl⟩, HB.out⟩
    rw [← HEE.out.1]
    exact HE.out
end Go.Proofs.Ytgffplfpoopolaa
/-
  The contract of package journal's Add.
-/
namespace Go.Proofs.Ytgffplfpoopolaa
open Go.RowKit Leb

section
variable {w w' : World} {J : Jh} {s s' : St} {f c : Nat} {turn : BitVec 64} {u : Nat} {out : List (List UInt8)} {H' : Hnd}
theorem Jnl.turned (j : Jnl w J s f c turn u out) (D : DevIs w' H' s') (T : Turned J.H H' w w') : Jnl w' ⟨H', J.p, J.rv⟩ s' f c turn u out ∧ JTurned J ⟨H', J.p, J.rv⟩ w w' := by
  have hno : ∀ k, k < w.heap.size → ¬ J.H.foot k → ¬ H'.foot k := fun k hk hn h => by
    rcases T.foot k h with h1 | h1
    · exact hn h1
    · omega
  refine ⟨⟨D, ?_, ?_, hno _ j.box.lt j.np, fun k hk => ⟨(j.nr k hk).1, hno k (owns_lt j.recs hk) (j.nr k hk).2⟩⟩, ⟨rfl, T.p, T.kept.mono fun k hk => .inl hk, fun k hk => ?_⟩⟩
  · have := j.box.kept T.kept j.np
    rw [← T.p] at this
    exact this
  · exact j.recs.keptS fun k hk => T.kept.block k (owns_lt j.recs hk) (j.nr k hk).2
  · rcases hk with h | h | h
    · rcases T.foot k h with h1 | h1
      · exact .inl (.inl h1)
      · exact .inr h1
    · exact .inl (.inr (.inl h))
    · exact .inl (.inr (.inr h))
theorem Jnl.keep (j : Jnl w J s f c turn u out) {t : List UInt8} {e : Ending} (k : KeepAns J.p (.pointer (some ⟨J.H.p, 0, none⟩)) J.rv f c turn.toInt (u + needs t.length) (bks out ++ [strB t]) w e w') : e = .returned (.tuple #[]) ∧ ∃ rv', Jnl w' ⟨J.H, J.p, rv'⟩ s f c turn (u + needs t.length) (out ++ [t]) ∧ JTurned J ⟨J.H, J.p, rv'⟩ w w' := by
  obtain ⟨he, rv', h1, h2, h3, h4⟩ := k
  refine ⟨he, rv', ⟨j.dev.kept h3 ?_, h1, ?_, j.np, ?_⟩, ⟨rfl, rfl, h3.mono ?_, ?_⟩⟩
  · intro x hx h
    rcases h with h | h
    · rw [h] at hx; exact j.np hx
    · exact (j.nr x h).2 hx
  · rw [bks_snoc]; exact h2
  · intro x hx
    obtain ⟨h5, h6⟩ := h4 x hx
    refine ⟨h5, ?_⟩
    rcases h6 with h6 | h6
    · exact (j.nr x h6).2
    · intro h; have := j.dev.lt h; omega
  · intro x hx
    rcases hx with h | h
    · exact .inr (.inl h)
    · exact .inr (.inr h)
  · intro x hx
    rcases hx with h | h | h
    · exact .inl (.inl h)
    · exact .inl (.inr (.inl h))
    · rcases (h4 x h).2 with h6 | h6
      · exact .inl (.inr (.inr h6))
      · exact .inr h6
end
def JAddAns (J : Jh) (s : St) (f c : Nat) (turn : BitVec 64) (u : Nat) (out : List (List UInt8)) (t : List UInt8) (w : World) (e : Ending) (w' : World) : Prop :=
  ∃ J' s' n, putAll s (f + u) (blkLs turn u t) = (s', n) ∧ e = .returned (.int .i64 n) ∧ JTurned J J' w w' ∧ ((n = 0 ∧ Jnl w' J' s' f c turn (u + needs t.length) (out ++ [t])) ∨ (n = 40 ∧ Jnl w' J' s' f c turn u out))
theorem jadd_arg {w : World} {p : Nat} {a : Addr} {f c turn u : Int} {rv : Value} (B : Box w p 63 (jc (.pointer (some a)) f c turn rv u)) (t : List UInt8) (hs : needsI t.length = 0) :
    Calls Try.prog 16 #[.pointer (some ⟨p, 0, none⟩), .string (strB t)] w fun e w' => e = .returned (.int .i64 1) ∧ w' = w := by
  have cg := jgiven_yes p a w (jc0 B)
  have cn := jneeds_any (t.length : Int) w
  rw [hs] at cn
  have hz : (strB t).size = t.length := rfl
  obtain ⟨S, hS⟩ : ∃ S, S = strB t := ⟨_, rfl⟩
  rw [← hS] at hz ⊢
  obtain ⟨n, hn⟩ : ∃ n, n = t.length := ⟨_, rfl⟩
  rw [← hn] at hz cn
  clear hn hS B hs
  go_enter Try.func16, Try.ntmps16
  go_wp2_with (first
    | (go_at_call 24; refine cg.mono ?_; rintro e w1 ⟨rfl, hw1⟩; replace hw1 := hw1.symm; subst hw1)
    | (go_at_call 19; refine cn.mono ?_; rintro e w1 ⟨rfl, hw1⟩; replace hw1 := hw1.symm; subst hw1))
  go_ret
  exact ⟨rfl, rfl⟩
theorem jadd_full {w : World} {p : Nat} {a : Addr} {f turn : Int} {c u : Nat} {rv : Value} (B : Box w p 63 (jc (.pointer (some a)) f c turn rv u)) (hu : u ≤ c) (hc : c ≤ 4096) (t : List UInt8) (h1 : 1 ≤ t.length) (h2 : t.length ≤ 8192) (hs : c < u + needs t.length) :
    Calls Try.prog 16 #[.pointer (some ⟨p, 0, none⟩), .string (strB t)] w fun e w' => e = .returned (.int .i64 2) ∧ Below w.heap.size w w' := by
  have cg := jgiven_yes p a w (jc0 B)
  have cn := jneeds_any (t.length : Int) w
  rw [needsI_nat h1 h2] at cn
  have cr := jroom_any B (by omega)
  have hz : (strB t).size = t.length := rfl
  have hnp := needs_pos h1
  obtain ⟨S, hS⟩ : ∃ S, S = strB t := ⟨_, rfl⟩
  rw [← hS] at hz ⊢
  obtain ⟨N, hN⟩ : ∃ N, N = needs t.length := ⟨_, rfl⟩
  rw [← hN] at cn hs hnp
  obtain ⟨n, hn⟩ : ∃ n, n = t.length := ⟨_, rfl⟩
  rw [← hn] at hz cn
  have hN0 : ((N : Int) == 0) = false := by simp; omega
  have hlt : (c : Int) - (u : Int) < (N : Int) := by omega
  clear hn hS B hs hN h1 h2 hu hc hnp
  go_enter Try.func16, Try.ntmps16
  go_wp2_with (first
    | (go_at_call 24; refine cg.mono ?_; rintro e w1 ⟨rfl, hw1⟩; replace hw1 := hw1.symm; subst hw1)
    | (go_at_call 19; refine cn.mono ?_; rintro e w1 ⟨rfl, hw1⟩; replace hw1 := hw1.symm; subst hw1)
    | (go_at_call 12; refine cr.mono ?_; rintro e w2 ⟨rfl, hb2⟩))
  go_ret
  exact ⟨rfl, hb2⟩
/-- What is so while the parts are written. -/
structure Adg (J J' : Jh) (s s' : St) (f c : Nat) (turn : BitVec 64) (u : Nat) (out : List (List UInt8)) (t : List UInt8) (k : Nat) (w wx : World) : Prop where
  jnl : Jnl wx J' s' f c turn u out
  trn : JTurned J J' w wx
  put : putAll s' (f + u + k) ((blkLs turn u t).drop k) = putAll s (f + u) (blkLs turn u t)
  sure : s'.sure.length = s.sure.length
  wait : s'.wait.length ≤ s.wait.length + k
theorem Adg.over {J J' : Jh} {s s' : St} {f c : Nat} {turn : BitVec 64} {u : Nat} {out : List (List UInt8)} {t : List UInt8} {k : Nat} {w w1 w2 : World} (o : Adg J J' s s' f c turn u out t k w w1) (b : Below w1.heap.size w1 w2) : Adg J J' s s' f c turn u out t k w w2 :=
  ⟨o.jnl.over b, o.trn.of_below b, o.put, o.sure, o.wait⟩
theorem putAll_nil (s : St) (a : Nat) : putAll s a [] = if s.goes then (s.synced, 0) else (s.burnt, 40) := rfl
theorem putAll_cons (s : St) (a : Nat) (b : List UInt8) (r : List (List UInt8)) : putAll s a (b :: r) = if s.goes then putAll (s.write a b) (a + 1) r else (s.burnt, 40) := rfl
theorem blks_drop {turn : BitVec 64} {u : Nat} {t : List UInt8} {k : Nat} (h : k < needs t.length) : (blkLs turn u t).drop k = blkL turn u t k :: (blkLs turn u t).drop (k + 1) := by
  rw [List.drop_eq_getElem_cons (by rw [blkLs_len]; exact h)]
  congr 1
  have := blkLs_get (turn := turn) (u := u) h
  rw [List.getElem?_eq_getElem (by rw [blkLs_len]; exact h)] at this
  exact Option.some.inj this
theorem at_pv {turn : BitVec 64} {u k N : Nat} {t : List UInt8} (hu : u ≤ 4096) (hN : N = needs t.length) (hk : k < N) (hN2 : N ≤ 86) : pv (ptAt turn u t k) = #[.int .i64 turn.toInt, .int .i64 ((u : Int) + (k : Int)), .int .i64 (k : Int), .int .i64 ((N : Int) - 1 - (k : Int)), .string (strB (piece t k))] := by
  show (#[.int .i64 turn.toInt, .int .i64 (BitVec.ofNat 64 (u + k)).toInt, .int .i64 (BitVec.ofNat 64 k).toInt, .int .i64 (BitVec.ofNat 64 (needs t.length - 1 - k)).toInt, .string (strB (piece t k))] : Array Value) = _
  rw [ofNat_toInt (by omega), ofNat_toInt (by omega), ofNat_toInt (by omega), ← hN, show ((N - 1 - k : Nat) : Int) = (N : Int) - 1 - (k : Int) by omega, show ((u + k : Nat) : Int) = (u : Int) + (k : Int) by omega]
set_option maxRecDepth 4000 in
set_option maxHeartbeats 2000000 in
theorem jadd_on {w : World} {J : Jh} {s : St} {f c : Nat} {turn : BitVec 64} {u : Nat} {out : List (List UInt8)} (j : Jnl w J s f c turn u out) (hfc : f + c ≤ s.sure.length) (hn : s.sure.length ≤ 4096) (hwl : s.wait.length ≤ 800000) (hol : out.length ≤ 10000) (t : List UInt8) (h1 : 1 ≤ t.length) (h2 : t.length ≤ 8192) (hr : u + needs t.length ≤ c) :
    Calls Try.prog 16 #[.pointer (some ⟨J.p, 0, none⟩), .string (strB t)] w (JAddAns J s f c turn u out t w) := by
  have cg := jgiven_yes J.p ⟨J.H.p, 0, none⟩ w (jc0 j.box)
  have cn := jneeds_any (t.length : Int) w
  rw [needsI_nat h1 h2] at cn
  have cr := jroom_any j.box (by omega)
  have hz : (strB t).size = t.length := rfl
  have hnp := needs_pos h1
  have hnl := needs_le h2
  obtain ⟨N, hN⟩ : ∃ N, N = needs t.length := ⟨_, rfl⟩
  rw [← hN] at cn hr hnp hnl
  have HN : Hid (N = needs t.length ∧ 1 ≤ t.length ∧ t.length ≤ 8192 ∧ 1 ≤ N ∧ N ≤ 86 ∧ u + N ≤ c ∧ f + c ≤ s.sure.length ∧ s.sure.length ≤ 4096 ∧ s.wait.length ≤ 800000 ∧ out.length ≤ 10000) := ⟨hN, h1, h2, hnp, hnl, hr, hfc, hn, hwl, hol⟩
  have HC : Hid (∀ k w, k < N → Calls Try.prog 29 #[.string (strB t), .int .i64 k] w fun e w' => e = .returned (.string (strB (piece t k))) ∧ w' = w) := fun k w hk => jcut_any t h2 k (by have := HN.out; have : needs t.length = (t.length + 95) / 96 := rfl; omega) w
  obtain ⟨S, hS⟩ : ∃ S, S = strB t := ⟨_, rfl⟩
  have HSS : Hid (S = strB t) := hS
  rw [← hS] at hz HC ⊢
  obtain ⟨n, hnn⟩ : ∃ n, n = t.length := ⟨_, rfl⟩
  rw [← hnn] at hz cn
  have HJ : Hid (Jnl w J s f c turn u out) := j
  have hN0 : ((N : Int) == 0) = false := by simp; omega
  have hlt : ¬ (c : Int) - (u : Int) < (N : Int) := by omega
  have hNI : (N : Int) ≤ 86 := by omega
  have huI : (u : Int) ≤ 4096 := by omega
  have hfI : (f : Int) ≤ 4096 := by omega
  obtain ⟨p, hp⟩ : ∃ p, p = J.p := ⟨_, rfl⟩
  have HP : Hid (p = J.p) := hp
  rw [← hp] at cg cr ⊢
  obtain ⟨T, hT⟩ : ∃ T, T = turn.toInt := ⟨_, rfl⟩
  have HT : Hid (T = turn.toInt) := hT
  clear hN hS hnn j hr h1 h2 hfc hn hwl hnp hnl hp hT hol
  go_enter Try.func16, Try.ntmps16
  go_wp2_with (first
    | (go_at_call 24; refine cg.mono ?_; rintro e w1 ⟨rfl, hw1⟩; replace hw1 := hw1.symm; subst hw1)
    | (go_at_call 19; refine cn.mono ?_; rintro e w1 ⟨rfl, hw1⟩; replace hw1 := hw1.symm; subst hw1)
    | (go_at_call 12; refine cr.mono ?_; rintro e w2 ⟨rfl, hb2⟩))
  have HB2 : Hid (Below w.heap.size w w2) := hb2
  clear hb2 cg cn cr hlt
  go_loopg [26] N (fun g s26 wx => ∃ (k : Nat) (J' : Jh) (s' : St), k + g = N ∧ s26 = .int .i64 k ∧ Adg J J' s s' f c turn u out t k w wx)
  case atStart => exact ⟨0, J, s, by omega, rfl, HJ.out.over HB2.out, (JTurned.refl _ _).of_below HB2.out, rfl, rfl, by omega⟩
  case round =>
    obtain ⟨k, J', s', hkg, rfl, hA⟩ := hrel
    have HA : Hid (Adg J J' s s' f c turn u out t k w wr) := hA
    have hJp : J'.p = p := by rw [HP.out]; exact hA.trn.p
    have hbox := hA.jnl.box
    rw [hJp, ← HT.out] at hbox
    obtain ⟨hp2, hhp2⟩ : ∃ x, x = J'.H.p := ⟨_, rfl⟩
    have HH2 : Hid (hp2 = J'.H.p ∧ J'.p = p) := ⟨hhp2, hJp⟩
    rw [← hhp2] at hbox
    have x0 := jc0 hbox
    have x1 := jc1 hbox
    have x3 := jc3 hbox
    have x5 := jc5 hbox
    have HBX : Hid (Box wr p 63 (jc (.pointer (some ⟨hp2, 0, none⟩)) f c T J'.rv u)) := hbox
    clear hJp hhp2 hA hbox
    by_cases hk : k < N
    · have hkI : (k : Int) < N := by omega
      have cc := fun w => HC.out k w hk
      obtain ⟨P, hP⟩ : ∃ P, P = strB (piece t k) := ⟨_, rfl⟩
      rw [← hP] at cc
      have HPP : Hid (P = strB (piece t k)) := hP
      have hmay := ptAt_may turn u HN.out.2.1 HN.out.2.2.1 (i := k) (by have := HN.out; omega)
      have cb := fun w => jblock_any (ptAt turn u t k) (Nat.le_trans (body_len hmay) (by omega)) w
      rw [at_pv (N := N) (by omega) HN.out.1 hk HN.out.2.2.2.2.1, ← HT.out, ← hP] at cb
      obtain ⟨Bk, hBk⟩ : ∃ Bk, Bk = strB (partL (ptAt turn u t k)) := ⟨_, rfl⟩
      rw [← hBk] at cb
      have HBK : Hid (Bk = strB (blkL turn u t k) ∧ Bk.size = 128) := ⟨hBk, by rw [hBk, strB_size]; exact partL_len (Nat.le_trans (body_len hmay) (by omega))⟩
      clear hBk hmay
      have r1 : IntKind.i64.wrap ((N : Int) - 1) = (N : Int) - 1 := by rw [IntKind.wrap_i64]; omega
      have r2 : IntKind.i64.wrap ((N : Int) - 1 - (k : Int)) = (N : Int) - 1 - (k : Int) := by rw [IntKind.wrap_i64]; omega
      have r3 : IntKind.i64.wrap ((f : Int) + ((u : Int) + (k : Int))) = (f : Int) + ((u : Int) + (k : Int)) := by rw [IntKind.wrap_i64]; omega
      clear hP
      go_wp2_with fail
      refine wp_region_held_then (fun w' : World => w'.cell? ⟨p, 3, none⟩ = some (.int .i64 T)) _ (by kernel_rfl) rfl (by kernel_rfl) ?_
      have hHeld : (fun w' : World => w'.cell? ⟨p, 3, none⟩ = some (.int .i64 T)) wr.drew := x3
      have A1 := HBX.out.drew.alloc (.cells #[.int .i64 0, .int .i64 0, .int .i64 0, .int .i64 0, .string { data := #[] }] 83)
      have hHeldA : (fun w' : World => w'.cell? ⟨p, 3, none⟩ = some (.int .i64 T)) (wr.drew.alloc (.cells #[.int .i64 0, .int .i64 0, .int .i64 0, .int .i64 0, .string { data := #[] }] 83)) := jc3 A1
      dsimp only [List.dropLast, List.length, List.getLast]
      ((refine takeL 0 (v := ?_) rfl (by kernel_rfl) (by kernel_rfl) (by kernel_rfl) (fun _ _ _ h => h) (by rfl) hHeld ?_ ?_; rotate_left; focus (intro w hSw; (try dsimp only at hSw); go_simp <;> with_reducible rfl); (try simp only [Act.put, List.setIfInBounds_toArray, List.set_cons_zero, List.set_cons_succ])); (refine takeL 1 (v := ?_) rfl (by kernel_rfl) (by kernel_rfl) (by kernel_rfl) (fun _ _ _ h => h) (by rfl) hHeld ?_ ?_; rotate_left; focus (intro w hSw; (try dsimp only at hSw); go_simp <;> with_reducible rfl); (try simp only [Act.put, List.setIfInBounds_toArray, List.set_cons_zero, List.set_cons_succ])); (refine takeL 2 (v := ?_) rfl (by kernel_rfl) (by kernel_rfl) (by kernel_rfl) (fun _ _ _ h => h) (by rfl) hHeld ?_ ?_; rotate_left; focus (intro w hSw; (try dsimp only at hSw); go_simp <;> with_reducible rfl); (try simp only [Act.put, List.setIfInBounds_toArray, List.set_cons_zero, List.set_cons_succ])); (refine takeL 3 (v := ?_) rfl (by kernel_rfl) (by kernel_rfl) (by kernel_rfl) (fun _ _ _ h => h) (by rfl) hHeld ?_ ?_; rotate_left; focus (intro w hSw; (try dsimp only at hSw); go_simp <;> with_reducible rfl); (try simp only [Act.put, List.setIfInBounds_toArray, List.set_cons_zero, List.set_cons_succ])); (refine takeL 4 (v := ?_) rfl (by kernel_rfl) (by kernel_rfl) (by kernel_rfl) (fun _ _ _ h => h) (by rfl) hHeld ?_ ?_; rotate_left; focus (intro w hSw; (try dsimp only at hSw); go_simp <;> with_reducible rfl); (try simp only [Act.put, List.setIfInBounds_toArray, List.set_cons_zero, List.set_cons_succ])); (refine takeL 5 (v := ?_) rfl (by kernel_rfl) (by kernel_rfl) (by kernel_rfl) (fun _ _ _ h => h) (by rfl) hHeld ?_ ?_; rotate_left; focus (intro w hSw; (try dsimp only at hSw); go_simp <;> with_reducible rfl); (try simp only [Act.put, List.setIfInBounds_toArray, List.set_cons_zero, List.set_cons_succ])); (refine takeL 6 (v := ?_) rfl (by kernel_rfl) (by kernel_rfl) (by kernel_rfl) (fun _ _ _ h => h) (by rfl) hHeld ?_ ?_; rotate_left; focus (intro w hSw; (try dsimp only at hSw); go_simp <;> with_reducible rfl); (try simp only [Act.put, List.setIfInBounds_toArray, List.set_cons_zero, List.set_cons_succ])); (refine takeL 7 (v := ?_) rfl (by kernel_rfl) (by kernel_rfl) (by kernel_rfl) (fun _ _ _ h => h) (by rfl) hHeld ?_ ?_; rotate_left; focus (intro w hSw; (try dsimp only at hSw); go_simp <;> with_reducible rfl); (try simp only [Act.put, List.setIfInBounds_toArray, List.set_cons_zero, List.set_cons_succ])); (refine takeL 8 (v := ?_) rfl (by kernel_rfl) (by kernel_rfl) (by kernel_rfl) (fun _ _ _ h => h) (by rfl) hHeld ?_ ?_; rotate_left; focus (intro w hSw; (try dsimp only at hSw); go_simp <;> with_reducible rfl); (try simp only [Act.put, List.setIfInBounds_toArray, List.set_cons_zero, List.set_cons_succ])); (refine takeL 9 (v := ?_) rfl (by kernel_rfl) (by kernel_rfl) (by kernel_rfl) (fun _ _ _ h => h) (by rfl) hHeld ?_ ?_; rotate_left; focus (intro w hSw; (try dsimp only at hSw); go_simp <;> with_reducible rfl); (try simp only [Act.put, List.setIfInBounds_toArray, List.set_cons_zero, List.set_cons_succ])); (refine takeL 10 (v := ?_) rfl (by kernel_rfl) (by kernel_rfl) (by kernel_rfl) (fun _ _ _ h => h) (by rfl) hHeld ?_ ?_; rotate_left; focus (intro w hSw; (try dsimp only at hSw); go_simp <;> with_reducible rfl); (try simp only [Act.put, List.setIfInBounds_toArray, List.set_cons_zero, List.set_cons_succ])); (refine takeL 11 (v := ?_) rfl (by kernel_rfl) (by kernel_rfl) (by kernel_rfl) (fun _ _ _ h => h) (by rfl) hHeld ?_ ?_; rotate_left; focus (intro w hSw; (try dsimp only at hSw); go_simp <;> with_reducible rfl); (try simp only [Act.put, List.setIfInBounds_toArray, List.set_cons_zero, List.set_cons_succ])); (refine takeL 12 (v := ?_) rfl (by kernel_rfl) (by kernel_rfl) (by kernel_rfl) (fun _ _ _ h => h) (by rfl) hHeld ?_ ?_; rotate_left; focus (intro w hSw; (try dsimp only at hSw); go_simp <;> with_reducible rfl); (try simp only [Act.put, List.setIfInBounds_toArray, List.set_cons_zero, List.set_cons_succ])))
      dsimp only [Act.put]
      simp only [List.setIfInBounds_toArray, List.set_cons_zero, List.set_cons_succ]
      refine callNewL 13 15 (f := 29) (vs := #[.string S, .int .i64 k]) (wr.drew.alloc (.cells #[.int .i64 0, .int .i64 0, .int .i64 0, .int .i64 0, .string { data := #[] }] 83)) (.pointer (some ⟨wr.heap.size, 0, none⟩)) rfl rfl (by kernel_rfl) (by rfl) (by rfl) (by go_simp) (by go_simp) hHeldA ?_ ?_
      · refine (cc _).mono ?_
        rintro e w3 ⟨rfl, hw3⟩
        subst hw3
        refine ⟨_, rfl, hHeld, ?_⟩
        ((refine takeL 14 (v := ?_) rfl (by kernel_rfl) (by kernel_rfl) (by kernel_rfl) (fun _ _ _ h => h) (by rfl) hHeld ?_ ?_; rotate_left; focus (intro w hSw; (try dsimp only at hSw); go_simp <;> with_reducible rfl); (try simp only [Act.put, List.setIfInBounds_toArray, List.set_cons_zero, List.set_cons_succ])))
        try dsimp only [Act.put]
        try simp only [List.setIfInBounds_toArray, List.set_cons_zero, List.set_cons_succ]
        refine newL 15 (wr.drew.alloc (.cells #[.int .i64 0, .int .i64 0, .int .i64 0, .int .i64 0, .string { data := #[] }] 83)) (.pointer (some ⟨wr.heap.size, 0, none⟩)) rfl (by kernel_rfl) (by rfl) (by go_simp) hHeldA ?_
        refine doneL (by kernel_rfl) ?_
        try dsimp only [Act.put]
        unfold Oper.wp
        have A2 := box_new wr.drew #[.int .i64 0, .int .i64 0, .int .i64 0, .int .i64 0, .string { data := #[] }] 83
        have bA := (Below.refl wr.heap.size wr).drew.alloc (Nat.le_refl _) (.cells #[.int .i64 0, .int .i64 0, .int .i64 0, .int .i64 0, .string { data := #[] }] 83)
        have hpg : p ≠ wr.heap.size := by have := HBX.out.lt; omega
        obtain ⟨g, hg⟩ : ∃ g, g = wr.heap.size := ⟨_, rfl⟩
        obtain ⟨W, hW⟩ : ∃ W, W = wr.drew.alloc (.cells #[.int .i64 0, .int .i64 0, .int .i64 0, .int .i64 0, .string { data := #[] }] 83) := ⟨_, rfl⟩
        replace A2 : Box W g 83 #[.int .i64 0, .int .i64 0, .int .i64 0, .int .i64 0, .string { data := #[] }] := by rw [hW, hg]; exact A2
        rw [← hW] at A1 bA ⊢
        rw [← hg] at hpg ⊢
        have q0 := A2.cell 0 (.int .i64 0) rfl
        have q1 := A2.cell 1 (.int .i64 0) rfl
        have q2 := A2.cell 2 (.int .i64 0) rfl
        have q3 := A2.cell 3 (.int .i64 0) rfl
        have q4 := A2.cell 4 (.string { data := #[] }) rfl
        have p0 := A2.frozen 0
        have p1 := A2.frozen 1
        have p2 := A2.frozen 2
        have p3 := A2.frozen 3
        have p4 := A2.frozen 4
        have G5 := box_five A2 (.int .i64 T) (.int .i64 ((u : Int) + (k : Int))) (.int .i64 (k : Int)) (.int .i64 ((N : Int) - 1 - (k : Int))) (.string P)
        have C5 := other_five A1 (z := g) hpg (.int .i64 T) (.int .i64 ((u : Int) + (k : Int))) (.int .i64 (k : Int)) (.int .i64 ((N : Int) - 1 - (k : Int))) (.string P)
        have b5 := below_five bA (z := g) (by omega) (.int .i64 T) (.int .i64 ((u : Int) + (k : Int))) (.int .i64 (k : Int)) (.int .i64 ((N : Int) - 1 - (k : Int))) (.string P)
        have HGW : Hid (g = wr.heap.size) := hg
        clear hW A2 A1 bA hHeld hHeldA x0 x1 x3 x5 hg
        go_simp
        obtain ⟨W2, hW2⟩ : ∃ W2, W2 = ((((W.setCell ⟨g, 0, none⟩ (.int .i64 T)).setCell ⟨g, 1, none⟩ (.int .i64 ((u : Int) + (k : Int)))).setCell ⟨g, 2, none⟩ (.int .i64 (k : Int))).setCell ⟨g, 3, none⟩ (.int .i64 ((N : Int) - 1 - (k : Int)))).setCell ⟨g, 4, none⟩ (.string P) := ⟨_, rfl⟩
        rw [← hW2] at G5 C5 b5 ⊢
        clear hW2 q0 q1 q2 q3 q4 p0 p1 p2 p3 p4
        have HX : Hid (Box W2 g 83 #[.int .i64 T, .int .i64 ((u : Int) + (k : Int)), .int .i64 (k : Int), .int .i64 ((N : Int) - 1 - (k : Int)), .string P] ∧ Box W2 p 63 (jc (.pointer (some ⟨hp2, 0, none⟩)) f c T J'.rv u) ∧ Below wr.heap.size wr W2) := ⟨G5, C5, b5⟩
        have hH1 : (fun w' : World => w'.cell? ⟨p, 0, none⟩ = some (.pointer (some ⟨hp2, 0, none⟩)) ∧ w'.cell? ⟨p, 1, none⟩ = some (.int .i64 f) ∧ w'.cell? ⟨g, 0, none⟩ = some (.int .i64 T) ∧ w'.cell? ⟨g, 1, none⟩ = some (.int .i64 ((u : Int) + (k : Int))) ∧ w'.cell? ⟨g, 2, none⟩ = some (.int .i64 (k : Int)) ∧ w'.cell? ⟨g, 3, none⟩ = some (.int .i64 ((N : Int) - 1 - (k : Int))) ∧ w'.cell? ⟨g, 4, none⟩ = some (.string P)) W2 := ⟨jc0 C5, jc1 C5, G5.cell 0 _ rfl, G5.cell 1 _ rfl, G5.cell 2 _ rfl, G5.cell 3 _ rfl, G5.cell 4 _ rfl⟩
        clear G5 C5 b5
        go_wp2_with fail
        refine wp_region_held_then (fun w' : World => w'.cell? ⟨p, 0, none⟩ = some (.pointer (some ⟨hp2, 0, none⟩)) ∧ w'.cell? ⟨p, 1, none⟩ = some (.int .i64 f) ∧ w'.cell? ⟨g, 0, none⟩ = some (.int .i64 T) ∧ w'.cell? ⟨g, 1, none⟩ = some (.int .i64 ((u : Int) + (k : Int))) ∧ w'.cell? ⟨g, 2, none⟩ = some (.int .i64 (k : Int)) ∧ w'.cell? ⟨g, 3, none⟩ = some (.int .i64 ((N : Int) - 1 - (k : Int))) ∧ w'.cell? ⟨g, 4, none⟩ = some (.string P)) _ (by kernel_rfl) rfl (by kernel_rfl) ?_
        have hHeld : (fun w' : World => w'.cell? ⟨p, 0, none⟩ = some (.pointer (some ⟨hp2, 0, none⟩)) ∧ w'.cell? ⟨p, 1, none⟩ = some (.int .i64 f) ∧ w'.cell? ⟨g, 0, none⟩ = some (.int .i64 T) ∧ w'.cell? ⟨g, 1, none⟩ = some (.int .i64 ((u : Int) + (k : Int))) ∧ w'.cell? ⟨g, 2, none⟩ = some (.int .i64 (k : Int)) ∧ w'.cell? ⟨g, 3, none⟩ = some (.int .i64 ((N : Int) - 1 - (k : Int))) ∧ w'.cell? ⟨g, 4, none⟩ = some (.string P)) W2.drew := hH1
        dsimp only [List.dropLast, List.length, List.getLast]
        ((refine takeL 0 (v := ?_) rfl (by kernel_rfl) (by kernel_rfl) (by kernel_rfl) (fun _ _ _ h => h) (by rfl) hHeld ?_ ?_; rotate_left; focus (intro w hSw; (try dsimp only at hSw); go_simp <;> with_reducible rfl); (try simp only [Act.put, List.setIfInBounds_toArray, List.set_cons_zero, List.set_cons_succ])); (refine takeL 1 (v := ?_) rfl (by kernel_rfl) (by kernel_rfl) (by kernel_rfl) (fun _ _ _ h => h) (by rfl) hHeld ?_ ?_; rotate_left; focus (intro w hSw; (try dsimp only at hSw); go_simp <;> with_reducible rfl); (try simp only [Act.put, List.setIfInBounds_toArray, List.set_cons_zero, List.set_cons_succ])); (refine takeL 2 (v := ?_) rfl (by kernel_rfl) (by kernel_rfl) (by kernel_rfl) (fun _ _ _ h => h) (by rfl) hHeld ?_ ?_; rotate_left; focus (intro w hSw; (try dsimp only at hSw); go_simp <;> with_reducible rfl); (try simp only [Act.put, List.setIfInBounds_toArray, List.set_cons_zero, List.set_cons_succ])); (refine takeL 3 (v := ?_) rfl (by kernel_rfl) (by kernel_rfl) (by kernel_rfl) (fun _ _ _ h => h) (by rfl) hHeld ?_ ?_; rotate_left; focus (intro w hSw; (try dsimp only at hSw); go_simp <;> with_reducible rfl); (try simp only [Act.put, List.setIfInBounds_toArray, List.set_cons_zero, List.set_cons_succ])); (refine takeL 4 (v := ?_) rfl (by kernel_rfl) (by kernel_rfl) (by kernel_rfl) (fun _ _ _ h => h) (by rfl) hHeld ?_ ?_; rotate_left; focus (intro w hSw; (try dsimp only at hSw); go_simp <;> with_reducible rfl); (try simp only [Act.put, List.setIfInBounds_toArray, List.set_cons_zero, List.set_cons_succ])); (refine takeL 5 (v := ?_) rfl (by kernel_rfl) (by kernel_rfl) (by kernel_rfl) (fun _ _ _ h => h) (by rfl) hHeld ?_ ?_; rotate_left; focus (intro w hSw; (try dsimp only at hSw); go_simp <;> with_reducible rfl); (try simp only [Act.put, List.setIfInBounds_toArray, List.set_cons_zero, List.set_cons_succ])); (refine takeL 6 (v := ?_) rfl (by kernel_rfl) (by kernel_rfl) (by kernel_rfl) (fun _ _ _ h => h) (by rfl) hHeld ?_ ?_; rotate_left; focus (intro w hSw; (try dsimp only at hSw); go_simp <;> with_reducible rfl); (try simp only [Act.put, List.setIfInBounds_toArray, List.set_cons_zero, List.set_cons_succ])); (refine takeL 7 (v := ?_) rfl (by kernel_rfl) (by kernel_rfl) (by kernel_rfl) (fun _ _ _ h => h) (by rfl) hHeld ?_ ?_; rotate_left; focus (intro w hSw; (try dsimp only at hSw); go_simp <;> with_reducible rfl); (try simp only [Act.put, List.setIfInBounds_toArray, List.set_cons_zero, List.set_cons_succ])); (refine takeL 8 (v := ?_) rfl (by kernel_rfl) (by kernel_rfl) (by kernel_rfl) (fun _ _ _ h => h) (by rfl) hHeld ?_ ?_; rotate_left; focus (intro w hSw; (try dsimp only at hSw); go_simp <;> with_reducible rfl); (try simp only [Act.put, List.setIfInBounds_toArray, List.set_cons_zero, List.set_cons_succ])); (refine takeL 9 (v := ?_) rfl (by kernel_rfl) (by kernel_rfl) (by kernel_rfl) (fun _ _ _ h => h) (by rfl) hHeld ?_ ?_; rotate_left; focus (intro w hSw; (try dsimp only at hSw); go_simp <;> with_reducible rfl); (try simp only [Act.put, List.setIfInBounds_toArray, List.set_cons_zero, List.set_cons_succ])); (refine takeL 10 (v := ?_) rfl (by kernel_rfl) (by kernel_rfl) (by kernel_rfl) (fun _ _ _ h => h) (by rfl) hHeld ?_ ?_; rotate_left; focus (intro w hSw; (try dsimp only at hSw); go_simp <;> with_reducible rfl); (try simp only [Act.put, List.setIfInBounds_toArray, List.set_cons_zero, List.set_cons_succ])); (refine takeL 11 (v := ?_) rfl (by kernel_rfl) (by kernel_rfl) (by kernel_rfl) (fun _ _ _ h => h) (by rfl) hHeld ?_ ?_; rotate_left; focus (intro w hSw; (try dsimp only at hSw); go_simp <;> with_reducible rfl); (try simp only [Act.put, List.setIfInBounds_toArray, List.set_cons_zero, List.set_cons_succ])))
        dsimp only [Act.put]
        simp only [List.setIfInBounds_toArray, List.set_cons_zero, List.set_cons_succ]
        refine callL 12 (f := 31) (vs := #[.agg #[.int .i64 T, .int .i64 ((u : Int) + (k : Int)), .int .i64 (k : Int), .int .i64 ((N : Int) - 1 - (k : Int)), .string P]]) rfl (by kernel_rfl) (by rfl) (by go_simp) ?_
        refine (cb _).mono ?_
        rintro e w3 ⟨rfl, hb3⟩
        have hbd := (Below.refl W2.heap.size W2).drew.trans hb3
        have G6 := HX.out.1.over hbd
        have C6 := HX.out.2.1.over hbd
        have b6 := HX.out.2.2.trans (hbd.mono HX.out.2.2.size)
        have hS3 : (fun w' : World => w'.cell? ⟨p, 0, none⟩ = some (.pointer (some ⟨hp2, 0, none⟩)) ∧ w'.cell? ⟨p, 1, none⟩ = some (.int .i64 f) ∧ w'.cell? ⟨g, 0, none⟩ = some (.int .i64 T) ∧ w'.cell? ⟨g, 1, none⟩ = some (.int .i64 ((u : Int) + (k : Int))) ∧ w'.cell? ⟨g, 2, none⟩ = some (.int .i64 (k : Int)) ∧ w'.cell? ⟨g, 3, none⟩ = some (.int .i64 ((N : Int) - 1 - (k : Int))) ∧ w'.cell? ⟨g, 4, none⟩ = some (.string P)) w3 := ⟨jc0 C6, jc1 C6, G6.cell 0 _ rfl, G6.cell 1 _ rfl, G6.cell 2 _ rfl, G6.cell 3 _ rfl, G6.cell 4 _ rfl⟩
        refine ⟨_, rfl, hS3, ?_⟩
        have O3 := HA.out.over b6
        have HO3 := (show Hid _ from O3)
        have hgf : ¬ J'.H.foot g := fun h => by have := HA.out.jnl.dev.lt h; have := HGW.out; omega
        have hpf : ¬ J'.H.foot p := by have := HA.out.jnl.np; rw [HH2.out.2] at this; exact this
        cases hgo : s'.goes with
        | true =>
          have cwr := write_on O3.jnl.dev (f + (u + k)) Bk (by have := O3.sure; have := HN.out; omega) HBK.out.2 hgo (by have := O3.wait; have := HN.out; omega)
          rw [← HH2.out.1, show ((f + (u + k) : Nat) : Int) = (f : Int) + ((u : Int) + (k : Int)) by omega] at cwr
          have HGO : Hid (s'.goes = true) := hgo
          clear O3 hgo
          refine callL 13 (f := 30) (vs := #[.pointer (some ⟨hp2, 0, none⟩), .int .i64 ((f : Int) + ((u : Int) + (k : Int))), .string Bk]) rfl (by kernel_rfl) (by rfl) (by go_simp) ?_
          refine cwr.mono ?_
          rintro e w4 ⟨rfl, H', D4, T4⟩
          have G7 := G6.kept T4.kept hgf
          have C7 := C6.kept T4.kept hpf
          have hS4 : (fun w' : World => w'.cell? ⟨p, 0, none⟩ = some (.pointer (some ⟨hp2, 0, none⟩)) ∧ w'.cell? ⟨p, 1, none⟩ = some (.int .i64 f) ∧ w'.cell? ⟨g, 0, none⟩ = some (.int .i64 T) ∧ w'.cell? ⟨g, 1, none⟩ = some (.int .i64 ((u : Int) + (k : Int))) ∧ w'.cell? ⟨g, 2, none⟩ = some (.int .i64 (k : Int)) ∧ w'.cell? ⟨g, 3, none⟩ = some (.int .i64 ((N : Int) - 1 - (k : Int))) ∧ w'.cell? ⟨g, 4, none⟩ = some (.string P)) w4 := ⟨jc0 C7, jc1 C7, G7.cell 0 _ rfl, G7.cell 1 _ rfl, G7.cell 2 _ rfl, G7.cell 3 _ rfl, G7.cell 4 _ rfl⟩
          refine ⟨_, rfl, hS4, ?_⟩
          have HE : Hid (∃ (J2 : Jh) (s2 : St), Adg J J2 s s2 f c turn u out t (k + 1) w w4) := by
            obtain ⟨j2, t2⟩ := HO3.out.jnl.turned D4 T4
            refine ⟨_, _, j2, HO3.out.trn.trans t2, ?_, HO3.out.sure, ?_⟩
            · rw [← HO3.out.put, blks_drop (k := k) (by have := HN.out; omega), putAll_cons s', if_pos HGO.out, HBK.out.1, strB_list, show f + (u + k) = f + u + k by omega, show f + u + (k + 1) = f + u + k + 1 by omega]
            · have := HO3.out.wait
              show (s'.wait ++ [_]).length ≤ _
              rw [List.length_append, List.length_singleton]
              omega
          clear D4 T4 G7 C7 hS4 G6 C6 b6 hS3 hbd hb3 cwr
          refine doneL (by kernel_rfl) ?_
          try dsimp only [Act.put]
          unfold Oper.wp
          go_simp
          go_wp2_with fail
          go_roundg (N - (k + 1))
          case measure => omega
          case rel =>
            obtain ⟨J2, s2, h⟩ := HE.out
            exact ⟨k + 1, J2, s2, by omega, by go_num, h⟩
        | false =>
          have cwr := write_off O3.jnl.dev (f + (u + k)) Bk (by have := O3.sure; have := HN.out; omega) HBK.out.2 hgo
          rw [← HH2.out.1, show ((f + (u + k) : Nat) : Int) = (f : Int) + ((u : Int) + (k : Int)) by omega] at cwr
          have HGO : Hid (s'.goes = false) := hgo
          clear O3 hgo
          refine callL 13 (f := 30) (vs := #[.pointer (some ⟨hp2, 0, none⟩), .int .i64 ((f : Int) + ((u : Int) + (k : Int))), .string Bk]) rfl (by kernel_rfl) (by rfl) (by go_simp) ?_
          refine cwr.mono ?_
          rintro e w4 ⟨rfl, D4, T4⟩
          have G7 := G6.kept T4.kept hgf
          have C7 := C6.kept T4.kept hpf
          have hS4 : (fun w' : World => w'.cell? ⟨p, 0, none⟩ = some (.pointer (some ⟨hp2, 0, none⟩)) ∧ w'.cell? ⟨p, 1, none⟩ = some (.int .i64 f) ∧ w'.cell? ⟨g, 0, none⟩ = some (.int .i64 T) ∧ w'.cell? ⟨g, 1, none⟩ = some (.int .i64 ((u : Int) + (k : Int))) ∧ w'.cell? ⟨g, 2, none⟩ = some (.int .i64 (k : Int)) ∧ w'.cell? ⟨g, 3, none⟩ = some (.int .i64 ((N : Int) - 1 - (k : Int))) ∧ w'.cell? ⟨g, 4, none⟩ = some (.string P)) w4 := ⟨jc0 C7, jc1 C7, G7.cell 0 _ rfl, G7.cell 1 _ rfl, G7.cell 2 _ rfl, G7.cell 3 _ rfl, G7.cell 4 _ rfl⟩
          refine ⟨_, rfl, hS4, ?_⟩
          have HE : Hid (∃ J2 : Jh, Jnl w4 J2 s'.burnt f c turn u out ∧ JTurned J J2 w w4 ∧ putAll s (f + u) (blkLs turn u t) = (s'.burnt, 40)) := by
            obtain ⟨j2, t2⟩ := HO3.out.jnl.turned D4 T4
            refine ⟨_, j2, HO3.out.trn.trans t2, ?_⟩
            rw [← HO3.out.put, blks_drop (k := k) (by have := HN.out; omega), putAll_cons s', if_neg (by rw [HGO.out]; decide)]
          clear D4 T4 G7 C7 hS4 G6 C6 b6 hS3 hbd hb3 cwr
          refine doneL (by kernel_rfl) ?_
          try dsimp only [Act.put]
          unfold Oper.wp
          go_simp
          go_wp2_with fail
          go_ret
          obtain ⟨J2, h1, h2, h3⟩ := HE.out
          exact ⟨J2, _, _, h3, rfl, h2, .inr ⟨rfl, h1⟩⟩
      · try dsimp only [Act.put]
        try simp only [List.setIfInBounds_toArray, List.set_cons_zero, List.set_cons_succ]
        refine callL 13 (f := 29) (vs := #[.string S, .int .i64 k]) rfl (by kernel_rfl) (by rfl) (by go_simp) ?_
        refine (cc _).mono ?_
        rintro e w3 ⟨rfl, hw3⟩
        subst hw3
        refine ⟨_, rfl, hHeldA, ?_⟩
        ((refine takeL 14 (v := ?_) rfl (by kernel_rfl) (by kernel_rfl) (by kernel_rfl) (fun _ _ _ h => h) (by rfl) hHeldA ?_ ?_; rotate_left; focus (intro w hSw; (try dsimp only at hSw); go_simp <;> with_reducible rfl); (try simp only [Act.put, List.setIfInBounds_toArray, List.set_cons_zero, List.set_cons_succ])))
        try dsimp only [Act.put]
        try simp only [List.setIfInBounds_toArray, List.set_cons_zero, List.set_cons_succ]
        refine doneL (by kernel_rfl) ?_
        try dsimp only [Act.put]
        unfold Oper.wp
        have A2 := box_new wr.drew #[.int .i64 0, .int .i64 0, .int .i64 0, .int .i64 0, .string { data := #[] }] 83
        have bA := (Below.refl wr.heap.size wr).drew.alloc (Nat.le_refl _) (.cells #[.int .i64 0, .int .i64 0, .int .i64 0, .int .i64 0, .string { data := #[] }] 83)
        have hpg : p ≠ wr.heap.size := by have := HBX.out.lt; omega
        obtain ⟨g, hg⟩ : ∃ g, g = wr.heap.size := ⟨_, rfl⟩
        obtain ⟨W, hW⟩ : ∃ W, W = wr.drew.alloc (.cells #[.int .i64 0, .int .i64 0, .int .i64 0, .int .i64 0, .string { data := #[] }] 83) := ⟨_, rfl⟩
        replace A2 : Box W g 83 #[.int .i64 0, .int .i64 0, .int .i64 0, .int .i64 0, .string { data := #[] }] := by rw [hW, hg]; exact A2
        rw [← hW] at A1 bA ⊢
        rw [← hg] at hpg ⊢
        have q0 := A2.cell 0 (.int .i64 0) rfl
        have q1 := A2.cell 1 (.int .i64 0) rfl
        have q2 := A2.cell 2 (.int .i64 0) rfl
        have q3 := A2.cell 3 (.int .i64 0) rfl
        have q4 := A2.cell 4 (.string { data := #[] }) rfl
        have p0 := A2.frozen 0
        have p1 := A2.frozen 1
        have p2 := A2.frozen 2
        have p3 := A2.frozen 3
        have p4 := A2.frozen 4
        have G5 := box_five A2 (.int .i64 T) (.int .i64 ((u : Int) + (k : Int))) (.int .i64 (k : Int)) (.int .i64 ((N : Int) - 1 - (k : Int))) (.string P)
        have C5 := other_five A1 (z := g) hpg (.int .i64 T) (.int .i64 ((u : Int) + (k : Int))) (.int .i64 (k : Int)) (.int .i64 ((N : Int) - 1 - (k : Int))) (.string P)
        have b5 := below_five bA (z := g) (by omega) (.int .i64 T) (.int .i64 ((u : Int) + (k : Int))) (.int .i64 (k : Int)) (.int .i64 ((N : Int) - 1 - (k : Int))) (.string P)
        have HGW : Hid (g = wr.heap.size) := hg
        clear hW A2 A1 bA hHeld hHeldA x0 x1 x3 x5 hg
        go_simp
        obtain ⟨W2, hW2⟩ : ∃ W2, W2 = ((((W.setCell ⟨g, 0, none⟩ (.int .i64 T)).setCell ⟨g, 1, none⟩ (.int .i64 ((u : Int) + (k : Int)))).setCell ⟨g, 2, none⟩ (.int .i64 (k : Int))).setCell ⟨g, 3, none⟩ (.int .i64 ((N : Int) - 1 - (k : Int)))).setCell ⟨g, 4, none⟩ (.string P) := ⟨_, rfl⟩
        rw [← hW2] at G5 C5 b5 ⊢
        clear hW2 q0 q1 q2 q3 q4 p0 p1 p2 p3 p4
        have HX : Hid (Box W2 g 83 #[.int .i64 T, .int .i64 ((u : Int) + (k : Int)), .int .i64 (k : Int), .int .i64 ((N : Int) - 1 - (k : Int)), .string P] ∧ Box W2 p 63 (jc (.pointer (some ⟨hp2, 0, none⟩)) f c T J'.rv u) ∧ Below wr.heap.size wr W2) := ⟨G5, C5, b5⟩
        have hH1 : (fun w' : World => w'.cell? ⟨p, 0, none⟩ = some (.pointer (some ⟨hp2, 0, none⟩)) ∧ w'.cell? ⟨p, 1, none⟩ = some (.int .i64 f) ∧ w'.cell? ⟨g, 0, none⟩ = some (.int .i64 T) ∧ w'.cell? ⟨g, 1, none⟩ = some (.int .i64 ((u : Int) + (k : Int))) ∧ w'.cell? ⟨g, 2, none⟩ = some (.int .i64 (k : Int)) ∧ w'.cell? ⟨g, 3, none⟩ = some (.int .i64 ((N : Int) - 1 - (k : Int))) ∧ w'.cell? ⟨g, 4, none⟩ = some (.string P)) W2 := ⟨jc0 C5, jc1 C5, G5.cell 0 _ rfl, G5.cell 1 _ rfl, G5.cell 2 _ rfl, G5.cell 3 _ rfl, G5.cell 4 _ rfl⟩
        clear G5 C5 b5
        go_wp2_with fail
        refine wp_region_held_then (fun w' : World => w'.cell? ⟨p, 0, none⟩ = some (.pointer (some ⟨hp2, 0, none⟩)) ∧ w'.cell? ⟨p, 1, none⟩ = some (.int .i64 f) ∧ w'.cell? ⟨g, 0, none⟩ = some (.int .i64 T) ∧ w'.cell? ⟨g, 1, none⟩ = some (.int .i64 ((u : Int) + (k : Int))) ∧ w'.cell? ⟨g, 2, none⟩ = some (.int .i64 (k : Int)) ∧ w'.cell? ⟨g, 3, none⟩ = some (.int .i64 ((N : Int) - 1 - (k : Int))) ∧ w'.cell? ⟨g, 4, none⟩ = some (.string P)) _ (by kernel_rfl) rfl (by kernel_rfl) ?_
        have hHeld : (fun w' : World => w'.cell? ⟨p, 0, none⟩ = some (.pointer (some ⟨hp2, 0, none⟩)) ∧ w'.cell? ⟨p, 1, none⟩ = some (.int .i64 f) ∧ w'.cell? ⟨g, 0, none⟩ = some (.int .i64 T) ∧ w'.cell? ⟨g, 1, none⟩ = some (.int .i64 ((u : Int) + (k : Int))) ∧ w'.cell? ⟨g, 2, none⟩ = some (.int .i64 (k : Int)) ∧ w'.cell? ⟨g, 3, none⟩ = some (.int .i64 ((N : Int) - 1 - (k : Int))) ∧ w'.cell? ⟨g, 4, none⟩ = some (.string P)) W2.drew := hH1
        dsimp only [List.dropLast, List.length, List.getLast]
        ((refine takeL 0 (v := ?_) rfl (by kernel_rfl) (by kernel_rfl) (by kernel_rfl) (fun _ _ _ h => h) (by rfl) hHeld ?_ ?_; rotate_left; focus (intro w hSw; (try dsimp only at hSw); go_simp <;> with_reducible rfl); (try simp only [Act.put, List.setIfInBounds_toArray, List.set_cons_zero, List.set_cons_succ])); (refine takeL 1 (v := ?_) rfl (by kernel_rfl) (by kernel_rfl) (by kernel_rfl) (fun _ _ _ h => h) (by rfl) hHeld ?_ ?_; rotate_left; focus (intro w hSw; (try dsimp only at hSw); go_simp <;> with_reducible rfl); (try simp only [Act.put, List.setIfInBounds_toArray, List.set_cons_zero, List.set_cons_succ])); (refine takeL 2 (v := ?_) rfl (by kernel_rfl) (by kernel_rfl) (by kernel_rfl) (fun _ _ _ h => h) (by rfl) hHeld ?_ ?_; rotate_left; focus (intro w hSw; (try dsimp only at hSw); go_simp <;> with_reducible rfl); (try simp only [Act.put, List.setIfInBounds_toArray, List.set_cons_zero, List.set_cons_succ])); (refine takeL 3 (v := ?_) rfl (by kernel_rfl) (by kernel_rfl) (by kernel_rfl) (fun _ _ _ h => h) (by rfl) hHeld ?_ ?_; rotate_left; focus (intro w hSw; (try dsimp only at hSw); go_simp <;> with_reducible rfl); (try simp only [Act.put, List.setIfInBounds_toArray, List.set_cons_zero, List.set_cons_succ])); (refine takeL 4 (v := ?_) rfl (by kernel_rfl) (by kernel_rfl) (by kernel_rfl) (fun _ _ _ h => h) (by rfl) hHeld ?_ ?_; rotate_left; focus (intro w hSw; (try dsimp only at hSw); go_simp <;> with_reducible rfl); (try simp only [Act.put, List.setIfInBounds_toArray, List.set_cons_zero, List.set_cons_succ])); (refine takeL 5 (v := ?_) rfl (by kernel_rfl) (by kernel_rfl) (by kernel_rfl) (fun _ _ _ h => h) (by rfl) hHeld ?_ ?_; rotate_left; focus (intro w hSw; (try dsimp only at hSw); go_simp <;> with_reducible rfl); (try simp only [Act.put, List.setIfInBounds_toArray, List.set_cons_zero, List.set_cons_succ])); (refine takeL 6 (v := ?_) rfl (by kernel_rfl) (by kernel_rfl) (by kernel_rfl) (fun _ _ _ h => h) (by rfl) hHeld ?_ ?_; rotate_left; focus (intro w hSw; (try dsimp only at hSw); go_simp <;> with_reducible rfl); (try simp only [Act.put, List.setIfInBounds_toArray, List.set_cons_zero, List.set_cons_succ])); (refine takeL 7 (v := ?_) rfl (by kernel_rfl) (by kernel_rfl) (by kernel_rfl) (fun _ _ _ h => h) (by rfl) hHeld ?_ ?_; rotate_left; focus (intro w hSw; (try dsimp only at hSw); go_simp <;> with_reducible rfl); (try simp only [Act.put, List.setIfInBounds_toArray, List.set_cons_zero, List.set_cons_succ])); (refine takeL 8 (v := ?_) rfl (by kernel_rfl) (by kernel_rfl) (by kernel_rfl) (fun _ _ _ h => h) (by rfl) hHeld ?_ ?_; rotate_left; focus (intro w hSw; (try dsimp only at hSw); go_simp <;> with_reducible rfl); (try simp only [Act.put, List.setIfInBounds_toArray, List.set_cons_zero, List.set_cons_succ])); (refine takeL 9 (v := ?_) rfl (by kernel_rfl) (by kernel_rfl) (by kernel_rfl) (fun _ _ _ h => h) (by rfl) hHeld ?_ ?_; rotate_left; focus (intro w hSw; (try dsimp only at hSw); go_simp <;> with_reducible rfl); (try simp only [Act.put, List.setIfInBounds_toArray, List.set_cons_zero, List.set_cons_succ])); (refine takeL 10 (v := ?_) rfl (by kernel_rfl) (by kernel_rfl) (by kernel_rfl) (fun _ _ _ h => h) (by rfl) hHeld ?_ ?_; rotate_left; focus (intro w hSw; (try dsimp only at hSw); go_simp <;> with_reducible rfl); (try simp only [Act.put, List.setIfInBounds_toArray, List.set_cons_zero, List.set_cons_succ])); (refine takeL 11 (v := ?_) rfl (by kernel_rfl) (by kernel_rfl) (by kernel_rfl) (fun _ _ _ h => h) (by rfl) hHeld ?_ ?_; rotate_left; focus (intro w hSw; (try dsimp only at hSw); go_simp <;> with_reducible rfl); (try simp only [Act.put, List.setIfInBounds_toArray, List.set_cons_zero, List.set_cons_succ])))
        dsimp only [Act.put]
        simp only [List.setIfInBounds_toArray, List.set_cons_zero, List.set_cons_succ]
        refine callL 12 (f := 31) (vs := #[.agg #[.int .i64 T, .int .i64 ((u : Int) + (k : Int)), .int .i64 (k : Int), .int .i64 ((N : Int) - 1 - (k : Int)), .string P]]) rfl (by kernel_rfl) (by rfl) (by go_simp) ?_
        refine (cb _).mono ?_
        rintro e w3 ⟨rfl, hb3⟩
        have hbd := (Below.refl W2.heap.size W2).drew.trans hb3
        have G6 := HX.out.1.over hbd
        have C6 := HX.out.2.1.over hbd
        have b6 := HX.out.2.2.trans (hbd.mono HX.out.2.2.size)
        have hS3 : (fun w' : World => w'.cell? ⟨p, 0, none⟩ = some (.pointer (some ⟨hp2, 0, none⟩)) ∧ w'.cell? ⟨p, 1, none⟩ = some (.int .i64 f) ∧ w'.cell? ⟨g, 0, none⟩ = some (.int .i64 T) ∧ w'.cell? ⟨g, 1, none⟩ = some (.int .i64 ((u : Int) + (k : Int))) ∧ w'.cell? ⟨g, 2, none⟩ = some (.int .i64 (k : Int)) ∧ w'.cell? ⟨g, 3, none⟩ = some (.int .i64 ((N : Int) - 1 - (k : Int))) ∧ w'.cell? ⟨g, 4, none⟩ = some (.string P)) w3 := ⟨jc0 C6, jc1 C6, G6.cell 0 _ rfl, G6.cell 1 _ rfl, G6.cell 2 _ rfl, G6.cell 3 _ rfl, G6.cell 4 _ rfl⟩
        refine ⟨_, rfl, hS3, ?_⟩
        have O3 := HA.out.over b6
        have HO3 := (show Hid _ from O3)
        have hgf : ¬ J'.H.foot g := fun h => by have := HA.out.jnl.dev.lt h; have := HGW.out; omega
        have hpf : ¬ J'.H.foot p := by have := HA.out.jnl.np; rw [HH2.out.2] at this; exact this
        cases hgo : s'.goes with
        | true =>
          have cwr := write_on O3.jnl.dev (f + (u + k)) Bk (by have := O3.sure; have := HN.out; omega) HBK.out.2 hgo (by have := O3.wait; have := HN.out; omega)
          rw [← HH2.out.1, show ((f + (u + k) : Nat) : Int) = (f : Int) + ((u : Int) + (k : Int)) by omega] at cwr
          have HGO : Hid (s'.goes = true) := hgo
          clear O3 hgo
          refine callL 13 (f := 30) (vs := #[.pointer (some ⟨hp2, 0, none⟩), .int .i64 ((f : Int) + ((u : Int) + (k : Int))), .string Bk]) rfl (by kernel_rfl) (by rfl) (by go_simp) ?_
          refine cwr.mono ?_
          rintro e w4 ⟨rfl, H', D4, T4⟩
          have G7 := G6.kept T4.kept hgf
          have C7 := C6.kept T4.kept hpf
          have hS4 : (fun w' : World => w'.cell? ⟨p, 0, none⟩ = some (.pointer (some ⟨hp2, 0, none⟩)) ∧ w'.cell? ⟨p, 1, none⟩ = some (.int .i64 f) ∧ w'.cell? ⟨g, 0, none⟩ = some (.int .i64 T) ∧ w'.cell? ⟨g, 1, none⟩ = some (.int .i64 ((u : Int) + (k : Int))) ∧ w'.cell? ⟨g, 2, none⟩ = some (.int .i64 (k : Int)) ∧ w'.cell? ⟨g, 3, none⟩ = some (.int .i64 ((N : Int) - 1 - (k : Int))) ∧ w'.cell? ⟨g, 4, none⟩ = some (.string P)) w4 := ⟨jc0 C7, jc1 C7, G7.cell 0 _ rfl, G7.cell 1 _ rfl, G7.cell 2 _ rfl, G7.cell 3 _ rfl, G7.cell 4 _ rfl⟩
          refine ⟨_, rfl, hS4, ?_⟩
          have HE : Hid (∃ (J2 : Jh) (s2 : St), Adg J J2 s s2 f c turn u out t (k + 1) w w4) := by
            obtain ⟨j2, t2⟩ := HO3.out.jnl.turned D4 T4
            refine ⟨_, _, j2, HO3.out.trn.trans t2, ?_, HO3.out.sure, ?_⟩
            · rw [← HO3.out.put, blks_drop (k := k) (by have := HN.out; omega), putAll_cons s', if_pos HGO.out, HBK.out.1, strB_list, show f + (u + k) = f + u + k by omega, show f + u + (k + 1) = f + u + k + 1 by omega]
            · have := HO3.out.wait
              show (s'.wait ++ [_]).length ≤ _
              rw [List.length_append, List.length_singleton]
              omega
          clear D4 T4 G7 C7 hS4 G6 C6 b6 hS3 hbd hb3 cwr
          refine doneL (by kernel_rfl) ?_
          try dsimp only [Act.put]
          unfold Oper.wp
          go_simp
          go_wp2_with fail
          go_roundg (N - (k + 1))
          case measure => omega
          case rel =>
            obtain ⟨J2, s2, h⟩ := HE.out
            exact ⟨k + 1, J2, s2, by omega, by go_num, h⟩
        | false =>
          have cwr := write_off O3.jnl.dev (f + (u + k)) Bk (by have := O3.sure; have := HN.out; omega) HBK.out.2 hgo
          rw [← HH2.out.1, show ((f + (u + k) : Nat) : Int) = (f : Int) + ((u : Int) + (k : Int)) by omega] at cwr
          have HGO : Hid (s'.goes = false) := hgo
          clear O3 hgo
          refine callL 13 (f := 30) (vs := #[.pointer (some ⟨hp2, 0, none⟩), .int .i64 ((f : Int) + ((u : Int) + (k : Int))), .string Bk]) rfl (by kernel_rfl) (by rfl) (by go_simp) ?_
          refine cwr.mono ?_
          rintro e w4 ⟨rfl, D4, T4⟩
          have G7 := G6.kept T4.kept hgf
          have C7 := C6.kept T4.kept hpf
          have hS4 : (fun w' : World => w'.cell? ⟨p, 0, none⟩ = some (.pointer (some ⟨hp2, 0, none⟩)) ∧ w'.cell? ⟨p, 1, none⟩ = some (.int .i64 f) ∧ w'.cell? ⟨g, 0, none⟩ = some (.int .i64 T) ∧ w'.cell? ⟨g, 1, none⟩ = some (.int .i64 ((u : Int) + (k : Int))) ∧ w'.cell? ⟨g, 2, none⟩ = some (.int .i64 (k : Int)) ∧ w'.cell? ⟨g, 3, none⟩ = some (.int .i64 ((N : Int) - 1 - (k : Int))) ∧ w'.cell? ⟨g, 4, none⟩ = some (.string P)) w4 := ⟨jc0 C7, jc1 C7, G7.cell 0 _ rfl, G7.cell 1 _ rfl, G7.cell 2 _ rfl, G7.cell 3 _ rfl, G7.cell 4 _ rfl⟩
          refine ⟨_, rfl, hS4, ?_⟩
          have HE : Hid (∃ J2 : Jh, Jnl w4 J2 s'.burnt f c turn u out ∧ JTurned J J2 w w4 ∧ putAll s (f + u) (blkLs turn u t) = (s'.burnt, 40)) := by
            obtain ⟨j2, t2⟩ := HO3.out.jnl.turned D4 T4
            refine ⟨_, j2, HO3.out.trn.trans t2, ?_⟩
            rw [← HO3.out.put, blks_drop (k := k) (by have := HN.out; omega), putAll_cons s', if_neg (by rw [HGO.out]; decide)]
          clear D4 T4 G7 C7 hS4 G6 C6 b6 hS3 hbd hb3 cwr
          refine doneL (by kernel_rfl) ?_
          try dsimp only [Act.put]
          unfold Oper.wp
          go_simp
          go_wp2_with fail
          go_ret
          obtain ⟨J2, h1, h2, h3⟩ := HE.out
          exact ⟨J2, _, _, h3, rfl, h2, .inr ⟨rfl, h1⟩⟩
    · have hkI : ¬ (k : Int) < N := by omega
      have hkN : k = N := by omega
      have hput : putAll s' (f + u + k) [] = putAll s (f + u) (blkLs turn u t) := by
        have h := HA.out.put
        rw [hkN, show (blkLs turn u t).drop N = [] from List.drop_eq_nil_of_le (by rw [blkLs_len]; have := HN.out; omega)] at h
        rw [hkN]
        exact h
      rw [putAll_nil] at hput
      have D3 := HA.out.jnl.dev
      cases hgo : s'.goes with
      | true =>
        have csy := sync_on D3 hgo
        rw [← HH2.out.1] at csy
        have HPU : Hid (putAll s (f + u) (blkLs turn u t) = (s'.synced, 0)) := by show _ = _; rw [← hput, if_pos hgo]
        clear hput D3 hgo hkN
        go_wp2_with fail
        refine csy.mono ?_
        rintro e w4 ⟨rfl, H', D4, T4⟩
        obtain ⟨j2, t2⟩ := HA.out.jnl.turned D4 T4
        have ck := jkeep_any j2.box j2.recs (fun k hk => (j2.nr k hk).1) t HN.out.2.1 HN.out.2.2.1 (by have := HN.out; omega) (by rw [bks_len]; have := HN.out; omega)
        rw [show (⟨H', J'.p, J'.rv⟩ : Jh).p = p from HH2.out.2] at ck
        have HJ2 : Hid (Jnl w4 ⟨H', J'.p, J'.rv⟩ s'.synced f c turn u out ∧ JTurned J ⟨H', J'.p, J'.rv⟩ w w4) := ⟨j2, HA.out.trn.trans t2⟩
        have HKE : Hid (∀ e w', KeepAns p (.pointer (some ⟨(⟨H', J'.p, J'.rv⟩ : Jh).H.p, 0, none⟩)) (⟨H', J'.p, J'.rv⟩ : Jh).rv f c turn.toInt (u + needs t.length) (bks out ++ [strB t]) w4 e w' → e = .returned (.tuple #[]) ∧ ∃ J2 : Jh, Jnl w' J2 s'.synced f c turn (u + needs t.length) (out ++ [t]) ∧ JTurned J J2 w w') := fun e w' h => by
          rw [← show (⟨H', J'.p, J'.rv⟩ : Jh).p = p from HH2.out.2] at h
          obtain ⟨he, rv', h1, h2⟩ := HJ2.out.1.keep h
          exact ⟨he, _, h1, HJ2.out.2.trans h2⟩
        rw [← HSS.out] at ck
        clear j2 t2 D4 T4
        go_wp2_with fail
        refine ck.mono ?_
        intro e w5 hk5
        obtain ⟨rfl, J2, h1, h2⟩ := HKE.out e w5 (by rw [← HSS.out]; exact hk5)
        have HE : Hid (Jnl w5 J2 s'.synced f c turn (u + needs t.length) (out ++ [t]) ∧ JTurned J J2 w w5) := ⟨h1, h2⟩
        clear hk5 h1 h2
        go_wp2_with fail
        go_ret
        exact ⟨J2, _, _, HPU.out, rfl, HE.out.2, .inl ⟨rfl, HE.out.1⟩⟩
      | false =>
        have csy := sync_off D3 hgo
        rw [← HH2.out.1] at csy
        have HPU : Hid (putAll s (f + u) (blkLs turn u t) = (s'.burnt, 40)) := by show _ = _; rw [← hput, if_neg (by rw [hgo]; decide)]
        clear hput D3 hgo hkN
        go_wp2_with fail
        refine csy.mono ?_
        rintro e w4 ⟨rfl, D4, T4⟩
        have HE : Hid (∃ J2 : Jh, Jnl w4 J2 s'.burnt f c turn u out ∧ JTurned J J2 w w4) := by
          obtain ⟨j2, t2⟩ := HA.out.jnl.turned D4 T4
          exact ⟨_, j2, HA.out.trn.trans t2⟩
        clear D4 T4
        go_wp2_with fail
        go_ret
        obtain ⟨J2, h1, h2⟩ := HE.out
        exact ⟨J2, _, _, HPU.out, rfl, h2, .inr ⟨rfl, h1⟩⟩
end Go.Proofs.Ytgffplfpoopolaa
/-
  The contract of package peristyleref07's Same, where both are the same texts.
-/
namespace Go.Proofs.Ytgffplfpoopolaa
open Go.RowKit

set_option maxRecDepth 4000 in
set_option maxHeartbeats 1000000 in
theorem sameT_row (w : World) (b1 off1 c1 b2 off2 c2 : Nat) (l : List ByteArray) (hl : l.length ≤ 1000000)
    (h1 : ∀ i t, l[i]? = some t → w.cell? ⟨b1, off1 + i, none⟩ = some (.string t)) (h2 : ∀ i t, l[i]? = some t → w.cell? ⟨b2, off2 + i, none⟩ = some (.string t)) :
    Calls Try.prog 10 #[.slice (some ⟨b1, off1, none⟩) l.length c1, .slice (some ⟨b2, off2, none⟩) l.length c2] w fun e w' => e = .returned (.bool true) ∧ ∃ n, w' = w.drewN n := by
  obtain ⟨m, hm⟩ : ∃ m, m = l.length := ⟨_, rfl⟩
  rw [← hm] at hl ⊢
  have HM : Hid (m = l.length) := hm
  clear hm
  go_enter Try.func10, Try.ntmps10
  go_wp2
  go_loopg [5] m (fun g s5 wx => ∃ k n : Nat, k + g = m ∧ s5 = .int .i64 k ∧ wx = w.drewN n)
  case atStart => exact ⟨0, 0, by omega, rfl, rfl⟩
  case round =>
    obtain ⟨k, n, hkg, rfl, rfl⟩ := hrel
    by_cases hk : k < m
    · have hkI : (k : Int) < (m : Int) := by omega
      obtain ⟨t, ht⟩ : ∃ t, l[k]? = some t := ⟨_, List.getElem?_eq_getElem (by rw [← HM.out]; exact hk)⟩
      have e1 := h1 k t ht
      have e2 := h2 k t ht
      clear ht h1 h2
      go_wp2
      go_quiet (fail)
      go_wp2
      go_roundg (m - (k + 1))
      case measure => omega
      case rel => exact ⟨k + 1, _, by omega, by go_num, rfl⟩
    · have hkI : ¬ (k : Int) < (m : Int) := by omega
      clear h1 h2
      go_wp2
      go_ret
      exact ⟨rfl, _, rfl⟩
set_option maxHeartbeats 400000 in
theorem sameT_nil (w : World) (a1 a2 : Option Addr) (c1 c2 : Nat) :
    Calls Try.prog 10 #[.slice a1 0 c1, .slice a2 0 c2] w fun e w' => e = .returned (.bool true) ∧ ∃ n, w' = w.drewN n := by
  go_enter Try.func10, Try.ntmps10
  go_wp2
  go_loopg [5] 0 (fun g s5 wx => g = 0 ∧ s5 = .int .i64 0 ∧ wx = w)
  case atStart => exact ⟨rfl, rfl, rfl⟩
  case round =>
    obtain ⟨hg, rfl, rfl⟩ := hrel
    clear hg
    go_wp2
    go_ret
    exact ⟨rfl, 0, rfl⟩
theorem sameT_any (w : World) (v1 v2 : Value) (l : List ByteArray) (hl : l.length ≤ 1000000) (h1 : ReadsS w v1 l) (h2 : ReadsS w v2 l) :
    Calls Try.prog 10 #[v1, v2] w fun e w' => e = .returned (.bool true) ∧ ∃ n, w' = w.drewN n := by
  rcases h1 with ⟨rfl, a1, c1, rfl⟩ | ⟨b1, off1, c1, rfl, hne, _, hc1⟩
  · rcases h2 with ⟨_, a2, c2, rfl⟩ | ⟨_, _, _, _, hne, _⟩
    · exact sameT_nil w _ _ _ _
    · exact absurd rfl hne
  · rcases h2 with ⟨h, _⟩ | ⟨b2, off2, c2, rfl, _, _, hc2⟩
    · exact absurd h hne
    · exact sameT_row w _ _ _ _ _ _ l hl hc1 hc2
end Go.Proofs.Ytgffplfpoopolaa
/-
  Law 23's at and long.
-/
namespace Go.Proofs.Ytgffplfpoopolaa
open Go.RowKit Leb

theorem size_ext : (Try.prog.info? 37).map (·.size) = some 2 := by kernel_rfl
theorem lat_any (w : World) : Calls Try.prog 7 #[] w fun e w' => e = .returned (.agg #[.int .i64 3, .int .i64 40]) ∧ Below w.heap.size w w' := by
  go_enter Try.func7, Try.ntmps7
  go_wp2
  refine bodyPost_ret (res_box Try.results7 _ rfl (box_new w #[.int .i64 3, .int .i64 40] 37) Try.underlying37 rfl size_ext) rfl ⟨rfl, below1 _ _⟩
def chL (i : Nat) : UInt8 := UInt8.ofNat (97 + i % 26)
def longL (n : Nat) : List UInt8 := (List.range n).map chL
theorem longL_len (n : Nat) : (longL n).length = n := by simp [longL]
def longK (n k : Nat) : List UInt8 := (List.range n).map fun i => if i < k then chL i else 0
theorem longK_len (n k : Nat) : (longK n k).length = n := by simp [longK]
theorem longK_zero (n : Nat) : longK n 0 = List.replicate n 0 := by
  apply List.ext_getElem
  · simp [longK]
  · intro i h1 h2; simp [longK]
theorem longK_all (n : Nat) : longK n n = longL n := by
  unfold longK longL
  apply List.map_congr_left
  intro i hi
  rw [if_pos (by simpa using hi)]
theorem longK_set (n k : Nat) : (longK n k).set k (chL k) = longK n (k + 1) := by
  apply List.ext_getElem
  · simp [longK]
  · intro i h1 h2
    rw [List.getElem_set]
    simp only [longK, List.getElem_map, List.getElem_range]
    by_cases e : k = i
    · subst e
      rw [if_pos rfl, if_pos (by omega)]
    · rw [if_neg e]
      by_cases h : i < k
      · rw [if_pos h, if_pos (by omega)]
      · rw [if_neg h, if_neg (by omega)]
theorem chL_nat (k : Nat) : (chL k).toNat = 97 + k % 26 := by
  unfold chL
  rw [UInt8.toNat_ofNat']
  omega
set_option maxRecDepth 4000 in
set_option maxHeartbeats 1000000 in
theorem llong_any (n : Nat) (hn : n ≤ 20000) (w : World) :
    Calls Try.prog 17 #[.int .i64 n] w fun e w' => e = .returned (.string (strB (longL n))) ∧ Below w.heap.size w w' := by
  have HL : Hid (strB (longK n n) = strB (longL n)) := by show _ = _; rw [longK_all]
  go_enter Try.func17, Try.ntmps17
  go_wp2_with (at_make; refine make_u8 rfl _ _ rfl rfl rfl rfl (by omega) ?_; intro w1 hrow hb1)
  go_loopg [4] n (fun g s4 wx => ∃ k : Nat, k + g = n ∧ s4 = .int .i64 k ∧ RowB wx w.heap.size (longK n k) ∧ Below w.heap.size w wx)
  case atStart => exact ⟨0, by omega, rfl, by rw [longK_zero]; exact hrow, hb1⟩
  case round =>
    obtain ⟨k, hkg, rfl, hR, hB⟩ := hrel
    have HR : Hid (RowB wr w.heap.size (longK n k) ∧ Below w.heap.size w wr) := ⟨hR, hB⟩
    by_cases hk : k < n
    · have hkI : (k : Int) < n := by omega
      have hc := hR.cell k (by rw [longK_len]; exact hk)
      have hf := hR.frozen k (by rw [longK_len]; exact hk)
      have hch : (97 : Int) + (k : Int) % 26 = ((chL k).toNat : Int) := by rw [chL_nat]; omega
      have hcl := (chL k).toNat_lt
      have hu8 : ((chL k).toNat : Int) % 256 = ((chL k).toNat : Int) := by omega
      have hk0 : 0 ≤ (k : Int) ∧ (k : Int) < n := by omega
      obtain ⟨x, hx⟩ : ∃ x, x = chL k := ⟨_, rfl⟩
      rw [← hx] at hch hcl hu8
      have HX : Hid (x = chL k) := hx
      clear hR hB hx
      go_wp2_with fail
      go_roundg (n - (k + 1))
      case measure => omega
      case rel =>
        have h := HR.out.1.set k (by rw [longK_len]; exact hk) x
        rw [HX.out, longK_set] at h
        refine ⟨k + 1, by omega, by go_num, ?_, ?_⟩
        · rw [HX.out]; exact h
        · exact HR.out.2.setCell (p := ⟨w.heap.size, k, none⟩) (Nat.le_refl _) _
    · have hkn : k = n := by omega
      subst hkn
      have hkI : ¬ (k : Int) < k := by omega
      have htx := hR.text k
      rw [longK_len, HL.out] at htx
      clear hR hB
      go_wp2_with fail
      go_ret
      exact ⟨rfl, HR.out.2⟩
end Go.Proofs.Ytgffplfpoopolaa
/-
  Law 23's journals, as its walks have them; law 23's awake.
-/
namespace Go.Proofs.Ytgffplfpoopolaa
open Go.RowKit Leb

theorem DevIs.blks {w : World} {H : Hnd} {s : St} (D : DevIs w H s) : ∀ b ∈ lay s.sure s.wait, b.length = 128 := lay_mem s.wait s.sure D.blk fun x hx => (D.ats x hx).2
theorem JTurned.low {J J' : Jh} {w w' : World} {B : Nat} (h : JTurned J J' w w') (hF : ∀ k, J.foot k → B ≤ k) (hB : B ≤ w.heap.size) : Below B w w' ∧ ∀ k, J'.foot k → B ≤ k :=
  ⟨h.kept.below hF hB, fun k hk => by
    rcases h.foot k hk with h1 | h1
    · exact hF k h1
    · omega⟩
theorem free_goes {s : St} (ho : s.off = false) (hf : s.fuse < 0) : s.goes = true := by
  unfold St.goes
  rw [ho]
  simp
  omega
theorem free_burnt {s : St} (ho : s.off = false) (hf : s.fuse < 0) : s.burnt.off = false ∧ s.burnt.fuse < 0 := by
  unfold St.burnt
  simp [ho]
  omega
theorem putAll_free : ∀ (bl : List (List UInt8)) (s : St) (a : Nat), s.off = false → s.fuse < 0 → (putAll s a bl).2 = 0 ∧ (putAll s a bl).1.fuse < 0
  | [], s, a, ho, hf => by
    rw [putAll_nil, if_pos (free_goes ho hf)]
    exact ⟨rfl, (free_burnt ho hf).2⟩
  | b :: r, s, a, ho, hf => by
    rw [putAll_cons, if_pos (free_goes ho hf)]
    exact putAll_free r (s.write a b) (a + 1) (free_burnt ho hf).1 (free_burnt ho hf).2
/-- A journal of law 23's: nothing waits, the power is on, and noughts lie behind its records. -/
structure JS (w : World) (B : Nat) (J : Jh) (s : St) (turn : BitVec 64) (u : Nat) (out : List (List UInt8)) : Prop where
  jnl : Jnl w J s 3 40 turn u out
  own : ∀ k, J.foot k → B ≤ k
  jst : Jst s.sure 3 40 turn out u
  wait : s.wait = []
  off : s.off = false
  n50 : s.sure.length = 50
section
variable {w w' : World} {B : Nat} {J : Jh} {s : St} {turn : BitVec 64} {u : Nat} {out : List (List UInt8)}
theorem JS.over (h : JS w B J s turn u out) (b : Below w.heap.size w w') : JS w' B J s turn u out := ⟨h.jnl.over b, h.own, h.jst, h.wait, h.off, h.n50⟩
theorem JS.few (h : JS w B J s turn u out) : u ≤ 40 ∧ out.length ≤ 40 := by
  have h1 := h.jst.le
  have h2 := line_count h.jst.line
  omega
/-- What an Add leaves. -/
def JSAdd (w : World) (B : Nat) (J : Jh) (s : St) (turn : BitVec 64) (u : Nat) (out : List (List UInt8)) (t : List UInt8) (e : Ending) (w' : World) : Prop :=
  (∃ J' s', J'.p = J.p ∧ J'.H.p = J.H.p ∧ ((e = .returned (.int .i64 0) ∧ JS w' B J' s' turn (u + needs t.length) (out ++ [t]) ∧ (s.fuse < 0 → s'.fuse < 0)) ∨
    (e = .returned (.int .i64 40) ∧ ¬ s.fuse < 0 ∧ Jnl w' J' s' 3 40 turn u out ∧ (∀ k, J'.foot k → B ≤ k) ∧ s'.sure = s.sure ∧ ∃ k, s'.wait = (wrs (3 + u) (blkLs turn u t)).take k))) ∧ Below B w w'
theorem js_add (h : JS w B J s turn u out) (hB : B ≤ w.heap.size) (t : List UInt8) (h1 : 1 ≤ t.length) (h2 : t.length ≤ 8192) (hr : u + needs t.length ≤ 40) :
    Calls Try.prog 16 #[.pointer (some ⟨J.p, 0, none⟩), .string (strB t)] w (JSAdd w B J s turn u out t) := by
  refine (jadd_on h.jnl (by rw [h.n50]; omega) (by rw [h.n50]; omega) (by rw [h.wait]; simp) (by have := h.few; omega) t h1 h2 hr).mono ?_
  rintro e w' ⟨J', s', n, hp, rfl, hT, hc⟩
  obtain ⟨hb, ho⟩ := hT.low h.own hB
  refine ⟨⟨J', s', hT.p, hT.hp, ?_⟩, hb⟩
  have hsp := putAll_spec (blkLs turn u t) s (3 + u)
  have hfr := putAll_free (blkLs turn u t) s (3 + u) h.off
  rw [hp] at hsp hfr
  simp only [h.wait, List.nil_append] at hsp hfr
  rcases hc with ⟨rfl, hj⟩ | ⟨rfl, hj⟩
  · left
    rcases hsp with ⟨_, e2, e3, e4⟩ | ⟨e1, _⟩
    · refine ⟨rfl, ⟨hj, ho, ?_, e3, e4, ?_⟩, fun hf => (hfr hf).2⟩
      · rw [e2]; exact h.jst.add h1 h2 hr
      · rw [e2, lay_len]; exact h.n50
    · cases e1
  · right
    rcases hsp with ⟨e1, _⟩ | ⟨_, e2, k, e3⟩
    · cases e1
    · exact ⟨rfl, fun hf => (by have := (hfr hf).1; cases this), hj, ho, e2, k, e3⟩
/-- The journal of a turn, opened anew. -/
def JSOpen (w : World) (H : Hnd) (S : List (List UInt8)) (s : St) (turn : BitVec 64) (e : Ending) (w' : World) : Prop :=
  (∃ K u out, e = .returned (.tuple #[.pointer (some ⟨K.p, 0, none⟩), .int .i64 0]) ∧ K.H = H ∧ Jnl w' K s 3 40 turn u out ∧ Recs (extL S 3 40) turn out u ∧ u ≤ 40 ∧ w.heap.size ≤ K.p ∧ ∀ k, K.rv.ownBlock = some k → w.heap.size ≤ k) ∧ Below w.heap.size w w'
theorem may_at {turn : BitVec 64} (h1 : 1 ≤ turn.toInt) (h2 : turn.toInt ≤ 4294967296) : mayJ 50 ((3 : Nat) : Int) ((40 : Nat) : Int) turn.toInt = true := by
  simp [mayJ, h1, h2]
theorem js_open {H : Hnd} (D : DevIs w H s) (hoff : s.off = false) (hn : s.sure.length = 50) (h1 : 1 ≤ turn.toInt) (h2 : turn.toInt ≤ 4294967296) (hok : ∀ b ∈ extL (lay s.sure s.wait) 3 40, okB b = true) :
    Calls Try.prog 18 #[.pointer (some ⟨H.p, 0, none⟩), .agg #[.int .i64 3, .int .i64 40], .int .i64 turn.toInt] w (JSOpen w H (lay s.sure s.wait) s turn) := by
  refine Calls.mono (jopen_on D hoff 3 40 (by omega) (by omega) (by omega) D.blks turn (by rw [hn]; exact may_at h1 h2)) ?_
  rintro e w' ⟨h, hb⟩
  rcases h with ⟨_, K, u, out, he, hH, hj, hr, hu, hp, hv⟩ | ⟨⟨b, hb1, hb2⟩, _⟩
  · exact ⟨⟨K, u, out, he, hH, hj, hr, hu, hp, hv⟩, hb⟩
  · rw [hok b hb1] at hb2; cases hb2
end
theorem jst_ok {S : List (List UInt8)} {turn : BitVec 64} {out : List (List UInt8)} {u : Nat} (h : Jst S 3 40 turn out u) : ∀ b ∈ extL S 3 40, okB b = true := by
  have := h.ok (t := [0]) (by simp) (by simp) [] (by simp)
  rw [lay_nil] at this
  exact this
/-- A journal of law 23's, begun. -/
theorem js_begin {w : World} {H : Hnd} (D : DevIs w H (St.new 50)) {B : Nat} (hF : ∀ k, H.foot k → B ≤ k) (hB : B ≤ w.heap.size) (turn : BitVec 64) (h1 : 1 ≤ turn.toInt) (h2 : turn.toInt ≤ 4294967296) :
    Calls Try.prog 6 #[.pointer (some ⟨H.p, 0, none⟩), .agg #[.int .i64 3, .int .i64 40], .int .i64 turn.toInt] w fun e w' => (∃ J, e = .returned (.tuple #[.pointer (some ⟨J.p, 0, none⟩), .int .i64 0]) ∧ J.H = H ∧ JS w' B J (St.new 50) turn 0 []) ∧ Below w.heap.size w w' := by
  have hl : (St.new 50).sure.length = 50 := rfl
  refine Calls.mono (jbegin_yes (some ⟨H.p, 0, none⟩) 50 (by omega) 3 40 turn.toInt (by omega) w (by have := D.up; rw [hl] at this; exact this) (may_at h1 h2)) ?_
  rintro e w' ⟨⟨p, he, hb, hp⟩, hbel⟩
  have hno : ¬ H.foot p := fun h => by have := D.lt h; omega
  refine ⟨⟨⟨H, p, .slice none 0 0⟩, he, rfl, ⟨⟨D.below hbel, hb, ownsS_nil _ _, hno, ?_⟩, ?_, jst_new (by omega), rfl, rfl, rfl⟩⟩, hbel⟩
  · intro k hk; simp [Value.ownBlock] at hk
  · intro k hk
    rcases hk with h | h | h
    · exact hF k h
    · rw [h]; show B ≤ p; omega
    · simp [Value.ownBlock] at h
theorem fuse_new : (St.new 50).fuse < 0 := by decide
/-- Of another turn's records none are told. -/
theorem other_turn {S : List (List UInt8)} {t1 t2 : BitVec 64} {s : List UInt8} {r : List (List UInt8)} {u : Nat} (h : Jst S 3 40 t1 (s :: r) u) (hne : t1 ≠ t2) : Recs (extL S 3 40) t2 [] 0 := by
  refine ⟨rfl, fun t ht => ?_⟩
  have h0 := h.line.1
  have e1 := h0.blk 0 (needs_pos h0.s0)
  have e2 := ht.blk 0 (needs_pos ht.s0)
  rw [e1] at e2
  have e3 := congrArg Pt.turn (part_inj (ptAt_may t1 0 h0.s0 h0.s1 (needs_pos h0.s0)).s1 (ptAt_may t2 0 ht.s0 ht.s1 (needs_pos ht.s0)).s1 (Option.some.inj e2))
  exact hne e3
end Go.Proofs.Ytgffplfpoopolaa
/-
  Law 23's awake.
-/
namespace Go.Proofs.Ytgffplfpoopolaa
open Go.RowKit Leb

theorem two_texts (w : World) (a b : ByteArray) : ReadsS (w.alloc (.cells #[.string a, .string b] 9)) (.slice (some ⟨w.heap.size, 0, none⟩) 2 2) [a, b] := by
  have B := box_new w #[.string a, .string b] 9
  refine .inr ⟨w.heap.size, 0, 2, rfl, by simp, B.lt, fun i t hi => ?_⟩
  rw [Nat.zero_add]
  refine B.cell i _ ?_
  match i, hi with
  | 0, hi => simpa using hi
  | 1, hi => simpa using hi
set_option maxRecDepth 4000 in
set_option maxHeartbeats 2000000 in
theorem awake23 (w : World) : Calls Try.prog 8 #[] w fun e w' => e = .returned (.bool true) ∧ Below w.heap.size w w' := by
  have cnew := new_any 50 (by omega) (by omega) w
  have c200 := fun w => llong_any 200 (by omega) w
  have hlx : (strB [120]) = { data := #[120] } := rfl
  have HL : Hid ((longL 200).length = 200) := longL_len 200
  obtain ⟨X, hX⟩ : ∃ X, X = longL 200 := ⟨_, rfl⟩
  rw [← hX] at c200 HL
  obtain ⟨S, hS⟩ : ∃ S, S = strB X := ⟨_, rfl⟩
  rw [← hS] at c200
  have HS : Hid (S = strB X) := hS
  have c97 := fun w => jneeds_any 97 w
  rw [show needsI 97 = 2 from rfl] at c97
  clear hX hS
  go_enter Try.func8, Try.ntmps8
  go_wp2_with fail
  refine cnew.mono ?_
  rintro e w1 ⟨H, rfl, D1, b1, hF⟩
  have HD : Hid (DevIs w1 H (St.new 50) ∧ Below w.heap.size w w1 ∧ ∀ k, H.foot k → w.heap.size ≤ k) := ⟨D1, b1, hF⟩
  obtain ⟨hp, hhp⟩ : ∃ hp, hp = H.p := ⟨_, rfl⟩
  have HH : Hid (hp = H.p) := hhp
  rw [← hhp]
  clear D1 b1 hF cnew hhp
  go_wp2_with fail
  refine (lat_any _).mono ?_
  rintro e w2 ⟨rfl, b2⟩
  have cbeg := js_begin (HD.out.1.below b2) HD.out.2.2 (Nat.le_trans HD.out.2.1.size b2.size) 7#64 (by decide) (by decide)
  rw [← HH.out, show (7#64).toInt = 7 from rfl] at cbeg
  have HB : Hid (Below w.heap.size w w2) := HD.out.2.1.trans (b2.mono HD.out.2.1.size)
  clear b2
  go_wp2_with fail
  refine cbeg.mono ?_
  rintro e w3 ⟨⟨J, rfl, hJH, j3⟩, b3⟩
  have HJ : Hid (JS w3 w.heap.size J (St.new 50) 7#64 0 [] ∧ Below w.heap.size w w3 ∧ J.H = H) := ⟨j3, HB.out.trans (b3.mono HB.out.size), hJH⟩
  obtain ⟨p, hpp⟩ : ∃ p, p = J.p := ⟨_, rfl⟩
  have HP : Hid (p = J.p) := hpp
  rw [← hpp]
  clear j3 b3 cbeg HB hpp hJH
  go_wp2_with fail
  refine (c200 _).mono ?_
  rintro e w4 ⟨rfl, b4⟩
  have j4 := HJ.out.1.over b4
  have b04 := HJ.out.2.1.trans (b4.mono HJ.out.2.1.size)
  have cad := js_add j4 b04.size X (by have := HL.out; omega) (by have := HL.out; omega) (by have := HL.out; rw [this]; decide)
  rw [← HP.out, ← HS.out] at cad
  have HB : Hid (Below w.heap.size w w4) := b04
  clear j4 b4 b04
  go_wp2_with fail
  refine cad.mono ?_
  rintro e w5 ⟨⟨J5, s5, hp5, hh5, hc⟩, b5⟩
  rcases hc with ⟨rfl, j5, hf5⟩ | ⟨_, hno, _⟩
  rotate_left
  · exact absurd fuse_new hno
  have HJ5 : Hid (JS w5 w.heap.size J5 s5 7#64 3 [X] ∧ Below w.heap.size w w5 ∧ J5.p = p ∧ J5.H.p = hp ∧ s5.fuse < 0) := by
    rw [HL.out] at j5
    exact ⟨j5, HB.out.trans b5, by rw [HP.out]; exact hp5, by rw [HH.out, ← HJ.out.2.2]; exact hh5, hf5 fuse_new⟩
  clear cad hp5 hh5 hf5 j5 b5 HB
  have cad := js_add HJ5.out.1 HJ5.out.2.1.size [120] (by decide) (by decide) (by decide)
  rw [HJ5.out.2.2.1, hlx] at cad
  go_wp2_with fail
  refine cad.mono ?_
  rintro e w6 ⟨⟨J6, s6, hp6, hh6, hc⟩, b6⟩
  rcases hc with ⟨rfl, j6, hf6⟩ | ⟨_, hno, _⟩
  rotate_left
  · exact absurd HJ5.out.2.2.2.2 hno
  have HJ6 : Hid (JS w6 w.heap.size J6 s6 7#64 4 [X, [120]] ∧ Below w.heap.size w w6 ∧ J6.p = p ∧ J6.H.p = hp) := ⟨j6, HJ5.out.2.1.trans b6, by rw [hp6]; exact HJ5.out.2.2.1, by rw [hh6]; exact HJ5.out.2.2.2.1⟩
  clear cad hp6 hh6 hf6 j6 b6
  have croom := jroom_any HJ6.out.1.jnl.box (by decide)
  rw [HJ6.out.2.2.1, show ((40 : Nat) : Int) - ((4 : Nat) : Int) = 36 from rfl] at croom
  go_wp2_with fail
  refine croom.mono ?_
  rintro e w7 ⟨rfl, b7⟩
  have HJ7 : Hid (JS w7 w.heap.size J6 s6 7#64 4 [X, [120]] ∧ Below w.heap.size w w7) := ⟨HJ6.out.1.over b7, HJ6.out.2.1.trans (b7.mono HJ6.out.2.1.size)⟩
  clear b7 croom
  go_wp2_with fail
  refine (lat_any _).mono ?_
  rintro e w8 ⟨rfl, b8⟩
  have j8 := HJ7.out.1.over b8
  have cop := js_open (turn := 7#64) j8.jnl.dev j8.off j8.n50 (by decide) (by decide) (by rw [j8.wait, lay_nil]; exact jst_ok j8.jst)
  rw [HJ6.out.2.2.2, show (7#64).toInt = 7 from rfl] at cop
  have HJ8 : Hid (JS w8 w.heap.size J6 s6 7#64 4 [X, [120]] ∧ Below w.heap.size w w8) := ⟨j8, HJ7.out.2.trans (b8.mono HJ7.out.2.size)⟩
  clear j8 b8
  go_wp2_with fail
  refine cop.mono ?_
  rintro e w9 ⟨⟨K, uk, outk, rfl, _, jk, hrk, _⟩, b9⟩
  rw [HJ8.out.1.wait, lay_nil] at hrk
  obtain ⟨ho1, hu1⟩ := hrk.unique HJ8.out.1.jst.recs
  subst ho1 hu1
  have HK : Hid (Jnl w9 K s6 3 40 7#64 4 [X, [120]] ∧ JS w9 w.heap.size J6 s6 7#64 4 [X, [120]] ∧ Below w.heap.size w w9) := ⟨jk, HJ8.out.1.over b9, HJ8.out.2.trans (b9.mono HJ8.out.2.size)⟩
  clear jk hrk b9 cop
  go_wp2_with fail
  refine (lat_any _).mono ?_
  rintro e w10 ⟨rfl, b10⟩
  have j10 := HK.out.2.1.over b10
  have cop := js_open (turn := 8#64) j10.jnl.dev j10.off j10.n50 (by decide) (by decide) (by rw [j10.wait, lay_nil]; exact jst_ok j10.jst)
  rw [HJ6.out.2.2.2, show (8#64).toInt = 8 from rfl] at cop
  have HK10 : Hid (Jnl w10 K s6 3 40 7#64 4 [X, [120]] ∧ JS w10 w.heap.size J6 s6 7#64 4 [X, [120]] ∧ Below w.heap.size w w10) := ⟨HK.out.1.over b10, j10, HK.out.2.2.trans (b10.mono HK.out.2.2.size)⟩
  clear j10 b10
  go_wp2_with fail
  refine cop.mono ?_
  rintro e w11 ⟨⟨O, uo, outo, rfl, _, jo, hro, _⟩, b11⟩
  rw [HK10.out.2.1.wait, lay_nil] at hro
  obtain ⟨ho2, hu2⟩ := hro.unique (other_turn HK10.out.2.1.jst (by decide))
  subst ho2 hu2
  have HO : Hid (Jnl w11 O s6 3 40 8#64 0 [] ∧ Jnl w11 K s6 3 40 7#64 4 [X, [120]] ∧ Below w.heap.size w w11) := ⟨jo, HK10.out.1.over b11, HK10.out.2.2.trans (b11.mono HK10.out.2.2.size)⟩
  clear jo hro b11 cop
  obtain ⟨pk, hpk⟩ : ∃ pk, pk = K.p := ⟨_, rfl⟩
  obtain ⟨po, hpo⟩ : ∃ po, po = O.p := ⟨_, rfl⟩
  have HPK : Hid (pk = K.p ∧ po = O.p) := ⟨hpk, hpo⟩
  rw [← hpk, ← hpo]
  have crk := jrecords_any HO.out.2.1.box HO.out.2.1.recs.reads (by simp [bks])
  rw [← hpk] at crk
  clear hpk hpo
  go_wp2_with fail
  refine crk.mono ?_
  rintro e w12 ⟨⟨v, rfl, hv⟩, b12⟩
  have HV : Hid (OwnsS w12 w11.heap.size v (bks [X, [120]]) ∧ Jnl w12 O s6 3 40 8#64 0 [] ∧ Below w.heap.size w w12) := ⟨hv, HO.out.1.over b12, HO.out.2.2.trans (b12.mono HO.out.2.2.size)⟩
  clear hv b12 crk
  go_wp2_with fail
  refine (c200 _).mono ?_
  rintro e w13 ⟨rfl, b13⟩
  have HV13 : Hid (ReadsS w13 v [S, { data := #[120] }] ∧ Jnl w13 O s6 3 40 8#64 0 [] ∧ Below w.heap.size w w13) := by
    have := (HV.out.1.below b13).reads
    rw [show bks [X, [120]] = [strB X, strB [120]] from rfl, ← HS.out, hlx] at this
    exact ⟨this, HV.out.2.1.over b13, HV.out.2.2.trans (b13.mono HV.out.2.2.size)⟩
  clear b13
  go_wp2_with fail
  have bl := below1 w13 (.cells #[.string S, .string { data := #[120] }] 9)
  refine (sameT_any _ v _ [S, { data := #[120] }] (by simp) (HV13.out.1.below bl) (two_texts _ _ _)).mono ?_
  rintro e w14 ⟨rfl, n14, hw14⟩
  have b14 : Below w13.heap.size w13 w14 := by rw [hw14]; exact bl.trans ((below_drewN _ _).mono bl.size)
  have HO14 : Hid (Jnl w14 O s6 3 40 8#64 0 [] ∧ Below w.heap.size w w14) := ⟨HV13.out.2.1.over b14, HV13.out.2.2.trans (b14.mono HV13.out.2.2.size)⟩
  clear b14 hw14 bl
  have cro := jrecords_any HO14.out.1.box HO14.out.1.recs.reads (by simp [bks])
  rw [← HPK.out.2] at cro
  go_wp2_with fail
  refine cro.mono ?_
  rintro e w15 ⟨⟨v2, rfl, hv2⟩, b15⟩
  have HB15 : Hid (Below w.heap.size w w15) := HO14.out.2.trans (b15.mono HO14.out.2.size)
  obtain ⟨a2, cc2, rfl⟩ : ∃ a c, v2 = .slice a 0 c := by
    rcases hv2.reads with ⟨_, a, c, h⟩ | ⟨_, _, _, _, h, _⟩
    · exact ⟨a, c, h⟩
    · exact absurd rfl h
  clear hv2 b15 cro
  go_wp2_with fail
  refine (c97 _).mono ?_
  rintro e w16 ⟨rfl, hw16⟩
  replace hw16 := hw16.symm
  subst hw16
  go_wp2_with fail
  go_ret
  exact ⟨rfl, HB15.out⟩
end Go.Proofs.Ytgffplfpoopolaa
