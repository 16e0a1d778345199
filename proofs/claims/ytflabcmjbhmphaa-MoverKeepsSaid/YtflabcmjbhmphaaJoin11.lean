/-
  4 texts, one behind the other: MAwake, MOpen, MLit25, MWalk.
-/
import Derived.Test.YtflabcmjbhmphaaJoin10
import Derived.Test.YtflabcmjbhmphaaJoin6
import Derived.Test.YtflabcmjbhmphaaJoin2
import Derived.Lib.SmallJoins
import Derived.Deep.Slices
import Derived.ChangeArms
import Derived.WideShapes
import Derived.Test.YtflabcmjbhmphaaJoin3
/-
  The contract of law 27's awake.
-/
namespace Go.Proofs.Ytflabcmjbhmphaa
open Go.RowKit

/-- Rows that were made at once. -/
theorem srows_made {w : World} {t : TypeId} {sz n : Nat} {R : List (List Value)} {cur : Array Value} (hsz : 0 < sz) (hc : cur.toList = R.flatten) (hR : ∀ r ∈ R, r.length = sz) (hn : R.length = n) (hm : n ≤ 1000) : SRows (w.alloc (.cells cur t)) (.slice (some ⟨w.heap.size, 0, none⟩) n n) t sz R := by
  subst hn
  refine .inr ⟨w.heap.size, R.length, rfl, Nat.le_refl _, by unfold maxLen; omega, ?_⟩
  have hs : cur.size = R.length * sz := by rw [← length_flat R hR, ← hc, Array.length_toList]
  exact rows_of_flat hsz (heap_alloc_last w _) hs (tail := []) (by rw [hc, List.append_nil]) hR
def ncl (n : Int) : Cl := ⟨1, n, ⟨#[]⟩⟩
theorem ok_ncl {n : Int} (h : 0 ≤ n ∧ n ≤ 100) : okC (ncl n) := by unfold okC ncl; simp; omega
theorem num_any (n : Int) (h : 0 ≤ n ∧ n ≤ 100) (w : World) : Calls Try.prog 28 #[.int .i64 n] w fun e w' => e = .returned (.slice (some ⟨w.heap.size, 0, none⟩) 1 1) ∧ SlIs CE 3 w' (.slice (some ⟨w.heap.size, 0, none⟩) 1 1) [ncl n] ∧ Below w.heap.size w w' := by
  have HS : Hid (SlIs CE 3 (w.alloc (.cells #[.int .i64 1, .int .i64 n, .string ⟨#[]⟩] 71)) (.slice (some ⟨w.heap.size, 0, none⟩) 1 1) [ncl n]) := by
    refine slIs_of_srows (srows_made (sz := 3) (n := 1) (R := [[.int .i64 1, .int .i64 n, .string ⟨#[]⟩]]) (by decide) rfl (by simp) rfl (by decide)) ⟨rfl, fun i x r hx hr => ?_⟩
    cases i with
    | zero => simp at hx hr; subst hx hr; exact ⟨ok_ncl h, rfl⟩
    | succ i => simp at hx
  clear h
  go_enter Try.func28, Try.ntmps28
  go_wp2_with fail
  go_ret
  exact ⟨rfl, HS.out, below1 _ _⟩
def A1 : List Lf := [⟨[ncl 1], 1#64, 3⟩, ⟨[ncl 2], 1#64, 4⟩]
def A2 : List Lf := [⟨[ncl 3], 2#64, 0⟩]
def A3 : List Lf := [⟨[ncl 2], 1#64, 4⟩, ⟨[ncl 3], 2#64, 0⟩]
theorem a_merge : mergeA A1 A2 3 = A3 := rfl
theorem a_rows : A3.map (·.r) = [[ncl 2], [ncl 3]] := rfl
theorem a_born : A3.map (·.b) = [1#64, 2#64] := rfl
theorem a_runs : ofP [1#64, 2#64] 2 = [⟨1#64, 0, 1⟩, ⟨2#64, 1, 1⟩] := by simp [ofP]
theorem a_marks : mksP A3 2 = [⟨0, 4⟩] := rfl
theorem a_may : May [⟨1#64, 0, 1⟩, ⟨2#64, 1, 1⟩] := by
  have := (of_is [1#64, 2#64] 2 (by decide) (by decide)).may
  rwa [a_runs] at this
theorem a_flat : flat [⟨1#64, 0, 1⟩, ⟨2#64, 1, 1⟩] = [1#64, 2#64] := rfl
theorem a_lv : lvB true [[ncl 2], [ncl 3]] [1#64, 2#64] [⟨0, 4⟩] = true := rfl
theorem a_lives : livesA [[ncl 2], [ncl 3]] [1#64, 2#64] [⟨0, 4⟩] = A3 := rfl
theorem a_pok : pokB [[ncl 2], [ncl 3]] [0#64, 0#64] = true := by decide_cbv
theorem a_proj : projA [[ncl 2], [ncl 3]] [0#64, 0#64] = [[ncl 2, ncl 2], [ncl 3, ncl 3]] := rfl
/-- What stays in the last test. -/
structure Aw (w : World) (vl vr vb vm vg vp : Value) : Prop where
  l : LfsIs w vl A3
  r : RwsIs w vr [[ncl 2], [ncl 3]]
  b : RunsIs w vb [⟨1#64, 0, 1⟩, ⟨2#64, 1, 1⟩]
  m : MksIs w vm [⟨0, 4⟩]
  g : LfsIs w vg A3
  p : RwsIs w vp [[ncl 2, ncl 2], [ncl 3, ncl 3]]
theorem Aw.over {w w' : World} {vl vr vb vm vg vp : Value} (h : Aw w vl vr vb vm vg vp) (k : Below w.heap.size w w') : Aw w' vl vr vb vm vg vp :=
  ⟨h.l.over stays_lf k, h.r.over stays_rw k, h.b.below k, h.m.over stays_mk k, h.g.over stays_lf k, h.p.over stays_rw k⟩
theorem two_lf {w : World} {x y : Lf} {b1 b2 g1 g2 : Int} {v1 v2 : Value} (h1 : LfE w x [v1, .int .i64 b1, .int .i64 g1]) (h2 : LfE w y [v2, .int .i64 b2, .int .i64 g2]) : LfsIs (w.alloc (.cells #[v1, .int .i64 b1, .int .i64 g1, v2, .int .i64 b2, .int .i64 g2] 61)) (.slice (some ⟨w.heap.size, 0, none⟩) 2 2) [x, y] := by
  refine slIs_of_srows (srows_made (sz := 3) (n := 2) (R := [[v1, .int .i64 b1, .int .i64 g1], [v2, .int .i64 b2, .int .i64 g2]]) (by decide) rfl (by simp) rfl (by decide)) ⟨rfl, fun i z r hx hr => ?_⟩
  match i with
  | 0 => simp at hx hr; subst hx hr; exact stays_lf _ _ _ _ h1 (below1 _ _)
  | 1 => simp at hx hr; subst hx hr; exact stays_lf _ _ _ _ h2 (below1 _ _)
  | i + 2 => simp at hx
theorem one_lfs {w : World} {x : Lf} {b1 g1 : Int} {v1 : Value} (h1 : LfE w x [v1, .int .i64 b1, .int .i64 g1]) : LfsIs (w.alloc (.cells #[v1, .int .i64 b1, .int .i64 g1] 61)) (.slice (some ⟨w.heap.size, 0, none⟩) 1 1) [x] := by
  refine slIs_of_srows (srows_made (sz := 3) (n := 1) (R := [[v1, .int .i64 b1, .int .i64 g1]]) (by decide) rfl (by simp) rfl (by decide)) ⟨rfl, fun i z r hx hr => ?_⟩
  match i with
  | 0 => simp at hx hr; subst hx hr; exact stays_lf _ _ _ _ h1 (below1 _ _)
  | i + 1 => simp at hx
theorem two_rw {w : World} {x y : List Cl} {v1 v2 : Value} (h1 : SlIs CE 3 w v1 x) (h2 : SlIs CE 3 w v2 y) : RwsIs (w.alloc (.cells #[v1, v2] 40)) (.slice (some ⟨w.heap.size, 0, none⟩) 2 2) [x, y] := by
  refine slIs_of_srows (srows_made (sz := 1) (n := 2) (R := [[v1], [v2]]) (by decide) rfl (by simp) rfl (by decide)) ⟨rfl, fun i z r hx hr => ?_⟩
  match i with
  | 0 => simp at hx hr; subst hx hr; exact ⟨_, rfl, h1.over stays_c (below1 _ _)⟩
  | 1 => simp at hx hr; subst hx hr; exact ⟨_, rfl, h2.over stays_c (below1 _ _)⟩
  | i + 2 => simp at hx
theorem ints_zero (w : World) : IntsIs (w.alloc (.cells #[.int .i64 0, .int .i64 0] 3)) (.slice (some ⟨w.heap.size, 0, none⟩) 2 2) [0#64, 0#64] := by
  refine slIs_of_srows (srows_made (sz := 1) (n := 2) (R := [[.int .i64 0], [.int .i64 0]]) (by decide) rfl (by simp) rfl (by decide)) ⟨rfl, fun i z r hx hr => ?_⟩
  match i with
  | 0 => simp at hx hr; subst hx hr; rfl
  | 1 => simp at hx hr; subst hx hr; rfl
  | i + 2 => simp at hx
theorem runs_lit (w : World) : RunsIs (w.alloc (.cells #[.int .i64 1, .int .i64 0, .int .i64 1, .int .i64 2, .int .i64 1, .int .i64 1] 37)) (.slice (some ⟨w.heap.size, 0, none⟩) 2 2) [⟨1#64, 0, 1⟩, ⟨2#64, 1, 1⟩] :=
  runs_of_srows (srows_made (sz := 3) (n := 2) (R := [[.int .i64 1, .int .i64 0, .int .i64 1], [.int .i64 2, .int .i64 1, .int .i64 1]]) (by decide) rfl (by simp) rfl (by decide))
theorem mks_lit (w : World) : MksIs (w.alloc (.cells #[.int .i64 0, .int .i64 4] 66)) (.slice (some ⟨w.heap.size, 0, none⟩) 1 1) [⟨0, 4⟩] := by
  refine slIs_of_srows (srows_made (sz := 2) (n := 1) (R := [[.int .i64 0, .int .i64 4]]) (by decide) rfl (by simp) rfl (by decide)) ⟨rfl, fun i z r hx hr => ?_⟩
  match i with
  | 0 => simp at hx hr; subst hx hr; rfl
  | i + 1 => simp at hx
set_option maxRecDepth 4000 in
set_option maxHeartbeats 8000000 in
theorem awake_any (w : World) : Calls Try.prog 8 #[] w fun e w' => e = .returned (.bool true) ∧ Below w.heap.size w w' := by
  go_enter Try.func8, Try.ntmps8
  go_wp2_with fail
  refine (num_any 1 (by omega) w).mono ?_
  rintro e w1 ⟨rfl, s1, b1⟩
  obtain ⟨p1, hp1⟩ : ∃ p1, p1 = w.heap.size := ⟨_, rfl⟩
  rw [← hp1] at s1
  rw [← hp1]
  have H1 : Hid (SlIs CE 3 w1 (.slice (some ⟨p1, 0, none⟩) 1 1) [ncl 1] ∧ Below w.heap.size w w1) := ⟨s1, b1⟩
  clear s1 b1 hp1
  go_wp2_with fail
  refine (num_any 2 (by omega) w1).mono ?_
  rintro e w2 ⟨rfl, s2, b2⟩
  obtain ⟨p2, hp2⟩ : ∃ p2, p2 = w1.heap.size := ⟨_, rfl⟩
  rw [← hp2] at s2
  rw [← hp2]
  have H2 : Hid (LfsIs (w2.alloc (.cells #[.slice (some ⟨p1, 0, none⟩) 1 1, .int .i64 1, .int .i64 3, .slice (some ⟨p2, 0, none⟩) 1 1, .int .i64 1, .int .i64 4] 61)) (.slice (some ⟨w2.heap.size, 0, none⟩) 2 2) A1 ∧ Below w.heap.size w w2) :=
    ⟨two_lf ⟨_, rfl, H1.out.1.over stays_c b2⟩ ⟨_, rfl, s2⟩, H1.out.2.trans (b2.mono H1.out.2.size)⟩
  clear s2 b2 hp2 H1
  go_wp2_with fail
  obtain ⟨W3, hW3⟩ : ∃ W3, W3 = w2.alloc (.cells #[.slice (some ⟨p1, 0, none⟩) 1 1, .int .i64 1, .int .i64 3, .slice (some ⟨p2, 0, none⟩) 1 1, .int .i64 1, .int .i64 4] 61) := ⟨_, rfl⟩
  obtain ⟨p3, hp3⟩ : ∃ p3, p3 = w2.heap.size := ⟨_, rfl⟩
  have H3 : Hid (LfsIs W3 (.slice (some ⟨p3, 0, none⟩) 2 2) A1 ∧ Below w.heap.size w W3) := by
    rw [hW3, hp3]
    exact ⟨H2.out.1, H2.out.2.trans ((below1 _ _).mono H2.out.2.size)⟩
  rw [← hW3, ← hp3]
  clear hW3 hp3 H2
  refine (num_any 3 (by omega) W3).mono ?_
  rintro e w4 ⟨rfl, s4, b4⟩
  obtain ⟨p4, hp4⟩ : ∃ p4, p4 = W3.heap.size := ⟨_, rfl⟩
  rw [← hp4] at s4
  rw [← hp4]
  have H4 : Hid (LfsIs (w4.alloc (.cells #[.slice (some ⟨p4, 0, none⟩) 1 1, .int .i64 2, .int .i64 0] 61)) (.slice (some ⟨w4.heap.size, 0, none⟩) 1 1) A2 ∧ LfsIs (w4.alloc (.cells #[.slice (some ⟨p4, 0, none⟩) 1 1, .int .i64 2, .int .i64 0] 61)) (.slice (some ⟨p3, 0, none⟩) 2 2) A1 ∧ Below w.heap.size w (w4.alloc (.cells #[.slice (some ⟨p4, 0, none⟩) 1 1, .int .i64 2, .int .i64 0] 61))) := by
    have hb := b4.trans ((below1 w4 (.cells #[.slice (some ⟨p4, 0, none⟩) 1 1, .int .i64 2, .int .i64 0] 61)).mono b4.size)
    exact ⟨one_lfs ⟨_, rfl, s4⟩, H3.out.1.over stays_lf hb, H3.out.2.trans (hb.mono H3.out.2.size)⟩
  clear s4 b4 hp4 H3
  go_wp2_with fail
  obtain ⟨W5, hW5⟩ : ∃ W5, W5 = w4.alloc (.cells #[.slice (some ⟨p4, 0, none⟩) 1 1, .int .i64 2, .int .i64 0] 61) := ⟨_, rfl⟩
  obtain ⟨p5, hp5⟩ : ∃ p5, p5 = w4.heap.size := ⟨_, rfl⟩
  rw [← hW5, ← hp5] at H4
  rw [← hW5, ← hp5]
  clear hW5 hp5
  refine (merge_any (a := A1) (b := A2) H4.out.2.1 H4.out.1 (by decide) (by decide) (by intro x hx; simp [A1, A2] at hx; rcases hx with rfl | rfl | rfl <;> simp) 3).mono ?_
  rintro e w6 ⟨v6, rfl, s6, b6⟩
  rw [a_merge] at s6
  have H6 : Hid (LfsIs w6 v6 A3 ∧ Below w.heap.size w w6) := ⟨s6, H4.out.2.2.trans (b6.mono H4.out.2.2.size)⟩
  obtain ⟨al, nl, cl, rfl, hnl, _⟩ := s6.slice
  obtain rfl : nl = 2 := hnl.symm
  clear s6 b6 H4 hnl
  go_wp2_with fail
  refine (vectors_any H6.out.1 (by decide) (by intro x hx; simp [A3] at hx; rcases hx with rfl | rfl <;> simp)).mono ?_
  rintro e w7 ⟨vr, vb, vm, rfl, sr, sb, sm, b7⟩
  rw [a_rows] at sr
  rw [a_born, show A3.length = 2 from rfl, a_runs] at sb
  rw [show A3.length = 2 from rfl, a_marks] at sm
  have H7 : Hid (LfsIs w7 (.slice al 2 cl) A3 ∧ RwsIs w7 vr [[ncl 2], [ncl 3]] ∧ RunsIs w7 vb [⟨1#64, 0, 1⟩, ⟨2#64, 1, 1⟩] ∧ MksIs w7 vm [⟨0, 4⟩] ∧ Below w.heap.size w w7) := ⟨H6.out.1.over stays_lf b7, sr, sb, sm, H6.out.2.trans (b7.mono H6.out.2.size)⟩
  clear sr sb sm b7 H6
  go_wp2_with fail
  refine (lives_any H7.out.2.1 H7.out.2.2.1 H7.out.2.2.2.1 (by decide) (by decide) (by decide) (by intro r hr; simp at hr; rcases hr with rfl | rfl <;> simp) true (by simp [a_may])).mono ?_
  rintro e w8 ⟨he, b8⟩
  rw [a_flat, a_lv, if_pos rfl, a_lives] at he
  obtain ⟨vg, rfl, sg⟩ := he
  have H8 : Hid (LfsIs w8 (.slice al 2 cl) A3 ∧ RwsIs w8 vr [[ncl 2], [ncl 3]] ∧ RunsIs w8 vb [⟨1#64, 0, 1⟩, ⟨2#64, 1, 1⟩] ∧ MksIs w8 vm [⟨0, 4⟩] ∧ LfsIs w8 vg A3 ∧ Below w.heap.size w w8) := ⟨H7.out.1.over stays_lf b8, H7.out.2.1.over stays_rw b8, H7.out.2.2.1.below b8, H7.out.2.2.2.1.over stays_mk b8, sg, H7.out.2.2.2.2.trans (b8.mono H7.out.2.2.2.2.size)⟩
  clear sg b8 H7
  go_wp2_with fail
  have b9' := below1 w8 (.cells #[.int .i64 0, .int .i64 0] 3)
  refine (project_any (rows := [[ncl 2], [ncl 3]]) (cols := [0#64, 0#64]) (H8.out.2.1.over stays_rw b9') (ints_zero w8) (by decide) (by decide) (by intro r hr; simp at hr; rcases hr with rfl | rfl <;> simp)).mono ?_
  rintro e w9 ⟨he, b9⟩
  rw [a_pok, if_pos rfl, a_proj] at he
  obtain ⟨vp, rfl, sp⟩ := he
  have b89 : Below w8.heap.size w8 w9 := b9'.trans (b9.mono b9'.size)
  have H9 : Hid (Aw w9 (.slice al 2 cl) vr vb vm vg vp ∧ Below w.heap.size w w9) := ⟨⟨H8.out.1.over stays_lf b89, H8.out.2.1.over stays_rw b89, H8.out.2.2.1.below b89, H8.out.2.2.2.1.over stays_mk b89, H8.out.2.2.2.2.1.over stays_lf b89, sp⟩, H8.out.2.2.2.2.2.trans (b89.mono H8.out.2.2.2.2.2.size)⟩
  obtain ⟨ap, np, cp, rfl, hnp, _⟩ := sp.slice
  obtain rfl : np = 2 := hnp.symm
  clear sp b9 b9' b89 H8 hnp
  go_wp2_with fail
  refine (num_any 2 (by omega) w9).mono ?_
  rintro e w10 ⟨rfl, s10, b10⟩
  obtain ⟨p10, hp10⟩ : ∃ p10, p10 = w9.heap.size := ⟨_, rfl⟩
  rw [← hp10] at s10
  rw [← hp10]
  have H10 : Hid (Aw w10 (.slice al 2 cl) vr vb vm vg (.slice ap 2 cp) ∧ Below w.heap.size w w10 ∧ SlIs CE 3 w10 (.slice (some ⟨p10, 0, none⟩) 1 1) [ncl 2]) := ⟨H9.out.1.over b10, H9.out.2.trans (b10.mono H9.out.2.size), s10⟩
  clear s10 b10 hp10 H9
  go_wp2_with fail
  refine (num_any 3 (by omega) w10).mono ?_
  rintro e w11 ⟨rfl, s11, b11⟩
  obtain ⟨p11, hp11⟩ : ∃ p11, p11 = w10.heap.size := ⟨_, rfl⟩
  rw [← hp11] at s11
  rw [← hp11]
  have bb := below1 w11 (.cells #[.slice (some ⟨p10, 0, none⟩) 1 1, .slice (some ⟨p11, 0, none⟩) 1 1] 40)
  have H11 : Hid (Aw (w11.alloc (.cells #[.slice (some ⟨p10, 0, none⟩) 1 1, .slice (some ⟨p11, 0, none⟩) 1 1] 40)) (.slice al 2 cl) vr vb vm vg (.slice ap 2 cp) ∧ Below w.heap.size w (w11.alloc (.cells #[.slice (some ⟨p10, 0, none⟩) 1 1, .slice (some ⟨p11, 0, none⟩) 1 1] 40)) ∧ RwsIs (w11.alloc (.cells #[.slice (some ⟨p10, 0, none⟩) 1 1, .slice (some ⟨p11, 0, none⟩) 1 1] 40)) (.slice (some ⟨w11.heap.size, 0, none⟩) 2 2) [[ncl 2], [ncl 3]]) :=
    ⟨(H10.out.1.over b11).over bb, H10.out.2.1.trans ((b11.trans (bb.mono b11.size)).mono H10.out.2.1.size), two_rw (H10.out.2.2.over stays_c b11) s11⟩
  clear s11 b11 bb hp11 H10
  go_wp2_with fail
  refine (sameRows_any H11.out.1.r H11.out.2.2 (by decide) (by intro r hr; simp at hr; rcases hr with rfl | rfl <;> simp)).mono ?_
  rintro e w12 ⟨rfl, b12⟩
  have bb := below1 w12 (.cells #[.int .i64 1, .int .i64 0, .int .i64 1, .int .i64 2, .int .i64 1, .int .i64 1] 37)
  have H12 : Hid (Aw (w12.alloc (.cells #[.int .i64 1, .int .i64 0, .int .i64 1, .int .i64 2, .int .i64 1, .int .i64 1] 37)) (.slice al 2 cl) vr vb vm vg (.slice ap 2 cp) ∧ Below w.heap.size w (w12.alloc (.cells #[.int .i64 1, .int .i64 0, .int .i64 1, .int .i64 2, .int .i64 1, .int .i64 1] 37))) :=
    ⟨(H11.out.1.over b12).over bb, H11.out.2.1.trans ((b12.trans (bb.mono b12.size)).mono H11.out.2.1.size)⟩
  clear b12 bb H11
  go_wp2_with fail
  refine (sameR_any H12.out.1.b (runs_lit w12) (by decide)).mono ?_
  rintro e w13 ⟨rfl, n13, hw13⟩
  have b13 : Below (w12.alloc (.cells #[.int .i64 1, .int .i64 0, .int .i64 1, .int .i64 2, .int .i64 1, .int .i64 1] 37)).heap.size (w12.alloc (.cells #[.int .i64 1, .int .i64 0, .int .i64 1, .int .i64 2, .int .i64 1, .int .i64 1] 37)) w13 := by rw [hw13]; exact below_drewN (Below.refl _ _) _
  have bb := below1 w13 (.cells #[.int .i64 0, .int .i64 4] 66)
  have H13 : Hid (Aw (w13.alloc (.cells #[.int .i64 0, .int .i64 4] 66)) (.slice al 2 cl) vr vb vm vg (.slice ap 2 cp) ∧ Below w.heap.size w (w13.alloc (.cells #[.int .i64 0, .int .i64 4] 66))) :=
    ⟨(H12.out.1.over b13).over bb, H12.out.2.trans ((b13.trans (bb.mono b13.size)).mono H12.out.2.size)⟩
  clear b13 bb H12 hw13
  go_wp2_with fail
  refine (sameM_any H13.out.1.m (mks_lit w13) (by decide)).mono ?_
  rintro e w14 ⟨rfl, b14⟩
  have H14 : Hid (Aw w14 (.slice al 2 cl) vr vb vm vg (.slice ap 2 cp) ∧ Below w.heap.size w w14) := ⟨H13.out.1.over b14, H13.out.2.trans (b14.mono H13.out.2.size)⟩
  clear b14 H13
  go_wp2_with fail
  refine (sameL_any H14.out.1.g H14.out.1.l (by decide) (by intro x hx; simp [A3] at hx; rcases hx with rfl | rfl <;> simp)).mono ?_
  rintro e w15 ⟨rfl, b15⟩
  have H15 : Hid (Aw w15 (.slice al 2 cl) vr vb vm vg (.slice ap 2 cp) ∧ Below w.heap.size w w15) := ⟨H14.out.1.over b15, H14.out.2.trans (b15.mono H14.out.2.size)⟩
  obtain ⟨r0, bp, op, a0, n0, c0, hr0, rfl, _, q0, _, hn0, _⟩ := at_rw H15.out.1.p (k := 0) (by decide)
  rw [Nat.add_zero] at q0
  simp at hr0
  subst hr0
  obtain rfl : n0 = 2 := hn0.symm
  clear b15 H14 hn0
  go_wp2_with fail
  go_ret
  exact ⟨rfl, H15.out.2⟩
end Go.Proofs.Ytflabcmjbhmphaa
/-
  Lives, rows, marks and tables that came in as arguments: what their cells are.
-/
namespace Go.Proofs.Ytflabcmjbhmphaa
open Go.RowKit

set_option maxRecDepth 100000 in
/-- A slice that came in, its elements told by how their cells read. -/
theorem slice_of {α : Type} {E : World → α → List Value → Prop} {sz : Nat} (hsz : 0 < sz) {H : Type} {enc : TypeId × Value → H} {W : World} {base : Nat} {hd : Bool} {fuel : Nat} {v : Value} {x : DataW H × List MemPlace} {T e : TypeId}
    (hT : Try.prog.underlying T = some (.slice e)) (hc : Try.prog.cellsOf e = sz)
    (hE : ∀ (k : Nat) (cs : List Value) (y : DataW H × List MemPlace), cs.length = sz → DataW.trod enc Try.prog W base (fun _ => true) hd k e cs = some y → ∃ x : α, E W x cs)
    (h : DataW.trod enc Try.prog W base (fun _ => true) hd fuel T [v] = some x) : ∃ l : List α, SlIs E sz W v l ∧ l.length ≤ maxLen := by
  rcases Go.Deep.open_slice hT h with ⟨h0, _⟩ | ⟨ad, len, cap, m, n, D, Pl, hv, _, hl, hm, hmm, _, hx⟩
  · simp at h0
    subst h0
    exact ⟨[], slIs_nil _ _ _ _ _, Nat.zero_le _⟩
  · simp at hv
    subst hv
    obtain ⟨b, off, spot⟩ := ad
    rcases Nat.eq_zero_or_pos len with rfl | hpos
    · exact ⟨[], slIs_nil _ _ _ _ _, Nat.zero_le _⟩
    · have hspot : spot = none := by
        obtain ⟨cs0, h10, _⟩ := hx 0 (by rw [hmm]; split <;> omega)
        rw [hc] at h10
        obtain ⟨_, hlen0, hcell0⟩ := World.cells?_some h10
        have q := hcell0 0 (by omega)
        rw [List.getElem?_eq_getElem (by omega)] at q
        have := World.cell?_spot q
        simpa [Addr.add] using this
      subst hspot
      have hadd : ∀ t : Nat, (⟨b, off, none⟩ : Addr).add t = ⟨b, off + t, none⟩ := fun t => by unfold Addr.add; split <;> simp_all
      obtain ⟨r, hrl, hr⟩ := list_of (Q := fun i (x : α) => ∃ cs : List Value, cs.length = sz ∧ E W x cs ∧ ∀ (j : Nat) (u : Value), cs[j]? = some u → W.cell? ⟨b, off + i * sz + j, none⟩ = some u) len fun i hi => by
        have him : i < m := by rw [hmm]; split <;> omega
        obtain ⟨cs', h1, h2⟩ := hx i him
        rw [hc] at h1
        obtain ⟨_, hlen, hcell⟩ := World.cells?_some h1
        obtain ⟨x, hx⟩ := hE _ _ _ hlen h2
        refine ⟨x, cs', hlen, hx, fun j u hu => ?_⟩
        have hj := (List.getElem?_eq_some_iff.1 hu).1
        have q := hcell j (by omega)
        rw [Go.Deep.add_add, hadd, hu] at q
        rw [← q, Nat.add_assoc]
      have hb : b < W.heap.size := by
        obtain ⟨x0, hx0⟩ : ∃ x0, r[0]? = some x0 := ⟨r[0]'(by omega), List.getElem?_eq_getElem _⟩
        obtain ⟨cs, hl0, _, hc0⟩ := hr 0 x0 hx0
        exact World.block_lt_of_cell? W _ (hc0 0 (cs[0]'(by omega)) (List.getElem?_eq_getElem _))
      exact ⟨r, ⟨_, cap, by rw [hrl], by omega, fun _ => ⟨b, off, rfl, hb, fun i x hi => hr i x hi⟩⟩, by rw [hrl]; exact Nat.le_trans hl hm⟩
section
variable {H : Type} {enc : TypeId × Value → H} {W : World} {base : Nat} {hd : Bool}
theorem c_int : Try.prog.cellsOf 3 = 1 := by kernel_rfl
theorem c_bool : Try.prog.cellsOf 4 = 1 := by kernel_rfl
theorem c_str : Try.prog.cellsOf 9 = 1 := by kernel_rfl
theorem c_ints : Try.prog.cellsOf 45 = 1 := by kernel_rfl
theorem c_cols : Try.prog.cellsOf 46 = 1 := by kernel_rfl
theorem c_pjs : Try.prog.cellsOf 47 = 1 := by kernel_rfl
theorem c_pj : Try.prog.cellsOf 53 = 3 := by kernel_rfl
theorem int_read {k : Nat} {cs : List Value} {y : DataW H × List MemPlace} (h : DataW.trod enc Try.prog W base (fun _ => true) hd k 3 cs = some y) : ∃ x : BitVec 64, cs = [.int .i64 x.toInt] := by
  obtain ⟨m, e, _, hw⟩ := DataW.trod_int Try.underlying3 h
  obtain ⟨x, rfl⟩ := Wd.word_of m hw
  exact ⟨x, e⟩
theorem str_read {k : Nat} {cs : List Value} {y : DataW H × List MemPlace} (h : DataW.trod enc Try.prog W base (fun _ => true) hd k 9 cs = some y) : ∃ s : ByteArray, cs = [.string s] := by
  obtain ⟨s, e, _⟩ := DataW.trod_string Try.underlying9 h
  exact ⟨s, e⟩
theorem ints_read {k : Nat} {v : Value} {y : DataW H × List MemPlace} (h : DataW.trod enc Try.prog W base (fun _ => true) hd k 45 [v] = some y) : ∃ l, IntsIs W v l ∧ l.length ≤ maxLen :=
  slice_of (by decide) Try.underlying45 c_int (fun k cs y _ h => int_read h) h
set_option maxRecDepth 100000 in
theorem col_read {k : Nat} {cs : List Value} {y : DataW H × List MemPlace} (hl : cs.length = 3) (h : DataW.trod enc Try.prog W base (fun _ => true) hd k 79 cs = some y) : ∃ x : Col, ColE W x cs := by
  obtain ⟨xs, n, _, _, _, hxl, hf⟩ := DataW.trod_struct Try.underlying79 h
  have hx3 : xs.length = 3 := hxl
  have p0 := hf 0 _ rfl
  have p1 := hf 1 _ rfl
  have p2 := hf 2 _ rfl
  match xs, hx3, cs, hl with
  | [y0, y1, y2], _, [v0, v1, v2], _ =>
    obtain ⟨s, e0⟩ := str_read p0
    obtain ⟨m, e1⟩ := int_read p1
    obtain ⟨z, e2, _⟩ := DataW.trod_bool Try.underlying4 p2
    simp [c_str, c_int, c_bool] at e0 e1 e2
    subst e0 e1 e2
    exact ⟨⟨s, m, z⟩, rfl⟩
theorem cols_read {k : Nat} {v : Value} {y : DataW H × List MemPlace} (h : DataW.trod enc Try.prog W base (fun _ => true) hd k 46 [v] = some y) : ∃ l, ColsIs W v l ∧ l.length ≤ maxLen :=
  slice_of (by decide) Try.underlying46 (by kernel_rfl) (fun k cs y hl h => col_read hl h) h
set_option maxRecDepth 100000 in
theorem pj_read {k : Nat} {cs : List Value} {y : DataW H × List MemPlace} (hl : cs.length = 3) (h : DataW.trod enc Try.prog W base (fun _ => true) hd k 53 cs = some y) : ∃ x : Pj, PjE W x cs := by
  obtain ⟨xs, n, _, _, _, hxl, hf⟩ := DataW.trod_struct Try.underlying53 h
  have hx3 : xs.length = 3 := hxl
  have p0 := hf 0 _ rfl
  have p1 := hf 1 _ rfl
  have p2 := hf 2 _ rfl
  match xs, hx3, cs, hl with
  | [y0, y1, y2], _, [v0, v1, v2], _ =>
    obtain ⟨s, e0⟩ := str_read p0
    obtain ⟨l, hI, _⟩ := ints_read (v := v1) (by simpa [c_ints] using p1)
    obtain ⟨z, e2⟩ := int_read p2
    simp [c_str, c_int] at e0 e2
    subst e0 e2
    exact ⟨⟨s, l, z⟩, _, rfl, hI⟩
theorem pjs_read {k : Nat} {v : Value} {y : DataW H × List MemPlace} (h : DataW.trod enc Try.prog W base (fun _ => true) hd k 47 [v] = some y) : ∃ l, PjsIs W v l ∧ l.length ≤ maxLen :=
  slice_of (by decide) Try.underlying47 c_pj (fun k cs y hl h => pj_read hl h) h
set_option maxRecDepth 100000 in
theorem tb_read {k : Nat} {cs : List Value} {y : DataW H × List MemPlace} (hl : cs.length = 3) (h : DataW.trod enc Try.prog W base (fun _ => true) hd k 49 cs = some y) : ∃ x : Tb, TbE W x cs := by
  obtain ⟨xs, n, _, _, _, hxl, hf⟩ := DataW.trod_struct Try.underlying49 h
  have hx3 : xs.length = 3 := hxl
  have p0 := hf 0 _ rfl
  have p1 := hf 1 _ rfl
  have p2 := hf 2 _ rfl
  match xs, hx3, cs, hl with
  | [y0, y1, y2], _, [v0, v1, v2], _ =>
    obtain ⟨s, e0⟩ := str_read p0
    obtain ⟨l, hC, _⟩ := cols_read (v := v1) (by simpa [c_cols] using p1)
    obtain ⟨m, hP, _⟩ := pjs_read (v := v2) (by simpa [c_pjs] using p2)
    simp [c_str] at e0
    subst e0
    exact ⟨⟨s, l, m⟩, _, _, rfl, hC, hP⟩

set_option maxRecDepth 100000 in
/-- A table that came in. -/
theorem tb_of {b0 : Nat} {r : Reach} {v : Value} {d : DataW H} {p : List MemPlace}
    (hv : Value.okWide Try.prog W r b0 49 v) (h : DataW.Trod enc Try.prog W base (fun _ => true) hd 49 v d p) : ∃ (v0 v1 v2 : Value) (x : Tb), v = .agg #[v0, v1, v2] ∧ TbE W x [v0, v1, v2] := by
  obtain ⟨cs, rfl, hsz⟩ := Go.WideShapes.okWide_struct Try.underlying49 hv
  obtain ⟨v0, v1, v2, rfl⟩ := Go.Joins.array3 (hsz.trans (by kernel_rfl))
  obtain ⟨fuel, hf⟩ := h
  obtain ⟨x, hx⟩ := tb_read (cs := [v0, v1, v2]) rfl (by simpa [Value.cells] using hf)
  exact ⟨v0, v1, v2, x, rfl, hx⟩
set_option maxRecDepth 100000 in
theorem cl_read {k : Nat} {cs : List Value} {y : DataW H × List MemPlace} (hl : cs.length = 3) (h : DataW.trod enc Try.prog W base (fun _ => true) hd k 71 cs = some y) : ∃ x : Cl, CE W x cs := by
  obtain ⟨xs, n, _, _, _, hxl, hf⟩ := DataW.trod_struct Try.underlying71 h
  have hx3 : xs.length = 3 := hxl
  have p0 := hf 0 _ rfl
  have p1 := hf 1 _ rfl
  have p2 := hf 2 _ rfl
  match xs, hx3, cs, hl with
  | [y0, y1, y2], _, [v0, v1, v2], _ =>
    obtain ⟨m, e0⟩ := int_read p0
    obtain ⟨m1, e1⟩ := int_read p1
    obtain ⟨s, e2⟩ := str_read p2
    simp [c_str, c_int] at e0 e1 e2
    subst e0 e1 e2
    refine ⟨⟨m.toInt, m1.toInt, s⟩, ?_, rfl⟩
    have h1 := BitVec.toInt_lt (x := m1)
    have h2 := BitVec.le_toInt (x := m1)
    unfold okC
    simp only
    omega
theorem c_cell : Try.prog.cellsOf 71 = 3 := by kernel_rfl
theorem c_row : Try.prog.cellsOf 40 = 1 := by kernel_rfl
theorem row_read {k : Nat} {v : Value} {y : DataW H × List MemPlace} (h : DataW.trod enc Try.prog W base (fun _ => true) hd k 40 [v] = some y) : ∃ l, SlIs CE 3 W v l ∧ l.length ≤ maxLen :=
  slice_of (by decide) Try.underlying40 c_cell (fun k cs y hl h => cl_read hl h) h
/-- What is told besides of each element. -/
theorem slIs_and {α : Type} {E : World → α → List Value → Prop} {P : α → Prop} {sz : Nat} {w : World} {v : Value} {l : List α} (h : SlIs (fun w x cs => E w x cs ∧ P x) sz w v l) : SlIs E sz w v l ∧ ∀ x ∈ l, P x := by
  obtain ⟨a, cap, rfl, hc, h⟩ := h
  refine ⟨⟨a, cap, rfl, hc, fun hl => ?_⟩, fun x hx => ?_⟩
  · obtain ⟨b, off, e, hb, h⟩ := h hl
    refine ⟨b, off, e, hb, fun i x hi => ?_⟩
    obtain ⟨cs, h1, h2, h3⟩ := h i x hi
    exact ⟨cs, h1, h2.1, h3⟩
  · obtain ⟨i, hi⟩ := List.getElem?_of_mem hx
    obtain ⟨b, off, e, hb, h⟩ := h (by rintro rfl; simp at hi)
    obtain ⟨cs, h1, h2, h3⟩ := h i x hi
    exact h2.2
/-- Lives that came in. -/
def LivesIn (w : World) (v : Value) : Prop := ∃ l, LfsIs w v l ∧ l.length ≤ maxLen ∧ ∀ x ∈ l, x.r.length ≤ maxLen
def RowsIn (w : World) (v : Value) : Prop := ∃ l, RwsIs w v l ∧ l.length ≤ maxLen ∧ ∀ x ∈ l, x.length ≤ maxLen
def MarksIn (w : World) (v : Value) : Prop := ∃ l, MksIs w v l ∧ l.length ≤ maxLen
set_option maxRecDepth 100000 in
theorem lf_read {k : Nat} {cs : List Value} {y : DataW H × List MemPlace} (hl : cs.length = 3) (h : DataW.trod enc Try.prog W base (fun _ => true) hd k 61 cs = some y) : ∃ x : Lf, LfE W x cs ∧ x.r.length ≤ maxLen := by
  obtain ⟨xs, n, _, _, _, hxl, hf⟩ := DataW.trod_struct Try.underlying61 h
  have hx3 : xs.length = 3 := hxl
  have p0 := hf 0 _ rfl
  have p1 := hf 1 _ rfl
  have p2 := hf 2 _ rfl
  match xs, hx3, cs, hl with
  | [y0, y1, y2], _, [v0, v1, v2], _ =>
    obtain ⟨l, hR, hm⟩ := row_read (v := v0) (by simpa [c_row] using p0)
    obtain ⟨b, e1⟩ := int_read p1
    obtain ⟨g, e2⟩ := int_read p2
    simp [c_int] at e1 e2
    subst e1 e2
    exact ⟨⟨l, b, g.toInt⟩, ⟨_, rfl, hR⟩, hm⟩
theorem lives_read {k : Nat} {v : Value} {y : DataW H × List MemPlace} (h : DataW.trod enc Try.prog W base (fun _ => true) hd k 22 [v] = some y) : LivesIn W v := by
  obtain ⟨l, h1, h2⟩ := slice_of (E := fun w x cs => LfE w x cs ∧ x.r.length ≤ maxLen) (by decide) Try.underlying22 (by kernel_rfl) (fun k cs y hl h => lf_read hl h) h
  exact ⟨l, (slIs_and h1).1, h2, (slIs_and h1).2⟩
theorem rows_read {k : Nat} {v : Value} {y : DataW H × List MemPlace} (h : DataW.trod enc Try.prog W base (fun _ => true) hd k 26 [v] = some y) : RowsIn W v := by
  obtain ⟨l, h1, h2⟩ := slice_of (E := fun w x cs => RwE w x cs ∧ x.length ≤ maxLen) (by decide) Try.underlying26 c_row (fun k cs y hl h => by
    match cs, hl with
    | [v0], _ =>
      obtain ⟨l, hR, hm⟩ := row_read h
      exact ⟨l, ⟨_, rfl, hR⟩, hm⟩) h
  exact ⟨l, (slIs_and h1).1, h2, (slIs_and h1).2⟩
set_option maxRecDepth 100000 in
theorem mk_read {k : Nat} {cs : List Value} {y : DataW H × List MemPlace} (hl : cs.length = 2) (h : DataW.trod enc Try.prog W base (fun _ => true) hd k 66 cs = some y) : ∃ x : Mk, MkE W x cs := by
  obtain ⟨xs, n, _, _, _, hxl, hf⟩ := DataW.trod_struct Try.underlying66 h
  have hx2 : xs.length = 2 := hxl
  have p0 := hf 0 _ rfl
  have p1 := hf 1 _ rfl
  match xs, hx2, cs, hl with
  | [y0, y1], _, [v0, v1], _ =>
    obtain ⟨a, e0⟩ := int_read p0
    obtain ⟨g, e1⟩ := int_read p1
    simp [c_int] at e0 e1
    subst e0 e1
    exact ⟨⟨a.toInt, g.toInt⟩, rfl⟩
theorem marks_read {k : Nat} {v : Value} {y : DataW H × List MemPlace} (h : DataW.trod enc Try.prog W base (fun _ => true) hd k 28 [v] = some y) : MarksIn W v :=
  slice_of (by decide) Try.underlying28 (by kernel_rfl) (fun k cs y hl h => mk_read hl h) h
end
end Go.Proofs.Ytflabcmjbhmphaa
/-
  The contract of the document's Light of tables.
-/
namespace Go.Proofs.Ytflabcmjbhmphaa
open Go.RowKit

theorem size_tb : (Try.prog.info? 49).map (·.size) = some 3 := by kernel_rfl
/-- The three cells of the element at k. -/
theorem at3T {w : World} {a : Option Addr} {n cap : Nat} {l : List Tb} (h : SlIs TbE 3 w (.slice a n cap) l) {k : Nat} (hk : k < n) : ∃ (x : Tb) (c0 c1 c2 : Value) (b off : Nat), l[k]? = some x ∧ a = some ⟨b, off, none⟩ ∧ TbE w x [c0, c1, c2] ∧ w.cell? ⟨b, off + k * 3, none⟩ = some c0 ∧ w.cell? ⟨b, off + k * 3 + 1, none⟩ = some c1 ∧ w.cell? ⟨b, off + k * 3 + 2, none⟩ = some c2 := by
  obtain ⟨x, cs, b, off, h1, h2, _, h3, h4, h5⟩ := h.at hk
  obtain ⟨c0, c1, c2, rfl⟩ : ∃ c0 c1 c2, cs = [c0, c1, c2] := by
    match cs, h3 with
    | [c0, c1, c2], _ => exact ⟨c0, c1, c2, rfl⟩
  exact ⟨x, c0, c1, c2, b, off, h1, h2, h4, h5 0 _ rfl, h5 1 _ rfl, h5 2 _ rfl⟩
/-- The three cells of the element at k. -/
theorem at3C {w : World} {a : Option Addr} {n cap : Nat} {l : List Col} (h : SlIs ColE 3 w (.slice a n cap) l) {k : Nat} (hk : k < n) : ∃ (x : Col) (c0 c1 c2 : Value) (b off : Nat), l[k]? = some x ∧ a = some ⟨b, off, none⟩ ∧ ColE w x [c0, c1, c2] ∧ w.cell? ⟨b, off + k * 3, none⟩ = some c0 ∧ w.cell? ⟨b, off + k * 3 + 1, none⟩ = some c1 ∧ w.cell? ⟨b, off + k * 3 + 2, none⟩ = some c2 := by
  obtain ⟨x, cs, b, off, h1, h2, _, h3, h4, h5⟩ := h.at hk
  obtain ⟨c0, c1, c2, rfl⟩ : ∃ c0 c1 c2, cs = [c0, c1, c2] := by
    match cs, h3 with
    | [c0, c1, c2], _ => exact ⟨c0, c1, c2, rfl⟩
  exact ⟨x, c0, c1, c2, b, off, h1, h2, h4, h5 0 _ rfl, h5 1 _ rfl, h5 2 _ rfl⟩
/-- The three cells of the element at k. -/
theorem at3P {w : World} {a : Option Addr} {n cap : Nat} {l : List Pj} (h : SlIs PjE 3 w (.slice a n cap) l) {k : Nat} (hk : k < n) : ∃ (x : Pj) (c0 c1 c2 : Value) (b off : Nat), l[k]? = some x ∧ a = some ⟨b, off, none⟩ ∧ PjE w x [c0, c1, c2] ∧ w.cell? ⟨b, off + k * 3, none⟩ = some c0 ∧ w.cell? ⟨b, off + k * 3 + 1, none⟩ = some c1 ∧ w.cell? ⟨b, off + k * 3 + 2, none⟩ = some c2 := by
  obtain ⟨x, cs, b, off, h1, h2, _, h3, h4, h5⟩ := h.at hk
  obtain ⟨c0, c1, c2, rfl⟩ : ∃ c0 c1 c2, cs = [c0, c1, c2] := by
    match cs, h3 with
    | [c0, c1, c2], _ => exact ⟨c0, c1, c2, rfl⟩
  exact ⟨x, c0, c1, c2, b, off, h1, h2, h4, h5 0 _ rfl, h5 1 _ rfl, h5 2 _ rfl⟩
theorem tb_cells {w : World} {t : Tb} {c0 c1 c2 : Value} (h : TbE w t [c0, c1, c2]) : c0 = .string t.name ∧ ∃ a n c a2 n2 c3, c1 = .slice a n c ∧ c2 = .slice a2 n2 c3 ∧ t.cols.length = n ∧ t.projs.length = n2 ∧ ColsIs w (.slice a n c) t.cols ∧ PjsIs w (.slice a2 n2 c3) t.projs := by
  obtain ⟨vc, vp, ep, hC, hP⟩ := h
  simp only [List.cons.injEq, and_true] at ep
  obtain ⟨rfl, rfl, rfl⟩ := ep
  obtain ⟨a, m, cap, rfl, h1, _⟩ := hC.slice
  obtain ⟨a2, m2, cap2, rfl, h2, _⟩ := hP.slice
  exact ⟨rfl, a, m, cap, a2, m2, cap2, rfl, rfl, h1, h2, hC, hP⟩
def smT (t : Tb) : Prop := t.name.size ≤ 40 ∧ t.cols.length ≤ 12 ∧ t.projs.length ≤ 10 ∧ (∀ c ∈ t.cols, c.name.size ≤ 40) ∧ (∀ p ∈ t.projs, p.name.size ≤ 40 ∧ p.cols.length ≤ 12)
def smL (l : List Tb) : Prop := l.length ≤ 10 ∧ ∀ t ∈ l, smT t
theorem all_at {α : Type} {P : α → Prop} {l : List α} {i : Nat} (h : ∀ (j : Nat) (x : α), j < i → l[j]? = some x → P x) (hi : l.length ≤ i) : ∀ x ∈ l, P x := by
  intro x hx
  obtain ⟨j, hj⟩ := List.getElem?_of_mem hx
  exact h j x (by have := (List.getElem?_eq_some_iff.1 hj).1; omega) hj
theorem to_next {α : Type} {P : α → Prop} {l : List α} {i : Nat} {x : α} (h : ∀ (j : Nat) (y : α), j < i → l[j]? = some y → P y) (hx : l[i]? = some x) (hp : P x) : ∀ (j : Nat) (y : α), j < i + 1 → l[j]? = some y → P y := by
  intro j y hj hy
  by_cases e : j = i
  · subst e
    obtain rfl : x = y := Option.some.inj (hx.symm.trans hy)
    exact hp
  · exact h j y (by omega) hy
def LightAns (w : World) (l : List Tb) (e : Ending) (w' : World) : Prop := (∃ q, e = .returned (.bool q) ∧ (q = true → smL l)) ∧ Below w.heap.size w w'
theorem tlight_no {w w' : World} {l : List Tb} (h : Below w.heap.size w w') : LightAns w l (.returned (.bool false)) w' := ⟨⟨_, rfl, by simp⟩, h⟩
set_option maxRecDepth 4000 in
set_option maxHeartbeats 4000000 in
theorem refLight25_any {w : World} {v : Value} {l : List Tb} (h : TabsIs w v l) :
    Calls Try.prog 20 #[v] w (LightAns w l) := by
  obtain ⟨a, n, cap, rfl, hn, _⟩ := h.slice
  have HH : Hid (TabsIs w (.slice a n cap) l ∧ l.length = n) := ⟨h, hn⟩
  clear h hn
  go_enter Try.func20, Try.ntmps20
  go_wp2_with fail
  go_loopg [3] 10 (fun gg s3 wx => ∃ i : Nat, i + gg = 10 ∧ s3 = .int .i64 i ∧ Hid (∀ (j : Nat) (x : Tb), j < i → l[j]? = some x → smT x) ∧ Hid (Below w.heap.size w wx))
  case atStart => exact ⟨0, by omega, rfl, fun j x hj _ => absurd hj (by omega), Below.refl _ _⟩
  case round =>
    obtain ⟨i, hig, rfl, HN, HB⟩ := hrel
    by_cases hi : i < n
    · have hiI : (i : Int) < (n : Int) := by omega
      by_cases h10 : i < 10
      · have h10I : (i : Int) < 10 := by omega
        obtain ⟨x, d0, d1, d2, b, off, hs, rfl, hE, p0, p1, p2⟩ := at3T (HH.out.1.over stays_tb HB.out) hi
        have hr2 : IntKind.i64.wrap ((i : Int) + 1) = (i : Int) + 1 := by rw [IntKind.wrap_i64]; omega
        have hone := one_three (one_tb hE)
        obtain ⟨rfl, aC, nC, capC, aP, nP, capP, rfl, rfl, hnC, hnP, hC, hP⟩ := tb_cells hE
        obtain ⟨xn, hxn⟩ : ∃ xn, xn = x.name := ⟨_, rfl⟩
        rw [← hxn] at p0 hone
        obtain ⟨W1, hW1⟩ : ∃ W1, W1 = (wr.alloc (.cells #[.string ⟨#[]⟩, .slice none 0 0, .slice none 0 0] 49)).setRow wr.heap.size #[.string xn, .slice aC nC capC, .slice aP nP capP] := ⟨_, rfl⟩
        have b1 : Below wr.heap.size wr W1 := by rw [hW1]; exact below_setRow (below1 wr _) (Nat.le_refl _) _
        have B1 : Box W1 wr.heap.size 49 #[.string xn, .slice aC nC capC, .slice aP nP capP] := by rw [hW1]; exact (box_new wr _ _).setRow _
        have HZ : Hid (∀ z, Box (wr.alloc (.cells z 49)) wr.heap.size 49 z) := fun z => box_new wr z _
        have HW : Hid (W1 = (wr.alloc (.cells #[.string ⟨#[]⟩, .slice none 0 0, .slice none 0 0] 49)).setRow wr.heap.size #[.string xn, .slice aC nC capC, .slice aP nP capP] ∧ Below w.heap.size w W1) := ⟨hW1, HB.out.trans (b1.mono HB.out.size)⟩
        obtain ⟨Bp, hBp⟩ : ∃ Bp, Bp = wr.heap.size := ⟨_, rfl⟩
        have HR : Hid (Bp = wr.heap.size) := hBp
        rw [← hBp] at B1
        have HBX : Hid (Below w.heap.size w W1 ∧ Box W1 Bp 49 #[.string xn, .slice aC nC capC, .slice aP nP capP]) := ⟨HW.out.2, B1⟩
        have g0 := B1.cell 0 _ rfl
        have g1 := B1.cell 1 _ rfl
        have g2 := B1.cell 2 _ rfl
        have HX : Hid (l[i]? = some x ∧ xn = x.name ∧ x.cols.length = nC ∧ x.projs.length = nP ∧ (∀ W, Below w.heap.size w W → TbE W x [.string x.name, .slice aC nC capC, .slice aP nP capP])) := ⟨hs, hxn, hnC, hnP, fun W hW => by
          obtain ⟨x2, e0, e1, e2, b2, off2, hs2, eb, hE2, q0, q1, q2⟩ := at3T HH.out.1 hi
          cases eb
          obtain rfl : x2 = x := Option.some.inj (hs2.symm.trans hs)
          have u0 := above_cell q0 ⟨wr, HB.out⟩
          have u1 := above_cell q1 ⟨wr, HB.out⟩
          have u2 := above_cell q2 ⟨wr, HB.out⟩
          obtain rfl := Option.some.inj (u0.symm.trans (hxn ▸ p0))
          obtain rfl := Option.some.inj (u1.symm.trans p1)
          obtain rfl := Option.some.inj (u2.symm.trans p2)
          exact stays_tb _ _ _ _ hE2 hW⟩
        clear hE hs hnC hnP hC hP hxn b1 B1 hW1 hBp
        by_cases hb0 : 40 < (xn.size : Int)
        · go_wp2_with (refine wpList_store_row rfl 49 _ _ rfl wr.heap.size _ rfl rfl 49 _ (HZ.out _) size_tb rfl hone ?_; rw [← HW.out.1, ← HR.out])
          go_ret
          exact tlight_no HW.out.2
        · by_cases hb1 : 12 < (nC : Int)
          · go_wp2_with (refine wpList_store_row rfl 49 _ _ rfl wr.heap.size _ rfl rfl 49 _ (HZ.out _) size_tb rfl hone ?_; rw [← HW.out.1, ← HR.out])
            go_ret
            exact tlight_no HW.out.2
          · by_cases hb2 : 10 < (nP : Int)
            · go_wp2_with (refine wpList_store_row rfl 49 _ _ rfl wr.heap.size _ rfl rfl 49 _ (HZ.out _) size_tb rfl hone ?_; rw [← HW.out.1, ← HR.out])
              go_ret
              exact tlight_no HW.out.2
            · go_wp2_with (refine wpList_store_row rfl 49 _ _ rfl wr.heap.size _ rfl rfl 49 _ (HZ.out _) size_tb rfl hone ?_; rw [← HW.out.1, ← HR.out])
              clear g0 g1 g2 p0 p1 p2
              go_loopg [5] nC (fun gg s5 wx => ∃ k : Nat, k + gg = nC ∧ s5 = .int .i64 k ∧ Hid (∀ (j : Nat) (c : Col), j < k → x.cols[j]? = some c → c.name.size ≤ 40) ∧ Hid (Below w.heap.size w wx ∧ Box wx Bp 49 #[.string xn, .slice aC nC capC, .slice aP nP capP]))
              case atStart => exact ⟨0, by omega, rfl, fun j x hj _ => absurd hj (by omega), HBX⟩
              case round =>
                clear HBX HW HZ
                obtain ⟨k, hkg, rfl, HK, HB⟩ := hrel
                have f1 := HB.out.2.cell 1 _ rfl
                by_cases hk : k < nC
                · have hkI : (k : Int) < (nC : Int) := by omega
                  have hr3 : IntKind.i64.wrap ((k : Int) + 1) = (k : Int) + 1 := by rw [IntKind.wrap_i64]; omega
                  obtain ⟨_, _, _, _, _, _, _, ea, eb, _, _, hC, _⟩ := tb_cells (HX.out.2.2.2.2 _ HB.out.1)
                  cases ea
                  cases eb
                  obtain ⟨c, e0, e1, e2, b2, off2, hc, rfl, hE2, q0, q1, q2⟩ := at3C hC hk
                  cases hE2
                  have HC : Hid (x.cols[k]? = some c) := hc
                  clear hC hc q1 q2
                  by_cases hbc : 40 < (c.name.size : Int)
                  · go_wp2_with fail
                    go_ret
                    exact tlight_no HB.out.1
                  · have HCC : Hid (c.name.size ≤ 40) := by unfold Hid; omega
                    go_wp2_with fail
                    go_roundg (nC - (k + 1))
                    case measure => clear hr2 hr3; omega
                    case rel => exact ⟨k + 1, by clear hr2 hr3; omega, by go_num, to_next HK.out HC.out HCC.out, HB⟩
                · have hkI : ¬ (k : Int) < (nC : Int) := by omega
                  have HCS : Hid (∀ c ∈ x.cols, c.name.size ≤ 40) := all_at HK.out (by rw [HX.out.2.2.1]; omega)
                  go_wp2_with fail
                  clear HK f1 hkg hk hkI
                  go_loopg [6] nP (fun gg s6 wx => ∃ k : Nat, k + gg = nP ∧ s6 = .int .i64 k ∧ Hid (∀ (j : Nat) (p : Pj), j < k → x.projs[j]? = some p → p.name.size ≤ 40 ∧ p.cols.length ≤ 12) ∧ Hid (Below w.heap.size w wx ∧ Box wx Bp 49 #[.string xn, .slice aC nC capC, .slice aP nP capP]))
                  case atStart => exact ⟨0, by omega, rfl, fun j x hj _ => absurd hj (by omega), HB⟩
                  case round =>
                    clear HB
                    obtain ⟨k, hkg, rfl, HK, HB⟩ := hrel
                    have f2 := HB.out.2.cell 2 _ rfl
                    by_cases hk : k < nP
                    · have hkI : (k : Int) < (nP : Int) := by omega
                      have hr3 : IntKind.i64.wrap ((k : Int) + 1) = (k : Int) + 1 := by rw [IntKind.wrap_i64]; omega
                      obtain ⟨_, _, _, _, _, _, _, ea, eb, _, _, _, hP⟩ := tb_cells (HX.out.2.2.2.2 _ HB.out.1)
                      cases ea
                      cases eb
                      obtain ⟨p, e0, e1, e2, b2, off2, hp, rfl, hE2, q0, q1, q2⟩ := at3P hP hk
                      obtain ⟨v2, ev, hI⟩ := hE2
                      simp only [List.cons.injEq, and_true] at ev
                      obtain ⟨rfl, rfl, rfl⟩ := ev
                      obtain ⟨aI, nI, capI, rfl, hnI, _⟩ := hI.slice
                      have HC : Hid (x.projs[k]? = some p ∧ p.cols.length = nI) := ⟨hp, hnI⟩
                      clear hP hp q2 hI hnI
                      by_cases hbc : 40 < (p.name.size : Int)
                      · go_wp2_with fail
                        go_ret
                        exact tlight_no HB.out.1
                      · by_cases hbd : 12 < (nI : Int)
                        · go_wp2_with fail
                          go_ret
                          exact tlight_no HB.out.1
                        · have HCC : Hid (p.name.size ≤ 40 ∧ p.cols.length ≤ 12) := by unfold Hid; rw [HC.out.2]; omega
                          go_wp2_with fail
                          go_roundg (nP - (k + 1))
                          case measure => clear hr2 hr3; omega
                          case rel => exact ⟨k + 1, by clear hr2 hr3; omega, by go_num, to_next HK.out HC.out.1 HCC.out, HB⟩
                    · have hkI : ¬ (k : Int) < (nP : Int) := by omega
                      have HSM : Hid (smT x) := ⟨by rw [← HX.out.2.1]; omega, by rw [HX.out.2.2.1]; omega, by rw [HX.out.2.2.2.1]; omega, HCS.out, all_at HK.out (by rw [HX.out.2.2.2.1]; omega)⟩
                      go_wp2_with fail
                      go_roundg (10 - (i + 1))
                      case measure => clear hr2; omega
                      case rel => exact ⟨i + 1, by clear hr2; omega, by go_num, to_next HN.out HX.out.1 HSM.out, HB.out.1⟩
      · have h10I : ¬ (i : Int) < 10 := by omega
        have hnI : ¬ (n : Int) ≤ 10 := by omega
        go_wp2_with fail
        go_ret
        exact tlight_no HB.out
    · have hiI : ¬ (i : Int) < (n : Int) := by omega
      have hnI : (n : Int) ≤ 10 := by omega
      have HSM : Hid (smL l) := ⟨by rw [HH.out.2]; omega, all_at HN.out (by rw [HH.out.2]; omega)⟩
      go_wp2_with fail
      go_ret
      exact ⟨⟨_, rfl, fun _ => HSM.out⟩, HB.out⟩
end Go.Proofs.Ytflabcmjbhmphaa
/-
  What the walks of law 27 share.
-/
namespace Go.Proofs.Ytflabcmjbhmphaa
open Go.RowKit

theorem ints_of_isrow {w : World} {a : Option Addr} {len cap : Nat} {zs : List Int} (h : IsRow .i64 w a len cap zs) : ∃ l : List (BitVec 64), IntsIs w (.slice a len cap) l := by
  have hlc : len ≤ cap := by
    rcases h with ⟨_, rfl, rfl, _⟩ | ⟨x, _, hl, _⟩
    · exact Nat.le_refl _
    · exact hl
  obtain ⟨l, hl, hr⟩ := reads_of_row h
  refine ⟨l, ?_⟩
  rcases hr with ⟨rfl, a1, c1, e⟩ | ⟨b, off, c, e, hne, hb, hc⟩
  · cases e
    exact slIs_nil _ _ _ _ _
  · cases e
    refine ⟨_, cap, rfl, hlc, fun _ => ⟨b, off, rfl, hb, fun i x hi => ⟨[.int .i64 x.toInt], rfl, rfl, fun j u hu => ?_⟩⟩⟩
    cases j with
    | zero =>
      simp at hu
      subst hu
      have := hc i (List.getElem?_eq_some_iff.1 hi).1
      rw [List.getD_eq_getElem?_getD, hi] at this
      simpa using this
    | succ j => simp at hu
theorem merge_lit {a b : List Lf} {low : Int} (ha : litL 30 a) (hb : litL 30 b) : (mergeA a b low).length ≤ 60 ∧ ∀ x ∈ mergeA a b low, x.r.length ≤ 20 := by
  refine ⟨?_, fun x hx => ?_⟩
  · have := List.length_filter_le (fun x => !goesB low x) (a ++ b)
    have h1 := ha.1
    have h2 := hb.1
    unfold mergeA
    rw [List.length_append] at this
    omega
  · have := (List.mem_filter.1 hx).1
    rcases List.mem_append.1 this with h | h
    · exact ha.2 x h
    · exact hb.2 x h
end Go.Proofs.Ytflabcmjbhmphaa
