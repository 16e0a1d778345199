/-
  The contract of law 6's awake.
-/
import Derived.Test.YtjkkkdehmgfmeaaDoorKBack
import Derived.Test.YtjkkkdehmgfmeaaDoorKRead
import Derived.Test.YtjkkkdehmgfmeaaDoorKSame
import Derived.Test.YtjkkkdehmgfmeaaDoorKNum
namespace Go.Proofs.YtjkkkdehmgfmeaaDoor
open Go.RowKit

def nC : Cl := ⟨1, -5, ⟨#[]⟩⟩
def sC : Cl := ⟨2, 0, ⟨#[105, 116, 39, 115]⟩⟩
def rC : List Cl := [nC, sC, cl0]
theorem row_new3 (w : World) (a b c : Cl) : RowIs (w.alloc (.cells #[.int .i64 a.k, .int .i64 a.n, .string a.s, .int .i64 b.k, .int .i64 b.n, .string b.s, .int .i64 c.k, .int .i64 c.n, .string c.s] 23)) (.slice (some ⟨w.heap.size, 0, none⟩) 3 3) [a, b, c] := by
  have bx := box_new w #[.int .i64 a.k, .int .i64 a.n, .string a.s, .int .i64 b.k, .int .i64 b.n, .string b.s, .int .i64 c.k, .int .i64 c.n, .string c.s] 23
  refine ⟨some ⟨w.heap.size, 0, none⟩, 3, rfl, fun _ => ⟨w.heap.size, 0, rfl, by simp, fun i x hi => ?_⟩⟩
  match i with
  | 0 => simp at hi; subst hi; exact ⟨bx.cell 0 _ rfl, bx.cell 1 _ rfl, bx.cell 2 _ rfl⟩
  | 1 => simp at hi; subst hi; exact ⟨bx.cell 3 _ rfl, bx.cell 4 _ rfl, bx.cell 5 _ rfl⟩
  | 2 => simp at hi; subst hi; exact ⟨bx.cell 6 _ rfl, bx.cell 7 _ rfl, bx.cell 8 _ rfl⟩
  | i + 3 => simp at hi
theorem rC_ok : ∀ c ∈ rC, mayC c = true ∧ okC c := by
  intro c hc
  simp only [rC, List.mem_cons, List.not_mem_nil, or_false] at hc
  rcases hc with rfl | rfl | rfl
  · exact ⟨by decide, by unfold okC nC; decide⟩
  · exact ⟨by decide, by unfold okC sC; decide⟩
  · exact ⟨by decide, by unfold okC cl0; decide⟩
theorem rC_at : ∀ (i : Nat) (c : Cl), rC[i]? = some c → mayC c = true ∧ okC c := fun _ c h => rC_ok c (List.mem_of_getElem? h)
theorem itoa_five : Lib.itoa (-5) = [45, 53] := by
  have := Lib.itoa_neg 5 (by decide)
  rw [Lib.decDigits_one (by decide)] at this
  exact this
theorem read_sC : readA [39, 105, 116, 39, 39, 115, 39] = (sC, 0) :=
  readA_of ((read_iff _ sC).2 ⟨by decide, by unfold okC sC; decide, by decide⟩)
/-- What stays between the calls. -/
structure Aw (w w' : World) : Prop where
  n : Box w' w.heap.size 23 #[.int .i64 1, .int .i64 (-5), .string ⟨#[]⟩]
  s : Box w' (w.heap.size + 1) 23 #[.int .i64 2, .int .i64 0, .string ⟨#[105, 116, 39, 115]⟩]
  bel : Below w.heap.size w w'
  env : Env w'
theorem Aw.over {w w1 w2 : World} (h : Aw w w1) (hb : Below w1.heap.size w1 w2) : Aw w w2 :=
  ⟨h.n.over hb, h.s.over hb, h.bel.trans (hb.mono h.bel.size), h.env.below hb⟩
theorem Aw.cells {w w1 : World} (h : Aw w w1) : w1.cell? ⟨w.heap.size, 0, none⟩ = some (.int .i64 1) ∧ w1.cell? ⟨w.heap.size, 1, none⟩ = some (.int .i64 (-5)) ∧ w1.cell? ⟨w.heap.size, 2, none⟩ = some (.string ⟨#[]⟩) ∧ w1.cell? ⟨w.heap.size + 1, 0, none⟩ = some (.int .i64 2) ∧ w1.cell? ⟨w.heap.size + 1, 1, none⟩ = some (.int .i64 0) ∧ w1.cell? ⟨w.heap.size + 1, 2, none⟩ = some (.string ⟨#[105, 116, 39, 115]⟩) :=
  ⟨h.n.cell 0 _ rfl, h.n.cell 1 _ rfl, h.n.cell 2 _ rfl, h.s.cell 0 _ rfl, h.s.cell 1 _ rfl, h.s.cell 2 _ rfl⟩

theorem putA_rC : putA rC = (str (putL rC), 0) := putA_ok (by decide) fun i c h => (rC_at i c h).1
theorem take_rC (w : World) : Calls Tryd.prog 19 #[.string (str (putL rC))] w fun e w' => Below w.heap.size w w' ∧ ∃ v, e = .returned (.tuple #[v, .int .i64 ((str (putL rC)).size : Int), .int .i64 0]) ∧ RowIs w' v rC := by
  have hl : (putL rC).length ≤ 1000 := by
    have := flat_len (r := rC) fun c h => (rC_ok c h).1
    unfold putL
    simp only [List.length_cons]
    have h3 : rC.length = 3 := rfl
    omega
  refine (takeRow_any (str (putL rC)) (by rw [str_size]; unfold maxLen; omega) w).mono ?_
  intro e w' h
  unfold TakeAns at h
  have e0 := take_put (r := rC) (by decide) rC_ok []
  rw [List.append_nil] at e0
  rw [str_list, e0] at h
  exact h
theorem size_sC : (sC).s.size ≤ 100000 := by decide

set_option maxHeartbeats 4000000 in
set_option maxRecDepth 4000 in
theorem awake_any (w : World) (hE : Env w) :
    Calls Tryd.prog 9 #[] w fun e w' => e = .returned (.bool true) ∧ Below w.heap.size w w' := by
  have h0 : Aw w ((w.alloc (.cells #[.int .i64 1, .int .i64 (-5), .string ⟨#[]⟩] 23)).alloc (.cells #[.int .i64 2, .int .i64 0, .string ⟨#[105, 116, 39, 115]⟩] 23)) := by
    have b1 := box_new (w.alloc (.cells #[.int .i64 1, .int .i64 (-5), .string ⟨#[]⟩] 23)) #[.int .i64 2, .int .i64 0, .string ⟨#[105, 116, 39, 115]⟩] 23
    rw [World.size_alloc] at b1
    exact ⟨box_old _ _ _ _, b1, below2 _ _ _, hE.below (below2 _ _ _)⟩
  have hrow := row_new3 ((w.alloc (.cells #[.int .i64 1, .int .i64 (-5), .string ⟨#[]⟩] 23)).alloc (.cells #[.int .i64 2, .int .i64 0, .string ⟨#[105, 116, 39, 115]⟩] 23)) nC sC cl0
  rw [World.size_alloc, World.size_alloc] at hrow
  have hput := putRow_any _ _ rC hrow (fun i c h => (rC_at i c h).2) (by decide)
  rw [putA_rC] at hput
  have H0 : Hid (Aw w (((w.alloc (.cells #[.int .i64 1, .int .i64 (-5), .string ⟨#[]⟩] 23)).alloc (.cells #[.int .i64 2, .int .i64 0, .string ⟨#[105, 116, 39, 115]⟩] 23)).alloc (.cells #[.int .i64 nC.k, .int .i64 nC.n, .string nC.s, .int .i64 sC.k, .int .i64 sC.n, .string sC.s, .int .i64 cl0.k, .int .i64 cl0.n, .string cl0.s] 23))) := h0.over (below1 _ _)
  have htk := take_rC
  obtain ⟨b, hb⟩ : ∃ b, b = str (putL rC) := ⟨_, rfl⟩
  rw [← hb] at hput htk
  clear hb hrow h0 hE
  have hc1 : ∀ w, Calls Tryd.prog 10 #[.agg #[.int .i64 1, .int .i64 (-5), .string ⟨#[]⟩], .agg #[.int .i64 2, .int .i64 0, .string ⟨#[105, 116, 39, 115]⟩]] w fun e w' => e = .returned (.int .i64 (-1)) ∧ Below w.heap.size w w' := fun w => compare_any nC sC w
  have hc2 : ∀ w, Calls Tryd.prog 10 #[.agg #[.int .i64 0, .int .i64 0, .string ⟨#[]⟩], .agg #[.int .i64 1, .int .i64 (-5), .string ⟨#[]⟩]] w fun e w' => e = .returned (.int .i64 (-1)) ∧ Below w.heap.size w w' := fun w => compare_any cl0 nC w
  have hsh : ∀ w, Env w → Calls Tryd.prog 26 #[.agg #[.int .i64 1, .int .i64 (-5), .string ⟨#[]⟩]] w fun e w' => e = .returned (.string ⟨#[45, 53]⟩) ∧ Below w.heap.size w w' := fun w h => by
    have := show_any nC h (by unfold okC nC; decide) (by decide)
    have e : showL nC = [45, 53] := by
      have : showL nC = Lib.itoa (-5) := by simp [showL, nC]
      rw [this, itoa_five]
    rw [e] at this
    exact this
  have hrd : ∀ w, Env w → Calls Tryd.prog 24 #[.string ⟨#[39, 105, 116, 39, 39, 115, 39]⟩] w fun e w' => e = .returned (.tuple #[.agg #[.int .i64 2, .int .i64 0, .string ⟨#[105, 116, 39, 115]⟩], .int .i64 0]) ∧ Below w.heap.size w w' := fun w h => by
    have := read_any ⟨#[39, 105, 116, 39, 39, 115, 39]⟩ h (by decide)
    have e : readA (⟨#[39, 105, 116, 39, 39, 115, 39]⟩ : ByteArray).data.toList = (sC, 0) := read_sC
    rw [e] at this
    exact this
  have hchk : ∀ w, Calls Tryd.prog 12 #[.agg #[.int .i64 0, .int .i64 1, .string ⟨#[]⟩]] w fun e w' => e = .returned (.int .i64 1) ∧ Below w.heap.size w w' := fun w => check_any ⟨0, 1, ⟨#[]⟩⟩ w
  have hsame : ∀ (w : World) (v1 v2 : Value), RowIs w v1 rC → RowIs w v2 rC → Calls Tryd.prog 21 #[v1, v2] w fun e w' => e = .returned (.bool true) ∧ Below w.heap.size w w' := fun w v1 v2 h1 h2 => same_yes h1 h2 (by decide)
  go_enter Tryd.func9, Tryd.ntmps9
  go_wp2_with fail
  refine hput.mono ?_
  rintro e w1 ⟨rfl, hb1⟩
  have A1 := H0.out.over hb1
  clear H0 hb1 hput
  go_wp2_with fail
  refine (htk _).mono ?_
  rintro e w2 ⟨hb2, v, rfl, hv⟩
  have A2 := A1.over hb2
  clear A1 hb2
  have E2 := A2.env
  go_wp2_with fail
  refine (hrd _ E2).mono ?_
  rintro e w3 ⟨rfl, hb3⟩
  have A3 := A2.over hb3
  have hv3 := hv.below hb3
  clear A2 hb3 hv E2
  have bx3 := box_new w3 #[.int .i64 2, .int .i64 0, .string ⟨#[105, 116, 39, 115]⟩] 23
  have A4 := A3.over (below1 w3 (.cells #[.int .i64 2, .int .i64 0, .string ⟨#[105, 116, 39, 115]⟩] 23))
  have hv4 := hv3.below (below1 w3 (.cells #[.int .i64 2, .int .i64 0, .string ⟨#[105, 116, 39, 115]⟩] 23))
  obtain ⟨c0, c1, c2, c3, c4, c5⟩ := A4.cells
  have hr5 := row_new3 (w3.alloc (.cells #[.int .i64 2, .int .i64 0, .string ⟨#[105, 116, 39, 115]⟩] 23)) nC sC cl0
  rw [World.size_alloc] at hr5
  have hbr := below1 (w3.alloc (.cells #[.int .i64 2, .int .i64 0, .string ⟨#[105, 116, 39, 115]⟩] 23)) (.cells #[.int .i64 nC.k, .int .i64 nC.n, .string nC.s, .int .i64 sC.k, .int .i64 sC.n, .string sC.s, .int .i64 cl0.k, .int .i64 cl0.n, .string cl0.s] 23)
  have A5 := A4.over hbr
  have bx5 := bx3.over hbr
  have HS : Hid (Calls Tryd.prog 21 #[v, .slice (some ⟨w3.heap.size + 1, 0, none⟩) 3 3] _ fun e w' => e = .returned (.bool true) ∧ Below _ _ w') := hsame _ _ _ (hv4.below hbr) hr5
  clear A4 A3 hv3 hv4 hr5 hbr bx3 hsame
  go_wp2_with fail
  refine HS.out.mono ?_
  rintro e w6 ⟨rfl, hb6⟩
  have A6 := A5.over hb6
  have bx6 := bx5.over hb6
  clear HS hb6 A5 bx5 c0 c1 c2 c3 c4 c5
  obtain ⟨c0, c1, c2, c3, c4, c5⟩ := A6.cells
  go_wp2_with fail
  refine (hc1 _).mono ?_
  rintro e w7 ⟨rfl, hb7⟩
  have A7 := A6.over hb7
  have bx7 := bx6.over hb7
  clear hb7 A6 bx6 c0 c1 c2 c3 c4 c5 hc1
  obtain ⟨c0, c1, c2, c3, c4, c5⟩ := A7.cells
  go_wp2_with fail
  refine (hc2 _).mono ?_
  rintro e w8 ⟨rfl, hb8⟩
  have A8 := A7.over hb8
  have bx8 := bx7.over hb8
  clear hb8 A7 bx7 c0 c1 c2 c3 c4 c5 hc2
  obtain ⟨c0, c1, c2, c3, c4, c5⟩ := A8.cells
  go_wp2_with fail
  refine (hsh _ A8.env).mono ?_
  rintro e w9 ⟨rfl, hb9⟩
  have A9 := A8.over hb9
  have bx9 := bx8.over hb9
  clear hb9 A8 bx8 c0 c1 c2 c3 c4 c5 hsh
  obtain ⟨c0, c1, c2, c3, c4, c5⟩ := A9.cells
  have d0 := bx9.cell 0 _ rfl
  have d1 := bx9.cell 1 _ rfl
  have d2 := bx9.cell 2 _ rfl
  go_wp2_with fail
  refine (hchk _).mono ?_
  rintro e w10 ⟨rfl, hb10⟩
  have A10 := A9.over hb10
  clear hb10 A9 bx9 c0 c1 c2 c3 c4 c5 d0 d1 d2 hchk
  go_wp2_with fail
  go_ret
  exact ⟨rfl, A10.bel⟩
end Go.Proofs.YtjkkkdehmgfmeaaDoor
