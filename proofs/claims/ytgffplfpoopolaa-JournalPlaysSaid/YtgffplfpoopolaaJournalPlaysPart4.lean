/-
  5 texts, one behind the other: Last2, JSg, JSh, JSi, WJournalPlays.
-/
import Derived.Test.YtgffplfpoopolaaJoin2
import Derived.Test.YtgffplfpoopolaaJournalPlaysPart3
import Derived.Deep.Slices
import Derived.ChangeArms
/-
  Regions that draw their order, whose last two operations wait for all others, over whatever others. No program is spoken of.
-/
namespace Go.Proofs.Ytgffplfpoopolaa
open Go.RowKit

def waitsB (l : List Oper) : Nat → Oper → Nat → Bool
  | 0, _, _ => false
  | n + 1, z, i => z.after.any fun e => Region.binds .any e && (e.on == i || (match l[e.on]? with | some o => waitsB l n o i | none => false))
def lastW (n : Nat) (L : List Oper) : Bool :=
  (match L.getLast? with
    | some z => z.guard.isNone && ((List.range L.dropLast.length).all fun i => waitsB L.dropLast n z i) && (z.after.all fun e => !Region.binds .any e || decide (e.on < L.dropLast.length))
    | none => false) &&
  ((List.range L.dropLast.length).all fun j => match L.dropLast[j]? with
    | some o => (o.after.all fun e => !Region.binds .any e || decide (e.on < j)) && (match o.guard with | some (k, _) => decide (k < L.dropLast.length) | none => true)
    | none => true)
section
variable {P : Program} {l : List Oper} {z : Oper} {Q : Exit → Act → World → Prop}
theorem waits_listed {listed : Array Bool} (hcl : ∀ j o, l[j]? = some o → listed.getD j false = true → ∀ e ∈ o.after, Region.binds .any e = true → listed.getD e.on false = true) :
    ∀ (n : Nat) (z : Oper) (i : Nat), waitsB l n z i = true → (∀ e ∈ z.after, Region.binds .any e = true → listed.getD e.on false = true) → listed.getD i false = true
  | 0, _, _, h, _ => by simp [waitsB] at h
  | n + 1, z, i, h, hz => by
    rw [waitsB, Array.any_eq_true] at h
    obtain ⟨j, hj, h2⟩ := h
    rw [Bool.and_eq_true, Bool.or_eq_true, beq_iff_eq] at h2
    have h3 := hz _ (Array.getElem_mem hj) h2.1
    rcases h2.2 with h4 | h4
    · rw [← h4]; exact h3
    · cases ho : l[z.after[j].on]? with
      | none => rw [ho] at h4; cases h4
      | some o =>
        rw [ho] at h4
        exact waits_listed hcl n o i h4 (fun e he hb => hcl _ o ho h3 e he hb)
theorem any_of_pre2 {n : Nat} (hdep : ∀ j o, l[j]? = some o → (∀ e ∈ o.after, Region.binds .any e = true → e.on < j) ∧ ∀ k b, o.guard = some (k, b) → k < l.length)
    (hz : z.guard = none) (hw : ∀ i, i < l.length → waitsB l n z i = true) (hze : ∀ e ∈ z.after, Region.binds .any e = true → e.on < l.length) :
    ∀ (fuel : Nat) (listed : Array Bool) (a : Act) (w : World), listed.size = l.length → unl listed = fuel → (∀ j o, l[j]? = some o → listed.getD j false = true → ∀ e ∈ o.after, Region.binds .any e = true → listed.getD e.on false = true) →
      wpAny P .any l.toArray (Then P z Q) fuel listed a w → wpAny P .any (l ++ [z]).toArray Q (fuel + 1) (listed.push false) a w := by
  intro fuel
  induction fuel with
  | zero =>
    intro listed a w hs hu _ h
    have hall := unl_zero listed hu
    have hone : ∀ j, j < l.length → ¬ (listed.getD j true = false) := fun j hj e => by
      have h1 := hall j (by omega)
      have hj' : j < listed.size := by omega
      simp [hj'] at e h1
      rw [e] at h1
      cases h1
    have hrz : l.length ∈ Region.ready .any (l ++ [z]).toArray (listed.push false) := by
      rw [mem_ready]
      refine ⟨by simp [← hs], z, by simp, fun e he hb => ?_⟩
      rw [listed_pushF]
      exact hall _ (by have := hze e he hb; omega)
    refine ⟨fun h0 => (by rw [h0] at hrz; cases hrz), fun i hi => ?_⟩
    have hlt := ready_top hi
    have hil : i = l.length := by
      simp at hlt
      rcases Nat.lt_or_ge i l.length with h' | h'
      · have := (mem_ready.1 hi).1
        rw [listed_push listed i true (by omega)] at this
        exact absurd this (hone i h')
      · omega
    subst hil
    have hsz : (l ++ [z]).toArray[l.length]? = some z := by simp
    unfold wpOp
    simp only [hsz, Region.wanted, hz, if_true]
    have hlast : z.wp P a w (fun a w => Q .normal a w) Q := h.2
    refine .inl (Oper.wp_mono (fun a' w' hq => ⟨?_, hq⟩) hlast)
    cases hr : Region.ready .any (l ++ [z]).toArray ((listed.push false).setIfInBounds l.length true) with
    | nil => rfl
    | cons x xs =>
      have hx : x ∈ Region.ready .any (l ++ [z]).toArray ((listed.push false).setIfInBounds l.length true) := by rw [hr]; simp
      have hxt := ready_top hx
      have hx1 := (mem_ready.1 hx).1
      simp at hxt
      by_cases e : x = l.length
      · subst e
        simp [← hs] at hx1
      · rw [getD_set_ne true (fun h' => e h'.symm), listed_push listed x true (by omega)] at hx1
        exact absurd hx1 (hone x (by omega))
  | succ fuel ih =>
    intro listed a w hs hu hcl h
    obtain ⟨i0, hi0, hf0, hmin⟩ := unl_pos listed (by omega)
    have hr0 : i0 ∈ Region.ready .any l.toArray listed := by
      have hsome : l[i0]? = some l[i0] := List.getElem?_eq_getElem (by omega)
      rw [mem_ready]
      refine ⟨hf0, l[i0], by simp, fun e he hb => ?_⟩
      have hlt := (hdep i0 _ hsome).1 e he hb
      have h1 := hmin _ hlt
      have h2 : e.on < listed.size := by omega
      simp [h2] at h1 ⊢
      exact h1
    have hr1 := (ready_lt (z := z) hs (by omega)).2 hr0
    refine ⟨fun h0 => (by rw [h0] at hr1; cases hr1), fun i hi => ?_⟩
    have hlt := ready_top hi
    have hil : i < l.length := by
      simp at hlt
      rcases Nat.lt_or_ge i l.length with h' | h'
      · exact h'
      · have e : i = l.length := by omega
        subst e
        obtain ⟨_, o, ho, hall⟩ := mem_ready.1 hi
        have hsz : (l ++ [z]).toArray[l.length]? = some z := by simp
        rw [hsz] at ho
        cases ho
        have this : listed.getD i0 false = true := waits_listed hcl n z i0 (hw i0 (by omega)) (fun e he hb => by have h1 := hall e he hb; rwa [listed_pushF] at h1)
        simp [hi0] at this hf0
        rw [hf0] at this
        cases this
    have hi' := (ready_lt (z := z) hs hil).1 hi
    have hq := h.2 i hi'
    obtain ⟨hun, o, ho, hrd⟩ := mem_ready.1 hi'
    have ho' : l[i]? = some o := by simpa using ho
    have hset : (listed.push false).setIfInBounds i true = (listed.setIfInBounds i true).push false := by
      apply Array.ext'
      simp [List.set_append_left, hs, hil]
    have hus := unl_set listed i hun
    have hkeep : ∀ j, listed.getD j false = true → (listed.setIfInBounds i true).getD j false = true := fun j hj => by
      by_cases e : i = j
      · subst e
        have : i < listed.size := by omega
        simp [this]
      · rw [getD_set_ne false e]
        exact hj
    have hcl2 : ∀ j o, l[j]? = some o → (listed.setIfInBounds i true).getD j false = true → ∀ e ∈ o.after, Region.binds .any e = true → (listed.setIfInBounds i true).getD e.on false = true := by
      intro j o2 ho2 hj e he hb
      by_cases ej : i = j
      · subst ej
        rw [ho'] at ho2
        cases ho2
        exact hkeep _ (hrd e he hb)
      · rw [getD_set_ne false ej] at hj
        exact hkeep _ (hcl j o2 ho2 hj e he hb)
    unfold wpOp at hq
    rw [ho] at hq
    unfold wpOp
    rw [push_get l z i hil, ho]
    simp only at hq ⊢
    rw [wanted_push o (hdep i o ho').2]
    have hnext : ∀ a' w', wpAny P .any l.toArray (Then P z Q) fuel (listed.setIfInBounds i true) a' w' → wpAny P .any (l ++ [z]).toArray Q (fuel + 1) ((listed.push false).setIfInBounds i true) a' w' := by
      intro a' w' h'
      rw [hset]
      exact ih _ _ _ (by simpa using hs) (by omega) hcl2 h'
    split
    · rename_i hwt
      simp only [hwt, if_true] at hq
      rcases hq with hq | ⟨hq, a', w', hl⟩
      · exact .inl (wp_then hnext hq)
      · exact .inr ⟨hq, a', w', hl⟩
    · rename_i hwt
      simp only [hwt] at hq
      exact hnext _ _ hq

theorem wpAny_then {n : Nat} {a : Act} {w : World} {L : List Oper} (z : Oper) (hL : L.getLast? = some z) (hB : lastW n L = true)
    (h : wpAny P .any L.dropLast.toArray (Then P z Q) L.dropLast.length (Array.replicate L.dropLast.length false) a w) : wpAny P .any L.toArray Q L.length (Array.replicate L.length false) a w := by
  have hne : L = L.dropLast ++ [z] := by
    have hn : L ≠ [] := by intro e; subst e; simp at hL
    have h1 := List.dropLast_concat_getLast hn
    rw [List.getLast?_eq_some_getLast hn] at hL
    rw [Option.some.inj hL] at h1
    exact h1.symm
  obtain ⟨l, hl⟩ : ∃ l, l = L.dropLast := ⟨_, rfl⟩
  unfold lastW at hB
  rw [hL] at hB
  rw [← hl] at hne h hB
  subst hne
  simp only [Bool.and_eq_true, List.all_eq_true, List.mem_range, Option.isNone_iff_eq_none] at hB
  obtain ⟨⟨⟨hzg, hz1⟩, hz2⟩, hdep⟩ := hB
  have hrep : Array.replicate (l ++ [z]).length false = (Array.replicate l.length false).push false := by
    apply Array.ext'
    simp [List.replicate_succ']
  have hsz : (l ++ [z]).length = l.length + 1 := by simp
  rw [hrep, hsz]
  refine any_of_pre2 (n := n) ?_ hzg hz1 ?_ l.length _ a _ (by simp) ?_ ?_ h
  · intro j o ho
    have hj := (List.getElem?_eq_some_iff.1 ho).1
    have h1 := hdep j hj
    rw [ho] at h1
    simp only [Bool.and_eq_true, Array.all_eq_true_iff_forall_mem, Bool.or_eq_true, Bool.not_eq_true', decide_eq_true_eq] at h1
    refine ⟨fun e he hb => ?_, fun k b hg => ?_⟩
    · rcases h1.1 e he with h2 | h2
      · rw [hb] at h2; cases h2
      · exact h2
    · have h2 := h1.2
      rw [hg] at h2
      simpa using h2
  · intro e he hb
    rw [Array.all_eq_true_iff_forall_mem] at hz2
    have h1 := hz2 e he
    simp only [Bool.or_eq_true, Bool.not_eq_true', decide_eq_true_eq] at h1
    rcases h1 with h1 | h1
    · rw [hb] at h1; cases h1
    · exact h1
  · unfold unl
    simp
  · intro j o _ hj
    simp [Array.getElem?_replicate] at hj
    split at hj <;> simp at hj
/-- The last two wait for all others, the others held under the condition S. -/
theorem wp_region_held_two {id : Nat} {a : Act} {w : World} {L : List Oper} (n : Nat) (S : World → Prop) (z y : Oper) (hm : P.follows .mixedOrders = true) (hL : L.getLast? = some z) (hB : lastB L = true) (hL2 : L.dropLast.getLast? = some y) (hB2 : lastW n L.dropLast = true)
    (h : wpAnyH P .any L.dropLast.dropLast.toArray (Then P y (Then P z Q)) S L.dropLast.dropLast.length (Array.replicate L.dropLast.dropLast.length false) a w.drew) : (Code.region id L.toArray true).wp P Q a w :=
  wp_region_then z hm hL hB (wpAny_then y hL2 hB2 (wpAny_of_held _ _ _ _ h))
end
end Go.Proofs.Ytgffplfpoopolaa
/-
  Law 23's side.does: the fuse, and a crash.
-/
namespace Go.Proofs.Ytgffplfpoopolaa
open Go.RowKit Leb

theorem Sy.fused {w0 W W8 : World} {px hp : Nat} {J : Jh} {R : RH} {s : St} {turn : BitVec 64} {u : Nat} {out : List (List UInt8)} {va : Option Addr} {vn vc i : Nat} (o : Sy w0 W px hp J R s turn u out va vn vc i) (n : Int) (K : Kept (fun x => x = px) W W8) (B : Box W8 px 43 (sdc hp J.p (rda R { s with fuse := n }) turn.toInt (.slice va vn vc) u)) : M8 w0 W8 px hp J s turn u out R { s with fuse := n } u out va vn vc :=
  ⟨o.jnl.keptF K (fun x hx e => o.np (by rw [← e]; exact hx)), o.hpe, B, ⟨(o.ref.kept K (fun x hx e => hx (.inr e))).grow (fun x _ hn h => h.elim (fun h => hn h) (fun h => h)), o.list.kept K (fun x hx e => (o.lav x hx).2 e), fun x hx => ⟨(o.lav x hx).1, (o.lav x hx).2, fun h => h⟩, o.vl⟩, o.np, o.own, o.pw, o.bel.trans (K.below (fun x hx => by rw [hx]; exact o.pw) o.bel.size)⟩
theorem Pu.fuse {s : St} {turn : BitVec 64} {u : Nat} {out : List (List UInt8)} {i : Nat} (h : Pu s turn u out i) (n : Int) : Pu { s with fuse := n } turn u out (i + 1) :=
  ⟨h.n50, h.ok1, h.ok2, h.t1, by have := h.t2; omega, by have := h.wl; show s.wait.length ≤ _; omega, h.ul, h.ol⟩
set_option maxRecDepth 4000 in
set_option maxHeartbeats 8000000 in
theorem does_fuse {w0 wx : World} {px hp : Nat} {J : Jh} {R : RH} {s : St} {turn : BitVec 64} {u : Nat} {out : List (List UInt8)} {va : Option Addr} {vn vc i : Nat} (o : Sy w0 wx px hp J R s turn u out va vn vc i) (N : BitVec 64) (tv kv : Value) :
    Calls Try.prog 9 #[.pointer (some ⟨px, 0, none⟩), .agg #[.int .i64 2, .int .i64 N.toInt, tv, kv]] wx (DoAns w0 px hp (i + 1)) := by
  have hN1 := N.le_toInt
  have hN2 := N.toInt_lt
  obtain ⟨NI, hNI⟩ : ∃ NI, NI = N.toInt := ⟨_, rfl⟩
  rw [← hNI] at hN1 hN2 ⊢
  obtain ⟨fx, hfx⟩ : ∃ fx, fx = max NI (-1) := ⟨_, rfl⟩
  obtain ⟨jp, hjp⟩ : ∃ jp, jp = J.p := ⟨_, rfl⟩
  obtain ⟨T0, hT0⟩ : ∃ T, T = turn.toInt := ⟨_, rfl⟩
  obtain ⟨u0, hu0⟩ : ∃ x : Int, x = (u : Int) := ⟨_, rfl⟩
  have HQE : Hid (∃ sa n1 sc wa n2 wc fz of, rda R s = #[.slice sa n1 sc, .slice wa n2 wc, .int .i64 fz, .bool of] ∧ rda R { s with fuse := NI } = #[.slice sa n1 sc, .slice wa n2 wc, .int .i64 (max NI (-1)), .bool of]) := ⟨_, _, _, _, _, _, _, _, rfl, rfl⟩
  obtain ⟨sa, n1, sc, wa, n2, wc, fz, of, hQ0, hQ1⟩ := HQE.out
  have HAD : Hid (jp = J.p ∧ T0 = turn.toInt ∧ u0 = (u : Int) ∧ rda R s = #[.slice sa n1 sc, .slice wa n2 wc, .int .i64 fz, .bool of] ∧ rda R { s with fuse := NI } = #[.slice sa n1 sc, .slice wa n2 wc, .int .i64 fx, .bool of] ∧ fx = max NI (-1) ∧ -9223372036854775808 ≤ NI ∧ NI < 9223372036854775808) := ⟨hjp, hT0, hu0, hQ0, by rw [hfx]; exact hQ1, hfx, by omega, by omega⟩
  have HO : Hid (Sy w0 wx px hp J R s turn u out va vn vc i) := o
  clear o hN1 hN2 hNI hfx hjp hT0 hu0 HQE hQ0 hQ1
  go_enter Try.func9, Try.ntmps9
  have HB0 : Hid (Unit → Below wx.heap.size wx (wx.alloc (.cells #[.int .i64 2, .int .i64 NI, tv, kv] 46)) ∧ Box (wx.alloc (.cells #[.int .i64 2, .int .i64 NI, tv, kv] 46)) wx.heap.size 46 #[.int .i64 2, .int .i64 NI, tv, kv] ∧ wx.heap.size ≤ wx.heap.size) := fun _ => ⟨below1 _ _, box_new _ _ _, Nat.le_refl _⟩
  go_wp2_with fail
  obtain ⟨w1, hw1⟩ : ∃ w1, w1 = wx.alloc (.cells #[.int .i64 2, .int .i64 NI, tv, kv] 46) := ⟨_, rfl⟩
  obtain ⟨lb, hlb⟩ : ∃ lb, lb = wx.heap.size := ⟨_, rfl⟩
  rw [← hw1] at HB0 ⊢
  rw [← hlb]
  have HB1 : Hid (Sy w0 w1 px hp J R s turn u out va vn vc i ∧ Box w1 lb 46 #[.int .i64 2, .int .i64 NI, tv, kv] ∧ wx.heap.size ≤ lb) := by
    have h := HB0.out ()
    rw [hlb]
    exact ⟨HO.out.over h.1, h.2.1, Nat.le_refl _⟩
  have HBX : Hid (Box w1 px 43 (sdc hp jp #[.slice sa n1 sc, .slice wa n2 wc, .int .i64 fz, .bool of] T0 (.slice va vn vc) u0)) := by
    have := HB1.out.1.box
    rw [HAD.out.2.2.2.1, ← HAD.out.1, ← HAD.out.2.1, ← HAD.out.2.2.1] at this
    exact this
  have HLP : Hid (lb ≠ px ∧ ¬ J.foot lb) := ⟨fun e => by have := HO.out.box.lt; have := HB1.out.2.2; omega, fun h => by have := HO.out.jnl.lt h; have := HB1.out.2.2; omega⟩
  clear hw1 hlb HB0
  refine wp_region_held_then (fun w' : World => w'.cell? ⟨px, 2, none⟩ = some (.slice sa n1 sc) ∧ w'.cell? ⟨px, 3, none⟩ = some (.slice wa n2 wc) ∧ w'.cell? ⟨px, 4, none⟩ = some (.int .i64 fz) ∧ w'.cell? ⟨px, 5, none⟩ = some (.bool of) ∧ w'.cell? ⟨lb, 1, none⟩ = some (.int .i64 NI)) _ (by kernel_rfl) rfl (by kernel_rfl) ?_
  have HS : Hid (∀ W, Below w1.heap.size w1 W → (fun w' : World => w'.cell? ⟨px, 2, none⟩ = some (.slice sa n1 sc) ∧ w'.cell? ⟨px, 3, none⟩ = some (.slice wa n2 wc) ∧ w'.cell? ⟨px, 4, none⟩ = some (.int .i64 fz) ∧ w'.cell? ⟨px, 5, none⟩ = some (.bool of) ∧ w'.cell? ⟨lb, 1, none⟩ = some (.int .i64 NI)) W) := fun W hW => by
    have b := HBX.out.over hW
    exact ⟨b.cell 2 _ rfl, b.cell 3 _ rfl, b.cell 4 _ rfl, b.cell 5 _ rfl, (HB1.out.2.1.over hW).cell 1 _ rfl⟩
  have hHeld := HS.out w1.drew (Below.refl _ w1).drew
  dsimp only [List.dropLast, List.length, List.getLast]
  ((refine takeL 0 (v := ?_) rfl (by kernel_rfl) (by kernel_rfl) (by kernel_rfl) (fun _ _ _ h => h) (by rfl) hHeld ?_ ?_; rotate_left; focus (intro w hSw; (try dsimp only at hSw); go_simp <;> with_reducible rfl); (try simp only [Act.put, List.setIfInBounds_toArray, List.set_cons_zero, List.set_cons_succ])); (refine takeL 1 (v := ?_) rfl (by kernel_rfl) (by kernel_rfl) (by kernel_rfl) (fun _ _ _ h => h) (by rfl) hHeld ?_ ?_; rotate_left; focus (intro w hSw; (try dsimp only at hSw); go_simp <;> with_reducible rfl); (try simp only [Act.put, List.setIfInBounds_toArray, List.set_cons_zero, List.set_cons_succ])); (refine takeL 2 (v := ?_) rfl (by kernel_rfl) (by kernel_rfl) (by kernel_rfl) (fun _ _ _ h => h) (by rfl) hHeld ?_ ?_; rotate_left; focus (intro w hSw; (try dsimp only at hSw); go_simp <;> with_reducible rfl); (try simp only [Act.put, List.setIfInBounds_toArray, List.set_cons_zero, List.set_cons_succ])); (refine takeL 3 (v := ?_) rfl (by kernel_rfl) (by kernel_rfl) (by kernel_rfl) (fun _ _ _ h => h) (by rfl) hHeld ?_ ?_; rotate_left; focus (intro w hSw; (try dsimp only at hSw); go_simp <;> with_reducible rfl); (try simp only [Act.put, List.setIfInBounds_toArray, List.set_cons_zero, List.set_cons_succ])))
  try dsimp only [Act.put]
  try simp only [List.setIfInBounds_toArray, List.set_cons_zero, List.set_cons_succ]
  ((refine takeL 4 (v := ?_) rfl (by kernel_rfl) (by kernel_rfl) (by kernel_rfl) (fun _ _ _ h => h) (by rfl) hHeld ?_ ?_; rotate_left; focus (intro w hSw; (try dsimp only at hSw); go_simp <;> with_reducible rfl); (try simp only [Act.put, List.setIfInBounds_toArray, List.set_cons_zero, List.set_cons_succ])); (refine takeL 5 (v := ?_) rfl (by kernel_rfl) (by kernel_rfl) (by kernel_rfl) (fun _ _ _ h => h) (by rfl) hHeld ?_ ?_; rotate_left; focus (intro w hSw; (try dsimp only at hSw); go_simp <;> with_reducible rfl); (try simp only [Act.put, List.setIfInBounds_toArray, List.set_cons_zero, List.set_cons_succ])); (refine takeL 6 (v := ?_) rfl (by kernel_rfl) (by kernel_rfl) (by kernel_rfl) (fun _ _ _ h => h) (by rfl) hHeld ?_ ?_; rotate_left; focus (intro w hSw; (try dsimp only at hSw); go_simp <;> with_reducible rfl); (try simp only [Act.put, List.setIfInBounds_toArray, List.set_cons_zero, List.set_cons_succ])))
  try dsimp only [Act.put]
  try simp only [List.setIfInBounds_toArray, List.set_cons_zero, List.set_cons_succ]
  refine callL 7 (f := 21) (vs := #[.agg #[.slice sa n1 sc, .slice wa n2 wc, .int .i64 fz, .bool of], .int .i64 NI]) rfl (by kernel_rfl) (by rfl) (by go_simp) ?_
  refine (rfuse_any sa n1 sc wa n2 wc fz of NI _).mono ?_
  rintro e w2 ⟨rfl, b2⟩
  rw [← HAD.out.2.2.2.2.2.1]
  have b12 := (Below.refl w1.heap.size w1).drew.trans b2
  have hH2 := HS.out w2 b12
  refine ⟨_, rfl, hH2, ?_⟩
  try dsimp only [Act.put]
  try simp only [List.setIfInBounds_toArray, List.set_cons_zero, List.set_cons_succ]
  ((refine takeL 8 (v := ?_) rfl (by kernel_rfl) (by kernel_rfl) (by kernel_rfl) (fun _ _ _ h => h) (by rfl) hH2 ?_ ?_; rotate_left; focus (intro w hSw; (try dsimp only at hSw); go_simp <;> with_reducible rfl); (try simp only [Act.put, List.setIfInBounds_toArray, List.set_cons_zero, List.set_cons_succ])); (refine takeL 9 (v := ?_) rfl (by kernel_rfl) (by kernel_rfl) (by kernel_rfl) (fun _ _ _ h => h) (by rfl) hH2 ?_ ?_; rotate_left; focus (intro w hSw; (try dsimp only at hSw); go_simp <;> with_reducible rfl); (try simp only [Act.put, List.setIfInBounds_toArray, List.set_cons_zero, List.set_cons_succ])))
  try dsimp only [Act.put]
  try simp only [List.setIfInBounds_toArray, List.set_cons_zero, List.set_cons_succ]
  refine doneL (by kernel_rfl) ?_
  try dsimp only [Act.put]
  unfold Oper.wp
  have B2 := HBX.out.over b12
  have L2 := HB1.out.2.1.over b12
  have t2 := B2.cell 2 (.slice sa n1 sc) rfl
  have t3 := B2.cell 3 (.slice wa n2 wc) rfl
  have t4 := B2.cell 4 (.int .i64 fz) rfl
  have t5 := B2.cell 5 (.bool of) rfl
  have y2 := B2.frozen 2
  have y3 := B2.frozen 3
  have y4 := B2.frozen 4
  have y5 := B2.frozen 5
  have K3 := keptq (Kept.refl (fun x => x = px) w2) (z := px) (.inl rfl) (.slice sa n1 sc) (.slice wa n2 wc) (.int .i64 fx) (.bool of)
  have B3 := sd_q (a' := (.slice sa n1 sc)) (b' := (.slice wa n2 wc)) (c' := (.int .i64 fx)) (d' := (.bool of)) B2
  have HM8 : Hid (Unit → M8 w0 ((((w2.setCell ⟨px, 2, none⟩ (.slice sa n1 sc)).setCell ⟨px, 3, none⟩ (.slice wa n2 wc)).setCell ⟨px, 4, none⟩ (.int .i64 fx)).setCell ⟨px, 5, none⟩ (.bool of)) px hp J s turn u out R { s with fuse := NI } u out va vn vc ∧ Box ((((w2.setCell ⟨px, 2, none⟩ (.slice sa n1 sc)).setCell ⟨px, 3, none⟩ (.slice wa n2 wc)).setCell ⟨px, 4, none⟩ (.int .i64 fx)).setCell ⟨px, 5, none⟩ (.bool of)) px 43 (sdc hp jp #[.slice sa n1 sc, .slice wa n2 wc, .int .i64 fx, .bool of] T0 (.slice va vn vc) u0) ∧ Box ((((w2.setCell ⟨px, 2, none⟩ (.slice sa n1 sc)).setCell ⟨px, 3, none⟩ (.slice wa n2 wc)).setCell ⟨px, 4, none⟩ (.int .i64 fx)).setCell ⟨px, 5, none⟩ (.bool of)) lb 46 #[.int .i64 2, .int .i64 NI, tv, kv]) := fun _ => by
    refine ⟨(HB1.out.1.over b12).fused NI K3 ?_, B3, L2.kept K3 HLP.out.1⟩
    rw [HAD.out.2.2.2.2.1, ← HAD.out.1, ← HAD.out.2.1, ← HAD.out.2.2.1]
    exact B3
  clear hHeld hH2 HS b2 b12 B2 L2 K3 B3
  go_simp
  go_wp2_with fail
  obtain ⟨W3, hW3⟩ : ∃ W3, W3 = ((((w2.setCell ⟨px, 2, none⟩ (.slice sa n1 sc)).setCell ⟨px, 3, none⟩ (.slice wa n2 wc)).setCell ⟨px, 4, none⟩ (.int .i64 fx)).setCell ⟨px, 5, none⟩ (.bool of)) := ⟨_, rfl⟩
  rw [← hW3] at HM8 ⊢
  clear hW3 t2 t3 t4 t5 y2 y3 y4 y5
  refine wp_region_held_then (fun w' : World => w'.cell? ⟨px, 0, none⟩ = some (.pointer (some ⟨hp, 0, none⟩)) ∧ w'.cell? ⟨lb, 1, none⟩ = some (.int .i64 NI)) _ (by kernel_rfl) rfl (by kernel_rfl) ?_
  have hHeld : (fun w' : World => w'.cell? ⟨px, 0, none⟩ = some (.pointer (some ⟨hp, 0, none⟩)) ∧ w'.cell? ⟨lb, 1, none⟩ = some (.int .i64 NI)) W3.drew := ⟨((HM8.out ()).2.1.drew).cell 0 _ rfl, ((HM8.out ()).2.2.drew).cell 1 _ rfl⟩
  dsimp only [List.dropLast, List.length, List.getLast]
  ((refine takeL 0 (v := ?_) rfl (by kernel_rfl) (by kernel_rfl) (by kernel_rfl) (fun _ _ _ h => h) (by rfl) hHeld ?_ ?_; rotate_left; focus (intro w hSw; (try dsimp only at hSw); go_simp <;> with_reducible rfl); (try simp only [Act.put, List.setIfInBounds_toArray, List.set_cons_zero, List.set_cons_succ])); (refine takeL 1 (v := ?_) rfl (by kernel_rfl) (by kernel_rfl) (by kernel_rfl) (fun _ _ _ h => h) (by rfl) hHeld ?_ ?_; rotate_left; focus (intro w hSw; (try dsimp only at hSw); go_simp <;> with_reducible rfl); (try simp only [Act.put, List.setIfInBounds_toArray, List.set_cons_zero, List.set_cons_succ])); (refine takeL 2 (v := ?_) rfl (by kernel_rfl) (by kernel_rfl) (by kernel_rfl) (fun _ _ _ h => h) (by rfl) hHeld ?_ ?_; rotate_left; focus (intro w hSw; (try dsimp only at hSw); go_simp <;> with_reducible rfl); (try simp only [Act.put, List.setIfInBounds_toArray, List.set_cons_zero, List.set_cons_succ])); (refine takeL 3 (v := ?_) rfl (by kernel_rfl) (by kernel_rfl) (by kernel_rfl) (fun _ _ _ h => h) (by rfl) hHeld ?_ ?_; rotate_left; focus (intro w hSw; (try dsimp only at hSw); go_simp <;> with_reducible rfl); (try simp only [Act.put, List.setIfInBounds_toArray, List.set_cons_zero, List.set_cons_succ])))
  try dsimp only [Act.put]
  try simp only [List.setIfInBounds_toArray, List.set_cons_zero, List.set_cons_succ]
  ((refine takeL 4 (v := ?_) rfl (by kernel_rfl) (by kernel_rfl) (by kernel_rfl) (fun _ _ _ h => h) (by rfl) hHeld ?_ ?_; rotate_left; focus (intro w hSw; (try dsimp only at hSw); go_simp <;> with_reducible rfl); (try simp only [Act.put, List.setIfInBounds_toArray, List.set_cons_zero, List.set_cons_succ])); (refine takeL 5 (v := ?_) rfl (by kernel_rfl) (by kernel_rfl) (by kernel_rfl) (fun _ _ _ h => h) (by rfl) hHeld ?_ ?_; rotate_left; focus (intro w hSw; (try dsimp only at hSw); go_simp <;> with_reducible rfl); (try simp only [Act.put, List.setIfInBounds_toArray, List.set_cons_zero, List.set_cons_succ])))
  try dsimp only [Act.put]
  try simp only [List.setIfInBounds_toArray, List.set_cons_zero, List.set_cons_succ]
  refine callL 6 (f := 22) (vs := #[.pointer (some ⟨hp, 0, none⟩), .int .i64 NI]) rfl (by kernel_rfl) (by rfl) (by go_simp) ?_
  have cf := fuse_any ((HM8.out ()).1.jnl.dev.below (Below.refl W3.heap.size W3).drew) NI ⟨HAD.out.2.2.2.2.2.2.1, HAD.out.2.2.2.2.2.2.2⟩
  rw [(HM8.out ()).1.hpe] at cf
  refine Calls.mono cf ?_
  rintro e w4 ⟨rfl, D4, T4⟩
  replace T4 : Turned J.H J.H W3 w4 := ((Turned.refl J.H W3).of_below (Below.refl _ W3).drew).trans T4
  obtain ⟨j4, t4⟩ := (HM8.out ()).1.jnl.turned D4 T4
  have hH4 : (fun w' : World => w'.cell? ⟨px, 0, none⟩ = some (.pointer (some ⟨hp, 0, none⟩)) ∧ w'.cell? ⟨lb, 1, none⟩ = some (.int .i64 NI)) w4 := ⟨((HM8.out ()).2.1.kept t4.kept (HB1.out.1.np)).cell 0 _ rfl, ((HM8.out ()).2.2.kept t4.kept HLP.out.2).cell 1 _ rfl⟩
  have HFI : Hid (Unit → ∃ J', Sy w0 w4 px hp J' R { s with fuse := NI } turn u out va vn vc (i + 1)) := fun _ => ⟨_, (HM8.out ()).1.done t4 j4 (HO.out.pu.fuse NI)⟩
  clear D4 T4 j4 t4 cf
  refine ⟨_, rfl, hH4, ?_⟩
  try dsimp only [Act.put]
  try simp only [List.setIfInBounds_toArray, List.set_cons_zero, List.set_cons_succ]
  ((refine takeL 7 (v := ?_) rfl (by kernel_rfl) (by kernel_rfl) (by kernel_rfl) (fun _ _ _ h => h) (by rfl) hH4 ?_ ?_; rotate_left; focus (intro w hSw; (try dsimp only at hSw); go_simp <;> with_reducible rfl); (try simp only [Act.put, List.setIfInBounds_toArray, List.set_cons_zero, List.set_cons_succ])))
  try dsimp only [Act.put]
  try simp only [List.setIfInBounds_toArray, List.set_cons_zero, List.set_cons_succ]
  refine doneL (by kernel_rfl) ?_
  try dsimp only [Act.put]
  unfold Oper.wp
  clear hHeld hH4
  go_simp
  go_wp2_with fail
  go_ret
  obtain ⟨J', h'⟩ := HFI.out ()
  exact ⟨rfl, J', R, _, turn, u, out, va, vn, vc, h'⟩
set_option maxRecDepth 4000 in
set_option maxHeartbeats 8000000 in
theorem does_turn {w0 wx : World} {px hp : Nat} {J : Jh} {R : RH} {s : St} {turn : BitVec 64} {u : Nat} {out : List (List UInt8)} {va : Option Addr} {vn vc i : Nat} (o : Sy w0 wx px hp J R s turn u out va vn vc i) (hi : i ≤ 50) (nv tv : Value) (av : Option Addr) (len cap : Nat) (l : List (BitVec 64)) (hv : ReadsI w0 (.slice av len cap) l) (hll : l.length ≤ maxLen) :
    Calls Try.prog 9 #[.pointer (some ⟨px, 0, none⟩), .agg #[.int .i64 3, nv, tv, .slice av len cap]] wx (DoAns w0 px hp (i + 1)) := by
  obtain ⟨tn, htn⟩ : ∃ tn : BitVec 64, tn.toInt = turn.toInt + 1 := ⟨BitVec.ofInt 64 (turn.toInt + 1), by have h1 := o.pu.t1; have h2 := o.pu.t2; rw [BitVec.toInt_ofInt, Int.bmod_eq_of_le] <;> omega⟩
  obtain ⟨T0, hT0⟩ : ∃ T, T = turn.toInt := ⟨_, rfl⟩
  have HO : Hid (Sy w0 wx px hp J R s turn u out va vn vc i ∧ i ≤ 50 ∧ ReadsI w0 (.slice av len cap) l ∧ l.length ≤ maxLen ∧ tn.toInt = T0 + 1 ∧ T0 = turn.toInt) := ⟨o, hi, hv, hll, by rw [hT0]; exact htn, hT0⟩
  have hTb : 1 ≤ T0 ∧ T0 ≤ 52 := by have h1 := o.pu.t1; have h2 := o.pu.t2; omega
  have hTw : IntKind.i64.wrap (T0 + 1) = T0 + 1 := by rw [IntKind.wrap_i64]; omega
  clear o hi hv hll htn hT0
  go_enter Try.func9, Try.ntmps9
  have HB0 : Hid (Unit → Below wx.heap.size wx (wx.alloc (.cells #[.int .i64 3, nv, tv, .slice av len cap] 46)) ∧ Box (wx.alloc (.cells #[.int .i64 3, nv, tv, .slice av len cap] 46)) wx.heap.size 46 #[.int .i64 3, nv, tv, .slice av len cap]) := fun _ => ⟨below1 _ _, box_new _ _ _⟩
  go_wp2_with fail
  obtain ⟨w1, hw1⟩ : ∃ w1, w1 = wx.alloc (.cells #[.int .i64 3, nv, tv, .slice av len cap] 46) := ⟨_, rfl⟩
  obtain ⟨lb, hlb⟩ : ∃ lb, lb = wx.heap.size := ⟨_, rfl⟩
  rw [← hw1] at HB0 ⊢
  rw [← hlb]
  have HB1 : Hid (Sy w0 w1 px hp J R s turn u out va vn vc i ∧ Box w1 lb 46 #[.int .i64 3, nv, tv, .slice av len cap]) := by
    have h := HB0.out ()
    rw [hlb]
    exact ⟨HO.out.1.over h.1, h.2⟩
  clear hw1 hlb HB0
  have hHeld : (fun w' : World => w'.cell? ⟨px, 8, none⟩ = some (.int .i64 T0) ∧ w'.cell? ⟨lb, 3, none⟩ = some (.slice av len cap)) w1.drew := ⟨by rw [HO.out.2.2.2.2.2]; exact HB1.out.1.box.drew.cell 8 _ rfl, HB1.out.2.drew.cell 3 _ rfl⟩
  refine wp_region_held_two 12 (fun w' : World => w'.cell? ⟨px, 8, none⟩ = some (.int .i64 T0) ∧ w'.cell? ⟨lb, 3, none⟩ = some (.slice av len cap)) _ _ (by kernel_rfl) rfl (by kernel_rfl) rfl (by kernel_rfl) ?_
  dsimp only [List.dropLast, List.length, List.getLast]
  ((refine takeL 0 (v := ?_) rfl (by kernel_rfl) (by kernel_rfl) (by kernel_rfl) (fun _ _ _ h => h) (by rfl) hHeld ?_ ?_; rotate_left; focus (intro w hSw; (try dsimp only at hSw); go_simp <;> with_reducible rfl); (try simp only [Act.put, List.setIfInBounds_toArray, List.set_cons_zero, List.set_cons_succ])); (refine takeL 1 (v := ?_) rfl (by kernel_rfl) (by kernel_rfl) (by kernel_rfl) (fun _ _ _ h => h) (by rfl) hHeld ?_ ?_; rotate_left; focus (intro w hSw; (try dsimp only at hSw); go_simp <;> with_reducible rfl); (try simp only [Act.put, List.setIfInBounds_toArray, List.set_cons_zero, List.set_cons_succ])); (refine takeL 2 (v := ?_) rfl (by kernel_rfl) (by kernel_rfl) (by kernel_rfl) (fun _ _ _ h => h) (by rfl) hHeld ?_ ?_; rotate_left; focus (intro w hSw; (try dsimp only at hSw); go_simp <;> with_reducible rfl); (try simp only [Act.put, List.setIfInBounds_toArray, List.set_cons_zero, List.set_cons_succ])); (refine takeL 3 (v := ?_) rfl (by kernel_rfl) (by kernel_rfl) (by kernel_rfl) (fun _ _ _ h => h) (by rfl) hHeld ?_ ?_; rotate_left; focus (intro w hSw; (try dsimp only at hSw); go_simp <;> with_reducible rfl); (try simp only [Act.put, List.setIfInBounds_toArray, List.set_cons_zero, List.set_cons_succ])))
  try dsimp only [Act.put]
  try simp only [List.setIfInBounds_toArray, List.set_cons_zero, List.set_cons_succ]
  ((refine takeL 4 (v := ?_) rfl (by kernel_rfl) (by kernel_rfl) (by kernel_rfl) (fun _ _ _ h => h) (by rfl) hHeld ?_ ?_; rotate_left; focus (intro w hSw; (try dsimp only at hSw); go_simp <;> with_reducible rfl); (try simp only [Act.put, List.setIfInBounds_toArray, List.set_cons_zero, List.set_cons_succ])); (refine takeL 5 (v := ?_) rfl (by kernel_rfl) (by kernel_rfl) (by kernel_rfl) (fun _ _ _ h => h) (by rfl) hHeld ?_ ?_; rotate_left; focus (intro w hSw; (try dsimp only at hSw); go_simp <;> with_reducible rfl); (try simp only [Act.put, List.setIfInBounds_toArray, List.set_cons_zero, List.set_cons_succ])); (refine takeL 6 (v := ?_) rfl (by kernel_rfl) (by kernel_rfl) (by kernel_rfl) (fun _ _ _ h => h) (by rfl) hHeld ?_ ?_; rotate_left; focus (intro w hSw; (try dsimp only at hSw); go_simp <;> with_reducible rfl); (try simp only [Act.put, List.setIfInBounds_toArray, List.set_cons_zero, List.set_cons_succ])))
  try dsimp only [Act.put]
  try simp only [List.setIfInBounds_toArray, List.set_cons_zero, List.set_cons_succ]
  ((refine takeL 7 (v := ?_) rfl (by kernel_rfl) (by kernel_rfl) (by kernel_rfl) (fun _ _ _ h => h) (by rfl) hHeld ?_ ?_; rotate_left; focus (intro w hSw; (try dsimp only at hSw); go_simp <;> with_reducible rfl); (try simp only [Act.put, List.setIfInBounds_toArray, List.set_cons_zero, List.set_cons_succ])); (refine takeL 8 (v := ?_) rfl (by kernel_rfl) (by kernel_rfl) (by kernel_rfl) (fun _ _ _ h => h) (by rfl) hHeld ?_ ?_; rotate_left; focus (intro w hSw; (try dsimp only at hSw); go_simp <;> with_reducible rfl); (try simp only [Act.put, List.setIfInBounds_toArray, List.set_cons_zero, List.set_cons_succ])))
  try dsimp only [Act.put]
  try simp only [List.setIfInBounds_toArray, List.set_cons_zero, List.set_cons_succ]
  refine doneL (by kernel_rfl) ?_
  try dsimp only [Act.put]
  try simp only [List.setIfInBounds_toArray, List.set_cons_zero, List.set_cons_succ]
  unfold Oper.wp
  clear hHeld
  go_simp
  have cc := crash_side (HB1.out.1.over (Below.refl w1.heap.size w1).drew) (by have := HO.out.2.1; omega) av len cap l HO.out.2.2.1 HO.out.2.2.2.1 tn (by rw [HO.out.2.2.2.2.1]; omega) (by have h1 := HB1.out.1.pu.t2; rw [HO.out.2.2.2.2.1, HO.out.2.2.2.2.2]; omega)
  rw [HO.out.2.2.2.2.1] at cc
  refine Calls.mono cc ?_
  rintro e w2 ⟨rfl, J', R', u', out', va', vn', vc', h'⟩
  have HFI : Hid (Unit → Sy w0 w2 px hp J' R' (s.crashed (among l)) tn u' out' va' vn' vc' (i + 1)) := fun _ => h'
  clear h' cc
  try unfold Then
  try unfold Oper.wp
  go_simp
  go_wp2_with fail
  go_ret
  exact ⟨rfl, J', R', _, tn, u', out', va', vn', vc', HFI.out ()⟩
set_option maxRecDepth 4000 in
set_option maxHeartbeats 8000000 in
theorem does_back {w0 wx : World} {px hp : Nat} {J : Jh} {R : RH} {s : St} {turn : BitVec 64} {u : Nat} {out : List (List UInt8)} {va : Option Addr} {vn vc i : Nat} (o : Sy w0 wx px hp J R s turn u out va vn vc i) (hi : i ≤ 50) (K : BitVec 64) (h1 : (K.toInt == 1) = false) (h2 : (K.toInt == 2) = false) (h3 : (K.toInt == 3) = false) (nv tv : Value) (av : Option Addr) (len cap : Nat) (l : List (BitVec 64)) (hv : ReadsI w0 (.slice av len cap) l) (hll : l.length ≤ maxLen) :
    Calls Try.prog 9 #[.pointer (some ⟨px, 0, none⟩), .agg #[.int .i64 K.toInt, nv, tv, .slice av len cap]] wx (DoAns w0 px hp (i + 1)) := by
  obtain ⟨tn, htn⟩ : ∃ tn : BitVec 64, tn.toInt = turn.toInt := ⟨turn, rfl⟩
  obtain ⟨T0, hT0⟩ : ∃ T, T = turn.toInt := ⟨_, rfl⟩
  have HO : Hid (Sy w0 wx px hp J R s turn u out va vn vc i ∧ i ≤ 50 ∧ ReadsI w0 (.slice av len cap) l ∧ l.length ≤ maxLen ∧ tn.toInt = T0 ∧ T0 = turn.toInt) := ⟨o, hi, hv, hll, by rw [hT0]; exact htn, hT0⟩
  have hTb : 1 ≤ T0 ∧ T0 ≤ 52 := by have h1 := o.pu.t1; have h2 := o.pu.t2; omega
  have hTw : IntKind.i64.wrap (T0 + 1) = T0 + 1 := by rw [IntKind.wrap_i64]; omega
  clear o hi hv hll htn hT0
  obtain ⟨KI, hKI⟩ : ∃ KI, KI = K.toInt := ⟨_, rfl⟩
  rw [← hKI] at h1 h2 h3 ⊢
  clear hKI
  go_enter Try.func9, Try.ntmps9
  have HB0 : Hid (Unit → Below wx.heap.size wx (wx.alloc (.cells #[.int .i64 KI, nv, tv, .slice av len cap] 46)) ∧ Box (wx.alloc (.cells #[.int .i64 KI, nv, tv, .slice av len cap] 46)) wx.heap.size 46 #[.int .i64 KI, nv, tv, .slice av len cap]) := fun _ => ⟨below1 _ _, box_new _ _ _⟩
  go_wp2_with fail
  obtain ⟨w1, hw1⟩ : ∃ w1, w1 = wx.alloc (.cells #[.int .i64 KI, nv, tv, .slice av len cap] 46) := ⟨_, rfl⟩
  obtain ⟨lb, hlb⟩ : ∃ lb, lb = wx.heap.size := ⟨_, rfl⟩
  rw [← hw1] at HB0 ⊢
  rw [← hlb]
  have HB1 : Hid (Sy w0 w1 px hp J R s turn u out va vn vc i ∧ Box w1 lb 46 #[.int .i64 KI, nv, tv, .slice av len cap]) := by
    have h := HB0.out ()
    rw [hlb]
    exact ⟨HO.out.1.over h.1, h.2⟩
  clear hw1 hlb HB0
  have hHeld : (fun w' : World => w'.cell? ⟨px, 8, none⟩ = some (.int .i64 T0) ∧ w'.cell? ⟨lb, 3, none⟩ = some (.slice av len cap)) w1.drew := ⟨by rw [HO.out.2.2.2.2.2]; exact HB1.out.1.box.drew.cell 8 _ rfl, HB1.out.2.drew.cell 3 _ rfl⟩
  refine wp_region_held_two 12 (fun w' : World => w'.cell? ⟨px, 8, none⟩ = some (.int .i64 T0) ∧ w'.cell? ⟨lb, 3, none⟩ = some (.slice av len cap)) _ _ (by kernel_rfl) rfl (by kernel_rfl) rfl (by kernel_rfl) ?_
  dsimp only [List.dropLast, List.length, List.getLast]
  ((refine takeL 0 (v := ?_) rfl (by kernel_rfl) (by kernel_rfl) (by kernel_rfl) (fun _ _ _ h => h) (by rfl) hHeld ?_ ?_; rotate_left; focus (intro w hSw; (try dsimp only at hSw); go_simp <;> with_reducible rfl); (try simp only [Act.put, List.setIfInBounds_toArray, List.set_cons_zero, List.set_cons_succ])); (refine takeL 1 (v := ?_) rfl (by kernel_rfl) (by kernel_rfl) (by kernel_rfl) (fun _ _ _ h => h) (by rfl) hHeld ?_ ?_; rotate_left; focus (intro w hSw; (try dsimp only at hSw); go_simp <;> with_reducible rfl); (try simp only [Act.put, List.setIfInBounds_toArray, List.set_cons_zero, List.set_cons_succ])); (refine takeL 2 (v := ?_) rfl (by kernel_rfl) (by kernel_rfl) (by kernel_rfl) (fun _ _ _ h => h) (by rfl) hHeld ?_ ?_; rotate_left; focus (intro w hSw; (try dsimp only at hSw); go_simp <;> with_reducible rfl); (try simp only [Act.put, List.setIfInBounds_toArray, List.set_cons_zero, List.set_cons_succ])); (refine takeL 3 (v := ?_) rfl (by kernel_rfl) (by kernel_rfl) (by kernel_rfl) (fun _ _ _ h => h) (by rfl) hHeld ?_ ?_; rotate_left; focus (intro w hSw; (try dsimp only at hSw); go_simp <;> with_reducible rfl); (try simp only [Act.put, List.setIfInBounds_toArray, List.set_cons_zero, List.set_cons_succ])))
  try dsimp only [Act.put]
  try simp only [List.setIfInBounds_toArray, List.set_cons_zero, List.set_cons_succ]
  ((refine takeL 4 (v := ?_) rfl (by kernel_rfl) (by kernel_rfl) (by kernel_rfl) (fun _ _ _ h => h) (by rfl) hHeld ?_ ?_; rotate_left; focus (intro w hSw; (try dsimp only at hSw); go_simp <;> with_reducible rfl); (try simp only [Act.put, List.setIfInBounds_toArray, List.set_cons_zero, List.set_cons_succ])); (refine takeL 5 (v := ?_) rfl (by kernel_rfl) (by kernel_rfl) (by kernel_rfl) (fun _ _ _ h => h) (by rfl) hHeld ?_ ?_; rotate_left; focus (intro w hSw; (try dsimp only at hSw); go_simp <;> with_reducible rfl); (try simp only [Act.put, List.setIfInBounds_toArray, List.set_cons_zero, List.set_cons_succ])); (refine takeL 6 (v := ?_) rfl (by kernel_rfl) (by kernel_rfl) (by kernel_rfl) (fun _ _ _ h => h) (by rfl) hHeld ?_ ?_; rotate_left; focus (intro w hSw; (try dsimp only at hSw); go_simp <;> with_reducible rfl); (try simp only [Act.put, List.setIfInBounds_toArray, List.set_cons_zero, List.set_cons_succ])))
  try dsimp only [Act.put]
  try simp only [List.setIfInBounds_toArray, List.set_cons_zero, List.set_cons_succ]
  ((refine takeL 7 (v := ?_) rfl (by kernel_rfl) (by kernel_rfl) (by kernel_rfl) (fun _ _ _ h => h) (by rfl) hHeld ?_ ?_; rotate_left; focus (intro w hSw; (try dsimp only at hSw); go_simp <;> with_reducible rfl); (try simp only [Act.put, List.setIfInBounds_toArray, List.set_cons_zero, List.set_cons_succ])))
  try dsimp only [Act.put]
  try simp only [List.setIfInBounds_toArray, List.set_cons_zero, List.set_cons_succ]
  refine doneL (by kernel_rfl) ?_
  try dsimp only [Act.put]
  try simp only [List.setIfInBounds_toArray, List.set_cons_zero, List.set_cons_succ]
  unfold Oper.wp
  clear hHeld
  go_simp
  have cc := crash_side (HB1.out.1.over (Below.refl w1.heap.size w1).drew) (by have := HO.out.2.1; omega) av len cap l HO.out.2.2.1 HO.out.2.2.2.1 tn (by rw [HO.out.2.2.2.2.1]; omega) (by have h1 := HB1.out.1.pu.t2; rw [HO.out.2.2.2.2.1, HO.out.2.2.2.2.2]; omega)
  rw [HO.out.2.2.2.2.1] at cc
  refine Calls.mono cc ?_
  rintro e w2 ⟨rfl, J', R', u', out', va', vn', vc', h'⟩
  have HFI : Hid (Unit → Sy w0 w2 px hp J' R' (s.crashed (among l)) tn u' out' va' vn' vc' (i + 1)) := fun _ => h'
  clear h' cc
  try unfold Then
  try unfold Oper.wp
  go_simp
  go_wp2_with fail
  go_ret
  exact ⟨rfl, J', R', _, tn, u', out', va', vn', vc', HFI.out ()⟩
end Go.Proofs.Ytgffplfpoopolaa
/-
  Law 23's list of calls that came in: what its cells are; side.does, whatever the call is.
-/
namespace Go.Proofs.Ytgffplfpoopolaa
open Go.RowKit Leb

structure DoAt (w : World) (b o : Nat) (kind n : BitVec 64) (text : ByteArray) (ka : Option Addr) (kn kc : Nat) (l : List (BitVec 64)) : Prop where
  c0 : w.cell? ⟨b, o, none⟩ = some (.int .i64 kind.toInt)
  c1 : w.cell? ⟨b, o + 1, none⟩ = some (.int .i64 n.toInt)
  c2 : w.cell? ⟨b, o + 2, none⟩ = some (.string text)
  c3 : w.cell? ⟨b, o + 3, none⟩ = some (.slice ka kn kc)
  keep : ReadsI w (.slice ka kn kc) l
  few : l.length ≤ maxLen
def DosAre (w : World) (a : Option Addr) (len : Nat) : Prop :=
  len ≤ maxLen ∧ ∀ i, i < len → ∃ b off, a = some ⟨b, off, none⟩ ∧ b < w.heap.size ∧ ∃ kind n text ka kn kc l, DoAt w b (off + i * 4) kind n text ka kn kc l
theorem DoAt.below {w w' : World} {b o : Nat} {kind n : BitVec 64} {text : ByteArray} {ka : Option Addr} {kn kc : Nat} {l : List (BitVec 64)} (h : DoAt w b o kind n text ka kn kc l) (hb : b < w.heap.size) (k : Below w.heap.size w w') : DoAt w' b o kind n text ka kn kc l :=
  ⟨(k.cell (p := ⟨b, o, none⟩) hb).trans h.c0, (k.cell (p := ⟨b, o + 1, none⟩) hb).trans h.c1, (k.cell (p := ⟨b, o + 2, none⟩) hb).trans h.c2, (k.cell (p := ⟨b, o + 3, none⟩) hb).trans h.c3, h.keep.below k, h.few⟩
set_option maxRecDepth 100000 in
theorem dos_of {H : Type} {enc : TypeId × Value → H} {W : World} {base : Nat} {hd : Bool} {fuel : Nat} {a : Option Addr} {len cap : Nat} {x : DataW H × List MemPlace}
    (h : DataW.trod enc Try.prog W base (fun _ => true) hd fuel 22 [.slice a len cap] = some x) : DosAre W a len := by
  rcases Go.Deep.open_slice Try.underlying22 h with ⟨h0, _⟩ | ⟨ad, ln, cp, m, n, D, Pl, hv, _, hl, hm, hmm, _, hx⟩
  · simp at h0
    obtain ⟨rfl, rfl, rfl⟩ := h0
    exact ⟨Nat.zero_le _, fun i hi => by omega⟩
  · simp at hv
    obtain ⟨rfl, rfl, rfl⟩ := hv
    refine ⟨Nat.le_trans hl hm, fun i hi => ?_⟩
    have him : i < m := by rw [hmm]; split <;> omega
    obtain ⟨cs', h1, h2⟩ := hx i him
    have ce : Try.prog.cellsOf 46 = 4 := by kernel_rfl
    rw [ce] at h1
    obtain ⟨_, hlen, hcell⟩ := World.cells?_some h1
    obtain ⟨xs, k, hk, hxy, _, hxl, hf⟩ := DataW.trod_struct Try.underlying46 h2
    match cs', hlen with
    | [v0, v1, v2, v3], _ =>
      have d3 : Try.prog.cellsOf 3 = 1 := by kernel_rfl
      have d9 : Try.prog.cellsOf 9 = 1 := by kernel_rfl
      have d33 : Try.prog.cellsOf 44 = 1 := by kernel_rfl
      have g0 : DataW.trod enc Try.prog W base (fun _ => true) hd k 3 (([v0, v1, v2, v3].drop 0).take (Try.prog.cellsOf 3)) = xs[0]? := hf 0 _ rfl
      rw [d3] at g0
      replace g0 : DataW.trod enc Try.prog W base (fun _ => true) hd k 3 [v0] = xs[0]? := g0
      have g1 : DataW.trod enc Try.prog W base (fun _ => true) hd k 3 (([v0, v1, v2, v3].drop 1).take (Try.prog.cellsOf 3)) = xs[1]? := hf 1 _ rfl
      rw [d3] at g1
      replace g1 : DataW.trod enc Try.prog W base (fun _ => true) hd k 3 [v1] = xs[1]? := g1
      have g3 : DataW.trod enc Try.prog W base (fun _ => true) hd k 9 (([v0, v1, v2, v3].drop 2).take (Try.prog.cellsOf 9)) = xs[2]? := hf 2 _ rfl
      rw [d9] at g3
      replace g3 : DataW.trod enc Try.prog W base (fun _ => true) hd k 9 [v2] = xs[2]? := g3
      have g4 : DataW.trod enc Try.prog W base (fun _ => true) hd k 44 (([v0, v1, v2, v3].drop 3).take (Try.prog.cellsOf 44)) = xs[3]? := hf 3 _ rfl
      rw [d33] at g4
      replace g4 : DataW.trod enc Try.prog W base (fun _ => true) hd k 44 [v3] = xs[3]? := g4
      have hx5 : xs.length = 4 := hxl
      match xs, hx5 with
      | [y0, y1, y2, y3], _ =>
        obtain ⟨kind0, e0, _, w0⟩ := DataW.trod_int Try.underlying3 g0
        obtain ⟨at0, e1, _, w1⟩ := DataW.trod_int Try.underlying3 g1
        obtain ⟨text, e3, _, _⟩ := DataW.trod_string Try.underlying9 g3
        simp only [List.cons.injEq, and_true] at e0 e1 e3
        subst e0 e1 e3
        obtain ⟨kind, rfl⟩ := Wd.word_of kind0 w0
        obtain ⟨at_, rfl⟩ := Wd.word_of at0 w1
        have q0 := hcell 0 (by omega)
        have q1 := hcell 1 (by omega)
        have q2 := hcell 2 (by omega)
        have q3 := hcell 3 (by omega)
        simp only [List.getElem?_cons_zero, List.getElem?_cons_succ, Go.Deep.add_add] at q0 q1 q2 q3
        obtain ⟨b, off, spot⟩ := ad
        have hspot : spot = none := by
          obtain ⟨cs0, h10, _⟩ := hx 0 (by omega)
          rw [ce] at h10
          obtain ⟨_, hlen0, hcell0⟩ := World.cells?_some h10
          have q := hcell0 0 (by omega)
          rw [List.getElem?_eq_getElem (by omega)] at q
          have := World.cell?_spot q
          simpa [Addr.add] using this
        subst hspot
        have hadd : ∀ t : Nat, (⟨b, off, none⟩ : Addr).add t = ⟨b, off + t, none⟩ := fun t => by unfold Addr.add; split <;> simp_all
        rw [hadd] at q0 q1 q2 q3
        have hbw : b < W.heap.size := World.block_lt_of_cell? W _ q0
        refine ⟨b, off, rfl, hbw, ?_⟩
        have mk : ∀ ka kn kc l, v3 = .slice ka kn kc → ReadsI W (.slice ka kn kc) l → l.length ≤ maxLen → ∃ kind at_ text ka kn kc l, DoAt W b (off + i * 4) kind at_ text ka kn kc l := by
          intro ka kn kc l hv4 hr hl'
          subst hv4
          exact ⟨kind, at_, text, ka, kn, kc, l, by simpa using q0, by simpa [Nat.add_assoc] using q1, by simpa [Nat.add_assoc] using q2, by simpa [Nat.add_assoc] using q3, hr, hl'⟩
        rcases Go.ChangeShapes.open_ints Try.underlying44 Try.underlying3 d3 g4 with ⟨h4, _⟩ | ⟨ad4, l4, c4, zs, h4, _, hl4, hm4, hz, _, hcl, hwz⟩
        · simp only [List.cons.injEq, and_true] at h4
          exact mk none 0 0 [] h4 (.inl ⟨rfl, _, _, rfl⟩) (by simp)
        · simp only [List.cons.injEq, and_true] at h4
          obtain ⟨l, hll, hr⟩ := reads_of_row (w := W) (a := some ad4) (len := l4) (cap := c4) (zs := zs) (.inr ⟨ad4, rfl, hl4, hm4, by simpa using hz, hcl, hwz⟩)
          exact mk (some ad4) l4 c4 l h4 hr (by rw [hll]; exact Nat.le_trans hl4 hm4)
/-- does, whatever the call is. -/
theorem sdoes_any {w0 wx : World} {px hp : Nat} {J : Jh} {R : RH} {s : St} {turn : BitVec 64} {u : Nat} {out : List (List UInt8)} {va : Option Addr} {vn vc i : Nat} (o : Sy w0 wx px hp J R s turn u out va vn vc i) (hi : i ≤ 50) (K N : BitVec 64) (text : ByteArray) (av : Option Addr) (len cap : Nat) (l : List (BitVec 64)) (hv : ReadsI w0 (.slice av len cap) l) (hll : l.length ≤ maxLen) :
    Calls Try.prog 9 #[.pointer (some ⟨px, 0, none⟩), .agg #[.int .i64 K.toInt, .int .i64 N.toInt, .string text, .slice av len cap]] wx (DoAns w0 px hp (i + 1)) := by
  by_cases h1 : K.toInt = 1
  · rw [h1]
    have := does_add o (by omega) N text.data.toList (.slice av len cap)
    rw [strB_of] at this
    exact this
  · by_cases h2 : K.toInt = 2
    · rw [h2]
      exact does_fuse o N _ _
    · by_cases h3 : K.toInt = 3
      · rw [h3]
        exact does_turn o hi _ _ av len cap l hv hll
      · exact does_back o hi K (by simpa using h1) (by simpa using h2) (by simpa using h3) _ _ av len cap l hv hll
end Go.Proofs.Ytgffplfpoopolaa
/-
  Law JournalPlays: what stays at its beginning; a region whose condition grows on the way.
-/
namespace Go.Proofs.Ytgffplfpoopolaa
open Go.RowKit Leb

section
variable {P : Program} {md : Region.Mode} {ops : Array Oper} {Q : Exit → Act → World → Prop} {S S' : World → Prop}
theorem wpAnyH_mono (hS : ∀ w, S' w → S w) : ∀ (fuel : Nat) (listed : Array Bool) (a : Act) (w : World), wpAnyH P md ops Q S' fuel listed a w → wpAnyH P md ops Q S fuel listed a w
  | 0, _, _, _, h => h
  | fuel + 1, _, _, _, h => ⟨h.1, fun i hi => wpOp_mono (fun a' w' h' => ⟨hS _ h'.1, wpAnyH_mono hS fuel _ a' w' h'.2⟩) (h.2 i hi)⟩
theorem wp_region_heldW {id : Nat} {a : Act} {w : World} {L : List Oper} (n : Nat) (S : World → Prop) (z : Oper) (hm : P.follows .mixedOrders = true) (hL : L.getLast? = some z) (hB : lastW n L = true)
    (h : wpAnyH P .any L.dropLast.toArray (Then P z Q) S L.dropLast.length (Array.replicate L.dropLast.length false) a w.drew) : (Code.region id L.toArray true).wp P Q a w := by
  refine wp_region_any hm ?_
  have := wpAny_then (n := n) z hL hB (wpAny_of_held _ _ _ _ h)
  simpa using this
end
theorem begin2 {w : World} {H : Hnd} (D : DevIs w H (St.new 50)) (turn : BitVec 64) (h1 : 1 ≤ turn.toInt) (h2 : turn.toInt ≤ 4294967296) :
    Calls Try.prog 6 #[.pointer (some ⟨H.p, 0, none⟩), .agg #[.int .i64 3, .int .i64 40], .int .i64 turn.toInt] w fun e w' => (∃ p, e = .returned (.tuple #[.pointer (some ⟨p, 0, none⟩), .int .i64 0]) ∧ w.heap.size ≤ p ∧ Jnl w' ⟨H, p, .slice none 0 0⟩ (St.new 50) 3 40 turn 0 []) ∧ Below w.heap.size w w' := by
  have hl : (St.new 50).sure.length = 50 := rfl
  refine Calls.mono (jbegin_yes (some ⟨H.p, 0, none⟩) 50 (by omega) 3 40 turn.toInt (by omega) w (by have := D.up; rw [hl] at this; exact this) (may_at h1 h2)) ?_
  rintro e w' ⟨⟨p, he, hb, hp⟩, hbel⟩
  have hno : ¬ H.foot p := fun h => by have := D.lt h; omega
  refine ⟨⟨p, he, hp, ⟨D.below hbel, hb, ownsS_nil _ _, hno, ?_⟩⟩, hbel⟩
  intro k hk; simp [Value.ownBlock] at hk
theorem sy_new {w w1 w2 W : World} {H : Hnd} {p : Nat} {va : Option Addr} {vc : Nat} (D : DevIs w1 H (St.new 50)) (hF : ∀ k, H.foot k → w.heap.size ≤ k) (hs : SRows w2 (.slice va 50 vc) 9 1 ((List.replicate 50 (List.replicate 128 (0 : UInt8))).map s1)) (hf : ∀ x, (Value.slice va 50 vc).ownBlock = some x → w1.heap.size ≤ x) (b1 : Below w.heap.size w w1) (b2 : Below w2.heap.size w2 W) (b12 : w1.heap.size ≤ w2.heap.size) (hp : w2.heap.size ≤ p) (hj : Jnl W ⟨H, p, .slice none 0 0⟩ (St.new 50) 3 40 1#64 0 []) (bw : Below w.heap.size w W) :
    Sy w (W.alloc (.cells #[.pointer (some ⟨H.p, 0, none⟩), .pointer (some ⟨p, 0, none⟩), .slice va 50 vc, .slice none 0 0, .int .i64 (-1), .bool false, .int .i64 3, .int .i64 40, .int .i64 1, .slice none 0 0, .int .i64 0] 43)) W.heap.size H.p ⟨H, p, .slice none 0 0⟩ ⟨va, vc, none, 0⟩ (St.new 50) 1#64 0 [] none 0 0 0 := by
  have bl := below1 W (.cells #[.pointer (some ⟨H.p, 0, none⟩), .pointer (some ⟨p, 0, none⟩), .slice va 50 vc, .slice none 0 0, .int .i64 (-1), .bool false, .int .i64 3, .int .i64 40, .int .i64 1, .slice none 0 0, .int .i64 0] 43)
  have hsz := bw.size
  have hb2 := b2.size
  have hb1 := b1.size
  refine ⟨hj.over bl, rfl, box_new _ _ _, ⟨?_, srows_nil _ _ _, fun x hx h => ?_, fun x hx => by simp [Value.ownBlock] at hx⟩, srows_nil _ _ _, fun x hx => by simp [Value.ownBlock] at hx, fun h => ?_, fun x hx => ?_, hsz, bw.trans (bl.mono hsz), rfl, ?_⟩
  · have := (hs.over b2).over bl
    simpa [St.new] using this
  · have hx' : (Value.slice va 50 vc).ownBlock = some x := by simpa [St.new] using hx
    have h3 := hf x hx'
    have h4 := hs.lt hx'
    rcases h with (h | h | h) | h
    · have := D.lt h; omega
    · have h : x = p := h
      omega
    · simp [Value.ownBlock] at h
    · omega
  · have := hj.lt h; omega
  · rcases hx with h | h | h
    · exact hF x h
    · have h : x = p := h
      omega
    · simp [Value.ownBlock] at h
  · refine ⟨rfl, fun b hb => ?_, fun x hx => by simp [St.new] at hx, by decide, by decide, by simp [St.new], by omega, by simp⟩
    have hb : b = List.replicate 128 (0 : UInt8) := by
      simp only [St.new] at hb
      exact List.eq_of_mem_replicate hb
    rw [hb]
    exact okB_zeros
theorem srows_texts {w : World} {a : Option Addr} {n c : Nat} {out : List (List UInt8)} (h : SRows w (.slice a n c) 9 1 (out.map s1)) (hn : n = out.length) : ReadsS w (.slice a n c) (bks out) := by
  by_cases h0 : out = []
  · subst h0
    exact .inl ⟨rfl, a, c, by rw [hn]; rfl⟩
  · have hlt : 0 < out.length := List.length_pos_iff.2 h0
    obtain ⟨g, ha, _, _⟩ := h.at_ (i := 0) (r := s1 (out[0]'hlt)) (by rw [List.getElem?_map, List.getElem?_eq_getElem hlt]; rfl)
    refine .inr ⟨g, 0, c, by rw [ha, hn]; simp [bks], by simpa [bks] using h0, h.lt (by rw [ha]; rfl), fun i t hi => ?_⟩
    simp only [bks, List.getElem?_map, Option.map_eq_some_iff] at hi
    obtain ⟨b, hb, rfl⟩ := hi
    obtain ⟨g2, ha2, _, hr⟩ := h.at_ (i := i) (r := s1 b) (by simp [hb])
    rw [ha] at ha2
    cases ha2
    have := range_at hr 0 (.string (strB b)) rfl
    simpa using this
/-- Both devices read alike. -/
theorem sy_read {w0 wx : World} {px hp : Nat} {J : Jh} {R : RH} {s : St} {turn : BitVec 64} {u : Nat} {out : List (List UInt8)} {va : Option Addr} {vn vc i : Nat} (o : Sy w0 wx px hp J R s turn u out va vn vc i) (hi : i ≤ 100) (k : Nat) (hk : k < 50) :
    ∃ (b : ByteArray) (e : Int), Calls Try.prog 13 #[.pointer (some ⟨hp, 0, none⟩), .int .i64 k] wx (fun x w' => x = .returned (.tuple #[.string b, .int .i64 e]) ∧ w' = wx) ∧
      Calls Try.prog 14 #[.agg (rda R s), .int .i64 k] wx (fun x w' => x = .returned (.tuple #[.string b, .int .i64 e]) ∧ Below wx.heap.size wx w') := by
  have hn := o.pu.n50
  have hw := o.pu.wl
  cases ho : s.off with
  | true =>
    refine ⟨{ data := #[] }, 40, ?_, ?_⟩
    · have := read_off o.jnl.dev k (by omega) ho
      rw [o.hpe] at this
      exact this
    · have := rread_off R.sa s.sure.length R.sc R.wa s.wait.length R.wc s.fz k wx (by omega)
      rw [rda, ho]
      exact this
  | false =>
    have hlt : k < (lay s.sure s.wait).length := by rw [lay_len]; omega
    refine ⟨strB ((lay s.sure s.wait)[k]'hlt), 0, ?_, ?_⟩
    · have := read_on o.jnl.dev k _ (List.getElem?_eq_getElem hlt) ho
      rw [o.hpe] at this
      exact this
    · have := rread_on o.ref.sure o.ref.wait (by omega) s.fz k _ (List.getElem?_eq_getElem hlt)
      rw [rda, ho]
      exact this
end Go.Proofs.Ytgffplfpoopolaa
/-
  The walk of law JournalPlays: it answers true, whatever is added, and whenever it crashes.
-/
namespace Go.Proofs.Ytgffplfpoopolaa
open Go.RowKit Leb

set_option maxRecDepth 4000 in
set_option maxHeartbeats 8000000 in
theorem walkJournalPlays (a0 : Option Addr) (len0 cap0 : Nat) (w : World) (h0 : DosAre w a0 len0) :
    Calls Try.prog 3 #[.slice a0 len0 cap0] w fun e w' => e = .returned (.bool true) ∧ Below w.heap.size w w' := by
  have H0 : Hid (DosAre w a0 len0) := h0
  obtain ⟨M, hM1, hM2, hM3⟩ : ∃ M, M ≤ len0 ∧ M ≤ 24 ∧ (len0 ≤ M ∨ 24 ≤ M) := ⟨min len0 24, by omega, by omega, by omega⟩
  have hlI : (len0 : Int) ≤ 9223372036854775807 := by have := h0.1; unfold maxLen at this; omega
  clear h0
  have cnew := new_any 50 (by omega) (by omega) w
  go_enter Try.func3, Try.ntmps3
  go_wp2_with fail
  refine cnew.mono ?_
  rintro e w1 ⟨H, rfl, D1, b1, hF⟩
  obtain ⟨hp, hhp⟩ : ∃ hp, hp = H.p := ⟨_, rfl⟩
  have HD : Hid (DevIs w1 H (St.new 50) ∧ Below w.heap.size w w1 ∧ (∀ k, H.foot k → w.heap.size ≤ k) ∧ hp = H.p) := ⟨D1, b1, hF, hhp⟩
  rw [← hhp]
  clear D1 b1 hF cnew hhp
  go_wp2_with fail
  refine (rnew_any 50 (by omega) (by omega) _).mono ?_
  rintro e w2 ⟨⟨va, vc, rfl, hs2, hf2⟩, b2⟩
  have HR : Hid (SRows w2 (.slice va 50 vc) 9 1 ((List.replicate 50 (List.replicate 128 (0 : UInt8))).map s1) ∧ (∀ x, (Value.slice va 50 vc).ownBlock = some x → w1.heap.size ≤ x) ∧ Below w1.heap.size w1 w2) := ⟨hs2, hf2, b2⟩
  clear hs2 hf2 b2
  obtain ⟨b8, hb8⟩ : ∃ b8, b8 = w2.heap.size := ⟨_, rfl⟩
  obtain ⟨W3, hW3⟩ : ∃ W3, W3 = w2.alloc (.cells (rd va 50 vc none 0 0 (-1) false) 30) := ⟨_, rfl⟩
  have H3 : Hid (W3 = w2.alloc (.cells (rd va 50 vc none 0 0 (-1) false) 30) ∧ b8 = w2.heap.size) := ⟨hW3, hb8⟩
  have HX3 : Hid (Box W3 b8 30 #[.slice va 50 vc, .slice none 0 0, .int .i64 (-1), .bool false] ∧ Below w2.heap.size w2 W3) := by
    rw [hW3, hb8]
    exact ⟨box_new _ _ _, below1 _ _⟩
  clear hW3 hb8
  go_wp2_with fail
  refine (lat_any _).mono ?_
  rintro e w4 ⟨rfl, b4⟩
  have HB4 : Hid (Below W3.heap.size W3 w4) := by
    rw [H3.out.1]
    exact b4
  clear b4
  go_wp2_with fail
  have D4 : DevIs w4 H (St.new 50) := (HD.out.1.below (HR.out.2.2.trans (HX3.out.2.mono HR.out.2.2.size))).below HB4.out
  have cb := begin2 D4 1#64 (by decide) (by decide)
  rw [← HD.out.2.2.2] at cb
  refine Calls.mono cb ?_
  rintro e w5 ⟨⟨p, rfl, hp5, j5⟩, b5⟩
  have HJ : Hid (Jnl w5 ⟨H, p, .slice none 0 0⟩ (St.new 50) 3 40 1#64 0 [] ∧ w4.heap.size ≤ p ∧ Below w4.heap.size w4 w5) := ⟨j5, hp5, b5⟩
  clear j5 hp5 b5 cb D4
  go_wp2_with fail
  have HX5 : Hid (Box w5 b8 30 #[.slice va 50 vc, .slice none 0 0, .int .i64 (-1), .bool false]) := (HX3.out.1.over HB4.out).over HJ.out.2.2
  have HS : Hid (∀ W, Below w5.heap.size w5 W → (fun w' : World => w'.cell? ⟨b8, 0, none⟩ = some (.slice va 50 vc) ∧ w'.cell? ⟨b8, 1, none⟩ = some (.slice none 0 0) ∧ w'.cell? ⟨b8, 2, none⟩ = some (.int .i64 (-1)) ∧ w'.cell? ⟨b8, 3, none⟩ = some (.bool false)) W) := fun W hW => by
    have b := HX5.out.over hW
    exact ⟨b.cell 0 _ rfl, b.cell 1 _ rfl, b.cell 2 _ rfl, b.cell 3 _ rfl⟩
  have hHeld := HS.out w5.drew (Below.refl _ w5).drew
  rw [← H3.out.2]
  refine wp_region_held_then (fun w' : World => w'.cell? ⟨b8, 0, none⟩ = some (.slice va 50 vc) ∧ w'.cell? ⟨b8, 1, none⟩ = some (.slice none 0 0) ∧ w'.cell? ⟨b8, 2, none⟩ = some (.int .i64 (-1)) ∧ w'.cell? ⟨b8, 3, none⟩ = some (.bool false)) _ (by kernel_rfl) rfl (by kernel_rfl) ?_
  dsimp only [List.dropLast, List.length, List.getLast]
  ((refine takeL 0 (v := ?_) rfl (by kernel_rfl) (by kernel_rfl) (by kernel_rfl) (fun _ _ _ h => h) (by rfl) hHeld ?_ ?_; rotate_left; focus (intro w hSw; (try dsimp only at hSw); go_simp <;> with_reducible rfl); (try simp only [Act.put, List.setIfInBounds_toArray, List.set_cons_zero, List.set_cons_succ])); (refine takeL 1 (v := ?_) rfl (by kernel_rfl) (by kernel_rfl) (by kernel_rfl) (fun _ _ _ h => h) (by rfl) hHeld ?_ ?_; rotate_left; focus (intro w hSw; (try dsimp only at hSw); go_simp <;> with_reducible rfl); (try simp only [Act.put, List.setIfInBounds_toArray, List.set_cons_zero, List.set_cons_succ])); (refine takeL 2 (v := ?_) rfl (by kernel_rfl) (by kernel_rfl) (by kernel_rfl) (fun _ _ _ h => h) (by rfl) hHeld ?_ ?_; rotate_left; focus (intro w hSw; (try dsimp only at hSw); go_simp <;> with_reducible rfl); (try simp only [Act.put, List.setIfInBounds_toArray, List.set_cons_zero, List.set_cons_succ])))
  try dsimp only [Act.put]
  try simp only [List.setIfInBounds_toArray, List.set_cons_zero, List.set_cons_succ]
  refine callL 3 (f := 7) (vs := #[]) rfl (by kernel_rfl) (by rfl) (by go_simp) ?_
  refine (lat_any _).mono ?_
  rintro e w6 ⟨rfl, b6⟩
  have b56 := (Below.refl w5.heap.size w5).drew.trans b6
  have hH6 := HS.out w6 b56
  refine ⟨_, rfl, hH6, ?_⟩
  try dsimp only [Act.put]
  try simp only [List.setIfInBounds_toArray, List.set_cons_zero, List.set_cons_succ]
  ((refine takeL 4 (v := ?_) rfl (by kernel_rfl) (by kernel_rfl) (by kernel_rfl) (fun _ _ _ h => h) (by rfl) hH6 ?_ ?_; rotate_left; focus (intro w hSw; (try dsimp only at hSw); go_simp <;> with_reducible rfl); (try simp only [Act.put, List.setIfInBounds_toArray, List.set_cons_zero, List.set_cons_succ])); (refine takeL 5 (v := ?_) rfl (by kernel_rfl) (by kernel_rfl) (by kernel_rfl) (fun _ _ _ h => h) (by rfl) hH6 ?_ ?_; rotate_left; focus (intro w hSw; (try dsimp only at hSw); go_simp <;> with_reducible rfl); (try simp only [Act.put, List.setIfInBounds_toArray, List.set_cons_zero, List.set_cons_succ])))
  try dsimp only [Act.put]
  try simp only [List.setIfInBounds_toArray, List.set_cons_zero, List.set_cons_succ]
  have bl := b56.alloc b56.size (.cells #[.pointer (some ⟨hp, 0, none⟩), .pointer (some ⟨p, 0, none⟩), .slice va 50 vc, .slice none 0 0, .int .i64 (-1), .bool false, .int .i64 3, .int .i64 40, .int .i64 1, .slice none 0 0, .int .i64 0] 43)
  refine newL 6 (w6.alloc (.cells #[.pointer (some ⟨hp, 0, none⟩), .pointer (some ⟨p, 0, none⟩), .slice va 50 vc, .slice none 0 0, .int .i64 (-1), .bool false, .int .i64 3, .int .i64 40, .int .i64 1, .slice none 0 0, .int .i64 0] 43)) (.pointer (some ⟨w6.heap.size, 0, none⟩)) rfl (by kernel_rfl) (by rfl) (by go_simp) (HS.out _ bl) ?_
  try dsimp only [Act.put]
  try simp only [List.setIfInBounds_toArray, List.set_cons_zero, List.set_cons_succ]
  refine doneL (by kernel_rfl) ?_
  try dsimp only [Act.put]
  try simp only [List.setIfInBounds_toArray, List.set_cons_zero, List.set_cons_succ]
  unfold Oper.wp
  have HSY : Hid (Unit → Sy w (w6.alloc (.cells #[.pointer (some ⟨hp, 0, none⟩), .pointer (some ⟨p, 0, none⟩), .slice va 50 vc, .slice none 0 0, .int .i64 (-1), .bool false, .int .i64 3, .int .i64 40, .int .i64 1, .slice none 0 0, .int .i64 0] 43)) w6.heap.size hp ⟨H, p, .slice none 0 0⟩ ⟨va, vc, none, 0⟩ (St.new 50) 1#64 0 [] none 0 0 0) := fun _ => by
    have d := HD.out
    have r := HR.out
    have j := HJ.out
    have b3 := HX3.out.2
    have b24 := b3.trans (HB4.out.mono b3.size)
    have b25 := b24.trans (j.2.2.mono b24.size)
    have b26 := b25.trans (b56.mono b25.size)
    have bw2 := d.2.1.trans (r.2.2.mono d.2.1.size)
    have bw := bw2.trans (b26.mono bw2.size)
    have h := sy_new d.1 d.2.2.1 r.1 r.2.1 d.2.1 b26 r.2.2.size (by have := b24.size; have := j.2.1; omega) (j.1.over b56) bw
    rw [← d.2.2.2] at h
    exact h
  clear hHeld hH6 HS bl b56 b6
  obtain ⟨px, hpx⟩ : ∃ px, px = w6.heap.size := ⟨_, rfl⟩
  obtain ⟨W7, hW7⟩ : ∃ W7, W7 = w6.alloc (.cells #[.pointer (some ⟨hp, 0, none⟩), .pointer (some ⟨p, 0, none⟩), .slice va 50 vc, .slice none 0 0, .int .i64 (-1), .bool false, .int .i64 3, .int .i64 40, .int .i64 1, .slice none 0 0, .int .i64 0] 43) := ⟨_, rfl⟩
  rw [← hW7, ← hpx] at HSY
  rw [← hW7, ← hpx]
  clear hW7 hpx HX5 HJ HB4 H3 HX3 HR HD
  go_simp
  go_wp2_with fail
  go_loopg [10] M (fun g s10 wx => ∃ (i : Nat) (J : Jh) (R : RH) (s : St) (turn : BitVec 64) (u : Nat) (out : List (List UInt8)) (va : Option Addr) (vn vc : Nat), i + g = M ∧ s10 = .int .i64 i ∧ Sy w wx px hp J R s turn u out va vn vc i)
  case atStart => exact ⟨0, _, _, _, _, _, _, _, _, _, by omega, rfl, HSY.out ()⟩
  case round =>
    obtain ⟨i, J, R, s, turn, u, out, va1, vn1, vc1, hig, rfl, hsy⟩ := hrel
    have HO : Hid (Sy w wr px hp J R s turn u out va1 vn1 vc1 i) := hsy
    clear hsy HSY
    by_cases hi : i < M
    · have hiI : (i : Int) < (len0 : Int) := by omega
      have hi5 : (i : Int) < 24 := by omega
      obtain ⟨b, off, rfl, hbw, kind, n, text, ka, kn, kc, l, hact⟩ := H0.out.2 i (by omega)
      obtain ⟨KI, hKI⟩ : ∃ x, x = kind.toInt := ⟨_, rfl⟩
      obtain ⟨NI, hNI⟩ : ∃ x, x = n.toInt := ⟨_, rfl⟩
      have HACT : Hid (DoAt w b (off + i * 4) kind n text ka kn kc l ∧ b < w.heap.size ∧ KI = kind.toInt ∧ NI = n.toInt ∧ i ≤ 50) := ⟨hact, hbw, hKI, hNI, by omega⟩
      have HS : Hid (∀ W, Below w.heap.size w W → (fun w' : World => w'.cell? ⟨b, off + i * 4, none⟩ = some (.int .i64 KI) ∧ w'.cell? ⟨b, off + i * 4 + 1, none⟩ = some (.int .i64 NI) ∧ w'.cell? ⟨b, off + i * 4 + 2, none⟩ = some (.string text) ∧ w'.cell? ⟨b, off + i * 4 + 3, none⟩ = some (.slice ka kn kc)) W) := fun W hW => by
        have A := hact.below hbw hW
        rw [hKI, hNI]
        exact ⟨A.c0, A.c1, A.c2, A.c3⟩
      clear hact hbw hKI hNI
      have g2 := (HS.out wr HO.out.bel).2.2.1
      have hr2 : IntKind.i64.wrap ((i : Int) + 1) = (i : Int) + 1 := by rw [IntKind.wrap_i64]; omega
      by_cases h200 : 512 < text.size
      · have h200I : (512 : Int) < (text.size : Int) := by omega
        go_wp2_with fail
        refine (awake23 _).mono ?_
        rintro e w8 ⟨rfl, b8'⟩
        go_wp2
        go_ret
        exact ⟨rfl, HO.out.bel.trans (b8'.mono HO.out.bel.size)⟩
      · have h200I : ¬ (512 : Int) < (text.size : Int) := by omega
        go_wp2_with fail
        clear g2
        refine wp_region_heldW 40 (fun w' : World => w'.cell? ⟨b, off + i * 4, none⟩ = some (.int .i64 KI) ∧ w'.cell? ⟨b, off + i * 4 + 1, none⟩ = some (.int .i64 NI) ∧ w'.cell? ⟨b, off + i * 4 + 2, none⟩ = some (.string text) ∧ w'.cell? ⟨b, off + i * 4 + 3, none⟩ = some (.slice ka kn kc)) _ (by kernel_rfl) rfl (by kernel_rfl) ?_
        have bD : Below w.heap.size w wr.drew := HO.out.bel.drew
        have hHeld := HS.out _ bD
        dsimp only [List.dropLast, List.length, List.getLast]
        ((refine takeL 0 (v := ?_) rfl (by kernel_rfl) (by kernel_rfl) (by kernel_rfl) (fun _ _ _ h => h) (by rfl) hHeld ?_ ?_; rotate_left; focus (intro w hSw; (try dsimp only at hSw); go_simp <;> with_reducible rfl); (try simp only [Act.put, List.setIfInBounds_toArray, List.set_cons_zero, List.set_cons_succ])); (refine takeL 1 (v := ?_) rfl (by kernel_rfl) (by kernel_rfl) (by kernel_rfl) (fun _ _ _ h => h) (by rfl) hHeld ?_ ?_; rotate_left; focus (intro w hSw; (try dsimp only at hSw); go_simp <;> with_reducible rfl); (try simp only [Act.put, List.setIfInBounds_toArray, List.set_cons_zero, List.set_cons_succ])); (refine takeL 2 (v := ?_) rfl (by kernel_rfl) (by kernel_rfl) (by kernel_rfl) (fun _ _ _ h => h) (by rfl) hHeld ?_ ?_; rotate_left; focus (intro w hSw; (try dsimp only at hSw); go_simp <;> with_reducible rfl); (try simp only [Act.put, List.setIfInBounds_toArray, List.set_cons_zero, List.set_cons_succ])))
        try dsimp only [Act.put]
        try simp only [List.setIfInBounds_toArray, List.set_cons_zero, List.set_cons_succ]
        ((refine takeL 3 (v := ?_) rfl (by kernel_rfl) (by kernel_rfl) (by kernel_rfl) (fun _ _ _ h => h) (by rfl) hHeld ?_ ?_; rotate_left; focus (intro w hSw; (try dsimp only at hSw); go_simp <;> with_reducible rfl); (try simp only [Act.put, List.setIfInBounds_toArray, List.set_cons_zero, List.set_cons_succ])); (refine takeL 4 (v := ?_) rfl (by kernel_rfl) (by kernel_rfl) (by kernel_rfl) (fun _ _ _ h => h) (by rfl) hHeld ?_ ?_; rotate_left; focus (intro w hSw; (try dsimp only at hSw); go_simp <;> with_reducible rfl); (try simp only [Act.put, List.setIfInBounds_toArray, List.set_cons_zero, List.set_cons_succ])))
        try dsimp only [Act.put]
        try simp only [List.setIfInBounds_toArray, List.set_cons_zero, List.set_cons_succ]
        refine callL 5 (f := 9) (vs := #[.pointer (some ⟨px, 0, none⟩), .agg #[.int .i64 KI, .int .i64 NI, .string text, .slice ka kn kc]]) rfl (by kernel_rfl) (by rfl) (by go_simp) ?_
        have cd := sdoes_any (HO.out.over (Below.refl wr.heap.size wr).drew) HACT.out.2.2.2.2 kind n text ka kn kc l HACT.out.1.keep HACT.out.1.few
        rw [← HACT.out.2.2.1, ← HACT.out.2.2.2.1] at cd
        refine Calls.mono cd ?_
        rintro e w8 ⟨rfl, J2, R2, s2, turn2, ux, out2, va2, vn2, vc2, o8⟩
        obtain ⟨jp, hjp⟩ : ∃ x, x = J2.p := ⟨_, rfl⟩
        obtain ⟨u2, hu2⟩ : ∃ x : Int, x = (ux : Int) := ⟨_, rfl⟩
        have HO8 : Hid (Sy w w8 px hp J2 R2 s2 turn2 ux out2 va2 vn2 vc2 (i + 1) ∧ jp = J2.p ∧ u2 = (ux : Int)) := ⟨o8, hjp, hu2⟩
        clear o8 hjp hu2 cd
        have hub : 0 ≤ u2 ∧ u2 ≤ 40 := by have := HO8.out.1.pu.ul; have := HO8.out.2.2; omega
        have HS1 : Hid (∀ W, Below w8.heap.size w8 W → (fun w' : World => (w'.cell? ⟨b, off + i * 4, none⟩ = some (.int .i64 KI) ∧ w'.cell? ⟨b, off + i * 4 + 1, none⟩ = some (.int .i64 NI) ∧ w'.cell? ⟨b, off + i * 4 + 2, none⟩ = some (.string text) ∧ w'.cell? ⟨b, off + i * 4 + 3, none⟩ = some (.slice ka kn kc)) ∧ w'.cell? ⟨px, 1, none⟩ = some (.pointer (some ⟨jp, 0, none⟩)) ∧ w'.cell? ⟨px, 9, none⟩ = some (.slice va2 vn2 vc2) ∧ w'.cell? ⟨px, 10, none⟩ = some (.int .i64 u2)) W) := fun W hW => by
          have o := HO8.out.1.over hW
          have c1 := o.box.cell 1 _ rfl
          have c9 := o.box.cell 9 _ rfl
          have c10 := o.box.cell 10 _ rfl
          rw [← HO8.out.2.1] at c1
          rw [← HO8.out.2.2] at c10
          exact ⟨HS.out W o.bel, c1, c9, c10⟩
        have hH8 := HS1.out w8 (Below.refl _ _)
        refine ⟨_, rfl, HS.out _ HO8.out.1.bel, ?_⟩
        refine wpAnyH_mono (S' := (fun w' : World => (w'.cell? ⟨b, off + i * 4, none⟩ = some (.int .i64 KI) ∧ w'.cell? ⟨b, off + i * 4 + 1, none⟩ = some (.int .i64 NI) ∧ w'.cell? ⟨b, off + i * 4 + 2, none⟩ = some (.string text) ∧ w'.cell? ⟨b, off + i * 4 + 3, none⟩ = some (.slice ka kn kc)) ∧ w'.cell? ⟨px, 1, none⟩ = some (.pointer (some ⟨jp, 0, none⟩)) ∧ w'.cell? ⟨px, 9, none⟩ = some (.slice va2 vn2 vc2) ∧ w'.cell? ⟨px, 10, none⟩ = some (.int .i64 u2))) (fun w h => h.1) _ _ _ _ ?_
        clear HS hHeld
        try dsimp only [Act.put]
        try simp only [List.setIfInBounds_toArray, List.set_cons_zero, List.set_cons_succ]
        ((refine takeL 6 (v := ?_) rfl (by kernel_rfl) (by kernel_rfl) (by kernel_rfl) (fun _ _ _ h => h) (by rfl) hH8 ?_ ?_; rotate_left; focus (intro w hSw; (try dsimp only at hSw); go_simp <;> with_reducible rfl); (try simp only [Act.put, List.setIfInBounds_toArray, List.set_cons_zero, List.set_cons_succ])); (refine takeL 7 (v := ?_) rfl (by kernel_rfl) (by kernel_rfl) (by kernel_rfl) (fun _ _ _ h => h) (by rfl) hH8 ?_ ?_; rotate_left; focus (intro w hSw; (try dsimp only at hSw); go_simp <;> with_reducible rfl); (try simp only [Act.put, List.setIfInBounds_toArray, List.set_cons_zero, List.set_cons_succ])); (refine takeL 8 (v := ?_) rfl (by kernel_rfl) (by kernel_rfl) (by kernel_rfl) (fun _ _ _ h => h) (by rfl) hH8 ?_ ?_; rotate_left; focus (intro w hSw; (try dsimp only at hSw); go_simp <;> with_reducible rfl); (try simp only [Act.put, List.setIfInBounds_toArray, List.set_cons_zero, List.set_cons_succ])); (refine takeL 9 (v := ?_) rfl (by kernel_rfl) (by kernel_rfl) (by kernel_rfl) (fun _ _ _ h => h) (by rfl) hH8 ?_ ?_; rotate_left; focus (intro w hSw; (try dsimp only at hSw); go_simp <;> with_reducible rfl); (try simp only [Act.put, List.setIfInBounds_toArray, List.set_cons_zero, List.set_cons_succ])))
        try dsimp only [Act.put]
        try simp only [List.setIfInBounds_toArray, List.set_cons_zero, List.set_cons_succ]
        ((refine takeL 10 (v := ?_) rfl (by kernel_rfl) (by kernel_rfl) (by kernel_rfl) (fun _ _ _ h => h) (by rfl) hH8 ?_ ?_; rotate_left; focus (intro w hSw; (try dsimp only at hSw); go_simp <;> with_reducible rfl); (try simp only [Act.put, List.setIfInBounds_toArray, List.set_cons_zero, List.set_cons_succ])); (refine takeL 11 (v := ?_) rfl (by kernel_rfl) (by kernel_rfl) (by kernel_rfl) (fun _ _ _ h => h) (by rfl) hH8 ?_ ?_; rotate_left; focus (intro w hSw; (try dsimp only at hSw); go_simp <;> with_reducible rfl); (try simp only [Act.put, List.setIfInBounds_toArray, List.set_cons_zero, List.set_cons_succ])); (refine takeL 13 (v := ?_) rfl (by kernel_rfl) (by kernel_rfl) (by kernel_rfl) (fun _ _ _ h => h) (by rfl) hH8 ?_ ?_; rotate_left; focus (intro w hSw; (try dsimp only at hSw); go_simp <;> with_reducible rfl); (try simp only [Act.put, List.setIfInBounds_toArray, List.set_cons_zero, List.set_cons_succ])))
        try dsimp only [Act.put]
        try simp only [List.setIfInBounds_toArray, List.set_cons_zero, List.set_cons_succ]
        ((refine takeL 14 (v := ?_) rfl (by kernel_rfl) (by kernel_rfl) (by kernel_rfl) (fun _ _ _ h => h) (by rfl) hH8 ?_ ?_; rotate_left; focus (intro w hSw; (try dsimp only at hSw); go_simp <;> with_reducible rfl); (try simp only [Act.put, List.setIfInBounds_toArray, List.set_cons_zero, List.set_cons_succ])); (refine takeL 15 (v := ?_) rfl (by kernel_rfl) (by kernel_rfl) (by kernel_rfl) (fun _ _ _ h => h) (by rfl) hH8 ?_ ?_; rotate_left; focus (intro w hSw; (try dsimp only at hSw); go_simp <;> with_reducible rfl); (try simp only [Act.put, List.setIfInBounds_toArray, List.set_cons_zero, List.set_cons_succ])); (refine takeL 16 (v := ?_) rfl (by kernel_rfl) (by kernel_rfl) (by kernel_rfl) (fun _ _ _ h => h) (by rfl) hH8 ?_ ?_; rotate_left; focus (intro w hSw; (try dsimp only at hSw); go_simp <;> with_reducible rfl); (try simp only [Act.put, List.setIfInBounds_toArray, List.set_cons_zero, List.set_cons_succ])); (refine takeL 17 (v := ?_) rfl (by kernel_rfl) (by kernel_rfl) (by kernel_rfl) (fun _ _ _ h => h) (by rfl) hH8 ?_ ?_; rotate_left; focus (intro w hSw; (try dsimp only at hSw); go_simp <;> with_reducible rfl); (try simp only [Act.put, List.setIfInBounds_toArray, List.set_cons_zero, List.set_cons_succ])))
        try dsimp only [Act.put]
        try simp only [List.setIfInBounds_toArray, List.set_cons_zero, List.set_cons_succ]
        refine callL 12 (f := 11) (vs := #[.pointer (some ⟨jp, 0, none⟩)]) rfl (by kernel_rfl) (by rfl) (by go_simp) ?_
        have cr := jrecords_any HO8.out.1.jnl.box HO8.out.1.jnl.recs.reads (by have := HO8.out.1.pu.ol; have := HO8.out.1.pu.ul; simp [bks]; omega)
        rw [← HO8.out.2.1] at cr
        refine Calls.mono cr ?_
        rintro e w9 ⟨⟨v9, rfl, own9⟩, b9⟩
        have hH9 := HS1.out w9 b9
        obtain ⟨xa, xn, xc, hv9⟩ := own9.slice
        rw [hv9] at own9
        rw [hv9]
        clear hv9 cr
        refine ⟨_, rfl, hH9, ?_⟩
        try dsimp only [Act.put]
        try simp only [List.setIfInBounds_toArray, List.set_cons_zero, List.set_cons_succ]
        refine callL 18 (f := 10) (vs := #[.slice xa xn xc, .slice va2 vn2 vc2]) rfl (by kernel_rfl) (by rfl) (by go_simp) ?_
        have cs := sameT_any w9 (.slice xa xn xc) (.slice va2 vn2 vc2) (bks out2) (by have := HO8.out.1.pu.ol; have := HO8.out.1.pu.ul; simp [bks]; omega) own9.reads (srows_texts (HO8.out.1.list.over b9) HO8.out.1.vl)
        refine Calls.mono cs ?_
        rintro e w10 ⟨rfl, n10, hw10⟩
        have b10 : Below w8.heap.size w8 w10 := by rw [hw10]; exact b9.trans ((below_drewN w9 n10).mono b9.size)
        have hH10 := HS1.out w10 b10
        clear hw10 own9 b9 cs hH9
        refine ⟨_, rfl, hH10, ?_⟩
        try dsimp only [Act.put]
        try simp only [List.setIfInBounds_toArray, List.set_cons_zero, List.set_cons_succ]
        ((refine takeL 19 (v := ?_) rfl (by kernel_rfl) (by kernel_rfl) (by kernel_rfl) (fun _ _ _ h => h) (by rfl) hH10 ?_ ?_; rotate_left; focus (intro w hSw; (try dsimp only at hSw); go_simp <;> with_reducible rfl); (try simp only [Act.put, List.setIfInBounds_toArray, List.set_cons_zero, List.set_cons_succ])); (refine takeL 20 (v := ?_) rfl (by kernel_rfl) (by kernel_rfl) (by kernel_rfl) (fun _ _ _ h => h) (by rfl) hH10 ?_ ?_; rotate_left; focus (intro w hSw; (try dsimp only at hSw); go_simp <;> with_reducible rfl); (try simp only [Act.put, List.setIfInBounds_toArray, List.set_cons_zero, List.set_cons_succ])); (refine takeL 21 (v := ?_) rfl (by kernel_rfl) (by kernel_rfl) (by kernel_rfl) (fun _ _ _ h => h) (by rfl) hH10 ?_ ?_; rotate_left; focus (intro w hSw; (try dsimp only at hSw); go_simp <;> with_reducible rfl); (try simp only [Act.put, List.setIfInBounds_toArray, List.set_cons_zero, List.set_cons_succ])); (refine takeL 22 (v := ?_) rfl (by kernel_rfl) (by kernel_rfl) (by kernel_rfl) (fun _ _ _ h => h) (by rfl) hH10 ?_ ?_; rotate_left; focus (intro w hSw; (try dsimp only at hSw); go_simp <;> with_reducible rfl); (try simp only [Act.put, List.setIfInBounds_toArray, List.set_cons_zero, List.set_cons_succ])))
        try dsimp only [Act.put]
        try simp only [List.setIfInBounds_toArray, List.set_cons_zero, List.set_cons_succ]
        ((refine takeL 23 (v := ?_) rfl (by kernel_rfl) (by kernel_rfl) (by kernel_rfl) (fun _ _ _ h => h) (by rfl) hH10 ?_ ?_; rotate_left; focus (intro w hSw; (try dsimp only at hSw); go_simp <;> with_reducible rfl); (try simp only [Act.put, List.setIfInBounds_toArray, List.set_cons_zero, List.set_cons_succ])); (refine takeL 24 (v := ?_) rfl (by kernel_rfl) (by kernel_rfl) (by kernel_rfl) (fun _ _ _ h => h) (by rfl) hH10 ?_ ?_; rotate_left; focus (intro w hSw; (try dsimp only at hSw); go_simp <;> with_reducible rfl); (try simp only [Act.put, List.setIfInBounds_toArray, List.set_cons_zero, List.set_cons_succ])); (refine takeL 25 (v := ?_) rfl (by kernel_rfl) (by kernel_rfl) (by kernel_rfl) (fun _ _ _ h => h) (by rfl) hH10 ?_ ?_; rotate_left; focus (intro w hSw; (try dsimp only at hSw); go_simp <;> with_reducible rfl); (try simp only [Act.put, List.setIfInBounds_toArray, List.set_cons_zero, List.set_cons_succ])); (refine takeL 27 (v := ?_) rfl (by kernel_rfl) (by kernel_rfl) (by kernel_rfl) (fun _ _ _ h => h) (by rfl) hH10 ?_ ?_; rotate_left; focus (intro w hSw; (try dsimp only at hSw); go_simp <;> with_reducible rfl); (try simp only [Act.put, List.setIfInBounds_toArray, List.set_cons_zero, List.set_cons_succ])))
        try dsimp only [Act.put]
        try simp only [List.setIfInBounds_toArray, List.set_cons_zero, List.set_cons_succ]
        have hw40 : IntKind.i64.wrap (40 - u2) = 40 - u2 := by rw [IntKind.wrap_i64]; omega
        ((refine takeL 28 (v := ?_) rfl (by kernel_rfl) (by kernel_rfl) (by kernel_rfl) (fun _ _ _ h => h) (by rfl) hH10 ?_ ?_; rotate_left; focus (intro w hSw; (try dsimp only at hSw); go_simp <;> with_reducible rfl); (try simp only [Act.put, List.setIfInBounds_toArray, List.set_cons_zero, List.set_cons_succ])); (refine takeL 29 (v := ?_) rfl (by kernel_rfl) (by kernel_rfl) (by kernel_rfl) (fun _ _ _ h => h) (by rfl) hH10 ?_ ?_; rotate_left; focus (intro w hSw; (try dsimp only at hSw); go_simp <;> with_reducible rfl); (try simp only [Act.put, List.setIfInBounds_toArray, List.set_cons_zero, List.set_cons_succ])); (refine takeL 30 (v := ?_) rfl (by kernel_rfl) (by kernel_rfl) (by kernel_rfl) (fun _ _ _ h => h) (by rfl) hH10 ?_ ?_; rotate_left; focus (intro w hSw; (try dsimp only at hSw); go_simp <;> with_reducible rfl); (try simp only [Act.put, List.setIfInBounds_toArray, List.set_cons_zero, List.set_cons_succ])))
        try dsimp only [Act.put]
        try simp only [List.setIfInBounds_toArray, List.set_cons_zero, List.set_cons_succ]
        ((refine takeL 31 (v := ?_) rfl (by kernel_rfl) (by kernel_rfl) (by kernel_rfl) (fun _ _ _ h => h) (by rfl) hH10 ?_ ?_; rotate_left; focus (intro w hSw; (try dsimp only at hSw); go_simp <;> with_reducible rfl); (try simp only [Act.put, List.setIfInBounds_toArray, List.set_cons_zero, List.set_cons_succ])); (refine takeL 32 (v := ?_) rfl (by kernel_rfl) (by kernel_rfl) (by kernel_rfl) (fun _ _ _ h => h) (by rfl) hH10 ?_ ?_; rotate_left; focus (intro w hSw; (try dsimp only at hSw); go_simp <;> with_reducible rfl); (try simp only [Act.put, List.setIfInBounds_toArray, List.set_cons_zero, List.set_cons_succ])))
        try dsimp only [Act.put]
        try simp only [List.setIfInBounds_toArray, List.set_cons_zero, List.set_cons_succ]
        have cm := jroom_any (HO8.out.1.over b10).jnl.box (by have := HO8.out.1.pu.ul; omega)
        rw [← HO8.out.2.1, ← HO8.out.2.2] at cm
        refine callL 26 (f := 12) (vs := #[.pointer (some ⟨jp, 0, none⟩)]) rfl (by kernel_rfl) (by rfl) (by go_simp) ?_
        refine Calls.mono cm ?_
        rintro e w11 ⟨rfl, b11⟩
        have bb := b10.trans (b11.mono b10.size)
        have hH11 := HS1.out w11 bb
        have HEND : Hid (Sy w w11 px hp J2 R2 s2 turn2 ux out2 va2 vn2 vc2 (i + 1)) := HO8.out.1.over bb
        clear b10 b11 bb cm hH8 hH10
        refine ⟨_, rfl, hH11, ?_⟩
        try dsimp only [Act.put]
        try simp only [List.setIfInBounds_toArray, List.set_cons_zero, List.set_cons_succ]
        ((refine takeL 33 (v := ?_) rfl (by kernel_rfl) (by kernel_rfl) (by kernel_rfl) (fun _ _ _ h => h) (by rfl) hH11 ?_ ?_; rotate_left; focus (intro w hSw; (try dsimp only at hSw); go_simp <;> with_reducible rfl); (try simp only [Act.put, List.setIfInBounds_toArray, List.set_cons_zero, List.set_cons_succ])))
        try dsimp only [Act.put]
        try simp only [List.setIfInBounds_toArray, List.set_cons_zero, List.set_cons_succ]
        refine doneL (by kernel_rfl) ?_
        try dsimp only [Act.put]
        try simp only [List.setIfInBounds_toArray, List.set_cons_zero, List.set_cons_succ]
        unfold Oper.wp
        clear hH11 HS1 HO8 HO hw40 hub
        go_simp
        go_wp2_with fail
        go_roundg (M - (i + 1))
        case measure => clear hr2; omega
        case rel => exact ⟨i + 1, J2, R2, s2, turn2, ux, out2, va2, vn2, vc2, by clear hr2; omega, by go_num, HEND.out⟩
    · have hib : ¬ (i : Int) < (len0 : Int) ∨ ¬ (i : Int) < 24 := by omega
      have HI : Hid (i ≤ 50) := by show i ≤ 50; omega
      have HQE : Hid (∃ sa n1 sc wa n2 wc fz of, rda R s = #[.slice sa n1 sc, .slice wa n2 wc, .int .i64 fz, .bool of]) := ⟨_, _, _, _, _, _, _, _, rfl⟩
      obtain ⟨sa, n1, sc, wa, n2, wc, fz, of, hQ0⟩ := HQE.out
      have HQ : Hid (rda R s = #[.slice sa n1 sc, .slice wa n2 wc, .int .i64 fz, .bool of]) := hQ0
      clear hQ0 HQE
      by_cases hl0 : (i : Int) < (len0 : Int)
      case' pos =>
        have hl4 : ¬ (i : Int) < 24 := by rcases hib with h | h; exact absurd hl0 h; exact h
      all_goals
        clear hib
        go_wp2_with fail
        go_loopg [11] 50 (fun g s11 wx => ∃ k : Nat, k + g = 50 ∧ s11 = .int .i64 k ∧ Sy w wx px hp J R s turn u out va1 vn1 vc1 i)
        case atStart => exact ⟨0, by omega, rfl, HO.out⟩
        case round =>
          obtain ⟨k, hkg, rfl, hsy⟩ := hrel
          have HK : Hid (Sy w wr px hp J R s turn u out va1 vn1 vc1 i) := hsy
          clear hsy
          by_cases hk : k < 50
          · have hkI : (k : Int) < 50 := by omega
            obtain ⟨bt, er, c1, c2⟩ := sy_read HK.out (by have := HI.out; omega) k hk
            rw [HQ.out] at c2
            have hr3 : IntKind.i64.wrap ((k : Int) + 1) = (k : Int) + 1 := by rw [IntKind.wrap_i64]; omega
            have B := HK.out.box
            rw [HQ.out] at B
            have q2 : wr.cell? ⟨px, 2, none⟩ = some (.slice sa n1 sc) := B.cell 2 _ rfl
            have q3 : wr.cell? ⟨px, 3, none⟩ = some (.slice wa n2 wc) := B.cell 3 _ rfl
            have q4 : wr.cell? ⟨px, 4, none⟩ = some (.int .i64 fz) := B.cell 4 _ rfl
            have q5 : wr.cell? ⟨px, 5, none⟩ = some (.bool of) := B.cell 5 _ rfl
            clear B
            go_wp2_with fail
            refine Calls.mono c1 ?_
            rintro e wy ⟨rfl, hwy⟩
            replace hwy := hwy.symm
            subst hwy
            go_wp2_with fail
            refine Calls.mono c2 ?_
            rintro e wz ⟨rfl, bz⟩
            clear c1 c2 q2 q3 q4 q5
            have HZ : Hid (Sy w wz px hp J R s turn u out va1 vn1 vc1 i) := HK.out.over bz
            clear bz
            go_wp2_with fail
            go_roundg (50 - (k + 1))
            case measure => clear hr3; omega
            case rel => exact ⟨k + 1, by clear hr3; omega, by go_num, HZ.out⟩
          · have hkI : ¬ (k : Int) < 50 := by omega
            go_wp2_with fail
            refine (awake23 _).mono ?_
            rintro e w12 ⟨rfl, b12⟩
            go_wp2
            go_ret
            exact ⟨rfl, HK.out.bel.trans (b12.mono HK.out.bel.size)⟩
end Go.Proofs.Ytgffplfpoopolaa
