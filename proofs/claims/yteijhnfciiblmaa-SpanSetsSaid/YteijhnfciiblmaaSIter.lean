/-
  The contracts of package span's edges and of the function that it makes: each edge of two lists, once, rising, for every loop that keeps what they lie in.
-/
import Derived.Test.YteijhnfciiblmaaSEdge
import Derived.RangeFuncNested
import Derived.RangeFuncBound
import Derived.RangeFuncCalls
import Derived.RangeFuncLeaves
import Derived.Shelf.Abstract
import Derived.Shelf.RegionOpen
import Derived.OwnWalkIn
import Derived.TacticsInMore
import Derived.LoopNIn
import Derived.LoopIn
namespace Go.Proofs.Yteijhnfciiblmaa
open Go.RowKit Go.Shelf
attribute [local go_sem] Oper.semAt_some

abbrev encE (x : Ev) : Array Value := #[.int .i64 x.1, .agg #[.bool x.2.1, .bool x.2.2]]
/-- All edges. -/
def AllE (a b : List Sn) (xs : List Ev) : Prop := ∃ k, xs = evs a b k ∧ (∀ m, m < k → live a b (posE a b m)) ∧ ¬ live a b (posE a b k)

set_option maxHeartbeats 1000000 in
theorem edges_in (n : Nat) (a b : Option Addr) (la lb ca cb : Nat) (w : World) :
    CallsIn Fence.wide n Try.prog 43 #[.slice a la ca, .slice b lb cb] w fun e w' =>
      e = .returned (.func (.func 48) #[] #[.pointer (some ⟨w.heap.size, 0, none⟩), .pointer (some ⟨w.heap.size + 1, 0, none⟩)]) ∧ w' = (w.alloc (.cells #[.slice a la ca] 22)).alloc (.cells #[.slice b lb cb] 22) := by
  refine callsIn_wide.2 ?_
  go_enter Try.func43, Try.ntmps43
  go_wp2_with fail
  go_ret
  exact ⟨rfl, rfl⟩

theorem pos_count (a b : List Sn) : ∀ k, k ≤ (posE a b k).1 + (posE a b k).2
  | 0 => Nat.zero_le _
  | k + 1 => by
    have h1 := pos_count a b k
    have h2 := pos_rise a b (posE a b k)
    rw [posE]
    omega
theorem kept_cell {F : Nat → Prop} {w w' : World} {a : Addr} {v : Value} (k : Kept F w w') (h : w.cell? a = some v) (hF : ¬ F a.block) : w'.cell? a = some v := by
  rw [World.cell?_of_block (k.block a.block (World.block_lt_of_cell? w a h) hF)]; exact h
theorem live_next {a b : List Sn} {k : Nat} (h : ∀ m, m < k → live a b (posE a b m)) (hk : live a b (posE a b k)) : ∀ m, m < k + 1 → live a b (posE a b m) := fun m hm => by
  by_cases e : m = k
  · rw [e]; exact hk
  · exact h m (by omega)
theorem abide_drewN {α : Type} {B : Nat} {J : List α → World → Prop} (hJ : AbidesFrom B J) {pre : List α} {W : World} (h : J pre W) (n : Nat) : J pre (W.drewN n) :=
  hJ pre W (W.drewN n) none h ⟨rfl, rfl, rfl, Nat.le_refl _, fun _ _ _ => rfl⟩ (fun r e => by cases e)

set_option maxRecDepth 100000 in
set_option maxHeartbeats 4000000 in
theorem edges1_in (n : Nat) (hn : 1 ≤ n) (l Ba Bb : Nat) (Fk : Nat → Prop) (we : World) {va vb : Value} {a b : List Sn} (sa : SpansIs we va a) (sb : SpansIs we vb b) (ma : mayS a = true) (mb : mayS b = true)
    (hF : ∀ k, Fk k → we.heap.size ≤ k) (hFa : ¬ Fk Ba) (hFb : ¬ Fk Bb) (J Jx : List Ev → World → Prop)
    (hY : ∀ pre x W, J pre W → pre.length < 1000000 → YieldAt Fence.wide (n - 1) Try.prog l (encE x) W fun e W' =>
      (e = .returned (.bool true) ∧ J (pre ++ [x]) W' ∧ Kept Fk W W') ∨ (e = .returned (.bool false) ∧ Jx (pre ++ [x]) W'))
    (W : World) (hJ : AbidesFrom W.heap.size J) (hW : Below we.heap.size we W) (hBa : W.cell? ⟨Ba, 0, none⟩ = some va) (hBb : W.cell? ⟨Bb, 0, none⟩ = some vb) (h0 : J [] W) :
    CallsIn Fence.wide n Try.prog 48 #[.func (.yield l) #[] #[], .pointer (some ⟨Ba, 0, none⟩), .pointer (some ⟨Bb, 0, none⟩)] W fun e W' => (∃ v, e = .returned v) ∧
      ((∃ ys, AllE a b ys ∧ J ys W') ∨ (∃ pre, Jx pre W')) := by
  obtain ⟨pa, na, ca, rfl, hna, hca⟩ := sa.slice
  obtain ⟨pb, nb, cb, rfl, hnb, hcb⟩ := sb.slice
  have lna := may_len ma
  have lnb := may_len mb
  have na1 : (na : Int) ≤ 65537 := by omega
  have nb1 : (nb : Int) ≤ 65537 := by omega
  have HS : Hid (SpansIs we (.slice pa na ca) a ∧ SpansIs we (.slice pb nb cb) b ∧ a.length = na ∧ b.length = nb) := ⟨sa, sb, hna, hnb⟩
  have HJ : Hid (AbidesFrom W.heap.size J) := hJ
  have HF : Hid ((∀ k, Fk k → we.heap.size ≤ k) ∧ ¬ Fk Ba ∧ ¬ Fk Bb) := ⟨hF, hFa, hFb⟩
  have HM : Hid (mayS a = true ∧ mayS b = true) := ⟨ma, mb⟩
  have HY : Hid (∀ pre x W, J pre W → pre.length < 1000000 → YieldAt Fence.wide (n - 1) Try.prog l (encE x) W fun e W' =>
      (e = .returned (.bool true) ∧ J (pre ++ [x]) W' ∧ Kept Fk W W') ∨ (e = .returned (.bool false) ∧ Jx (pre ++ [x]) W')) := hY
  clear sa sb hna hnb hJ hF hFa hFb lna lnb ma mb hY
  refine callsIn_of_wp Try.func48 rfl trivial ?_ rfl
  simp only [Try.ntmps48, List.size_toArray, List.length_cons, List.length_nil, Nat.reduceAdd, Nat.reduceSub, Array.replicate_succ, Array.replicate_zero, List.push_toArray, List.append_toArray, List.nil_append, List.cons_append]
  gi_wp2
  gi_loopw [4, 5] (fun i j wr => ∃ k : Nat, i = .int .i64 ((posE a b k).1 : Int) ∧ j = .int .i64 ((posE a b k).2 : Int) ∧ Hid (∀ m, m < k → live a b (posE a b m)) ∧ Hid (J (evs a b k) wr ∧ Below we.heap.size we wr) ∧ wr.cell? ⟨Ba, 0, none⟩ = some (.slice pa na ca) ∧ wr.cell? ⟨Bb, 0, none⟩ = some (.slice pb nb cb))
    (fun i j _ => (2 * na + 2 * nb) - (intOf i).toNat - (intOf j).toNat)
  case atStart => exact ⟨0, rfl, rfl, fun m hm => by omega, ⟨h0, hW⟩, hBa, hBb⟩
  case round =>
    obtain ⟨k, rfl, rfl, HL, HJW, hBa, hBb⟩ := hrel
    clear h0 hW
    have hmid := mid_at (f := fun p q => p && q) rfl HM.out.1 HM.out.2 k HL.out
    have hcnt := pos_count a b k
    have hla := hmid.la
    have hlb := hmid.lb
    rw [HS.out.2.2.1] at hla
    rw [HS.out.2.2.2] at hlb
    clear hmid
    obtain ⟨i, j, hp⟩ : ∃ i j, posE a b k = (i, j) := ⟨_, _, rfl⟩
    rw [hp] at hcnt hla hlb
    rw [hp]
    simp only at hcnt hla hlb
    have hi1 : (i : Int) ≤ 131074 := by omega
    have hj1 : (j : Int) ≤ 131074 := by omega
    have HP : Hid (posE a b k = (i, j) ∧ k < 1000000) := ⟨hp, by omega⟩
    clear hp
    by_cases hlive : i < 2 * na ∨ j < 2 * nb
    · have hea : ∀ q : Nat, Calls Try.prog 49 #[.slice pa na ca, .int .i64 (i : Int)] (wr.drewN q) fun e w' => e = .returned (.int .i64 (edgeA a i)) ∧ w' = wr.drewN q := fun q =>
        edge_any (HS.out.1.below (below_drewN HJW.out.2 q)) (may_len HM.out.1) i (by omega)
      have heb : ∀ q : Nat, Calls Try.prog 49 #[.slice pb nb cb, .int .i64 (j : Int)] (wr.drewN q) fun e w' => e = .returned (.int .i64 (edgeA b j)) ∧ w' = wr.drewN q := fun q =>
        edge_any (HS.out.2.1.below (below_drewN HJW.out.2 q)) (may_len HM.out.2) j (by omega)
      have HV : Hid (live a b (posE a b k)) := by unfold Hid live; rw [HP.out.1, HS.out.2.2.1, HS.out.2.2.2]; exact hlive
      have hnx : nxt a b (i, j) = (if edgeA a i ≤ edgeA b j then i + 1 else i, if edgeA b j ≤ edgeA a i then j + 1 else j) := rfl
      have hbA := edge_low (by omega) HM.out.1 i
      have hbB := edge_low (by omega) HM.out.2 j
      obtain ⟨A, hA⟩ : ∃ A, A = edgeA a i := ⟨_, rfl⟩
      obtain ⟨B, hB⟩ : ∃ B, B = edgeA b j := ⟨_, rfl⟩
      rw [← hA, ← hB] at hnx
      rw [← hA] at hea hbA
      rw [← hB] at heb hbB
      obtain ⟨i', j', hn'⟩ : ∃ i' j', nxt a b (i, j) = (i', j') := ⟨_, _, rfl⟩
      obtain ⟨p, hp⟩ : ∃ p, p = decide (i' % 2 = 1) := ⟨_, rfl⟩
      obtain ⟨q, hq⟩ : ∃ q, q = decide (j' % 2 = 1) := ⟨_, rfl⟩
      have HN : Hid (evs a b (k + 1) = evs a b k ++ [(min A B, p, q)] ∧ posE a b (k + 1) = (i', j')) := by
        constructor
        · rw [evs, HP.out.1, evE, hn', ← hA, ← hB, hp, hq]
        · rw [posE, HP.out.1, hn']
      clear hA hB
      rw [hn'] at hnx
      clear hn'
      have e1 : i' = if A ≤ B then i + 1 else i := (Prod.mk.inj hnx).1
      have e2 : j' = if B ≤ A then j + 1 else j := (Prod.mk.inj hnx).2
      have hmid := mid_at (f := fun p q => p && q) rfl HM.out.1 HM.out.2 (k + 1) (live_next HL.out HV.out)
      have hl1 := hmid.la
      have hl2 := hmid.lb
      rw [HN.out.2, HS.out.2.2.1] at hl1
      rw [HN.out.2, HS.out.2.2.2] at hl2
      simp only at hl1 hl2
      have hri : i + j < i' + j' ∧ i ≤ i' ∧ j ≤ j' := by
        have := pos_rise a b (i, j)
        rwa [← HP.out.1, show nxt a b (posE a b k) = posE a b (k + 1) from rfl, HN.out.2, HP.out.1] at this
      have hms : (2 * na + 2 * nb) - i' - j' < (2 * na + 2 * nb) - i - j := by omega
      clear hmid
      have HMS : Hid ((2 * na + 2 * nb) - i' - j' < (2 * na + 2 * nb) - i - j) := hms
      clear hnx hms hcnt hla hlb hl1 hl2 hri
      have cc : ((i : Int) < 2 * (na : Int)) ∨ (¬ (i : Int) < 2 * (na : Int) ∧ (j : Int) < 2 * (nb : Int)) := by omega
      clear hlive
      have co : (A ≤ B ∧ ¬ B ≤ A ∧ i' = i + 1 ∧ j' = j) ∨ (A ≤ B ∧ B ≤ A ∧ i' = i + 1 ∧ j' = j + 1) ∨ (¬ A ≤ B ∧ B ≤ A ∧ i' = i ∧ j' = j + 1) := by
        by_cases h1 : A ≤ B
        · rw [if_pos h1] at e1
          by_cases h2 : B ≤ A
          · rw [if_pos h2] at e2; exact .inr (.inl ⟨h1, h2, e1, e2⟩)
          · rw [if_neg h2] at e2; exact .inl ⟨h1, h2, e1, e2⟩
        · rw [if_neg h1] at e1
          have h2 : B ≤ A := by omega
          rw [if_pos h2] at e2
          exact .inr (.inr ⟨h1, h2, e1, e2⟩)
      have hpi : (((i' : Nat) : Int) % 2 == 1) = p := by
        rw [hp, Bool.eq_iff_iff]; simp; omega
      have hqi : (((j' : Nat) : Int) % 2 == 1) = q := by
        rw [hq, Bool.eq_iff_iff]; simp; omega
      clear e1 e2 hp hq
      rcases co with ⟨h1, h2, rfl, rfl⟩ | ⟨h1, h2, rfl, rfl⟩ | ⟨h1, h2, rfl, rfl⟩
      case' inl => obtain ⟨T, hT, hmin⟩ : ∃ T, T = A ∧ min A B = T := ⟨A, rfl, by omega⟩
      case' inr.inl => obtain ⟨T, hT, hmin⟩ : ∃ T, T = A ∧ min A B = T := ⟨A, rfl, by omega⟩
      case' inr.inr => obtain ⟨T, hT, hmin⟩ : ∃ T, T = B ∧ min A B = T := ⟨B, rfl, by omega⟩
      all_goals
        rw [hmin] at HN
        clear hmin
        subst hT
        simp only [Int.natCast_add, Int.cast_ofNat_Int] at hpi hqi
        rcases cc with c1 | ⟨c1, c2⟩
      all_goals
        gi_wp2
        refine wpIn_wide.2 ?_
        go_quiet (first | (go_at_call 49; with_reducible exact Calls.quiet_of_same (hea _)) | (go_at_call 49; with_reducible exact Calls.quiet_of_same (heb _)))
        obtain ⟨fn, tmps, assign, body, hy, hR⟩ := HY.out _ (T, p, q) (wr.drewN nq) (abide_drewN HJ.out HJW.out.1 nq) (by rw [evs_len]; exact HP.out.2)
        dsimp only [encE] at hy
        gi_wp2
        refine hR.mono ?_
        rintro e W3 (⟨rfl, hJ3, hk3⟩ | ⟨rfl, hJx3⟩)
        · gi_wp2
          go_roundw
          case rel =>
            refine ⟨k + 1, by rw [HN.out.2] <;> first | rfl | go_num, by rw [HN.out.2] <;> first | rfl | go_num, live_next HL.out HV.out, ⟨by rw [HN.out.1]; exact hJ3, (below_drewN HJW.out.2 nq).trans (hk3.below HF.out.1 HJW.out.2.size)⟩, kept_cell hk3 (w := wr.drewN nq) hBa HF.out.2.1, kept_cell hk3 (w := wr.drewN nq) hBb HF.out.2.2⟩
          case measure =>
            have := HMS.out
            simp [intOf]
            omega
        · gi_wp2
          refine bodyPost_ret (results_none rfl _ _ _) rfl ?_
          exact ⟨⟨_, rfl⟩, .inr ⟨_, hJx3⟩⟩
    · have c1 : ¬ (i : Int) < 2 * (na : Int) := by omega
      have c2 : ¬ (j : Int) < 2 * (nb : Int) := by omega
      gi_wp2
      go_end0
      exact ⟨⟨_, rfl⟩, .inl ⟨_, ⟨k, rfl, HL.out, by unfold live; rw [HP.out.1, HS.out.2.2.1, HS.out.2.2.2]; exact hlive⟩, HJW.out.1⟩⟩
theorem edges_stops (n : Nat) (hn : 1 ≤ n) (Ba Bb : Nat) (Fk : Nat → Prop) (we : World) {va vb : Value} {a b : List Sn} (sa : SpansIs we va a) (sb : SpansIs we vb b) (ma : mayS a = true) (mb : mayS b = true)
    (hF : ∀ k, Fk k → we.heap.size ≤ k) (hFa : ¬ Fk Ba) (hFb : ¬ Fk Bb) (w : World) (hW : Below we.heap.size we w) (hBa : w.cell? ⟨Ba, 0, none⟩ = some va) (hBb : w.cell? ⟨Bb, 0, none⟩ = some vb) :
    SeqStopsK Fence.wide n Try.prog 48 #[.pointer (some ⟨Ba, 0, none⟩), .pointer (some ⟨Bb, 0, none⟩)] encE (Kept Fk) (AllE a b) (fun _ => True) 1000000 w := fun l J Jx W hb hJ _ hY h0 => by
  refine (edges1_in n hn l Ba Bb Fk we sa sb ma mb hF hFa hFb J Jx hY W hJ (hW.trans (hb.mono hW.size)) ((hb.cell (p := ⟨Ba, 0, none⟩) (World.block_lt_of_cell? w _ hBa)).trans hBa) ((hb.cell (p := ⟨Bb, 0, none⟩) (World.block_lt_of_cell? w _ hBb)).trans hBb) h0).mono ?_
  rintro e W' ⟨he, ⟨ys, hy, hj⟩ | ⟨pre, hj⟩⟩
  · exact ⟨he, .inl ⟨ys, hy, hj⟩⟩
  · exact ⟨he, .inr ⟨pre, trivial, hj⟩⟩
end Go.Proofs.Yteijhnfciiblmaa
