/-
  8 texts, one behind the other: MIdx, MClone, MCells, MProj, MKinds, MApp, MRefK, MRefP.
-/
import Derived.Test.YtflabcmjbhmphaaJoin5
import Derived.RangeFuncIn
import Derived.Shelf.Abstract
import Derived.Deep.QuietTactic
import Derived.Test.YtflabcmjbhmphaaJoin3
import Derived.BigQuiet
/-
  The contracts of mover's areUpTo, and of slices' IndexFunc and ContainsFunc with its closure.
-/
namespace Go.Proofs.Ytflabcmjbhmphaa
open Go.RowKit Go.Shelf

/-- The number at k. -/
theorem at_int {w : World} {a : Option Addr} {n cap : Nat} {l : List (BitVec 64)} (h : IntsIs w (.slice a n cap) l) {k : Nat} (hk : k < n) : ∃ (x : BitVec 64) (b off : Nat), l[k]? = some x ∧ a = some ⟨b, off, none⟩ ∧ b < w.heap.size ∧ w.cell? ⟨b, off + k, none⟩ = some (.int .i64 x.toInt) := by
  obtain ⟨x, cs, b, off, h1, h2, h3, _, h5, h6⟩ := h.at hk
  have e : cs = [.int .i64 x.toInt] := h5
  subst e
  exact ⟨x, b, off, h1, h2, h3, by simpa using h6 0 _ rfl⟩
theorem upB_step {last : Int} {cols : List (BitVec 64)} {k : Nat} {x : BitVec 64} (hx : cols[k]? = some x) : upB last (cols.take (k + 1)) = (upB last (cols.take k) && (decide (0 ≤ x.toInt) && decide (x.toInt ≤ last))) := by
  rw [take_succ_of hx]; simp [upB]
set_option maxHeartbeats 1000000 in
theorem up1_any (W : World) (last x : Int) (B : Nat) (hB : W.cell? ⟨B, 0, none⟩ = some (.int .i64 last)) :
    Calls Try.prog 54 #[.int .i64 x, .pointer (some ⟨B, 0, none⟩)] W fun e w' => e = .returned (.bool (!(decide (0 ≤ x) && decide (x ≤ last)))) ∧ Below W.heap.size W w' := by
  by_cases h1 : x < 0
  · go_enter Try.func54, Try.ntmps54
    go_wp2_with fail
    go_ret
    exact ⟨ret_bool (by simp; omega), Below.refl _ _⟩
  · by_cases h2 : last < x
    all_goals
      go_enter Try.func54, Try.ntmps54
      go_wp2_with fail
      go_ret
      exact ⟨ret_bool (by simp <;> omega), Below.refl _ _⟩

set_option maxRecDepth 4000 in
set_option maxHeartbeats 4000000 in
theorem idxU_any {w : World} {v : Value} {l : List (BitVec 64)} (h : IntsIs w v l) (hl : l.length ≤ 1000000) (last : Int) (B : Nat) (hB : w.cell? ⟨B, 0, none⟩ = some (.int .i64 last)) :
    Calls Try.prog 61 #[v, .func (.func 54) #[] #[.pointer (some ⟨B, 0, none⟩)]] w fun e w' => (∃ z : Int, e = .returned (.int .i64 z) ∧ decide (0 ≤ z) = !upB last l) ∧ Below w.heap.size w w' := by
  obtain ⟨a, n, cap, rfl, hn, hcap⟩ := h.slice
  have hn1 : (n : Int) ≤ 1000000 := by omega
  have hlt := World.block_lt_of_cell? w _ hB
  have eg := enters_of Try.func54 (by kernel_rfl) rfl
  have HH : Hid (IntsIs w (.slice a n cap) l ∧ l.length = n ∧ w.cell? ⟨B, 0, none⟩ = some (.int .i64 last) ∧ B < w.heap.size) := ⟨h, hn, hB, hlt⟩
  clear h hl hn hB hlt
  go_enter Try.func61, Try.ntmps61
  go_wp2_with fail
  go_loopg [8] n (fun gg s8 wx => ∃ k : Nat, k + gg = n ∧ s8 = .int .i64 k ∧ Hid (upB last (l.take k) = true) ∧ Hid (Below w.heap.size w wx))
  case atStart => exact ⟨0, by omega, rfl, by unfold Hid; rw [List.take_zero]; rfl, Below.refl _ _⟩
  case round =>
    obtain ⟨k, hkg, rfl, HN, HB⟩ := hrel
    by_cases hk : k < n
    · have hkI : (k : Int) < (n : Int) := by omega
      obtain ⟨x, b, off, hs, rfl, hbl, c0⟩ := at_int (HH.out.1.over stays_int HB.out) hk
      have hr2 : IntKind.i64.wrap ((k : Int) + 1) = (k : Int) + 1 := by rw [IntKind.wrap_i64]; omega
      have hcall := up1_any wr last x.toInt B ((HB.out.cell (p := ⟨B, 0, none⟩) HH.out.2.2.2).trans HH.out.2.2.1)
      have HS : Hid (l[k]? = some x ∧ upB last (l.take (k + 1)) = (upB last (l.take k) && (decide (0 ≤ x.toInt) && decide (x.toInt ≤ last)))) := ⟨hs, upB_step hs⟩
      obtain ⟨t, ht⟩ : ∃ t, t = !(decide (0 ≤ x.toInt) && decide (x.toInt ≤ last)) := ⟨_, rfl⟩
      rw [← ht] at hcall
      have HT : Hid (t = !(decide (0 ≤ x.toInt) && decide (x.toInt ≤ last))) := ht
      obtain ⟨z, hz⟩ : ∃ z, z = x.toInt := ⟨_, rfl⟩
      rw [← hz] at c0 hcall
      clear hs ht hz hbl
      go_wp2_with fail
      refine hcall.mono ?_
      rintro e w1 ⟨rfl, hb1⟩
      have HB1 : Hid (Below w.heap.size w w1) := HB.out.trans (hb1.mono HB.out.size)
      clear hb1 hcall c0
      cases t with
      | true =>
        go_wp2_with fail
        go_ret
        exact ⟨⟨_, rfl, by rw [upB_no HS.out.1 (fun q => by have := HT.out; simp [q] at this)]; simp⟩, HB1.out⟩
      | false =>
        go_wp2_with fail
        go_roundg (n - (k + 1))
        case measure => clear hr2; omega
        case rel => exact ⟨k + 1, by clear hr2; omega, by go_num, by unfold Hid; rw [HS.out.2, HN.out]; have := HT.out; simpa using this, HB1⟩
    · have hkI : ¬ (k : Int) < (n : Int) := by omega
      obtain rfl : k = n := by omega
      go_wp2_with fail
      go_ret
      exact ⟨⟨_, rfl, by have := HN.out; rw [List.take_of_length_le (by rw [HH.out.2.1]; exact Nat.le_refl _)] at this; rw [this]; rfl⟩, HB.out⟩
set_option maxHeartbeats 1000000 in
theorem hasU_any {w : World} {v : Value} {l : List (BitVec 64)} (h : IntsIs w v l) (hl : l.length ≤ 1000000) (last : Int) (B : Nat) (hB : w.cell? ⟨B, 0, none⟩ = some (.int .i64 last)) :
    Calls Try.prog 53 #[v, .func (.func 54) #[] #[.pointer (some ⟨B, 0, none⟩)]] w fun e w' => e = .returned (.bool (!upB last l)) ∧ Below w.heap.size w w' := by
  have hc := idxU_any h hl last B hB
  obtain ⟨a, n, cap, rfl, hn, hcap⟩ := h.slice
  clear h hl hn hB
  go_enter Try.func53, Try.ntmps53
  go_wp2_with fail
  refine hc.mono ?_
  rintro e w1 ⟨⟨z, rfl, hz⟩, hb1⟩
  have HZ : Hid (decide (0 ≤ z) = !upB last l) := hz
  clear hc hz
  go_wp2_with fail
  go_ret
  exact ⟨ret_bool HZ.out, hb1⟩
set_option maxHeartbeats 1000000 in
theorem areUpTo_any {w : World} {v : Value} {l : List (BitVec 64)} (h : IntsIs w v l) (hl : l.length ≤ 1000000) (last : Int) :
    Calls Try.prog 42 #[.int .i64 last, v] w fun e w' => e = .returned (.bool (upB last l)) ∧ Below w.heap.size w w' := by
  have hb1 := below1 w (.cells #[.int .i64 last] 3)
  have hc := hasU_any (h.over stays_int hb1) hl last w.heap.size ((box_new w #[.int .i64 last] 3).cell 0 _ rfl)
  obtain ⟨a, n, cap, rfl, hn, hcap⟩ := h.slice
  have HB : Hid (Below w.heap.size w (w.alloc (.cells #[.int .i64 last] 3))) := hb1
  clear h hl hn hb1
  go_enter Try.func42, Try.ntmps42
  go_wp2_with fail
  refine hc.mono ?_
  rintro e w1 ⟨rfl, hb2⟩
  obtain ⟨q, hq⟩ : ∃ q, q = upB last l := ⟨_, rfl⟩
  rw [← hq]
  have HB2 : Hid (Below w.heap.size w w1) := HB.out.trans (hb2.mono HB.out.size)
  have HQ : Hid (q = upB last l) := hq
  clear hc hb2 hq
  cases q
  all_goals
    go_wp2_with fail
    go_ret
    exact ⟨ret_bool HQ.out, HB2.out⟩
end Go.Proofs.Ytflabcmjbhmphaa
/-
  The contract of slices.Clone of cells.
-/
namespace Go.Proofs.Ytflabcmjbhmphaa
open Go.RowKit

theorem infos_c : (Try.prog.info? 71).map (fun i => (i.zero, i.size, i.bytes)) = some (some (.agg #[.int .i64 0, .int .i64 0, .string ⟨#[]⟩]), 3, 32) := by kernel_rfl
set_option maxRecDepth 4000 in
set_option maxHeartbeats 2000000 in
theorem cloneR_gen {α : Type} {E : World → α → List Value → Prop} {w : World} {v : Value} {l : List α} (h : SlIs E 3 w v l) (ho1 : ∀ x cs, E w x cs → ∀ u ∈ cs, u.oneCell' = true) (hl : l.length ≤ 1000000) :
    Calls Try.prog 33 #[v] w (CloneAns E 3 71 w l) := by
  obtain ⟨a, n, cap, rfl, hn, hcap⟩ := h.slice
  have q0 : ∀ (w : World) (a : Option Addr) (n c n' c' : Nat), (binOp .eql 40 (.slice a n c) (.slice none n' c')).run Try.prog w = .ok (.bool a.isNone) w := fun w a n c n' c' => Lib.run_eql_slice_nil w _ _ a n c n' c' Try.underlying40
  cases a with
  | none =>
    obtain ⟨rfl, rfl⟩ := slIs_none h
    clear h hl hn ho1
    go_enter Try.func33, Try.ntmps33
    go_wp2_with fail
    go_ret
    exact ⟨⟨_, [], rfl, srows_nil _ _ _, ⟨rfl, fun i x r hx => by simp at hx⟩, fun k hk => by simp [Value.ownBlock] at hk⟩, Below.refl _ _⟩
  | some ad =>
    obtain ⟨R, hRE, hRl, hRn, hRc⟩ := slIs_from (by decide) h
    obtain ⟨i0, hi, hz0, hz1, hz2⟩ := info_parts infos_c
    have hb0 := below1 w (.cells #[] 71)
    have hone : ∀ r ∈ R, ∀ c ∈ r, c.oneCell' = true := fun r hr => by
      obtain ⟨i, hi⟩ := List.getElem?_of_mem hr
      have hil := (List.getElem?_eq_some_iff.1 hi).1
      have hx : l[i]? = some (l[i]'(by rw [← hRE.1]; exact hil)) := List.getElem?_eq_getElem _
      exact ho1 _ _ (hRE.2 i _ r hx hi)
    have HX : Hid (Below w.heap.size w (w.alloc (.cells #[] 71)) ∧ RowsE E w l R) := ⟨hb0, hRE⟩
    have hc := hRc _ hb0
    have hv := srows_empty w 71 3
    have hm : n ≤ 1000000 := by omega
    have HH : Hid ((∀ r ∈ R, r.length = 3) ∧ R.length = n ∧ (∀ r ∈ R, ∀ c ∈ r, c.oneCell' = true) ∧ n ≤ 1000000 ∧ SRows (w.alloc (.cells #[] 71)) (.slice (some ⟨w.heap.size, 0, none⟩) 0 0) 71 3 [] ∧ (∀ (j : Nat) (u : Value), R.flatten[j]? = some u → (w.alloc (.cells #[] 71)).cell? (ad.add j) = some u) ∧ Try.prog.info? 71 = some i0 ∧ i0.zero = some (.agg #[.int .i64 0, .int .i64 0, .string ⟨#[]⟩]) ∧ i0.size = 3 ∧ i0.bytes = 32) := ⟨hRl, hRn, hone, hm, hv, hc, hi, hz0, hz1, hz2⟩
    clear h hl hn ho1 hRE hRl hRn hRc hone hb0 hc hv hm hi hz0 hz1 hz2
    go_enter Try.func33, Try.ntmps33
    go_wp2_with (at_builtin; refine append_any rfl (.tmp 5) (.tmp 6) 40 71 i0 (.agg #[.int .i64 0, .int .i64 0, .string ⟨#[]⟩]) 3 32 rfl Try.underlying40 HH.out.2.2.2.2.2.2.1 HH.out.2.2.2.2.2.2.2.1 HH.out.2.2.2.2.2.2.2.2.1 HH.out.2.2.2.2.2.2.2.2.2 rfl (by decide) (by decide) rfl rfl HH.out.2.2.2.2.1 HH.out.2.1 HH.out.1 HH.out.2.2.2.2.2.1 HH.out.2.2.1 n (Nat.zero_add n) R rfl HH.out.2.2.2.1 ?_; intro va vc w1 hs hwh hk)
    go_ret
    have hb : Below w.heap.size w w1 := HX.out.1.trans (hk.out.below (fun k hk => by have e : some w.heap.size = some k := hk; cases e; exact Nat.le_refl _) (by simp))
    refine ⟨⟨_, R, rfl, hs.out, HX.out.2, fun k hk => ?_⟩, hb⟩
    rcases hwh.out k hk with h1 | h1
    · have e : some w.heap.size = some k := h1; cases e; exact Nat.le_refl _
    · simp at h1; omega
theorem cloneR_any {w : World} {v : Value} {l : List Cl} (h : SlIs CE 3 w v l) (hl : l.length ≤ 1000000) :
    Calls Try.prog 33 #[v] w (CloneAns CE 3 71 w l) := cloneR_gen h (fun _ _ h => one_c h) hl
end Go.Proofs.Ytflabcmjbhmphaa
/-
  The contract of mover's cellsIn: a row's cells in columns that it has.
-/
namespace Go.Proofs.Ytflabcmjbhmphaa
open Go.RowKit

theorem size_c : (Try.prog.info? 71).map (·.size) = some 3 := by kernel_rfl
theorem xok_c : XOk (fun _ => CE) CE := ⟨fun h _ => h, fun h _ => h, fun h => h, fun h _ => h⟩
theorem ok_cl0 : okC cl0 := by unfold okC cl0; simp
theorem ce_cl0 (w : World) : CE w cl0 [.int .i64 0, .int .i64 0, .string ⟨#[]⟩] := ⟨ok_cl0, rfl⟩
theorem prefix_step {α : Type} {l L : List α} {k : Nat} {y : α} (h : ∀ i, i < k → l[i]? = L[i]?) (hk : k < l.length) (hy : L[k]? = some y) : ∀ i, i < k + 1 → (l.set k y)[i]? = L[i]? := by
  intro i hi
  by_cases e : i = k
  · subst e
    rw [List.getElem?_set_self hk, hy]
  · rw [List.getElem?_set_ne (fun h => e h.symm)]
    exact h i (by omega)
theorem prefix_done {α : Type} {l L : List α} {n : Nat} (h : ∀ i, i < n → l[i]? = L[i]?) (h1 : l.length = n) (h2 : L.length = n) : l = L := by
  apply List.ext_getElem?
  intro i
  by_cases hi : i < n
  · exact h i hi
  · rw [List.getElem?_eq_none (by omega), List.getElem?_eq_none (by omega)]
/-- The cell at k. -/
theorem at_c {w : World} {a : Option Addr} {n cap : Nat} {r : List Cl} (h : SlIs CE 3 w (.slice a n cap) r) {k : Nat} (hk : k < n) : ∃ (c : Cl) (b off : Nat), r[k]? = some c ∧ okC c ∧ a = some ⟨b, off, none⟩ ∧ b < w.heap.size ∧ w.cell? ⟨b, off + k * 3, none⟩ = some (.int .i64 c.k) ∧ w.cell? ⟨b, off + k * 3 + 1, none⟩ = some (.int .i64 c.n) ∧ w.cell? ⟨b, off + k * 3 + 2, none⟩ = some (.string c.s) := by
  obtain ⟨c, cs, b, off, h1, h2, h3, _, h5, h6⟩ := h.at hk
  obtain ⟨ho, rfl⟩ := h5
  exact ⟨c, b, off, h1, ho, h2, h3, by simpa using h6 0 _ rfl, h6 1 _ rfl, h6 2 _ rfl⟩
theorem rowA_at {r : List Cl} {cols : List (BitVec 64)} {k m : Nat} {x : BitVec 64} {c : Cl} (hx : cols[k]? = some x) (hm : x.toInt = (m : Int)) (hc : r[m]? = some c) : (rowA r cols)[k]? = some c := by
  unfold rowA
  rw [List.getElem?_map, hx, Option.map_some, hm, Int.toNat_natCast, List.getD_eq_getElem?_getD, hc]
  rfl
set_option maxRecDepth 4000 in
set_option maxHeartbeats 4000000 in
theorem cellsIn_any {w : World} {vr vc : Value} {r : List Cl} {cols : List (BitVec 64)} (h : SlIs CE 3 w vr r) (hc : IntsIs w vc cols) (hl : cols.length ≤ 1000000) (hu : ∀ (j : Nat) (x : BitVec 64), cols[j]? = some x → 0 ≤ x.toInt ∧ x.toInt < r.length) :
    Calls Try.prog 43 #[vr, vc] w (CloneAns CE 3 71 w (rowA r cols)) := by
  obtain ⟨ar, nr, cr, rfl, hnr, hcr⟩ := h.slice
  obtain ⟨ac, n, cc, rfl, hn, hcc⟩ := hc.slice
  have hn1 : (n : Int) ≤ 1000000 := by omega
  have HH : Hid (SlIs CE 3 w (.slice ar nr cr) r ∧ IntsIs w (.slice ac n cc) cols ∧ r.length = nr ∧ cols.length = n ∧ n ≤ 1000000 ∧ (∀ (j : Nat) (x : BitVec 64), cols[j]? = some x → 0 ≤ x.toInt ∧ x.toInt < r.length)) := ⟨h, hc, hnr, hn, by omega, hu⟩
  clear h hc hl hu hnr hn hcr
  go_enter Try.func43, Try.ntmps43
  go_wp2_with (refine make_rows rfl _ _ 40 71 (.agg #[.int .i64 0, .int .i64 0, .string ⟨#[]⟩]) 3 32 rfl Try.underlying40 infos_c rfl (by decide) (by decide) rfl rfl rfl HH.out.2.2.2.2.1 ?_; intro w1 hs1 hb1)
  have HO : Hid (OwnX (fun _ => CE) 3 71 (fun _ => False) w w1 (.slice (some ⟨w.heap.size, 0, none⟩) n n) (List.replicate n cl0)) := ownX_made hs1.out (Below.refl _ w) hb1.out (fun _ => ce_cl0 w1) (fun _ h => h.elim) (fun h => h)
  clear hs1 hb1
  go_loopg [13] n (fun gg s13 wx => ∃ (k : Nat) (l : List Cl), k + gg = n ∧ s13 = .int .i64 k ∧ Hid (l.length = n ∧ (∀ i, i < k → l[i]? = (rowA r cols)[i]?) ∧ OwnX (fun _ => CE) 3 71 (fun _ => False) w wx (.slice (some ⟨w.heap.size, 0, none⟩) n n) l))
  case atStart => exact ⟨0, _, by omega, rfl, by simp, fun i hi => by omega, HO.out⟩
  case round =>
    clear HO
    obtain ⟨k, l, hkg, rfl, HL⟩ := hrel
    by_cases hk : k < n
    · have hkI : (k : Int) < (n : Int) := by omega
      have HB : Hid (Below w.heap.size w wr) := HL.out.2.2.bel
      obtain ⟨x, b, off, hx, rfl, hbl, x0⟩ := at_int (HH.out.2.1.over stays_int HB.out) hk
      obtain ⟨hx0, hxr⟩ := HH.out.2.2.2.2.2 k x hx
      obtain ⟨m, hm⟩ : ∃ m : Nat, x.toInt = (m : Int) := ⟨x.toInt.toNat, by omega⟩
      rw [hm] at x0
      have hmn : m < nr := by have := HH.out.2.2.1; omega
      have hmI : (m : Int) < (nr : Int) := by omega
      obtain ⟨c, b2, off2, hc, hok, rfl, hbl2, c0, c1, c2⟩ := at_c (HH.out.1.over stays_c HB.out) hmn
      obtain ⟨g, cap, y, rr, e, hg0, _, hglt, hy, hrl, _, hcells, hth, _, hset⟩ := HL.out.2.2.at xok_c (i := k) (by rw [HL.out.1]; exact hk)
      rw [HL.out.1] at e
      cases e
      have hr2 : IntKind.i64.wrap ((k : Int) + 1) = (k : Int) + 1 := by rw [IntKind.wrap_i64]; omega
      have hth2 : wr.there w.heap.size (k * 3) (#[.int .i64 c.k, .int .i64 c.n, .string c.s] : Array Value).size := hth
      have HR : Hid ((∀ i, i < k + 1 → (l.set k c)[i]? = (rowA r cols)[i]?) ∧ OwnX (fun _ => CE) 3 71 (fun _ => False) w (wr.setCells w.heap.size (k * 3) [.int .i64 c.k, .int .i64 c.n, .string c.s]) (.slice (some ⟨w.heap.size, 0, none⟩) n n) (l.set k c)) := by
        refine ⟨prefix_step HL.out.2.1 (by rw [HL.out.1]; exact hk) (rowA_at hx hm hc), ?_⟩
        have := hset [.int .i64 c.k, .int .i64 c.n, .string c.s] c rfl ⟨hok, rfl⟩
        exact this
      have hone : (#[.int .i64 c.k, .int .i64 c.n, .string c.s] : Array Value).all (·.oneCell') = true := one_three (one_c (w := w) ⟨hok, rfl⟩)
      have HLL : Hid (l.length = n) := HL.out.1
      clear hx hx0 hxr hm hbl hbl2 hc hok hy hrl hcells hth hset hg0 hglt HL HB
      obtain ⟨ck, cn, cs⟩ := c
      simp only at c0 c1 c2 hth2 hone HR
      go_wp2_with (refine wpList_store_mid rfl 71 _ _ rfl w.heap.size (k * 3) #[.int .i64 ck, .int .i64 cn, .string cs] rfl rfl hth2 size_c hone ?_)
      go_roundg (n - (k + 1))
      case measure => clear hr2; omega
      case rel => exact ⟨k + 1, _, by clear hr2; omega, by go_num, by rw [List.length_set]; exact HLL.out, HR.out.1, HR.out.2⟩
    · have hkI : ¬ (k : Int) < (n : Int) := by omega
      obtain rfl : k = n := by omega
      go_wp2_with fail
      go_ret
      obtain ⟨h1, h2, R, r1, r2, r3, _, r5⟩ := HL.out
      have e : l = rowA r cols := prefix_done h2 h1 (by simp [rowA, HH.out.2.2.2.1])
      subst e
      exact ⟨⟨_, R, rfl, r1, r2, fun k hk => (r3 k hk).1⟩, r5⟩
end Go.Proofs.Ytflabcmjbhmphaa
/-
  The contract of mover's Project.
-/
namespace Go.Proofs.Ytflabcmjbhmphaa
open Go.RowKit

theorem infos_rw : (Try.prog.info? 40).map (fun i => (i.zero, i.size, i.bytes)) = some (some (.slice none 0 0), 1, 24) := by kernel_rfl
theorem rwX_nil (G : Nat → Prop) (w : World) : RwX G w [] [.slice none 0 0] := ⟨_, rfl, slX_nil _ _ _ _ _ _⟩
/-- The row at k. -/
theorem at_rw {w : World} {a : Option Addr} {n cap : Nat} {l : List (List Cl)} (h : RwsIs w (.slice a n cap) l) {k : Nat} (hk : k < n) : ∃ (r : List Cl) (b off : Nat) (a2 : Option Addr) (n2 c2 : Nat), l[k]? = some r ∧ a = some ⟨b, off, none⟩ ∧ b < w.heap.size ∧ w.cell? ⟨b, off + k, none⟩ = some (.slice a2 n2 c2) ∧ SlIs CE 3 w (.slice a2 n2 c2) r ∧ r.length = n2 ∧ n2 ≤ c2 := by
  obtain ⟨r, cs, b, off, h1, h2, h3, _, h5, h6⟩ := h.at hk
  obtain ⟨v, rfl, hv⟩ := h5
  obtain ⟨a2, n2, c2, rfl, hn, hc⟩ := hv.slice
  exact ⟨r, b, off, a2, n2, c2, h1, h2, h3, by simpa using h6 0 _ rfl, hv, hn, hc⟩
/-- What Project answers. -/
def ProjAns (w : World) (rows : List (List Cl)) (cols : List (BitVec 64)) (e : Ending) (w' : World) : Prop :=
  (if pokB rows cols then ∃ v, e = .returned (.tuple #[v, .int .i64 0]) ∧ RwsIs w' v (projA rows cols) else e = .returned (.tuple #[.slice none 0 0, .int .i64 1])) ∧ Below w.heap.size w w'
theorem proj_no {w w' : World} {rows : List (List Cl)} {cols : List (BitVec 64)} (h : pokB rows cols = false) (hb : Below w.heap.size w w') : ProjAns w rows cols (.returned (.tuple #[.slice none 0 0, .int .i64 1])) w' := ⟨by rw [if_neg (by simp [h])], hb⟩
theorem proj_yes {w w' : World} {rows : List (List Cl)} {cols : List (BitVec 64)} {v : Value} (h : pokB rows cols = true) (hv : RwsIs w' v (projA rows cols)) (hb : Below w.heap.size w w') : ProjAns w rows cols (.returned (.tuple #[v, .int .i64 0])) w' := ⟨by rw [if_pos h]; exact ⟨v, rfl, hv⟩, hb⟩
theorem projA_at {rows : List (List Cl)} {cols : List (BitVec 64)} {k : Nat} {r : List Cl} (h : rows[k]? = some r) : (projA rows cols)[k]? = some (rowA r cols) := by
  unfold projA; rw [List.getElem?_map, h]; rfl
set_option maxRecDepth 4000 in
set_option maxHeartbeats 4000000 in
theorem project_any {w : World} {vr vc : Value} {rows : List (List Cl)} {cols : List (BitVec 64)} (h : RwsIs w vr rows) (hc : IntsIs w vc cols) (hr : rows.length ≤ 1000) (hl : cols.length ≤ 1000) (hrl : ∀ r ∈ rows, r.length ≤ 1000) :
    Calls Try.prog 21 #[vr, vc] w (ProjAns w rows cols) := by
  have cu : ∀ W, Below w.heap.size w W → Calls Try.prog 42 #[.int .i64 (lastP rows rows.length), vc] W fun e w' => e = .returned (.bool (pokB rows cols)) ∧ Below W.heap.size W w' := fun W hW => areUpTo_any (hc.over stays_int hW) (by omega) _
  obtain ⟨a, n, cap, rfl, hn, hcap⟩ := h.slice
  obtain ⟨ac, nc, cc, rfl, hnc, hcc⟩ := hc.slice
  have hn1 : (n : Int) ≤ 1000 := by omega
  have HH : Hid (RwsIs w (.slice a n cap) rows ∧ IntsIs w (.slice ac nc cc) cols ∧ rows.length = n ∧ cols.length = nc ∧ n ≤ 1000 ∧ nc ≤ 1000 ∧ (∀ r ∈ rows, r.length ≤ 1000)) := ⟨h, hc, hn, hnc, by omega, by omega, hrl⟩
  have HCU : Hid (∀ W, Below w.heap.size w W → Calls Try.prog 42 #[.int .i64 (lastP rows rows.length), .slice ac nc cc] W fun e w' => e = .returned (.bool (pokB rows cols)) ∧ Below W.heap.size W w') := cu
  clear h hc hl hn hnc hrl hr cu hcap hcc
  go_enter Try.func21, Try.ntmps21
  go_wp2_with fail
  go_loopg [6, 14] n (fun gg s6 s14 wx => ∃ (k : Nat) (z : Int), k + gg = n ∧ s14 = .int .i64 k ∧ s6 = .int .i64 z ∧ Hid (z = lastP rows k) ∧ Hid (Below w.heap.size w wx))
  case atStart => exact ⟨0, _, by omega, rfl, rfl, rfl, Below.refl _ _⟩
  case round =>
    obtain ⟨k, z, hkg, rfl, rfl, HZ, HB⟩ := hrel
    by_cases hk : k < n
    · have hkI : (k : Int) < (n : Int) := by omega
      obtain ⟨r, b, off, a2, n2, c2, hx, rfl, _, x0, _, hn2, _⟩ := at_rw (HH.out.1.over stays_rw HB.out) hk
      have hr2 : IntKind.i64.wrap ((k : Int) + 1) = (k : Int) + 1 := by rw [IntKind.wrap_i64]; omega
      have hn2b : n2 ≤ 1000 := by rw [← hn2]; exact HH.out.2.2.2.2.2.2 r (List.mem_of_getElem? hx)
      have hr3 : IntKind.i64.wrap ((n2 : Int) - 1) = (n2 : Int) - 1 := by rw [IntKind.wrap_i64]; omega
      by_cases hm : z ≤ (n2 : Int) - 1
      · have HZ2 : Hid (z = lastP rows (k + 1)) := by unfold Hid; rw [lastP_at hx, ← HZ.out, hn2]; omega
        clear hx hn2 hn2b
        go_wp2_with fail
        go_roundg (n - (k + 1))
        case measure => clear hr2 hr3; omega
        case rel => exact ⟨k + 1, _, by clear hr2 hr3; omega, by go_num, rfl, HZ2, HB⟩
      · have HZ2 : Hid ((n2 : Int) - 1 = lastP rows (k + 1)) := by unfold Hid; rw [lastP_at hx, ← HZ.out, hn2]; omega
        clear hx hn2 hn2b
        go_wp2_with fail
        go_roundg (n - (k + 1))
        case measure => clear hr2 hr3; omega
        case rel => exact ⟨k + 1, _, by clear hr2 hr3; omega, by go_num, rfl, HZ2, HB⟩
    · have hkI : ¬ (k : Int) < (n : Int) := by omega
      obtain rfl : k = n := by omega
      have HC : Hid (Calls Try.prog 42 #[.int .i64 z, .slice ac nc cc] wr fun e w' => e = .returned (.bool (pokB rows cols)) ∧ Below wr.heap.size wr w') := by
        have := HCU.out wr HB.out
        rw [HH.out.2.2.1, ← HZ.out] at this
        exact this
      go_wp2_with fail
      refine HC.out.mono ?_
      rintro e w1 ⟨rfl, hb1⟩
      have HB1 : Hid (Below w.heap.size w w1) := HB.out.trans (hb1.mono HB.out.size)
      obtain ⟨q, hq⟩ : ∃ q, q = pokB rows cols := ⟨_, rfl⟩
      rw [← hq]
      have HQ : Hid (q = pokB rows cols) := hq
      clear hb1 hq HC HZ HB HCU
      cases q with
      | false =>
        go_wp2_with fail
        go_ret2
        exact proj_no HQ.out.symm HB1.out
      | true =>
        have HP := pok_iff.1 HQ.out.symm
        have HP : Hid (∀ (j : Nat) (c : BitVec 64), cols[j]? = some c → 0 ≤ c.toInt ∧ ∀ (i : Nat) (r : List Cl), rows[i]? = some r → c.toInt < r.length) := HP
        go_wp2_with (refine make_rows rfl _ _ 26 40 (.slice none 0 0) 1 24 rfl Try.underlying26 infos_rw rfl (by decide) (by decide) rfl rfl rfl (Nat.le_trans HH.out.2.2.2.2.1 (by decide)) ?_; intro w2 hs1 hb2)
        obtain ⟨g0, hg0⟩ : ∃ g0, g0 = w1.heap.size := ⟨_, rfl⟩
        have HO : Hid (OwnX RwX 1 40 (fun _ => False) w w2 (.slice (some ⟨g0, 0, none⟩) k k) (List.replicate k [])) := by
          rw [hg0]
          exact ownX_made hs1.out HB1.out hb2.out (fun G => rwX_nil G w2) (fun _ h => h.elim) (fun h => h)
        rw [← hg0]
        clear hs1 hb2 hg0
        go_loopg [33] k (fun gg s33 wx => ∃ (i : Nat) (l : List (List Cl)), i + gg = k ∧ s33 = .int .i64 i ∧ Hid (l.length = k ∧ (∀ j, j < i → l[j]? = (projA rows cols)[j]?) ∧ OwnX RwX 1 40 (fun _ => False) w wx (.slice (some ⟨g0, 0, none⟩) k k) l))
        case atStart => exact ⟨0, _, by omega, rfl, by simp, fun i hi => by omega, HO.out⟩
        case round =>
          clear HO HB1 HQ
          obtain ⟨i, l, hig, rfl, HL⟩ := hrel
          by_cases hi : i < k
          · have hiI : (i : Int) < (k : Int) := by omega
            have HB : Hid (Below w.heap.size w wr) := HL.out.2.2.bel
            obtain ⟨r, b, off, a2, n2, c2, hx, rfl, _, x0, hv, hn2, _⟩ := at_rw (HH.out.1.over stays_rw HB.out) hi
            have hr2 : IntKind.i64.wrap ((i : Int) + 1) = (i : Int) + 1 := by rw [IntKind.wrap_i64]; omega
            have HC : Hid (Calls Try.prog 43 #[.slice a2 n2 c2, .slice ac nc cc] wr (CloneAns CE 3 71 wr (rowA r cols))) :=
              cellsIn_any hv (HH.out.2.1.over stays_int HB.out) (by have := HH.out.2.2.2.2.2.1; have := HH.out.2.2.2.1; omega) (fun j x hj => ⟨(HP.out j x hj).1, (HP.out j x hj).2 i r hx⟩)
            have HX : Hid (rows[i]? = some r) := hx
            clear hx hv hn2
            go_wp2_with fail
            refine HC.out.mono ?_
            rintro e w3 ⟨⟨v3, R3, rfl, hs3, hE3, ho3⟩, hb3⟩
            obtain ⟨a3, n3, c3, rfl⟩ : ∃ a n c, v3 = .slice a n c := by rcases hs3 with ⟨rfl, _⟩ | ⟨g, c, rfl, _⟩ <;> exact ⟨_, _, _, rfl⟩
            have HL3 := HL.out.2.2.over xok_rw hb3
            obtain ⟨g, cap3, y, rr, e, hg, _, hglt, hy, hrl, _, hcells, hth, hset, _⟩ := HL3.at xok_rw (i := i) (by rw [HL.out.1]; exact hi)
            rw [HL.out.1] at e
            cases e
            obtain ⟨u, rfl⟩ : ∃ u, rr = [u] := by
              match rr, hrl with
              | [u], _ => exact ⟨u, rfl⟩
            have hcell := hcells 0 u rfl
            rw [Nat.mul_one, Nat.add_zero] at hcell
            have k0 := hcell.1
            have k1 := hcell.2
            have hglt0 : g0 < wr.heap.size := (HL.out.2.2.own (k := g0) rfl).2.2
            have HR : Hid ((∀ j, j < i + 1 → (l.set i (rowA r cols))[j]? = (projA rows cols)[j]?) ∧ OwnX RwX 1 40 (fun _ => False) w (w3.setCell ⟨g0, i, none⟩ (.slice a3 n3 c3)) (.slice (some ⟨g0, 0, none⟩) k k) (l.set i (rowA r cols))) := by
              refine ⟨prefix_step HL.out.2.1 (by rw [HL.out.1]; exact hi) (projA_at HX.out), ?_⟩
              have := hset 0 (.slice a3 n3 c3) (rowA r cols) (by decide) ⟨_, rfl, cloned_x hs3 hE3 ho3 (fun x hx => by
                rcases hx with hx | hx
                · have e : some g0 = some x := hx
                  cases e; exact hglt0
                · exact hx.elim)⟩
              rw [Nat.mul_one, Nat.add_zero] at this
              exact this
            have HLL : Hid (l.length = k) := HL.out.1
            clear hs3 hE3 ho3 hb3 hg hglt hy hrl hcells hth hset hcell HL3 HC hglt0
            go_wp2_with fail
            go_roundg (k - (i + 1))
            case measure => clear hr2; omega
            case rel => exact ⟨i + 1, _, by clear hr2; omega, by go_num, by rw [List.length_set]; exact HLL.out, HR.out.1, HR.out.2⟩
          · have hiI : ¬ (i : Int) < (k : Int) := by omega
            obtain rfl : i = k := by omega
            go_wp2_with fail
            go_ret2
            obtain ⟨h1, h2, h3⟩ := HL.out
            have e : l = projA rows cols := prefix_done h2 h1 (by simp [projA, HH.out.2.2.1])
            subst e
            exact proj_yes (pok_iff.2 HP.out) (h3.is xok_rw) h3.bel
end Go.Proofs.Ytflabcmjbhmphaa
/-
  The contracts of mover's Kinds, and of the document's.
-/
namespace Go.Proofs.Ytflabcmjbhmphaa
open Go.RowKit

/-- The column at k. -/
theorem at_col {w : World} {a : Option Addr} {n cap : Nat} {l : List Col} (h : ColsIs w (.slice a n cap) l) {k : Nat} (hk : k < n) : ∃ (c : Col) (b off : Nat), l[k]? = some c ∧ a = some ⟨b, off, none⟩ ∧ b < w.heap.size ∧ w.cell? ⟨b, off + k * 3, none⟩ = some (.string c.name) ∧ w.cell? ⟨b, off + k * 3 + 1, none⟩ = some (.int .i64 c.kind.toInt) ∧ w.cell? ⟨b, off + k * 3 + 2, none⟩ = some (.bool c.null) := by
  obtain ⟨c, cs, b, off, h1, h2, h3, _, h5, h6⟩ := h.at hk
  have e : cs = colC c := h5
  subst e
  exact ⟨c, b, off, h1, h2, h3, by simpa using h6 0 _ rfl, h6 1 _ rfl, h6 2 _ rfl⟩
def kokB (t : List Col) (cols : List (BitVec 64)) : Bool := upB ((t.length : Int) - 1) cols
def KindsAns (w : World) (t : List Col) (cols : List (BitVec 64)) (e : Ending) (w' : World) : Prop :=
  (if kokB t cols then ∃ v, e = .returned (.tuple #[v, .int .i64 0]) ∧ IntsIs w' v (kindsA t cols) else e = .returned (.tuple #[.slice none 0 0, .int .i64 1])) ∧ Below w.heap.size w w'
theorem kinds_no {w w' : World} {t : List Col} {cols : List (BitVec 64)} (h : kokB t cols = false) (hb : Below w.heap.size w w') : KindsAns w t cols (.returned (.tuple #[.slice none 0 0, .int .i64 1])) w' := ⟨by rw [if_neg (by simp [h])], hb⟩
theorem kinds_yes {w w' : World} {t : List Col} {cols : List (BitVec 64)} {v : Value} (h : kokB t cols = true) (hv : IntsIs w' v (kindsA t cols)) (hb : Below w.heap.size w w') : KindsAns w t cols (.returned (.tuple #[v, .int .i64 0])) w' := ⟨by rw [if_pos h]; exact ⟨v, rfl, hv⟩, hb⟩
theorem kindsA_at {t : List Col} {cols : List (BitVec 64)} {k m : Nat} {x : BitVec 64} {c : Col} (hx : cols[k]? = some x) (hm : x.toInt = (m : Int)) (hc : t[m]? = some c) : (kindsA t cols)[k]? = some c.kind := by
  unfold kindsA
  rw [List.getElem?_map, hx, Option.map_some, hm, Int.toNat_natCast, List.getD_eq_getElem?_getD, List.getElem?_map, hc]
  rfl
theorem infos_i : (Try.prog.info? 3).map (fun i => (i.zero, i.size, i.bytes)) = some (some (.int .i64 0), 1, 8) := by kernel_rfl
theorem xok_i : XOk (fun _ => IntE) IntE := ⟨fun h _ => h, fun h _ => h, fun h => h, fun h _ => h⟩
set_option maxRecDepth 4000 in
set_option maxHeartbeats 4000000 in
theorem kinds_any {w : World} {s0 s1 : ByteArray} {vt vp vc : Value} {z : Int} {t : List Col} {cols : List (BitVec 64)} (ht : ColsIs w vt t) (hc : IntsIs w vc cols) (hl : cols.length ≤ 1000) (htl : t.length ≤ 1000) (hp1 : ∃ a n c, vp = .slice a n c) :
    Calls Try.prog 23 #[.agg #[.string s0, vt, vp], .agg #[.string s1, vc, .int .i64 z]] w (KindsAns w t cols) := by
  have cu : ∀ W, Below w.heap.size w W → Calls Try.prog 42 #[.int .i64 ((t.length : Int) - 1), vc] W fun e w' => e = .returned (.bool (kokB t cols)) ∧ Below W.heap.size W w' := fun W hW => areUpTo_any (hc.over stays_int hW) (by omega) _
  obtain ⟨at', nt, ct, rfl, hnt, hct⟩ := ht.slice
  obtain ⟨ac, n, cc, rfl, hn, hcc⟩ := hc.slice
  obtain ⟨ap, np, cp, rfl⟩ := hp1
  rw [hnt] at cu
  have hn1 : (n : Int) ≤ 1000 := by omega
  have hnt1 : (nt : Int) ≤ 1000 := by omega
  have hr1 : IntKind.i64.wrap ((nt : Int) - 1) = (nt : Int) - 1 := by rw [IntKind.wrap_i64]; omega
  obtain ⟨W, hW⟩ : ∃ W, W = (w.alloc (.cells #[.string s0, .slice at' nt ct, .slice ap np cp] 49)).alloc (.cells #[.string s1, .slice ac n cc, .int .i64 z] 53) := ⟨_, rfl⟩
  have b2 : Below w.heap.size w W := by rw [hW]; exact below2 _ _ _
  have B0 : Box W w.heap.size 49 #[.string s0, .slice at' nt ct, .slice ap np cp] := by rw [hW]; exact box_old _ _ _ _
  have B1 : Box W (w.heap.size + 1) 53 #[.string s1, .slice ac n cc, .int .i64 z] := by rw [hW]; have := box_new (w.alloc (.cells #[.string s0, .slice at' nt ct, .slice ap np cp] 49)) #[.string s1, .slice ac n cc, .int .i64 z] 53; rwa [World.size_alloc] at this
  have HH : Hid (ColsIs w (.slice at' nt ct) t ∧ IntsIs w (.slice ac n cc) cols ∧ t.length = nt ∧ cols.length = n ∧ n ≤ 1000) := ⟨ht, hc, hnt, hn, by omega⟩
  have HX : Hid (Below w.heap.size w W ∧ Box W w.heap.size 49 #[.string s0, .slice at' nt ct, .slice ap np cp] ∧ Box W (w.heap.size + 1) 53 #[.string s1, .slice ac n cc, .int .i64 z]) := ⟨b2, B0, B1⟩
  have hcu := cu W b2
  have HW : Hid (W = (w.alloc (.cells #[.string s0, .slice at' nt ct, .slice ap np cp] 49)).alloc (.cells #[.string s1, .slice ac n cc, .int .i64 z] 53)) := hW
  clear ht hc hl htl hnt hn hct hcc cu b2 B0 B1
  clear HW
  subst hW
  go_enter Try.func23, Try.ntmps23
  go_wp2_with fail
  refine hcu.mono ?_
  rintro e w1 ⟨rfl, hb1⟩
  have HB1 : Hid (Below w.heap.size w w1) := HX.out.1.trans (hb1.mono HX.out.1.size)
  have HY : Hid (Box w1 w.heap.size 49 #[.string s0, .slice at' nt ct, .slice ap np cp] ∧ Box w1 (w.heap.size + 1) 53 #[.string s1, .slice ac n cc, .int .i64 z]) := ⟨HX.out.2.1.over hb1, HX.out.2.2.over hb1⟩
  obtain ⟨q, hq⟩ : ∃ q, q = kokB t cols := ⟨_, rfl⟩
  rw [← hq]
  have HQ : Hid (q = kokB t cols) := hq
  clear hb1 hq hcu
  cases q with
  | false =>
    go_wp2_with fail
    go_ret2
    exact kinds_no HQ.out.symm HB1.out
  | true =>
    have p1 := HY.out.2.cell 1 _ rfl
    go_wp2_with (refine make_rows rfl _ _ 45 3 (.int .i64 0) 1 8 rfl Try.underlying45 infos_i rfl (by decide) (by decide) rfl rfl rfl (Nat.le_trans HH.out.2.2.2.2 (by decide)) ?_; intro w2 hs1 hb2; have HY2 : Hid (Box w2 w.heap.size 49 #[.string s0, .slice at' nt ct, .slice ap np cp] ∧ Box w2 (w.heap.size + 1) 53 #[.string s1, .slice ac n cc, .int .i64 z]) := ⟨HY.out.1.over hb2.out, HY.out.2.over hb2.out⟩; clear p1; have p1 := HY2.out.2.cell 1 _ rfl)
    obtain ⟨g0, hg0⟩ : ∃ g0, g0 = w1.heap.size := ⟨_, rfl⟩
    have HO : Hid (OwnX (fun _ => IntE) 1 3 (fun _ => False) w w2 (.slice (some ⟨g0, 0, none⟩) n n) (List.replicate n 0#64) ∧ g0 ≠ w.heap.size ∧ g0 ≠ w.heap.size + 1) := by
      rw [hg0]
      refine ⟨ownX_made hs1.out HB1.out hb2.out (fun G => rfl) (fun _ h => h.elim) (fun h => h), ?_, ?_⟩
      · have := HY.out.1.lt; omega
      · have := HY.out.2.lt; omega
    rw [← hg0]
    clear hs1 hb2 hg0 p1
    go_loopg [24] n (fun gg s24 wx => ∃ (i : Nat) (l : List (BitVec 64)), i + gg = n ∧ s24 = .int .i64 i ∧ Hid (l.length = n ∧ (∀ j, j < i → l[j]? = (kindsA t cols)[j]?) ∧ OwnX (fun _ => IntE) 1 3 (fun _ => False) w wx (.slice (some ⟨g0, 0, none⟩) n n) l ∧ Box wx w.heap.size 49 #[.string s0, .slice at' nt ct, .slice ap np cp]))
    case atStart => exact ⟨0, _, by omega, rfl, by simp, fun i hi => by omega, HO.out.1, HY2.out.1⟩
    case round =>
      obtain ⟨i, l, hig, rfl, HL⟩ := hrel
      by_cases hi : i < n
      · have hiI : (i : Int) < (n : Int) := by omega
        have HB : Hid (Below w.heap.size w wr) := HL.out.2.2.1.bel
        obtain ⟨x, b, off, hx, rfl, _, x0⟩ := at_int (HH.out.2.1.over stays_int HB.out) hi
        have hup := upB_take HQ.out.symm hx
        obtain ⟨m, hm⟩ : ∃ m : Nat, x.toInt = (m : Int) := ⟨x.toInt.toNat, by omega⟩
        rw [hm] at x0
        have hmn : m < nt := by have := HH.out.2.2.1; omega
        have hmI : (m : Int) < (nt : Int) := by omega
        obtain ⟨c, b2, off2, hc, rfl, _, _, c1, _⟩ := at_col (HH.out.1.over stays_col HB.out) hmn
        have hr2 : IntKind.i64.wrap ((i : Int) + 1) = (i : Int) + 1 := by rw [IntKind.wrap_i64]; omega
        have t1 := HL.out.2.2.2.cell 1 _ rfl
        obtain ⟨g, cap3, y, rr, e, hg, _, hglt, hy, hrl, _, hcells, hth, hset, _⟩ := HL.out.2.2.1.at xok_i (i := i) (by rw [HL.out.1]; exact hi)
        rw [HL.out.1] at e
        cases e
        obtain ⟨u, rfl⟩ : ∃ u, rr = [u] := by
          match rr, hrl with
          | [u], _ => exact ⟨u, rfl⟩
        have hcell := hcells 0 u rfl
        rw [Nat.mul_one, Nat.add_zero] at hcell
        have k0 := hcell.1
        have k1 := hcell.2
        obtain ⟨kd, hkd⟩ : ∃ kd, kd = c.kind.toInt := ⟨_, rfl⟩
        rw [← hkd] at c1
        have HR : Hid ((∀ j, j < i + 1 → (l.set i c.kind)[j]? = (kindsA t cols)[j]?) ∧ OwnX (fun _ => IntE) 1 3 (fun _ => False) w (wr.setCell ⟨g0, i, none⟩ (.int .i64 kd)) (.slice (some ⟨g0, 0, none⟩) n n) (l.set i c.kind) ∧ Box (wr.setCell ⟨g0, i, none⟩ (.int .i64 kd)) w.heap.size 49 #[.string s0, .slice (some ⟨b2, off2, none⟩) nt ct, .slice ap np cp]) := by
          refine ⟨prefix_step HL.out.2.1 (by rw [HL.out.1]; exact hi) (kindsA_at hx hm hc), ?_, HL.out.2.2.2.other (a := ⟨g0, i, none⟩) HO.out.2.1.symm _⟩
          have := hset 0 (.int .i64 kd) c.kind (by decide) (by show [_] = _; rw [hkd])
          rw [Nat.mul_one, Nat.add_zero] at this
          exact this
        have HLL : Hid (l.length = n) := HL.out.1
        clear hx hup hm hc hg hglt hy hrl hcells hth hset hcell hkd
        go_wp2_with fail
        go_roundg (n - (i + 1))
        case measure => clear hr2; omega
        case rel => exact ⟨i + 1, _, by clear hr2; omega, by go_num, by rw [List.length_set]; exact HLL.out, HR.out.1, HR.out.2.1, HR.out.2.2⟩
      · have hiI : ¬ (i : Int) < (n : Int) := by omega
        obtain rfl : i = n := by omega
        go_wp2_with fail
        go_ret2
        obtain ⟨h1, h2, h3, _⟩ := HL.out
        have e : l = kindsA t cols := prefix_done h2 h1 (by simp [kindsA, HH.out.2.2.2.1])
        subst e
        exact kinds_yes HQ.out.symm (h3.is xok_i) h3.bel
end Go.Proofs.Ytflabcmjbhmphaa
/-
  Append of one row that was made just ahead: as an operation of a region that draws its order; and onto a list whose elements lie elsewhere.
-/
namespace Go.Proofs.Ytflabcmjbhmphaa
open Go.RowKit

theorem below_drewN {B : Nat} {a w : World} (h : Below B a w) (n : Nat) : Below B a (w.drewN n) := ⟨h.os, h.tape, h.output, h.size, h.block⟩
theorem OwnS.over {α : Type} {E : World → α → List Value → Prop} {sz : Nat} {t : TypeId} {w0 w w' : World} {v : Value} {l : List α} (h : OwnS E sz t w0 w v l) (k : Below w.heap.size w w') : OwnS E sz t w0 w' v l := by
  obtain ⟨R, h1, h2, h3, h4⟩ := h
  exact ⟨R, h1.of_block (fun g hg => k.block g (h1.lt hg)), h2, h3, h4.trans (k.mono h4.size)⟩
theorem OwnS.drewN {α : Type} {E : World → α → List Value → Prop} {sz : Nat} {t : TypeId} {w0 w : World} {v : Value} {l : List α} (h : OwnS E sz t w0 w v l) (n : Nat) : OwnS E sz t w0 (w.drewN n) v l := h.over (below_drewN (Below.refl _ _) n)
theorem then_val {v : Value} {w' : World} {r : Result Value} (h : r = .ok v w') : (r.andThen fun a w' => Result.ok (Next.value a) w') = .ok (Next.value v) w' := by rw [h]; rfl
section
variable {α : Type} {E : World → α → List Value → Prop}
theorem run_append_one (T e : TypeId) (z : Value) (sz bytes : Nat) (hT : Try.prog.underlying T = some (.slice e)) (hi : (Try.prog.info? e).map (fun i => (i.zero, i.size, i.bytes)) = some (some z, sz, bytes)) (hzs : z.cells.size = sz) (hsz : 0 < sz) (hbl : bytes ≤ 200)
    {w0 w : World} {v : Value} {l1 : List α} {y : α} {cs : Array Value} (hcs : cs.size = sz) (hone : ∀ x cs, E w0 x cs → ∀ u ∈ cs, u.oneCell' = true) (hv : OwnS E sz e w0 w v l1) (hy : E w0 y cs.toList) (m : Nat) (hm : l1.length + 1 = m) (hl : m ≤ 1000000) (ty : TypeId) :
    ∃ va vc w', (Builtin.append_ #[T, T] ty #[v, .slice (some ⟨w.heap.size, 0, none⟩) 1 1]).run Try.prog (w.alloc (.cells cs e)) = .ok (.slice va m vc) w' ∧ OwnS E sz e w0 w' (.slice va m vc) (l1 ++ [y]) := by
  obtain ⟨R1, r1, r2, r3, r4⟩ := hv
  obtain ⟨i0, hi0, hz0, hz1, hz2⟩ := info_parts hi
  have b1 : Box (w.alloc (.cells cs e)) w.heap.size e cs := box_new _ _ _
  have k1 : Below w.heap.size w (w.alloc (.cells cs e)) := below1 _ _
  have r1' : SRows (w.alloc (.cells cs e)) v e sz R1 := r1.of_block (fun k hk => k1.block k (r1.lt hk))
  have r4' := r4.trans (k1.mono r4.size)
  have hown := srows_own_base r1' hsz r3
  have hR : R1.length + 1 = m := by rw [r2.1]; exact hm
  have hE1 : RowsE E w0 [y] [cs.toList] := by
    refine ⟨rfl, fun i x r hx hr => ?_⟩
    cases i with
    | zero => simp at hx hr; subst hx hr; exact hy
    | succ i => simp at hx
  obtain ⟨v', w', hr, hown', hgrow, _⟩ := run_append_own (P := Try.prog) (w.alloc (.cells cs e)) w0.heap.size T ty e i0 z sz bytes hT hi0 hz0 hz1 hz2 hzs hsz v R1.length R1.flatten hown ⟨w.heap.size, 0, none⟩ 1 1 cs.toList (by rw [Nat.one_mul]; simpa using hcs) (fun j u hu => by have := b1.cell j u (by simpa using hu); rw [add_off, Nat.zero_add]; exact this) (fun u hu => hone _ _ hy u hu) (by unfold maxLen; omega) (by have : (R1.length + 1) * bytes ≤ 1000000 * 200 := Nat.mul_le_mul (by omega) hbl; omega) r4'.size
  rw [hR] at hown'
  obtain ⟨⟨va, vc, rfl⟩, hvb⟩ := own_shape hown'
  refine ⟨va, vc, w', hr, R1 ++ [cs.toList], srows_of_own hown' (by simp) (fun r hr => ?_) hsz (by simp [hR]), rowsE_append r2 hE1, hvb, r4'.trans ((Below.refl _ _).grown hgrow r4'.size fun k hk => r3 k hk)⟩
  rcases List.mem_append.1 hr with hr | hr
  · exact r1.rowlen r hr
  · simp at hr; rw [hr]; simpa using hcs
end
section
variable {α : Type} {EX : (Nat → Prop) → World → α → List Value → Prop} {E : World → α → List Value → Prop} {ops : Array Oper} {rest : List Oper} {o : Oper} {a : Act} {Q : Exit → Act → World → Prop} {w : World}
/-- Append of one row whose own parts lie elsewhere. -/
theorem append_x (ho : XOk EX E) (hgd : o.guard = none) (s x : Operand) (T e : TypeId) (z : Value) (sz bytes : Nat) (hop : o.op = .call { callee := .builtin .append, args := #[s, x], argTypes := #[T, T] })
    (hT : Try.prog.underlying T = some (.slice e)) (hi : (Try.prog.info? e).map (fun i => (i.zero, i.size, i.bytes)) = some (some z, sz, bytes)) (hzs : z.cells.size = sz) (hsz : 0 < sz) (hbl : bytes ≤ 200)
    {w0 : World} {v : Value} {l1 : List α} {y : α} {cs : Array Value} (hcs : cs.size = sz) (hs : a.eval s = v) (hx : a.eval x = .slice (some ⟨w.heap.size, 0, none⟩) 1 1) (hone : ∀ u ∈ cs.toList, u.oneCell' = true)
    (hv : OwnX EX sz e (fun _ => False) w0 w v l1) (hy : EX (fun k => v.ownBlock = some k ∨ False) w y cs.toList) (m : Nat) (hm : l1.length + 1 = m) (hl : m ≤ 1000000)
    (h : ∀ va vc w', Hid (OwnX EX sz e (fun _ => False) w0 w' (.slice va m vc) (l1 ++ [y])) → wpList Try.prog ops Q rest (a.put o.dst (.slice va m vc)) w') :
    wpList Try.prog ops Q (o :: rest) a (w.alloc (.cells cs e)) := by
  obtain ⟨R1, r1, r2, r3, r4, r5⟩ := hv
  have b1 : Box (w.alloc (.cells cs e)) w.heap.size e cs := box_new _ _ _
  have k1 : Below w.heap.size w (w.alloc (.cells cs e)) := below1 _ _
  have r1' : SRows (w.alloc (.cells cs e)) v e sz R1 := r1.of_block (fun k hk => k1.block k (r1.lt hk))
  have r5' := r5.trans (k1.mono r5.size)
  obtain ⟨i0, hi0, hz0, hz1, hz2⟩ := info_parts hi
  have hE1 : RowsE (EX (fun k => v.ownBlock = some k ∨ False)) w [y] [cs.toList] := by
    refine ⟨rfl, fun i x r hx hr => ?_⟩
    cases i with
    | zero => simp at hx hr; subst hx hr; exact hy
    | succ i => simp at hx
  refine append_any hgd s x T e i0 z sz bytes hop hT hi0 hz0 hz1 hz2 hzs hsz hbl hs hx r1' (R2 := [cs.toList]) rfl (fun r hr => by simp at hr; rw [hr]; simpa using hcs) (fun j u hu => ?_) (fun r hr c hc => ?_) m (by rw [r2.1]; exact hm) (R1 ++ [cs.toList]) rfl hl ?_
  · have hc := b1.cell j u (by simpa using hu)
    rw [add_off, Nat.zero_add]
    exact hc
  · simp only [List.mem_singleton] at hr
    subst hr
    exact hone c hc
  · intro va vc w' q1 q2 q3
    have hK : Kept (fun k => v.ownBlock = some k) w w' := ((Kept.refl _ w).alloc _).trans q3.out (fun _ hk => .inl hk)
    have hw : ∀ k, (Value.slice va m vc).ownBlock = some k → v.ownBlock = some k ∨ w.heap.size ≤ k := fun k hk => by
      rcases q2.out k hk with q | q
      · exact .inl q
      · exact .inr (Nat.le_trans k1.size q)
    have hall := rowsE_append r2 hE1
    refine h va vc w' ⟨R1 ++ [cs.toList], q1.out, ⟨hall.1, fun i x r hx hr => ?_⟩, fun k hk => ⟨?_, fun h => h⟩, fun k hk => hk.elim, r5'.trans (q3.out.below (fun k hk => (r3 k hk).1) r5'.size)⟩
    · have hxx : EX (fun k => (Value.slice va m vc).ownBlock = some k ∨ v.ownBlock = some k) w x r := ho.other (hall.2 i x r hx hr) fun b hb hg => by
        rcases hg with hg | hg
        · rcases hw b hg with q | q
          · exact .inl q
          · omega
        · exact .inl hg
      have hyy := ho.kept hxx (hK.mono fun k hk => .inr hk)
      exact ho.other hyy fun b hb hg => by
        rcases hg with hg | hg
        · exact .inl hg
        · exact hg.elim
    · rcases hw k hk with q | q
      · exact (r3 k q).1
      · exact Nat.le_trans r5.size q
end
end Go.Proofs.Ytflabcmjbhmphaa
/-
  The contract of the document's Kinds.
-/
namespace Go.Proofs.Ytflabcmjbhmphaa
open Go.RowKit

theorem one_i {w : World} {c : BitVec 64} {cs : List Value} (h : IntE w c cs) : ∀ u ∈ cs, u.oneCell' = true := by
  have e : cs = [.int .i64 c.toInt] := h
  subst e
  intro u hu
  simp only [List.mem_cons, List.not_mem_nil, or_false] at hu
  rcases hu with rfl; rfl
theorem kindsA_take {t : List Col} {cols : List (BitVec 64)} {k m : Nat} {x : BitVec 64} {c : Col} (hx : cols[k]? = some x) (hm : x.toInt = (m : Int)) (hc : t[m]? = some c) : (kindsA t cols).take (k + 1) = (kindsA t cols).take k ++ [c.kind] := take_succ_of (kindsA_at hx hm hc)
set_option maxRecDepth 4000 in
set_option maxHeartbeats 4000000 in
theorem refKinds_any {w : World} {s0 s1 : ByteArray} {vt vp vc : Value} {z : Int} {t : List Col} {cols : List (BitVec 64)} (ht : ColsIs w vt t) (hc : IntsIs w vc cols) (hl : cols.length ≤ 1000) (htl : t.length ≤ 1000) (hp1 : ∃ a n c, vp = .slice a n c) :
    Calls Try.prog 24 #[.agg #[.string s0, vt, vp], .agg #[.string s1, vc, .int .i64 z]] w (KindsAns w t cols) := by
  obtain ⟨at', nt, ct, rfl, hnt, hct⟩ := ht.slice
  obtain ⟨ac, n, cc, rfl, hn, hcc⟩ := hc.slice
  obtain ⟨ap, np, cp, rfl⟩ := hp1
  have hn1 : (n : Int) ≤ 1000 := by omega
  have hnt1 : (nt : Int) ≤ 1000 := by omega
  obtain ⟨W, hW⟩ : ∃ W, W = (w.alloc (.cells #[.string s0, .slice at' nt ct, .slice ap np cp] 49)).alloc (.cells #[.string s1, .slice ac n cc, .int .i64 z] 53) := ⟨_, rfl⟩
  have b2 : Below w.heap.size w W := by rw [hW]; exact below2 _ _ _
  have B0 : Box W w.heap.size 49 #[.string s0, .slice at' nt ct, .slice ap np cp] := by rw [hW]; exact box_old _ _ _ _
  have B1 : Box W (w.heap.size + 1) 53 #[.string s1, .slice ac n cc, .int .i64 z] := by rw [hW]; have := box_new (w.alloc (.cells #[.string s0, .slice at' nt ct, .slice ap np cp] 49)) #[.string s1, .slice ac n cc, .int .i64 z] 53; rwa [World.size_alloc] at this
  have HH : Hid (ColsIs w (.slice at' nt ct) t ∧ IntsIs w (.slice ac n cc) cols ∧ t.length = nt ∧ cols.length = n ∧ n ≤ 1000) := ⟨ht, hc, hnt, hn, by omega⟩
  have HX : Hid (Below w.heap.size w W ∧ Box W w.heap.size 49 #[.string s0, .slice at' nt ct, .slice ap np cp] ∧ Box W (w.heap.size + 1) 53 #[.string s1, .slice ac n cc, .int .i64 z]) := ⟨b2, B0, B1⟩
  obtain ⟨gt, hgt⟩ : ∃ gt, gt = w.heap.size := ⟨_, rfl⟩
  have HG : Hid (gt = w.heap.size) := hgt
  have HW : Hid (W = (w.alloc (.cells #[.string s0, .slice at' nt ct, .slice ap np cp] 49)).alloc (.cells #[.string s1, .slice ac n cc, .int .i64 z] 53)) := hW
  clear ht hc hl htl hnt hn hct hcc b2 B0 B1 hW hgt
  go_enter Try.func24, Try.ntmps24
  go_wp2_with fail
  go_loopg [6, 7] n (fun gg s6 s7 wx => ∃ (i : Nat) (a6 : Option Addr) (c6 : Nat), i + gg = n ∧ s7 = .int .i64 i ∧ s6 = .slice a6 i c6 ∧ Hid (OwnS IntE 1 3 W wx (.slice a6 i c6) ((kindsA t cols).take i) ∧ ∀ (j : Nat) (x : BitVec 64), j < i → cols[j]? = some x → 0 ≤ x.toInt ∧ x.toInt ≤ (t.length : Int) - 1))
  case atStart => exact ⟨0, none, 0, by omega, rfl, rfl, by rw [List.take_zero, ← HW.out]; exact ownS_nil _ _ _ (Below.refl _ _), fun j x hj => by omega⟩
  case round =>
    obtain ⟨i, a6, c6, hig, rfl, rfl, HL⟩ := hrel
    have HB : Hid (Below W.heap.size W wr) := HL.out.1.bel
    have t1 := (HX.out.2.1.over HB.out).cell 1 _ rfl
    have p1 := (HX.out.2.2.over HB.out).cell 1 _ rfl
    have HBw : Hid (Below w.heap.size w wr) := HX.out.1.trans (HB.out.mono HX.out.1.size)
    by_cases hi : i < n
    · have hiI : (i : Int) < (n : Int) := by omega
      obtain ⟨x, b, off, hx, rfl, hbx, x00⟩ := at_int HH.out.2.1 hi
      have x0 := (HBw.out.cell (p := ⟨b, off + i, none⟩) hbx).trans x00
      have hr2 : IntKind.i64.wrap ((i : Int) + 1) = (i : Int) + 1 := by rw [IntKind.wrap_i64]; omega
      obtain ⟨zx, hzx⟩ : ∃ zx, zx = x.toInt := ⟨_, rfl⟩
      rw [← hzx] at x0 x00
      have HXX : Hid (cols[i]? = some x ∧ zx = x.toInt ∧ b < w.heap.size ∧ w.cell? ⟨b, off + i, none⟩ = some (.int .i64 zx)) := ⟨hx, hzx, hbx, x00⟩
      clear hx hzx hbx x00
      by_cases h1 : zx < 0
      · have d1 : decide (zx < 0) = true := by simpa using h1
        go_wp2_with fail
        go_quiet (fail)
        go_wp2_with fail
        go_ret2
        exact kinds_no (upB_no HXX.out.1 (fun h => by have := HXX.out.2.1; omega)) (below_drewN HBw.out _)
      · have d1 : decide (zx < 0) = false := by simpa using h1
        by_cases h2 : (nt : Int) ≤ zx
        · go_wp2_with fail
          go_quiet (fail)
          go_wp2_with fail
          go_ret2
          exact kinds_no (upB_no HXX.out.1 (fun h => by have := HXX.out.2.1; have := HH.out.2.2.1; omega)) (below_drewN HBw.out _)
        · have d2 : decide ((nt : Int) ≤ zx) = false := by simpa using h2
          obtain ⟨m, hm⟩ : ∃ m : Nat, zx = (m : Int) := ⟨zx.toNat, by omega⟩
          subst hm
          have hmI : (m : Int) < (nt : Int) := by omega
          obtain ⟨c, bt, offt, hc, rfl, hbt, _, c10, _⟩ := at_col HH.out.1 (k := m) (by omega)
          have c1 := (HBw.out.cell (p := ⟨bt, offt + m * 3 + 1, none⟩) hbt).trans c10
          obtain ⟨kd, hkd⟩ : ∃ kd, kd = c.kind.toInt := ⟨_, rfl⟩
          rw [← hkd] at c1 c10
          have HC : Hid (t[m]? = some c ∧ kd = c.kind.toInt ∧ bt < w.heap.size ∧ w.cell? ⟨bt, offt + m * 3 + 1, none⟩ = some (.int .i64 kd)) := ⟨hc, hkd, hbt, c10⟩
          have HM : Hid (m < nt) := by unfold Hid; omega
          clear hc hkd hbt c10
          go_wp2_with fail
          go_quiet (fail)
          go_wp2_with fail
          obtain ⟨W1, hW1⟩ : ∃ W1, W1 = wr.drewN nq := ⟨_, rfl⟩
          have HS1 : Hid (OwnS IntE 1 3 W W1.drew (.slice a6 i c6) ((kindsA t cols).take i)) := by rw [hW1]; exact (HL.out.1.drewN nq).over ((Below.refl _ _).drew)
          rw [← hW1]
          clear t1 p1 x0 c1 hW1
          obtain ⟨va, vc, w2, hrun, ho2⟩ := run_append_one (E := IntE) 45 3 (.int .i64 0) 1 8 Try.underlying45 infos_i rfl (by decide) (by decide) (cs := #[.int .i64 kd]) rfl (fun _ _ h => one_i h) HS1.out (show IntE W c.kind _ by show [_] = _; rw [HC.out.2.1]) (i + 1) (by rw [List.length_take, Nat.min_eq_left (by simp [kindsA, HH.out.2.2.2.1]; omega)]) (by omega) 45
          have HW2 : Hid (OwnS IntE 1 3 W w2 (.slice va (i + 1) vc) ((kindsA t cols).take (i + 1))) := by unfold Hid; rw [kindsA_take HXX.out.1 (by rw [← HXX.out.2.1]) HC.out.1]; exact ho2
          have HRUN : Hid ((Builtin.append_ #[45, 45] 45 #[.slice a6 i c6, .slice (some ⟨W1.drew.heap.size, 0, none⟩) 1 1]).run Try.prog (W1.drew.alloc (.cells #[.int .i64 kd] 3)) = .ok (.slice va (i + 1) vc) w2) := hrun
          have HS : Hid (∀ W', Below W.heap.size W W' → W'.cell? ⟨w.heap.size, 1, none⟩ = some (.slice (some ⟨bt, offt, none⟩) nt ct) ∧ W'.cell? ⟨w.heap.size + 1, 1, none⟩ = some (.slice (some ⟨b, off, none⟩) n cc) ∧ W'.cell? ⟨b, off + i, none⟩ = some (.int .i64 m) ∧ W'.cell? ⟨bt, offt + m * 3 + 1, none⟩ = some (.int .i64 kd)) := fun W' hW' => by
            have hw := HX.out.1.trans (hW'.mono HX.out.1.size)
            exact ⟨(HX.out.2.1.over hW').cell 1 _ rfl, (HX.out.2.2.over hW').cell 1 _ rfl, (hw.cell (p := ⟨b, off + i, none⟩) HXX.out.2.2.1).trans HXX.out.2.2.2, (hw.cell (p := ⟨bt, offt + m * 3 + 1, none⟩) HC.out.2.2.1).trans HC.out.2.2.2⟩
          have hHeld := HS.out _ HS1.out.bel
          have hHeld2 := HS.out _ (HS1.out.alloc (.cells #[.int .i64 kd] 3)).bel
          have hHeld3 := HS.out _ HW2.out.bel
          clear hrun ho2
          refine wp_region_held_then (fun W' : World => W'.cell? ⟨w.heap.size, 1, none⟩ = some (.slice (some ⟨bt, offt, none⟩) nt ct) ∧ W'.cell? ⟨w.heap.size + 1, 1, none⟩ = some (.slice (some ⟨b, off, none⟩) n cc) ∧ W'.cell? ⟨b, off + i, none⟩ = some (.int .i64 m) ∧ W'.cell? ⟨bt, offt + m * 3 + 1, none⟩ = some (.int .i64 kd)) _ (by kernel_rfl) rfl (by kernel_rfl) ?_
          dsimp only [List.dropLast, List.length, List.getLast]
          ((refine takeL 0 (v := ?_) rfl (by kernel_rfl) (by kernel_rfl) (by kernel_rfl) (fun _ _ _ h => h) (by rfl) hHeld ?_ ?_; rotate_left; focus (intro w hSw; (try dsimp only at hSw); go_simp <;> with_reducible rfl); (try simp only [Act.put, List.setIfInBounds_toArray, List.set_cons_zero, List.set_cons_succ])); (refine takeL 1 (v := ?_) rfl (by kernel_rfl) (by kernel_rfl) (by kernel_rfl) (fun _ _ _ h => h) (by rfl) hHeld ?_ ?_; rotate_left; focus (intro w hSw; (try dsimp only at hSw); go_simp <;> with_reducible rfl); (try simp only [Act.put, List.setIfInBounds_toArray, List.set_cons_zero, List.set_cons_succ])); (refine takeL 2 (v := ?_) rfl (by kernel_rfl) (by kernel_rfl) (by kernel_rfl) (fun _ _ _ h => h) (by rfl) hHeld ?_ ?_; rotate_left; focus (intro w hSw; (try dsimp only at hSw); go_simp <;> with_reducible rfl); (try simp only [Act.put, List.setIfInBounds_toArray, List.set_cons_zero, List.set_cons_succ])); (refine takeL 3 (v := ?_) rfl (by kernel_rfl) (by kernel_rfl) (by kernel_rfl) (fun _ _ _ h => h) (by rfl) hHeld ?_ ?_; rotate_left; focus (intro w hSw; (try dsimp only at hSw); go_simp <;> with_reducible rfl); (try simp only [Act.put, List.setIfInBounds_toArray, List.set_cons_zero, List.set_cons_succ])))
          dsimp only [Act.put]
          simp only [List.setIfInBounds_toArray, List.set_cons_zero, List.set_cons_succ]
          ((refine takeL 4 (v := ?_) rfl (by kernel_rfl) (by kernel_rfl) (by kernel_rfl) (fun _ _ _ h => h) (by rfl) hHeld ?_ ?_; rotate_left; focus (intro w hSw; (try dsimp only at hSw); go_simp <;> with_reducible rfl); (try simp only [Act.put, List.setIfInBounds_toArray, List.set_cons_zero, List.set_cons_succ])); (refine takeL 5 (v := ?_) rfl (by kernel_rfl) (by kernel_rfl) (by kernel_rfl) (fun _ _ _ h => h) (by rfl) hHeld ?_ ?_; rotate_left; focus (intro w hSw; (try dsimp only at hSw); go_simp <;> with_reducible rfl); (try simp only [Act.put, List.setIfInBounds_toArray, List.set_cons_zero, List.set_cons_succ])); (refine takeL 6 (v := ?_) rfl (by kernel_rfl) (by kernel_rfl) (by kernel_rfl) (fun _ _ _ h => h) (by rfl) hHeld ?_ ?_; rotate_left; focus (intro w hSw; (try dsimp only at hSw); go_simp <;> with_reducible rfl); (try simp only [Act.put, List.setIfInBounds_toArray, List.set_cons_zero, List.set_cons_succ])); (refine takeL 7 (v := ?_) rfl (by kernel_rfl) (by kernel_rfl) (by kernel_rfl) (fun _ _ _ h => h) (by rfl) hHeld ?_ ?_; rotate_left; focus (intro w hSw; (try dsimp only at hSw); go_simp <;> with_reducible rfl); (try simp only [Act.put, List.setIfInBounds_toArray, List.set_cons_zero, List.set_cons_succ])))
          dsimp only [Act.put]
          simp only [List.setIfInBounds_toArray, List.set_cons_zero, List.set_cons_succ]
          ((refine takeL 8 (v := ?_) rfl (by kernel_rfl) (by kernel_rfl) (by kernel_rfl) (fun _ _ _ h => h) (by rfl) hHeld ?_ ?_; rotate_left; focus (intro w hSw; (try dsimp only at hSw); go_simp <;> with_reducible rfl); (try simp only [Act.put, List.setIfInBounds_toArray, List.set_cons_zero, List.set_cons_succ])); (refine takeL 9 (v := ?_) rfl (by kernel_rfl) (by kernel_rfl) (by kernel_rfl) (fun _ _ _ h => h) (by rfl) hHeld ?_ ?_; rotate_left; focus (intro w hSw; (try dsimp only at hSw); go_simp <;> with_reducible rfl); (try simp only [Act.put, List.setIfInBounds_toArray, List.set_cons_zero, List.set_cons_succ])); (refine takeL 10 (v := ?_) rfl (by kernel_rfl) (by kernel_rfl) (by kernel_rfl) (fun _ _ _ h => h) (by rfl) hHeld ?_ ?_; rotate_left; focus (intro w hSw; (try dsimp only at hSw); go_simp <;> with_reducible rfl); (try simp only [Act.put, List.setIfInBounds_toArray, List.set_cons_zero, List.set_cons_succ])))
          dsimp only [Act.put]
          simp only [List.setIfInBounds_toArray, List.set_cons_zero, List.set_cons_succ]
          refine newL 11 (W1.drew.alloc (.cells #[.int .i64 kd] 3)) (.slice (some ⟨W1.drew.heap.size, 0, none⟩) 1 1) rfl (by kernel_rfl) (by rfl) (by go_simp) hHeld2 ?_
          dsimp only [Act.put]
          simp only [List.setIfInBounds_toArray, List.set_cons_zero, List.set_cons_succ]
          refine newL 12 w2 (.slice va (i + 1) vc) rfl (by kernel_rfl) (by rfl) ?_ hHeld3 ?_
          · unfold execOp
            simp only [resolve, invoke, builtin, Sem.run_bind, Sem.run_pure, Result.andThen_ok, List.map_toArray, List.map_cons, List.map_nil]
            exact then_val HRUN.out
          refine doneL (by kernel_rfl) ?_
          dsimp only [Act.put]
          unfold Oper.wp
          clear hHeld hHeld2 hHeld3
          go_simp
          go_wp2_with fail
          go_roundg (n - (i + 1))
          case measure => clear hr2; omega
          case rel => exact ⟨i + 1, _, _, by clear hr2; omega, by go_num, rfl, HW2.out, fun j x hj hx => by
            by_cases e : j = i
            · subst e
              obtain rfl := Option.some.inj (HXX.out.1.symm.trans hx)
              have := HXX.out.2.1; have := HM.out; have := HH.out.2.2.1; omega
            · exact HL.out.2 j x (by clear hr2; omega) hx⟩
    · have hiI : ¬ (i : Int) < (n : Int) := by omega
      obtain rfl : i = n := by omega
      go_wp2_with fail
      go_ret2
      obtain ⟨h1, h2⟩ := HL.out
      have e : (kindsA t cols).take i = kindsA t cols := List.take_of_length_le (by simp [kindsA, HH.out.2.2.2.1])
      rw [e] at h1
      exact kinds_yes (upB_yes fun j x hj => h2 j x (by have := (List.getElem?_eq_some_iff.1 hj).1; have := HH.out.2.2.2.1; omega) hj) (h1.is stays_int) HBw.out
end Go.Proofs.Ytflabcmjbhmphaa
/-
  The contract of the document's Project.
-/
namespace Go.Proofs.Ytflabcmjbhmphaa
open Go.RowKit

theorem slX_own {w0 w : World} {t : TypeId} {v : Value} {r : List Cl} {G : Nat → Prop} (h : OwnS CE 3 t w0 w v r) (hG : ∀ k, G k → k < w0.heap.size) : SlX G CE 3 w v r := by
  obtain ⟨R, h1, h2, h3, _⟩ := h
  exact slX_of_srows h1 ⟨h2.1, h2.2⟩ fun k hk hg => by have := h3 k hk; have := hG k hg; omega
theorem pok_no {rows : List (List Cl)} {cols : List (BitVec 64)} {i j : Nat} {r : List Cl} {x : BitVec 64} (hr : rows[i]? = some r) (hx : cols[j]? = some x) (h : ¬ (0 ≤ x.toInt ∧ x.toInt < r.length)) : pokB rows cols = false := by
  cases e : pokB rows cols with
  | false => rfl
  | true => exact absurd ⟨((pok_iff.1 e) j x hx).1, ((pok_iff.1 e) j x hx).2 i r hr⟩ h
theorem pok_neg {rows : List (List Cl)} {cols : List (BitVec 64)} {j : Nat} {x : BitVec 64} (hx : cols[j]? = some x) (h : x.toInt < 0) : pokB rows cols = false := by
  cases e : pokB rows cols with
  | false => rfl
  | true => have := ((pok_iff.1 e) j x hx).1; omega
set_option maxRecDepth 4000 in
set_option maxHeartbeats 8000000 in
theorem refProject_any {w : World} {vr vc : Value} {rows : List (List Cl)} {cols : List (BitVec 64)} (h : RwsIs w vr rows) (hc : IntsIs w vc cols) (hr : rows.length ≤ 1000) (hl : cols.length ≤ 1000) (hrl : ∀ r ∈ rows, r.length ≤ 1000) :
    Calls Try.prog 22 #[vr, vc] w (ProjAns w rows cols) := by
  obtain ⟨a, n, cap, rfl, hn, hcap⟩ := h.slice
  obtain ⟨ac, nc, cc, rfl, hnc, hcc⟩ := hc.slice
  have hn1 : (n : Int) ≤ 1000 := by omega
  have hnc1 : (nc : Int) ≤ 1000 := by omega
  have HH : Hid (RwsIs w (.slice a n cap) rows ∧ IntsIs w (.slice ac nc cc) cols ∧ rows.length = n ∧ cols.length = nc ∧ n ≤ 1000 ∧ nc ≤ 1000 ∧ (∀ r ∈ rows, r.length ≤ 1000)) := ⟨h, hc, hn, hnc, by omega, by omega, hrl⟩
  clear h hc hl hn hnc hrl hr hcap hcc
  go_enter Try.func22, Try.ntmps22
  go_wp2_with fail
  go_loopg [6, 7] n (fun gg s6 s7 wx => ∃ (i : Nat) (a6 : Option Addr) (c6 : Nat), i + gg = n ∧ s7 = .int .i64 i ∧ s6 = .slice a6 i c6 ∧ Hid (OwnX RwX 1 40 (fun _ => False) w wx (.slice a6 i c6) ((projA rows cols).take i) ∧ ∀ (j : Nat) (x : BitVec 64) (i' : Nat) (r : List Cl), cols[j]? = some x → i' < i → rows[i']? = some r → 0 ≤ x.toInt ∧ x.toInt < r.length))
  case atStart => exact ⟨0, none, 0, by omega, rfl, rfl, ⟨[], srows_nil _ _ _, ⟨rfl, fun i x r hx => by simp at hx⟩, fun k hk => by simp [Value.ownBlock] at hk, fun k hk => hk.elim, Below.refl _ _⟩, fun j x i' r _ hi => by omega⟩
  case round =>
    obtain ⟨i, a6, c6, hig, rfl, rfl, HL⟩ := hrel
    obtain ⟨Wi, rfl⟩ : ∃ x, x = wr := ⟨_, rfl⟩
    have HB : Hid (Below w.heap.size w Wi) := HL.out.1.bel
    by_cases hi : i < n
    · have hiI : (i : Int) < (n : Int) := by omega
      obtain ⟨r, b, off, a2, n2, c2, hx, rfl, hbx, x0, hv, hn2, hc2⟩ := at_rw HH.out.1 hi
      have hr2 : IntKind.i64.wrap ((i : Int) + 1) = (i : Int) + 1 := by rw [IntKind.wrap_i64]; omega
      have HR : Hid (rows[i]? = some r ∧ b < w.heap.size ∧ w.cell? ⟨b, off + i, none⟩ = some (.slice a2 n2 c2) ∧ SlIs CE 3 w (.slice a2 n2 c2) r ∧ r.length = n2 ∧ n2 ≤ 1000) := ⟨hx, hbx, x0, hv, hn2, by rw [← hn2]; exact HH.out.2.2.2.2.2.2 r (List.mem_of_getElem? hx)⟩
      have hn2I : (n2 : Int) ≤ 1000 := by have := HR.out.2.2.2.2.2; omega
      clear hx hbx x0 hv hn2 hc2
      go_wp2_with fail
      go_loopg [8, 9] nc (fun gg s8 s9 wx => ∃ (j : Nat) (a8 : Option Addr) (c8 : Nat), j + gg = nc ∧ s9 = .int .i64 j ∧ s8 = .slice a8 j c8 ∧ Hid (OwnS CE 3 71 Wi wx (.slice a8 j c8) ((rowA r cols).take j) ∧ ∀ (j' : Nat) (x : BitVec 64), j' < j → cols[j']? = some x → 0 ≤ x.toInt ∧ x.toInt < r.length))
      case atStart => exact ⟨0, none, 0, by omega, rfl, rfl, ownS_nil _ _ _ (Below.refl _ _), fun j x hj => by omega⟩
      case round =>
        obtain ⟨j, a8, c8, hjg, rfl, rfl, HJ⟩ := hrel
        have HBj : Hid (Below w.heap.size w wr) := HB.out.trans (HJ.out.1.bel.mono HB.out.size)
        have r0 := (HBj.out.cell (p := ⟨b, off + i, none⟩) HR.out.2.1).trans HR.out.2.2.1
        by_cases hj : j < nc
        · have hjI : (j : Int) < (nc : Int) := by omega
          obtain ⟨x, bc, offc, hx, rfl, hbx, x00⟩ := at_int HH.out.2.1 hj
          have x0 := (HBj.out.cell (p := ⟨bc, offc + j, none⟩) hbx).trans x00
          have hr3 : IntKind.i64.wrap ((j : Int) + 1) = (j : Int) + 1 := by rw [IntKind.wrap_i64]; omega
          obtain ⟨zx, hzx⟩ : ∃ zx, zx = x.toInt := ⟨_, rfl⟩
          rw [← hzx] at x0 x00
          have HXX : Hid (cols[j]? = some x ∧ zx = x.toInt ∧ bc < w.heap.size ∧ w.cell? ⟨bc, offc + j, none⟩ = some (.int .i64 zx)) := ⟨hx, hzx, hbx, x00⟩
          clear hx hzx hbx x00
          by_cases h1 : zx < 0
          · have d1 : decide (zx < 0) = true := by simpa using h1
            go_wp2_with fail
            go_quiet (fail)
            go_wp2_with fail
            go_ret2
            exact proj_no (pok_neg HXX.out.1 (by have := HXX.out.2.1; omega)) (below_drewN HBj.out _)
          · have d1 : decide (zx < 0) = false := by simpa using h1
            by_cases h2 : (n2 : Int) ≤ zx
            · go_wp2_with fail
              go_quiet (fail)
              go_wp2_with fail
              go_ret2
              exact proj_no (pok_no HR.out.1 HXX.out.1 (fun h => by have := HXX.out.2.1; have := HR.out.2.2.2.2.1; omega)) (below_drewN HBj.out _)
            · have d2 : decide ((n2 : Int) ≤ zx) = false := by simpa using h2
              obtain ⟨m, hm⟩ : ∃ m : Nat, zx = (m : Int) := ⟨zx.toNat, by omega⟩
              subst hm
              have hmI : (m : Int) < (n2 : Int) := by omega
              have HM : Hid (m < n2) := by unfold Hid; omega
              obtain ⟨c, bt, offt, hc, hok, rfl, hbt, c0, c1, c2'⟩ := at_c HR.out.2.2.2.1 HM.out
              have HC : Hid (r[m]? = some c ∧ okC c ∧ bt < w.heap.size) := ⟨hc, hok, hbt⟩
              obtain ⟨ck, cn, cs⟩ := c
              simp only at c0 c1 c2'
              have HC2 : Hid (w.cell? ⟨bt, offt + m * 3, none⟩ = some (.int .i64 ck) ∧ w.cell? ⟨bt, offt + m * 3 + 1, none⟩ = some (.int .i64 cn) ∧ w.cell? ⟨bt, offt + m * 3 + 2, none⟩ = some (.string cs)) := ⟨c0, c1, c2'⟩
              clear hc hok hbt c0 c1 c2'
              go_wp2_with fail
              go_quiet (fail)
              go_wp2_with fail
              obtain ⟨W1, hW1⟩ : ∃ W1, W1 = wr.drewN nq := ⟨_, rfl⟩
              have HS1 : Hid (OwnS CE 3 71 Wi W1.drew (.slice a8 j c8) ((rowA r cols).take j)) := by rw [hW1]; exact (HJ.out.1.drewN nq).over ((Below.refl _ _).drew)
              rw [← hW1]
              clear r0 x0 hW1
              obtain ⟨va, vc, w2, hrun, ho2⟩ := run_append_one (E := CE) 40 71 (.agg #[.int .i64 0, .int .i64 0, .string ⟨#[]⟩]) 3 32 Try.underlying40 infos_c rfl (by decide) (by decide) (cs := #[.int .i64 ck, .int .i64 cn, .string cs]) rfl (fun _ _ h => one_c h) HS1.out (y := ⟨ck, cn, cs⟩) ⟨HC.out.2.1, rfl⟩ (j + 1) (by rw [List.length_take, Nat.min_eq_left (by simp [rowA, HH.out.2.2.2.1]; omega)]) (by omega) 40
              have HW2 : Hid (OwnS CE 3 71 Wi w2 (.slice va (j + 1) vc) ((rowA r cols).take (j + 1))) := by unfold Hid; rw [take_succ_of (rowA_at HXX.out.1 (by rw [← HXX.out.2.1]) HC.out.1)]; exact ho2
              have HRUN : Hid ((Builtin.append_ #[40, 40] 40 #[.slice a8 j c8, .slice (some ⟨W1.drew.heap.size, 0, none⟩) 1 1]).run Try.prog (W1.drew.alloc (.cells #[.int .i64 ck, .int .i64 cn, .string cs] 71)) = .ok (.slice va (j + 1) vc) w2) := hrun
              have HS : Hid (∀ W', Below Wi.heap.size Wi W' → W'.cell? ⟨b, off + i, none⟩ = some (.slice (some ⟨bt, offt, none⟩) n2 c2) ∧ W'.cell? ⟨bc, offc + j, none⟩ = some (.int .i64 m) ∧ W'.cell? ⟨bt, offt + m * 3, none⟩ = some (.int .i64 ck) ∧ W'.cell? ⟨bt, offt + m * 3 + 1, none⟩ = some (.int .i64 cn) ∧ W'.cell? ⟨bt, offt + m * 3 + 2, none⟩ = some (.string cs)) := fun W' hW' => by
                have hw := HB.out.trans (hW'.mono HB.out.size)
                exact ⟨(hw.cell (p := ⟨b, off + i, none⟩) HR.out.2.1).trans HR.out.2.2.1, (hw.cell (p := ⟨bc, offc + j, none⟩) HXX.out.2.2.1).trans HXX.out.2.2.2, (hw.cell (p := ⟨bt, offt + m * 3, none⟩) HC.out.2.2).trans HC2.out.1, (hw.cell (p := ⟨bt, offt + m * 3 + 1, none⟩) HC.out.2.2).trans HC2.out.2.1, (hw.cell (p := ⟨bt, offt + m * 3 + 2, none⟩) HC.out.2.2).trans HC2.out.2.2⟩
              have hHeld := HS.out _ HS1.out.bel
              have hHeld2 := HS.out _ (HS1.out.alloc (.cells #[.int .i64 ck, .int .i64 cn, .string cs] 71)).bel
              have hHeld3 := HS.out _ HW2.out.bel
              clear hrun ho2
              refine wp_region_held_then (fun W' : World => W'.cell? ⟨b, off + i, none⟩ = some (.slice (some ⟨bt, offt, none⟩) n2 c2) ∧ W'.cell? ⟨bc, offc + j, none⟩ = some (.int .i64 m) ∧ W'.cell? ⟨bt, offt + m * 3, none⟩ = some (.int .i64 ck) ∧ W'.cell? ⟨bt, offt + m * 3 + 1, none⟩ = some (.int .i64 cn) ∧ W'.cell? ⟨bt, offt + m * 3 + 2, none⟩ = some (.string cs)) _ (by kernel_rfl) rfl (by kernel_rfl) ?_
              dsimp only [List.dropLast, List.length, List.getLast]
              ((refine takeL 0 (v := ?_) rfl (by kernel_rfl) (by kernel_rfl) (by kernel_rfl) (fun _ _ _ h => h) (by rfl) hHeld ?_ ?_; rotate_left; focus (intro w hSw; (try dsimp only at hSw); go_simp <;> with_reducible rfl); (try simp only [Act.put, List.setIfInBounds_toArray, List.set_cons_zero, List.set_cons_succ])); (refine takeL 1 (v := ?_) rfl (by kernel_rfl) (by kernel_rfl) (by kernel_rfl) (fun _ _ _ h => h) (by rfl) hHeld ?_ ?_; rotate_left; focus (intro w hSw; (try dsimp only at hSw); go_simp <;> with_reducible rfl); (try simp only [Act.put, List.setIfInBounds_toArray, List.set_cons_zero, List.set_cons_succ])); (refine takeL 2 (v := ?_) rfl (by kernel_rfl) (by kernel_rfl) (by kernel_rfl) (fun _ _ _ h => h) (by rfl) hHeld ?_ ?_; rotate_left; focus (intro w hSw; (try dsimp only at hSw); go_simp <;> with_reducible rfl); (try simp only [Act.put, List.setIfInBounds_toArray, List.set_cons_zero, List.set_cons_succ])); (refine takeL 3 (v := ?_) rfl (by kernel_rfl) (by kernel_rfl) (by kernel_rfl) (fun _ _ _ h => h) (by rfl) hHeld ?_ ?_; rotate_left; focus (intro w hSw; (try dsimp only at hSw); go_simp <;> with_reducible rfl); (try simp only [Act.put, List.setIfInBounds_toArray, List.set_cons_zero, List.set_cons_succ])))
              dsimp only [Act.put]
              simp only [List.setIfInBounds_toArray, List.set_cons_zero, List.set_cons_succ]
              ((refine takeL 4 (v := ?_) rfl (by kernel_rfl) (by kernel_rfl) (by kernel_rfl) (fun _ _ _ h => h) (by rfl) hHeld ?_ ?_; rotate_left; focus (intro w hSw; (try dsimp only at hSw); go_simp <;> with_reducible rfl); (try simp only [Act.put, List.setIfInBounds_toArray, List.set_cons_zero, List.set_cons_succ])); (refine takeL 5 (v := ?_) rfl (by kernel_rfl) (by kernel_rfl) (by kernel_rfl) (fun _ _ _ h => h) (by rfl) hHeld ?_ ?_; rotate_left; focus (intro w hSw; (try dsimp only at hSw); go_simp <;> with_reducible rfl); (try simp only [Act.put, List.setIfInBounds_toArray, List.set_cons_zero, List.set_cons_succ])); (refine takeL 6 (v := ?_) rfl (by kernel_rfl) (by kernel_rfl) (by kernel_rfl) (fun _ _ _ h => h) (by rfl) hHeld ?_ ?_; rotate_left; focus (intro w hSw; (try dsimp only at hSw); go_simp <;> with_reducible rfl); (try simp only [Act.put, List.setIfInBounds_toArray, List.set_cons_zero, List.set_cons_succ])); (refine takeL 7 (v := ?_) rfl (by kernel_rfl) (by kernel_rfl) (by kernel_rfl) (fun _ _ _ h => h) (by rfl) hHeld ?_ ?_; rotate_left; focus (intro w hSw; (try dsimp only at hSw); go_simp <;> with_reducible rfl); (try simp only [Act.put, List.setIfInBounds_toArray, List.set_cons_zero, List.set_cons_succ])))
              dsimp only [Act.put]
              simp only [List.setIfInBounds_toArray, List.set_cons_zero, List.set_cons_succ]
              ((refine takeL 8 (v := ?_) rfl (by kernel_rfl) (by kernel_rfl) (by kernel_rfl) (fun _ _ _ h => h) (by rfl) hHeld ?_ ?_; rotate_left; focus (intro w hSw; (try dsimp only at hSw); go_simp <;> with_reducible rfl); (try simp only [Act.put, List.setIfInBounds_toArray, List.set_cons_zero, List.set_cons_succ])); (refine takeL 9 (v := ?_) rfl (by kernel_rfl) (by kernel_rfl) (by kernel_rfl) (fun _ _ _ h => h) (by rfl) hHeld ?_ ?_; rotate_left; focus (intro w hSw; (try dsimp only at hSw); go_simp <;> with_reducible rfl); (try simp only [Act.put, List.setIfInBounds_toArray, List.set_cons_zero, List.set_cons_succ])); (refine takeL 10 (v := ?_) rfl (by kernel_rfl) (by kernel_rfl) (by kernel_rfl) (fun _ _ _ h => h) (by rfl) hHeld ?_ ?_; rotate_left; focus (intro w hSw; (try dsimp only at hSw); go_simp <;> with_reducible rfl); (try simp only [Act.put, List.setIfInBounds_toArray, List.set_cons_zero, List.set_cons_succ])))
              dsimp only [Act.put]
              simp only [List.setIfInBounds_toArray, List.set_cons_zero, List.set_cons_succ]
              refine newL 11 (W1.drew.alloc (.cells #[.int .i64 ck, .int .i64 cn, .string cs] 71)) (.slice (some ⟨W1.drew.heap.size, 0, none⟩) 1 1) rfl (by kernel_rfl) (by rfl) (by go_simp) hHeld2 ?_
              dsimp only [Act.put]
              simp only [List.setIfInBounds_toArray, List.set_cons_zero, List.set_cons_succ]
              refine newL 12 w2 (.slice va (j + 1) vc) rfl (by kernel_rfl) (by rfl) ?_ hHeld3 ?_
              · unfold execOp
                simp only [resolve, invoke, builtin, Sem.run_bind, Sem.run_pure, Result.andThen_ok, List.map_toArray, List.map_cons, List.map_nil]
                exact then_val HRUN.out
              refine doneL (by kernel_rfl) ?_
              dsimp only [Act.put]
              unfold Oper.wp
              clear hHeld hHeld2 hHeld3
              go_simp
              go_wp2_with fail
              go_roundg (nc - (j + 1))
              case measure => clear hr2 hr3; omega
              case rel => exact ⟨j + 1, _, _, by clear hr2 hr3; omega, by go_num, rfl, HW2.out, fun j' x hj hx => by
                by_cases e : j' = j
                · subst e
                  obtain rfl := Option.some.inj (HXX.out.1.symm.trans hx)
                  have := HXX.out.2.1; have := HM.out; have := HR.out.2.2.2.2.1; omega
                · exact HJ.out.2 j' x (by clear hr2 hr3; omega) hx⟩
        · have hjI : ¬ (j : Int) < (nc : Int) := by omega
          obtain rfl : j = nc := by omega
          have hX := HL.out.1.over xok_rw HJ.out.1.bel
          have HX : Hid (OwnX RwX 1 40 (fun _ => False) w wr (.slice a6 i c6) ((projA rows cols).take i)) := hX
          have htk : (rowA r cols).take j = rowA r cols := List.take_of_length_le (by simp [rowA, HH.out.2.2.2.1])
          have HY : Hid (RwX (fun k => (Value.slice a6 i c6).ownBlock = some k ∨ False) wr (rowA r cols) [.slice a8 j c8]) := by
            have hJ := HJ.out.1
            rw [htk] at hJ
            refine ⟨_, rfl, slX_own hJ fun k hk => ?_⟩
            rcases hk with hk | hk
            · exact (HL.out.1.own hk).2.2
            · exact hk.elim
          have HL2 : Hid (((projA rows cols).take i).length + 1 = i + 1 ∧ (projA rows cols).take i ++ [rowA r cols] = (projA rows cols).take (i + 1)) := ⟨by rw [List.length_take, Nat.min_eq_left (by simp [projA, HH.out.2.2.1]; omega)], (take_succ_of (projA_at HR.out.1)).symm⟩
          have hone : ∀ u ∈ (#[.slice a8 j c8] : Array Value).toList, u.oneCell' = true := by intro u hu; simp at hu; subst hu; rfl
          clear hX htk r0
          go_wp2_with (at_builtin; refine append_x xok_rw rfl (.tmp 53) (.tmp 55) 26 40 (.slice none 0 0) 1 24 rfl Try.underlying26 infos_rw rfl (by decide) (by decide) rfl rfl rfl hone HX.out HY.out (i + 1) HL2.out.1 (by omega) ?_; intro va vc w2 HO2)
          go_roundg (n - (i + 1))
          case measure => clear hr2; omega
          case rel => exact ⟨i + 1, _, _, by clear hr2; omega, by go_num, rfl, by rw [← HL2.out.2]; exact HO2.out, fun j' x i' r' hx hi' hr' => by
            by_cases e : i' = i
            · subst e
              obtain rfl := Option.some.inj (HR.out.1.symm.trans hr')
              exact HJ.out.2 j' x (by have := (List.getElem?_eq_some_iff.1 hx).1; have := HH.out.2.2.2.1; omega) hx
            · exact HL.out.2 j' x i' r' hx (by clear hr2; omega) hr'⟩
    · have hiI : ¬ (i : Int) < (n : Int) := by omega
      obtain rfl : i = n := by omega
      go_wp2_with fail
      go_loopg [10] nc (fun gg s10 wx => ∃ j : Nat, j + gg = nc ∧ s10 = .int .i64 j ∧ wx = Wi ∧ Hid (∀ (j' : Nat) (x : BitVec 64), j' < j → cols[j']? = some x → 0 ≤ x.toInt))
      case atStart => exact ⟨0, by omega, rfl, rfl, fun j x hj => by omega⟩
      case round =>
        obtain ⟨j, hjg, rfl, hw, HJ⟩ := hrel
        subst hw
        by_cases hj : j < nc
        · have hjI : (j : Int) < (nc : Int) := by omega
          obtain ⟨x, bc, offc, hx, rfl, hbx, x0⟩ := at_int (HH.out.2.1.over stays_int HB.out) hj
          have hr3 : IntKind.i64.wrap ((j : Int) + 1) = (j : Int) + 1 := by rw [IntKind.wrap_i64]; omega
          obtain ⟨zx, hzx⟩ : ∃ zx, zx = x.toInt := ⟨_, rfl⟩
          rw [← hzx] at x0
          have HXX : Hid (cols[j]? = some x ∧ zx = x.toInt) := ⟨hx, hzx⟩
          clear hx hzx hbx
          by_cases h1 : zx < 0
          · go_wp2_with fail
            go_ret2
            exact proj_no (pok_neg HXX.out.1 (by have := HXX.out.2; omega)) HB.out
          · go_wp2_with fail
            go_roundg (nc - (j + 1))
            case measure => clear hr3; omega
            case rel => exact ⟨j + 1, by clear hr3; omega, by go_num, rfl, fun j' x' hj' hx' => by
              by_cases e : j' = j
              · subst e
                obtain rfl := Option.some.inj (HXX.out.1.symm.trans hx')
                have := HXX.out.2; omega
              · exact HJ.out j' x' (by clear hr3; omega) hx'⟩
        · have hjI : ¬ (j : Int) < (nc : Int) := by omega
          obtain rfl : j = nc := by omega
          go_wp2_with fail
          go_ret2
          have e : (projA rows cols).take i = projA rows cols := List.take_of_length_le (by simp [projA, HH.out.2.2.1])
          have h1 := HL.out.1
          rw [e] at h1
          exact proj_yes (pok_iff.2 fun j' x hx => ⟨HJ.out j' x (by have := (List.getElem?_eq_some_iff.1 hx).1; have := HH.out.2.2.2.1; omega) hx, fun i' r hr => (HL.out.2 j' x i' r hx (by have := (List.getElem?_eq_some_iff.1 hr).1; have := HH.out.2.2.1; omega) hr).2⟩) (h1.is xok_rw) HB.out
end Go.Proofs.Ytflabcmjbhmphaa
