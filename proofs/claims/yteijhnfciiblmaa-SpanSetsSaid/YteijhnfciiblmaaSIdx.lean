/-
  The contracts of slices.IndexFunc and ContainsFunc with package span's two closures, and of Has.
-/
import Derived.Test.YteijhnfciiblmaaSMay
import Derived.Test.YteijhnfciiblmaaSMerge
import Derived.RangeFuncIn
import Derived.Shelf.Abstract
namespace Go.Proofs.Yteijhnfciiblmaa
open Go.RowKit Go.Shelf

theorem in_take {rs : List Sn} {k : Nat} {s : Sn} (x : Int) (hs : rs[k]? = some s) : inB (rs.take (k + 1)) x = (inB (rs.take k) x || decide (s.lo ≤ x ∧ x < s.hi)) := by
  rw [take_succ_of hs]; simp [inB]
theorem in_here {rs : List Sn} {k : Nat} {s : Sn} {x : Int} (hs : rs[k]? = some s) (h : s.lo ≤ x ∧ x < s.hi) : inB rs x = true := inB_iff.2 ⟨s, List.mem_of_getElem? hs, h⟩

set_option maxHeartbeats 1000000 in
theorem has1_any (W : World) (lo hi x : Int) (B : Nat) (hB : W.cell? ⟨B, 0, none⟩ = some (.int .i64 x)) :
    Calls Try.prog 37 #[.agg #[.int .i64 lo, .int .i64 hi], .pointer (some ⟨B, 0, none⟩)] W fun e w' => e = .returned (.bool (decide (lo ≤ x ∧ x < hi))) ∧ Below W.heap.size W w' := by
  have hlt := World.block_lt_of_cell? W _ hB
  have hB2 : (W.alloc (.cells #[.int .i64 lo, .int .i64 hi] 43)).cell? ⟨B, 0, none⟩ = some (.int .i64 x) := ((below1 W _).cell (p := ⟨B, 0, none⟩) hlt).trans hB
  by_cases h1 : lo ≤ x
  · by_cases h2 : x < hi
    all_goals
      go_enter Try.func37, Try.ntmps37
      go_wp2_with fail
      go_ret
      exact ⟨ret_bool (by simp <;> omega), below1 _ _⟩
  · go_enter Try.func37, Try.ntmps37
    go_wp2_with fail
    go_ret
    exact ⟨ret_bool (by simp <;> omega), below1 _ _⟩

set_option maxRecDepth 4000 in
set_option maxHeartbeats 4000000 in
theorem idxS_any {w : World} {v : Value} {rs : List Sn} (h : SpansIs w v rs) (hl : rs.length ≤ 1000000) (x : Int) (B : Nat) (hB : w.cell? ⟨B, 0, none⟩ = some (.int .i64 x)) :
    Calls Try.prog 44 #[v, .func (.func 37) #[] #[.pointer (some ⟨B, 0, none⟩)]] w fun e w' => (∃ z : Int, e = .returned (.int .i64 z) ∧ decide (0 ≤ z) = inB rs x) ∧ Below w.heap.size w w' := by
  obtain ⟨a, n, cap, rfl, hn, hcap⟩ := h.slice
  have hn1 : (n : Int) ≤ 1000000 := by omega
  have hlt := World.block_lt_of_cell? w _ hB
  have eg := enters_of Try.func37 (by kernel_rfl) rfl
  have HH : Hid (SpansIs w (.slice a n cap) rs ∧ rs.length = n ∧ w.cell? ⟨B, 0, none⟩ = some (.int .i64 x) ∧ B < w.heap.size) := ⟨h, hn, hB, hlt⟩
  clear h hl hn hB hlt
  go_enter Try.func44, Try.ntmps44
  go_wp2_with fail
  go_loopg [8] n (fun gg s8 wx => ∃ k : Nat, k + gg = n ∧ s8 = .int .i64 k ∧ Hid (inB (rs.take k) x = false) ∧ Hid (Below w.heap.size w wx))
  case atStart => exact ⟨0, by omega, rfl, by unfold Hid; rw [List.take_zero]; rfl, Below.refl _ _⟩
  case round =>
    obtain ⟨k, hkg, rfl, HN, HB⟩ := hrel
    by_cases hk : k < n
    · have hkI : (k : Int) < (n : Int) := by omega
      obtain ⟨s, b, off, hs, rfl, hat⟩ := (HH.out.1.below HB.out).at hk
      have c0 := hat.c0
      have c1 := hat.c1
      have hr2 : IntKind.i64.wrap ((k : Int) + 1) = (k : Int) + 1 := by rw [IntKind.wrap_i64]; omega
      have hcall := has1_any wr s.lo s.hi x B ((HB.out.cell (p := ⟨B, 0, none⟩) HH.out.2.2.2).trans HH.out.2.2.1)
      have HS : Hid (rs[k]? = some s ∧ inB (rs.take (k + 1)) x = (inB (rs.take k) x || decide (s.lo ≤ x ∧ x < s.hi))) := ⟨hs, in_take x hs⟩
      obtain ⟨t, ht⟩ : ∃ t, t = decide (s.lo ≤ x ∧ x < s.hi) := ⟨_, rfl⟩
      rw [← ht] at hcall HS
      have HT : Hid (t = decide (s.lo ≤ x ∧ x < s.hi)) := ht
      obtain ⟨lo, hi⟩ := s
      simp only at c0 c1 hcall
      clear hat hs ht
      go_wp2_with fail
      refine hcall.mono ?_
      rintro e w1 ⟨rfl, hb1⟩
      have HB1 : Hid (Below w.heap.size w w1) := HB.out.trans (hb1.mono HB.out.size)
      clear hb1 hcall c0 c1
      cases t with
      | true =>
        go_wp2_with fail
        go_ret
        exact ⟨⟨_, rfl, by rw [in_here HS.out.1 (by have := HT.out; simpa using this)]; simp⟩, HB1.out⟩
      | false =>
        go_wp2_with fail
        go_roundg (n - (k + 1))
        case measure => clear hr2; omega
        case rel => exact ⟨k + 1, by clear hr2; omega, by go_num, by unfold Hid; rw [HS.out.2, HN.out]; rfl, HB1⟩
    · have hkI : ¬ (k : Int) < (n : Int) := by omega
      obtain rfl : k = n := by omega
      go_wp2_with fail
      go_ret
      exact ⟨⟨_, rfl, by have := HN.out; rw [List.take_of_length_le (by rw [HH.out.2.1]; exact Nat.le_refl _)] at this; rw [this]; rfl⟩, HB.out⟩
set_option maxHeartbeats 1000000 in
theorem hasS_any {w : World} {v : Value} {rs : List Sn} (h : SpansIs w v rs) (hl : rs.length ≤ 1000000) (x : Int) (B : Nat) (hB : w.cell? ⟨B, 0, none⟩ = some (.int .i64 x)) :
    Calls Try.prog 36 #[v, .func (.func 37) #[] #[.pointer (some ⟨B, 0, none⟩)]] w fun e w' => e = .returned (.bool (inB rs x)) ∧ Below w.heap.size w w' := by
  have hc := idxS_any h hl x B hB
  obtain ⟨a, n, cap, rfl, hn, hcap⟩ := h.slice
  clear h hl hn hB
  go_enter Try.func36, Try.ntmps36
  go_wp2_with fail
  refine hc.mono ?_
  rintro e w1 ⟨⟨z, rfl, hz⟩, hb1⟩
  have HZ : Hid (decide (0 ≤ z) = inB rs x) := hz
  clear hz
  go_wp2_with fail
  go_ret
  exact ⟨ret_bool HZ.out, hb1⟩
/-- What Has answers. -/
def hasA (rs : List Sn) (x : Int) : Bool := mayS rs && inB rs x
set_option maxHeartbeats 1000000 in
theorem has_any {w : World} {v : Value} {rs : List Sn} (h : SpansIs w v rs) (hl : rs.length ≤ 1000000) (x : Int) :
    Calls Try.prog 25 #[v, .int .i64 x] w fun e w' => e = .returned (.bool (hasA rs x)) ∧ Below w.heap.size w w' := by
  have hb0 := below1 w (.cells #[.int .i64 x] 3)
  have bx := box_new w #[.int .i64 x] 3
  have hmay := may_any (h.below hb0) hl
  have hc := fun W (hW : Below (w.alloc (.cells #[.int .i64 x] 3)).heap.size (w.alloc (.cells #[.int .i64 x] 3)) W) => hasS_any ((h.below hb0).below hW) hl x w.heap.size ((bx.over hW).cell 0 _ rfl)
  obtain ⟨a, n, cap, rfl, hn, hcap⟩ := h.slice
  unfold hasA
  generalize inB rs x = t at *
  cases hm : mayS rs with
  | false =>
    rw [hm] at hmay
    clear h hl hn hm bx hc
    go_enter Try.func25, Try.ntmps25
    go_wp2_with fail
    refine hmay.mono ?_
    rintro e w1 ⟨rfl, hb1⟩
    go_wp2_with fail
    go_ret
    exact ⟨rfl, hb0.trans (hb1.mono hb0.size)⟩
  | true =>
    rw [hm] at hmay
    clear h hl hn hm bx
    go_enter Try.func25, Try.ntmps25
    go_wp2_with fail
    refine hmay.mono ?_
    rintro e w1 ⟨rfl, hb1⟩
    have hc1 := hc w1 hb1
    clear hc hmay
    go_wp2_with fail
    refine hc1.mono ?_
    rintro e w2 ⟨rfl, hb2⟩
    have hw1 := hb0.trans (hb1.mono hb0.size)
    go_wp2_with fail
    go_ret
    exact ⟨rfl, hw1.trans (hb2.mono hw1.size)⟩

/-- A number that is no place. -/
def badB (x : Int) : Bool := decide (x < 0 ∨ 65536 ≤ x)
set_option maxHeartbeats 1000000 in
theorem of1_any (W : World) (x : Int) : Calls Try.prog 39 #[.int .i64 x] W fun e w' => e = .returned (.bool (badB x)) ∧ w' = W := by
  by_cases h1 : x < 0
  · go_enter Try.func39, Try.ntmps39
    go_wp2_with fail
    go_ret
    exact ⟨ret_bool (by simp [badB]; omega), rfl⟩
  · by_cases h2 : 65536 ≤ x
    all_goals
      go_enter Try.func39, Try.ntmps39
      go_wp2_with fail
      go_ret
      exact ⟨ret_bool (by simp [badB]; omega), rfl⟩
theorem any_take {l : List Int} {k : Nat} {y : Int} (hs : l[k]? = some y) : (l.take (k + 1)).any badB = ((l.take k).any badB || badB y) := by
  rw [take_succ_of hs]; simp
set_option maxRecDepth 4000 in
set_option maxHeartbeats 4000000 in
theorem idxZ_any {w : World} {v : Value} {l : List Int} (h : ReadsZ w v l) (hl : l.length ≤ 1000000) :
    Calls Try.prog 45 #[v, .func (.func 39) #[] #[]] w fun e w' => (∃ z : Int, e = .returned (.int .i64 z) ∧ decide (0 ≤ z) = l.any badB) ∧ w' = w := by
  obtain ⟨a, n, cap, rfl, hn, hcap⟩ := h.slice
  have hn1 : (n : Int) ≤ 1000000 := by omega
  have eg := enters_of Try.func39 (by kernel_rfl) rfl
  have HH : Hid (ReadsZ w (.slice a n cap) l ∧ l.length = n) := ⟨h, hn⟩
  clear h hl hn
  go_enter Try.func45, Try.ntmps45
  go_wp2_with fail
  go_loopg [8] n (fun gg s8 wx => ∃ k : Nat, k + gg = n ∧ s8 = .int .i64 k ∧ Hid ((l.take k).any badB = false) ∧ wx = w)
  case atStart => exact ⟨0, by omega, rfl, by unfold Hid; rw [List.take_zero]; rfl, rfl⟩
  case round =>
    obtain ⟨k, hkg, rfl, HN, rfl⟩ := hrel
    by_cases hk : k < n
    · have hkI : (k : Int) < (n : Int) := by omega
      obtain ⟨y, b, off, hs, rfl, c0⟩ := HH.out.1.at hk
      have hr2 : IntKind.i64.wrap ((k : Int) + 1) = (k : Int) + 1 := by rw [IntKind.wrap_i64]; omega
      have hcall := of1_any wr y
      have HS : Hid (l[k]? = some y ∧ (l.take (k + 1)).any badB = ((l.take k).any badB || badB y)) := ⟨hs, any_take hs⟩
      obtain ⟨t, ht⟩ : ∃ t, t = badB y := ⟨_, rfl⟩
      rw [← ht] at hcall HS
      have HT : Hid (t = badB y) := ht
      clear hs ht
      go_wp2_with fail
      refine hcall.mono ?_
      rintro e w1 ⟨rfl, hw1⟩
      replace hw1 := hw1.symm
      subst hw1
      clear hcall c0
      cases t with
      | true =>
        go_wp2_with fail
        go_ret
        exact ⟨⟨_, rfl, by rw [show l.any badB = true from List.any_eq_true.2 ⟨y, List.mem_of_getElem? HS.out.1, HT.out.symm⟩]; simp⟩, rfl⟩
      | false =>
        go_wp2_with fail
        go_roundg (n - (k + 1))
        case measure => clear hr2; omega
        case rel => exact ⟨k + 1, by clear hr2; omega, by go_num, by unfold Hid; rw [HS.out.2, HN.out]; rfl, rfl⟩
    · have hkI : ¬ (k : Int) < (n : Int) := by omega
      obtain rfl : k = n := by omega
      go_wp2_with fail
      go_ret
      exact ⟨⟨_, rfl, by have := HN.out; rw [List.take_of_length_le (by rw [HH.out.2]; exact Nat.le_refl _)] at this; rw [this]; rfl⟩, rfl⟩
set_option maxHeartbeats 1000000 in
theorem hasZ_any {w : World} {v : Value} {l : List Int} (h : ReadsZ w v l) (hl : l.length ≤ 1000000) :
    Calls Try.prog 38 #[v, .func (.func 39) #[] #[]] w fun e w' => e = .returned (.bool (l.any badB)) ∧ w' = w := by
  have hc := idxZ_any h hl
  obtain ⟨a, n, cap, rfl, hn, hcap⟩ := h.slice
  clear h hl hn
  generalize l.any badB = t at *
  go_enter Try.func38, Try.ntmps38
  go_wp2_with fail
  refine hc.mono ?_
  rintro e w1 ⟨⟨z, rfl, hz⟩, rfl⟩
  have HZ : Hid (decide (0 ≤ z) = t) := hz
  clear hz
  go_wp2_with fail
  go_ret
  exact ⟨ret_bool HZ.out, rfl⟩
end Go.Proofs.Yteijhnfciiblmaa
