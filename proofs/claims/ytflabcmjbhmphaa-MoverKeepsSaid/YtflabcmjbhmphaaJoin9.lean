/-
  4 texts, one behind the other: MMark, MMark2, MBy, MPutE.
-/
import Derived.Test.YtflabcmjbhmphaaJoin8
import Derived.Deep.QuietTactic
import Derived.BigQuiet
import Derived.Test.YtflabcmjbhmphaaJoin2
import Derived.Test.YtflabcmjbhmphaaJoin3
import Derived.Lib.AppendStr
/-
  The contracts of epoch's isEpoch, lastAt, follows and mayBe, and of the document's MayMarks and Gone.
-/
namespace Go.Proofs.Ytflabcmjbhmphaa
open Go.RowKit

def folB (p : List Mk) (m : Mk) : Bool := (decide (lastA p < m.a) && decide (m.a < 4096)) && (decide (1 ≤ m.g) && decide (m.g ≤ 1099511627776))
theorem mayF_step {ms : List Mk} {k : Nat} {m : Mk} (h : ms[k]? = some m) : mayF (lastA (ms.take k)) (ms.drop k) = (folB (ms.take k) m && mayF (lastA (ms.take (k + 1))) (ms.drop (k + 1))) := by
  obtain ⟨hk, rfl⟩ := List.getElem?_eq_some_iff.1 h
  rw [List.drop_eq_getElem_cons (i := k) (l := ms) hk, take_succ_of h, lastA_snoc]
  rfl
theorem lastA_range {ms : List Mk} {x : Int} (h : mayF x ms = true) (hx : -1 ≤ x ∧ x < 4096) : ∀ k, k ≤ ms.length → ∀ m, ms[k]? = some m → -1 ≤ m.a ∧ m.a < 4096 := by
  induction ms generalizing x with
  | nil => intro k _ m hm; simp at hm
  | cons m r ih =>
    simp only [mayF, Bool.and_eq_true, decide_eq_true_eq] at h
    intro k hk y hy
    cases k with
    | zero => simp at hy; subst hy; omega
    | succ k => exact ih h.2 (by omega) k (by simpa using hk) y (by simpa using hy)
theorem lastA_take {ms : List Mk} {k : Nat} (hk : k ≤ ms.length) : (k = 0 ∧ lastA (ms.take k) = -1) ∨ ∃ m j, k = j + 1 ∧ ms[j]? = some m ∧ lastA (ms.take k) = m.a := by
  cases k with
  | zero => exact .inl ⟨rfl, by simp [lastA_nil]⟩
  | succ j =>
    obtain ⟨m, hm⟩ : ∃ m, ms[j]? = some m := ⟨_, List.getElem?_eq_getElem (by omega)⟩
    exact .inr ⟨m, j, rfl, hm, by rw [take_succ_of hm, lastA_snoc]⟩
set_option maxHeartbeats 1000000 in
theorem isEpoch_any (W : World) (g : Int) : Calls Try.prog 67 #[.int .i64 g] W fun e w' => e = .returned (.bool (decide (1 ≤ g) && decide (g ≤ 1099511627776))) ∧ Below W.heap.size W w' := by
  by_cases h1 : 1 ≤ g
  · by_cases h2 : g ≤ 1099511627776
    all_goals
      go_enter Try.func67, Try.ntmps67
      go_wp2_with fail
      go_ret
      exact ⟨ret_bool (by simp [h1] <;> omega), Below.refl _ _⟩
  · go_enter Try.func67, Try.ntmps67
    go_wp2_with fail
    go_ret
    exact ⟨ret_bool (by simp <;> omega), Below.refl _ _⟩
set_option maxRecDepth 4000 in
set_option maxHeartbeats 2000000 in
theorem lastAt_any {w : World} {v : Value} {ms : List Mk} (h : MksIs w v ms) (hl : ms.length ≤ 1000000) : Calls Try.prog 60 #[v] w fun e w' => e = .returned (.int .i64 (lastA ms)) ∧ Below w.heap.size w w' := by
  obtain ⟨a, n, cap, rfl, hn, hcap⟩ := h.slice
  cases n with
  | zero =>
    obtain rfl := List.eq_nil_of_length_eq_zero hn
    clear h hn hl
    go_enter Try.func60, Try.ntmps60
    go_wp2_with fail
    go_ret
    exact ⟨ret_int (by rw [lastA_nil]), Below.refl _ _⟩
  | succ j =>
    obtain ⟨m, b, off, hm, rfl, _, c0, _⟩ := at_mk h (k := j) (by omega)
    have HE : Hid (lastA ms = m.a) := by
      unfold Hid
      have := take_succ_of hm
      rw [List.take_of_length_le (by omega)] at this
      rw [this, lastA_snoc]
    have hr : IntKind.i64.wrap ((j : Int) + 1 - 1) = (j : Int) := by rw [IntKind.wrap_i64]; omega
    have hj1 : ((j : Int) + 1 == 0) = false := by simp; omega
    have hjI : (j : Int) ≤ 1000000 := by omega
    obtain ⟨z, hz⟩ : ∃ z, z = m.a := ⟨_, rfl⟩
    rw [← hz] at HE c0
    clear h hn hl hm hz
    go_enter Try.func60, Try.ntmps60
    go_wp2_with fail
    rw [HE.out]
    go_ret
    exact ⟨rfl, Below.refl _ _⟩
set_option maxRecDepth 4000 in
set_option maxHeartbeats 4000000 in
theorem efollows_any {w : World} {v : Value} {p : List Mk} (h : MksIs w v p) (hl : p.length ≤ 1000000) (m : Mk) :
    Calls Try.prog 63 #[v, .agg #[.int .i64 m.a, .int .i64 m.g]] w fun e w' => e = .returned (.bool (folB p m)) ∧ Below w.heap.size w w' := by
  obtain ⟨ma, hma⟩ : ∃ x, x = m.a := ⟨_, rfl⟩
  obtain ⟨mg, hmg⟩ : ∃ x, x = m.g := ⟨_, rfl⟩
  obtain ⟨L, hL⟩ : ∃ x, x = lastA p := ⟨_, rfl⟩
  have HF : Hid (folB p m = ((decide (L < ma) && decide (ma < 4096)) && (decide (1 ≤ mg) && decide (mg ≤ 1099511627776)))) := by unfold Hid folB; rw [hL, hma, hmg]
  have HLA : Hid (∀ W, Below w.heap.size w W → Calls Try.prog 60 #[v] W fun e w' => e = .returned (.int .i64 L) ∧ Below W.heap.size W w') := fun W hW => by rw [hL]; exact lastAt_any (h.over stays_mk hW) hl
  rw [← hma, ← hmg]
  obtain ⟨a, n, cap, rfl, hn, hcap⟩ := h.slice
  obtain ⟨q, hq⟩ : ∃ q, q = (decide (1 ≤ mg) && decide (mg ≤ 1099511627776)) := ⟨_, rfl⟩
  have HIE : Hid (∀ W, Calls Try.prog 67 #[.int .i64 mg] W fun e w' => e = .returned (.bool q) ∧ Below W.heap.size W w') := fun W => by rw [hq]; exact isEpoch_any W mg
  rw [← hq] at HF
  clear h hl hn hma hmg hL hq
  obtain ⟨W, hW⟩ : ∃ W, W = w.alloc (.cells #[.int .i64 ma, .int .i64 mg] 66) := ⟨_, rfl⟩
  have hbx : Box W w.heap.size 66 #[.int .i64 ma, .int .i64 mg] := by rw [hW]; exact box_new _ _ _
  have hbw : Below w.heap.size w W := by rw [hW]; exact below1 _ _
  have HBW : Hid (Below w.heap.size w W) := hbw
  have HWE : Hid (W = w.alloc (.cells #[.int .i64 ma, .int .i64 mg] 66)) := hW
  obtain ⟨g, hg⟩ : ∃ g, g = w.heap.size := ⟨_, rfl⟩
  rw [← hg] at hbx
  have HGE : Hid (g = w.heap.size) := hg
  have e0 := above_cell (hbx.cell 0 _ rfl)
  have e1 := above_cell (hbx.cell 1 _ rfl)
  have hla : ∀ k : Above W, Calls Try.prog 60 #[.slice a n cap] k.it fun e w' => e = .returned (.int .i64 L) ∧ Below k.it.heap.size k.it w' := fun k => HLA.out k.it (hbw.trans (k.is.mono hbw.size))
  have hie : ∀ k : Above W, Calls Try.prog 67 #[.int .i64 mg] k.it fun e w' => e = .returned (.bool q) ∧ Below k.it.heap.size k.it w' := fun k => HIE.out k.it
  clear hW hbx hbw hg
  by_cases h1 : L < ma
  · have d1 : decide (L < ma) = true := by simpa using h1
    by_cases h2 : ma < 4096
    · have d2 : decide (ma < 4096) = true := by simpa using h2
      rw [d1, d2] at HF
      cases q
      all_goals
        go_enter Try.func63, Try.ntmps63
        go_wp2_with fail
        rw [← HWE.out, ← HGE.out]
        refine wp_region_above (by kernel_rfl) (by kernel_rfl) ?_
        intro hne
        repeat (go_big_quiet_step (first | (go_at_call 60; exact above_of (hla _)) | (go_at_call 67; exact above_of (hie _))))
        refine wpQuiet_nil ?_
        rintro _ ⟨kq2, rfl⟩
        have HB2 : Hid (Below w.heap.size w kq2.it) := HBW.out.trans (kq2.is.mono HBW.out.size)
        go_wp2
        go_ret
        exact ⟨ret_bool (by rw [HF.out]; rfl), HB2.out⟩
    · have d2 : decide (ma < 4096) = false := by simpa using h2
      rw [d1, d2] at HF
      go_enter Try.func63, Try.ntmps63
      go_wp2_with fail
      rw [← HWE.out, ← HGE.out]
      refine wp_region_above (by kernel_rfl) (by kernel_rfl) ?_
      intro hne
      repeat (go_big_quiet_step (first | (go_at_call 60; exact above_of (hla _)) | (go_at_call 67; exact above_of (hie _))))
      refine wpQuiet_nil ?_
      rintro _ ⟨kq2, rfl⟩
      have HB2 : Hid (Below w.heap.size w kq2.it) := HBW.out.trans (kq2.is.mono HBW.out.size)
      go_wp2
      go_ret
      exact ⟨ret_bool (by rw [HF.out]; rfl), HB2.out⟩
  · have d1 : decide (L < ma) = false := by simpa using h1
    rw [d1] at HF
    go_enter Try.func63, Try.ntmps63
    go_wp2_with fail
    rw [← HWE.out, ← HGE.out]
    refine wp_region_above (by kernel_rfl) (by kernel_rfl) ?_
    intro hne
    repeat (go_big_quiet_step (first | (go_at_call 60; exact above_of (hla _)) | (go_at_call 67; exact above_of (hie _))))
    refine wpQuiet_nil ?_
    rintro _ ⟨kq2, rfl⟩
    have HB2 : Hid (Below w.heap.size w kq2.it) := HBW.out.trans (kq2.is.mono HBW.out.size)
    go_wp2
    go_ret
    exact ⟨ret_bool (by rw [HF.out]; rfl), HB2.out⟩
end Go.Proofs.Ytflabcmjbhmphaa
/-
  The contracts of epoch's mayBe and Put and of mover's areOf, and of the document's MayMarks and Gone.
-/
namespace Go.Proofs.Ytflabcmjbhmphaa
open Go.RowKit

set_option maxRecDepth 4000 in
set_option maxHeartbeats 4000000 in
theorem emay_any {w : World} {v : Value} {ms : List Mk} (h : MksIs w v ms) (hl : ms.length ≤ 1000000) :
    Calls Try.prog 58 #[v] w fun e w' => e = .returned (.bool (mayF (-1) ms)) ∧ Below w.heap.size w w' := by
  obtain ⟨a, n, cap, rfl, hn, hcap⟩ := h.slice
  have hn1 : (n : Int) ≤ 1000000 := by omega
  have HH : Hid (MksIs w (.slice a n cap) ms ∧ ms.length = n ∧ n ≤ cap) := ⟨h, hn, hcap⟩
  clear h hl hn
  go_enter Try.func58, Try.ntmps58
  go_wp2_with fail
  go_loopg [7] n (fun gg s7 wx => ∃ k : Nat, k + gg = n ∧ s7 = .int .i64 k ∧ Hid (mayF (-1) ms = mayF (lastA (ms.take k)) (ms.drop k)) ∧ Hid (Below w.heap.size w wx))
  case atStart => exact ⟨0, by omega, rfl, by unfold Hid; rw [List.take_zero, List.drop_zero, lastA_nil], Below.refl _ _⟩
  case round =>
    obtain ⟨k, hkg, rfl, HM, HB⟩ := hrel
    by_cases hk : k < n
    · have hkI : (k : Int) < (n : Int) := by omega
      obtain ⟨m, bb, off, hm, rfl, hbb, q0, q1⟩ := at_mk (HH.out.1.over stays_mk HB.out) hk
      obtain ⟨fb, hfb⟩ : ∃ fb, fb = folB (ms.take k) m := ⟨_, rfl⟩
      have HF : Hid (∀ W, Below wr.heap.size wr W → Calls Try.prog 63 #[.slice (some ⟨bb, off, none⟩) k cap, .agg #[.int .i64 m.a, .int .i64 m.g]] W fun e w' => e = .returned (.bool fb) ∧ Below W.heap.size W w') := fun W hW => by
        rw [hfb]
        exact efollows_any (((HH.out.1.over stays_mk HB.out).over stays_mk hW).take (by omega)) (by rw [List.length_take]; omega) m
      have HR : Hid (ms[k]? = some m ∧ fb = folB (ms.take k) m ∧ mayF (-1) ms = (fb && mayF (lastA (ms.take (k + 1))) (ms.drop (k + 1)))) := ⟨hm, hfb, by rw [HM.out, mayF_step hm, hfb]⟩
      have hkc : (0 : Int) ≤ (k : Int) ∧ (k : Int) ≤ (cap : Int) := by omega
      have hr2 : IntKind.i64.wrap ((k : Int) + 1) = (k : Int) + 1 := by rw [IntKind.wrap_i64]; omega
      generalize m.a = f at q0 HF
      generalize m.g = c at q1 HF
      clear hfb hm hbb
      go_wp2_with fail
      generalize hW : wr.alloc (.cells #[.int .i64 f, .int .i64 c] 66) = W
      have hbx : Box W wr.heap.size 66 #[.int .i64 f, .int .i64 c] := by rw [← hW]; exact box_new _ _ _
      have hbw : Below wr.heap.size wr W := by rw [← hW]; exact below1 _ _
      clear hW
      have HBW : Hid (Below wr.heap.size wr W) := hbw
      generalize hg : wr.heap.size = g at hbx
      have e0 := above_cell (hbx.cell 0 _ rfl)
      have e1 := above_cell (hbx.cell 1 _ rfl)
      have hce : ∀ q : Above W, Calls Try.prog 63 #[.slice (some ⟨bb, off, none⟩) k cap, .agg #[.int .i64 f, .int .i64 c]] q.it fun e w' => e = .returned (.bool fb) ∧ Below q.it.heap.size q.it w' := fun q => HF.out q.it (hbw.trans (q.is.mono hbw.size))
      clear hbx hbw q0 q1
      refine wp_region_above (by kernel_rfl) (by kernel_rfl) ?_
      intro hne
      repeat (go_big_quiet_step (first | (go_at_call 63; exact above_of (hce _))))
      refine wpQuiet_nil ?_
      rintro _ ⟨kq, rfl⟩
      have HB2 : Hid (Below w.heap.size w kq.it) := HB.out.trans ((HBW.out.trans (kq.is.mono HBW.out.size)).mono HB.out.size)
      cases fb with
      | false =>
        go_wp2_with fail
        go_ret
        exact ⟨ret_bool (by rw [HR.out.2.2]; rfl), HB2.out⟩
      | true =>
        go_wp2_with fail
        go_roundg (n - (k + 1))
        case measure => clear hr2; omega
        case rel => exact ⟨k + 1, by clear hr2; omega, by go_num, by unfold Hid; rw [HR.out.2.2]; rfl, HB2⟩
    · have hkI : ¬ (k : Int) < (n : Int) := by omega
      obtain rfl : k = n := by omega
      go_wp2_with fail
      go_ret
      exact ⟨ret_bool (by rw [HM.out, List.drop_of_length_le (by rw [HH.out.2.1]; exact Nat.le_refl _)]; rfl), HB.out⟩
set_option maxRecDepth 4000 in
set_option maxHeartbeats 4000000 in
theorem refMayM_any {w : World} {v : Value} {ms : List Mk} (h : MksIs w v ms) (hl : ms.length ≤ 1000000) :
    Calls Try.prog 40 #[v] w fun e w' => e = .returned (.bool (mayF (-1) ms)) ∧ Below w.heap.size w w' := by
  obtain ⟨a, n, cap, rfl, hn, hcap⟩ := h.slice
  have hn1 : (n : Int) ≤ 1000000 := by omega
  have HH : Hid (MksIs w (.slice a n cap) ms ∧ ms.length = n ∧ n ≤ cap) := ⟨h, hn, hcap⟩
  clear h hl hn
  go_enter Try.func40, Try.ntmps40
  go_wp2_with fail
  go_loopg [3, 4] n (fun gg s3 s4 wx => ∃ (k : Nat) (L : Int), k + gg = n ∧ s4 = .int .i64 k ∧ s3 = .int .i64 L ∧ Hid (L = lastA (ms.take k)) ∧ Hid (mayF (-1) ms = mayF L (ms.drop k)) ∧ Hid (Below w.heap.size w wx))
  case atStart => exact ⟨0, -1, by omega, rfl, rfl, by unfold Hid; rw [List.take_zero, lastA_nil], by unfold Hid; rw [List.drop_zero], Below.refl _ _⟩
  case round =>
    obtain ⟨k, L, hkg, rfl, rfl, HL, HM, HB⟩ := hrel
    by_cases hk : k < n
    · have hkI : (k : Int) < (n : Int) := by omega
      obtain ⟨m, bb, off, hm, rfl, hbb, q0, q1⟩ := at_mk (HH.out.1.over stays_mk HB.out) hk
      have hr2 : IntKind.i64.wrap ((k : Int) + 1) = (k : Int) + 1 := by rw [IntKind.wrap_i64]; omega
      obtain ⟨f, hf⟩ : ∃ f, f = m.a := ⟨_, rfl⟩
      obtain ⟨c, hc⟩ : ∃ c, c = m.g := ⟨_, rfl⟩
      rw [← hf] at q0
      rw [← hc] at q1
      have HR : Hid (mayF (-1) ms = (((decide (L < f) && decide (f < 4096)) && (decide (1 ≤ c) && decide (c ≤ 1099511627776))) && mayF f (ms.drop (k + 1))) ∧ f = lastA (ms.take (k + 1))) := by
        have := mayF_step hm
        refine ⟨?_, by rw [take_succ_of hm, lastA_snoc, hf]⟩
        rw [HM.out, HL.out, this, take_succ_of hm, lastA_snoc, hf, hc]
        rfl
      clear hm hbb hf hc
      by_cases h1 : L < f
      · by_cases h2 : f < 4096
        · by_cases h3 : 1 ≤ c
          · by_cases h4 : c ≤ 1099511627776
            · have HN : Hid (mayF (-1) ms = mayF f (ms.drop (k + 1))) := by unfold Hid; rw [HR.out.1, decide_eq_true h1, decide_eq_true h2, decide_eq_true h3, decide_eq_true h4]; rfl
              have g1 : ¬ f ≤ L := by omega
              have g2 : ¬ 4096 ≤ f := by omega
              have g3 : ¬ c < 1 := by omega
              have g4 : ¬ 1099511627776 < c := by omega
              clear h1 h2 h3 h4
              go_wp2_with fail
              go_roundg (n - (k + 1))
              case measure => clear hr2; omega
              case rel => exact ⟨k + 1, f, by clear hr2; omega, by go_num, rfl, HR.out.2, HN, HB⟩
            · have HN : Hid (mayF (-1) ms = false) := by unfold Hid; rw [HR.out.1, decide_eq_false h4]; simp
              have g1 : ¬ f ≤ L := by omega
              have g2 : ¬ 4096 ≤ f := by omega
              have g3 : ¬ c < 1 := by omega
              have g4 : 1099511627776 < c := by omega
              clear h1 h2 h3 h4
              go_wp2_with fail
              go_ret
              exact ⟨ret_bool HN.out.symm, HB.out⟩
          · have HN : Hid (mayF (-1) ms = false) := by unfold Hid; rw [HR.out.1, decide_eq_false h3]; simp
            have g1 : ¬ f ≤ L := by omega
            have g2 : ¬ 4096 ≤ f := by omega
            have g3 : c < 1 := by omega
            clear h1 h2 h3
            go_wp2_with fail
            go_ret
            exact ⟨ret_bool HN.out.symm, HB.out⟩
        · have HN : Hid (mayF (-1) ms = false) := by unfold Hid; rw [HR.out.1, decide_eq_false h2]; simp
          have g1 : ¬ f ≤ L := by omega
          have g2 : 4096 ≤ f := by omega
          clear h1 h2
          go_wp2_with fail
          go_ret
          exact ⟨ret_bool HN.out.symm, HB.out⟩
      · have HN : Hid (mayF (-1) ms = false) := by unfold Hid; rw [HR.out.1, decide_eq_false h1]; simp
        have g1 : f ≤ L := by omega
        clear h1
        go_wp2_with fail
        go_ret
        exact ⟨ret_bool HN.out.symm, HB.out⟩
    · have hkI : ¬ (k : Int) < (n : Int) := by omega
      obtain rfl : k = n := by omega
      go_wp2_with fail
      go_ret
      exact ⟨ret_bool (by rw [HM.out, List.drop_of_length_le (by rw [HH.out.2.1]; exact Nat.le_refl _)]; rfl), HB.out⟩
theorem gone_hit {ms : List Mk} {k : Nat} {m : Mk} {i : Int} (hm : ms[k]? = some m) (he : m.a = i) (hno : ∀ (j : Nat) (x : Mk), j < k → ms[j]? = some x → x.a ≠ i) : goneA ms i = m.g := by
  have : ms.find? (fun m => m.a == i) = some m := by
    obtain ⟨hk, rfl⟩ := List.getElem?_eq_some_iff.1 hm
    rw [List.find?_eq_some_iff_getElem]
    refine ⟨by simpa using he, k, hk, rfl, fun j hj => ?_⟩
    have := hno j _ hj (List.getElem?_eq_getElem (by omega))
    simpa using this
  unfold goneA; rw [this]
theorem gone_miss {ms : List Mk} {i : Int} (hno : ∀ (j : Nat) (x : Mk), ms[j]? = some x → x.a ≠ i) : goneA ms i = 0 := by
  have : ms.find? (fun m => m.a == i) = none := by
    rw [List.find?_eq_none]
    intro x hx
    obtain ⟨j, hj⟩ := List.getElem?_of_mem hx
    have := hno j x hj
    simpa using this
  unfold goneA; rw [this]
set_option maxRecDepth 4000 in
set_option maxHeartbeats 4000000 in
theorem refGone_any {w : World} {v : Value} {ms : List Mk} (h : MksIs w v ms) (hl : ms.length ≤ 1000000) (i : Int) :
    Calls Try.prog 41 #[v, .int .i64 i] w fun e w' => e = .returned (.int .i64 (goneA ms i)) ∧ Below w.heap.size w w' := by
  obtain ⟨a, n, cap, rfl, hn, hcap⟩ := h.slice
  have hn1 : (n : Int) ≤ 1000000 := by omega
  have HH : Hid (MksIs w (.slice a n cap) ms ∧ ms.length = n ∧ n ≤ cap) := ⟨h, hn, hcap⟩
  clear h hl hn
  go_enter Try.func41, Try.ntmps41
  go_wp2_with fail
  go_loopg [5] n (fun gg s5 wx => ∃ k : Nat, k + gg = n ∧ s5 = .int .i64 k ∧ Hid (∀ (j : Nat) (x : Mk), j < k → ms[j]? = some x → x.a ≠ i) ∧ Hid (Below w.heap.size w wx))
  case atStart => exact ⟨0, by omega, rfl, fun j x hj => by omega, Below.refl _ _⟩
  case round =>
    obtain ⟨k, hkg, rfl, HM, HB⟩ := hrel
    by_cases hk : k < n
    · have hkI : (k : Int) < (n : Int) := by omega
      obtain ⟨m, bb, off, hm, rfl, hbb, q0, q1⟩ := at_mk (HH.out.1.over stays_mk HB.out) hk
      have hr2 : IntKind.i64.wrap ((k : Int) + 1) = (k : Int) + 1 := by rw [IntKind.wrap_i64]; omega
      obtain ⟨f, hf⟩ : ∃ f, f = m.a := ⟨_, rfl⟩
      obtain ⟨c, hc⟩ : ∃ c, c = m.g := ⟨_, rfl⟩
      rw [← hf] at q0
      rw [← hc] at q1
      have HR : Hid (ms[k]? = some m ∧ f = m.a ∧ c = m.g) := ⟨hm, hf, hc⟩
      clear hm hbb hf hc
      by_cases h1 : f = i
      · have d1 : (f == i) = true := by simpa using h1
        have HE : Hid (goneA ms i = c) := by unfold Hid; rw [HR.out.2.2]; exact gone_hit HR.out.1 (by rw [← HR.out.2.1]; exact h1) HM.out
        clear h1
        go_wp2_with fail
        go_ret
        exact ⟨ret_int HE.out.symm, HB.out⟩
      · have d1 : (f == i) = false := by simpa using h1
        have HN : Hid (∀ (j : Nat) (x : Mk), j < k + 1 → ms[j]? = some x → x.a ≠ i) := fun j x hj hx => by
          by_cases e : j = k
          · subst e
            obtain rfl := Option.some.inj (HR.out.1.symm.trans hx)
            rw [← HR.out.2.1]; exact h1
          · exact HM.out j x (by clear hr2; omega) hx
        clear h1
        go_wp2_with fail
        go_roundg (n - (k + 1))
        case measure => clear hr2; omega
        case rel => exact ⟨k + 1, by clear hr2; omega, by go_num, HN, HB⟩
    · have hkI : ¬ (k : Int) < (n : Int) := by omega
      obtain rfl : k = n := by omega
      go_wp2_with fail
      go_ret
      exact ⟨ret_int (gone_miss fun j x hx => HM.out j x (by have := (List.getElem?_eq_some_iff.1 hx).1; have := HH.out.2.1; omega) hx).symm, HB.out⟩
end Go.Proofs.Ytflabcmjbhmphaa
/-
  Bytes that '[]byte(s)' made and that texts are appended to: that they are bytes, how many, where they lie.
-/
namespace Go.Proofs.Ytflabcmjbhmphaa
open Go.RowKit

theorem heap_setCells_fz (b : Nat) (t : TypeId) (fz : Nat × Nat) : ∀ (vs : List Value) (o : Nat) (w : World) (cur : Array Value), w.heap[b]? = some (.cells cur t fz) → o + vs.length ≤ cur.size →
    ∃ cur', (w.setCells b o vs).heap[b]? = some (.cells cur' t fz) ∧ cur'.size = cur.size ∧ (∀ k, k < o ∨ o + vs.length ≤ k → cur'[k]? = cur[k]?) ∧ ∀ j v, vs[j]? = some v → cur'[o + j]? = some v
  | [], _, _, cur, h, _ => ⟨cur, h, rfl, fun _ _ => rfl, fun _ _ hv => by simp at hv⟩
  | v :: r, o, w, cur, h, hl => by
    simp only [List.length_cons] at hl
    obtain ⟨cur', h1, h2, h3, h4⟩ := heap_setCells_fz b t fz r (o + 1) (w.setCell ⟨b, o, none⟩ v) (cur.setIfInBounds o v) (by simp [World.setCell, Array.getElem?_modify, h]) (by simp; omega)
    refine ⟨cur', h1, by simpa using h2, ?_, ?_⟩
    · intro k hk
      simp only [List.length_cons] at hk
      rw [h3 k (by omega), Array.getElem?_setIfInBounds, if_neg (by omega)]
    · intro j u hu
      cases j with
      | zero =>
        simp at hu
        subst hu
        rw [h3 (o + 0) (by omega), Array.getElem?_setIfInBounds]
        simp
        omega
      | succ j =>
        have := h4 j u (by simpa using hu)
        rwa [show o + (j + 1) = o + 1 + j by omega]
/-- n bytes of one's own. -/
def ByO (w : World) (B : Nat) (v : Value) (n : Nat) : Prop :=
  ∃ g cap, v = .slice (some ⟨g, 0, none⟩) n cap ∧ B ≤ g ∧ n ≤ cap ∧ cap ≤ maxLen ∧ ∃ cur fz, w.heap[g]? = some (.cells cur 5 fz) ∧ cur.size = cap ∧ (fz.2 ≤ fz.1 ∨ cap ≤ fz.1) ∧ ∀ j, j < n → ∃ b : UInt8, cur[j]? = some (.int .u8 (b.toNat : Int))
section
variable {w w' : World} {B n : Nat} {v : Value}
theorem ByO.lt (h : ByO w B v n) {k : Nat} (hk : v.ownBlock = some k) : B ≤ k ∧ k < w.heap.size := by
  obtain ⟨g, cap, rfl, hB, _, _, cur, fz, hh, _⟩ := h
  have e : some g = some k := hk
  cases e
  exact ⟨hB, (Array.getElem?_eq_some_iff.1 hh).1⟩
theorem ByO.over (h : ByO w B v n) (k : Below w.heap.size w w') : ByO w' B v n := by
  have hl : ∀ {k : Nat}, v.ownBlock = some k → B ≤ k ∧ k < w.heap.size := fun hk => h.lt hk
  obtain ⟨g, cap, rfl, hB, h1, h2, cur, fz, hh, h3⟩ := h
  exact ⟨g, cap, rfl, hB, h1, h2, cur, fz, by rw [k.block g (hl (k := g) rfl).2]; exact hh, h3⟩
theorem ByO.ne_box (h : ByO w B v n) {t : TypeId} (ht : t ≠ 5) {g : Nat} {c : Array Value} (hb : Box w g t c) : ¬ v.ownBlock = some g := by
  intro e
  obtain ⟨g2, cap, rfl, hB, h1, h2, cur, fz, hh, h3⟩ := h
  have e2 : some g2 = some g := e
  cases e2
  have hb2 : w.heap[g]? = some (.cells c t (0, 0)) := hb
  rw [hb2] at hh
  simp only [Option.some.injEq, Obj.cells.injEq] at hh
  exact ht hh.2.1
theorem byO_new (s : ByteArray) (w : World) (hs : s.size ≤ maxLen) : ∃ v' w', (convert 9 93 (.string s)).run Try.prog w = .ok v' w' ∧ ByO w' w.heap.size v' s.size ∧ Below w.heap.size w w' := by
  refine ⟨_, _, run_bytes_of_string w _ _ 5 s Try.underlying9 Try.underlying93 Try.underlying5, ?_, ((Below.refl _ _).drew).alloc (Nat.le_refl _) _⟩
  have hge := grownCap_ge w s.size 0 5
  have hcm := grownCap_le_maxLen w s.size 0 5 hs
  have hsz : (bytesRow s (grownCap w s.size 0 5)).size = grownCap w s.size 0 5 := by
    have e : s.size = s.data.size := rfl
    unfold bytesRow
    simp only [Array.size_append, Array.size_map, Array.size_replicate]
    omega
  refine ⟨w.heap.size, _, rfl, Nat.le_refl _, hge, hcm, _, _, heap_alloc_last w.drew _, hsz, .inr (by rw [hsz]; exact Nat.le_refl _), fun j hj => ?_⟩
  have hj2 : j < s.data.size := hj
  refine ⟨s.data[j], ?_⟩
  unfold bytesRow
  rw [Array.getElem?_append_left (by simpa using hj2), Array.getElem?_map, Array.getElem?_eq_getElem hj2]
  rfl
theorem run_append_byo (t : ByteArray) (h : ByO w B v n) (hB : B ≤ w.heap.size) (hl : n + t.size ≤ 1000000) (ty : TypeId) :
    ∃ v' w', (Builtin.append_ #[93, 9] ty #[v, .string t]).run Try.prog w = .ok v' w' ∧ ByO w' B v' (n + t.size) ∧ Kept (fun k => v.ownBlock = some k) w w' := by
  obtain ⟨i0, hi, hz0, hz1, hz2⟩ := info_parts info_u8
  obtain ⟨g, cap, rfl, hBg, hnc, hcm, cur, fz, hh, hcs, hfz, hby⟩ := h
  have hlen := Lib.strCells_length t
  by_cases hroom : n + t.size ≤ cap
  · have hth : ∀ j, j < (Lib.strCells t).length → (w.cell? ⟨g, n + 0 + j, none⟩).isSome = true := fun j hj => by
      rw [cell_of_row w g _ cur _ fz hh, Array.getElem?_eq_getElem (by omega)]; rfl
    have hfr : ∀ j, j < (Lib.strCells t).length → w.frozen? ⟨g, n + 0 + j, none⟩ = false := fun j hj => by
      simp only [World.frozen?, hh]
      rcases hfz with hf | hf
      · simp; omega
      · simp; omega
    have hst := run_storeCells_cells (P := Try.prog) g n (Lib.strCells t) 0 w hth hfr (Lib.strCells_oneCell t)
    have hf := Lib.run_firstCells_string (P := Try.prog) w 1 t
    simp only [Nat.add_zero] at hst
    have hr : (Builtin.append_ #[93, 9] ty #[.slice (some ⟨g, 0, none⟩) n cap, .string t]).run Try.prog w = .ok (.slice (some ⟨g, 0, none⟩) (n + t.size) cap) (w.setCells g n (Lib.strCells t)) := by
      simp [Builtin.append_, run_underlying Try.underlying93, run_underlying Try.underlying9, sizeOf, typeInfo, hi, hz1, Builtin.lenOf, hroom, hf, Addr.add_lit, hst]
    obtain ⟨cur', c1, c2, c3, c4⟩ := heap_setCells_fz g 5 fz (Lib.strCells t) n w cur hh (by omega)
    refine ⟨_, _, hr, ⟨g, cap, rfl, hBg, hroom, hcm, cur', fz, c1, by omega, hfz, fun j hj => ?_⟩, Kept.setCells (F := fun k => (Value.slice (some ⟨g, 0, none⟩) n cap).ownBlock = some k) (.inl rfl) _ _ _ (Kept.refl _ _)⟩
    by_cases hjn : j < n
    · rw [c3 j (.inl hjn)]; exact hby j hjn
    · have hjs : j - n < t.data.toList.length := by have e : t.size = t.data.toList.length := Lib.size_eq t; omega
      have := c4 (j - n) (.int .u8 ((t.data.toList[j - n]).toNat : Int)) (by unfold Lib.strCells; rw [List.getElem?_map, List.getElem?_eq_getElem hjs]; rfl)
      rw [show n + (j - n) = j by omega] at this
      exact ⟨_, this⟩
  · have hl0 : (cur.toList.take n).length = n := by rw [List.length_take, Array.length_toList]; omega
    have holds : ∀ j u, (cur.toList.take n)[j]? = some u → w.cell? ((⟨g, 0, none⟩ : Addr).add j) = some u := fun j u hu => by
      rw [add_off, Nat.zero_add, cell_of_row w g _ cur _ fz hh]
      rw [List.getElem?_take] at hu
      split at hu
      · rwa [Array.getElem?_toList] at hu
      · cases hu
    have hr := Lib.run_append_grow_string (P := Try.prog) w 93 9 ty 5 i0 (.int .u8 0) Try.underlying93 Try.underlying9 hi hz0 ⟨g, 0, none⟩ n cap (cur.toList.take n) (by rw [hz1, Nat.mul_one]; exact hl0) holds t (by omega) (by omega) (by rw [hz2]; exact growslice_fits (by omega) (by omega))
    have hge := grownCap_ge w (n + t.size) cap 5
    have hcm2 := grownCap_le_maxLen w (n + t.size) cap 5 (by unfold maxLen; omega)
    refine ⟨_, _, hr, ⟨w.heap.size, _, rfl, hB, hge, hcm2, _, _, heap_alloc_last w.drew _, ?_, .inl (Nat.le_refl _), fun j hj => ?_⟩, ((Kept.refl _ w).drew).alloc _⟩
    · have e1 : (Value.int IntKind.u8 0).cells.size = 1 := rfl
      simp only [Array.size_append, List.size_toArray, size_zeroCells, e1, hl0, hlen]
      omega
    · rw [Array.getElem?_append_left (by simp only [Array.size_append, List.size_toArray, hl0, hlen]; exact hj)]
      by_cases hjn : j < n
      · rw [Array.getElem?_append_left (by simpa [hl0] using hjn), List.getElem?_toArray, List.getElem?_take, if_pos hjn, Array.getElem?_toList]
        exact hby j hjn
      · rw [Array.getElem?_append_right (by simp only [List.size_toArray, hl0]; omega), List.getElem?_toArray]
        simp only [List.size_toArray, hl0]
        have hjs : j - n < t.data.toList.length := by have e : t.size = t.data.toList.length := Lib.size_eq t; omega
        exact ⟨t.data.toList[j - n], by unfold Lib.strCells; rw [List.getElem?_map, List.getElem?_eq_getElem hjs]; rfl⟩
theorem byO_text (h : ByO w B v n) : ∃ s, (convert 93 9 v).run Try.prog w = .ok (.string s) w := by
  obtain ⟨g, cap, rfl, hBg, hnc, hcm, cur, fz, hh, hcs, hfz, hby⟩ := h
  obtain ⟨l, hl, hall⟩ := list_of (Q := fun j (b : UInt8) => cur[j]? = some (.int .u8 (b.toNat : Int))) n hby
  have := run_convert_bytes_back (P := Try.prog) w 93 9 5 ⟨g, 0, none⟩ cap l Try.underlying93 Try.underlying5 Try.underlying9 (fun j hj => by
    rw [add_off, Nat.zero_add, cell_of_row w g _ cur _ fz hh]
    exact hall j _ (List.getElem?_eq_getElem hj))
  rw [hl] at this
  exact ⟨_, this⟩
end
end Go.Proofs.Ytflabcmjbhmphaa
/-
  The contracts of epoch's Put (whether it puts) and of mover's areOf.
-/
namespace Go.Proofs.Ytflabcmjbhmphaa
open Go.RowKit

/-- What stays while bytes are made beside a mark's box. -/
structure PutM (w W : World) (g : Nat) (a c : Int) (v : Value) (n : Nat) : Prop where
  own : ByO W w.heap.size v n
  box : Box W g 66 #[.int .i64 a, .int .i64 c]
  below : Below w.heap.size w W
section
variable {w W W' : World} {g : Nat} {a c : Int} {v v' : Value} {n n' : Nat}
theorem PutM.over (h : PutM w W g a c v n) (k : Below W.heap.size W W') : PutM w W' g a c v n := ⟨h.own.over k, h.box.over k, h.below.trans (k.mono h.below.size)⟩
theorem PutM.app (h : PutM w W g a c v n) (k : Kept (fun k => v.ownBlock = some k) W W') (o : ByO W' w.heap.size v' n') : PutM w W' g a c v' n' :=
  ⟨o, h.box.kept k (h.own.ne_box (by decide) h.box), h.below.trans (k.below (fun x hx => (h.own.lt hx).1) h.below.size)⟩
end
theorem exec_conv {P : Program} {o : Oper} {ev : Operand → Value} {w w' : World} {x : Operand} {t u : TypeId} {v r : Value} (ho : o.op = .convert t u x) (hx : ev x = v) (hr : (convert t u v).run P w = .ok r w') : (execOp ev o).run P w = .ok (.value r) w' := by
  simp [execOp, ho, hx, hr, Result.andThen]
theorem conv_step {P : Program} {ops : Array Oper} {rest : List Oper} {o : Oper} {a : Act} {w w' : World} {Q : Exit → Act → World → Prop} (hgd : o.guard = none) {x : Operand} {t u : TypeId} {v r : Value} (ho : o.op = .convert t u x) (hx : a.eval x = v) (hr : (convert t u v).run P w = .ok r w') (h : wpList P ops Q rest (a.put o.dst r) w') : wpList P ops Q (o :: rest) a w := by
  refine wpList_plain hgd fun K hK => ?_
  unfold Oper.wp
  rw [exec_conv ho hx hr]
  exact hK _ _ h
theorem append_step {P : Program} {ops : Array Oper} {rest : List Oper} {o : Oper} {a : Act} {w w' : World} {Q : Exit → Act → World → Prop} (hgd : o.guard = none) (s x : Operand) {T U : TypeId} {v u r : Value} (ho : o.op = .call { callee := .builtin .append, args := #[s, x], argTypes := #[T, U] }) (hs : a.eval s = v) (hx : a.eval x = u) (hr : (Builtin.append_ #[T, U] o.type #[v, u]).run P w = .ok r w') (h : wpList P ops Q rest (a.put o.dst r) w') : wpList P ops Q (o :: rest) a w := by
  refine wpList_plain hgd fun K hK => ?_
  unfold Oper.wp execOp
  simp only [ho, resolve, invoke, builtin, Sem.run_bind, Sem.run_pure, Result.andThen_ok, List.map_toArray, List.map_cons, List.map_nil, hs, hx, hr]
  exact hK _ _ h
theorem str_enc_size (x : BitVec 64) : (str (enc1 x)).size ≤ 10 := (enc1_bd x).2
theorem lastA_all {ms : List Mk} (h : mayF (-1) ms = true) : ∀ (k : Nat) (m : Mk), ms[k]? = some m → -1 ≤ m.a ∧ m.a < 4096 ∧ 1 ≤ m.g ∧ m.g ≤ 1099511627776 := by
  have gen : ∀ (ms : List Mk) (x : Int), -1 ≤ x → mayF x ms = true → ∀ (k : Nat) (m : Mk), ms[k]? = some m → -1 ≤ m.a ∧ m.a < 4096 ∧ 1 ≤ m.g ∧ m.g ≤ 1099511627776 := by
    intro ms
    induction ms with
    | nil => intro x _ _ k m hm; simp at hm
    | cons y r ih =>
      intro x hx h k m hm
      simp only [mayF, Bool.and_eq_true, decide_eq_true_eq] at h
      cases k with
      | zero => simp at hm; subst hm; omega
      | succ k => exact ih y.a (by omega) h.2 k m (by simpa using hm)
  exact gen ms (-1) (by omega) h
set_option maxRecDepth 4000 in
set_option maxHeartbeats 8000000 in
theorem eput_any {w : World} {v : Value} {ms : List Mk} (h : MksIs w v ms) (hl : ms.length ≤ 1000) :
    Calls Try.prog 51 #[v] w fun e w' => (∃ t, e = .returned (.tuple #[.string t, .int .i64 (if mayF (-1) ms then 0 else 1)])) ∧ Below w.heap.size w w' := by
  have hmb := emay_any h (by omega)
  obtain ⟨a, n, cap, rfl, hn, hcap⟩ := h.slice
  have hn1 : (n : Int) ≤ 1000 := by omega
  have HH : Hid (MksIs w (.slice a n cap) ms ∧ ms.length = n ∧ n ≤ cap) := ⟨h, hn, hcap⟩
  have hcI : (n : Int) ≤ (cap : Int) := by omega
  obtain ⟨q, hq⟩ : ∃ q, q = mayF (-1) ms := ⟨_, rfl⟩
  rw [← hq] at hmb
  rw [← hq]
  have HQ : Hid (q = mayF (-1) ms) := hq
  clear h hl hn hq hcap
  cases q with
  | false =>
    go_enter Try.func51, Try.ntmps51
    go_wp2_with (go_at_call 58; refine hmb.mono ?_; rintro e w1 ⟨rfl, hb1⟩)
    go_ret2
    exact ⟨⟨_, rfl⟩, hb1⟩
  | true =>
    have HP : Hid (∀ W, Calls Try.prog 59 #[.int .i64 (n : Int)] W fun e w' => (∃ t : ByteArray, e = .returned (.string t) ∧ t.size ≤ 10) ∧ Below W.heap.size W w') := fun W => by
      have := put_any (BitVec.ofInt 64 (n : Int)) W
      rw [← Wd.word_of_le (n : Int) (by omega) (by omega)] at this
      refine this.mono ?_
      rintro e w' ⟨rfl, hb⟩
      exact ⟨⟨_, rfl, str_enc_size _⟩, hb⟩
    go_enter Try.func51, Try.ntmps51
    go_wp2_with fail
    refine hmb.mono ?_
    rintro e w1 ⟨rfl, hb1⟩
    have HB1 : Hid (Below w.heap.size w w1) := hb1
    clear hmb hb1
    go_wp2_with fail
    refine (HP.out w1).mono ?_
    rintro e w2 ⟨⟨t, rfl, ht⟩, hb2⟩
    obtain ⟨v3, w3, hcv, ho3, hb3⟩ := byO_new t w2 (by unfold maxLen; omega)
    have hB2 : Below w.heap.size w w2 := HB1.out.trans (hb2.mono HB1.out.size)
    have HB3 : Hid (Below w.heap.size w w3 ∧ ∃ m, m ≤ 10 ∧ ByO w3 w.heap.size v3 m) := by
      refine ⟨hB2.trans (hb3.mono hB2.size), t.size, ht, ?_⟩
      obtain ⟨g, cap, e, q, r⟩ := ho3
      exact ⟨g, cap, e, Nat.le_trans hB2.size q, r⟩
    have HCV : Hid ((convert 9 93 (.string t)).run Try.prog w2 = .ok v3 w3) := hcv
    clear hb2 ht hcv ho3 hb3 hB2 HP HB1
    go_wp2_with (refine conv_step rfl rfl rfl HCV.out ?_)
    clear HCV
    go_loopg [4, 16] n (fun gg s4 s16 wx => ∃ (k m : Nat), k + gg = n ∧ s16 = .int .i64 k ∧ Hid (m ≤ 10 + 20 * k ∧ ByO wx w.heap.size s4 m) ∧ Hid (Below w.heap.size w wx))
    case atStart =>
      obtain ⟨h1, m, h2, h3⟩ := HB3.out
      exact ⟨0, m, by omega, rfl, ⟨by omega, h3⟩, h1⟩
    case round =>
      clear HB3
      obtain ⟨k, m, hkg, rfl, HO, HB⟩ := hrel
      by_cases hk : k < n
      · have hkI : (k : Int) < (n : Int) := by omega
        have hkc : (0 : Int) ≤ (k : Int) ∧ (k : Int) ≤ (cap : Int) := by omega
        obtain ⟨mk, bb, off, hm, rfl, hbb, q0, q1⟩ := at_mk HH.out.1 hk
        have hr2 : IntKind.i64.wrap ((k : Int) + 1) = (k : Int) + 1 := by rw [IntKind.wrap_i64]; omega
        have hall := lastA_all HQ.out.symm
        have hmr := hall k mk hm
        obtain ⟨L, hL⟩ : ∃ L, L = lastA (ms.take k) := ⟨_, rfl⟩
        have hLr : -1 ≤ L ∧ L < 4096 := by
          rcases lastA_take (ms := ms) (k := k) (by rw [HH.out.2.1]; omega) with ⟨_, e⟩ | ⟨y, j, _, hy, e⟩
          · rw [hL, e]; omega
          · rw [hL, e]; have := hall j y hy; omega
        obtain ⟨f, hf⟩ : ∃ f, f = mk.a := ⟨_, rfl⟩
        obtain ⟨c, hc⟩ : ∃ c, c = mk.g := ⟨_, rfl⟩
        rw [← hf] at q0 hmr
        rw [← hc] at q1 hmr
        have hrs : IntKind.i64.wrap (f - L) = f - L := by rw [IntKind.wrap_i64]; omega
        have HLA : Hid (∀ W, Below w.heap.size w W → Calls Try.prog 60 #[.slice (some ⟨bb, off, none⟩) k cap] W fun e w' => e = .returned (.int .i64 L) ∧ Below W.heap.size W w') := fun W hW => by
          rw [hL]; exact lastAt_any ((HH.out.1.over stays_mk hW).take (by omega)) (by rw [List.length_take]; omega)
        have HP : Hid (∀ (z : Int) (W : World), -10000000000000 ≤ z ∧ z ≤ 10000000000000 → Calls Try.prog 59 #[.int .i64 z] W fun e w' => (∃ t : ByteArray, e = .returned (.string t) ∧ t.size ≤ 10) ∧ Below W.heap.size W w') := fun z W hz => by
          have := put_any (BitVec.ofInt 64 z) W
          rw [← Wd.word_of_le z (by omega) (by omega)] at this
          refine this.mono ?_
          rintro e w' ⟨rfl, hb⟩
          exact ⟨⟨_, rfl, str_enc_size _⟩, hb⟩
        have HR : Hid (-10000000000000 ≤ f - L ∧ f - L ≤ 10000000000000 ∧ -10000000000000 ≤ c ∧ c ≤ 10000000000000) := by unfold Hid; omega
        have c0 : wr.cell? ⟨bb, off + k * 2, none⟩ = some (.int .i64 f) := (HB.out.cell (p := ⟨bb, off + k * 2, none⟩) hbb).trans q0
        have c1 : wr.cell? ⟨bb, off + k * 2 + 1, none⟩ = some (.int .i64 c) := (HB.out.cell (p := ⟨bb, off + k * 2 + 1, none⟩) hbb).trans q1
        obtain ⟨W, hW⟩ : ∃ W, W = wr.alloc (.cells #[.int .i64 f, .int .i64 c] 66) := ⟨_, rfl⟩
        obtain ⟨g, hg⟩ : ∃ g, g = wr.heap.size := ⟨_, rfl⟩
        have HS : Hid (PutM w W g f c u4 m ∧ W = wr.alloc (.cells #[.int .i64 f, .int .i64 c] 66) ∧ g = wr.heap.size ∧ m ≤ 10 + 20 * k) := by
          refine ⟨?_, hW, hg, HO.out.1⟩
          rw [hW, hg]
          exact ⟨HO.out.2.over (below1 _ _), box_new _ _ _, HB.out.trans ((below1 _ _).mono HB.out.size)⟩
        clear hm hbb q0 q1 hall hmr hL hLr hf hc hW hg HO HB
        go_wp2_with fail
        rw [← HS.out.2.1, ← HS.out.2.2.1]
        clear c0 c1
        refine wp_region_held_then (fun W' : World => W'.cell? ⟨g, 0, none⟩ = some (.int .i64 f)) _ (by kernel_rfl) rfl (by kernel_rfl) ?_
        have S0 := HS.out.1.over ((Below.refl _ W).drew)
        have hHeld : (fun W' : World => W'.cell? ⟨g, 0, none⟩ = some (.int .i64 f)) W.drew := S0.box.cell 0 _ rfl
        dsimp only [List.dropLast, List.length, List.getLast]
        ((refine takeL 0 (v := ?_) rfl (by kernel_rfl) (by kernel_rfl) (by kernel_rfl) (fun _ _ _ h => h) (by rfl) hHeld ?_ ?_; rotate_left; focus (intro w hSw; (try dsimp only at hSw); go_simp <;> with_reducible rfl); (try simp only [Act.put, List.setIfInBounds_toArray, List.set_cons_zero, List.set_cons_succ])); (refine takeL 1 (v := ?_) rfl (by kernel_rfl) (by kernel_rfl) (by kernel_rfl) (fun _ _ _ h => h) (by rfl) hHeld ?_ ?_; rotate_left; focus (intro w hSw; (try dsimp only at hSw); go_simp <;> with_reducible rfl); (try simp only [Act.put, List.setIfInBounds_toArray, List.set_cons_zero, List.set_cons_succ])); (refine takeL 2 (v := ?_) rfl (by kernel_rfl) (by kernel_rfl) (by kernel_rfl) (fun _ _ _ h => h) (by rfl) hHeld ?_ ?_; rotate_left; focus (intro w hSw; (try dsimp only at hSw); go_simp <;> with_reducible rfl); (try simp only [Act.put, List.setIfInBounds_toArray, List.set_cons_zero, List.set_cons_succ])); (refine takeL 3 (v := ?_) rfl (by kernel_rfl) (by kernel_rfl) (by kernel_rfl) (fun _ _ _ h => h) (by rfl) hHeld ?_ ?_; rotate_left; focus (intro w hSw; (try dsimp only at hSw); go_simp <;> with_reducible rfl); (try simp only [Act.put, List.setIfInBounds_toArray, List.set_cons_zero, List.set_cons_succ])))
        dsimp only [Act.put]
        simp only [List.setIfInBounds_toArray, List.set_cons_zero, List.set_cons_succ]
        ((refine takeL 4 (v := ?_) rfl (by kernel_rfl) (by kernel_rfl) (by kernel_rfl) (fun _ _ _ h => h) (by rfl) hHeld ?_ ?_; rotate_left; focus (intro w hSw; (try dsimp only at hSw); go_simp <;> with_reducible rfl); (try simp only [Act.put, List.setIfInBounds_toArray, List.set_cons_zero, List.set_cons_succ])); (refine takeL 5 (v := ?_) rfl (by kernel_rfl) (by kernel_rfl) (by kernel_rfl) (fun _ _ _ h => h) (by rfl) hHeld ?_ ?_; rotate_left; focus (intro w hSw; (try dsimp only at hSw); go_simp <;> with_reducible rfl); (try simp only [Act.put, List.setIfInBounds_toArray, List.set_cons_zero, List.set_cons_succ])))
        dsimp only [Act.put]
        simp only [List.setIfInBounds_toArray, List.set_cons_zero, List.set_cons_succ]
        refine callL 6 (f := 60) (vs := #[.slice (some ⟨bb, off, none⟩) k cap]) rfl (by kernel_rfl) (by rfl) (by go_simp) ?_
        refine Calls.mono (HLA.out W.drew S0.below) ?_
        rintro e w4 ⟨rfl, hb4⟩
        have S4 := S0.over hb4
        have hH4 : (fun W' : World => W'.cell? ⟨g, 0, none⟩ = some (.int .i64 f)) w4 := S4.box.cell 0 _ rfl
        refine ⟨_, rfl, hH4, ?_⟩
        try dsimp only [Act.put]
        try simp only [List.setIfInBounds_toArray, List.set_cons_zero, List.set_cons_succ]
        ((refine takeL 7 (v := ?_) rfl (by kernel_rfl) (by kernel_rfl) (by kernel_rfl) (fun _ _ _ h => h) (by rfl) hH4 ?_ ?_; rotate_left; focus (intro w hSw; (try dsimp only at hSw); go_simp <;> with_reducible rfl); (try simp only [Act.put, List.setIfInBounds_toArray, List.set_cons_zero, List.set_cons_succ])))
        dsimp only [Act.put]
        simp only [List.setIfInBounds_toArray, List.set_cons_zero, List.set_cons_succ]
        refine callL 8 (f := 59) (vs := #[.int .i64 (f - L)]) rfl (by kernel_rfl) (by rfl) (by go_simp) ?_
        refine Calls.mono (HP.out (f - L) w4 ⟨HR.out.1, HR.out.2.1⟩) ?_
        rintro e w5 ⟨⟨t5, rfl, ht5⟩, hb5⟩
        have S5 := S4.over hb5
        have hH5 : (fun W' : World => W'.cell? ⟨g, 0, none⟩ = some (.int .i64 f)) w5 := S5.box.cell 0 _ rfl
        obtain ⟨v6, w6, hr6, ho6, hk6⟩ := run_append_byo t5 S5.own S5.below.size (by have := HS.out.2.2.2; have := HH.out.2.1; clear hr2 hrs; omega) 93
        have S6 := S5.app hk6 ho6
        have hH6 : (fun W' : World => W'.cell? ⟨g, 0, none⟩ = some (.int .i64 f)) w6 := S6.box.cell 0 _ rfl
        refine ⟨_, rfl, hH5, ?_⟩
        try dsimp only [Act.put]
        try simp only [List.setIfInBounds_toArray, List.set_cons_zero, List.set_cons_succ]
        refine newL 9 w6 v6 rfl (by kernel_rfl) (by rfl) ?_ hH6 ?_
        · unfold execOp
          simp only [resolve, invoke, builtin, Sem.run_bind, Sem.run_pure, Result.andThen_ok, List.map_toArray, List.map_cons, List.map_nil]
          exact then_val hr6
        have HS6 : Hid (PutM w w6 g f c v6 (m + t5.size) ∧ m + t5.size ≤ 20 + 20 * k) := ⟨S6, by have := HS.out.2.2.2; clear hr2 hrs; omega⟩
        refine doneL (by kernel_rfl) ?_
        try dsimp only [Act.put]
        unfold Oper.wp
        clear hHeld hH4 hH5 hH6 S0 S4 S5 S6 hb4 hb5 hr6 ho6 hk6 ht5 HS hrs
        go_simp
        have b1 := HS6.out.1.box.cell 1 _ rfl
        go_wp2_with fail
        refine (HP.out c w6 ⟨HR.out.2.2.1, HR.out.2.2.2⟩).mono ?_
        rintro e w7 ⟨⟨t7, rfl, ht7⟩, hb7⟩
        have S7 := HS6.out.1.over hb7
        obtain ⟨v8, w8, hr8, ho8, hk8⟩ := run_append_byo t7 S7.own S7.below.size (by have := HS6.out.2; have := HH.out.2.1; clear hr2; omega) 93
        have HS8 : Hid (PutM w w8 g f c v8 (m + t5.size + t7.size) ∧ m + t5.size + t7.size ≤ 10 + 20 * (k + 1)) := ⟨S7.app hk8 ho8, by have := HS6.out.2; clear hr2; omega⟩
        have HR8 : Hid ((Builtin.append_ #[93, 9] 93 #[v6, .string t7]).run Try.prog w7 = .ok v8 w8) := hr8
        clear b1 S7 hr8 ho8 hk8 hb7 ht7
        go_wp2_with (at_builtin; refine append_step rfl (.tmp 31) (.tmp 34) rfl rfl rfl HR8.out ?_)
        go_roundg (n - (k + 1))
        case measure => clear hr2; omega
        case rel => exact ⟨k + 1, _, by clear hr2; omega, by go_num, ⟨HS8.out.2, HS8.out.1.own⟩, HS8.out.1.below⟩
      · have hkI : ¬ (k : Int) < (n : Int) := by omega
        obtain ⟨s, hs⟩ := byO_text HO.out.2
        have HT : Hid ((convert 93 9 u4).run Try.prog wr = .ok (.string s) wr) := hs
        clear hs
        go_wp2_with (refine conv_step rfl rfl rfl HT.out ?_)
        go_ret2
        exact ⟨⟨_, rfl⟩, HB.out⟩
end Go.Proofs.Ytflabcmjbhmphaa
