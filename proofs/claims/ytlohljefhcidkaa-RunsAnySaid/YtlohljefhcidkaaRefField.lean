/-
  The contracts of package peristyleref01's Field and With.
-/
import Derived.Test.YtlohljefhcidkaaRefOf
import Derived.Deep.QuietTactic
import Derived.BigQuiet
namespace Go.Proofs.Ytlohljefhcidkaa
open Go.RowKit Arr

/-- The bits that Field takes: from a on, w of them. -/
def fieldF (x : BitVec 64) (a : Nat) (w : Int) (i : Nat) : Bool := decide ((i : Int) < w ∧ a + i < 64) && bitsOf x (a + i)
theorem field_step (x : BitVec 64) (a : Nat) (w : Int) (k i : Nat) (h1 : (k : Int) < w) (h2 : a + k < 64) :
    (if i = k then bitsOf x (a + k) else decide (i < k) && fieldF x a w i) = (decide (i < k + 1) && fieldF x a w i) := by
  by_cases h : i = k
  · subst h; simp [fieldF, h1, h2]
  · by_cases h3 : i < k
    · have : i < k + 1 := by omega
      simp [h, h3, this]
    · have : ¬ i < k + 1 := by omega
      simp [h, h3, this]
theorem field_end (x : BitVec 64) (a : Nat) (w : Int) (k i : Nat) (h : ¬ (k : Int) < w ∨ ¬ a + k < 64) :
    (decide (i < k) && fieldF x a w i) = fieldF x a w i := by
  by_cases h3 : i < k
  · simp [h3]
  · have : ¬ ((i : Int) < w ∧ a + i < 64) := by omega
    simp [fieldF, this]

set_option maxHeartbeats 1000000 in
theorem refField_in (x : BitVec 64) (a : Nat) (ha : a < 64) (v : Int) (w : World) :
    Calls Try.prog 32 #[.int .i64 x.toInt, .int .i64 a, .int .i64 v] w fun e w' => e = .returned (.int .i64 (wordW (fieldF x a v)).toInt) ∧ Below w.heap.size w w' := by
  go_enter Try.func32, Try.ntmps32
  go_wp2_with (first
    | (go_at_call 38; refine (of_any _ _).mono ?_; rintro e w1 ⟨rfl, hb1⟩)
    | (refine alloc_arr isBits rfl rfl ?_)
    | (refine build_arr isBits rfl rfl ?_)
    | (refine store_new isBits _ _ _ _ _ _ rfl rfl rfl rfl ?hb rfl (brow_size _) (brow_size _) (brow_one _) ?_; case hb => simp))
  go_loopg [9] 64 (fun g s9 wx => ∃ k : Nat, k + g = 64 ∧ s9 = .int .i64 k ∧ Has 61 wx w1.heap.size (bitsOf x) ∧ Has 61 wx (w1.heap.size + 1) (fun i => decide (i < k) && fieldF x a v i) ∧ Below w1.heap.size w1 wx)
  case atStart => exact ⟨0, by omega, rfl, has_alloc (has_new _ _) _, (by simpa using has_new (w1.alloc (.cells (brow (bitsOf x)) _)) _ : Has _ _ _ _).congr (fun i _ => by simp), ((Below.refl _ _).alloc (Nat.le_refl _) _).alloc (by simp) _⟩
  case round =>
    obtain ⟨k, hkg, rfl, h0, h1, hb⟩ := hrel
    have ha0 : (0 : Int) ≤ (a : Int) := by omega
    have ha1 : (a : Int) < 64 := by omega
    by_cases hlt : (k : Int) < v ∧ a + k < 64
    · obtain ⟨hv, hak⟩ := hlt
      cases gk with
      | zero => omega
      | succ g =>
        have hk : (k : Int) < 64 := by omega
        have hk2 : (k : Int) < 64 - (a : Int) := by omega
        have hk3 : (a : Int) + (k : Int) < 64 := by omega
        have ck := h0.cell (a + k) (by omega)
        have co := h1.cell k (by omega)
        have cf := h1.frozen k
        go_wp2
        go_roundg g
        case measure => omega
        case rel =>
          refine ⟨k + 1, by omega, by go_num, ?_, ?_, ?_⟩
          · exact h0.other _ _ (by simp)
          · exact (h1.set k _).congr (fun i _ => field_step x a v k i hv hak)
          · exact hb.setCell (by simp) _
    · have hend : ¬ (k : Int) < v ∨ ¬ a + k < 64 := by omega
      have h2 : Has 61 _ (w1.heap.size + 1) (fieldF x a v) := h1.congr (fun i _ => field_end x a v k i hend)
      clear h1 hlt
      by_cases hk : (k : Int) < 64
      · by_cases hv : (k : Int) < v
        · have hk2 : ¬ (k : Int) < 64 - (a : Int) := by omega
          go_wp2_with (first
            | (refine load_has isBits _ _ _ rfl rfl rfl h2 ?_)
            | (go_at_call 39; refine (word_any _ _).mono ?_; rintro e w2 ⟨rfl, hb2⟩))
          go_ret
          exact ⟨rfl, (hb1.trans (hb.mono hb1.size)).trans (hb2.mono (Nat.le_trans hb1.size hb.size))⟩
        · go_wp2_with (first
            | (refine load_has isBits _ _ _ rfl rfl rfl h2 ?_)
            | (go_at_call 39; refine (word_any _ _).mono ?_; rintro e w2 ⟨rfl, hb2⟩))
          go_ret
          exact ⟨rfl, (hb1.trans (hb.mono hb1.size)).trans (hb2.mono (Nat.le_trans hb1.size hb.size))⟩
      · go_wp2_with (first
          | (refine load_has isBits _ _ _ rfl rfl rfl h2 ?_)
          | (go_at_call 39; refine (word_any _ _).mono ?_; rintro e w2 ⟨rfl, hb2⟩))
        go_ret
        exact ⟨rfl, (hb1.trans (hb.mono hb1.size)).trans (hb2.mono (Nat.le_trans hb1.size hb.size))⟩

set_option maxHeartbeats 1000000 in
theorem refField_out (x : BitVec 64) (a : Int) (ha : a < 0 ∨ 64 ≤ a) (v : Int) (w : World) :
    Calls Try.prog 32 #[.int .i64 x.toInt, .int .i64 a, .int .i64 v] w fun e w' => e = .returned (.int .i64 (wordW (fun _ => false)).toInt) ∧ Below w.heap.size w w' := by
  go_enter Try.func32, Try.ntmps32
  go_wp2_with (first
    | (go_at_call 38; refine (of_any _ _).mono ?_; rintro e w1 ⟨rfl, hb1⟩)
    | (refine alloc_arr isBits rfl rfl ?_)
    | (refine build_arr isBits rfl rfl ?_)
    | (refine store_new isBits _ _ _ _ _ _ rfl rfl rfl rfl ?hb rfl (brow_size _) (brow_size _) (brow_one _) ?_; case hb => simp))
  go_loopg [9] 64 (fun g s9 wx => g = 64 ∧ s9 = .int .i64 0 ∧ Has 61 wx (w1.heap.size + 1) (fun _ => false) ∧ Below w1.heap.size w1 wx)
  case atStart => exact ⟨rfl, rfl, (by simpa using has_new (w1.alloc (.cells (brow (bitsOf x)) _)) _ : Has _ _ _ _), ((Below.refl _ _).alloc (Nat.le_refl _) _).alloc (by simp) _⟩
  case round =>
    obtain ⟨hg, rfl, h2, hb⟩ := hrel
    clear hg
    by_cases hv : (0 : Int) < v
    · rcases ha with ha | ha
      · have ha' : ¬ (0 : Int) ≤ a := by omega
        go_wp2_with (first
          | (refine load_has isBits _ _ _ rfl rfl rfl h2 ?_)
          | (go_at_call 39; refine (word_any _ _).mono ?_; rintro e w2 ⟨rfl, hb2⟩))
        go_ret
        exact ⟨rfl, (hb1.trans (hb.mono hb1.size)).trans (hb2.mono (Nat.le_trans hb1.size hb.size))⟩
      · have ha0 : (0 : Int) ≤ a := by omega
        have ha' : ¬ a < 64 := by omega
        go_wp2_with (first
          | (refine load_has isBits _ _ _ rfl rfl rfl h2 ?_)
          | (go_at_call 39; refine (word_any _ _).mono ?_; rintro e w2 ⟨rfl, hb2⟩))
        go_ret
        exact ⟨rfl, (hb1.trans (hb.mono hb1.size)).trans (hb2.mono (Nat.le_trans hb1.size hb.size))⟩
    · go_wp2_with (first
        | (refine load_has isBits _ _ _ rfl rfl rfl h2 ?_)
        | (go_at_call 39; refine (word_any _ _).mono ?_; rintro e w2 ⟨rfl, hb2⟩))
      go_ret
      exact ⟨rfl, (hb1.trans (hb.mono hb1.size)).trans (hb2.mono (Nat.le_trans hb1.size hb.size))⟩

/-- The bits of x, those from a on, w of them, from y. -/
def withF (x : BitVec 64) (a : Nat) (w : Int) (y : BitVec 64) (i : Nat) : Bool := if a ≤ i ∧ ((i - a : Nat) : Int) < w then bitsOf y (i - a) else bitsOf x i
def withP (x : BitVec 64) (a : Nat) (y : BitVec 64) (k i : Nat) : Bool := if a ≤ i ∧ i < a + k then bitsOf y (i - a) else bitsOf x i
theorem with_step (x : BitVec 64) (a : Nat) (y : BitVec 64) (k i : Nat) :
    (if i = a + k then bitsOf y k else withP x a y k i) = withP x a y (k + 1) i := by
  unfold withP
  by_cases h : i = a + k
  · subst h
    have e : a + k - a = k := by omega
    simp [e]
  · by_cases h3 : a ≤ i ∧ i < a + k
    · have : a ≤ i ∧ i < a + (k + 1) := by omega
      simp only [h, if_false, if_pos h3, if_pos this]
    · have : ¬ (a ≤ i ∧ i < a + (k + 1)) := by omega
      simp only [h, if_false, if_neg h3, if_neg this]
theorem with_end (x : BitVec 64) (a : Nat) (w : Int) (y : BitVec 64) (k i : Nat) (hi : i < 64) (hk : (k : Int) ≤ w ∨ k = 0) (h : ¬ (k : Int) < w ∨ ¬ a + k < 64) :
    withP x a y k i = withF x a w y i := by
  unfold withP withF
  by_cases h3 : a ≤ i ∧ i < a + k
  · have : a ≤ i ∧ ((i - a : Nat) : Int) < w := by omega
    rw [if_pos h3, if_pos this]
  · have : ¬ (a ≤ i ∧ ((i - a : Nat) : Int) < w) := by omega
    rw [if_neg h3, if_neg this]

set_option maxHeartbeats 1000000 in
theorem refWith_in (x : BitVec 64) (a : Nat) (ha : a < 64) (v : Int) (y : BitVec 64) (w : World) :
    Calls Try.prog 34 #[.int .i64 x.toInt, .int .i64 a, .int .i64 v, .int .i64 y.toInt] w fun e w' => e = .returned (.int .i64 (wordW (withF x a v y)).toInt) ∧ Below w.heap.size w w' := by
  go_enter Try.func34, Try.ntmps34
  go_wp2_with fail
  refine (of_any _ _).mono ?_; rintro e w1 ⟨rfl, hb1⟩
  go_wp2_with fail
  refine (of_any _ _).mono ?_; rintro e w2 ⟨rfl, hb2⟩
  go_wp2_with (first
    | (refine alloc_arr isBits rfl rfl ?_)
    | (refine build_arr isBits rfl rfl ?_)
    | (refine store_new isBits _ _ _ _ _ _ rfl rfl rfl rfl ?hb rfl (brow_size _) (brow_size _) (brow_one _) ?_; case hb => simp)
    | (refine store_first isBits _ _ _ _ _ _ _ rfl rfl rfl rfl ?hb rfl (brow_size _) (brow_size _) (brow_one _) ?_; case hb => simp))
  have hb12 : Below w.heap.size w w2 := hb1.trans (hb2.mono hb1.size)
  clear hb1 hb2
  go_loopg [11] 64 (fun g s11 wx => ∃ k : Nat, k + g = 64 ∧ ((k : Int) ≤ v ∨ k = 0) ∧ s11 = .int .i64 k ∧ Has 61 wx (w2.heap.size + 1) (bitsOf y) ∧ Has 61 wx w2.heap.size (withP x a y k) ∧ Below w2.heap.size w2 wx)
  case atStart =>
    exact ⟨0, by omega, .inr rfl, rfl, (by simpa using has_new (w2.alloc (.cells (brow (bitsOf x)) _)) _ : Has _ _ _ _), (has_alloc (has_new _ _) _).congr (fun i _ => by unfold withP; rw [if_neg (by omega)]), ((Below.refl _ _).alloc (Nat.le_refl _) _).alloc (by simp) _⟩
  case round =>
    obtain ⟨k, hkg, hkv, rfl, h0, h1, hb⟩ := hrel
    have ha0 : (0 : Int) ≤ (a : Int) := by omega
    have ha1 : (a : Int) < 64 := by omega
    by_cases hlt : (k : Int) < v ∧ a + k < 64
    · obtain ⟨hv, hak⟩ := hlt
      cases gk with
      | zero => omega
      | succ g =>
        have hk : (k : Int) < 64 := by omega
        have hk2 : (k : Int) < 64 - (a : Int) := by omega
        have hk3 : (a : Int) + (k : Int) < 64 := by omega
        have ck := h0.cell k (by omega)
        have co := h1.cell (a + k) (by omega)
        have cf := h1.frozen (a + k)
        clear hkv
        go_wp2
        go_roundg g
        case measure => omega
        case rel =>
          refine ⟨k + 1, by omega, .inl (by omega), by go_num, ?_, ?_, ?_⟩
          · exact h0.other _ _ (by simp)
          · exact (h1.set (a + k) _).congr (fun i _ => with_step x a y k i)
          · exact hb.setCell (by simp) _
    · have hend : ¬ (k : Int) < v ∨ ¬ a + k < 64 := by omega
      have h2 : Has 61 _ w2.heap.size (withF x a v y) := h1.congr (fun i hi => with_end x a v y k i hi hkv hend)
      clear h1 hlt hkv
      by_cases hk : (k : Int) < 64
      · by_cases hv : (k : Int) < v
        · have hk2 : ¬ (k : Int) < 64 - (a : Int) := by omega
          go_wp2_with (first
            | (refine load_has isBits _ _ _ rfl rfl rfl h2 ?_)
            | (go_at_call 39; refine (word_any _ _).mono ?_; rintro e w3 ⟨rfl, hb3⟩))
          go_ret
          exact ⟨rfl, (hb12.trans (hb.mono hb12.size)).trans (hb3.mono (Nat.le_trans hb12.size hb.size))⟩
        · go_wp2_with (first
            | (refine load_has isBits _ _ _ rfl rfl rfl h2 ?_)
            | (go_at_call 39; refine (word_any _ _).mono ?_; rintro e w3 ⟨rfl, hb3⟩))
          go_ret
          exact ⟨rfl, (hb12.trans (hb.mono hb12.size)).trans (hb3.mono (Nat.le_trans hb12.size hb.size))⟩
      · go_wp2_with (first
          | (refine load_has isBits _ _ _ rfl rfl rfl h2 ?_)
          | (go_at_call 39; refine (word_any _ _).mono ?_; rintro e w3 ⟨rfl, hb3⟩))
        go_ret
        exact ⟨rfl, (hb12.trans (hb.mono hb12.size)).trans (hb3.mono (Nat.le_trans hb12.size hb.size))⟩

set_option maxHeartbeats 1000000 in
theorem refWith_out (x : BitVec 64) (a : Int) (ha : a < 0 ∨ 64 ≤ a) (v : Int) (y : BitVec 64) (w : World) :
    Calls Try.prog 34 #[.int .i64 x.toInt, .int .i64 a, .int .i64 v, .int .i64 y.toInt] w fun e w' => e = .returned (.int .i64 (wordW (bitsOf x)).toInt) ∧ Below w.heap.size w w' := by
  go_enter Try.func34, Try.ntmps34
  go_wp2_with fail
  refine (of_any _ _).mono ?_; rintro e w1 ⟨rfl, hb1⟩
  go_wp2_with fail
  refine (of_any _ _).mono ?_; rintro e w2 ⟨rfl, hb2⟩
  go_wp2_with (first
    | (refine alloc_arr isBits rfl rfl ?_)
    | (refine build_arr isBits rfl rfl ?_)
    | (refine store_new isBits _ _ _ _ _ _ rfl rfl rfl rfl ?hb rfl (brow_size _) (brow_size _) (brow_one _) ?_; case hb => simp)
    | (refine store_first isBits _ _ _ _ _ _ _ rfl rfl rfl rfl ?hb rfl (brow_size _) (brow_size _) (brow_one _) ?_; case hb => simp))
  have hb12 : Below w.heap.size w w2 := hb1.trans (hb2.mono hb1.size)
  clear hb1 hb2
  go_loopg [11] 64 (fun g s11 wx => g = 64 ∧ s11 = .int .i64 0 ∧ Has 61 wx w2.heap.size (bitsOf x) ∧ Below w2.heap.size w2 wx)
  case atStart =>
    exact ⟨rfl, rfl, has_alloc (has_new _ _) _, ((Below.refl _ _).alloc (Nat.le_refl _) _).alloc (by simp) _⟩
  case round =>
    obtain ⟨hg, rfl, h2, hb⟩ := hrel
    clear hg
    by_cases hv : (0 : Int) < v
    · rcases ha with ha | ha
      · have ha' : ¬ (0 : Int) ≤ a := by omega
        go_wp2_with (first
          | (refine load_has isBits _ _ _ rfl rfl rfl h2 ?_)
          | (go_at_call 39; refine (word_any _ _).mono ?_; rintro e w3 ⟨rfl, hb3⟩))
        go_ret
        exact ⟨rfl, (hb12.trans (hb.mono hb12.size)).trans (hb3.mono (Nat.le_trans hb12.size hb.size))⟩
      · have ha0 : (0 : Int) ≤ a := by omega
        have ha' : ¬ a < 64 := by omega
        go_wp2_with (first
          | (refine load_has isBits _ _ _ rfl rfl rfl h2 ?_)
          | (go_at_call 39; refine (word_any _ _).mono ?_; rintro e w3 ⟨rfl, hb3⟩))
        go_ret
        exact ⟨rfl, (hb12.trans (hb.mono hb12.size)).trans (hb3.mono (Nat.le_trans hb12.size hb.size))⟩
    · go_wp2_with (first
        | (refine load_has isBits _ _ _ rfl rfl rfl h2 ?_)
        | (go_at_call 39; refine (word_any _ _).mono ?_; rintro e w3 ⟨rfl, hb3⟩))
      go_ret
      exact ⟨rfl, (hb12.trans (hb.mono hb12.size)).trans (hb3.mono (Nat.le_trans hb12.size hb.size))⟩
end Go.Proofs.Ytlohljefhcidkaa
