/-
  The contracts of package peristyleref01's Zig and Zag.
-/
import Derived.Test.YtlohljefhcidkaaRefOf
import Derived.Deep.QuietTactic
import Derived.BigQuiet
namespace Go.Proofs.Ytlohljefhcidkaa
open Go.RowKit Arr

def zigP (x : BitVec 64) (k i : Nat) : Bool := if i = 0 then bitsOf x 63 else decide (i < k) && (bitsOf x (i - 1) != bitsOf x 63)
theorem zigP_one (x : BitVec 64) (i : Nat) : (if i = 0 then bitsOf x 63 else false) = zigP x 1 i := by
  unfold zigP
  by_cases h : i = 0
  · simp [h]
  · have : ¬ i < 1 := by omega
    simp [h]
theorem zigP_step (x : BitVec 64) (k i : Nat) (hk : 1 ≤ k) : (if i = k then (bitsOf x (k - 1) != bitsOf x 63) else zigP x k i) = zigP x (k + 1) i := by
  unfold zigP
  by_cases h : i = k
  · subst h
    have h0 : ¬ i = 0 := by omega
    simp [h0]
  · by_cases h0 : i = 0
    · have : ¬ 0 = k := by omega
      simp [h0, this]
    · by_cases h1 : i < k
      · have : i < k + 1 := by omega
        simp [h, h0, h1, this]
      · have : ¬ i < k + 1 := by omega
        simp [h, h0, h1, this]

set_option maxHeartbeats 400000 in
theorem refZig_any (x : BitVec 64) (w : World) :
    Calls Try.prog 31 #[.int .i64 x.toInt] w fun e w' => e = .returned (.int .i64 (wordW (zigP x 64)).toInt) ∧ Below w.heap.size w w' := by
  have b63 := brow_at (bitsOf x) 63 (by omega)
  have b0 := brow_at (fun _ => false) 0 (by omega)
  go_enter Try.func31, Try.ntmps31
  go_wp2_with (first
    | (go_at_call 38; refine (of_any _ _).mono ?_; rintro e w1 ⟨rfl, hb1⟩)
    | (refine alloc_arr isBits rfl rfl ?_)
    | (refine build_arr isBits rfl rfl ?_)
    | (refine store_new isBits _ _ _ _ _ _ rfl rfl rfl rfl ?hb rfl (brow_size _) (brow_size _) (brow_one _) ?_; case hb => simp))
  clear b63 b0
  rw [brow_set]
  go_loopg [5] 63 (fun g s5 wx => ∃ k : Nat, 1 ≤ k ∧ k + g = 64 ∧ s5 = .int .i64 k ∧ Has 61 wx w1.heap.size (bitsOf x) ∧ Has 61 wx (w1.heap.size + 1) (zigP x k) ∧ Below w1.heap.size w1 wx)
  case atStart => exact ⟨1, by omega, by omega, rfl, has_alloc (has_new _ _) _, (by simpa using has_new (w1.alloc (.cells (brow (bitsOf x)) _)) _ : Has _ _ _ _).congr (fun i _ => zigP_one x i), ((Below.refl _ _).alloc (Nat.le_refl _) _).alloc (by simp) _⟩
  case round =>
    obtain ⟨k, hk1, hkg, rfl, h0, h1, hb⟩ := hrel
    cases gk with
    | zero =>
      obtain rfl : k = 64 := by omega
      go_wp2_with (first
        | (refine load_has isBits _ _ _ rfl rfl rfl h1 ?_)
        | (go_at_call 39; refine (word_any _ _).mono ?_; rintro e w2 ⟨rfl, hb2⟩))
      go_ret
      exact ⟨rfl, (hb1.trans (hb.mono hb1.size)).trans (hb2.mono (Nat.le_trans hb1.size hb.size))⟩
    | succ g =>
      have hk : (k : Int) < 64 := by omega
      have c63 := h0.cell 63 (by omega)
      have ck := h0.cell (k - 1) (by omega)
      have co := h1.cell k (by omega)
      have cf := h1.frozen k
      have ek : ((k : Int) - 1).toNat = k - 1 := by omega
      go_wp2
      go_region
      go_wp2
      go_roundg g
      case measure => omega
      case rel =>
        refine ⟨k + 1, by omega, by omega, by go_num, ?_, ?_, ?_⟩
        · exact h0.other _ _ (by simp)
        · exact (h1.set k _).congr (fun i _ => zigP_step x k i hk1)
        · exact (hb.setCell (by simp) _).drew

def zagP (x : BitVec 64) (k i : Nat) : Bool := decide (i < k) && (bitsOf x (i + 1) != bitsOf x 0)
theorem zagP_step (x : BitVec 64) (k i : Nat) : (if i = k then (bitsOf x (k + 1) != bitsOf x 0) else zagP x k i) = zagP x (k + 1) i := by
  unfold zagP
  by_cases h : i = k
  · subst h; simp
  · by_cases h1 : i < k
    · have : i < k + 1 := by omega
      simp [h, h1, this]
    · have : ¬ i < k + 1 := by omega
      simp [h, h1, this]
def zagF (x : BitVec 64) (i : Nat) : Bool := if i = 63 then bitsOf x 0 else zagP x 63 i

set_option maxHeartbeats 400000 in
theorem refZag_any (x : BitVec 64) (w : World) :
    Calls Try.prog 35 #[.int .i64 x.toInt] w fun e w' => e = .returned (.int .i64 (wordW (zagF x)).toInt) ∧ Below w.heap.size w w' := by
  go_enter Try.func35, Try.ntmps35
  go_wp2_with (first
    | (go_at_call 38; refine (of_any _ _).mono ?_; rintro e w1 ⟨rfl, hb1⟩)
    | (refine alloc_arr isBits rfl rfl ?_)
    | (refine build_arr isBits rfl rfl ?_)
    | (refine store_new isBits _ _ _ _ _ _ rfl rfl rfl rfl ?hb rfl (brow_size _) (brow_size _) (brow_one _) ?_; case hb => simp))
  go_loopg [5] 63 (fun g s5 wx => ∃ k : Nat, k + g = 63 ∧ s5 = .int .i64 k ∧ Has 61 wx w1.heap.size (bitsOf x) ∧ Has 61 wx (w1.heap.size + 1) (zagP x k) ∧ Below w1.heap.size w1 wx)
  case atStart => exact ⟨0, by omega, rfl, has_alloc (has_new _ _) _, (by simpa using has_new (w1.alloc (.cells (brow (bitsOf x)) _)) _ : Has _ _ _ _).congr (fun i _ => by simp [zagP]), ((Below.refl _ _).alloc (Nat.le_refl _) _).alloc (by simp) _⟩
  case round =>
    obtain ⟨k, hkg, rfl, h0, h1, hb⟩ := hrel
    cases gk with
    | zero =>
      obtain rfl : k = 63 := by omega
      have c0 := h0.cell 0 (by omega)
      have co := h1.cell 63 (by omega)
      have cf := h1.frozen 63
      have h2 := h1.set 63 (bitsOf x 0)
      go_wp2_with (first
        | (refine load_has isBits _ _ (zagF x) rfl rfl rfl h2 ?_)
        | (go_at_call 39; refine (word_any _ _).mono ?_; rintro e w2 ⟨rfl, hb2⟩))
      go_ret
      have hb3 := hb.setCell (p := ⟨w1.heap.size + 1, 63, none⟩) (by simp) (.bool (bitsOf x 0))
      exact ⟨rfl, (hb1.trans (hb3.mono hb1.size)).trans (hb2.mono (Nat.le_trans hb1.size hb3.size))⟩
    | succ g =>
      have hk : (k : Int) < 63 := by omega
      have c0 := h0.cell 0 (by omega)
      have ck := h0.cell (k + 1) (by omega)
      have co := h1.cell k (by omega)
      have cf := h1.frozen k
      go_wp2
      go_region
      go_wp2
      go_roundg g
      case measure => omega
      case rel =>
        refine ⟨k + 1, by omega, by go_num, ?_, ?_, ?_⟩
        · exact h0.other _ _ (by simp)
        · exact (h1.set k _).congr (fun i _ => zagP_step x k i)
        · exact (hb.setCell (by simp) _).drew
end Go.Proofs.Ytlohljefhcidkaa
