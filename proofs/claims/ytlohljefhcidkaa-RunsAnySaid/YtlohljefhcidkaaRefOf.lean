/-
  The contracts of package peristyleref01's Of and Word.
-/
import Derived.Test.YtlohljefhcidkaaRows
import Derived.Test.YtlohljefhcidkaaWords
import Derived.Test.YtlohljefhcidkaaArr
import Derived.WalkKit
import Derived.WalkSpells
import Derived.WalkLawsBesides
import Derived.Deep.WholeRow
import Derived.Deep.LoopGhost
namespace Go.Proofs.Ytlohljefhcidkaa
open Go.RowKit Arr

theorem isBits : IsArr Try.prog 61 64 4 (brow fun _ => false) where
  hu := by kernel_rfl
  hz := (zero_of_info (n := 64) (by kernel_rfl)).1
  hi := by kernel_rfl
  hb := by kernel_rfl
  hs := brow_size _

def bitsOf (x : BitVec 64) (i : Nat) : Bool := x.getLsbD i
theorem of_step (x : BitVec 64) (k : Nat) : (brow fun i => decide (i < k) && x.getLsbD i).setIfInBounds k (.bool (x.getLsbD k)) = brow fun i => decide (i < k + 1) && x.getLsbD i := by
  rw [brow_set]
  apply brow_congr
  intro i hi
  by_cases h : i = k
  · subst h; simp
  · by_cases h2 : i < k
    · have : i < k + 1 := by omega
      simp [h, h2, this]
    · have : ¬ i < k + 1 := by omega
      simp [h, h2, this]
set_option maxHeartbeats 400000 in
theorem of_any (x : BitVec 64) (w : World) :
    Calls Try.prog 38 #[.int .i64 x.toInt] w fun e w' => e = .returned (.agg (brow (bitsOf x))) ∧ Below w.heap.size w w' := by
  go_enter Try.func38, Try.ntmps38
  go_wp2_with (first
    | (refine alloc_arr isBits rfl rfl ?_)
    | (refine build_arr isBits rfl rfl ?_)
    | (refine store_new isBits _ _ _ _ _ _ rfl rfl rfl rfl ?hb rfl (brow_size _) (brow_size _) (brow_one _) ?_; case hb => simp))
  go_loopg [4] 64 (fun g s4 wx => ∃ k : Nat, k + g = 64 ∧ s4 = .int .i64 k ∧ wx = (w.alloc (.cells (brow fun _ => false) 61)).alloc (.cells (brow fun i => decide (i < k) && x.getLsbD i) 61))
  case atStart => exact ⟨0, by omega, rfl, by rw [brow_congr (f := fun _ => false) (g := fun i => decide (i < 0) && x.getLsbD i) (fun i _ => by simp)]⟩
  case round =>
    obtain ⟨k, hkg, rfl, rfl⟩ := hrel
    cases gk with
    | zero =>
      obtain rfl : k = 64 := by omega
      rw [brow_congr (f := fun i => decide (i < 64) && x.getLsbD i) (g := bitsOf x) (fun i hi => by simp [hi, bitsOf])]
      go_wp2_with (first
        | (refine load_new isBits _ _ _ _ rfl rfl rfl rfl (by simp) (brow_size _) ?_)
        | (refine store_first isBits _ _ _ _ _ _ _ rfl rfl rfl rfl ?hb rfl (brow_size _) (brow_size _) (brow_one _) ?_; case hb => simp))
      exact bodyPost_ret (v := .agg (brow (bitsOf x))) (results_cell_row rfl _ _ w.heap.size 61 _ (0, 0) _ rfl (heap_alloc2_old w _ _) isBits.hu rfl (by rw [brow_size]; exact isBits.hi)) rfl ⟨rfl, ((Below.refl _ _).alloc (Nat.le_refl _) _).alloc (by simp) _⟩
    | succ g =>
      have hk : (k : Int) < 64 := by omega
      have m1 : min k 64 = k := by omega
      have hsz := brow_size (fun i => decide (i < k) && x.getLsbD i)
      have hc := brow_at (fun i => decide (i < k) && x.getLsbD i) k (by omega)
      go_wp2
      go_roundg g
      case measure => omega
      case rel => exact ⟨k + 1, by omega, by go_num, by rw [← of_step, ← Wd.bit_at x k (by omega)]⟩

def accW (f : Nat → Bool) : Nat → BitVec 64
  | 0 => 0#64
  | k + 1 => if f k then accW f k ||| 1#64 <<< k else accW f k
theorem accW_bit (f : Nat → Bool) (i : Nat) : ∀ k, (accW f k).getLsbD i = (decide (i < k) && decide (i < 64) && f i)
  | 0 => by simp [accW]
  | k + 1 => by
    have ih := accW_bit f i k
    rw [accW]
    by_cases h : f k
    · rw [if_pos h, BitVec.getLsbD_or, ih, BitVec.getLsbD_shiftLeft, BitVec.getLsbD_one]
      by_cases e : i = k
      · subst e; by_cases h64 : i < 64 <;> simp [h, h64]
      · by_cases h1 : i < k
        · have : i < k + 1 := by omega
          simp [h1, this]
        · have : ¬ i < k + 1 := by omega
          have h2 : ¬ (i - k = 0) := by omega
          simp [h1, this, h2]
    · rw [if_neg h, ih]
      by_cases e : i = k
      · subst e; simp [h]
      · by_cases h1 : i < k
        · have : i < k + 1 := by omega
          simp [h1, this]
        · have : ¬ i < k + 1 := by omega
          simp [h1, this]
def wordW (f : Nat → Bool) : BitVec 64 := accW f 64
theorem wordW_bit (f : Nat → Bool) (i : Nat) (hi : i < 64) : (wordW f).getLsbD i = f i := by
  unfold wordW; rw [accW_bit]; simp [hi]
theorem acc_step (f : Nat → Bool) (k : Nat) (hf : f k = true) : bits .or .i64 (accW f k).toInt (wrap64 (2 ^ k)) = (accW f (k + 1)).toInt := by
  have e : (1 : Int) = (1#64).toInt := by decide
  rw [← Int.one_mul (2 ^ k), e, Wd.i64_shl, Wd.i64_or, accW, if_pos hf]
set_option maxHeartbeats 400000 in
theorem word_any (f : Nat → Bool) (w : World) :
    Calls Try.prog 39 #[.agg (brow f)] w fun e w' => e = .returned (.int .i64 (wordW f).toInt) ∧ Below w.heap.size w w' := by
  go_enter Try.func39, Try.ntmps39
  go_wp2_with (first
    | (refine box_arr _ _ rfl rfl rfl ?_))
  go_loopg [3, 4] 64 (fun g s3 s4 wx => ∃ k : Nat, k + g = 64 ∧ s4 = .int .i64 k ∧ s3 = .int .i64 (accW f k).toInt ∧ wx = w.alloc (.cells (brow f) 61))
  case atStart => exact ⟨0, by omega, rfl, rfl, rfl⟩
  case round =>
    obtain ⟨k, hkg, rfl, rfl, rfl⟩ := hrel
    cases gk with
    | zero =>
      obtain rfl : k = 64 := by omega
      go_wp2
      go_ret
      exact ⟨rfl, (Below.refl _ _).alloc (Nat.le_refl _) _⟩
    | succ g =>
      have hk : (k : Int) < 64 := by omega
      have m1 : min k 64 = k := by omega
      have hc := brow_at f k (by omega)
      by_cases hf : f k
      · go_wp2
        go_roundg g
        case measure => omega
        case rel => exact ⟨k + 1, by omega, by go_num, by rw [← acc_step f k hf], rfl⟩
      · have hf' : f k = false := by simpa using hf
        go_wp2
        go_roundg g
        case measure => omega
        case rel => exact ⟨k + 1, by omega, by go_num, by rw [accW, if_neg hf], rfl⟩
end Go.Proofs.Ytlohljefhcidkaa
