/-
  The contract of the document's one.
-/
import Derived.Test.YtjkkkdehmgfmeaaDoorKTake
import Derived.Test.YtjkkkdehmgfmeaaDoorVRefTake
namespace Go.Proofs.YtjkkkdehmgfmeaaDoor
open Go.RowKit Leb

set_option maxHeartbeats 2000000 in
set_option maxRecDepth 4000 in
theorem refOne_any (s : ByteArray) (hs : s.size ≤ maxLen) (w : World) :
    Calls Tryd.prog 36 #[.string s] w fun e w' => e = .returned (.tuple #[cv (tkC s.data.toList).1, .int .i64 (tkC s.data.toList).2]) ∧ Below w.heap.size w w' := by
  have hsm := hs
  unfold maxLen at hs
  cases he : s.toList.isEmpty with
  | true =>
    have HE : Hid (tkC s.data.toList = (cl0, 0)) := by
      rw [List.isEmpty_iff, Lib.toList_data] at he
      unfold Hid; rw [he]; rfl
    go_enter Tryd.func36, Tryd.ntmps36
    go_wp2_with fail
    rw [HE.out]
    exact bodyPost_ret (v := .tuple #[cv cl0, .int .i64 0]) (by simp [results, Tryd.results36, go_sem, cl0]) rfl ⟨rfl, below1 _ _⟩
  | false =>
    have hpos : 0 < s.size := by
      rw [emp_size] at he
      have : s.size ≠ 0 := by simpa using he
      omega
    by_cases k0 : s[0].toNat = 0
    · have HE : Hid (tkC s.data.toList = (cl0, 1)) := tkC_0 hpos k0
      go_enter Tryd.func36, Tryd.ntmps36
      go_wp2_with fail
      rw [HE.out]
      exact bodyPost_ret (v := .tuple #[cv cl0, .int .i64 1]) (by simp [results, Tryd.results36, go_sem, cl0]) rfl ⟨rfl, below2 _ _ _⟩
    · obtain ⟨k, hk⟩ : ∃ k, k = s[0].toNat := ⟨_, rfl⟩
      have hk256 : (k : Int) < 256 := by have := s[0].toNat_lt; omega
      have hwk : wrap64 (s[0].toNat : Int) = (k : Int) := by rw [← hk]; unfold wrap64; omega
      have b0 : ((k : Int) == 0) = false := by simp; omega
      by_cases k1 : s[0].toNat = 1
      · have e1 := extract_drop s 1
        have tx : ∀ w, Calls Tryd.prog 51 #[.string (s.extract 1 s.size)] w fun e w' => e = .returned (.tuple #[.int .i64 (zagW (tk (s.data.toList.drop 1)).1).toInt, .int .i64 (tk (s.data.toList.drop 1)).2.1, .int .i64 (tk (s.data.toList.drop 1)).2.2]) ∧ Below w.heap.size w w' := fun w => by
          have := refTake_any (s.extract 1 s.size) w
          rw [e1] at this
          exact this
        clear e1 k0 b0 hwk hk256 hk
        have hsI : (1 : Int) ≤ (s.size : Int) := by omega
        rcases tk_cases (s.data.toList.drop 1) with ⟨z, hz, e0⟩ | ⟨_, e0⟩
        · have HE : Hid (tkC s.data.toList = (numC (zagW z).toInt, 1 + lenW z)) := tkC_1 hpos k1 e0
          have hbd := lenW_bd z
          rw [e0] at tx
          obtain ⟨m, hm⟩ : ∃ m, m = lenW z := ⟨_, rfl⟩
          obtain ⟨n, hn⟩ : ∃ n, n = zagW z := ⟨_, rfl⟩
          simp only [← hm, ← hn] at tx HE hbd
          have hr2 : IntKind.i64.wrap (1 + (m : Int)) = 1 + (m : Int) := by rw [IntKind.wrap_i64]; omega
          have hm10 : (m : Int) ≤ 10 := by omega
          have hm0 : (0 : Int) ≤ (m : Int) := by omega
          clear hz e0 hm hn hbd
          go_enter Tryd.func36, Tryd.ntmps36
          go_wp2_with (first
            | (go_at_call 51; refine (tx _).mono ?_; rintro e w2 ⟨rfl, hb2⟩; obtain ⟨bz, bc, HB⟩ := two_box hb2; clear hb2; have q0 := bc.cell 1 _ rfl; have f0 := bc.frozen 1; have bc2 := bc.set 1 (.int .i64 n.toInt); have bz2 := bz.other (a := ⟨w.heap.size + 1, 1, none⟩) (by simp) (.int .i64 n.toInt); have r0 := bc2.cell 0 _ rfl; have r1 := bc2.cell 1 _ rfl; have r2 := bc2.cell 2 _ rfl; have F2 := bz2.setRow (ca (numC n.toInt)); have hone := ca_one (numC n.toInt))
            | (refine wpList_store_row rfl 23 _ _ rfl w.heap.size (ca (numC n.toInt)) rfl rfl 23 _ bz2 size_cell rfl hone ?_))
          rw [HE.out]
          exact bodyPost_ret (res_box_slot Tryd.results36 _ rfl F2 Tryd.underlying23 rfl size_cell (.int .i64 (1 + (m : Int))) rfl) rfl ⟨rfl, below_setRow (HB.setCell (by simp) _) (Nat.le_refl _) _⟩
        · have HE : Hid (tkC s.data.toList = (cl0, 0)) := tkC_1n hpos k1 e0
          have tx' : ∀ w, Calls Tryd.prog 51 #[.string (s.extract 1 s.size)] w fun e w' => e = .returned (.tuple #[.int .i64 0, .int .i64 0, .int .i64 20]) ∧ Below w.heap.size w w' := fun w => by
            have := tx w; rw [← take_no e0] at this; exact this
          clear e0 tx
          go_enter Tryd.func36, Tryd.ntmps36
          go_wp2_with (first
            | (go_at_call 51; refine (tx' _).mono ?_; rintro e w2 ⟨rfl, hb2⟩; obtain ⟨bz, -, HB⟩ := two_box hb2; clear hb2; have F2 := bz.setRow (ca cl0); have hone := ca_one cl0)
            | (refine wpList_store_row rfl 23 _ _ rfl w.heap.size (ca cl0) rfl rfl 23 _ bz size_cell rfl hone ?_))
          rw [HE.out]
          exact bodyPost_ret (res_box_slot Tryd.results36 _ rfl F2 Tryd.underlying23 rfl size_cell (.int .i64 0) rfl) rfl ⟨rfl, below_setRow HB (Nat.le_refl _) _⟩
      · have b1 : ((k : Int) == 1) = false := by simp; omega
        by_cases k2 : s[0].toNat = 2
        · clear k0 k1 b0 b1 hwk hk256 hk
          by_cases hl1 : s.size ≤ 1
          · have HE : Hid (tkC s.data.toList = (cl0, 0)) := tkC_2s hpos k2 hl1
            have hlI : (s.size : Int) < 2 := by omega
            clear hl1
            go_enter Tryd.func36, Tryd.ntmps36
            go_wp2_with fail
            rw [HE.out]
            exact bodyPost_ret (v := .tuple #[cv cl0, .int .i64 0]) (by simp [results, Tryd.results36, go_sem, cl0]) rfl ⟨rfl, below2 _ _ _⟩
          · have hl2 : 1 < s.size := by omega
            have hlI : ¬ (s.size : Int) < 2 := by omega
            have hm256 : (s[1].toNat : Int) < 256 := by have := s[1].toNat_lt; omega
            by_cases hok : s[1].toNat ≤ 32 ∧ 2 + s[1].toNat ≤ s.size
            · have HE : Hid (tkC s.data.toList = (txtC (s.extract 2 (2 + s[1].toNat)), 2 + s[1].toNat)) := tkC_2 hl2 k2 (by omega) (by omega)
              have o1 : ¬ (s.size : Int) - 2 < (s[1].toNat : Int) := by omega
              have o2 : ¬ (32 : Int) < (s[1].toNat : Int) := by omega
              have o3 : (0 : Int) ≤ 2 + (s[1].toNat : Int) ∧ 2 + (s[1].toNat : Int) ≤ (s.size : Int) := by omega
              have o4 : (2 : Int) ≤ 2 + (s[1].toNat : Int) := by omega
              clear hl1 hok
              go_enter Tryd.func36, Tryd.ntmps36
              go_wp2_with fail
              go_region
              go_wp2_with fail
              rw [HE.out]
              exact bodyPost_ret (v := .tuple #[cv (txtC (s.extract 2 (2 + s[1].toNat))), .int .i64 ((2 + s[1].toNat : Nat) : Int)]) (by simp [results, Tryd.results36, go_sem, txtC]) rfl ⟨rfl, (below2 _ _ _).drew⟩
            · have HE : Hid (tkC s.data.toList = (cl0, 0)) := tkC_2n hl2 k2 hok
              by_cases h32 : (32 : Int) < (s[1].toNat : Int)
              · clear hl1 hok
                go_enter Tryd.func36, Tryd.ntmps36
                go_wp2_with fail
                rw [HE.out]
                exact bodyPost_ret (v := .tuple #[cv cl0, .int .i64 0]) (by simp [results, Tryd.results36, go_sem, cl0]) rfl ⟨rfl, below2 _ _ _⟩
              · have o2 : (s.size : Int) - 2 < (s[1].toNat : Int) := by omega
                clear hl1 hok
                go_enter Tryd.func36, Tryd.ntmps36
                go_wp2_with fail
                rw [HE.out]
                exact bodyPost_ret (v := .tuple #[cv cl0, .int .i64 0]) (by simp [results, Tryd.results36, go_sem, cl0]) rfl ⟨rfl, below2 _ _ _⟩
        · have HE : Hid (tkC s.data.toList = (cl0, 0)) := tkC_other hpos k0 k1 k2
          have b2 : ((k : Int) == 2) = false := by simp; omega
          clear k0 k1 k2 hk
          go_enter Tryd.func36, Tryd.ntmps36
          go_wp2_with fail
          rw [HE.out]
          exact bodyPost_ret (v := .tuple #[cv cl0, .int .i64 0]) (by simp [results, Tryd.results36, go_sem, cl0]) rfl ⟨rfl, below2 _ _ _⟩
end Go.Proofs.YtjkkkdehmgfmeaaDoor
