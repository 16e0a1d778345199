/-
  The cell that bytes begin with: the contract of package cell's take.
-/
import Derived.Test.YtjkkkdehmgfmeaaDoorKPut
namespace Go.Proofs.YtjkkkdehmgfmeaaDoor
open Go.RowKit Leb

/-- The cell that bytes begin with, and how many it has (0: none). -/
def tkC : List UInt8 → Cl × Nat
  | [] => (cl0, 0)
  | k :: r =>
    if k.toNat = 0 then (cl0, 1)
    else if k.toNat = 1 then (if (tk r).2.2 = 0 then (numC (zagW (tk r).1).toInt, 1 + (tk r).2.1) else (cl0, 0))
    else if k.toNat = 2 then (match r with
      | [] => (cl0, 0)
      | n :: q => if n.toNat ≤ 32 ∧ n.toNat ≤ q.length then (txtC (str (q.take n.toNat)), 2 + n.toNat) else (cl0, 0))
    else (cl0, 0)

theorem head_list (s : ByteArray) (h : 0 < s.size) : s.data.toList = s[0] :: s.data.toList.drop 1 := by
  have h1 := getD_data s 0 h
  have h2 := Lib.size_eq s
  cases h3 : s.data.toList with
  | nil => rw [h3, List.length_nil] at h2; omega
  | cons a b => rw [h3] at h1; simp at h1; rw [h1]; rfl
theorem drop_list (s : ByteArray) (h : 1 < s.size) : s.data.toList.drop 1 = s[1] :: s.data.toList.drop 2 := by
  have h1 := getD_data s 1 h
  rw [List.drop_eq_getElem_cons (by rw [← Lib.size_eq]; exact h)]
  rw [← h1]
  simp [h]
theorem extract_drop (s : ByteArray) (k : Nat) : (s.extract k s.size).data.toList = s.data.toList.drop k := by
  rw [Lib.extract_data]
  exact List.take_of_length_le (by rw [List.length_drop, ← Lib.size_eq]; omega)
theorem tkC_0 {s : ByteArray} (h : 0 < s.size) (k : s[0].toNat = 0) : tkC s.data.toList = (cl0, 1) := by
  rw [head_list s h]; simp [tkC, k]
theorem tkC_other {s : ByteArray} (h : 0 < s.size) (k0 : s[0].toNat ≠ 0) (k1 : s[0].toNat ≠ 1) (k2 : s[0].toNat ≠ 2) : tkC s.data.toList = (cl0, 0) := by
  rw [head_list s h]; simp [tkC, k0, k1, k2]
theorem tkC_1 {s : ByteArray} (h : 0 < s.size) (k : s[0].toNat = 1) {z : BitVec 64} {m : Nat} (e : tk (s.data.toList.drop 1) = (z, m, 0)) : tkC s.data.toList = (numC (zagW z).toInt, 1 + m) := by
  rw [head_list s h]; simp only [tkC, k, e]; rfl
theorem tkC_1n {s : ByteArray} (h : 0 < s.size) (k : s[0].toNat = 1) (e : tk (s.data.toList.drop 1) = (0#64, 0, 20)) : tkC s.data.toList = (cl0, 0) := by
  rw [head_list s h]; simp only [tkC, k, e]; rfl
theorem tkC_2s {s : ByteArray} (h : 0 < s.size) (k : s[0].toNat = 2) (h1 : s.size ≤ 1) : tkC s.data.toList = (cl0, 0) := by
  have e : s.data.toList.drop 1 = [] := List.drop_of_length_le (by rw [← Lib.size_eq]; exact h1)
  rw [head_list s h, e]; simp only [tkC, k]; rfl
theorem tkC_2 {s : ByteArray} (h : 1 < s.size) (k : s[0].toNat = 2) (hm : s[1].toNat ≤ 32) (hl : 2 + s[1].toNat ≤ s.size) : tkC s.data.toList = (txtC (s.extract 2 (2 + s[1].toNat)), 2 + s[1].toNat) := by
  rw [head_list s (by omega), drop_list s h]
  simp only [tkC, k]
  rw [if_neg (by decide), if_neg (by decide), if_pos trivial, if_pos ⟨hm, by rw [List.length_drop, ← Lib.size_eq]; omega⟩]
  have e : str ((s.data.toList.drop 2).take s[1].toNat) = s.extract 2 (2 + s[1].toNat) := by
    apply ByteArray.ext
    apply Array.ext'
    rw [Lib.extract_data, Nat.add_sub_cancel_left]
    simp [str]
  rw [e]
theorem tkC_2n {s : ByteArray} (h : 1 < s.size) (k : s[0].toNat = 2) (hm : ¬ (s[1].toNat ≤ 32 ∧ 2 + s[1].toNat ≤ s.size)) : tkC s.data.toList = (cl0, 0) := by
  rw [head_list s (by omega), drop_list s h]
  simp only [tkC, k]
  rw [if_neg (by decide), if_neg (by decide), if_pos trivial, if_neg]
  rintro ⟨h1, h2⟩
  rw [List.length_drop, ← Lib.size_eq] at h2
  omega

set_option maxHeartbeats 1000000 in
set_option maxRecDepth 4000 in
theorem takeC_any (s : ByteArray) (hs : s.size ≤ maxLen) (w : World) :
    Calls Tryd.prog 35 #[.string s] w fun e w' => e = .returned (.tuple #[cv (tkC s.data.toList).1, .int .i64 (tkC s.data.toList).2]) ∧ Below w.heap.size w w' := by
  have hsm := hs
  unfold maxLen at hs
  cases he : s.toList.isEmpty with
  | true =>
    have HE : Hid (tkC s.data.toList = (cl0, 0)) := by
      rw [List.isEmpty_iff, Lib.toList_data] at he
      unfold Hid; rw [he]; rfl
    go_enter Tryd.func35, Tryd.ntmps35
    go_wp2_with fail
    rw [HE.out]
    exact bodyPost_ret (v := .tuple #[cv cl0, .int .i64 0]) (by simp [results, Tryd.results35, go_sem, cl0]) rfl ⟨rfl, below1 _ _⟩
  | false =>
    have hpos : 0 < s.size := by
      rw [emp_size] at he
      have : s.size ≠ 0 := by simpa using he
      omega
    by_cases k0 : s[0].toNat = 0
    · have HE : Hid (tkC s.data.toList = (cl0, 1)) := tkC_0 hpos k0
      go_enter Tryd.func35, Tryd.ntmps35
      go_wp2_with fail
      rw [HE.out]
      exact bodyPost_ret (v := .tuple #[cv cl0, .int .i64 1]) (by simp [results, Tryd.results35, go_sem, cl0]) rfl ⟨rfl, below1 _ _⟩
    · have b0 : ((s[0].toNat : Int) == 0) = false := by simp; omega
      by_cases k1 : s[0].toNat = 1
      · have e1 := extract_drop s 1
        have tx : ∀ w, Calls Tryd.prog 50 #[.string (s.extract 1 s.size)] w fun e w' => e = .returned (.tuple #[.int .i64 (zagW (tk (s.data.toList.drop 1)).1).toInt, .int .i64 (tk (s.data.toList.drop 1)).2.1, .int .i64 (tk (s.data.toList.drop 1)).2.2]) ∧ w' = w := fun w => by
          have := take_any (s.extract 1 s.size) (by unfold maxLen; rw [Lib.size_eq, e1, List.length_drop, ← Lib.size_eq]; omega) w
          rw [e1] at this
          exact this
        clear e1 k0 b0
        have hsI : (1 : Int) ≤ (s.size : Int) := by omega
        rcases tk_cases (s.data.toList.drop 1) with ⟨z, hz, e0⟩ | ⟨_, e0⟩
        · have HE : Hid (tkC s.data.toList = (numC (zagW z).toInt, 1 + lenW z)) := tkC_1 hpos k1 e0
          have hbd := lenW_bd z
          rw [e0] at tx
          obtain ⟨m, hm⟩ : ∃ m, m = lenW z := ⟨_, rfl⟩
          obtain ⟨n, hn⟩ : ∃ n, n = zagW z := ⟨_, rfl⟩
          simp only [← hm, ← hn] at tx HE hbd
          have hr2 : IntKind.i64.wrap (1 + (m : Int)) = 1 + (m : Int) := by rw [IntKind.wrap_i64]; omega
          have hm10 : (m : Int) ≤ 10 := by omega
          have hm0 : (0 : Int) ≤ (m : Int) := by omega
          clear hz e0 hm hn hbd
          go_enter Tryd.func35, Tryd.ntmps35
          go_wp2_with (first
            | (go_at_call 50; refine (tx _).mono ?_; rintro e w1 ⟨rfl, rfl⟩)
            | (go_at_call 46; refine (number_any _ _).mono ?_; rintro e w2 ⟨rfl, hb2⟩; have bx2 := (box_new w #[.int .i64 0, .int .i64 0, .string ⟨#[]⟩] 23).over hb2; have HB2 : Hid (Below w.heap.size w w2) := (below1 _ _).trans (hb2.mono (by simp)); clear hb2; have F2 := bx2.setRow (ca (numC n.toInt)); have hone := ca_one (numC n.toInt))
            | (refine wpList_store_row rfl 23 _ _ rfl w.heap.size (ca (numC n.toInt)) rfl rfl 23 _ bx2 size_cell rfl hone ?_))
          rw [HE.out]
          exact bodyPost_ret (res_box_slot Tryd.results35 _ rfl F2 Tryd.underlying23 rfl size_cell (.int .i64 (1 + (m : Int))) rfl) rfl ⟨rfl, below_setRow HB2.out (Nat.le_refl _) _⟩
        · have HE : Hid (tkC s.data.toList = (cl0, 0)) := tkC_1n hpos k1 e0
          have tx' : ∀ w, Calls Tryd.prog 50 #[.string (s.extract 1 s.size)] w fun e w' => e = .returned (.tuple #[.int .i64 0, .int .i64 0, .int .i64 20]) ∧ w' = w := fun w => by
            have := tx w; rw [← take_no e0] at this; exact this
          clear e0 tx
          go_enter Tryd.func35, Tryd.ntmps35
          go_wp2_with (go_at_call 50; refine (tx' _).mono ?_; rintro e w1 ⟨rfl, rfl⟩)
          rw [HE.out]
          exact bodyPost_ret (v := .tuple #[cv cl0, .int .i64 0]) (by simp [results, Tryd.results35, go_sem, cl0]) rfl ⟨rfl, below1 _ _⟩
      · have b1 : ((s[0].toNat : Int) == 1) = false := by simp; omega
        by_cases k2 : s[0].toNat = 2
        · clear k0 k1 b0 b1
          by_cases hl1 : s.size ≤ 1
          · have HE : Hid (tkC s.data.toList = (cl0, 0)) := tkC_2s hpos k2 hl1
            have hlI : ¬ (2 : Int) ≤ (s.size : Int) := by omega
            have hl34 : ¬ (34 : Int) < (s.size : Int) := by omega
            clear hl1
            go_enter Tryd.func35, Tryd.ntmps35
            go_wp2_with fail
            rw [HE.out]
            exact bodyPost_ret (v := .tuple #[cv cl0, .int .i64 0]) (by simp [results, Tryd.results35, go_sem, cl0]) rfl ⟨rfl, below1 _ _⟩
          · have hl2 : 1 < s.size := by omega
            have hlI : (2 : Int) ≤ (s.size : Int) := by omega
            obtain ⟨m, hm⟩ : ∃ m, m = s[1].toNat := ⟨_, rfl⟩
            have hm256 : (m : Int) < 256 := by have := s[1].toNat_lt; omega
            have hw1 : wrap64 (s[1].toNat : Int) = (m : Int) := by rw [← hm]; unfold wrap64; omega
            have hw2 : wrap64 (2 + (m : Int)) = 2 + (m : Int) := by unfold wrap64; omega
            have hw3 : (2 + (m : Int)).toNat = 2 + m := by omega
            by_cases hok : m ≤ 32 ∧ 2 + m ≤ s.size
            · have HE : Hid (tkC s.data.toList = (txtC (s.extract 2 (2 + m)), 2 + m)) := by rw [hm]; exact tkC_2 hl2 k2 (by omega) (by omega)
              have o1 : 2 + (m : Int) ≤ (s.size : Int) := by omega
              have o2 : 2 + (m : Int) ≤ 34 := by omega
              have o3 : (0 : Int) ≤ 2 + (m : Int) ∧ 2 + (m : Int) ≤ (s.size : Int) := by omega
              have o4 : (2 : Int) ≤ 2 + (m : Int) := by omega
              clear hl1 hok hm
              by_cases h34 : (34 : Int) < (s.size : Int)
              all_goals
                go_enter Tryd.func35, Tryd.ntmps35
                go_wp2_with (first
                  | (go_at_call 47; refine (text_any (s.extract 2 (2 + m)) _).mono ?_; rintro e w2 ⟨rfl, hb2⟩; have bx2 := (box_new w #[.int .i64 0, .int .i64 0, .string ⟨#[]⟩] 23).over hb2; have HB2 : Hid (Below w.heap.size w w2) := (below1 _ _).trans (hb2.mono (by simp)); clear hb2; have F2 := bx2.setRow (ca (txtC (s.extract 2 (2 + m)))); have hone := ca_one (txtC (s.extract 2 (2 + m))))
                  | (refine wpList_store_row rfl 23 _ _ rfl w.heap.size (ca (txtC (s.extract 2 (2 + m)))) rfl rfl 23 _ bx2 size_cell rfl hone ?_))
                rw [HE.out]
                exact bodyPost_ret (res_box_slot Tryd.results35 _ rfl F2 Tryd.underlying23 rfl size_cell (.int .i64 (2 + (m : Int))) rfl) rfl ⟨rfl, below_setRow HB2.out (Nat.le_refl _) _⟩
            · have HE : Hid (tkC s.data.toList = (cl0, 0)) := tkC_2n hl2 k2 (by rw [← hm]; exact hok)
              by_cases h34 : (34 : Int) < (s.size : Int)
              · have o2 : ¬ 2 + (m : Int) ≤ 34 := by omega
                clear hl1 hok hm
                go_enter Tryd.func35, Tryd.ntmps35
                go_wp2_with fail
                rw [HE.out]
                exact bodyPost_ret (v := .tuple #[cv cl0, .int .i64 0]) (by simp [results, Tryd.results35, go_sem, cl0]) rfl ⟨rfl, below1 _ _⟩
              · have o2 : ¬ 2 + (m : Int) ≤ (s.size : Int) := by omega
                clear hl1 hok hm
                go_enter Tryd.func35, Tryd.ntmps35
                go_wp2_with fail
                rw [HE.out]
                exact bodyPost_ret (v := .tuple #[cv cl0, .int .i64 0]) (by simp [results, Tryd.results35, go_sem, cl0]) rfl ⟨rfl, below1 _ _⟩
        · have HE : Hid (tkC s.data.toList = (cl0, 0)) := tkC_other hpos k0 k1 k2
          have b2 : ((s[0].toNat : Int) == 2) = false := by simp; omega
          clear k0 k1 k2
          go_enter Tryd.func35, Tryd.ntmps35
          go_wp2_with fail
          rw [HE.out]
          exact bodyPost_ret (v := .tuple #[cv cl0, .int .i64 0]) (by simp [results, Tryd.results35, go_sem, cl0]) rfl ⟨rfl, below1 _ _⟩
end Go.Proofs.YtjkkkdehmgfmeaaDoor
