/-
  The contracts of package cell's Show, guess and Read.
-/
import Derived.Test.YtjkkkdehmgfmeaaDoorKLib
import Derived.Test.YtjkkkdehmgfmeaaDoorKShow
namespace Go.Proofs.YtjkkkdehmgfmeaaDoor
open Go.RowKit

theorem dbl_len (l : List UInt8) : (dbl l).length ≤ 2 * l.length := by
  induction l with
  | nil => simp [dbl]
  | cons b l ih =>
    have e : dbl (b :: l) = (if b = 39 then [39, 39] else [b]) ++ dbl l := by simp [dbl]
    rw [e, List.length_append, List.length_cons]
    split <;> simp <;> omega
theorem dbl_any (s : ByteArray) {w : World} (hE : Env w) (hs : s.size ≤ 100000) :
    Calls Tryd.prog 42 #[.string s, .string ⟨#[39]⟩, .string ⟨#[39, 39]⟩] w fun e w' => e = .returned (.string (str (dbl s.data.toList))) ∧ Below w.heap.size w w' := by
  have hc := Lib.countB_le ⟨#[39]⟩ (by decide) s.size s (Nat.le_refl _)
  have h2 : (⟨#[39, 39]⟩ : ByteArray).size = 2 := rfl
  have := replaceAll_any s ⟨#[39]⟩ ⟨#[39, 39]⟩ hE (by omega) (by decide) (by rw [h2]; omega)
  rw [← rep_dbl]
  exact this
theorem back_any (s : ByteArray) {w : World} (hE : Env w) (hs : s.size ≤ 100000) :
    Calls Tryd.prog 42 #[.string s, .string ⟨#[39, 39]⟩, .string ⟨#[39]⟩] w fun e w' => e = .returned (.string (str (Lib.replaceAll s.data.toList [39, 39] [39]))) ∧ Below w.heap.size w w' := by
  have hc := Lib.countB_le ⟨#[39, 39]⟩ (by decide) s.size s (Nat.le_refl _)
  have h2 : (⟨#[39]⟩ : ByteArray).size = 1 := rfl
  exact replaceAll_any s ⟨#[39, 39]⟩ ⟨#[39]⟩ hE (by omega) (by decide) (by rw [h2]; omega)
theorem quote_str (t : List UInt8) : (⟨#[39]⟩ : ByteArray) ++ str t ++ ⟨#[39]⟩ = str (39 :: (t ++ [39])) := by
  apply ByteArray.ext
  simp [str]

set_option maxHeartbeats 1000000 in
set_option maxRecDepth 4000 in
theorem show_any (c : Cl) {w : World} (hE : Env w) (hok : okC c) (hs : c.s.size ≤ 100000) :
    Calls Tryd.prog 26 #[cv c] w fun e w' => e = .returned (.string (str (showL c))) ∧ Below w.heap.size w w' := by
  obtain ⟨k, n, s⟩ := c
  simp only [cv]
  simp only at hs
  have HE : Hid (Env (w.alloc (.cells #[.int .i64 k, .int .i64 n, .string s] 23))) := hE.below (below1 _ _)
  clear hE
  by_cases h0 : k = 0
  · subst h0
    have HR : Hid (showL ⟨0, n, s⟩ = [110, 117, 108, 108]) := by unfold Hid showL; rfl
    go_enter Tryd.func26, Tryd.ntmps26
    go_wp2_with fail
    go_ret
    exact ⟨retS (by rw [HR.out]; rfl), below1 _ _⟩
  · by_cases h1 : k = 1
    · subst h1
      have HR : Hid (showL ⟨1, n, s⟩ = Lib.itoa n) := by unfold Hid showL; rfl
      have HI : Hid (okC ⟨1, n, s⟩) := hok
      clear h0 hok
      go_enter Tryd.func26, Tryd.ntmps26
      go_wp2_with (go_at_call 41; refine (itoa_any HI.out.1 HI.out.2 HE.out).mono ?_; rintro e w1 ⟨rfl, hb1⟩)
      go_ret
      exact ⟨retS (by rw [HR.out]), (below1 _ _).trans (hb1.mono (by simp))⟩
    · by_cases h2 : k = 2
      · subst h2
        have HR : Hid (showL ⟨2, n, s⟩ = 39 :: (dbl s.data.toList ++ [39])) := by unfold Hid showL; rfl
        obtain ⟨t, ht⟩ : ∃ t, t = str (dbl s.data.toList) := ⟨_, rfl⟩
        have hrp := dbl_any s HE.out hs
        rw [← ht] at hrp
        have hts : (t.size : Int) ≤ 200000 := by
          rw [ht, str_size]
          have := dbl_len s.data.toList
          have h3 := Lib.size_eq s
          omega
        have HT : Hid (t = str (dbl s.data.toList)) := ht
        clear h0 h1 hok ht
        go_enter Tryd.func26, Tryd.ntmps26
        go_wp2_with (go_at_call 42; refine hrp.mono ?_; rintro e w1 ⟨rfl, hb1⟩)
        go_ret
        exact ⟨retS (by rw [HR.out, HT.out]; exact (quote_str _).symm), (below1 _ _).trans (hb1.mono (by simp))⟩
      · have HR : Hid (showL ⟨k, n, s⟩ = [63]) := by unfold Hid showL; simp [h0, h1, h2]
        have b0 : (k == 0) = false := by simpa using h0
        have b1 : (k == 1) = false := by simpa using h1
        have b2 : (k == 2) = false := by simpa using h2
        clear h0 h1 h2 hok
        go_enter Tryd.func26, Tryd.ntmps26
        go_wp2_with fail
        go_ret
        exact ⟨retS (by rw [HR.out]; rfl), below1 _ _⟩

theorem prefix_quote (l : List UInt8) : Lib.hasPrefix l [39] = decide (l.head? = some 39) := by
  cases l with
  | nil => rfl
  | cons a b =>
    rw [Bool.eq_iff_iff]
    simp [Lib.hasPrefix, List.isPrefixOf]
    exact eq_comm

set_option maxHeartbeats 1000000 in
set_option maxRecDepth 4000 in
theorem guess_any (s : ByteArray) {w : World} (hE : Env w) (hs : s.size ≤ 100000) :
    Calls Tryd.prog 39 #[.string s] w fun e w' => e = .returned (cv (guessC s.data.toList)) ∧ Below w.heap.size w w' := by
  have hsl := Lib.size_eq s
  have HE : Hid (Env (w.alloc (.cells #[.int .i64 0, .int .i64 0, .string ⟨#[]⟩] 23))) := hE.below (below1 _ _)
  have bx0 := box_new w #[.int .i64 0, .int .i64 0, .string ⟨#[]⟩] 23
  have HA : Hid (s.size ≤ 281474976710656) := by unfold Hid; omega
  have hpf : ∀ w, Calls Tryd.prog 53 #[.string s, .string ⟨#[39]⟩] w fun e w' => e = .returned (.bool (decide (s.data.toList.head? = some 39))) ∧ w' = w := fun w => by
    have := hasPrefix_any s ⟨#[39]⟩ w
    rw [prefix_quote] at this
    exact this
  obtain ⟨q, hq⟩ : ∃ q, q = decide (s.data.toList.head? = some 39) := ⟨_, rfl⟩
  rw [← hq] at hpf
  clear hE
  go_enter Tryd.func39, Tryd.ntmps39
  go_wp2_with fail
  refine (atoi_any s HA.out HE.out).mono ?_
  rintro e w1 ⟨hb1, ⟨v, hv, rfl⟩ | ⟨hv, x, t, p, rfl⟩⟩
  · have HR : Hid (guessC s.data.toList = numC v) := guess_ok hv
    have bx1 := bx0.over hb1
    have HB1 : Hid (Below w.heap.size w w1) := (below1 _ _).trans (hb1.mono (by simp))
    clear hb1 hv hsl
    go_wp2_with (first
      | (go_at_call 46; refine (number_any _ _).mono ?_; rintro e w2 ⟨rfl, hb2⟩; have bx2 := bx1.over hb2; have HB2 : Hid (Below w.heap.size w w2) := HB1.out.trans (hb2.mono HB1.out.size); clear hb2; have F2 := bx2.setRow (ca (numC v)); have hone := ca_one (numC v))
      | (refine wpList_store_row rfl 23 _ _ rfl w.heap.size (ca (numC v)) rfl rfl 23 _ bx2 size_cell rfl hone ?_))
    rw [HR.out]
    exact bodyPost_ret (res_box Tryd.results39 _ rfl F2 Tryd.underlying23 rfl size_cell) rfl ⟨rfl, below_setRow HB2.out (Nat.le_refl _) _⟩
  · have bx1 := bx0.over hb1
    have HB1 : Hid (Below w.heap.size w w1) := (below1 _ _).trans (hb1.mono (by simp))
    have HE1 : Hid (Env w1) := HE.out.below hb1
    clear hb1
    by_cases h2 : 2 ≤ s.size
    · have h2I : (2 : Int) ≤ (s.size : Int) := by omega
      cases q with
      | true =>
        have hq' : s.data.toList.head? = some 39 := by simpa using hq.symm
        have e1 : (s.extract 1 (s.size - 1)).data.toList = (s.data.toList.drop 1).take (s.data.toList.length - 2) := by
          rw [Lib.extract_data, ← hsl]
          congr 1
        have hrp := back_any (s.extract 1 (s.size - 1)) HE1.out (by rw [Lib.size_eq, e1, List.length_take]; omega)
        rw [e1] at hrp
        have HR : Hid (guessC s.data.toList = txtC (str (Lib.replaceAll ((s.data.toList.drop 1).take (s.data.toList.length - 2)) [39, 39] [39]))) := guess_txt hv (by omega) hq'
        obtain ⟨u, hu⟩ : ∃ u, u = str (Lib.replaceAll ((s.data.toList.drop 1).take (s.data.toList.length - 2)) [39, 39] [39]) := ⟨_, rfl⟩
        rw [← hu] at hrp HR
        have hw1 : wrap64 ((s.size : Int) - 1) = (s.size : Int) - 1 := by unfold wrap64; omega
        have hw2 : ((s.size : Int) - 1).toNat = s.size - 1 := by omega
        have o3 : (0 : Int) ≤ (s.size : Int) - 1 ∧ (s.size : Int) - 1 ≤ (s.size : Int) := by omega
        have o4 : (1 : Int) ≤ (s.size : Int) - 1 := by omega
        clear hq hq' hu e1 hv hsl h2
        go_wp2_with (first
          | (go_at_call 53; refine (hpf _).mono ?_; rintro e w2 ⟨rfl, hw⟩; replace hw := hw.symm; subst hw)
          | (go_at_call 42; refine hrp.mono ?_; rintro e w3 ⟨rfl, hb3⟩; have bx3 := bx1.over hb3; have HB3 : Hid (Below w.heap.size w w3) := HB1.out.trans (hb3.mono HB1.out.size); clear hb3)
          | (go_at_call 47; refine (text_any u _).mono ?_; rintro e w4 ⟨rfl, hb4⟩; have bx4 := bx3.over hb4; have HB4 : Hid (Below w.heap.size w w4) := HB3.out.trans (hb4.mono HB3.out.size); clear hb4; have F4 := bx4.setRow (ca (txtC u)); have hone := ca_one (txtC u))
          | (refine wpList_store_row rfl 23 _ _ rfl w.heap.size (ca (txtC u)) rfl rfl 23 _ bx4 size_cell rfl hone ?_))
        rw [HR.out]
        exact bodyPost_ret (res_box Tryd.results39 _ rfl F4 Tryd.underlying23 rfl size_cell) rfl ⟨rfl, below_setRow HB4.out (Nat.le_refl _) _⟩
      | false =>
        have hq' : ¬ s.data.toList.head? = some 39 := by simpa using hq.symm
        have HR : Hid (guessC s.data.toList = cl0) := guess_not hv fun h => hq' h.2
        have F4 := bx1.setRow (ca cl0)
        have hone := ca_one cl0
        clear hq hq' hv hsl h2
        go_wp2_with (first
          | (go_at_call 53; refine (hpf _).mono ?_; rintro e w2 ⟨rfl, hw⟩; replace hw := hw.symm; subst hw)
          | (refine wpList_store_row rfl 23 _ _ rfl w.heap.size (ca cl0) rfl rfl 23 _ bx1 size_cell rfl hone ?_))
        rw [HR.out]
        exact bodyPost_ret (res_box Tryd.results39 _ rfl F4 Tryd.underlying23 rfl size_cell) rfl ⟨rfl, below_setRow HB1.out (Nat.le_refl _) _⟩
    · have h2I : ¬ (2 : Int) ≤ (s.size : Int) := by omega
      have HR : Hid (guessC s.data.toList = cl0) := guess_not hv fun h => by omega
      have F4 := bx1.setRow (ca cl0)
      have hone := ca_one cl0
      clear hq hv hsl h2
      go_wp2_with (refine wpList_store_row rfl 23 _ _ rfl w.heap.size (ca cl0) rfl rfl 23 _ bx1 size_cell rfl hone ?_)
      rw [HR.out]
      exact bodyPost_ret (res_box Tryd.results39 _ rfl F4 Tryd.underlying23 rfl size_cell) rfl ⟨rfl, below_setRow HB1.out (Nat.le_refl _) _⟩

theorem readA_yes {l : List UInt8} (h1 : mayC (guessC l) = true) (h2 : showL (guessC l) = l) : readA l = (guessC l, 0) := by
  unfold readA readC
  rw [if_pos (by rw [h1, h2]; simp)]
theorem readA_no {l : List UInt8} (h : ¬ (mayC (guessC l) = true ∧ showL (guessC l) = l)) : readA l = (cl0, 20) := by
  unfold readA readC
  rw [if_neg (by simpa using h)]
theorem guess_size (l : List UInt8) (h : mayC (guessC l) = true) : (guessC l).s.size ≤ 32 := by
  rcases may_kind h with ⟨_, _, h3⟩ | ⟨_, h3⟩ | ⟨_, _, h3⟩ <;> omega

set_option maxHeartbeats 1000000 in
set_option maxRecDepth 4000 in
theorem read_any (s : ByteArray) {w : World} (hE : Env w) (hs : s.size ≤ 100000) :
    Calls Tryd.prog 24 #[.string s] w fun e w' => e = .returned (.tuple #[cv (readA s.data.toList).1, .int .i64 (readA s.data.toList).2]) ∧ Below w.heap.size w w' := by
  have HE : Hid (Env (w.alloc (.cells #[.int .i64 0, .int .i64 0, .string ⟨#[]⟩] 23))) := hE.below (below1 _ _)
  have bx0 := box_new w #[.int .i64 0, .int .i64 0, .string ⟨#[]⟩] 23
  have hgs := guess_any s HE.out hs
  obtain ⟨c, hc⟩ : ∃ c, c = guessC s.data.toList := ⟨_, rfl⟩
  rw [← hc] at hgs
  have hck : ∀ w, Calls Tryd.prog 12 #[cv c] w fun e w' => e = .returned (.int .i64 (errC c)) ∧ Below w.heap.size w w' := fun w => check_any c w
  clear hE
  cases hm : mayC c with
  | true =>
    have e0 : errC c = 0 := by unfold errC; rw [if_pos hm]
    rw [e0] at hck
    have hsh : ∀ w, Env w → Calls Tryd.prog 26 #[cv c] w fun e w' => e = .returned (.string (str (showL c))) ∧ Below w.heap.size w w' := fun w h => show_any c h (by rw [hc]; exact guess_range _) (by rw [hc] at hm ⊢; have := guess_size _ hm; omega)
    obtain ⟨t, ht⟩ : ∃ t, t = str (showL c) := ⟨_, rfl⟩
    rw [← ht] at hsh
    by_cases heq : showL c = s.data.toList
    · have hb : (t.toList == s.toList) = true := by rw [beq_iff_eq, ht, toList_str, heq, Lib.toList_data]
      have HR : Hid (readA s.data.toList = (c, 0)) := by
        unfold Hid
        rw [hc] at hm heq ⊢
        exact readA_yes hm heq
      clear hc hm e0 ht heq
      go_enter Tryd.func24, Tryd.ntmps24
      go_wp2_with (first
        | (go_at_call 39; refine hgs.mono ?_; rintro e w1 ⟨rfl, hb1⟩; have bx1 := bx0.over hb1; have hB1 : Below w.heap.size w w1 := (below1 _ _).trans (hb1.mono (by simp)); have HE1 : Hid (Env w1) := HE.out.below hb1; clear hb1)
        | (go_at_call 12; refine (hck _).mono ?_; rintro e w2 ⟨rfl, hb2⟩; have hb2' := (below1 w1 (.cells #[.int .i64 c.k, .int .i64 c.n, .string c.s] 23)).trans (hb2.mono (by simp)); have bx2 := bx1.over hb2'; have cx2 := (box_new w1 #[.int .i64 c.k, .int .i64 c.n, .string c.s] 23).over hb2; have q0 := cx2.cell 0 _ rfl; have q1 := cx2.cell 1 _ rfl; have q2 := cx2.cell 2 _ rfl; have HB2 : Hid (Below w.heap.size w w2) := hB1.trans (hb2'.mono hB1.size); have HE2 : Hid (Env w2) := HE1.out.below hb2'; clear hb2 hb2')
        | (go_at_call 26; refine (hsh _ HE2.out).mono ?_; rintro e w3 ⟨rfl, hb3⟩; have bx3 := bx2.over hb3; have cx3 := cx2.over hb3; have r0 := cx3.cell 0 _ rfl; have r1 := cx3.cell 1 _ rfl; have r2 := cx3.cell 2 _ rfl; have HB3 : Hid (Below w.heap.size w w3) := HB2.out.trans (hb3.mono HB2.out.size); clear hb3; have F3 := bx3.setRow (ca c); have hone := ca_one c)
        | (refine wpList_store_row rfl 23 _ _ rfl w.heap.size (ca c) rfl rfl 23 _ bx3 size_cell rfl hone ?_))
      rw [HR.out]
      exact bodyPost_ret (res_box_slot Tryd.results24 _ rfl F3 Tryd.underlying23 rfl size_cell (.int .i64 0) rfl) rfl ⟨rfl, below_setRow HB3.out (Nat.le_refl _) _⟩
    · have hb : (t.toList == s.toList) = false := by
        rw [beq_eq_false_iff_ne, ht, toList_str, Lib.toList_data]; exact heq
      have HR : Hid (readA s.data.toList = (cl0, 20)) := by
        unfold Hid
        rw [hc] at heq
        exact readA_no fun h => heq h.2
      clear hc hm e0 ht heq
      go_enter Tryd.func24, Tryd.ntmps24
      go_wp2_with (first
        | (go_at_call 39; refine hgs.mono ?_; rintro e w1 ⟨rfl, hb1⟩; have bx1 := bx0.over hb1; have hB1 : Below w.heap.size w w1 := (below1 _ _).trans (hb1.mono (by simp)); have HE1 : Hid (Env w1) := HE.out.below hb1; clear hb1)
        | (go_at_call 12; refine (hck _).mono ?_; rintro e w2 ⟨rfl, hb2⟩; have hb2' := (below1 w1 (.cells #[.int .i64 c.k, .int .i64 c.n, .string c.s] 23)).trans (hb2.mono (by simp)); have bx2 := bx1.over hb2'; have cx2 := (box_new w1 #[.int .i64 c.k, .int .i64 c.n, .string c.s] 23).over hb2; have q0 := cx2.cell 0 _ rfl; have q1 := cx2.cell 1 _ rfl; have q2 := cx2.cell 2 _ rfl; have HB2 : Hid (Below w.heap.size w w2) := hB1.trans (hb2'.mono hB1.size); have HE2 : Hid (Env w2) := HE1.out.below hb2'; clear hb2 hb2')
        | (go_at_call 26; refine (hsh _ HE2.out).mono ?_; rintro e w3 ⟨rfl, hb3⟩; have bx3 := bx2.over hb3; have cx3 := cx2.over hb3; have r0 := cx3.cell 0 _ rfl; have r1 := cx3.cell 1 _ rfl; have r2 := cx3.cell 2 _ rfl; have HB3 : Hid (Below w.heap.size w w3) := HB2.out.trans (hb3.mono HB2.out.size); clear hb3; have F3 := bx3.setRow (ca cl0); have hone := ca_one cl0)
        | (refine wpList_store_row rfl 23 _ _ rfl w.heap.size (ca cl0) rfl rfl 23 _ bx3 size_cell rfl hone ?_))
      rw [HR.out]
      exact bodyPost_ret (res_box_slot Tryd.results24 _ rfl F3 Tryd.underlying23 rfl size_cell (.int .i64 20) rfl) rfl ⟨rfl, below_setRow HB3.out (Nat.le_refl _) _⟩
  | false =>
    have e0 : errC c = 1 := by unfold errC; rw [if_neg (by rw [hm]; simp)]
    rw [e0] at hck
    have HR : Hid (readA s.data.toList = (cl0, 20)) := by
      unfold Hid
      rw [hc] at hm
      exact readA_no fun h => by rw [hm] at h; exact absurd h.1 (by simp)
    clear hc hm e0
    go_enter Tryd.func24, Tryd.ntmps24
    go_wp2_with (first
      | (go_at_call 39; refine hgs.mono ?_; rintro e w1 ⟨rfl, hb1⟩; have bx1 := bx0.over hb1; have hB1 : Below w.heap.size w w1 := (below1 _ _).trans (hb1.mono (by simp)); clear hb1)
      | (go_at_call 12; refine (hck _).mono ?_; rintro e w2 ⟨rfl, hb2⟩; have hb2' := (below1 w1 (.cells #[.int .i64 c.k, .int .i64 c.n, .string c.s] 23)).trans (hb2.mono (by simp)); have bx2 := bx1.over hb2'; have HB2 : Hid (Below w.heap.size w w2) := hB1.trans (hb2'.mono hB1.size); clear hb2 hb2'; have F2 := bx2.setRow (ca cl0); have hone := ca_one cl0)
      | (refine wpList_store_row rfl 23 _ _ rfl w.heap.size (ca cl0) rfl rfl 23 _ bx2 size_cell rfl hone ?_))
    rw [HR.out]
    exact bodyPost_ret (res_box_slot Tryd.results24 _ rfl F2 Tryd.underlying23 rfl size_cell (.int .i64 20) rfl) rfl ⟨rfl, below_setRow HB2.out (Nat.le_refl _) _⟩
end Go.Proofs.YtjkkkdehmgfmeaaDoor
