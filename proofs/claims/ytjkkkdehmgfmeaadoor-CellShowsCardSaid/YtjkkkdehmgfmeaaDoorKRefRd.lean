/-
  The contract of the document's Read.
-/
import Derived.Test.YtjkkkdehmgfmeaaDoorKRefRead
import Derived.Lib.BufferRead
namespace Go.Proofs.YtjkkkdehmgfmeaaDoor
open Go.RowKit

theorem convert_all {w : World} {B : Nat} {v : Value} {l : List UInt8} (hown : OwnsB w B v l) :
    (convert 56 9 v).run Tryd.prog w = .ok (.string (str l)) w := by
  rcases Nat.eq_zero_or_pos l.length with h0 | hp
  · have hl : l = [] := List.eq_nil_of_length_eq_zero h0
    subst hl
    rcases hown.2 with ⟨rfl, _⟩ | ⟨g, cap, cur, rfl, _, _, _⟩
    · exact Lib.run_convert_nil_bytes w 56 9 5 _ Tryd.underlying56 Tryd.underlying5 Tryd.underlying9
    · rw [run_convert_bytes_string w _ _ 5 _ _ _ Tryd.underlying56 Tryd.underlying5 Tryd.underlying9]
      have hload : (loadCells ⟨g, 0, none⟩ 0).run Tryd.prog w = .ok (([] : List Int).map (Value.int .u8)).toArray w := by
        have := run_loadCells_list (P := Tryd.prog) w ⟨g, 0, none⟩ [] (by intro j u h; simp at h)
        simpa using this
      have := run_bytesToString (P := Tryd.prog) w ⟨g, 0, none⟩ 0 cap [] hload
      exact this
  · exact convert_own hown hp
theorem mid_at (s : ByteArray) (i : Nat) (h1 : 1 ≤ i) (h2 : i + 1 < s.size) : (midL s.data.toList)[i - 1]? = some (s[i]'(by omega)) := by
  unfold midL
  rw [← Lib.size_eq, List.getElem?_take_of_lt (by omega), List.getElem?_drop, show 1 + (i - 1) = i by omega, List.getElem?_eq_getElem (by rw [← Lib.size_eq]; omega)]
  rfl
theorem mid_len (s : ByteArray) : (midL s.data.toList).length = s.size - 2 := by
  unfold midL
  rw [List.length_take, List.length_drop, ← Lib.size_eq]
  omega
theorem un_len : ∀ l : List UInt8, (un l).length ≤ l.length
  | [] => by simp [un]
  | [_] => by simp [un]
  | b :: c :: r => by
    have h1 := un_len r
    have h2 := un_len (c :: r)
    simp only [un]
    split
    · simp only [List.length_cons]; omega
    · simp only [List.length_cons] at h2 ⊢; omega
theorem refA_null {l : List UInt8} (h : l = [110, 117, 108, 108]) : refA l = (cl0, 0) := by unfold refA; rw [if_pos h]
theorem refA_num {l : List UInt8} (h : ¬ l = [110, 117, 108, 108]) (h2 : (numA l).2 = true) : refA l = (numC (numA l).1, 0) := by unfold refA; rw [if_neg h, if_pos h2]
theorem refA_not {l : List UInt8} (h : ¬ l = [110, 117, 108, 108]) (h2 : (numA l).2 = false) (h3 : ¬ (2 ≤ l.length ∧ l.head? = some 39)) : refA l = (cl0, 20) := by
  unfold refA; rw [if_neg h, if_neg (by rw [h2]; simp), if_neg h3]
theorem refA_txt {l : List UInt8} (h : ¬ l = [110, 117, 108, 108]) (h2 : (numA l).2 = false) (h3 : 2 ≤ l.length ∧ l.head? = some 39) (hm : mayC (txtC (str (un (midL l)))) = true) (hs : showL (txtC (str (un (midL l)))) = l) : refA l = (txtC (str (un (midL l))), 0) := by
  unfold refA; rw [if_neg h, if_neg (by rw [h2]; simp), if_pos h3, hm, hs]; simp
theorem refA_txtno {l : List UInt8} (h : ¬ l = [110, 117, 108, 108]) (h2 : (numA l).2 = false) (h3 : 2 ≤ l.length ∧ l.head? = some 39) (hm : ¬ (mayC (txtC (str (un (midL l)))) = true ∧ showL (txtC (str (un (midL l)))) = l)) : refA l = (cl0, 20) := by
  unfold refA; rw [if_neg h, if_neg (by rw [h2]; simp), if_pos h3, if_neg (by simpa using hm)]

set_option maxHeartbeats 4000000 in
set_option maxRecDepth 4000 in
theorem refRead_any (s : ByteArray) (hs : s.size ≤ 100000) (w : World) :
    Calls Tryd.prog 25 #[.string s] w fun e w' => e = .returned (.tuple #[cv (readA s.data.toList).1, .int .i64 (readA s.data.toList).2]) ∧ Below w.heap.size w w' := by
  rw [← refA_eq]
  have hsl := Lib.size_eq s
  have bx0 := box_new w #[.int .i64 0, .int .i64 0, .string ⟨#[]⟩] 23
  by_cases hnull : s.data.toList = [110, 117, 108, 108]
  · have HE : Hid (refA s.data.toList = (cl0, 0)) := refA_null hnull
    have hb : (s.toList == [110, 117, 108, 108]) = true := by rw [beq_iff_eq, Lib.toList_data]; exact hnull
    clear hnull hsl bx0
    go_enter Tryd.func25, Tryd.ntmps25
    go_wp2_with fail
    rw [HE.out]
    exact bodyPost_ret (v := .tuple #[cv cl0, .int .i64 0]) (by simp [results, Tryd.results25, go_sem, cl0]) rfl ⟨rfl, below1 _ _⟩
  · have hb : (s.toList == [110, 117, 108, 108]) = false := by rw [beq_eq_false_iff_ne, Lib.toList_data]; exact hnull
    have hnm := number_ref s hs (w.alloc (.cells #[.int .i64 0, .int .i64 0, .string ⟨#[]⟩] 23))
    cases hn2 : (numA s.data.toList).2 with
    | true =>
      have HE : Hid (refA s.data.toList = (numC (numA s.data.toList).1, 0)) := refA_num hnull hn2
      rw [hn2] at hnm
      obtain ⟨n, hn⟩ : ∃ n, n = (numA s.data.toList).1 := ⟨_, rfl⟩
      rw [← hn] at hnm HE
      clear hnull hsl hn2 hn
      go_enter Tryd.func25, Tryd.ntmps25
      go_wp2_with (first
        | (go_at_call 40; refine hnm.mono ?_; rintro e w1 ⟨rfl, hb1⟩; have bx1 := bx0.over hb1; have HB1 : Hid (Below w.heap.size w w1) := (below1 _ _).trans (hb1.mono (by simp)); clear hb1; have F1 := bx1.setRow (ca (numC n)); have hone := ca_one (numC n))
        | (refine wpList_store_row rfl 23 _ _ rfl w.heap.size (ca (numC n)) rfl rfl 23 _ bx1 size_cell rfl hone ?_))
      rw [HE.out]
      exact bodyPost_ret (res_box_slot Tryd.results25 _ rfl F1 Tryd.underlying23 rfl size_cell (.int .i64 0) rfl) rfl ⟨rfl, below_setRow HB1.out (Nat.le_refl _) _⟩
    | false =>
      rw [hn2] at hnm
      obtain ⟨n, hn⟩ : ∃ n, n = (numA s.data.toList).1 := ⟨_, rfl⟩
      rw [← hn] at hnm
      clear hn
      by_cases hq : 2 ≤ s.data.toList.length ∧ s.data.toList.head? = some 39
      · have hp : 0 < s.size := by omega
        have h39 : s[0].toNat = 39 := by
          have := hq.2
          rw [head_list s hp] at this
          simp only [List.head?_cons, Option.some.injEq] at this
          rw [this]; rfl
        have h4 : ((s[0].toNat : Int) != 39) = false := by rw [h39]; rfl
        have h2 : ¬ (s.size : Int) < 2 := by omega
        obtain ⟨M, hM⟩ : ∃ M, M = un (midL s.data.toList) := ⟨_, rfl⟩
        have hMl : M.length ≤ 100000 := by
          rw [hM]
          have h5 := un_len (midL s.data.toList)
          rw [mid_len] at h5
          omega
        have hck : ∀ w, Calls Tryd.prog 13 #[.agg #[.int .i64 2, .int .i64 0, .string (str M)]] w fun e w' => e = .returned (.bool (mayC (txtC (str M)))) ∧ Below w.heap.size w w' := fun w => may_any (txtC (str M)) w
        have hsh : ∀ w, Calls Tryd.prog 27 #[.agg #[.int .i64 2, .int .i64 0, .string (str M)]] w fun e w' => e = .returned (.string (str (showL (txtC (str M))))) ∧ Below w.heap.size w w' := fun w => refShow_any (txtC (str M)) w (by simp [okC, txtC]) (by show (str M).size ≤ 100000; rw [str_size]; exact hMl)
        obtain ⟨t, ht⟩ : ∃ t, t = str (showL (txtC (str M))) := ⟨_, rfl⟩
        rw [← ht] at hsh
        obtain ⟨tm, htm⟩ : ∃ tm, tm = str M := ⟨_, rfl⟩
        rw [← htm] at hck hsh
        have hcase : (mayC (txtC tm) = false ∧ refA s.data.toList = (cl0, 20)) ∨ (mayC (txtC tm) = true ∧ (t.toList == s.toList) = false ∧ refA s.data.toList = (cl0, 20)) ∨ (mayC (txtC tm) = true ∧ (t.toList == s.toList) = true ∧ refA s.data.toList = (txtC tm, 0)) := by
          rw [htm, hM]
          cases hm : mayC (txtC (str (un (midL s.data.toList)))) with
          | false => exact .inl ⟨rfl, refA_txtno hnull hn2 hq fun h => by rw [hm] at h; exact absurd h.1 (by simp)⟩
          | true =>
            by_cases hss : showL (txtC (str (un (midL s.data.toList)))) = s.data.toList
            · exact .inr (.inr ⟨rfl, by rw [beq_iff_eq, ht, toList_str, hM, hss, Lib.toList_data], refA_txt hnull hn2 hq hm hss⟩)
            · exact .inr (.inl ⟨rfl, by rw [beq_eq_false_iff_ne, ht, toList_str, hM, Lib.toList_data]; exact hss, refA_txtno hnull hn2 hq fun h => hss h.2⟩)
        have HM : Hid (M = un (midL s.data.toList) ∧ tm = str M ∧ s.size = s.data.toList.length) := ⟨hM, htm, hsl⟩
        have HC : Hid ((mayC (txtC tm) = false ∧ refA s.data.toList = (cl0, 20)) ∨ (mayC (txtC tm) = true ∧ (t.toList == s.toList) = false ∧ refA s.data.toList = (cl0, 20)) ∨ (mayC (txtC tm) = true ∧ (t.toList == s.toList) = true ∧ refA s.data.toList = (txtC tm, 0))) := hcase
        have hw1 : wrap64 ((s.size : Int) - 1) = (s.size : Int) - 1 := by unfold wrap64; omega
        clear hnull hn2 hq hM ht htm hcase hsl h39
        go_enter Tryd.func25, Tryd.ntmps25
        go_wp2_with (go_at_call 40; refine hnm.mono ?_; rintro e w1 ⟨rfl, hb1⟩; have bx1 := bx0.over hb1; have hB1 : Below w.heap.size w w1 := (below1 _ _).trans (hb1.mono (by simp)); have hs1 : w.heap.size + 1 ≤ w1.heap.size := (by have := hb1.size; simp at this; omega); clear hb1)
        clear hnm
        go_loopg [6, 7] (s.size - 1) (fun gg s6 s7 wx => ∃ (i : Nat) (done : List UInt8), i + gg = s.size ∧ 1 ≤ i ∧ s7 = .int .i64 i ∧ Hid (OwnsB wx (w.heap.size + 1) s6 done) ∧ Hid (M = done ++ un ((midL s.data.toList).drop (i - 1))) ∧ done.length ≤ i ∧ Box wx w.heap.size 23 #[.int .i64 0, .int .i64 0, .string ⟨#[]⟩] ∧ Below w.heap.size w wx ∧ w.heap.size + 1 ≤ wx.heap.size)
        case atStart => exact ⟨1, [], by omega, Nat.le_refl _, rfl, ownsB_nil _ _, HM.out.1, by simp, bx1, hB1, hs1⟩
        case round =>
          obtain ⟨i, done, hig, hi1, rfl, hown, hMd, hdl, bx, hb, hsz⟩ := hrel
          clear bx1 hB1 hs1
          have HB : Hid (Below w.heap.size w wr) := hb
          have HX : Hid (Box wr w.heap.size 23 #[.int .i64 0, .int .i64 0, .string ⟨#[]⟩]) := bx
          clear hb bx
          by_cases hi : i + 1 < s.size
          · have hiI : (i : Int) < (s.size : Int) - 1 := by omega
            have hi2 : (i : Int) < (s.size : Int) := by omega
            have hi3 : i < s.size := by omega
            have hst := un_step (mid_at s i hi1 hi)
            have hr2 : IntKind.i64.wrap ((i : Int) + 1) = (i : Int) + 1 := by rw [IntKind.wrap_i64]; omega
            have hr3 : IntKind.i64.wrap ((i : Int) + 1 + 1) = (i : Int) + 1 + 1 := by rw [IntKind.wrap_i64]; omega
            have HU : Hid ((s[i].toNat : Int) = (s[i].toNat : Int)) := rfl
            by_cases hq : s[i] = 39
            · have hq1 : ((s[i].toNat : Int) == 39) = true := by rw [hq]; rfl
              have HF : Hid (M = (done ++ [s[i]]) ++ un ((midL s.data.toList).drop (i + 2 - 1))) := by
                unfold Hid; rw [hMd.out, hst, if_pos hq, show i + 2 - 1 = i - 1 + 2 by omega]; simp
              clear hst hMd hq
              go_wp2_with (at_builtin; refine append_u8 rfl (.tmp 36) (.tmp 40) rfl rfl rfl HU.out hown.out hsz ?hl ?_; (case hl => omega); intro v4 w4 hown4 hb4)
              go_roundg (s.size - (i + 2))
              case measure => clear hr2 hr3; omega
              case rel => exact ⟨i + 2, done ++ [s[i]], by clear hr2 hr3; omega, by omega, by go_num, hown4, HF, by rw [List.length_append]; simp; omega, HX.out.below hb4 (by omega), HB.out.trans (hb4.mono (by omega)), by have := hb4.size; omega⟩
            · have hq1 : ((s[i].toNat : Int) == 39) = false := by
                rw [beq_eq_false_iff_ne]
                intro e
                exact hq (UInt8.toNat_inj.1 (by have : s[i].toNat = 39 := by omega
                                                rw [this]; rfl))
              have HF : Hid (M = (done ++ [s[i]]) ++ un ((midL s.data.toList).drop (i + 1 - 1))) := by
                unfold Hid; rw [hMd.out, hst, if_neg hq, show i + 1 - 1 = i - 1 + 1 by omega]; simp
              clear hst hMd hq
              go_wp2_with (at_builtin; refine append_u8 rfl (.tmp 36) (.tmp 40) rfl rfl rfl HU.out hown.out hsz ?hl ?_; (case hl => omega); intro v4 w4 hown4 hb4)
              go_roundg (s.size - (i + 1))
              case measure => clear hr2 hr3; omega
              case rel => exact ⟨i + 1, done ++ [s[i]], by clear hr2 hr3; omega, by omega, by go_num, hown4, HF, by rw [List.length_append]; simp; omega, HX.out.below hb4 (by omega), HB.out.trans (hb4.mono (by omega)), by have := hb4.size; omega⟩
          · have hiI : ¬ (i : Int) < (s.size : Int) - 1 := by omega
            have hdn : M = done := by
              have e : (midL s.data.toList).drop (i - 1) = [] := List.drop_of_length_le (by rw [mid_len]; omega)
              rw [hMd.out, e]
              simp [un]
            subst hdn
            have hcv := convert_all hown.out
            rw [← HM.out.2.1] at hcv
            clear hMd
            rcases HC.out with ⟨hm, hE⟩ | ⟨hm, hts, hE⟩ | ⟨hm, hts, hE⟩
            · have HE : Hid (refA s.data.toList = (cl0, 20)) := hE
              rw [hm] at hck
              clear hE hm HC
              go_wp2_with (first
                | (go_at_call 13; refine (hck _).mono ?_; rintro e w2 ⟨rfl, hb2⟩; have hb2' := (below1 wr (.cells #[.int .i64 2, .int .i64 0, .string tm] 23)).trans (hb2.mono (by simp)); have bx2 := HX.out.over hb2'; have cx2 := (box_new wr #[.int .i64 2, .int .i64 0, .string tm] 23).over hb2; have q0 := cx2.cell 0 _ rfl; have q1 := cx2.cell 1 _ rfl; have q2 := cx2.cell 2 _ rfl; have HB2 : Hid (Below w.heap.size w w2) := HB.out.trans (hb2'.mono HB.out.size); clear hb2 hb2'; have F2 := bx2.setRow (ca cl0); have hone := ca_one cl0)
                | (refine wpList_store_row rfl 23 _ _ rfl w.heap.size (ca cl0) rfl rfl 23 _ bx2 size_cell rfl hone ?_))
              rw [HE.out]
              exact bodyPost_ret (res_box_slot Tryd.results25 _ rfl F2 Tryd.underlying23 rfl size_cell (.int .i64 20) rfl) rfl ⟨rfl, below_setRow HB2.out (Nat.le_refl _) _⟩
            · have HE : Hid (refA s.data.toList = (cl0, 20)) := hE
              rw [hm] at hck
              clear hE hm HC
              go_wp2_with (first
                | (go_at_call 13; refine (hck _).mono ?_; rintro e w2 ⟨rfl, hb2⟩; have hb2' := (below1 wr (.cells #[.int .i64 2, .int .i64 0, .string tm] 23)).trans (hb2.mono (by simp)); have bx2 := HX.out.over hb2'; have cx2 := (box_new wr #[.int .i64 2, .int .i64 0, .string tm] 23).over hb2; have q0 := cx2.cell 0 _ rfl; have q1 := cx2.cell 1 _ rfl; have q2 := cx2.cell 2 _ rfl; have HB2 : Hid (Below w.heap.size w w2) := HB.out.trans (hb2'.mono HB.out.size); clear hb2 hb2')
                | (go_at_call 27; refine (hsh _).mono ?_; rintro e w3 ⟨rfl, hb3⟩; have bx3 := bx2.over hb3; have cx3 := cx2.over hb3; have r0 := cx3.cell 0 _ rfl; have r1 := cx3.cell 1 _ rfl; have r2 := cx3.cell 2 _ rfl; have HB3 : Hid (Below w.heap.size w w3) := HB2.out.trans (hb3.mono HB2.out.size); clear hb3; have F3 := bx3.setRow (ca cl0); have hone := ca_one cl0)
                | (refine wpList_store_row rfl 23 _ _ rfl w.heap.size (ca cl0) rfl rfl 23 _ bx3 size_cell rfl hone ?_))
              rw [HE.out]
              exact bodyPost_ret (res_box_slot Tryd.results25 _ rfl F3 Tryd.underlying23 rfl size_cell (.int .i64 20) rfl) rfl ⟨rfl, below_setRow HB3.out (Nat.le_refl _) _⟩
            · have HE : Hid (refA s.data.toList = (txtC tm, 0)) := hE
              rw [hm] at hck
              clear hE hm HC
              go_wp2_with (first
                | (go_at_call 13; refine (hck _).mono ?_; rintro e w2 ⟨rfl, hb2⟩; have hb2' := (below1 wr (.cells #[.int .i64 2, .int .i64 0, .string tm] 23)).trans (hb2.mono (by simp)); have bx2 := HX.out.over hb2'; have cx2 := (box_new wr #[.int .i64 2, .int .i64 0, .string tm] 23).over hb2; have q0 := cx2.cell 0 _ rfl; have q1 := cx2.cell 1 _ rfl; have q2 := cx2.cell 2 _ rfl; have HB2 : Hid (Below w.heap.size w w2) := HB.out.trans (hb2'.mono HB.out.size); clear hb2 hb2')
                | (go_at_call 27; refine (hsh _).mono ?_; rintro e w3 ⟨rfl, hb3⟩; have bx3 := bx2.over hb3; have cx3 := cx2.over hb3; have r0 := cx3.cell 0 _ rfl; have r1 := cx3.cell 1 _ rfl; have r2 := cx3.cell 2 _ rfl; have HB3 : Hid (Below w.heap.size w w3) := HB2.out.trans (hb3.mono HB2.out.size); clear hb3; have F3 := bx3.setRow (ca (txtC tm)); have hone := ca_one (txtC tm))
                | (refine wpList_store_row rfl 23 _ _ rfl w.heap.size (ca (txtC tm)) rfl rfl 23 _ bx3 size_cell rfl hone ?_))
              rw [HE.out]
              exact bodyPost_ret (res_box_slot Tryd.results25 _ rfl F3 Tryd.underlying23 rfl size_cell (.int .i64 0) rfl) rfl ⟨rfl, below_setRow HB3.out (Nat.le_refl _) _⟩
      · have HE : Hid (refA s.data.toList = (cl0, 20)) := refA_not hnull hn2 hq
        have hcase : ((s.size : Int) < 2) ∨ (¬ (s.size : Int) < 2 ∧ ∃ h : 0 < s.size, ((s[0].toNat : Int) == 39) = false ∧ ((s[0].toNat : Int) != 39) = true) := by
          by_cases h2 : (s.size : Int) < 2
          · exact .inl h2
          · refine .inr ⟨h2, by omega, ?_⟩
            have hp : 0 < s.size := by omega
            have hne : s[0].toNat ≠ 39 := fun e => hq ⟨by omega, by
              rw [head_list s hp]
              simp only [List.head?_cons]
              congr 1
              apply UInt8.toNat_inj.1
              rw [e]; rfl⟩
            constructor
            · simp; omega
            · simp; omega
        clear hnull hsl hn2 hq
        rcases hcase with h2 | ⟨h2, hp, h3, h4⟩
        all_goals
          go_enter Tryd.func25, Tryd.ntmps25
          go_wp2_with (first
            | (go_at_call 40; refine hnm.mono ?_; rintro e w1 ⟨rfl, hb1⟩; have bx1 := bx0.over hb1; have HB1 : Hid (Below w.heap.size w w1) := (below1 _ _).trans (hb1.mono (by simp)); clear hb1; have F1 := bx1.setRow (ca cl0); have hone := ca_one cl0)
            | (refine wpList_store_row rfl 23 _ _ rfl w.heap.size (ca cl0) rfl rfl 23 _ bx1 size_cell rfl hone ?_))
          rw [HE.out]
          exact bodyPost_ret (res_box_slot Tryd.results25 _ rfl F1 Tryd.underlying23 rfl size_cell (.int .i64 20) rfl) rfl ⟨rfl, below_setRow HB1.out (Nat.le_refl _) _⟩
end Go.Proofs.YtjkkkdehmgfmeaaDoor
