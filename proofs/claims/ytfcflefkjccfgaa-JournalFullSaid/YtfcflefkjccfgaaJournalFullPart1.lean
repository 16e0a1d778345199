/-
  1 texts, one behind the other: WJournalFull.
-/
import Derived.Test.YtfcflefkjccfgaaJoin5
/-
  The walk of law JournalFull: it answers true, for all numbers.
-/
namespace Go.Proofs.Ytfcflefkjccfgaa
open Go.RowKit Leb

theorem rep_snoc (i : Nat) (t : List UInt8) : List.replicate i t ++ [t] = List.replicate (i + 1) t := by
  rw [List.replicate_succ']
set_option maxRecDepth 4000 in
set_option maxHeartbeats 2000000 in
theorem walkJournalFull (a0 : Int) (w0 : (Lit.int .i64 a0).wf = true) (a1 : Int) (_ : (Lit.int .i64 a1).wf = true) (w : World) :
    Calls Try.prog 6 #[.int .i64 a0, .int .i64 a1] w fun e w' => e = .returned (.bool true) ∧ Below w.heap.size w w' := by
  obtain ⟨x0, rfl⟩ := Wd.word_of a0 w0
  obtain ⟨m, hm, hml⟩ := and_mask x0 511 (by omega)
  replace hm : bits .and .i64 x0.toInt 511 = (m : Int) := hm
  obtain ⟨n, hn⟩ : ∃ n, n = 1 + m := ⟨_, rfl⟩
  have hn1 : (1 : Int) + (m : Int) = (n : Int) := by omega
  obtain ⟨N, hN⟩ : ∃ N, N = needs n := ⟨_, rfl⟩
  have hNd : needs n = (n + 95) / 96 := rfl
  have hNq : ((n : Int) + 95) / 96 = (N : Int) := by omega
  have hNb : (1 : Int) ≤ N ∧ (N : Int) ≤ 6 := by omega
  have hnb : (1 : Int) ≤ n ∧ (n : Int) ≤ 512 := by omega
  obtain ⟨q, hq⟩ : ∃ q, q = 40 / N := ⟨_, rfl⟩
  have hqI : (40 : Int) / (N : Int) = (q : Int) := by rw [hq]; rfl
  have hqt : Int.tdiv 40 (N : Int) = (q : Int) := by rw [Int.tdiv_eq_ediv_of_nonneg (by omega)]; exact hqI
  have hq1 : q * N ≤ 40 := by rw [hq]; exact Nat.div_mul_le_self 40 N
  have hq2 : 40 < (q + 1) * N := by
    rw [hq]
    have h1 := Nat.div_add_mod 40 N
    have h2 := Nat.mod_lt 40 (show N > 0 by omega)
    rw [Nat.add_mul, Nat.mul_comm, Nat.one_mul]
    omega
  have hN0 : ((N : Int) == 0) = false := by simp; omega
  have hN1 : ¬ N = 0 := by omega
  have hq40 : (q : Int) ≤ 40 := by
    have : q ≤ 40 := by rw [hq]; exact Nat.div_le_self _ _
    omega
  have clong := fun w => llong_any n (by omega) w
  have c8193 := fun w => llong_any 8193 (by omega) w
  have hll := longL_len n
  have hl8 := longL_len 8193
  obtain ⟨X, hX⟩ : ∃ X, X = longL n := ⟨_, rfl⟩
  rw [← hX] at clong hll
  obtain ⟨Y, hY⟩ : ∃ Y, Y = longL 8193 := ⟨_, rfl⟩
  rw [← hY] at c8193 hl8
  have cn1 := fun w => jneeds_any a1 w
  have cn2 := fun w => refNeeds_any a1 w
  obtain ⟨v, hv⟩ : ∃ v, v = needsI a1 := ⟨_, rfl⟩
  rw [← hv] at cn1 cn2
  have cnew := new_any 50 (by omega) (by omega) w
  have HQ : Hid (N = needs n ∧ n = 1 + m ∧ m ≤ 511 ∧ q * N ≤ 40 ∧ 40 < (q + 1) * N ∧ X.length = n ∧ Y.length = 8193 ∧ 1 ≤ N) := ⟨hN, hn, hml, hq1, hq2, hll, hl8, by omega⟩
  obtain ⟨S, hS⟩ : ∃ S, S = strB X := ⟨_, rfl⟩
  rw [← hS] at clong
  have HS : Hid (S = strB X) := hS
  obtain ⟨Z, hZ⟩ : ∃ Z, Z = strB Y := ⟨_, rfl⟩
  rw [← hZ] at c8193
  have HZ : Hid (Z = strB Y) := hZ
  obtain ⟨hNb1, hNb2⟩ := hNb
  obtain ⟨hnb1, hnb2⟩ := hnb
  clear hX hY hv hS hZ hN hNd hn hml hq1 hq2 hq hll hl8 w0
  go_enter Try.func6, Try.ntmps6
  go_wp2_with fail
  refine cnew.mono ?_
  rintro e w1 ⟨H, rfl, D1, b1, hF⟩
  have HD : Hid (DevIs w1 H (St.new 50) ∧ Below w.heap.size w w1 ∧ ∀ k, H.foot k → w.heap.size ≤ k) := ⟨D1, b1, hF⟩
  obtain ⟨hp, hhp⟩ : ∃ hp, hp = H.p := ⟨_, rfl⟩
  have HH : Hid (hp = H.p) := hhp
  rw [← hhp]
  clear D1 b1 hF cnew hhp
  go_wp2_with fail
  refine (lat_any _).mono ?_
  rintro e w2 ⟨rfl, b2⟩
  have cbeg := js_begin (HD.out.1.below b2) HD.out.2.2 (Nat.le_trans HD.out.2.1.size b2.size) 1#64 (by decide) (by decide)
  rw [← HH.out, show (1#64).toInt = 1 from rfl] at cbeg
  have HB : Hid (Below w.heap.size w w2) := HD.out.2.1.trans (b2.mono HD.out.2.1.size)
  clear b2
  go_wp2_with fail
  refine cbeg.mono ?_
  rintro e w3 ⟨⟨J, rfl, hJH, j3⟩, b3⟩
  have HJ : Hid (JS w3 w.heap.size J (St.new 50) 1#64 0 [] ∧ Below w.heap.size w w3) := ⟨j3, HB.out.trans (b3.mono HB.out.size)⟩
  obtain ⟨p, hpp⟩ : ∃ p, p = J.p := ⟨_, rfl⟩
  have HP : Hid (p = J.p) := hpp
  rw [← hpp]
  clear j3 b3 cbeg HB hpp hJH
  go_wp2_with fail
  refine (cn1 _).mono ?_
  rintro e w4 ⟨rfl, hw4⟩
  replace hw4 := hw4.symm
  subst hw4
  go_wp2_with fail
  refine (cn2 _).mono ?_
  rintro e w4 ⟨rfl, hw4⟩
  replace hw4 := hw4.symm
  subst hw4
  go_wp2_with fail
  rw [hNq]
  go_loopg [11] q (fun g s11 wx => ∃ (i : Nat) (J' : Jh) (s' : St), i + g = q ∧ s11 = .int .i64 i ∧ JS wx w.heap.size J' s' 1#64 (i * N) (List.replicate i X) ∧ s'.fuse < 0 ∧ J'.p = p ∧ Below w.heap.size w wx)
  case atStart => exact ⟨0, J, _, by omega, rfl, by rw [Nat.zero_mul]; exact HJ.out.1, fuse_new, HP.out.symm, HJ.out.2⟩
  case round =>
    obtain ⟨i, J', s', hig, rfl, j4, hf4, hp4, b4⟩ := hrel
    have HJ4 : Hid (JS wr w.heap.size J' s' 1#64 (i * N) (List.replicate i X) ∧ s'.fuse < 0 ∧ J'.p = p ∧ Below w.heap.size w wr) := ⟨j4, hf4, hp4, b4⟩
    have hu40 := j4.few.1
    obtain ⟨u, hu⟩ : ∃ u, u = i * N := ⟨_, rfl⟩
    have huI : (i : Int) * (N : Int) = (u : Int) := by rw [hu]; simp
    have hu4 : (u : Int) ≤ 40 := by omega
    have HU : Hid (u = i * N) := hu
    by_cases hi : i < q
    · have hiI : (i : Int) < (q : Int) := by omega
      have croom := jroom_any j4.jnl.box (by rw [← hu]; omega)
      rw [hp4, ← hu, show ((40 : Nat) : Int) = 40 from rfl] at croom
      clear j4 hf4 hp4 b4 hu40 hu
      go_wp2_with fail
      refine croom.mono ?_
      rintro e w5 ⟨rfl, b5⟩
      go_wp2_with fail
      refine (clong _).mono ?_
      rintro e w6 ⟨rfl, b6⟩
      have b56 := b5.trans (b6.mono b5.size)
      have j6 := HJ4.out.1.over b56
      have b06 := HJ4.out.2.2.2.trans (b56.mono HJ4.out.2.2.2.size)
      have hroom : i * N + needs X.length ≤ 40 := by
        have h1 := HQ.out
        rw [h1.2.2.2.2.2.1, ← h1.1]
        have h2 : (i + 1) * N ≤ q * N := Nat.mul_le_mul_right _ hi
        rw [Nat.add_mul, Nat.one_mul] at h2
        omega
      have cad := js_add j6 b06.size X (by have := HQ.out; omega) (by have := HQ.out; omega) hroom
      rw [HJ4.out.2.2.1, ← HS.out] at cad
      have HB6 : Hid (Below w.heap.size w w6) := b06
      clear j6 b06 b56 b5 b6 croom hroom
      go_wp2_with fail
      refine cad.mono ?_
      rintro e w7 ⟨⟨J7, s7, hp7, hh7, hc⟩, b7⟩
      rcases hc with ⟨rfl, j7, hf7⟩ | ⟨_, hno, _⟩
      rotate_left
      · exact absurd HJ4.out.2.1 hno
      have HJ7 : Hid (JS w7 w.heap.size J7 s7 1#64 ((i + 1) * N) (List.replicate (i + 1) X) ∧ s7.fuse < 0 ∧ J7.p = p ∧ Below w.heap.size w w7) := by
        have h1 := HQ.out
        rw [h1.2.2.2.2.2.1, ← h1.1, rep_snoc] at j7
        refine ⟨?_, hf7 HJ4.out.2.1, by rw [hp7]; exact HJ4.out.2.2.1, HB6.out.trans b7⟩
        rw [Nat.add_mul, Nat.one_mul]
        exact j7
      clear j7 hf7 hp7 hh7 b7 cad
      go_wp2_with fail
      go_roundg (q - (i + 1))
      case measure => omega
      case rel => exact ⟨i + 1, J7, s7, by omega, by go_num, HJ7.out⟩
    · have hiI : ¬ (i : Int) < (q : Int) := by omega
      have hiq : i = q := by omega
      subst hiq
      have hfull : ∀ W, Below wr.heap.size wr W → Calls Try.prog 21 #[.pointer (some ⟨p, 0, none⟩), .string S] W fun e w' => e = .returned (.int .i64 2) ∧ Below W.heap.size W w' := by
        intro W hW
        have h1 := HQ.out
        have h := jadd_full (j4.over hW).jnl.box hu40 (by omega) X (by omega) (by omega) (by rw [h1.2.2.2.2.2.1, ← h1.1]; have := h1.2.2.2.2.1; rw [Nat.add_mul, Nat.one_mul] at this; omega)
        rw [hp4, ← HS.out] at h
        exact h
      have hnone : ∀ W, Below wr.heap.size wr W → Calls Try.prog 21 #[.pointer (some ⟨p, 0, none⟩), .string { data := #[] }] W fun e w' => e = .returned (.int .i64 1) ∧ w' = W := by
        intro W hW
        have h := jadd_arg (j4.over hW).jnl.box [] (by decide)
        rw [hp4] at h
        exact h
      have hmuch : ∀ W, Below wr.heap.size wr W → Calls Try.prog 21 #[.pointer (some ⟨p, 0, none⟩), .string Z] W fun e w' => e = .returned (.int .i64 1) ∧ w' = W := by
        intro W hW
        have h := jadd_arg (j4.over hW).jnl.box Y (needsI_no (by have := HQ.out; omega))
        rw [hp4, ← HZ.out] at h
        exact h
      have hrecs : ∀ W, Below wr.heap.size wr W → Calls Try.prog 15 #[.pointer (some ⟨p, 0, none⟩)] W fun e w' => (∃ a c, e = .returned (.slice a i c)) ∧ Below W.heap.size W w' := by
        intro W hW
        have h := jrecords_any (j4.over hW).jnl.box (j4.over hW).jnl.recs.reads (by rw [bks_len, List.length_replicate]; omega)
        rw [hp4] at h
        refine h.mono fun e w' ⟨⟨v', h1, h2⟩, h3⟩ => ⟨?_, h3⟩
        rcases h2.reads with ⟨h4, a, c, h5⟩ | ⟨b, off, c, h5, _⟩
        · have h6 := congrArg List.length h4
          rw [bks_len, List.length_replicate] at h6
          exact ⟨a, c, by rw [h1, h5, h6]; rfl⟩
        · rw [bks_len, List.length_replicate] at h5
          exact ⟨_, c, by rw [h1, h5]⟩
      have H4 := (show Hid _ from hfull)
      have H5 := (show Hid _ from hnone)
      have H6 := (show Hid _ from hmuch)
      have H7 := (show Hid _ from hrecs)
      have hwi : IntKind.i64.wrap (i : Int) = (i : Int) := by rw [IntKind.wrap_i64]; omega
      clear j4 hf4 hp4 b4 hu40 hu hfull hnone hmuch hrecs
      go_wp2_with fail
      refine wp_region_held_then (fun _ : World => True) _ (by kernel_rfl) rfl (by kernel_rfl) ?_
      have hHeld : (fun _ : World => True) wr.drew := trivial
      dsimp only [List.dropLast, List.length, List.getLast]
      ((refine takeL 0 (v := ?_) rfl (by kernel_rfl) (by kernel_rfl) (by kernel_rfl) (fun _ _ _ h => h) (by rfl) hHeld ?_ ?_; rotate_left; focus (intro w hSw; (try dsimp only at hSw); go_simp <;> with_reducible rfl); (try simp only [Act.put, List.setIfInBounds_toArray, List.set_cons_zero, List.set_cons_succ])); (refine takeL 1 (v := ?_) rfl (by kernel_rfl) (by kernel_rfl) (by kernel_rfl) (fun _ _ _ h => h) (by rfl) hHeld ?_ ?_; rotate_left; focus (intro w hSw; (try dsimp only at hSw); go_simp <;> with_reducible rfl); (try simp only [Act.put, List.setIfInBounds_toArray, List.set_cons_zero, List.set_cons_succ])))
      dsimp only [Act.put]
      simp only [List.setIfInBounds_toArray, List.set_cons_zero, List.set_cons_succ]
      refine callL 2 (f := 20) (vs := #[.int .i64 n]) rfl (by kernel_rfl) (by rfl) (by go_simp) ?_
      refine (clong _).mono ?_
      rintro e w5 ⟨rfl, b5⟩
      replace b5 := (Below.refl wr.heap.size wr).drew.trans b5
      refine ⟨_, rfl, trivial, ?_⟩
      try dsimp only [Act.put]
      try simp only [List.setIfInBounds_toArray, List.set_cons_zero, List.set_cons_succ]
      refine callL 3 (f := 21) (vs := #[.pointer (some ⟨p, 0, none⟩), .string S]) rfl (by kernel_rfl) (by rfl) (by go_simp) ?_
      refine (H4.out _ b5).mono ?_
      rintro e w6 ⟨rfl, b6⟩
      replace b6 := b5.trans (b6.mono b5.size)
      refine ⟨_, rfl, trivial, ?_⟩
      have hHeld : (fun _ : World => True) w6 := trivial
      ((refine takeL 4 (v := ?_) rfl (by kernel_rfl) (by kernel_rfl) (by kernel_rfl) (fun _ _ _ h => h) (by rfl) hHeld ?_ ?_; rotate_left; focus (intro w hSw; (try dsimp only at hSw); go_simp <;> with_reducible rfl); (try simp only [Act.put, List.setIfInBounds_toArray, List.set_cons_zero, List.set_cons_succ])); (refine takeL 5 (v := ?_) rfl (by kernel_rfl) (by kernel_rfl) (by kernel_rfl) (fun _ _ _ h => h) (by rfl) hHeld ?_ ?_; rotate_left; focus (intro w hSw; (try dsimp only at hSw); go_simp <;> with_reducible rfl); (try simp only [Act.put, List.setIfInBounds_toArray, List.set_cons_zero, List.set_cons_succ])); (refine takeL 6 (v := ?_) rfl (by kernel_rfl) (by kernel_rfl) (by kernel_rfl) (fun _ _ _ h => h) (by rfl) hHeld ?_ ?_; rotate_left; focus (intro w hSw; (try dsimp only at hSw); go_simp <;> with_reducible rfl); (try simp only [Act.put, List.setIfInBounds_toArray, List.set_cons_zero, List.set_cons_succ])))
      try dsimp only [Act.put]
      try simp only [List.setIfInBounds_toArray, List.set_cons_zero, List.set_cons_succ]
      refine callL 7 (f := 21) (vs := #[.pointer (some ⟨p, 0, none⟩), .string { data := #[] }]) rfl (by kernel_rfl) (by rfl) (by go_simp) ?_
      refine (H5.out _ b6).mono ?_
      rintro e w7 ⟨rfl, hw7⟩
      subst hw7
      refine ⟨_, rfl, trivial, ?_⟩
      ((refine takeL 8 (v := ?_) rfl (by kernel_rfl) (by kernel_rfl) (by kernel_rfl) (fun _ _ _ h => h) (by rfl) hHeld ?_ ?_; rotate_left; focus (intro w hSw; (try dsimp only at hSw); go_simp <;> with_reducible rfl); (try simp only [Act.put, List.setIfInBounds_toArray, List.set_cons_zero, List.set_cons_succ])); (refine takeL 9 (v := ?_) rfl (by kernel_rfl) (by kernel_rfl) (by kernel_rfl) (fun _ _ _ h => h) (by rfl) hHeld ?_ ?_; rotate_left; focus (intro w hSw; (try dsimp only at hSw); go_simp <;> with_reducible rfl); (try simp only [Act.put, List.setIfInBounds_toArray, List.set_cons_zero, List.set_cons_succ])); (refine takeL 10 (v := ?_) rfl (by kernel_rfl) (by kernel_rfl) (by kernel_rfl) (fun _ _ _ h => h) (by rfl) hHeld ?_ ?_; rotate_left; focus (intro w hSw; (try dsimp only at hSw); go_simp <;> with_reducible rfl); (try simp only [Act.put, List.setIfInBounds_toArray, List.set_cons_zero, List.set_cons_succ])); (refine takeL 11 (v := ?_) rfl (by kernel_rfl) (by kernel_rfl) (by kernel_rfl) (fun _ _ _ h => h) (by rfl) hHeld ?_ ?_; rotate_left; focus (intro w hSw; (try dsimp only at hSw); go_simp <;> with_reducible rfl); (try simp only [Act.put, List.setIfInBounds_toArray, List.set_cons_zero, List.set_cons_succ])))
      try dsimp only [Act.put]
      try simp only [List.setIfInBounds_toArray, List.set_cons_zero, List.set_cons_succ]
      refine callL 12 (f := 20) (vs := #[.int .i64 8193]) rfl (by kernel_rfl) (by rfl) (by go_simp) ?_
      refine (c8193 _).mono ?_
      rintro e w8 ⟨rfl, b8⟩
      replace b8 := b6.trans (b8.mono b6.size)
      refine ⟨_, rfl, trivial, ?_⟩
      try dsimp only [Act.put]
      try simp only [List.setIfInBounds_toArray, List.set_cons_zero, List.set_cons_succ]
      refine callL 13 (f := 21) (vs := #[.pointer (some ⟨p, 0, none⟩), .string Z]) rfl (by kernel_rfl) (by rfl) (by go_simp) ?_
      refine (H6.out _ b8).mono ?_
      rintro e w9 ⟨rfl, hw9⟩
      subst hw9
      refine ⟨_, rfl, trivial, ?_⟩
      have hHeld : (fun _ : World => True) w9 := trivial
      ((refine takeL 14 (v := ?_) rfl (by kernel_rfl) (by kernel_rfl) (by kernel_rfl) (fun _ _ _ h => h) (by rfl) hHeld ?_ ?_; rotate_left; focus (intro w hSw; (try dsimp only at hSw); go_simp <;> with_reducible rfl); (try simp only [Act.put, List.setIfInBounds_toArray, List.set_cons_zero, List.set_cons_succ])); (refine takeL 15 (v := ?_) rfl (by kernel_rfl) (by kernel_rfl) (by kernel_rfl) (fun _ _ _ h => h) (by rfl) hHeld ?_ ?_; rotate_left; focus (intro w hSw; (try dsimp only at hSw); go_simp <;> with_reducible rfl); (try simp only [Act.put, List.setIfInBounds_toArray, List.set_cons_zero, List.set_cons_succ])); (refine takeL 16 (v := ?_) rfl (by kernel_rfl) (by kernel_rfl) (by kernel_rfl) (fun _ _ _ h => h) (by rfl) hHeld ?_ ?_; rotate_left; focus (intro w hSw; (try dsimp only at hSw); go_simp <;> with_reducible rfl); (try simp only [Act.put, List.setIfInBounds_toArray, List.set_cons_zero, List.set_cons_succ])); (refine takeL 17 (v := ?_) rfl (by kernel_rfl) (by kernel_rfl) (by kernel_rfl) (fun _ _ _ h => h) (by rfl) hHeld ?_ ?_; rotate_left; focus (intro w hSw; (try dsimp only at hSw); go_simp <;> with_reducible rfl); (try simp only [Act.put, List.setIfInBounds_toArray, List.set_cons_zero, List.set_cons_succ])); (refine takeL 20 (v := ?_) rfl (by kernel_rfl) (by kernel_rfl) (by kernel_rfl) (fun _ _ _ h => h) (by rfl) hHeld ?_ ?_; rotate_left; focus (intro w hSw; (try dsimp only at hSw); go_simp <;> with_reducible rfl); (try simp only [Act.put, List.setIfInBounds_toArray, List.set_cons_zero, List.set_cons_succ])); (refine takeL 21 (v := ?_) rfl (by kernel_rfl) (by kernel_rfl) (by kernel_rfl) (fun _ _ _ h => h) (by rfl) hHeld ?_ ?_; rotate_left; focus (intro w hSw; (try dsimp only at hSw); go_simp <;> with_reducible rfl); (try simp only [Act.put, List.setIfInBounds_toArray, List.set_cons_zero, List.set_cons_succ])))
      try dsimp only [Act.put]
      try simp only [List.setIfInBounds_toArray, List.set_cons_zero, List.set_cons_succ]
      refine callL 18 (f := 15) (vs := #[.pointer (some ⟨p, 0, none⟩)]) rfl (by kernel_rfl) (by rfl) (by go_simp) ?_
      refine (H7.out _ b8).mono ?_
      rintro e w10 ⟨⟨ra, rc, rfl⟩, b10⟩
      replace b10 := b8.trans (b10.mono b8.size)
      refine ⟨_, rfl, trivial, ?_⟩
      have hHeld : (fun _ : World => True) w10 := trivial
      ((refine takeL 19 (v := ?_) rfl (by kernel_rfl) (by kernel_rfl) (by kernel_rfl) (fun _ _ _ h => h) (by rfl) hHeld ?_ ?_; rotate_left; focus (intro w hSw; (try dsimp only at hSw); go_simp <;> with_reducible rfl); (try simp only [Act.put, List.setIfInBounds_toArray, List.set_cons_zero, List.set_cons_succ])); (refine takeL 22 (v := ?_) rfl (by kernel_rfl) (by kernel_rfl) (by kernel_rfl) (fun _ _ _ h => h) (by rfl) hHeld ?_ ?_; rotate_left; focus (intro w hSw; (try dsimp only at hSw); go_simp <;> with_reducible rfl); (try simp only [Act.put, List.setIfInBounds_toArray, List.set_cons_zero, List.set_cons_succ])); (refine takeL 23 (v := ?_) rfl (by kernel_rfl) (by kernel_rfl) (by kernel_rfl) (fun _ _ _ h => h) (by rfl) hHeld ?_ ?_; rotate_left; focus (intro w hSw; (try dsimp only at hSw); go_simp <;> with_reducible rfl); (try simp only [Act.put, List.setIfInBounds_toArray, List.set_cons_zero, List.set_cons_succ])); (refine takeL 24 (v := ?_) rfl (by kernel_rfl) (by kernel_rfl) (by kernel_rfl) (fun _ _ _ h => h) (by rfl) hHeld ?_ ?_; rotate_left; focus (intro w hSw; (try dsimp only at hSw); go_simp <;> with_reducible rfl); (try simp only [Act.put, List.setIfInBounds_toArray, List.set_cons_zero, List.set_cons_succ])))
      try dsimp only [Act.put]
      try simp only [List.setIfInBounds_toArray, List.set_cons_zero, List.set_cons_succ]
      refine callL 25 (f := 12) (vs := #[]) rfl (by kernel_rfl) (by rfl) (by go_simp) ?_
      refine (awake23 _).mono ?_
      rintro e w11 ⟨rfl, b11⟩
      replace b11 := b10.trans (b11.mono b10.size)
      refine ⟨_, rfl, trivial, ?_⟩
      have hHeld : (fun _ : World => True) w11 := trivial
      ((refine takeL 26 (v := ?_) rfl (by kernel_rfl) (by kernel_rfl) (by kernel_rfl) (fun _ _ _ h => h) (by rfl) hHeld ?_ ?_; rotate_left; focus (intro w hSw; (try dsimp only at hSw); go_simp <;> with_reducible rfl); (try simp only [Act.put, List.setIfInBounds_toArray, List.set_cons_zero, List.set_cons_succ])))
      refine doneL (by kernel_rfl) ?_
      try dsimp only [Act.put]
      unfold Oper.wp
      go_simp
      go_wp2_with fail
      go_ret
      exact ⟨rfl, HJ4.out.2.2.2.trans (b11.mono HJ4.out.2.2.2.size)⟩
end Go.Proofs.Ytfcflefkjccfgaa
