/-
  The contract of package test's Merge.
-/
import Derived.Test.YtnnnkmgkijijdaaTZone
namespace Go.Proofs.Ytnnnkmgkijijdaa
open Go.RowKit

def zNew (a b : Zn) : Zn := ⟨a.mn, a.mx, a.nu + b.nu, a.ct + b.ct⟩
theorem merge_one {a b : Zn} (h : b.nu = b.ct) : mergeZ a b = zNew a b := by unfold mergeZ; rw [if_pos h]; rfl
theorem merge_two {a b : Zn} (h : ¬ b.nu = b.ct) (k : a.nu = a.ct) : mergeZ a b = ⟨b.mn, b.mx, a.nu + b.nu, a.ct + b.ct⟩ := by
  unfold mergeZ; rw [if_neg h, if_pos (.inl k), if_pos (.inl k)]
theorem merge_all {a b : Zn} (h : ¬ b.nu = b.ct) (k : ¬ a.nu = a.ct) : mergeZ a b = ⟨if cmpC b.mn a.mn < 0 then b.mn else a.mn, if 0 < cmpC b.mx a.mx then b.mx else a.mx, a.nu + b.nu, a.ct + b.ct⟩ := by
  unfold mergeZ
  rw [if_neg h]
  simp [k]

section
variable {ops : Array Oper} {rest : List Oper} {o : Oper} {act : Act} {Q : Exit → Act → World → Prop} {w w1 : World} {a b m : Zn} {r : Array Value}
/-- 'both.Min = ..' and 'both.Max = ..'. -/
theorem store_mn (M : Mg w w1 a b m r) (c : Cl) (hgd : o.guard = none) (x y : Operand) (ho : o.op = .store 23 x y) (hx : act.eval x = .pointer (some ⟨w.heap.size + 1 + 1 + 1, 0, none⟩)) (hy : act.eval y = .agg (ca c))
    (h : ∀ w2, Mg w w2 a b ⟨c, m.mx, m.nu, m.ct⟩ r → wpList Try.prog ops Q rest (act.put o.dst undef) w2) : wpList Try.prog ops Q (o :: rest) act w1 :=
  wpList_store_mid hgd 23 x y ho _ _ (ca c) hx hy (M.bm.there (by simp)) size_cell (ca_one c) (h _ (M.mn c))
theorem store_mx (M : Mg w w1 a b m r) (c : Cl) (hgd : o.guard = none) (x y : Operand) (ho : o.op = .store 23 x y) (hx : act.eval x = .pointer (some ⟨w.heap.size + 1 + 1 + 1, 3, none⟩)) (hy : act.eval y = .agg (ca c))
    (h : ∀ w2, Mg w w2 a b ⟨m.mn, c, m.nu, m.ct⟩ r → wpList Try.prog ops Q rest (act.put o.dst undef) w2) : wpList Try.prog ops Q (o :: rest) act w1 :=
  wpList_store_mid hgd 23 x y ho _ _ (ca c) hx hy (M.bm.there (by simp)) size_cell (ca_one c) (h _ (M.mx c))
end

set_option maxRecDepth 4000 in
set_option maxHeartbeats 8000000 in
theorem merge_any (a b : Zn) (h1 : IntKind.i64.wrap (a.nu + b.nu) = a.nu + b.nu) (h2 : IntKind.i64.wrap (a.ct + b.ct) = a.ct + b.ct) (w : World) :
    Calls Try.prog 16 #[zv a, zv b] w fun e w' => e = .returned (zv (mergeZ a b)) ∧ Below w.heap.size w w' := by
  have n1 := allNulls_any a
  have n2 := allNulls_any b
  have c1 : ∀ w, _ := fun w => compare_any b.mn a.mn w
  have c2 : ∀ w, _ := fun w => compare_any b.mx a.mx w
  have M0 := mg_new w a b (zNew a b) #[.int .i64 0, .int .i64 0, .string ⟨#[]⟩, .int .i64 0, .int .i64 0, .string ⟨#[]⟩, .int .i64 0, .int .i64 0]
  by_cases hb : b.nu = b.ct
  · have hbb : (b.nu == b.ct) = true := by simpa using hb
    rw [hbb] at n2
    have HE : Hid (mergeZ a b = zNew a b) := merge_one hb
    clear hb hbb n1 c1 c2
    obtain ⟨⟨ak, an, ax⟩, ⟨aK, aN, aX⟩, au, ac⟩ := a
    obtain ⟨⟨bk, bn, bx⟩, ⟨bK, bN, bX⟩, bu, bc⟩ := b
    simp only at h1 h2
    go_enter Try.func16, Try.ntmps16
    go_wp2_with fail
    refine (n2 _).mono ?_
    rintro e w1 ⟨rfl, hb1⟩
    have M1 := M0.over hb1
    clear M0 hb1 n2
    obtain ⟨m0, m1, m2, m3, m4, m5, m6, m7⟩ := box_cells M1.bm
    have F1 := M1.br.setRow (za (zNew ⟨⟨ak, an, ax⟩, ⟨aK, aN, aX⟩, au, ac⟩ ⟨⟨bk, bn, bx⟩, ⟨bK, bN, bX⟩, bu, bc⟩))
    have hone := za_one (zNew ⟨⟨ak, an, ax⟩, ⟨aK, aN, aX⟩, au, ac⟩ ⟨⟨bk, bn, bx⟩, ⟨bK, bN, bX⟩, bu, bc⟩)
    go_wp2_with (refine wpList_store_row rfl 34 _ _ rfl (w.heap.size + 1 + 1) (za (zNew ⟨⟨ak, an, ax⟩, ⟨aK, aN, aX⟩, au, ac⟩ ⟨⟨bk, bn, bx⟩, ⟨bK, bN, bX⟩, bu, bc⟩)) rfl rfl 34 _ M1.br size_zone rfl hone ?_)
    rw [HE.out]
    exact bodyPost_ret (res_box Try.results16 _ rfl F1 Try.underlying34 rfl size_zone) rfl ⟨rfl, below_setRow M1.bel (by omega) _⟩
  · have hbb : (b.nu == b.ct) = false := by simpa using hb
    rw [hbb] at n2
    by_cases ha : a.nu = a.ct
    · have hab : (a.nu == a.ct) = true := by simpa using ha
      rw [hab] at n1
      have HE : Hid (mergeZ a b = ⟨b.mn, b.mx, a.nu + b.nu, a.ct + b.ct⟩) := merge_two hb ha
      clear hb hbb ha hab c1 c2
      obtain ⟨⟨ak, an, ax⟩, ⟨aK, aN, aX⟩, au, ac⟩ := a
      obtain ⟨⟨bk, bn, bx⟩, ⟨bK, bN, bX⟩, bu, bc⟩ := b
      simp only at h1 h2
      go_enter Try.func16, Try.ntmps16
      go_wp2_with fail
      refine (n2 _).mono ?_
      rintro e w1 ⟨rfl, hb1⟩
      have M1 := M0.over hb1
      clear M0 hb1 n2
      obtain ⟨a0, a1, a2, a3, a4, a5, a6, a7⟩ := box_cells M1.ba
      go_wp2_with fail
      refine (n1 _).mono ?_
      rintro e w2 ⟨rfl, hb2⟩
      have M2 := M1.over hb2
      clear M1 hb2 a0 a1 a2 a3 a4 a5 a6 a7
      obtain ⟨b0, b1, b2, b3, b4, b5, b6, b7⟩ := box_cells M2.bb
      go_wp2_with (refine store_mn M2 ⟨bk, bn, bx⟩ rfl _ _ rfl rfl rfl ?_; intro w3 M3; clear M2 b0 b1 b2 b3 b4 b5 b6 b7; obtain ⟨a0, a1, a2, a3, a4, a5, a6, a7⟩ := box_cells M3.ba)
      refine (n1 _).mono ?_
      rintro e w4 ⟨rfl, hb4⟩
      have M4 := M3.over hb4
      clear M3 hb4 a0 a1 a2 a3 a4 a5 a6 a7 n1
      obtain ⟨b0, b1, b2, b3, b4, b5, b6, b7⟩ := box_cells M4.bb
      go_wp2_with (first
        | (refine store_mx M4 ⟨bK, bN, bX⟩ rfl _ _ rfl rfl rfl ?_; intro w5 M5; clear M4 b0 b1 b2 b3 b4 b5 b6 b7; obtain ⟨m0, m1, m2, m3, m4, m5, m6, m7⟩ := box_cells M5.bm; have F1 := M5.br.setRow (za ⟨⟨bk, bn, bx⟩, ⟨bK, bN, bX⟩, au + bu, ac + bc⟩); have hone := za_one ⟨⟨bk, bn, bx⟩, ⟨bK, bN, bX⟩, au + bu, ac + bc⟩)
        | (refine wpList_store_row rfl 34 _ _ rfl (w.heap.size + 1 + 1) (za ⟨⟨bk, bn, bx⟩, ⟨bK, bN, bX⟩, au + bu, ac + bc⟩) rfl rfl 34 _ M5.br size_zone rfl hone ?_))
      rw [HE.out]
      exact bodyPost_ret (res_box Try.results16 _ rfl F1 Try.underlying34 rfl size_zone) rfl ⟨rfl, below_setRow M5.bel (by omega) _⟩
    · have hab : (a.nu == a.ct) = false := by simpa using ha
      rw [hab] at n1
      have HE : Hid (mergeZ a b = ⟨if cmpC b.mn a.mn < 0 then b.mn else a.mn, if 0 < cmpC b.mx a.mx then b.mx else a.mx, a.nu + b.nu, a.ct + b.ct⟩) := merge_all hb ha
      obtain ⟨x, hx⟩ : ∃ x, x = cmpC b.mn a.mn := ⟨_, rfl⟩
      obtain ⟨y, hy⟩ : ∃ y, y = cmpC b.mx a.mx := ⟨_, rfl⟩
      rw [← hx] at HE c1
      rw [← hy] at HE c2
      clear hb hbb ha hab hx hy
      obtain ⟨⟨ak, an, ax⟩, ⟨aK, aN, aX⟩, au, ac⟩ := a
      obtain ⟨⟨bk, bn, bx⟩, ⟨bK, bN, bX⟩, bu, bc⟩ := b
      simp only at h1 h2 c1 c2
      by_cases hx : x < 0
      · by_cases hy : 0 < y
        · rw [if_pos hx, if_pos hy] at HE
          go_enter Try.func16, Try.ntmps16
          go_wp2_with fail
          refine (n2 _).mono ?_
          rintro e w1 ⟨rfl, hb1⟩
          have M1 := M0.over hb1
          clear M0 hb1 n2
          obtain ⟨a0, a1, a2, a3, a4, a5, a6, a7⟩ := box_cells M1.ba
          go_wp2_with fail
          refine (n1 _).mono ?_
          rintro e w2 ⟨rfl, hb2⟩
          have M2 := M1.over hb2
          clear M1 hb2 a0 a1 a2 a3 a4 a5 a6 a7
          obtain ⟨a0, a1, a2, -, -, -, -, -⟩ := box_cells M2.ba
          obtain ⟨b0, b1, b2, -, -, -, -, -⟩ := box_cells M2.bb
          go_wp2_with fail
          refine (c1 _).mono ?_
          rintro e w3 ⟨rfl, hb3⟩
          have M3 := M2.over hb3
          clear M2 hb3 a0 a1 a2 b0 b1 b2 c1
          obtain ⟨b0, b1, b2, -, -, -, -, -⟩ := box_cells M3.bb
          go_wp2_with (refine store_mn M3 ⟨bk, bn, bx⟩ rfl _ _ rfl rfl rfl ?_; intro w4 M4; clear M3 b0 b1 b2; obtain ⟨a0, a1, a2, a3, a4, a5, a6, a7⟩ := box_cells M4.ba)
          refine (n1 _).mono ?_
          rintro e w5 ⟨rfl, hb5⟩
          have M5 := M4.over hb5
          clear M4 hb5 a0 a1 a2 a3 a4 a5 a6 a7 n1
          obtain ⟨-, -, -, a3, a4, a5, -, -⟩ := box_cells M5.ba
          obtain ⟨-, -, -, b3, b4, b5, -, -⟩ := box_cells M5.bb
          go_wp2_with fail
          refine (c2 _).mono ?_
          rintro e w6 ⟨rfl, hb6⟩
          have M6 := M5.over hb6
          clear M5 hb6 a3 a4 a5 b3 b4 b5 c2
          obtain ⟨-, -, -, b3, b4, b5, -, -⟩ := box_cells M6.bb
          go_wp2_with (first
    | (refine store_mx M6 ⟨bK, bN, bX⟩ rfl _ _ rfl rfl rfl ?_; intro w7 M7; clear M6 b3 b4 b5; obtain ⟨m0, m1, m2, m3, m4, m5, m6, m7⟩ := box_cells M7.bm; have F1 := M7.br.setRow (za ⟨⟨bk, bn, bx⟩, ⟨bK, bN, bX⟩, au + bu, ac + bc⟩); have hone := za_one ⟨⟨bk, bn, bx⟩, ⟨bK, bN, bX⟩, au + bu, ac + bc⟩)
    | (refine wpList_store_row rfl 34 _ _ rfl (w.heap.size + 1 + 1) (za ⟨⟨bk, bn, bx⟩, ⟨bK, bN, bX⟩, au + bu, ac + bc⟩) rfl rfl 34 _ M7.br size_zone rfl hone ?_))
          rw [HE.out]
          exact bodyPost_ret (res_box Try.results16 _ rfl F1 Try.underlying34 rfl size_zone) rfl ⟨rfl, below_setRow M7.bel (by omega) _⟩
        · rw [if_pos hx, if_neg hy] at HE
          go_enter Try.func16, Try.ntmps16
          go_wp2_with fail
          refine (n2 _).mono ?_
          rintro e w1 ⟨rfl, hb1⟩
          have M1 := M0.over hb1
          clear M0 hb1 n2
          obtain ⟨a0, a1, a2, a3, a4, a5, a6, a7⟩ := box_cells M1.ba
          go_wp2_with fail
          refine (n1 _).mono ?_
          rintro e w2 ⟨rfl, hb2⟩
          have M2 := M1.over hb2
          clear M1 hb2 a0 a1 a2 a3 a4 a5 a6 a7
          obtain ⟨a0, a1, a2, -, -, -, -, -⟩ := box_cells M2.ba
          obtain ⟨b0, b1, b2, -, -, -, -, -⟩ := box_cells M2.bb
          go_wp2_with fail
          refine (c1 _).mono ?_
          rintro e w3 ⟨rfl, hb3⟩
          have M3 := M2.over hb3
          clear M2 hb3 a0 a1 a2 b0 b1 b2 c1
          obtain ⟨b0, b1, b2, -, -, -, -, -⟩ := box_cells M3.bb
          go_wp2_with (refine store_mn M3 ⟨bk, bn, bx⟩ rfl _ _ rfl rfl rfl ?_; intro w4 M4; clear M3 b0 b1 b2; obtain ⟨a0, a1, a2, a3, a4, a5, a6, a7⟩ := box_cells M4.ba)
          refine (n1 _).mono ?_
          rintro e w5 ⟨rfl, hb5⟩
          have M5 := M4.over hb5
          clear M4 hb5 a0 a1 a2 a3 a4 a5 a6 a7 n1
          obtain ⟨-, -, -, a3, a4, a5, -, -⟩ := box_cells M5.ba
          obtain ⟨-, -, -, b3, b4, b5, -, -⟩ := box_cells M5.bb
          go_wp2_with fail
          refine (c2 _).mono ?_
          rintro e w6 ⟨rfl, hb6⟩
          have M6 := M5.over hb6
          clear M5 hb6 a3 a4 a5 b3 b4 b5 c2
          have M7 := M6
          clear M6
          obtain ⟨m0, m1, m2, m3, m4, m5, m6, m7⟩ := box_cells M7.bm
          have F1 := M7.br.setRow (za ⟨⟨bk, bn, bx⟩, ⟨aK, aN, aX⟩, au + bu, ac + bc⟩)
          have hone := za_one ⟨⟨bk, bn, bx⟩, ⟨aK, aN, aX⟩, au + bu, ac + bc⟩
          go_wp2_with (refine wpList_store_row rfl 34 _ _ rfl (w.heap.size + 1 + 1) (za ⟨⟨bk, bn, bx⟩, ⟨aK, aN, aX⟩, au + bu, ac + bc⟩) rfl rfl 34 _ M7.br size_zone rfl hone ?_)
          rw [HE.out]
          exact bodyPost_ret (res_box Try.results16 _ rfl F1 Try.underlying34 rfl size_zone) rfl ⟨rfl, below_setRow M7.bel (by omega) _⟩
      · by_cases hy : 0 < y
        · rw [if_neg hx, if_pos hy] at HE
          go_enter Try.func16, Try.ntmps16
          go_wp2_with fail
          refine (n2 _).mono ?_
          rintro e w1 ⟨rfl, hb1⟩
          have M1 := M0.over hb1
          clear M0 hb1 n2
          obtain ⟨a0, a1, a2, a3, a4, a5, a6, a7⟩ := box_cells M1.ba
          go_wp2_with fail
          refine (n1 _).mono ?_
          rintro e w2 ⟨rfl, hb2⟩
          have M2 := M1.over hb2
          clear M1 hb2 a0 a1 a2 a3 a4 a5 a6 a7
          obtain ⟨a0, a1, a2, -, -, -, -, -⟩ := box_cells M2.ba
          obtain ⟨b0, b1, b2, -, -, -, -, -⟩ := box_cells M2.bb
          go_wp2_with fail
          refine (c1 _).mono ?_
          rintro e w3 ⟨rfl, hb3⟩
          have M3 := M2.over hb3
          clear M2 hb3 a0 a1 a2 b0 b1 b2 c1
          have M4 := M3
          clear M3
          obtain ⟨a0, a1, a2, a3, a4, a5, a6, a7⟩ := box_cells M4.ba
          go_wp2_with fail
          refine (n1 _).mono ?_
          rintro e w5 ⟨rfl, hb5⟩
          have M5 := M4.over hb5
          clear M4 hb5 a0 a1 a2 a3 a4 a5 a6 a7 n1
          obtain ⟨-, -, -, a3, a4, a5, -, -⟩ := box_cells M5.ba
          obtain ⟨-, -, -, b3, b4, b5, -, -⟩ := box_cells M5.bb
          go_wp2_with fail
          refine (c2 _).mono ?_
          rintro e w6 ⟨rfl, hb6⟩
          have M6 := M5.over hb6
          clear M5 hb6 a3 a4 a5 b3 b4 b5 c2
          obtain ⟨-, -, -, b3, b4, b5, -, -⟩ := box_cells M6.bb
          go_wp2_with (first
    | (refine store_mx M6 ⟨bK, bN, bX⟩ rfl _ _ rfl rfl rfl ?_; intro w7 M7; clear M6 b3 b4 b5; obtain ⟨m0, m1, m2, m3, m4, m5, m6, m7⟩ := box_cells M7.bm; have F1 := M7.br.setRow (za ⟨⟨ak, an, ax⟩, ⟨bK, bN, bX⟩, au + bu, ac + bc⟩); have hone := za_one ⟨⟨ak, an, ax⟩, ⟨bK, bN, bX⟩, au + bu, ac + bc⟩)
    | (refine wpList_store_row rfl 34 _ _ rfl (w.heap.size + 1 + 1) (za ⟨⟨ak, an, ax⟩, ⟨bK, bN, bX⟩, au + bu, ac + bc⟩) rfl rfl 34 _ M7.br size_zone rfl hone ?_))
          rw [HE.out]
          exact bodyPost_ret (res_box Try.results16 _ rfl F1 Try.underlying34 rfl size_zone) rfl ⟨rfl, below_setRow M7.bel (by omega) _⟩
        · rw [if_neg hx, if_neg hy] at HE
          go_enter Try.func16, Try.ntmps16
          go_wp2_with fail
          refine (n2 _).mono ?_
          rintro e w1 ⟨rfl, hb1⟩
          have M1 := M0.over hb1
          clear M0 hb1 n2
          obtain ⟨a0, a1, a2, a3, a4, a5, a6, a7⟩ := box_cells M1.ba
          go_wp2_with fail
          refine (n1 _).mono ?_
          rintro e w2 ⟨rfl, hb2⟩
          have M2 := M1.over hb2
          clear M1 hb2 a0 a1 a2 a3 a4 a5 a6 a7
          obtain ⟨a0, a1, a2, -, -, -, -, -⟩ := box_cells M2.ba
          obtain ⟨b0, b1, b2, -, -, -, -, -⟩ := box_cells M2.bb
          go_wp2_with fail
          refine (c1 _).mono ?_
          rintro e w3 ⟨rfl, hb3⟩
          have M3 := M2.over hb3
          clear M2 hb3 a0 a1 a2 b0 b1 b2 c1
          have M4 := M3
          clear M3
          obtain ⟨a0, a1, a2, a3, a4, a5, a6, a7⟩ := box_cells M4.ba
          go_wp2_with fail
          refine (n1 _).mono ?_
          rintro e w5 ⟨rfl, hb5⟩
          have M5 := M4.over hb5
          clear M4 hb5 a0 a1 a2 a3 a4 a5 a6 a7 n1
          obtain ⟨-, -, -, a3, a4, a5, -, -⟩ := box_cells M5.ba
          obtain ⟨-, -, -, b3, b4, b5, -, -⟩ := box_cells M5.bb
          go_wp2_with fail
          refine (c2 _).mono ?_
          rintro e w6 ⟨rfl, hb6⟩
          have M6 := M5.over hb6
          clear M5 hb6 a3 a4 a5 b3 b4 b5 c2
          have M7 := M6
          clear M6
          obtain ⟨m0, m1, m2, m3, m4, m5, m6, m7⟩ := box_cells M7.bm
          have F1 := M7.br.setRow (za ⟨⟨ak, an, ax⟩, ⟨aK, aN, aX⟩, au + bu, ac + bc⟩)
          have hone := za_one ⟨⟨ak, an, ax⟩, ⟨aK, aN, aX⟩, au + bu, ac + bc⟩
          go_wp2_with (refine wpList_store_row rfl 34 _ _ rfl (w.heap.size + 1 + 1) (za ⟨⟨ak, an, ax⟩, ⟨aK, aN, aX⟩, au + bu, ac + bc⟩) rfl rfl 34 _ M7.br size_zone rfl hone ?_)
          rw [HE.out]
          exact bodyPost_ret (res_box Try.results16 _ rfl F1 Try.underlying34 rfl size_zone) rfl ⟨rfl, below_setRow M7.bel (by omega) _⟩
end Go.Proofs.Ytnnnkmgkijijdaa
