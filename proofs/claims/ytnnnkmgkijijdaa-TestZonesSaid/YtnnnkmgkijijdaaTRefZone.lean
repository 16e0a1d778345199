/-
  The contract of the document's Zone.
-/
import Derived.Test.YtnnnkmgkijijdaaTZoneAll
namespace Go.Proofs.Ytnnnkmgkijijdaa
open Go.RowKit

theorem zs_set3 {w w1 : World} {z : Zn} (h : Zs w w1 z) (c : Cl) : Zs w (w1.setCells (w.heap.size + 1) 0 [.int .i64 c.k, .int .i64 c.n, .string c.s]) ⟨c, z.mx, z.nu, z.ct⟩ ∧ Zs w (w1.setCells (w.heap.size + 1) 3 [.int .i64 c.k, .int .i64 c.n, .string c.s]) ⟨z.mn, c, z.nu, z.ct⟩ :=
  ⟨⟨h.br.other3 (by omega) _ _ _ _, h.bz.set3 0 _ _ _, below_set3 h.bel (by omega) _ _ _ _⟩, ⟨h.br.other3 (by omega) _ _ _ _, h.bz.set3 3 _ _ _, below_set3 h.bel (by omega) _ _ _ _⟩⟩
theorem zs_set6 {w w1 : World} {z : Zn} (h : Zs w w1 z) (x : Int) : Zs w (w1.setCell ⟨w.heap.size + 1, 6, none⟩ (.int .i64 x)) ⟨z.mn, z.mx, x, z.ct⟩ :=
  ⟨h.br.other (a := ⟨w.heap.size + 1, 6, none⟩) (by simp) _, h.bz.set 6 _, h.bel.setCell (p := ⟨w.heap.size + 1, 6, none⟩) (by simp) _⟩
section
variable {ops : Array Oper} {rest : List Oper} {o : Oper} {act : Act} {Q : Exit → Act → World → Prop} {w w1 : World} {z : Zn}
theorem zput_mn (M : Zs w w1 z) (c : Cl) (hgd : o.guard = none) (x y : Operand) (ho : o.op = .store 23 x y) (hx : act.eval x = .pointer (some ⟨w.heap.size + 1, 0, none⟩)) (hy : act.eval y = .agg (ca c))
    (h : ∀ w2, Hid (Zs w w2 ⟨c, z.mx, z.nu, z.ct⟩) → wpList Try.prog ops Q rest (act.put o.dst undef) w2) : wpList Try.prog ops Q (o :: rest) act w1 :=
  wpList_store_mid hgd 23 x y ho _ _ (ca c) hx hy (M.bz.there (by simp)) size_cell (ca_one c) (h _ (zs_set3 M c).1)
theorem zput_mx (M : Zs w w1 z) (c : Cl) (hgd : o.guard = none) (x y : Operand) (ho : o.op = .store 23 x y) (hx : act.eval x = .pointer (some ⟨w.heap.size + 1, 3, none⟩)) (hy : act.eval y = .agg (ca c))
    (h : ∀ w2, Hid (Zs w w2 ⟨z.mn, c, z.nu, z.ct⟩) → wpList Try.prog ops Q rest (act.put o.dst undef) w2) : wpList Try.prog ops Q (o :: rest) act w1 :=
  wpList_store_mid hgd 23 x y ho _ _ (ca c) hx hy (M.bz.there (by simp)) size_cell (ca_one c) (h _ (zs_set3 M c).2)
end
theorem zs_cells {w w1 : World} {z : Zn} (h : Zs w w1 z) : w1.cell? ⟨w.heap.size + 1, 0, none⟩ = some (.int .i64 z.mn.k) ∧ w1.cell? ⟨w.heap.size + 1, 1, none⟩ = some (.int .i64 z.mn.n) ∧ w1.cell? ⟨w.heap.size + 1, 2, none⟩ = some (.string z.mn.s) ∧ w1.cell? ⟨w.heap.size + 1, 3, none⟩ = some (.int .i64 z.mx.k) ∧ w1.cell? ⟨w.heap.size + 1, 4, none⟩ = some (.int .i64 z.mx.n) ∧ w1.cell? ⟨w.heap.size + 1, 5, none⟩ = some (.string z.mx.s) ∧ w1.cell? ⟨w.heap.size + 1, 6, none⟩ = some (.int .i64 z.nu) ∧ w1.cell? ⟨w.heap.size + 1, 7, none⟩ = some (.int .i64 z.ct) := box_cells h.bz

set_option maxRecDepth 4000 in
set_option maxHeartbeats 16000000 in
theorem refZone_any {w : World} {v : Value} {l : List Cl} (h : RowIs w v l) (hm : l.length ≤ 1000000) :
    Calls Try.prog 15 #[v] w fun e w' => (∃ z, e = .returned (zv z) ∧ IsZone l z) ∧ Below w.heap.size w w' := by
  obtain ⟨a, cap, rfl, h⟩ := h
  obtain ⟨n, hn⟩ : ∃ n, n = l.length := ⟨_, rfl⟩
  rw [← hn] at hm
  rw [← hn]
  have HN : Hid (n = l.length) := hn
  have HH : Hid (l ≠ [] → ∃ b off, a = some ⟨b, off, none⟩ ∧ b < w.heap.size ∧ ∀ i c, l[i]? = some c → CellAt w b (off + i * 3) c) := h
  clear hn h
  go_enter Try.func15, Try.ntmps15
  go_wp2_with fail
  go_loopg [4, 5] n (fun g s4 s5 wx => ∃ i : Nat, i + g = n ∧ s5 = .int .i64 i ∧ ∃ (z : Zn) (sb : Bool), s4 = .bool sb ∧ Hid (IsZone (l.take i) z) ∧ Hid (sb = true ↔ ¬ z.nu = z.ct) ∧ Hid (Zs w wx ⟨z.mn, z.mx, z.nu, n⟩))
  case atStart => exact ⟨0, by omega, rfl, z0, false, rfl, isZone_nil, (by simp [z0] : false = true ↔ ¬ z0.nu = z0.ct), zs_new w ⟨cl0, cl0, 0, n⟩⟩
  case round =>
    obtain ⟨i, hig, rfl, z, sb, rfl, HZ, HB, HS⟩ := hrel
    by_cases hi : i < n
    · have hiI : (i : Int) < (n : Int) := by omega
      have hrn := HN.out
      have hne : l ≠ [] := by rintro rfl; simp at hrn; omega
      obtain ⟨b, off, rfl, hb, hc⟩ := HH.out hne
      obtain ⟨c, hic⟩ : ∃ c, l[i]? = some c := ⟨_, List.getElem?_eq_getElem (by omega)⟩
      have HL : Hid (∀ W, Below w.heap.size w W → CellAt W b (off + i * 3) c) := fun W hW => (hc i c hic).below hb hW
      have hr2 : IntKind.i64.wrap ((i : Int) + 1) = (i : Int) + 1 := by rw [IntKind.wrap_i64]; omega
      have hzb := HZ.out.bd
      have hlt : (l.take i).length = i := by rw [List.length_take]; omega
      rw [hlt] at hzb
      have hz2 := isZone_more HZ.out c
      rw [← take_snoc hic] at hz2
      have hwn : IntKind.i64.wrap (z.nu + 1) = z.nu + 1 := by rw [IntKind.wrap_i64]; omega
      have x1 := HL.out wr HS.out.bel
      have p0 := x1.c0
      obtain ⟨zm, zM, zu, zc⟩ := z
      simp only at hwn
      have c1 : ∀ w, _ := fun w => refCompare_any c zm w
      have c2 : ∀ w, _ := fun w => refCompare_any c zM w
      clear hc hic x1 hne hrn hzb hlt
      by_cases hk : c.k = 0
      · have HZ2 : Hid (IsZone (l.take (i + 1)) ⟨zm, zM, zu + 1, zc + 1⟩) := by rw [more_null hk] at hz2; exact hz2
        have HB2 : Hid (sb = true ↔ ¬ zu + 1 = zc + 1) := by
          have := HB.out
          simp only at this
          unfold Hid
          rw [this]
          omega
        have HS2 : Hid (Zs w (wr.setCell ⟨w.heap.size + 1, 6, none⟩ (.int .i64 (zu + 1))) ⟨zm, zM, zu + 1, n⟩) := zs_set6 HS.out (zu + 1)
        obtain ⟨-, -, -, -, -, -, a6, -⟩ := zs_cells HS.out
        have f6 := HS.out.bz.frozen 6
        obtain ⟨ck, cn, cs⟩ := c
        simp only at hk
        subst hk
        clear hz2 c1 c2 HS HB HZ
        go_wp2_with fail
        go_roundg (n - (i + 1))
        case measure => clear hr2 hwn; omega
        case rel => exact ⟨i + 1, by clear hr2 hwn; omega, by go_num, _, sb, rfl, HZ2, HB2, HS2⟩
      · have hkb : (c.k == 0) = false := by simpa using hk
        rw [more_val hk] at hz2
        simp only at hz2
        have hw0 : zu + 0 = zu := by omega
        rw [hw0] at hz2
        have hnew : (0 : Int) ≤ zu ∧ zu ≤ zc := by have h1 := HZ.out.bd; simp only at h1; omega
        have HB2 : Hid (¬ zu = zc + 1) := by unfold Hid; omega
        cases sb with
        | false =>
          have hzz : zu = zc := by
            have := HB.out
            simp only at this
            apply Classical.byContradiction
            intro e
            have := this.2 e
            simp at this
          rw [if_pos (.inl hzz), if_pos (.inl hzz)] at hz2
          have HZ2 : Hid _ := hz2
          clear hz2 hzz hw0 hnew hk HZ HB hwn
          obtain ⟨ck, cn, cs⟩ := c
          obtain ⟨zmk, zmn, zms⟩ := zm
          obtain ⟨zMk, zMn, zMs⟩ := zM
          simp only at hkb
          clear c1 c2
          have HQ : ∀ q : Above wr, CellAt q.it b (off + i * 3) ⟨ck, cn, cs⟩ ∧ Zs w q.it _ := fun q => ⟨HL.out _ (HS.out.bel.trans (q.is.mono HS.out.bel.size)), HS.out.over q.is⟩
          have q0 := fun q => (HQ q).1.c0
          have q1 := fun q => (HQ q).1.c1
          have q2 := fun q => (HQ q).1.c2
          have r0 := fun q => (zs_cells (HQ q).2).1
          have r1 := fun q => (zs_cells (HQ q).2).2.1
          have r2 := fun q => (zs_cells (HQ q).2).2.2.1
          have HQQ : Hid _ := HQ
          clear HQ
          go_wp2_with fail
          refine wp_region_above (by kernel_rfl) (by kernel_rfl) ?_
          intro hne
          repeat (go_big_quiet_step (fail))
          refine wpQuiet_nil ?_
          rintro _ ⟨kq, rfl⟩
          obtain ⟨X1, S1⟩ := HQQ.out kq
          have S1 : Hid _ := S1
          clear HQQ q0 q1 q2 r0 r1 r2 HS p0
          have e0 := X1.c0
          have e1 := X1.c1
          have e2 := X1.c2
          clear X1
          go_wp2_with (refine zput_mn S1.out ⟨ck, cn, cs⟩ rfl _ _ rfl rfl rfl ?_; intro w2 S2; clear S1 e0 e1 e2)
          have HQ : ∀ q : Above w2, CellAt q.it b (off + i * 3) ⟨ck, cn, cs⟩ ∧ Zs w q.it _ := fun q => ⟨HL.out _ (S2.out.bel.trans (q.is.mono S2.out.bel.size)), S2.out.over q.is⟩
          have q0 := fun q => (HQ q).1.c0
          have q1 := fun q => (HQ q).1.c1
          have q2 := fun q => (HQ q).1.c2
          have r0 := fun q => (zs_cells (HQ q).2).2.2.2.1
          have r1 := fun q => (zs_cells (HQ q).2).2.2.2.2.1
          have r2 := fun q => (zs_cells (HQ q).2).2.2.2.2.2.1
          have HQQ : Hid _ := HQ
          clear HQ
          refine wp_region_above (by kernel_rfl) (by kernel_rfl) ?_
          intro hne
          repeat (go_big_quiet_step (fail))
          refine wpQuiet_nil ?_
          rintro _ ⟨kp, rfl⟩
          obtain ⟨X3, S3⟩ := HQQ.out kp
          have S3 : Hid _ := S3
          clear HQQ q0 q1 q2 r0 r1 r2 S2
          have e0 := X3.c0
          have e1 := X3.c1
          have e2 := X3.c2
          clear X3
          go_wp2_with (refine zput_mx S3.out ⟨ck, cn, cs⟩ rfl _ _ rfl rfl rfl ?_; intro w4 S4; clear S3 e0 e1 e2)
          go_roundg (n - (i + 1))
          case measure => clear hr2; omega
          case rel => exact ⟨i + 1, by clear hr2; omega, by go_num, _, true, rfl, HZ2, (⟨fun _ => HB2.out, fun _ => rfl⟩ : true = true ↔ ¬ zu = zc + 1), S4⟩
        | true =>
          have hzz : ¬ zu = zc := by have := HB.out; simpa using this
          obtain ⟨x, hx⟩ : ∃ x, x = cmpC c zm := ⟨_, rfl⟩
          obtain ⟨y, hy⟩ : ∃ y, y = cmpC c zM := ⟨_, rfl⟩
          rw [← hx] at c1 hz2
          rw [← hy] at c2 hz2
          simp only [hzz, false_or] at hz2
          clear hx hy hzz hw0 hnew hk HZ HB hwn
          by_cases hx : x < 0
          · by_cases hy : 0 < y
            · rw [if_pos hx, if_pos hy] at hz2
              have HZ2 : Hid _ := hz2
              clear hz2
              obtain ⟨ck, cn, cs⟩ := c
              obtain ⟨zmk, zmn, zms⟩ := zm
              obtain ⟨zMk, zMn, zMs⟩ := zM
              simp only at hkb c1 c2
              have HQ : ∀ q : Above wr, CellAt q.it b (off + i * 3) ⟨ck, cn, cs⟩ ∧ Zs w q.it _ := fun q => ⟨HL.out _ (HS.out.bel.trans (q.is.mono HS.out.bel.size)), HS.out.over q.is⟩
              have q0 := fun q => (HQ q).1.c0
              have q1 := fun q => (HQ q).1.c1
              have q2 := fun q => (HQ q).1.c2
              have r0 := fun q => (zs_cells (HQ q).2).1
              have r1 := fun q => (zs_cells (HQ q).2).2.1
              have r2 := fun q => (zs_cells (HQ q).2).2.2.1
              have HQQ : Hid _ := HQ
              clear HQ
              go_wp2_with fail
              refine wp_region_above (by kernel_rfl) (by kernel_rfl) ?_
              intro hne
              repeat (go_big_quiet_step ((go_at_call 28; exact above_of (c1 _))))
              refine wpQuiet_nil ?_
              rintro _ ⟨kq, rfl⟩
              obtain ⟨X1, S1⟩ := HQQ.out kq
              have S1 : Hid _ := S1
              clear HQQ q0 q1 q2 r0 r1 r2 HS p0
              have e0 := X1.c0
              have e1 := X1.c1
              have e2 := X1.c2
              clear X1
              go_wp2_with (refine zput_mn S1.out ⟨ck, cn, cs⟩ rfl _ _ rfl rfl rfl ?_; intro w2 S2; clear S1 e0 e1 e2)
              have HQ : ∀ q : Above w2, CellAt q.it b (off + i * 3) ⟨ck, cn, cs⟩ ∧ Zs w q.it _ := fun q => ⟨HL.out _ (S2.out.bel.trans (q.is.mono S2.out.bel.size)), S2.out.over q.is⟩
              have q0 := fun q => (HQ q).1.c0
              have q1 := fun q => (HQ q).1.c1
              have q2 := fun q => (HQ q).1.c2
              have r0 := fun q => (zs_cells (HQ q).2).2.2.2.1
              have r1 := fun q => (zs_cells (HQ q).2).2.2.2.2.1
              have r2 := fun q => (zs_cells (HQ q).2).2.2.2.2.2.1
              have HQQ : Hid _ := HQ
              clear HQ
              refine wp_region_above (by kernel_rfl) (by kernel_rfl) ?_
              intro hne
              repeat (go_big_quiet_step ((go_at_call 28; exact above_of (c2 _))))
              refine wpQuiet_nil ?_
              rintro _ ⟨kp, rfl⟩
              obtain ⟨X3, S3⟩ := HQQ.out kp
              have S3 : Hid _ := S3
              clear HQQ q0 q1 q2 r0 r1 r2 S2
              have e0 := X3.c0
              have e1 := X3.c1
              have e2 := X3.c2
              clear X3
              go_wp2_with (refine zput_mx S3.out ⟨ck, cn, cs⟩ rfl _ _ rfl rfl rfl ?_; intro w4 S4; clear S3 e0 e1 e2)
              go_roundg (n - (i + 1))
              case measure => clear hr2; omega
              case rel => exact ⟨i + 1, by clear hr2; omega, by go_num, _, true, rfl, HZ2, (⟨fun _ => HB2.out, fun _ => rfl⟩ : true = true ↔ ¬ zu = zc + 1), S4⟩
            · rw [if_pos hx, if_neg hy] at hz2
              have HZ2 : Hid _ := hz2
              clear hz2
              obtain ⟨ck, cn, cs⟩ := c
              obtain ⟨zmk, zmn, zms⟩ := zm
              obtain ⟨zMk, zMn, zMs⟩ := zM
              simp only at hkb c1 c2
              have HQ : ∀ q : Above wr, CellAt q.it b (off + i * 3) ⟨ck, cn, cs⟩ ∧ Zs w q.it _ := fun q => ⟨HL.out _ (HS.out.bel.trans (q.is.mono HS.out.bel.size)), HS.out.over q.is⟩
              have q0 := fun q => (HQ q).1.c0
              have q1 := fun q => (HQ q).1.c1
              have q2 := fun q => (HQ q).1.c2
              have r0 := fun q => (zs_cells (HQ q).2).1
              have r1 := fun q => (zs_cells (HQ q).2).2.1
              have r2 := fun q => (zs_cells (HQ q).2).2.2.1
              have HQQ : Hid _ := HQ
              clear HQ
              go_wp2_with fail
              refine wp_region_above (by kernel_rfl) (by kernel_rfl) ?_
              intro hne
              repeat (go_big_quiet_step ((go_at_call 28; exact above_of (c1 _))))
              refine wpQuiet_nil ?_
              rintro _ ⟨kq, rfl⟩
              obtain ⟨X1, S1⟩ := HQQ.out kq
              have S1 : Hid _ := S1
              clear HQQ q0 q1 q2 r0 r1 r2 HS p0
              have e0 := X1.c0
              have e1 := X1.c1
              have e2 := X1.c2
              clear X1
              go_wp2_with (refine zput_mn S1.out ⟨ck, cn, cs⟩ rfl _ _ rfl rfl rfl ?_; intro w2 S2; clear S1 e0 e1 e2)
              have HQ : ∀ q : Above w2, CellAt q.it b (off + i * 3) ⟨ck, cn, cs⟩ ∧ Zs w q.it _ := fun q => ⟨HL.out _ (S2.out.bel.trans (q.is.mono S2.out.bel.size)), S2.out.over q.is⟩
              have q0 := fun q => (HQ q).1.c0
              have q1 := fun q => (HQ q).1.c1
              have q2 := fun q => (HQ q).1.c2
              have r0 := fun q => (zs_cells (HQ q).2).2.2.2.1
              have r1 := fun q => (zs_cells (HQ q).2).2.2.2.2.1
              have r2 := fun q => (zs_cells (HQ q).2).2.2.2.2.2.1
              have HQQ : Hid _ := HQ
              clear HQ
              refine wp_region_above (by kernel_rfl) (by kernel_rfl) ?_
              intro hne
              repeat (go_big_quiet_step ((go_at_call 28; exact above_of (c2 _))))
              refine wpQuiet_nil ?_
              rintro _ ⟨kp, rfl⟩
              obtain ⟨X3, S3⟩ := HQQ.out kp
              have S3 : Hid _ := S3
              clear HQQ q0 q1 q2 r0 r1 r2 S2
              have S4 := S3
              clear S3 X3
              go_wp2_with fail
              go_roundg (n - (i + 1))
              case measure => clear hr2; omega
              case rel => exact ⟨i + 1, by clear hr2; omega, by go_num, _, true, rfl, HZ2, (⟨fun _ => HB2.out, fun _ => rfl⟩ : true = true ↔ ¬ zu = zc + 1), S4⟩
          · by_cases hy : 0 < y
            · rw [if_neg hx, if_pos hy] at hz2
              have HZ2 : Hid _ := hz2
              clear hz2
              obtain ⟨ck, cn, cs⟩ := c
              obtain ⟨zmk, zmn, zms⟩ := zm
              obtain ⟨zMk, zMn, zMs⟩ := zM
              simp only at hkb c1 c2
              have HQ : ∀ q : Above wr, CellAt q.it b (off + i * 3) ⟨ck, cn, cs⟩ ∧ Zs w q.it _ := fun q => ⟨HL.out _ (HS.out.bel.trans (q.is.mono HS.out.bel.size)), HS.out.over q.is⟩
              have q0 := fun q => (HQ q).1.c0
              have q1 := fun q => (HQ q).1.c1
              have q2 := fun q => (HQ q).1.c2
              have r0 := fun q => (zs_cells (HQ q).2).1
              have r1 := fun q => (zs_cells (HQ q).2).2.1
              have r2 := fun q => (zs_cells (HQ q).2).2.2.1
              have HQQ : Hid _ := HQ
              clear HQ
              go_wp2_with fail
              refine wp_region_above (by kernel_rfl) (by kernel_rfl) ?_
              intro hne
              repeat (go_big_quiet_step ((go_at_call 28; exact above_of (c1 _))))
              refine wpQuiet_nil ?_
              rintro _ ⟨kq, rfl⟩
              obtain ⟨X1, S1⟩ := HQQ.out kq
              have S1 : Hid _ := S1
              clear HQQ q0 q1 q2 r0 r1 r2 HS p0
              have S2 := S1
              clear S1 X1
              go_wp2_with fail
              have HQ : ∀ q : Above kq.it, CellAt q.it b (off + i * 3) ⟨ck, cn, cs⟩ ∧ Zs w q.it _ := fun q => ⟨HL.out _ (S2.out.bel.trans (q.is.mono S2.out.bel.size)), S2.out.over q.is⟩
              have q0 := fun q => (HQ q).1.c0
              have q1 := fun q => (HQ q).1.c1
              have q2 := fun q => (HQ q).1.c2
              have r0 := fun q => (zs_cells (HQ q).2).2.2.2.1
              have r1 := fun q => (zs_cells (HQ q).2).2.2.2.2.1
              have r2 := fun q => (zs_cells (HQ q).2).2.2.2.2.2.1
              have HQQ : Hid _ := HQ
              clear HQ
              refine wp_region_above (by kernel_rfl) (by kernel_rfl) ?_
              intro hne
              repeat (go_big_quiet_step ((go_at_call 28; exact above_of (c2 _))))
              refine wpQuiet_nil ?_
              rintro _ ⟨kp, rfl⟩
              obtain ⟨X3, S3⟩ := HQQ.out kp
              have S3 : Hid _ := S3
              clear HQQ q0 q1 q2 r0 r1 r2 S2
              have e0 := X3.c0
              have e1 := X3.c1
              have e2 := X3.c2
              clear X3
              go_wp2_with (refine zput_mx S3.out ⟨ck, cn, cs⟩ rfl _ _ rfl rfl rfl ?_; intro w4 S4; clear S3 e0 e1 e2)
              go_roundg (n - (i + 1))
              case measure => clear hr2; omega
              case rel => exact ⟨i + 1, by clear hr2; omega, by go_num, _, true, rfl, HZ2, (⟨fun _ => HB2.out, fun _ => rfl⟩ : true = true ↔ ¬ zu = zc + 1), S4⟩
            · rw [if_neg hx, if_neg hy] at hz2
              have HZ2 : Hid _ := hz2
              clear hz2
              obtain ⟨ck, cn, cs⟩ := c
              obtain ⟨zmk, zmn, zms⟩ := zm
              obtain ⟨zMk, zMn, zMs⟩ := zM
              simp only at hkb c1 c2
              have HQ : ∀ q : Above wr, CellAt q.it b (off + i * 3) ⟨ck, cn, cs⟩ ∧ Zs w q.it _ := fun q => ⟨HL.out _ (HS.out.bel.trans (q.is.mono HS.out.bel.size)), HS.out.over q.is⟩
              have q0 := fun q => (HQ q).1.c0
              have q1 := fun q => (HQ q).1.c1
              have q2 := fun q => (HQ q).1.c2
              have r0 := fun q => (zs_cells (HQ q).2).1
              have r1 := fun q => (zs_cells (HQ q).2).2.1
              have r2 := fun q => (zs_cells (HQ q).2).2.2.1
              have HQQ : Hid _ := HQ
              clear HQ
              go_wp2_with fail
              refine wp_region_above (by kernel_rfl) (by kernel_rfl) ?_
              intro hne
              repeat (go_big_quiet_step ((go_at_call 28; exact above_of (c1 _))))
              refine wpQuiet_nil ?_
              rintro _ ⟨kq, rfl⟩
              obtain ⟨X1, S1⟩ := HQQ.out kq
              have S1 : Hid _ := S1
              clear HQQ q0 q1 q2 r0 r1 r2 HS p0
              have S2 := S1
              clear S1 X1
              go_wp2_with fail
              have HQ : ∀ q : Above kq.it, CellAt q.it b (off + i * 3) ⟨ck, cn, cs⟩ ∧ Zs w q.it _ := fun q => ⟨HL.out _ (S2.out.bel.trans (q.is.mono S2.out.bel.size)), S2.out.over q.is⟩
              have q0 := fun q => (HQ q).1.c0
              have q1 := fun q => (HQ q).1.c1
              have q2 := fun q => (HQ q).1.c2
              have r0 := fun q => (zs_cells (HQ q).2).2.2.2.1
              have r1 := fun q => (zs_cells (HQ q).2).2.2.2.2.1
              have r2 := fun q => (zs_cells (HQ q).2).2.2.2.2.2.1
              have HQQ : Hid _ := HQ
              clear HQ
              refine wp_region_above (by kernel_rfl) (by kernel_rfl) ?_
              intro hne
              repeat (go_big_quiet_step ((go_at_call 28; exact above_of (c2 _))))
              refine wpQuiet_nil ?_
              rintro _ ⟨kp, rfl⟩
              obtain ⟨X3, S3⟩ := HQQ.out kp
              have S3 : Hid _ := S3
              clear HQQ q0 q1 q2 r0 r1 r2 S2
              have S4 := S3
              clear S3 X3
              go_wp2_with fail
              go_roundg (n - (i + 1))
              case measure => clear hr2; omega
              case rel => exact ⟨i + 1, by clear hr2; omega, by go_num, _, true, rfl, HZ2, (⟨fun _ => HB2.out, fun _ => rfl⟩ : true = true ↔ ¬ zu = zc + 1), S4⟩
    · have hiI : ¬ (i : Int) < (n : Int) := by omega
      obtain rfl : i = n := by omega
      obtain ⟨m0, m1, m2, m3, m4, m5, m6, m7⟩ := zs_cells HS.out
      have F1 := HS.out.br.setRow (za ⟨z.mn, z.mx, z.nu, i⟩)
      have hone := za_one ⟨z.mn, z.mx, z.nu, i⟩
      go_wp2_with (refine wpList_store_row rfl 34 _ _ rfl w.heap.size (za ⟨z.mn, z.mx, z.nu, i⟩) rfl rfl 34 _ HS.out.br size_zone rfl hone ?_)
      have hrn := HN.out
      refine bodyPost_ret (res_box Try.results15 _ rfl F1 Try.underlying34 rfl size_zone) rfl ⟨⟨⟨z.mn, z.mx, z.nu, i⟩, rfl, ?_⟩, below_setRow HS.out.bel (by omega) _⟩
      have hz := HZ.out
      rw [List.take_of_length_le (by omega)] at hz
      have e := hz.ct
      obtain ⟨zm, zM, zu, zc⟩ := z
      simp only at e ⊢
      rw [hrn]
      rw [e] at hz
      exact hz
end Go.Proofs.Ytnnnkmgkijijdaa
