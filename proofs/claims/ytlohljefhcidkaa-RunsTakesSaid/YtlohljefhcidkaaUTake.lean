/-
  The contract of package runs' Take: the runs of bytes.
-/
import Derived.Test.YtlohljefhcidkaaUTk
import Derived.Test.YtlohljefhcidkaaLast
namespace Go.Proofs.Ytlohljefhcidkaa
open Go.RowKit

/-- What Take answers where n may be. -/
def TookR (w : World) (s : List UInt8) (n : Int) (e : Ending) (w' : World) : Prop :=
  Below w.heap.size w w' ∧ ((∃ rs v, e = .returned (.tuple #[v, .int .i64 0]) ∧ RunsIs w' v rs ∧ IsRuns s n rs) ∨ (e = .returned (.tuple #[.slice none 0 0, .int .i64 20]) ∧ ¬ ∃ rs, IsRuns s n rs))
theorem tookR_no {w w' : World} {s : List UInt8} {n : Int} (h : ¬ ∃ rs, IsRuns s n rs) (hb : Below w.heap.size w w') : TookR w s n (.returned (.tuple #[.slice none 0 0, .int .i64 20])) w' := ⟨hb, .inr ⟨rfl, h⟩⟩
/-- 'append(v, u...)' of rows, as it runs. -/
theorem exec_append {P : Program} {o : Oper} {ev : Operand → Value} {w : World} (s x : Operand) (T e : TypeId) (i : TypeInfo) (z : Value) (sz bytes : Nat) (ho : o.op = .call { callee := .builtin .append, args := #[s, x], argTypes := #[T, T] })
    (hT : P.underlying T = some (.slice e)) (hi : P.info? e = some i) (hz : i.zero = some z) (hsize : i.size = sz) (hby : i.bytes = bytes) (hzs : z.cells.size = sz) (hsz : 0 < sz) (hbl : bytes ≤ 200)
    {B : Nat} {v : Value} {g m2 c2 : Nat} {R1 R2 : List (List Value)} (hs : ev s = v) (hx : ev x = .slice (some ⟨g, 0, none⟩) m2 c2) (hv : SRows w v e sz R1) (hu : SRows w (.slice (some ⟨g, 0, none⟩) m2 c2) e sz R2) (hm2 : R2.length = m2) (hvB : ∀ k, v.ownBlock = some k → B ≤ k) (hB : B ≤ w.heap.size)
    (h1 : ∀ r ∈ R2, ∀ c ∈ r, c.oneCell' = true) (hl : R1.length + m2 ≤ 1000000) :
    ∃ va vc w', (execOp ev o).run P w = .ok (.value (.slice va (R1.length + m2) vc)) w' ∧ SRows w' (.slice va (R1.length + m2) vc) e sz (R1 ++ R2) ∧ (∀ k, (Value.slice va (R1.length + m2) vc).ownBlock = some k → B ≤ k) ∧ Below B w w' := by
  subst hm2
  have hown := srows_own_base hv hsz hvB
  have hlens : ∀ r ∈ R1 ++ R2, r.length = sz := fun r hr => by
    rcases List.mem_append.1 hr with hr | hr
    · exact hv.rowlen r hr
    · exact hu.rowlen r hr
  have hnews : ∀ (j : Nat) u, R2.flatten[j]? = some u → w.cell? ((⟨g, 0, none⟩ : Addr).add j) = some u := (hu.own hsz).cells rfl
  have hone : ∀ u ∈ R2.flatten, u.oneCell' = true := by
    intro u hu
    obtain ⟨r, hr, hur⟩ := List.mem_flatten.1 hu
    exact h1 r hr u hur
  have h63 : R1.length + R2.length ≤ maxLen := by unfold maxLen; omega
  have hbytes : (R1.length + R2.length) * bytes ≤ 140737488355328 := by
    have : (R1.length + R2.length) * bytes ≤ 1000000 * 200 := Nat.mul_le_mul hl hbl
    omega
  obtain ⟨v', w', hr, hown', hgrow, _⟩ := run_append_own (P := P) w B T o.type e i z sz bytes hT hi hz hsize hby hzs hsz _ R1.length R1.flatten hown ⟨g, 0, none⟩ R2.length c2 R2.flatten (length_flat R2 hu.rowlen) hnews hone h63 hbytes hB
  obtain ⟨⟨va, vc, rfl⟩, hvb⟩ := own_shape hown'
  refine ⟨va, vc, w', ?_, srows_of_own hown' (by rw [List.flatten_append]) hlens hsz (by simp), hvb, (Below.refl B w).grown hgrow hB fun k hk => hvB k hk⟩
  unfold execOp
  simp only [ho, resolve, invoke, builtin, Sem.run_bind, Sem.run_pure, Result.andThen_ok, List.map_toArray, List.map_cons, List.map_nil, hs, hx, hr]

/-- The same in a held region, where it alone may come up. -/
theorem appendL {P : Program} {l : List Oper} {zl : Oper} {Q : Exit → Act → World → Prop} {S : World → Prop} (k : Nat) {oi : Oper} {fuel : Nat} {listed : Array Bool} {a : Act} {w : World} (hi : l[k]? = some oi) (hr : Region.ready .any l.toArray listed = [k])
    (hw : Region.wanted oi (yielded l.toArray a.tmps) = true) (s x : Operand) (T e : TypeId) (i : TypeInfo) (z : Value) (sz bytes : Nat) (ho : oi.op = .call { callee := .builtin .append, args := #[s, x], argTypes := #[T, T] })
    (hT : P.underlying T = some (.slice e)) (hi' : P.info? e = some i) (hz : i.zero = some z) (hsize : i.size = sz) (hby : i.bytes = bytes) (hzs : z.cells.size = sz) (hsz : 0 < sz) (hbl : bytes ≤ 200)
    {B : Nat} {v : Value} {g m2 c2 : Nat} {R1 R2 : List (List Value)} (hs : a.eval s = v) (hx : a.eval x = .slice (some ⟨g, 0, none⟩) m2 c2) (hv : SRows w v e sz R1) (hu : SRows w (.slice (some ⟨g, 0, none⟩) m2 c2) e sz R2) (hm2 : R2.length = m2) (hvB : ∀ k, v.ownBlock = some k → B ≤ k) (hB : B ≤ w.heap.size)
    (h1 : ∀ r ∈ R2, ∀ c ∈ r, c.oneCell' = true) (m : Nat) (hm : R1.length + m2 = m) (R : List (List Value)) (hR : R1 ++ R2 = R) (hl : m ≤ 1000000) (hS : ∀ w', S w')
    (h : ∀ va vc w', SRows w' (.slice va m vc) e sz R → (∀ k, (Value.slice va m vc).ownBlock = some k → B ≤ k) → Below B w w' → wpAnyH P .any l.toArray (Then P zl Q) S fuel (listed.setIfInBounds k true) (a.put oi.dst (.slice va m vc)) w') : wpAnyH P .any l.toArray (Then P zl Q) S (fuel + 1) listed a w := by
  subst hm hR
  obtain ⟨va, vc, w', g1, g2, g3, g4⟩ := exec_append (P := P) (o := oi) (ev := a.eval) s x T e i z sz bytes ho hT hi' hz hsize hby hzs hsz hbl hs hx hv hu hm2 hvB hB h1 hl
  exact newL k w' _ hi hr hw g1 (hS w') (h va vc w' g2 g3 g4)

set_option maxRecDepth 4000 in
set_option maxHeartbeats 4000000 in
theorem take_bad (s : ByteArray) (n : Int) (h : n < 0 ∨ 65536 < n) (w : World) :
    Calls Try.prog 18 #[.string s, .int .i64 n] w fun e w' => e = .returned (.tuple #[.slice none 0 0, .int .i64 1]) ∧ Below w.heap.size w w' := by
  by_cases h1 : n < 0
  · clear h
    go_enter Try.func18, Try.ntmps18
    go_wp2
    go_ret2
    exact ⟨rfl, Below.refl _ _⟩
  · have h2 : 65536 < n := by omega
    clear h
    go_enter Try.func18, Try.ntmps18
    go_wp2
    go_ret2
    exact ⟨rfl, Below.refl _ _⟩

set_option maxRecDepth 4000 in
set_option maxHeartbeats 4000000 in
theorem takeRuns_any (s : ByteArray) (hs : s.size ≤ 1000000) (n : Int) (h0 : 0 ≤ n) (h1 : n ≤ 65536) (w : World) :
    Calls Try.prog 18 #[.string s, .int .i64 n] w (TookR w s.data.toList n) := by
  obtain ⟨S, hS⟩ : ∃ S, S = s.data.toList := ⟨_, rfl⟩
  rw [← hS]
  obtain ⟨i0, hi0, hz0, hz1, hz2⟩ := info_parts info_run
  have HI : Hid (Try.prog.info? 35 = some i0 ∧ i0.zero = some (.agg #[.int .i64 0, .int .i64 0, .int .i64 0]) ∧ i0.size = 3 ∧ i0.bytes = 24) := ⟨hi0, hz0, hz1, hz2⟩
  have HS : Hid (S = s.data.toList) := hS
  have HZ : Hid (s.size ≤ 1000000) := hs
  clear hi0 hz0 hz1 hz2 hS hs
  go_enter Try.func18, Try.ntmps18
  go_wp2_with fail
  go_loopg [0, 6] s.size (fun gg s0 s6 wx => ∃ (t : ByteArray) (p : List Rn), s0 = .string t ∧ t.size ≤ gg ∧ Hid (t.size ≤ 1000000 ∧ May p ∧ S = encR p ++ t.data.toList) ∧ Hid (SRows wx s6 35 3 (p.map rc) ∧ ∀ x, s6.ownBlock = some x → w.heap.size ≤ x) ∧ Hid (Below w.heap.size w wx))
  case atStart => exact ⟨s, [], rfl, Nat.le_refl _, ⟨HZ.out, may_nil, by simpa [encR] using HS.out⟩, ⟨srows_nil _ _ _, noOwn _⟩, Below.refl _ _⟩
  case round =>
    obtain ⟨t, p, rfl, htg, HP, HR, HB⟩ := hrel
    clear HZ HS
    obtain ⟨a6, c6, h6⟩ := srows_slice HR.out.1
    rw [List.length_map] at h6
    subst h6
    obtain ⟨E, hE⟩ : ∃ E, E = endR p := ⟨_, rfl⟩
    have HE : Hid (E = endR p) := hE
    have hce : ∀ W, Below wr.heap.size wr W → Calls Try.prog 21 #[.slice a6 p.length c6] W fun e w' => e = .returned (.int .i64 E) ∧ Below W.heap.size W w' := fun W hW => by
      rw [hE]; exact end_any ((runs_of_srows HR.out.1).below hW) HP.out.2.1.chain
    have hEb := end_bd HP.out.2.1.chain
    rw [← hE] at hEb
    clear hE
    cases he : t.toList.isEmpty with
    | true =>
      have HT : Hid (S = encR p) := by
        rw [List.isEmpty_iff, ByteArray.toList_eq] at he
        have := HP.out.2.2
        rw [he, List.append_nil] at this
        exact this
      clear hEb
      go_wp2_with fail
      refine (hce _ (Below.refl _ _)).mono ?_
      rintro e w1 ⟨rfl, hb1⟩
      have HB1 : Hid (Below w.heap.size w w1 ∧ Below wr.heap.size wr w1) := ⟨HB.out.trans (hb1.mono HB.out.size), hb1⟩
      clear hb1 hce
      by_cases hen : E = n
      · have B1 : (E == n) = true := by simpa using hen
        have HY : Hid (IsRuns S n p) := ⟨HP.out.2.1, HT.out.symm, by rw [← HE.out]; exact hen⟩
        subst hen
        go_wp2_with fail
        go_ret2
        exact ⟨HB1.out.1, .inl ⟨p, _, rfl, (runs_of_srows HR.out.1).below HB1.out.2, HY.out⟩⟩
      · have B1 : (E == n) = false := by simpa using hen
        have B2 : (E != n) = true := by simpa using hen
        have HN : Hid (¬ ∃ rs, IsRuns S n rs) := fun ⟨R, hR⟩ => by
          have := hR.same HP.out.2.1.chain HT.out
          subst this
          exact hen (by rw [HE.out]; exact hR.all)
        clear hen
        go_wp2_with fail
        go_ret2
        exact tookR_no HN.out HB1.out.1
    | false =>
      have hne : t.data.toList ≠ [] := by
        intro e
        rw [ByteArray.toList_eq, e] at he
        simp at he
      by_cases htw : Two t.data.toList
      · obtain ⟨x, y, q, hq⟩ := htw
        have hty := takeRun_yes t HP.out.1 hq
        have hbx := enc1_bd x
        have hby := enc1_bd y
        have hts : t.size = t.data.toList.length := Lib.size_eq t
        rw [hq, List.length_append, List.length_append] at hts
        have HQ : Hid (t.data.toList = enc1 x ++ (enc1 y ++ q) ∧ (t.extract ((enc1 x).length + (enc1 y).length) t.size).data.toList = q ∧ ∀ z : Int, z = y.toInt → BitVec.ofInt 64 z = y) := ⟨hq, by rw [extract_end, hq, ← List.append_assoc, ← List.length_append, List.drop_left], fun z hz => by rw [hz, BitVec.ofInt_toInt]⟩
        obtain ⟨fb, hfb⟩ : ∃ fb : Bool, fb = true ↔ Fol p ⟨x, E, y.toInt⟩ := by
          by_cases hf : Fol p ⟨x, E, y.toInt⟩
          · exact ⟨true, by simp [hf]⟩
          · exact ⟨false, by simp [hf]⟩
        have HF : Hid (∀ W, Below wr.heap.size wr W → Calls Try.prog 28 #[.slice a6 p.length c6, .agg #[.int .i64 x.toInt, .int .i64 E, .int .i64 y.toInt]] W fun e w' => e = .returned (.bool fb) ∧ Below W.heap.size W w') := fun W hW =>
          follows_any ((runs_of_srows HR.out.1).below hW) HP.out.2.1.chain ⟨x, E, y.toInt⟩ fb hfb
        have HFB : Hid (fb = true ↔ Fol p ⟨x, E, y.toInt⟩) := hfb
        have HNE : Hid (t.data.toList ≠ []) := hne
        obtain ⟨L, hL⟩ : ∃ L, L = (enc1 x).length + (enc1 y).length := ⟨_, rfl⟩
        rw [← hL] at hty HQ
        have hL1 : 2 ≤ L ∧ L ≤ t.size := by omega
        have hu1 : (0 : Int) ≤ (L : Int) ∧ (L : Int) ≤ (t.size : Int) := by omega
        have hu2 : (L : Int) ≤ (t.size : Int) := by omega
        have HX : Hid (∃ z : Int, z = x.toInt) := ⟨_, rfl⟩
        obtain ⟨zx, hzx⟩ : ∃ z, z = x.toInt := ⟨_, rfl⟩
        obtain ⟨zy, hzy⟩ : ∃ z, z = y.toInt := ⟨_, rfl⟩
        rw [← hzx, ← hzy] at hty HF
        have HXY : Hid (zx = x.toInt ∧ zy = y.toInt) := ⟨hzx, hzy⟩
        clear hne hq hbx hby hts hfb hL hzx hzy HX
        go_wp2_with fail
        refine (hty _).mono ?_
        rintro e w1 ⟨rfl, hb1⟩
        have HB1 : Hid (Below wr.heap.size wr w1) := hb1
        clear hb1 hty
        go_wp2_with fail
        generalize hW : w1.alloc (.cells #[.int .i64 zx, .int .i64 0, .int .i64 zy] 35) = W
        have HW : Hid (Below wr.heap.size wr W ∧ Box W w1.heap.size 35 #[.int .i64 zx, .int .i64 0, .int .i64 zy] ∧ wr.heap.size ≤ w1.heap.size) := by
          unfold Hid
          rw [← hW]
          exact ⟨HB1.out.trans ((below1 _ _).mono HB1.out.size), box_new _ _ _, HB1.out.size⟩
        clear hW HB1
        generalize w1.heap.size = g at *
        refine (hce W HW.out.1).mono ?_
        rintro e w3 ⟨rfl, hb3⟩
        have HX : Hid (Below wr.heap.size wr w3 ∧ Box w3 g 35 #[.int .i64 zx, .int .i64 0, .int .i64 zy] ∧ wr.heap.size ≤ g) := ⟨HW.out.1.trans (hb3.mono HW.out.1.size), HW.out.2.1.over hb3, HW.out.2.2⟩
        have x1 := HX.out.2.1.cell 1 _ rfl
        have x2 := HX.out.2.1.frozen 1
        have x0 := HX.out.2.1.cell 0 _ rfl
        have x4 := HX.out.2.1.cell 2 _ rfl
        have hglt := HX.out.2.1.lt
        clear hb3 HW hce
        go_wp2_with fail
        clear x0 x1 x2 x4
        generalize hW4 : w3.setCell ⟨g, 1, none⟩ (.int .i64 E) = W4
        have HW4 : Hid (Below wr.heap.size wr W4 ∧ Box W4 g 35 #[.int .i64 zx, .int .i64 E, .int .i64 zy] ∧ wr.heap.size ≤ g) := by
          unfold Hid
          rw [← hW4]
          exact ⟨HX.out.1.setCell HX.out.2.2 _, HX.out.2.1.set 1 _, HX.out.2.2⟩
        clear hW4 HX
        refine (HF.out W4 HW4.out.1).mono ?_
        rintro e w5 ⟨rfl, hb5⟩
        have HX : Hid (Below wr.heap.size wr w5 ∧ Box w5 g 35 #[.int .i64 zx, .int .i64 E, .int .i64 zy] ∧ wr.heap.size ≤ g) := ⟨HW4.out.1.trans (hb5.mono HW4.out.1.size), HW4.out.2.1.over hb5, HW4.out.2.2⟩
        clear hb5 HW4 HF
        cases fb with
        | false =>
          have HN : Hid (¬ ∃ rs, IsRuns S n rs) := fun ⟨R, hR⟩ => by
            obtain ⟨x', y', q', e1, e2, _⟩ := hR.next HP.out.2.1.chain HP.out.2.2 HNE.out
            rw [HQ.out.1] at e1
            obtain ⟨rfl, e3⟩ := enc1_inj e1
            obtain ⟨rfl, _⟩ := enc1_inj e3
            rw [← HE.out] at e2
            have := HFB.out.2 e2
            simp at this
          go_wp2_with fail
          go_ret2
          exact tookR_no HN.out (HB.out.trans (HX.out.1.mono HB.out.size))
        | true =>
          have HFol : Hid (Fol p ⟨x, E, y.toInt⟩) := HFB.out.1 rfl
          have z0 := HX.out.2.1.cell 0 _ rfl
          have z1 := HX.out.2.1.cell 1 _ rfl
          have z2 := HX.out.2.1.cell 2 _ rfl
          go_wp2_with fail
          refine wp_region_held_then (fun _ => True) _ (by kernel_rfl) rfl (by kernel_rfl) ?_
          have hHeld : (fun _ : World => True) w5.drew := trivial
          dsimp only [List.dropLast, List.length, List.getLast]
          ((refine takeL 0 (v := ?_) rfl (by kernel_rfl) (by kernel_rfl) (by kernel_rfl) (fun _ _ _ h => h) (by rfl) hHeld ?_ ?_; rotate_left; focus (intro w hSw; (try dsimp only at hSw); go_simp <;> with_reducible rfl); (try simp only [Act.put, List.setIfInBounds_toArray, List.set_cons_zero, List.set_cons_succ])); (refine takeL 4 (v := ?_) rfl (by kernel_rfl) (by kernel_rfl) (by kernel_rfl) (fun _ _ _ h => h) (by rfl) hHeld ?_ ?_; rotate_left; focus (intro w hSw; (try dsimp only at hSw); go_simp <;> with_reducible rfl); (try simp only [Act.put, List.setIfInBounds_toArray, List.set_cons_zero, List.set_cons_succ])); (refine takeL 5 (v := ?_) rfl (by kernel_rfl) (by kernel_rfl) (by kernel_rfl) (fun _ _ _ h => h) (by rfl) hHeld ?_ ?_; rotate_left; focus (intro w hSw; (try dsimp only at hSw); go_simp <;> with_reducible rfl); (try simp only [Act.put, List.setIfInBounds_toArray, List.set_cons_zero, List.set_cons_succ])); (refine takeL 6 (v := ?_) rfl (by kernel_rfl) (by kernel_rfl) (by kernel_rfl) (fun _ _ _ h => h) (by rfl) hHeld ?_ ?_; rotate_left; focus (intro w hSw; (try dsimp only at hSw); go_simp <;> with_reducible rfl); (try simp only [Act.put, List.setIfInBounds_toArray, List.set_cons_zero, List.set_cons_succ])))
          dsimp only [Act.put]; simp only [List.setIfInBounds_toArray, List.set_cons_zero, List.set_cons_succ]
          refine newL 1 w5.drew (.agg #[.int .i64 zx, .int .i64 E, .int .i64 zy]) rfl (by kernel_rfl) (by rfl) (by go_simp) trivial ?_
          dsimp only [Act.put]; simp only [List.setIfInBounds_toArray, List.set_cons_zero, List.set_cons_succ]
          refine newL 2 (w5.drew.alloc (.cells #[.int .i64 zx, .int .i64 E, .int .i64 zy] 35)) (.slice (some ⟨w5.heap.size, 0, none⟩) 1 1) rfl (by kernel_rfl) (by rfl) (by go_simp) trivial ?_
          dsimp only [Act.put]; simp only [List.setIfInBounds_toArray, List.set_cons_zero, List.set_cons_succ]
          have hbA : Below wr.heap.size wr (w5.drew.alloc (.cells #[.int .i64 zx, .int .i64 E, .int .i64 zy] 35)) := HX.out.1.drew.trans ((below1 w5.drew _).mono HX.out.1.size)
          have HV : Hid (SRows (w5.drew.alloc (.cells #[.int .i64 zx, .int .i64 E, .int .i64 zy] 35)) (.slice a6 p.length c6) 35 3 (p.map rc) ∧ SRows (w5.drew.alloc (.cells #[.int .i64 zx, .int .i64 E, .int .i64 zy] 35)) (.slice (some ⟨w5.heap.size, 0, none⟩) 1 1) 35 3 [rc ⟨x, E, y.toInt⟩] ∧ w.heap.size ≤ (w5.drew.alloc (.cells #[.int .i64 zx, .int .i64 E, .int .i64 zy] 35)).heap.size ∧ Below w.heap.size w (w5.drew.alloc (.cells #[.int .i64 zx, .int .i64 E, .int .i64 zy] 35))) :=
            ⟨HR.out.1.of_block (fun k hk => hbA.block k (HR.out.1.lt hk)), by rw [HXY.out.1, HXY.out.2]; exact srows_new w5.drew (rc ⟨x, E, y.toInt⟩) 35 (sz := 3) rfl, Nat.le_trans HB.out.size hbA.size, HB.out.trans (hbA.mono HB.out.size)⟩
          have HL : Hid ((p.map rc).length + 1 = p.length + 1 ∧ p.map rc ++ [rc ⟨x, E, y.toInt⟩] = (p ++ [(⟨x, E, y.toInt⟩ : Rn)]).map rc ∧ p.length + 1 ≤ 1000000) := ⟨by simp, by simp, by omega⟩
          have hone := rc_one ⟨x, E, y.toInt⟩
          clear hbA
          refine appendL 3 rfl (by kernel_rfl) (by rfl) (.tmp 35) (.tmp 37) 24 35 i0 _ 3 24 rfl Try.underlying24 HI.out.1 HI.out.2.1 HI.out.2.2.1 HI.out.2.2.2 rfl (by decide) (by decide) rfl rfl HV.out.1 HV.out.2.1 rfl HR.out.2 HV.out.2.2.1 hone (p.length + 1) HL.out.1 ((p ++ [(⟨x, E, y.toInt⟩ : Rn)]).map rc) HL.out.2.1 HL.out.2.2 (fun _ => trivial) ?_
          intro va vc w7 g2 g3 g4
          have HG : Hid (SRows w7 (.slice va (p.length + 1) vc) 35 3 ((p ++ [(⟨x, E, y.toInt⟩ : Rn)]).map rc) ∧ (∀ k, (Value.slice va (p.length + 1) vc).ownBlock = some k → w.heap.size ≤ k) ∧ Below w.heap.size w w7) := ⟨g2, g3, HV.out.2.2.2.trans g4⟩
          clear g2 g3 g4
          dsimp only [Act.put]; simp only [List.setIfInBounds_toArray, List.set_cons_zero, List.set_cons_succ]
          refine newL 7 w7 (.slice va (p.length + 1) vc) rfl (by kernel_rfl) (by rfl) (by go_simp) trivial ?_
          refine doneL (by kernel_rfl) ?_; dsimp only [Act.put]; unfold Oper.wp; go_simp
          have HQ2 : Hid (S = encR (p ++ [⟨x, E, y.toInt⟩]) ++ (t.extract L t.size).data.toList ∧ (t.extract L t.size).size + L = t.size) := by
            refine ⟨?_, ?_⟩
            · rw [HQ.out.2.1, HP.out.2.2, HQ.out.1, encR_snoc, HQ.out.2.2 _ rfl]
              simp
            · rw [ByteArray.size_extract]; omega
          have HM : Hid ((t.extract L t.size).size ≤ 1000000 ∧ May (p ++ [⟨x, E, y.toInt⟩])) := ⟨by have := HP.out.1; have := HQ2.out.2; omega, may_snoc HP.out.2.1 HFol.out⟩
          go_wp2_with fail
          go_roundg (t.size - L)
          case measure => omega
          case rel => exact ⟨_, p ++ [⟨x, E, y.toInt⟩], rfl, by have := HQ2.out.2; omega, ⟨HM.out.1, HM.out.2, HQ2.out.1⟩, ⟨HG.out.1, HG.out.2.1⟩, HG.out.2.2⟩
      · have hno := takeRun_no t HP.out.1 htw
        have HN : Hid (¬ ∃ rs, IsRuns S n rs) := fun ⟨R, hR⟩ => by
          obtain ⟨x', y', q', e1, _, _⟩ := hR.next HP.out.2.1.chain HP.out.2.2 hne
          exact htw ⟨x', y', q', e1⟩
        clear hne htw
        go_wp2_with fail
        refine (hno _).mono ?_
        rintro e w1 ⟨⟨a, b, c, k, rfl⟩, hb1⟩
        have HB1 : Hid (Below wr.heap.size wr w1) := hb1
        clear hb1 hno
        go_wp2_with fail
        generalize hW : w1.alloc (.cells #[.int .i64 a, .int .i64 b, .int .i64 c] 35) = W
        have HW : Hid (Below wr.heap.size wr W ∧ Box W w1.heap.size 35 #[.int .i64 a, .int .i64 b, .int .i64 c] ∧ wr.heap.size ≤ w1.heap.size) := by
          unfold Hid
          rw [← hW]
          exact ⟨HB1.out.trans ((below1 _ _).mono HB1.out.size), box_new _ _ _, HB1.out.size⟩
        clear hW HB1
        generalize w1.heap.size = g at *
        refine (hce W HW.out.1).mono ?_
        rintro e w3 ⟨rfl, hb3⟩
        have HX : Hid (Below wr.heap.size wr w3 ∧ Box w3 g 35 #[.int .i64 a, .int .i64 b, .int .i64 c] ∧ wr.heap.size ≤ g) := ⟨HW.out.1.trans (hb3.mono HW.out.1.size), HW.out.2.1.over hb3, HW.out.2.2⟩
        have x1 := HX.out.2.1.cell 1 _ rfl
        have x2 := HX.out.2.1.frozen 1
        have hglt := HX.out.2.1.lt
        clear hb3 HW hce
        go_wp2_with fail
        go_ret2
        exact tookR_no HN.out (HB.out.trans ((HX.out.1.setCell HX.out.2.2 _).mono HB.out.size))
end Go.Proofs.Ytlohljefhcidkaa
