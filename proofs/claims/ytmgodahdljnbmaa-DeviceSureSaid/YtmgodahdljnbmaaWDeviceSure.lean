/-
  The walk of law 4's DeviceSure: what was synced survives each crash, but for blocks of which a later write survives; kept whole a crash is a sync.
-/
import Derived.Test.YtmgodahdljnbmaaDTwo
namespace Go.Proofs.Ytmgodahdljnbmaa
open Go.RowKit

theorem two_new {w w1 w2 : World} {H1 H2 : Hnd} {s1 s2 : St} (D1 : DevIs w1 H1 s1) (b1 : Below w.heap.size w w1) (a1 : ∀ k, H1.foot k → w.heap.size ≤ k) (D2 : DevIs w2 H2 s2) (b2 : Below w1.heap.size w1 w2) (a2 : ∀ k, H2.foot k → w1.heap.size ≤ k) :
    Two w w2 H1.p H2.p H1 H2 s1 s2 (fun _ => False) :=
  ⟨(own_new D1 b1 a1).below b2, ⟨D2, b1.trans (b2.mono b1.size), fun k hk => Nat.le_trans b1.size (a2 k hk), rfl⟩, fun k h1 h2 => by have := D1.lt h1; have := a2 k h2; omega, fun _ h => h.elim⟩

theorem rowIs8 {w : World} {b : Nat} {t : TypeId} {c : Array Value} (h : w.heap[b]? = some (.cells c t (0, 0))) (f : Nat → Value) (hs : c.size = 8) (hc : ∀ i, i < 8 → c[i]? = some (f i)) : w.rowIs b t 8 f := ⟨c, h, hs, hc⟩
theorem below3 (w : World) (A B C : Obj) : Below w.heap.size w (((w.alloc A).alloc B).alloc C) := ((((Below.refl _ w).alloc (Nat.le_refl _) _).alloc (by simp) _).alloc (by simp; omega) _)

theorem u8_next (i : Nat) (h : i < 200) : IntKind.u8.wrap ((i : Int) + 1) = ((UInt8.ofNat (i + 1)).toNat : Int) := by
  have e : (UInt8.ofNat (i + 1)).toNat = i + 1 := by
    rw [UInt8.toNat_ofNat']
    exact Nat.mod_eq_of_lt (by omega)
  rw [e, IntKind.wrap_u8]
  omega

theorem row8_one {c : Array Value} {L : Nat → UInt8} (hs : c.size = 8) (h : ∀ i, i < 8 → c[i]? = some (r8 L i)) : c.all (·.oneCell') = true := by
  rw [Array.all_eq_true]
  intro i hi
  have := h i (by omega)
  rw [Array.getElem?_eq_getElem hi, Option.some.injEq] at this
  rw [this]
  rfl
theorem Own.reads {w0 w : World} {p : Nat} {H : Hnd} {su : List (List UInt8)} {wt : List (Nat × List UInt8)} (o : Own w0 w p H ⟨su, wt, -1, false⟩) (k : Nat) (l : List UInt8) (hl : (lay su wt)[k]? = some l) :
    Calls Try.prog 18 #[.pointer (some ⟨p, 0, none⟩), .int .i64 k] w fun e w' => e = .returned (.tuple #[.string (strB l), .int .i64 0]) ∧ w' = w := by
  have h := o.at_
  subst h
  exact read_on o.dev k l hl rfl

set_option maxRecDepth 4000 in
set_option maxHeartbeats 8000000 in
theorem walkDeviceSure (a0 : Option Addr) (len0 cap0 : Nat) (z0 : List Int) (w : World) (w0 : IsRow .i64 w a0 len0 cap0 z0) (a1 : Int) (w1 : (Lit.int .i64 a1).wf = true) (a2 : Option Addr) (len2 cap2 : Nat) (z2 : List Int) (w2 : IsRow .i64 w a2 len2 cap2 z2) :
    Calls Try.prog 4 #[.slice a0 len0 cap0, .int .i64 a1, .slice a2 len2 cap2] w fun e w' => e = .returned (.bool true) ∧ Below w.heap.size w w' := by
  obtain ⟨x1, rfl⟩ := Wd.word_of a1 w1
  obtain ⟨l0, hl0, hrd0⟩ := reads_of_row w0
  obtain ⟨l2, hl2, hrd2⟩ := reads_of_row w2
  have hm2 : l2.length ≤ maxLen := by
    rcases w2 with ⟨_, h, _, _⟩ | ⟨_, _, h1, h2, _⟩
    · rw [hl2, h]; exact Nat.zero_le _
    · rw [hl2]; omega
  have hread : ∀ i, i < len0 → ∃ b off, a0 = some ⟨b, off, none⟩ ∧ b < w.heap.size ∧ w.cell? ⟨b, off + i, none⟩ = some (.int .i64 (l0.getD i 0#64).toInt) := by
    obtain ⟨av, cv, he, h⟩ := reads_at hrd0
    simp only [Value.slice.injEq] at he
    intro i hi
    obtain ⟨b, off, h1, h2, h3⟩ := h i (by omega)
    exact ⟨b, off, by rw [he.1]; exact h1, h2, h3⟩
  obtain ⟨M, hM1, hM2, hM3⟩ : ∃ M, M ≤ len0 ∧ M ≤ 40 ∧ (len0 ≤ M ∨ 40 ≤ M) := ⟨min len0 40, by omega, by omega, by omega⟩
  have HR2 : Hid (ReadsI w (.slice a2 len2 cap2) l2 ∧ l2.length ≤ maxLen) := ⟨hrd2, hm2⟩
  clear w0 w1 w2 hrd0 hrd2 hl0 hl2 hm2
  go_enter Try.func4, Try.ntmps4
  go_wp2_with fail
  refine (new_any 8 (by omega) (by omega) _).mono ?_
  rintro e w1 ⟨H1, rfl, D1, b1, c1⟩
  go_wp2_with fail
  refine (new_any 8 (by omega) (by omega) _).mono ?_
  rintro e w2 ⟨H2, rfl, D2, b2, c2⟩
  have t2 := two_new D1 b1 c1 D2 b2 c2
  obtain ⟨p, hp⟩ : ∃ p, p = H1.p := ⟨_, rfl⟩
  obtain ⟨c, hc⟩ : ∃ c, c = H2.p := ⟨_, rfl⟩
  rw [← hp, ← hc] at t2
  rw [← hp, ← hc]
  clear D1 b1 c1 D2 b2 c2 hp hc
  go_wp2_with fail
  obtain ⟨b1, hb1⟩ : ∃ b, b = w2.heap.size := ⟨_, rfl⟩
  obtain ⟨b2, hb2⟩ : ∃ b, b = w2.heap.size + 1 := ⟨_, rfl⟩
  obtain ⟨b3, hb3⟩ : ∃ b, b = w2.heap.size + 1 + 1 := ⟨_, rfl⟩
  have n12 : b1 ≠ b2 := by omega
  have n13 : b1 ≠ b3 := by omega
  have n23 : b2 ≠ b3 := by omega
  obtain ⟨W3, hW3⟩ : ∃ W3, W3 = ((w2.alloc (.cells #[.int .u8 0, .int .u8 0, .int .u8 0, .int .u8 0, .int .u8 0, .int .u8 0, .int .u8 0, .int .u8 0] 41)).alloc (.cells #[.int .u8 0, .int .u8 0, .int .u8 0, .int .u8 0, .int .u8 0, .int .u8 0, .int .u8 0, .int .u8 0] 41)).alloc (.cells #[.bool false, .bool false, .bool false, .bool false, .bool false, .bool false, .bool false, .bool false] 42) := ⟨_, rfl⟩
  have hh := heap3 w2 (.cells #[.int .u8 0, .int .u8 0, .int .u8 0, .int .u8 0, .int .u8 0, .int .u8 0, .int .u8 0, .int .u8 0] 41) (.cells #[.int .u8 0, .int .u8 0, .int .u8 0, .int .u8 0, .int .u8 0, .int .u8 0, .int .u8 0, .int .u8 0] 41) (.cells #[.bool false, .bool false, .bool false, .bool false, .bool false, .bool false, .bool false, .bool false] 42)
  have hb := below3 w2 (.cells #[.int .u8 0, .int .u8 0, .int .u8 0, .int .u8 0, .int .u8 0, .int .u8 0, .int .u8 0, .int .u8 0] 41) (.cells #[.int .u8 0, .int .u8 0, .int .u8 0, .int .u8 0, .int .u8 0, .int .u8 0, .int .u8 0, .int .u8 0] 41) (.cells #[.bool false, .bool false, .bool false, .bool false, .bool false, .bool false, .bool false, .bool false] 42)
  rw [← hW3, ← hb3, ← hb2, ← hb1] at hh
  rw [← hW3] at hb
  rw [← hW3, ← hb3, ← hb2, ← hb1]
  have hs3 : W3.heap.size = w2.heap.size + 3 := by rw [hW3]; simp
  have A3 : Arrs W3 b1 b2 b3 (fun _ => 0) (fun _ => 0) (fun _ => false) := by
    refine ⟨rowIs8 hh.1 _ rfl ?_, rowIs8 hh.2.1 _ rfl ?_, rowIs8 hh.2.2 _ rfl ?_⟩
    all_goals
      intro i hi
      have : i = 0 ∨ i = 1 ∨ i = 2 ∨ i = 3 ∨ i = 4 ∨ i = 5 ∨ i = 6 ∨ i = 7 := by omega
      rcases this with rfl | rfl | rfl | rfl | rfl | rfl | rfl | rfl <;> rfl
  have t3 : Two w W3 p c H1 H2 (St.new 8) (St.new 8) (F3 b1 b2 b3) := by
    refine (t2.below hb).1.more ?_
    intro k hk
    have hk2 : w2.heap.size ≤ k ∧ k < W3.heap.size := by rcases hk with rfl | rfl | rfl <;> omega
    exact ⟨hk2.2, Nat.le_trans t2.o1.bel.size hk2.1, fun h => by have := t2.o1.dev.lt h; omega, fun h => by have := t2.o2.dev.lt h; omega⟩
  clear hh hb hW3 hb1 hb2 hb3 hs3 t2
  go_loopg [14, 15] M (fun g s14 s15 wx => ∃ (i : Nat) (H1 H2 : Hnd) (su : List (List UInt8)) (wt : List (Nat × List UInt8)) (S L : Nat → UInt8) (T : Nat → Bool), i + g = M ∧ s14 = .int .i64 i ∧ Two w wx p c H1 H2 ⟨su, wt, -1, false⟩ ⟨su, wt, -1, false⟩ (F3 b1 b2 b3) ∧ Arrs wx b1 b2 b3 S L T ∧ Says su wt S L T ∧ wt.length ≤ i)
  case atStart => exact ⟨0, H1, H2, _, [], _, _, _, by omega, rfl, t3, A3, says_new, by simp⟩
  case round =>
    obtain ⟨i, H1, H2, su, wt, S, L, T, hig, rfl, t, A, Y, hwt⟩ := hrel
    clear t3 A3
    by_cases hi : i < M
    · have hiI : (i : Int) < (len0 : Int) := by omega
      have hi4 : (i : Int) < 40 := by omega
      have hi200 : i < 200 := by omega
      obtain ⟨b, off, rfl, hbw, hcell⟩ := hread i (by omega)
      have hc2 := (t.o1.bel.cell (p := ⟨b, off + i, none⟩) hbw).trans hcell
      obtain ⟨x, hx⟩ : ∃ x, x = l0.getD i 0#64 := ⟨_, rfl⟩
      rw [← hx] at hc2
      obtain ⟨q, rq, hq⟩ := and_mask x 7 (by omega)
      replace rq : bits .and .i64 x.toInt 7 = (q : Int) := rq
      have hqI : (q : Int) < 8 := by omega
      have hn := Y.n
      have hqs : q < su.length := by omega
      have hq8 : q < 8 := by omega
      have hw6 : wt.length < 1000000 := by omega
      have hr2 : IntKind.i64.wrap ((i : Int) + 1) = (i : Int) + 1 := by rw [IntKind.wrap_i64]; omega
      obtain ⟨ch, hch⟩ : ∃ ch, ch = UInt8.ofNat (i + 1) := ⟨_, rfl⟩
      have rb : IntKind.u8.wrap ((i : Int) + 1) = (ch.toNat : Int) := by rw [hch]; exact u8_next i hi200
      have HY : Hid (Says su wt S L T) := Y
      have HT : Hid (Two w wr p c H1 H2 ⟨su, wt, -1, false⟩ ⟨su, wt, -1, false⟩ (F3 b1 b2 b3)) := t
      have HA : Hid (Arrs wr b1 b2 b3 S L T) := A
      clear hcell hx hch Y t A hread
      go_wp2_with fail
      refine (filled_str ch _).mono ?_
      rintro e w4 ⟨rfl, b4⟩
      have t4 := HT.out.below b4
      have A4 := HA.out.of_block t4.2
      go_wp2_with fail
      refine (t4.1.o1.write q ch hqs hw6).mono ?_
      rintro e w5 ⟨rfl, H5, O5, T5⟩
      have t5 := t4.1.op1 O5 T5
      have A5 := A4.of_block t5.2
      clear t4 A4 O5 T5 b4
      go_wp2_with fail
      refine (filled_str ch _).mono ?_
      rintro e w6 ⟨rfl, b6⟩
      have t6 := t5.1.below b6
      have A6 := A5.of_block t6.2
      clear t5 A5 b6
      go_wp2_with fail
      refine (t6.1.o2.write q ch hqs hw6).mono ?_
      rintro e w7 ⟨rfl, H7, O7, T7⟩
      have t7 := t6.1.op2 O7 T7
      have A7 := A6.of_block t7.2
      have l1 := A7.l.cell (i := q) hq8
      have l3 := A7.l.frozen q
      have l4 := A7.t.cell (i := q) hq8
      have l5 := A7.t.frozen q
      have l6 : (w7.setCell ⟨b2, q, none⟩ (.int .u8 (ch.toNat : Int))).cell? ⟨b3, q, none⟩ = some (t8 T q) := by
        rw [World.cell?_of_block (heap_setCell_other w7 ⟨b2, q, none⟩ b3 _ (fun e => n23 e.symm))]; exact l4
      have A8 : Arrs ((w7.setCell ⟨b2, q, none⟩ (.int .u8 (ch.toNat : Int))).setCell ⟨b3, q, none⟩ (.bool true)) b1 b2 b3 S (fun i => if i = q then ch else L i) (fun i => if i = q then true else T i) := by
        refine ⟨(A7.s.setOther n12 _).setOther n13 _, ((A7.l.set q _).setOther n23 _).congr ?_, ((A7.t.setOther (fun e => n23 e.symm) _).set q _).congr ?_⟩
        · intro j _
          unfold r8
          by_cases e : j = q <;> simp [e]
        · intro j _
          unfold t8
          by_cases e : j = q <;> simp [e]
      have t8' : Two w ((w7.setCell ⟨b2, q, none⟩ (.int .u8 (ch.toNat : Int))).setCell ⟨b3, q, none⟩ (.bool true)) p c H5 H7 ⟨su, wt ++ [(q, fl ch)], -1, false⟩ ⟨su, wt ++ [(q, fl ch)], -1, false⟩ (F3 b1 b2 b3) :=
        t7.1.kept (((Kept.refl _ _).setCell (p := ⟨b2, q, none⟩) (.inl (.inr (.inl rfl))) _).setCell (p := ⟨b3, q, none⟩) (.inl (.inr (.inr rfl))) _)
      have Y8 := HY.out.write (q := q) hq8 ch
      have HX : Hid (Two w ((w7.setCell ⟨b2, q, none⟩ (.int .u8 (ch.toNat : Int))).setCell ⟨b3, q, none⟩ (.bool true)) p c H5 H7 ⟨su, wt ++ [(q, fl ch)], -1, false⟩ ⟨su, wt ++ [(q, fl ch)], -1, false⟩ (F3 b1 b2 b3) ∧ Arrs ((w7.setCell ⟨b2, q, none⟩ (.int .u8 (ch.toNat : Int))).setCell ⟨b3, q, none⟩ (.bool true)) b1 b2 b3 S (fun i => if i = q then ch else L i) (fun i => if i = q then true else T i) ∧ Says su (wt ++ [(q, fl ch)]) S (fun i => if i = q then ch else L i) (fun i => if i = q then true else T i)) := ⟨t8', A8, Y8⟩
      clear t6 A6 O7 T7 t7 A7 A8 t8' Y8
      go_wp2_with fail
      · obtain ⟨tx, Ax, Yx⟩ := HX.out
        refine tx.o1.sync.mono ?_
        rintro e w8 ⟨rfl, H8, O8, T8⟩
        have u8 := tx.op1 O8 T8
        have A8 := Ax.of_block u8.2
        clear HX tx Ax O8 T8 l1 l3 l4 l5 l6
        go_wp2_with fail
        refine u8.1.o2.sync.mono ?_
        rintro e w9 ⟨rfl, H9, O9, T9⟩
        have t9 := u8.1.op2 O9 T9
        have A9 := A8.of_block t9.2
        have Y9 := Yx.sync
        obtain ⟨c1, g1, s1, v1⟩ := A9.s
        obtain ⟨c2, g2, s2, v2⟩ := A9.l
        obtain ⟨c3, g3, s3, v3⟩ := A9.t
        have hone := row8_one s2 v2
        have g3' : (w9.setRow b1 c2).heap[b3]? = some (.cells c3 42 (0, 0)) := by rw [setRow_other _ _ _ _ (fun e => n13 e.symm)]; exact g3
        have AA : Arrs ((w9.setRow b1 c2).setRow b3 z42) b1 b2 b3 (fun i => if i = q then ch else L i) (fun i => if i = q then ch else L i) (fun _ => false) := by
          refine ⟨⟨c2, ?_, s2, v2⟩, ⟨c2, ?_, s2, v2⟩, ⟨z42, setRow_heap _ _ _ _ _ _ g3', by simp [z42], fun i hi => by simp [z42, hi]; rfl⟩⟩
          · rw [setRow_other _ _ _ _ n13]; exact setRow_heap _ _ _ _ _ _ g1
          · rw [setRow_other _ _ _ _ n23, setRow_other _ _ _ _ (fun e => n12 e.symm)]; exact g2
        have TT := t9.1.kept (((Kept.refl _ _).setRow (b := b1) (.inl (.inl rfl)) c2).setRow (b := b3) (.inl (.inr (.inr rfl))) z42)
        have hi2 := arr41.hi
        have z8 : z42.size = 8 := by simp [z42]
        have hi3 : Option.map (·.size) (Try.prog.info? 42) = some z42.size := by rw [z8]; exact arr42.hi
        have hz3 : c3.size = z42.size := by rw [z8, s3]
        have hz1 : z42.all (·.oneCell') = true := by decide +kernel
        clear z8
        clear u8 A8 O9 T9 t9 A9 v1 v2 v3 HY HT HA
        have HZ : Hid (Two w ((w9.setRow b1 c2).setRow b3 z42) p c H8 H9 ⟨lay su (wt ++ [(q, fl ch)]), [], -1, false⟩ ⟨lay su (wt ++ [(q, fl ch)]), [], -1, false⟩ (F3 b1 b2 b3) ∧ Arrs ((w9.setRow b1 c2).setRow b3 z42) b1 b2 b3 (fun i => if i = q then ch else L i) (fun i => if i = q then ch else L i) (fun _ => false) ∧ Says (lay su (wt ++ [(q, fl ch)])) [] (fun i => if i = q then ch else L i) (fun i => if i = q then ch else L i) (fun _ => false)) := ⟨TT, AA, Y9⟩
        clear TT AA Y9 Yx
        go_wp2_with (first
          | (refine wpList_load_row rfl 41 _ rfl b2 rfl 41 c2 (0, 0) _ g2 Try.underlying41 rfl (by rw [s2]; exact hi2) ?_)
          | (refine wpList_store_row rfl 41 _ _ rfl b1 c2 rfl rfl 41 c1 g1 (by rw [s2]; exact hi2) (by rw [s1, s2]) hone ?_)
          | (refine Arr.build_arr arr42 rfl rfl ?_)
          | (refine wpList_store_row rfl 42 _ _ rfl b3 z42 rfl rfl 42 c3 g3' hi3 hz3 hz1 ?_))
        go_roundg (M - (i + 1))
        case measure => clear rb hr2; omega
        case rel => exact ⟨i + 1, H8, H9, _, _, _, _, _, by clear rb hr2; omega, by go_num, HZ.out.1, HZ.out.2.1, HZ.out.2.2, by simp⟩
      · --@H
        go_roundg (M - (i + 1))
        case measure => clear rb hr2; omega
        case rel => exact ⟨i + 1, H5, H7, _, _, _, _, _, by clear rb hr2; omega, by go_num, HX.out.1, HX.out.2.1, HX.out.2.2, by clear rb hr2; simp; omega⟩
    · have hw4 : wt.length ≤ 40 := by omega
      have HT : Hid (Two w wr p c H1 H2 ⟨su, wt, -1, false⟩ ⟨su, wt, -1, false⟩ (F3 b1 b2 b3)) := t
      have HA : Hid (Arrs wr b1 b2 b3 S L T) := A
      have HY : Hid (Says su wt S L T) := Y
      obtain ⟨m, hm⟩ : ∃ m, m = wt.length := ⟨_, rfl⟩
      have HM : Hid (m = wt.length) := hm
      have hm4 : m ≤ 40 := by omega
      have hib : ¬ (i : Int) < (len0 : Int) ∨ ¬ (i : Int) < 40 := by omega
      clear t A Y hm hwt hw4 hread
      obtain ⟨wo, hwo⟩ : ∃ wo, wo = wr := ⟨_, rfl⟩
      subst hwo
      have HF : Hid (∀ x, H1.foot x → x < wo.heap.size) := fun x hx => HT.out.o1.dev.lt hx
      by_cases hl0 : (i : Int) < (len0 : Int)
      case' pos =>
        have hl4 : ¬ (i : Int) < 40 := by rcases hib with h | h; exact absurd hl0 h; exact h
      all_goals
        clear hib
        go_wp2_with fail
        go_loopg [16, 17] m (fun g s16 s17 wx => ∃ k : Nat, k + g = m ∧ s17 = .int .i64 k ∧ OwnsI wx wo.heap.size s16 (upto k) ∧ Below wo.heap.size wo wx)
        case atStart => exact ⟨0, by omega, rfl, ownsI_nil _ _, Below.refl _ _⟩
        case round =>
          obtain ⟨k, hkg, rfl, hown, hb⟩ := hrel
          have t1 := HT.out.below hb
          have cw := t1.1.o2.waiting
          rw [← HM.out] at cw
          have hkI0 : k ≤ m := by omega
          have hk6 : k < 1000000 := by omega
          have HO : Hid (OwnsI wr wo.heap.size u16 (upto k)) := hown
          have HB : Hid (Below wo.heap.size wo wr) := hb
          have Ht : Hid (Two w wr p c H1 H2 ⟨su, wt, -1, false⟩ ⟨su, wt, -1, false⟩ (F3 b1 b2 b3) ∧ ∀ k, F3 b1 b2 b3 k → wr.heap[k]? = wo.heap[k]?) := t1
          clear hown hb t1
          go_wp2_with fail
          refine cw.mono ?_
          rintro e w3 ⟨⟨bb, rfl, _⟩, b3'⟩
          clear cw
          have hown3 := HO.out.below b3'
          have HB3 : Hid (Below wo.heap.size wo w3) := HB.out.trans (b3'.mono HB.out.size)
          have t3 := Ht.out.1.below b3'
          have A3 := (HA.out.of_block Ht.out.2).of_block t3.2
          by_cases hk : k < m
          · have hkI : (k : Int) < (m : Int) := by omega
            have hn2 := (toInt_small k hk6).symm
            have HN : Hid ((k : Int) = (BitVec.ofNat 64 k).toInt) := hn2
            have hB3 : wo.heap.size ≤ w3.heap.size := HB3.out.size
            have hlu : (upto k).length + 1 ≤ 1000000 := by rw [upto_len]; omega
            have hr2 : IntKind.i64.wrap ((k : Int) + 1) = (k : Int) + 1 := by rw [IntKind.wrap_i64]; omega
            clear t3 A3 hn2 b3'
            go_wp2_with (at_builtin; refine append_i64 rfl (.tmp 110) (.tmp 112) rfl rfl rfl HN.out hown3 hB3 hlu ?_; intro v4 w4 hown4 hb4)
            go_roundg (m - (k + 1))
            case measure => clear hr2; omega
            case rel => exact ⟨k + 1, by clear hr2; omega, by go_num, by rw [upto_succ]; exact hown4, HB3.out.trans hb4⟩
          · have hkI : ¬ (k : Int) < (m : Int) := by omega
            obtain rfl : k = m := by omega
            have cc := t3.1.o1.crash _ l2 (HR2.out.1.below t3.1.o1.bel) HR2.out.2
            have hin := HF.out
            have HT3 : Hid (Two w w3 p c H1 H2 ⟨su, wt, -1, false⟩ ⟨su, wt, -1, false⟩ (F3 b1 b2 b3)) := t3.1
            have HA3 : Hid (Arrs w3 b1 b2 b3 S L T) := A3
            have HO3 : Hid (OwnsI w3 wo.heap.size u16 (upto k)) := hown3
            clear t3 A3 hown3 b3' hkg hin
            go_wp2_with fail
            refine cc.mono ?_
            rintro e w5 ⟨rfl, H5, O5, T5⟩
            have t5 := HT3.out.op1 O5 T5
            have A5 := HA3.out.of_block t5.2
            have hown5 := HO3.out.kept T5.kept HF.out
            have cc2 := t5.1.o2.crash _ (upto k) hown5.reads (by rw [upto_len]; unfold maxLen; omega)
            have ek : keepW (among (upto k)) 0 wt = wt := keepW_all _ _ _ (fun j _ hj => among_upto (by rw [HM.out]; omega) hk6)
            simp only [ek] at cc2
            have HT5 : Hid (Two w w5 p c H5 H2 ⟨lay su (keepW (among l2) 0 wt), [], -1, false⟩ ⟨su, wt, -1, false⟩ (F3 b1 b2 b3)) := t5.1
            have HA5 : Hid (Arrs w5 b1 b2 b3 S L T) := A5
            clear cc O5 T5 t5 A5 hown5 ek
            go_wp2_with fail
            refine cc2.mono ?_
            rintro e w6 ⟨rfl, H6, O6, T6⟩
            have t6 := HT5.out.op2 O6 T6
            have A6 := HA5.out.of_block t6.2
            have c6 := t6.1.o1.off
            have c7 := t6.1.o1.waiting
            have HT6 : Hid (Two w w6 p c H5 H6 ⟨lay su (keepW (among l2) 0 wt), [], -1, false⟩ ⟨lay su wt, [], -1, false⟩ (F3 b1 b2 b3)) := t6.1
            have HA6 : Hid (Arrs w6 b1 b2 b3 S L T) := A6
            clear cc2 O6 T6 t6 A6 HT5 HA5 HT3 HA3
            go_wp2_with fail
            refine c6.mono ?_
            rintro e w6' ⟨rfl, hw6'⟩
            subst hw6'
            clear c6
            go_wp2_with fail
            refine c7.mono ?_
            rintro e w7 ⟨⟨bb7, rfl, _⟩, b7⟩
            have t7 := HT6.out.below b7
            have A7 := HA6.out.of_block t7.2
            have c8 := t7.1.o2.waiting
            have HT7 : Hid (Two w w7 p c H5 H6 ⟨lay su (keepW (among l2) 0 wt), [], -1, false⟩ ⟨lay su wt, [], -1, false⟩ (F3 b1 b2 b3)) := t7.1
            have HA7 : Hid (Arrs w7 b1 b2 b3 S L T) := A7
            clear c7 t7 A7 b7 HT6 HA6
            go_wp2_with fail
            refine c8.mono ?_
            rintro e w8 ⟨⟨bb8, rfl, _⟩, b8⟩
            have t8 := HT7.out.below b8
            have A8 := HA7.out.of_block t8.2
            have HT8 : Hid (Two w w8 p c H5 H6 ⟨lay su (keepW (among l2) 0 wt), [], -1, false⟩ ⟨lay su wt, [], -1, false⟩ (F3 b1 b2 b3)) := t8.1
            have HA8 : Hid (Arrs w8 b1 b2 b3 S L T) := A8
            clear c8 t8 A8 b8 HT7 HA7
            go_wp2_with fail
            go_loopg [18] 8 (fun g s18 wx => ∃ k : Nat, k + g = 8 ∧ s18 = .int .i64 k ∧ Two w wx p c H5 H6 ⟨lay su (keepW (among l2) 0 wt), [], -1, false⟩ ⟨lay su wt, [], -1, false⟩ (F3 b1 b2 b3) ∧ Arrs wx b1 b2 b3 S L T)
            case atStart => exact ⟨0, by omega, rfl, HT8.out, HA8.out⟩
            case round =>
              obtain ⟨j, hjg, rfl, t, A⟩ := hrel
              clear HT8 HA8
              by_cases hj : j < 8
              · have hjI : (j : Int) < 8 := by omega
                have hr2 : IntKind.i64.wrap ((j : Int) + 1) = (j : Int) + 1 := by rw [IntKind.wrap_i64]; omega
                obtain ⟨l, hl⟩ : ∃ l, (lay su (keepW (among l2) 0 wt))[j]? = some l := ⟨_, List.getElem?_eq_getElem (by rw [lay_len, HY.out.n]; exact hj)⟩
                have cr := t.o1.reads j l hl
                have cl := t.o2.read j (L j) (HY.out.l j hj)
                have a2' : wr.cell? ⟨b2, j, none⟩ = some (.int .u8 ((L j).toNat : Int)) := A.l.cell hj
                have HT8 : Hid (Two w wr p c H5 H6 ⟨lay su (keepW (among l2) 0 wt), [], -1, false⟩ ⟨lay su wt, [], -1, false⟩ (F3 b1 b2 b3)) := t
                have HA8 : Hid (Arrs wr b1 b2 b3 S L T) := A
                have HL : Hid ((lay su (keepW (among l2) 0 wt))[j]? = some l) := hl
                obtain ⟨c2, hc2⟩ : ∃ c2, c2 = L j := ⟨_, rfl⟩
                rw [← hc2] at cl a2'
                clear t A hl hc2
                go_wp2_with fail
                refine cr.mono ?_
                rintro e w9 ⟨rfl, hw9⟩
                replace hw9 := hw9.symm
                subst hw9
                clear cr
                go_wp2_with fail
                refine cl.mono ?_
                rintro e w9 ⟨rfl, hw9⟩
                replace hw9 := hw9.symm
                subst hw9
                clear cl
                go_wp2_with fail
                refine (filled_str c2 _).mono ?_
                rintro e w10 ⟨rfl, b10⟩
                have t10 := HT8.out.below b10
                have A10 := HA8.out.of_block t10.2
                have a3' : w10.cell? ⟨b3, j, none⟩ = some (.bool (T j)) := A10.t.cell hj
                have a1' : w10.cell? ⟨b1, j, none⟩ = some (.int .u8 ((S j).toNat : Int)) := A10.s.cell hj
                obtain ⟨c1, hc1⟩ : ∃ c1, c1 = S j := ⟨_, rfl⟩
                rw [← hc1] at a1'
                have HT10 : Hid (Two w w10 p c H5 H6 ⟨lay su (keepW (among l2) 0 wt), [], -1, false⟩ ⟨lay su wt, [], -1, false⟩ (F3 b1 b2 b3) ∧ Arrs w10 b1 b2 b3 S L T) := ⟨t10.1, A10⟩
                clear t10 A10 b10 a2'
                cases hT : T j with
                | true =>
                  rw [hT] at a3'
                  clear hT hc1
                  go_wp2_with fail
                  go_roundg (8 - (j + 1))
                  case measure => clear hr2; omega
                  case rel => exact ⟨j + 1, by clear hr2; omega, by go_num, HT10.out.1, HT10.out.2⟩
                | false =>
                  rw [hT] at a3'
                  have hlS := HY.out.sure (among l2) hj hT
                  rw [HL.out, Option.some.injEq, ← hc1] at hlS
                  subst hlS
                  clear hT hc1
                  have eFS : strB (fl c1) = FS c1 := rfl
                  rw [eFS]
                  clear eFS
                  go_wp2_with fail
                  refine (filled_str c1 _).mono ?_
                  rintro e w11 ⟨rfl, b11⟩
                  have t11 := HT10.out.1.below b11
                  have A11 := HT10.out.2.of_block t11.2
                  go_wp2_with fail
                  go_roundg (8 - (j + 1))
                  case measure => clear hr2; omega
                  case rel => exact ⟨j + 1, by clear hr2; omega, by go_num, t11.1, A11⟩
              · have hjI : ¬ (j : Int) < 8 := by omega
                have HBB : Hid (Below w.heap.size w wr) := t.o1.bel
                clear t A
                go_wp2_with fail
                refine (awake_any _).mono ?_
                rintro e w9 ⟨rfl, b9⟩
                go_wp2
                go_ret
                exact ⟨rfl, HBB.out.trans (b9.mono HBB.out.size)⟩
end Go.Proofs.Ytmgodahdljnbmaa
