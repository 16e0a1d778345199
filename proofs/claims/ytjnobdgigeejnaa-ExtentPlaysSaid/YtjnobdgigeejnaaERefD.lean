/-
  The contract of peristyleref05's Alloc.
-/
import Derived.Test.YtjnobdgigeejnaaERefB
import Derived.Test.YtjnobdgigeejnaaLast
namespace Go.Proofs.Ytjnobdgigeejnaa
open Go.RowKit

theorem res_three {P : Program} {fn : Func} {p q r : Tmp} {ty : TypeId} {w : World} {g : Nat} {t : TypeId} {cs : Array Value} {tmps : Array Value} (h : fn.results = #[.tmp p, .cell q ty, .tmp r]) (d : TypeDesc) (hp : tmps.getD q undef = .pointer (some ⟨g, 0, none⟩)) (hg : Box w g t cs)
    (hu : P.underlying ty = some d) (hd : (match d with | .struct _ | .array _ _ => true | _ => false) = true) (hi : (P.info? ty).map (·.size) = some cs.size) (v u : Value) (hv : tmps.getD p undef = v) (hq : tmps.getD r undef = u) :
    (results fn tmps).run P w = .ok (.tuple #[v, .agg cs, u]) w := by
  have hp' : tmps[q]?.getD undef = .pointer (some ⟨g, 0, none⟩) := by simpa using hp
  have hv' : tmps[p]?.getD undef = v := by simpa using hv
  have hq' : tmps[r]?.getD undef = u := by simpa using hq
  have hl := run_loadVar_row (P := P) w g t ty cs (0, 0) d hg hu hd hi
  simp [results, h, hp', hv', hq', asAddr, hl]

set_option maxRecDepth 4000 in
set_option maxHeartbeats 4000000 in
theorem ralloc_bad (v : Option Addr) (n c : Nat) (d : Int) (hd : d < 1) (w : World) :
    Calls Try.prog 11 #[.slice v n c, .int .i64 d] w fun e w' => e = .returned (.tuple #[.slice v n c, .agg #[.int .i64 0, .int .i64 0], .int .i64 1]) ∧ Below w.heap.size w w' := by
  go_enter Try.func11, Try.ntmps11
  go_wp2_with fail
  exact bodyPost_ret (res_three (cs := #[.int .i64 0, .int .i64 0]) Try.results11 _ rfl (box_new w _ _) Try.underlying32 rfl size_ext _ _ rfl rfl) rfl ⟨rfl, below1 w _⟩

/-- An extent of d blocks from i on may be taken. -/
def FitsAt (tk : Nat → Bool) (n d i : Nat) : Prop := i + d ≤ n ∧ AllAre tk i d false
def RAlloc (w : World) (b c n : Nat) (tk : Nat → Bool) (d : Nat) (e : Ending) (w' : World) : Prop :=
  ((e = .returned (.tuple #[.slice (some ⟨b, 0, none⟩) n c, .agg #[.int .i64 0, .int .i64 0], .int .i64 2]) ∧ ∀ i, i < n → ¬ FitsAt tk n d i) ∨
   ∃ i b' c', e = .returned (.tuple #[.slice (some ⟨b', 0, none⟩) n c', .agg #[.int .i64 (i : Nat), .int .i64 d], .int .i64 0]) ∧ i < n ∧ FitsAt tk n d i ∧ (∀ i', i' < i → ¬ FitsAt tk n d i') ∧ RefM w' b' c' n (setTo tk i d true) ∧ w.heap.size ≤ b') ∧ Below w.heap.size w w'

set_option maxRecDepth 4000 in
set_option maxHeartbeats 4000000 in
theorem ralloc_any {w : World} {b c n : Nat} {tk : Nat → Bool} (M : RefM w b c n tk) (hn : n ≤ 4096) (d : Nat) (hd : 1 ≤ d) (hd63 : (d : Int) < 9223372036854775808) :
    Calls Try.prog 11 #[.slice (some ⟨b, 0, none⟩) n c, .int .i64 d] w (RAlloc w b c n tk d) := by
  obtain ⟨W, hW⟩ : ∃ W, W = w.alloc (.cells #[.int .i64 0, .int .i64 0] 32) := ⟨_, rfl⟩
  have hb : Below w.heap.size w W := by rw [hW]; exact below1 w _
  have B0 : Box W w.heap.size 32 #[.int .i64 0, .int .i64 0] := by rw [hW]; exact box_new w _ _
  have hd1 : ¬ (d : Int) < 1 := by omega
  have HM : Hid (RefM w b c n tk ∧ n ≤ 4096 ∧ 1 ≤ d ∧ Below w.heap.size w W ∧ Box W w.heap.size 32 #[.int .i64 0, .int .i64 0]) := ⟨M, hn, hd, hb, B0⟩
  clear M hn hd hb B0
  go_enter Try.func11, Try.ntmps11
  go_wp2_with fail
  rw [← hW]
  obtain ⟨zb, hzb⟩ : ∃ zb, zb = w.heap.size := ⟨_, rfl⟩
  have HZB : Hid (zb = w.heap.size) := hzb
  rw [← hzb]
  clear hW hzb
  go_loopg [7] n (fun gg s7 wx => ∃ i : Nat, i + gg = n ∧ s7 = .int .i64 i ∧ (∀ i', i' < i → ¬ FitsAt tk n d i') ∧ Below W.heap.size W wx)
  case atStart => exact ⟨0, by omega, rfl, fun i hi => by omega, Below.refl _ _⟩
  case round =>
    obtain ⟨i, hig, rfl, hno, hbw⟩ := hrel
    have hbw' := HM.out.2.2.2.1.trans (hbw.mono HM.out.2.2.2.1.size)
    have HR : Hid ((∀ i', i' < i → ¬ FitsAt tk n d i') ∧ Below W.heap.size W wr ∧ Below w.heap.size w wr) := ⟨hno, hbw, hbw'⟩
    have hn := HM.out.2.1
    clear hno hbw hbw'
    by_cases hi : i < n
    · have hiI : (i : Int) < (n : Int) := by omega
      have hri : IntKind.i64.wrap ((i : Int) + 1) = (i : Int) + 1 := by rw [IntKind.wrap_i64]; omega
      have bX := below1 wr (.cells #[.int .i64 (i : Int), .int .i64 (d : Int)] 32)
      have X0 := box_new wr #[.int .i64 (i : Int), .int .i64 (d : Int)] 32
      have cm := may_any (some ⟨b, 0, none⟩) n c hn i d (by clear hri; omega) (wr.alloc (.cells #[.int .i64 (i : Int), .int .i64 (d : Int)] 32))
      have HX : Hid (Box (wr.alloc (.cells #[.int .i64 (i : Int), .int .i64 (d : Int)] 32)) wr.heap.size 32 #[.int .i64 (i : Int), .int .i64 (d : Int)] ∧ Below W.heap.size W (wr.alloc (.cells #[.int .i64 (i : Int), .int .i64 (d : Int)] 32)) ∧ Below w.heap.size w (wr.alloc (.cells #[.int .i64 (i : Int), .int .i64 (d : Int)] 32))) := ⟨X0, HR.out.2.1.trans (bX.mono HR.out.2.1.size), HR.out.2.2.trans (bX.mono HR.out.2.2.size)⟩
      obtain ⟨xb, hxb⟩ : ∃ xb, xb = wr.heap.size := ⟨_, rfl⟩
      have HXB : Hid (xb = wr.heap.size) := hxb
      rw [← hxb] at HX
      clear bX X0
      by_cases hfit : i + d ≤ n
      · rw [decide_eq_true (show 0 < n ∧ (0 : Int) ≤ i ∧ (1 : Int) ≤ d ∧ (d : Int) ≤ n - i by clear hri; omega)] at cm
        have HF : Hid (i + d ≤ n) := hfit
        clear hfit
        go_wp2_with fail
        refine cm.mono ?_
        rintro e w2 ⟨rfl, b2⟩
        have X2 := HX.out.1.over b2
        have hbW2 := HX.out.2.1.trans (b2.mono HX.out.2.1.size)
        have hbw2 := HX.out.2.2.trans (b2.mono HX.out.2.2.size)
        have M2 := HM.out.1.over hbw2
        have ca := all_any M2 HM.out.2.1 i d HF.out false
        have x0 := X2.cell 0 _ rfl
        have x1 := X2.cell 1 _ rfl
        have HX2 : Hid (Box w2 xb 32 #[.int .i64 (i : Int), .int .i64 (d : Int)] ∧ Below W.heap.size W w2 ∧ Below w.heap.size w w2) := ⟨X2, hbW2, hbw2⟩
        rw [← hxb]
        clear cm b2 X2 hbW2 hbw2 M2 hxb
        go_wp2_with fail
        refine ca.mono ?_
        rintro e w3 ⟨⟨rfl, hall⟩ | ⟨rfl, hall⟩, b3⟩
        · have X3 := HX2.out.1.over b3
          have hbW3 := HX2.out.2.1.trans (b3.mono HX2.out.2.1.size)
          have hbw3 := HX2.out.2.2.trans (b3.mono HX2.out.2.2.size)
          have M3 : RefM w3.drew b c n tk := ⟨(HM.out.1.over hbw3).rows, HM.out.1.le, HM.out.1.cap⟩
          have cs := set_any M3 (by have := HM.out; have := HF.out; clear hri; omega) HM.out.2.1 i d HF.out true
          have HA : Hid (FitsAt tk n d i ∧ Below W.heap.size W w3 ∧ Below w.heap.size w w3 ∧ Box w3 xb 32 #[.int .i64 (i : Int), .int .i64 (d : Int)]) := ⟨⟨HF.out, hall⟩, hbW3, hbw3, X3⟩
          have y0 := X3.cell 0 _ rfl
          have y1 := X3.cell 1 _ rfl
          clear ca hall b3 X3 hbW3 hbw3 M3 x0 x1
          go_wp2_with fail
          refine wp_region_held_then (fun w' => w'.cell? ⟨xb, 0, none⟩ = some (.int .i64 (i : Int)) ∧ w'.cell? ⟨xb, 1, none⟩ = some (.int .i64 (d : Int))) _ (by kernel_rfl) rfl (by kernel_rfl) ?_
          have hHeld : (fun w' : World => w'.cell? ⟨xb, 0, none⟩ = some (.int .i64 (i : Int)) ∧ w'.cell? ⟨xb, 1, none⟩ = some (.int .i64 (d : Int))) w3.drew := ⟨y0, y1⟩
          dsimp only [List.dropLast, List.length, List.getLast]
          ((refine takeL 0 (v := ?_) rfl (by kernel_rfl) (by kernel_rfl) (by kernel_rfl) (fun _ _ _ h => h) (by rfl) hHeld ?_ ?_; rotate_left; focus (intro w hSw; (try dsimp only at hSw); go_simp <;> with_reducible rfl); (try simp only [Act.put, List.setIfInBounds_toArray, List.set_cons_zero, List.set_cons_succ])); (refine takeL 1 (v := ?_) rfl (by kernel_rfl) (by kernel_rfl) (by kernel_rfl) (fun _ _ _ h => h) (by rfl) hHeld ?_ ?_; rotate_left; focus (intro w hSw; (try dsimp only at hSw); go_simp <;> with_reducible rfl); (try simp only [Act.put, List.setIfInBounds_toArray, List.set_cons_zero, List.set_cons_succ])); (refine takeL 3 (v := ?_) rfl (by kernel_rfl) (by kernel_rfl) (by kernel_rfl) (fun _ _ _ h => h) (by rfl) hHeld ?_ ?_; rotate_left; focus (intro w hSw; (try dsimp only at hSw); go_simp <;> with_reducible rfl); (try simp only [Act.put, List.setIfInBounds_toArray, List.set_cons_zero, List.set_cons_succ])))
          dsimp only [Act.put]
          simp only [List.setIfInBounds_toArray, List.set_cons_zero, List.set_cons_succ]
          refine callL 2 (f := 31) (vs := #[.slice (some ⟨b, 0, none⟩) n c, .agg #[.int .i64 (i : Int), .int .i64 (d : Int)], .bool true]) rfl (by kernel_rfl) (by rfl) (by go_simp) ?_
          refine cs.mono ?_
          rintro e w4 ⟨⟨b', c', rfl, hM4, hb'⟩, b4⟩
          have b4 : Below w3.heap.size w3 w4 := ⟨b4.os, b4.tape, b4.output, b4.size, b4.block⟩
          have X4 := HA.out.2.2.2.over b4
          have hbW4 := HA.out.2.1.trans (b4.mono HA.out.2.1.size)
          have hbw4 := HA.out.2.2.1.trans (b4.mono HA.out.2.2.1.size)
          have Z4 := HM.out.2.2.2.2.over hbW4
          rw [← HZB.out] at Z4
          have z0 := Z4.cell 0 _ rfl
          have z1 := Z4.cell 1 _ rfl
          have f0 := Z4.frozen 0
          have f1 := Z4.frozen 1
          have hHeld2 : (fun w' : World => w'.cell? ⟨xb, 0, none⟩ = some (.int .i64 (i : Int)) ∧ w'.cell? ⟨xb, 1, none⟩ = some (.int .i64 (d : Int))) w4 := ⟨X4.cell 0 _ rfl, X4.cell 1 _ rfl⟩
          have hne : zb ≠ xb := by
            have h1 := HZB.out
            have h2 := HXB.out
            have h3 := HM.out.2.2.2.2.lt
            have h4 := HR.out.2.1.size
            omega
          have hb'' : w.heap.size ≤ b' := Nat.le_trans HA.out.2.2.1.size hb'
          have hbne : b' ≠ zb := by
            have h1 := HZB.out
            have h3 := HM.out.2.2.2.2.lt
            have h4 := HA.out.2.1.size
            have h5 : w3.heap.size ≤ b' := hb'
            omega
          have X5 := (X4.other (a := ⟨zb, 0, none⟩) (Ne.symm hne) (.int .i64 (i : Int))).other (a := ⟨zb, 1, none⟩) (Ne.symm hne) (.int .i64 (d : Int))
          have hHeld3 : (fun w' : World => w'.cell? ⟨xb, 0, none⟩ = some (.int .i64 (i : Int)) ∧ w'.cell? ⟨xb, 1, none⟩ = some (.int .i64 (d : Int))) ((w4.setCell ⟨zb, 0, none⟩ (.int .i64 (i : Int))).setCell ⟨zb, 1, none⟩ (.int .i64 (d : Int))) := ⟨X5.cell 0 _ rfl, X5.cell 1 _ rfl⟩
          have Z5 : Box ((w4.setCell ⟨zb, 0, none⟩ (.int .i64 (i : Int))).setCell ⟨zb, 1, none⟩ (.int .i64 (d : Int))) zb 32 #[.int .i64 (i : Int), .int .i64 (d : Int)] := (Z4.set 0 (.int .i64 (i : Int))).set 1 (.int .i64 (d : Int))
          have M5 : RefM ((w4.setCell ⟨zb, 0, none⟩ (.int .i64 (i : Int))).setCell ⟨zb, 1, none⟩ (.int .i64 (d : Int))) b' c' n (setTo tk i d true) := ⟨(hM4.rows.of_block (heap_setCell_other w4 ⟨zb, 0, none⟩ b' _ hbne)).of_block (heap_setCell_other _ ⟨zb, 1, none⟩ b' _ hbne), hM4.le, hM4.cap⟩
          have hz' : w.heap.size ≤ zb := by rw [HZB.out]; exact Nat.le_refl _
          have B5 := (hbw4.setCell (p := ⟨zb, 0, none⟩) hz' (.int .i64 (i : Int))).setCell (p := ⟨zb, 1, none⟩) hz' (.int .i64 (d : Int))
          refine ⟨_, rfl, hHeld2, ?_⟩
          have HE : Hid (Box ((w4.setCell ⟨zb, 0, none⟩ (.int .i64 (i : Int))).setCell ⟨zb, 1, none⟩ (.int .i64 (d : Int))) zb 32 #[.int .i64 (i : Int), .int .i64 (d : Int)] ∧ RefM ((w4.setCell ⟨zb, 0, none⟩ (.int .i64 (i : Int))).setCell ⟨zb, 1, none⟩ (.int .i64 (d : Int))) b' c' n (setTo tk i d true) ∧ w.heap.size ≤ b' ∧ Below w.heap.size w ((w4.setCell ⟨zb, 0, none⟩ (.int .i64 (i : Int))).setCell ⟨zb, 1, none⟩ (.int .i64 (d : Int)))) := ⟨Z5, M5, hb'', B5⟩
          clear cs hM4 hb' b4 X4 hbW4 hbw4 Z4 hb'' hbne X5 Z5 M5 B5 hne hz' hHeld y0 y1
          ((refine takeL 4 (v := ?_) rfl (by kernel_rfl) (by kernel_rfl) (by kernel_rfl) (fun _ _ _ h => h) (by rfl) hHeld2 ?_ ?_; rotate_left; focus (intro w hSw; (try dsimp only at hSw); go_simp <;> with_reducible rfl); (try simp only [Act.put, List.setIfInBounds_toArray, List.set_cons_zero, List.set_cons_succ])))
          refine stepL 5 ((w4.setCell ⟨zb, 0, none⟩ (.int .i64 (i : Int))).setCell ⟨zb, 1, none⟩ (.int .i64 (d : Int))) rfl (by kernel_rfl) (by rfl) (by go_simp) hHeld3 ?_
          refine doneL (by kernel_rfl) ?_
          clear hHeld2 hHeld3 z0 z1 f0 f1
          dsimp only [Act.put]
          unfold Oper.wp
          go_simp
          go_wp2_with fail
          exact bodyPost_ret (res_three (cs := #[.int .i64 (i : Int), .int .i64 (d : Int)]) Try.results11 _ rfl HE.out.1 Try.underlying32 rfl size_ext _ _ rfl rfl) rfl ⟨.inr ⟨i, b', c', rfl, hi, HA.out.1, HR.out.1, HE.out.2.1, HE.out.2.2.1⟩, HE.out.2.2.2⟩
        · have HA : Hid (¬ FitsAt tk n d i ∧ Below W.heap.size W w3) := ⟨fun h => hall h.2, HX2.out.2.1.trans (b3.mono HX2.out.2.1.size)⟩
          clear ca hall b3 x0 x1
          go_wp2_with fail
          go_roundg (n - (i + 1))
          case measure => clear hri; omega
          case rel =>
            refine ⟨i + 1, by clear hri; omega, by go_num, fun i' hi' => ?_, HA.out.2⟩
            by_cases e : i' = i
            · subst e; exact HA.out.1
            · exact HR.out.1 i' (by clear hri; omega)
      · rw [decide_eq_false (show ¬ (0 < n ∧ (0 : Int) ≤ i ∧ (1 : Int) ≤ d ∧ (d : Int) ≤ n - i) by clear hri; omega)] at cm
        have HF : Hid (¬ FitsAt tk n d i) := fun h => hfit h.1
        clear hfit hxb
        go_wp2_with fail
        refine cm.mono ?_
        rintro e w2 ⟨rfl, b2⟩
        have HA : Hid (Below W.heap.size W w2) := HX.out.2.1.trans (b2.mono HX.out.2.1.size)
        clear cm b2
        go_wp2_with fail
        go_roundg (n - (i + 1))
        case measure => clear hri; omega
        case rel =>
          refine ⟨i + 1, by clear hri; omega, by go_num, fun i' hi' => ?_, HA.out⟩
          by_cases e : i' = i
          · subst e; exact HF.out
          · exact HR.out.1 i' (by clear hri; omega)
    · have hiI : ¬ (i : Int) < (n : Int) := by omega
      have Z4 := HM.out.2.2.2.2.over HR.out.2.1
      rw [← HZB.out] at Z4
      have HZ4 : Hid (Box wr zb 32 #[.int .i64 0, .int .i64 0]) := Z4
      clear Z4
      go_wp2_with (refine wpList_store_row rfl 32 _ _ rfl zb #[.int .i64 0, .int .i64 0] rfl rfl 32 _ HZ4.out size_ext rfl (by decide +kernel) ?_)
      have hbx := HZ4.out.setRow #[.int .i64 0, .int .i64 0]
      have hz' : w.heap.size ≤ zb := by rw [HZB.out]; exact Nat.le_refl _
      obtain rfl : i = n := by omega
      exact bodyPost_ret (res_three (cs := #[.int .i64 0, .int .i64 0]) Try.results11 _ rfl hbx Try.underlying32 rfl size_ext _ _ rfl rfl) rfl ⟨.inl ⟨rfl, HR.out.1⟩, below_setRow HR.out.2.2 hz' _⟩
end Go.Proofs.Ytjnobdgigeejnaa
