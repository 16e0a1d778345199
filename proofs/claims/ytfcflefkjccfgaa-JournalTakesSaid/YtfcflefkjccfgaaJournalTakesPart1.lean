/-
  4 texts, one behind the other: JRefH, DRefN, JT, WJournalTakes.
-/
import Derived.Test.YtfcflefkjccfgaaJoin4
import Derived.Test.YtfcflefkjccfgaaJoin5
import Derived.Deep.Slices
import Derived.OpenShut
import Derived.ChangeArms
import Derived.Deep.DeepCutAuto
import Derived.Deep.CutBlock
/-
  The contract of package peristyleref23's Open, where the power is on.
-/
namespace Go.Proofs.Ytfcflefkjccfgaa
open Go.RowKit Leb

theorem OwnsS.slice {w : World} {B : Nat} {v : Value} {l : List ByteArray} (h : OwnsS w B v l) : ∃ a n c, v = .slice a n c := by
  rcases h.reads with ⟨_, a, c, rfl⟩ | ⟨b, off, c, rfl, _⟩
  · exact ⟨_, _, _, rfl⟩
  · exact ⟨_, _, _, rfl⟩
theorem OwnsS.same {w w' : World} {B : Nat} {v : Value} {l : List ByteArray} (h : OwnsS w B v l) (hk : ∀ g, B ≤ g → w'.heap[g]? = w.heap[g]?) : OwnsS w' B v l := by
  refine ⟨h.1, ?_⟩
  rcases h.2 with hn | ⟨g, cap, cur, rfl, hbg, hg, rest⟩
  · exact .inl hn
  · exact .inr ⟨g, cap, cur, rfl, hbg, by rw [hk g hbg]; exact hg, rest⟩
theorem OwnsS.five {w : World} {B z : Nat} {v : Value} {l : List ByteArray} (h : OwnsS w B v l) (hz : z < B) (x y u t r : Value) : OwnsS (((((w.setCell ⟨z, 0, none⟩ x).setCell ⟨z, 1, none⟩ y).setCell ⟨z, 2, none⟩ u).setCell ⟨z, 3, none⟩ t).setCell ⟨z, 4, none⟩ r) B v l := by
  refine h.same fun g hg => ?_
  rw [heap_setCell_other _ _ _ _ (show g ≠ z by omega), heap_setCell_other _ _ _ _ (show g ≠ z by omega), heap_setCell_other _ _ _ _ (show g ≠ z by omega), heap_setCell_other _ _ _ _ (show g ≠ z by omega), heap_setCell_other _ _ _ _ (show g ≠ z by omega)]
theorem Opn.low {w w1 w2 : World} {dv e : Array Value} (o : Opn w w1 dv e) (b : Below (w.heap.size + 3) w1 w2) : Opn w w2 dv e := ⟨o.bd.below b (by omega), o.be.below b (by omega), o.bj.below b (by omega), o.bel.trans (b.mono (by omega))⟩
theorem Opn.size {w w1 : World} {dv e : Array Value} (o : Opn w w1 dv e) : w.heap.size + 3 ≤ w1.heap.size := by
  have := o.bj.lt
  omega
def OpenOn (B : List (List UInt8)) (f c : Nat) (turn : BitVec 64) (w : World) (e : Ending) (w' : World) : Prop :=
  (((∀ b ∈ extL B f c, okB b = true) ∧ ∃ (out : List (List UInt8)) (u : Nat) (v : Value), e = .returned (.tuple #[.agg (jv f c turn.toInt v u), .int .i64 0]) ∧ OwnsS w' w.heap.size v (bks out) ∧ Recs (extL B f c) turn out u ∧ u ≤ c) ∨
    ((∃ b ∈ extL B f c, okB b = false) ∧ e = .returned (.tuple #[.agg jz, .int .i64 5]))) ∧ Below w.heap.size w w'
set_option maxRecDepth 4000 in
set_option maxHeartbeats 1000000 in
theorem refOpen_on {w : World} {sa : Option Addr} {sc : Nat} {wa : Option Addr} {wc : Nat} {su : List (List UInt8)} {wt : List (Nat × List UInt8)} (hs : SRows w (.slice sa su.length sc) 9 1 (su.map s1)) (hw : SRows w (.slice wa wt.length wc) 92 2 (wt.map w2))
    (hn : su.length ≤ 4096) (hl6 : wt.length ≤ 1000000) (hblk : ∀ b ∈ lay su wt, b.length = 128) (fz : Int) (f c : Nat) (hc : 1 ≤ c) (hfc : f + c ≤ su.length) (turn : BitVec 64) (hm : mayJ su.length f c turn.toInt = true) :
    Calls Try.prog 27 #[.agg #[.slice sa su.length sc, .slice wa wt.length wc, .int .i64 fz, .bool false], .agg #[.int .i64 f, .int .i64 c], .int .i64 turn.toInt] w (OpenOn (lay su wt) f c turn w) := by
  have cm := refMay_any su.length hn f c turn.toInt
  rw [hm] at cm
  have hO := opn_new w #[.slice sa su.length sc, .slice wa wt.length wc, .int .i64 fz, .bool false] #[.int .i64 f, .int .i64 c]
  have HO := (show Hid _ from hO)
  have HSW : Hid (SRows w (.slice sa su.length sc) 9 1 (su.map s1) ∧ SRows w (.slice wa wt.length wc) 92 2 (wt.map w2)) := ⟨hs, hw⟩
  have hBl : (lay su wt).length = su.length := lay_len _ _
  have cr : ∀ (k : Nat) (b : List UInt8), (lay su wt)[f + k]? = some b → ∀ W, Below w.heap.size w W → Calls Try.prog 18 #[.agg #[.slice sa su.length sc, .slice wa wt.length wc, .int .i64 fz, .bool false], .int .i64 ((f : Int) + (k : Int))] W fun e w' => e = .returned (.tuple #[.string (strB b), .int .i64 0]) ∧ Below W.heap.size W w' := by
    intro k b hb W hW
    have := rread_on (w := W) (hs.kept (kept_of_below (fun _ => False) hW) (fun _ _ h => h)) (hw.kept (kept_of_below (fun _ => False) hW) (fun _ _ h => h)) hl6 fz (f + k) b hb
    rw [show ((f + k : Nat) : Int) = (f : Int) + (k : Int) by omega] at this
    exact this
  have HCR := (show Hid _ from cr)
  obtain ⟨B, hB⟩ : ∃ B, B = lay su wt := ⟨_, rfl⟩
  rw [← hB] at hblk hBl HCR ⊢
  have HBK : Hid (∀ b ∈ B, b.length = 128) := hblk
  have HBL : Hid (B.length = su.length ∧ f + c ≤ su.length) := ⟨hBl, hfc⟩
  obtain ⟨n, hnn⟩ : ∃ n, n = su.length := ⟨_, rfl⟩
  obtain ⟨m, hmm⟩ : ∃ m, m = wt.length := ⟨_, rfl⟩
  rw [← hnn, ← hmm] at HO HSW HCR
  rw [← hnn] at HBL cm hfc hn
  rw [← hnn, ← hmm]
  have hcI : (c : Int) ≤ 4096 := by omega
  have hfI : (f : Int) ≤ 4096 := by omega
  clear hm hO hs hw hblk hBl cr hnn hmm hB hl6
  go_enter Try.func27, Try.ntmps27
  go_wp2_with fail
  refine (cm _).mono ?_
  rintro e w1 ⟨rfl, hb1⟩
  have O1 := HO.out.over hb1
  have HO1 := (show Hid _ from O1)
  clear O1 hb1 HO cm
  go_wp2_with fail
  go_loopg [8, 9] c (fun g s8 s9 wx => ∃ k : Nat, k + g = c ∧ s9 = .int .i64 k ∧ OwnsS wx (w.heap.size + 3) s8 (bks ((extL B f c).take k)) ∧ (∀ b ∈ (extL B f c).take k, okB b = true) ∧ Opn w wx #[.slice sa n sc, .slice wa m wc, .int .i64 fz, .bool false] #[.int .i64 f, .int .i64 c])
  case atStart => exact ⟨0, by omega, rfl, ownsS_nil _ _, by simp, HO1.out⟩
  case round =>
    obtain ⟨k, hkg, rfl, hown, hok, hopn⟩ := hrel
    have HOW : Hid (OwnsS wr (w.heap.size + 3) u8 (bks ((extL B f c).take k))) := hown
    have HOK : Hid (∀ b ∈ (extL B f c).take k, okB b = true) := hok
    have HOP := (show Hid _ from hopn)
    have b0 := hopn.bd.cell 0 _ rfl
    have b1 := hopn.bd.cell 1 _ rfl
    have b2 := hopn.bd.cell 2 _ rfl
    have b3 := hopn.bd.cell 3 _ rfl
    have e0 := hopn.be.cell 0 _ rfl
    have e1 := hopn.be.cell 1 _ rfl
    clear hown hok hopn
    by_cases hk : k < c
    · have hkI : (k : Int) < (c : Int) := by omega
      obtain ⟨b, hbk⟩ : ∃ b, B[f + k]? = some b := ⟨_, List.getElem?_eq_getElem (by have := HBL.out; omega)⟩
      have cr := HCR.out k b hbk wr HOP.out.bel
      have c2 := refRead_any b (HBK.out b (List.mem_of_getElem? hbk))
      obtain ⟨S, hS⟩ : ∃ S, S = strB b := ⟨_, rfl⟩
      rw [← hS] at cr c2
      have HSB : Hid (B[f + k]? = some b ∧ S = strB b) := ⟨hbk, hS⟩
      clear hbk hS
      go_wp2_with fail
      refine cr.mono ?_
      rintro e w2 ⟨rfl, hb2⟩
      have O2 := (show Hid _ from HOP.out.over hb2)
      have W2 : Hid (OwnsS w2 (w.heap.size + 3) u8 (bks ((extL B f c).take k))) := HOW.out.below hb2
      clear hb2 cr b0 b1 b2 b3 e0 e1
      go_wp2_with fail
      refine (c2 _).mono ?_
      rintro e w3 ⟨⟨⟨a, nn, x, y, sL⟩, he, _⟩, hb3⟩
      have he2 : e = .returned (.tuple #[.agg #[.int .i64 a.toInt, .int .i64 nn.toInt, .int .i64 x.toInt, .int .i64 y.toInt, .string (strB sL)], .bool (readP b).isSome]) := he
      clear he c2
      subst he2
      have hb4 := hb3.trans ((below1 w3 (.cells #[.int .i64 a.toInt, .int .i64 nn.toInt, .int .i64 x.toInt, .int .i64 y.toInt, .string (strB sL)] 114)).mono hb3.size)
      have O4 := (show Hid _ from O2.out.over hb4)
      have W4 := (show Hid _ from W2.out.below hb4)
      have hsz4 := O4.out.size
      have hlen : (bks ((extL B f c).take k)).length ≤ 4096 := by rw [bks_len, List.length_take]; omega
      have hsn := extL_snoc hk HSB.out.1
      have hbs : bks ((extL B f c).take (k + 1)) = bks ((extL B f c).take k) ++ [S] := by rw [hsn, bks_snoc, HSB.out.2]
      have hmem : b ∈ extL B f c := List.mem_of_getElem? (i := k) (by rw [extL_at hk]; exact HSB.out.1)
      have HM : Hid (bks ((extL B f c).take (k + 1)) = bks ((extL B f c).take k) ++ [S] ∧ (extL B f c).take (k + 1) = (extL B f c).take k ++ [b] ∧ b ∈ extL B f c) := ⟨hbs, hsn, hmem⟩
      obtain ⟨L, hL⟩ : ∃ L, L = bks ((extL B f c).take k) := ⟨_, rfl⟩
      rw [← hL] at W4 hlen
      have HL : Hid (L = bks ((extL B f c).take k)) := hL
      clear hb4 hb3 hL hsn hbs hmem
      cases hr : (readP b).isSome with
      | true =>
        have HR : Hid (okB b = true) := by show _ = _; unfold okB; rw [hr]; rfl
        clear hr
        go_wp2_with (at_builtin; refine append_s rfl (.tmp 57) (.tmp 59) rfl rfl (by rw [World.size_alloc]; rfl) W4.out ?hB ?hl ?_; (case hB => exact hsz4); (case hl => omega); intro v6 w6 hown6 hb6)
        go_roundg (c - (k + 1))
        case measure => omega
        case rel =>
          refine ⟨k + 1, by omega, by go_num, ?_, ?_, O4.out.low hb6⟩
          · rw [HM.out.1, ← HL.out]; exact hown6
          · rw [HM.out.2.1]
            intro b' hb'
            rcases List.mem_append.1 hb' with h | h
            · exact HOK.out b' h
            · rw [List.mem_singleton.1 h]; exact HR.out
      | false =>
        have hz8 : (strB (List.replicate 128 (0 : UInt8))).toList = zeros := strB_toList _
        obtain ⟨Z, hZ⟩ : ∃ Z, Z = strB (List.replicate 128 (0 : UInt8)) := ⟨_, rfl⟩
        rw [← hZ] at hz8
        have HZ : Hid (Z = strB (List.replicate 128 (0 : UInt8))) := hZ
        by_cases hbz : b = zeros
        · have hqb : (S.toList == Z.toList) = true := by rw [HSB.out.2, strB_toList, hz8, hbz]; simp
          have HR : Hid (okB b = true) := by show _ = _; unfold okB; rw [hbz]; simp
          clear hr hbz hZ hz8
          go_wp2_with (first
            | (at_make; refine make_u8g ?hw _ _ rfl (n := 128) rfl rfl rfl (by omega) ?_; (case hw => first | rfl | simp [Region.wanted, yielded]); intro w5 hrow hb5; have htx := hrow.text 128; rw [List.length_replicate, ← HZ.out, World.size_alloc] at htx; have O5 := (show Hid _ from O4.out.over hb5); have W5 := (show Hid _ from OwnsS.below (B := w.heap.size + 3) (v := u8) (l := L) W4.out hb5); have hsz5 := O5.out.size)
            | (at_builtin; refine append_s rfl (.tmp 57) (.tmp 59) rfl rfl rfl W5.out ?hB ?hl ?_; (case hB => exact hsz5); (case hl => omega); intro v6 w6 hown6 hb6))
          go_roundg (c - (k + 1))
          case measure => omega
          case rel =>
            refine ⟨k + 1, by omega, by go_num, ?_, ?_, O5.out.low hb6⟩
            · rw [HM.out.1, ← HL.out]; exact hown6
            · rw [HM.out.2.1]
              intro b' hb'
              rcases List.mem_append.1 hb' with h | h
              · exact HOK.out b' h
              · rw [List.mem_singleton.1 h]; exact HR.out
        · have hqb : (S.toList == Z.toList) = false := by rw [HSB.out.2, strB_toList, hz8]; simpa using hbz
          have HR : Hid (okB b = false) := by show _ = _; unfold okB; rw [hr]; simpa using hbz
          clear hr hbz hZ hz8
          go_wp2_with (at_make; refine make_u8g ?hw _ _ rfl (n := 128) rfl rfl rfl (by omega) ?_; (case hw => first | rfl | simp [Region.wanted, yielded]); intro w5 hrow hb5; have htx := hrow.text 128; rw [List.length_replicate, ← HZ.out, World.size_alloc] at htx; have O5 := (show Hid _ from O4.out.over hb5); have W5 := (show Hid _ from OwnsS.below (B := w.heap.size + 3) (v := u8) (l := L) W4.out hb5); have hsz5 := O5.out.size; have z0 := O5.out.bj.cell 0 _ rfl; have z1 := O5.out.bj.cell 1 _ rfl; have z2 := O5.out.bj.cell 2 _ rfl; have z3 := O5.out.bj.cell 3 _ rfl; have z4 := O5.out.bj.cell 4 _ rfl; have y0 := O5.out.bj.frozen 0; have y1 := O5.out.bj.frozen 1; have y2 := O5.out.bj.frozen 2; have y3 := O5.out.bj.frozen 3; have y4 := O5.out.bj.frozen 4)
          have F5 := box_five O5.out.bj (.int .i64 0) (.int .i64 0) (.int .i64 0) (.slice none 0 0) (.int .i64 0)
          have hb3 := below_five O5.out.bel (z := w.heap.size + 1 + 1) (by omega) (.int .i64 0) (.int .i64 0) (.int .i64 0) (.slice none 0 0) (.int .i64 0)
          exact bodyPost_ret (res_box_slot Try.results27 _ rfl F5 Try.underlying41 rfl size_jv _ rfl) rfl ⟨.inr ⟨⟨b, HM.out.2.2, HR.out⟩, rfl⟩, hb3⟩
    · have hkI : ¬ (k : Int) < (c : Int) := by omega
      have hkc : k = c := by omega
      subst hkc
      have hEl : (extL B f k).length = k := extL_len (by have := HBL.out; omega)
      have htk : (extL B f k).take k = extL B f k := List.take_of_length_le (by omega)
      have hR := HOW.out.reads
      rw [htk] at hR
      have c3 := refRecords_any (extL B f k) (fun b hb => HBK.out b (List.mem_of_mem_drop (List.mem_of_mem_take hb))) (by omega) (by omega) turn u8 wr hR
      have HOKA : Hid (∀ b ∈ extL B f k, okB b = true) := by
        intro b hb
        exact HOK.out b (by rw [htk]; exact hb)
      have HEL : Hid ((extL B f k).length = k) := hEl
      clear hEl htk hR
      go_wp2_with fail
      refine c3.mono ?_
      rintro e w2 ⟨⟨out, u, v, rfl, hown, hrec, hu⟩, hb2⟩
      rw [HEL.out] at hu
      obtain ⟨va, vn, vc, rfl⟩ := hown.slice
      have O2 := HOP.out.over hb2
      have HRC : Hid (Recs (extL B f k) turn out u ∧ u ≤ k) := ⟨hrec, hu⟩
      have hown2 := (OwnsS.five hown (z := w.heap.size + 1 + 1) (by have := HOP.out.size; omega) (.int .i64 f) (.int .i64 k) (.int .i64 turn.toInt) (.slice va vn vc) (.int .i64 u)).base (B' := w.heap.size) HOP.out.bel.size
      have e0' := O2.be.cell 0 _ rfl
      have e1' := O2.be.cell 1 _ rfl
      have z0 := O2.bj.cell 0 _ rfl
      have z1 := O2.bj.cell 1 _ rfl
      have z2 := O2.bj.cell 2 _ rfl
      have z3 := O2.bj.cell 3 _ rfl
      have z4 := O2.bj.cell 4 _ rfl
      have y0 := O2.bj.frozen 0
      have y1 := O2.bj.frozen 1
      have y2 := O2.bj.frozen 2
      have y3 := O2.bj.frozen 3
      have y4 := O2.bj.frozen 4
      have HO2 := (show Hid _ from O2)
      have HOW2 := (show Hid _ from hown2)
      clear O2 hown hown2 hrec hu hb2 c3
      have F5 := box_five HO2.out.bj (.int .i64 f) (.int .i64 k) (.int .i64 turn.toInt) (.slice va vn vc) (.int .i64 u)
      have hb3 := below_five HO2.out.bel (z := w.heap.size + 1 + 1) (by omega) (.int .i64 f) (.int .i64 k) (.int .i64 turn.toInt) (.slice va vn vc) (.int .i64 u)
      have hHF := (show Hid _ from F5)
      have hHB := (show Hid _ from hb3)
      clear F5 hb3
      go_wp2_with fail
      exact bodyPost_ret (res_box_slot Try.results27 _ rfl hHF.out Try.underlying41 rfl size_jv _ rfl) rfl ⟨.inl ⟨HOKA.out, out, u, _, rfl, HOW2.out, HRC.out.1, HRC.out.2⟩, hHB.out⟩
end Go.Proofs.Ytfcflefkjccfgaa
/-
  The contract of peristyleref04's New.
-/
namespace Go.Proofs.Ytfcflefkjccfgaa
open Go.RowKit

set_option maxHeartbeats 2000000 in
theorem rnew_any (n : Nat) (h1 : 1 ≤ n) (h2 : n ≤ 4096) (w : World) :
    Calls Try.prog 9 #[.int .i64 n] w fun e w' => (∃ va vc, e = .returned (.tuple #[.agg #[.slice va n vc, .slice none 0 0, .int .i64 (-1), .bool false], .int .i64 0]) ∧ SRows w' (.slice va n vc) 9 1 ((List.replicate n (List.replicate 128 (0 : UInt8))).map s1) ∧ ∀ x, (Value.slice va n vc).ownBlock = some x → w.heap.size ≤ x) ∧ Below w.heap.size w w' := by
  have g1 : ¬ (n : Int) < 1 := by omega
  have g2 : ¬ (4096 : Int) < (n : Int) := by omega
  obtain ⟨i0, hi0, hz0, hz1, hz2⟩ := info_parts info_str
  have HI : Hid (Try.prog.info? 9 = some i0 ∧ i0.zero = some (.string { data := #[] }) ∧ i0.size = 1 ∧ i0.bytes = 16) := ⟨hi0, hz0, hz1, hz2⟩
  obtain ⟨Z, hZ⟩ : ∃ Z, Z = List.replicate 128 (0 : UInt8) := ⟨_, rfl⟩
  rw [← hZ]
  obtain ⟨str, hstr⟩ : ∃ str, str = strB Z := ⟨_, rfl⟩
  have HS : Hid (str = strB Z) := hstr
  have HZ : Hid (Z = List.replicate 128 (0 : UInt8)) := hZ
  clear hZ hstr
  clear hi0 hz0 hz1 hz2
  go_enter Try.func9, Try.ntmps9
  go_wp2_with (refine make_u8 rfl _ _ rfl (n := 128) rfl rfl rfl (by omega) ?_; intro w1 hrow1 hb1; have ht := hrow1.text 128; rw [List.length_replicate, ← HZ.out, World.size_alloc, ← HS.out] at ht)
  have B0 := (box_new w (rd none 0 0 none 0 0 0 false) 30).over hb1
  have hBB := (below1 w _).trans (hb1.mono (by simp))
  have hsz : w.heap.size + 1 ≤ w1.heap.size := by have := hb1.size; simpa using this
  have H0 : Hid (Box w1 w.heap.size 30 (rd none 0 0 none 0 0 0 false) ∧ Below w.heap.size w w1 ∧ w.heap.size + 1 ≤ w1.heap.size) := ⟨B0, hBB, hsz⟩
  clear hrow1 hb1 ht B0 hBB hsz
  go_loopg [4, 6] n (fun g s4 s6 wx => ∃ (k : Nat) (va : Option Addr) (vc : Nat), k + g = n ∧ s6 = .int .i64 k ∧ s4 = .slice va k vc ∧ SRows wx (.slice va k vc) 9 1 ((List.replicate k Z).map s1) ∧ (∀ x, (Value.slice va k vc).ownBlock = some x → w.heap.size + 1 ≤ x) ∧ Box wx w.heap.size 30 (rd none 0 0 none 0 0 0 false) ∧ Below w.heap.size w wx ∧ w.heap.size + 1 ≤ wx.heap.size)
  case atStart => exact ⟨0, none, 0, by omega, rfl, rfl, srows_nil _ _ _, noOwn _, H0.out⟩
  case round =>
    obtain ⟨k, va, vc, hkg, rfl, rfl, hr, hown, hbox, hbel, hsz⟩ := hrel
    clear H0
    by_cases hk : k < n
    · have hkI : (k : Int) < (n : Int) := by omega
      have hr2 : IntKind.i64.wrap ((k : Int) + 1) = (k : Int) + 1 := by rw [IntKind.wrap_i64]; omega
      have hl6 : k + 1 ≤ 1000000 := by clear hr2; omega
      have HK : Hid (((List.replicate k Z).map s1).length + [[Value.string str]].length = k + 1 ∧ ((List.replicate k Z).map s1) ++ [[Value.string str]] = ((List.replicate (k + 1) Z).map s1)) := ⟨by simp, by rw [HS.out, List.replicate_succ']; simp [s1]⟩
      have HR : Hid (SRows wr (.slice va k vc) 9 1 ((List.replicate k Z).map s1) ∧ (∀ x, (Value.slice va k vc).ownBlock = some x → w.heap.size + 1 ≤ x) ∧ Box wr w.heap.size 30 (rd none 0 0 none 0 0 0 false) ∧ Below w.heap.size w wr ∧ w.heap.size + 1 ≤ wr.heap.size) := ⟨hr, hown, hbox, hbel, hsz⟩
      clear hr hown hbox hbel
      go_wp2_with (at_builtin; refine append_rows rfl (.tmp 21) (.tmp 23) 27 9 i0 _ 1 16 rfl Try.underlying27 HI.out.1 HI.out.2.1 HI.out.2.2.1 HI.out.2.2.2 rfl (by decide) (by decide) rfl rfl (HR.out.1.of_block (fun k hk => heap_alloc_old _ _ (HR.out.1.lt hk))) (srows_new wr [.string str] 9 (sz := 1) rfl) HR.out.2.1 ?hB ?h1 (k + 1) HK.out.1 ((List.replicate (k + 1) Z).map s1) HK.out.2 hl6 ?_; (case hB => simp; omega); (case h1 => intro r hr c hc; simp at hr; subst hr; simp at hc; subst hc; rfl); intro va4 vc4 w4 h1 h2 h4; have HY : Hid (SRows w4 (.slice va4 (k + 1) vc4) 9 1 ((List.replicate (k + 1) Z).map s1) ∧ (∀ k', (Value.slice va4 (k + 1) vc4).ownBlock = some k' → w.heap.size + 1 ≤ k') ∧ Below (w.heap.size + 1) (wr.alloc (.cells #[.string str] 9)) w4) := ⟨h1, h2, h4⟩; clear h1 h2 h4)
      obtain ⟨h1, h2, h4⟩ := HY.out
      obtain ⟨_, _, hbox, hbel, hsz⟩ := HR.out
      have a1 := hbel.alloc hbel.size (.cells #[.string str] 9)
      go_roundg (n - (k + 1))
      case measure => clear hr2; omega
      case rel => exact ⟨k + 1, va4, vc4, by clear hr2; omega, by go_num, rfl, h1, h2, (hbox.alloc _).below h4 (Nat.lt_succ_self _), a1.trans (h4.mono (Nat.le_succ _)), Nat.le_trans hsz (Nat.le_trans (by simp) h4.size)⟩
    · have hkI : ¬ (k : Int) < (n : Int) := by omega
      obtain rfl : k = n := by omega
      have F1 := hbox.setRow (rd va k vc none 0 0 (-1) false)
      have hone := rd_one va k vc none 0 0 (-1) false
      have HR : Hid (SRows wr (.slice va k vc) 9 1 ((List.replicate k Z).map s1) ∧ (∀ x, (Value.slice va k vc).ownBlock = some x → w.heap.size + 1 ≤ x) ∧ Below w.heap.size w wr) := ⟨hr, hown, hbel⟩
      clear hr hown hbel
      go_wp2_with (refine wpList_store_row rfl 30 _ _ rfl w.heap.size (rd va k vc none 0 0 (-1) false) rfl rfl 30 _ hbox size_rd rfl hone ?_)
      obtain ⟨hr, hown, hbel⟩ := HR.out
      refine bodyPost_ret (res_box_slot Try.results9 _ rfl F1 Try.underlying30 rfl size_rd _ rfl) rfl ⟨⟨_, _, rfl, ?_, fun x hx => by have := hown x hx; omega⟩, below_setRow hbel (Nat.le_refl _) _⟩
      rw [List.map_replicate] at hr
      refine hr.of_block fun x hx => ?_
      have h9 := hown x hx
      exact setRow_other _ _ _ _ (by omega)
end Go.Proofs.Ytfcflefkjccfgaa
/-
  What law JournalTakes is handed: texts, and numbers four by four; the document's device as a variable.
-/
namespace Go.Proofs.Ytfcflefkjccfgaa
open Go.RowKit Leb

theorem cells_type {w : World} {b : Nat} {c c' : Array Value} {t t' : TypeId} {f f' : Nat × Nat} (h : w.heap[b]? = some (.cells c t f)) (h' : w.heap[b]? = some (.cells c' t' f')) : t = t' := by
  rw [h] at h'
  cases h'
  rfl
theorem dev_ne_box {w : World} {H : Hnd} {s : St} {b : Nat} {c : Array Value} (D : DevIs w H s) (B : Box w b 30 c) : ¬ H.foot b := by
  intro hf
  rcases hf with rfl | rfl | rfl | hf
  · have := cells_type B D.dev
    simp at this
  · obtain ⟨cur, h1, _⟩ := D.sure
    have := cells_type B h1
    simp at this
  · obtain ⟨cur, h1, _⟩ := D.seen
    have := cells_type B h1
    simp at this
  · rcases D.wait with ⟨hv, _⟩ | ⟨g, cap, hv, _, _, cur, h1, _⟩
    · rw [hv] at hf; simp [Value.ownBlock] at hf
    · rw [hv] at hf
      simp [Value.ownBlock] at hf
      subst hf
      have := cells_type B h1
      simp at this
theorem srows_ne_box {w : World} {v : Value} {t t' : TypeId} {sz : Nat} {R : List (List Value)} {b : Nat} {c : Array Value} (h : SRows w v t sz R) (B : Box w b t' c) (ht : t ≠ t') : ∀ k, v.ownBlock = some k → k ≠ b := by
  intro k hk e
  subst e
  rcases h with ⟨rfl, _⟩ | ⟨g, cap, rfl, _, _, cur, h1, _⟩
  · simp [Value.ownBlock] at hk
  · simp [Value.ownBlock] at hk
    subst hk
    exact ht (cells_type h1 B)
/-- What turns one block alone, in which the document's device lies as a variable. -/
theorem Both.box {w w' : World} {H : Hnd} {R : RH} {s : St} {b : Nat} {c : Array Value} (B : Both w H R s) (X : Box w b 30 c) (k : Kept (fun x => x = b) w w') : Both w' H R s :=
  ⟨B.dev.kept k (fun x hx e => dev_ne_box B.dev X (by rw [← e]; exact hx)),
    ⟨B.ref.sure.kept k (fun g hg e => srows_ne_box B.ref.sure X (by decide) g hg e), B.ref.wait.kept k (fun g hg e => srows_ne_box B.ref.wait X (by decide) g hg e), B.ref.g1, B.ref.g2⟩⟩
/-- What a law's walk is told of a slice of texts that came in. -/
def StrsAre (w : World) (a : Option Addr) (len : Nat) : Prop := ∃ l : List ByteArray, l.length = len ∧ len ≤ maxLen ∧ ∀ cap, ReadsS w (.slice a len cap) l
theorem strsAre_of {H : Type} {enc : TypeId × Value → H} {W : World} {base : Nat} {sp : Nat → Bool} {hd : Bool} {fuel : Nat} {a : Option Addr} {len cap : Nat} {x : DataW H × List MemPlace}
    (h : DataW.trod enc Try.prog W base sp hd fuel 27 [.slice a len cap] = some x) : StrsAre W a len := by
  obtain ⟨l, h1, h2, h3⟩ := strs_of h
  refine ⟨l, h1, by omega, fun c => ?_⟩
  rcases h2 with ⟨rfl, a', c', hv⟩ | ⟨b, off, c', hv, hne, hb, hc⟩
  · refine .inl ⟨rfl, a, c, ?_⟩
    simp only [List.length_nil] at h1
    rw [← h1]
  · simp only [Value.slice.injEq] at hv
    exact .inr ⟨b, off, c, by rw [hv.1, hv.2.1], hne, hb, hc⟩
structure FourAt (w : World) (b o : Nat) (x0 x1 x2 x3 : BitVec 64) : Prop where
  c0 : w.cell? ⟨b, o, none⟩ = some (.int .i64 x0.toInt)
  c1 : w.cell? ⟨b, o + 1, none⟩ = some (.int .i64 x1.toInt)
  c2 : w.cell? ⟨b, o + 2, none⟩ = some (.int .i64 x2.toInt)
  c3 : w.cell? ⟨b, o + 3, none⟩ = some (.int .i64 x3.toInt)
theorem FourAt.below {w w' : World} {b o : Nat} {x0 x1 x2 x3 : BitVec 64} (h : FourAt w b o x0 x1 x2 x3) (hb : b < w.heap.size) (k : Below w.heap.size w w') : FourAt w' b o x0 x1 x2 x3 :=
  ⟨(k.cell (p := ⟨b, o, none⟩) hb).trans h.c0, (k.cell (p := ⟨b, o + 1, none⟩) hb).trans h.c1, (k.cell (p := ⟨b, o + 2, none⟩) hb).trans h.c2, (k.cell (p := ⟨b, o + 3, none⟩) hb).trans h.c3⟩
def FoursAre (w : World) (a : Option Addr) (len : Nat) : Prop :=
  len ≤ maxLen ∧ ∀ i, i < len → ∃ b off, a = some ⟨b, off, none⟩ ∧ b < w.heap.size ∧ ∃ x0 x1 x2 x3, FourAt w b (off + i * 4) x0 x1 x2 x3
set_option maxRecDepth 100000 in
theorem fours_of {H : Type} {enc : TypeId × Value → H} {W : World} {base : Nat} {hd : Bool} {fuel : Nat} {a : Option Addr} {len cap : Nat} {x : DataW H × List MemPlace}
    (h : DataW.trod enc Try.prog W base (fun _ => true) hd fuel 61 [.slice a len cap] = some x) : FoursAre W a len := by
  rcases Go.Deep.open_slice Try.underlying61 h with ⟨h0, _⟩ | ⟨ad, ln, cp, m, n, D, Pl, hv, _, hl, hm, hmm, _, hx⟩
  · simp at h0
    obtain ⟨rfl, rfl, rfl⟩ := h0
    exact ⟨Nat.zero_le _, fun i hi => by omega⟩
  · simp at hv
    obtain ⟨rfl, rfl, rfl⟩ := hv
    refine ⟨Nat.le_trans hl hm, fun i hi => ?_⟩
    have him : i < m := by rw [hmm]; split <;> omega
    obtain ⟨cs', h1, h2⟩ := hx i him
    have ce : Try.prog.cellsOf 63 = 4 := by kernel_rfl
    rw [ce] at h1
    obtain ⟨_, hlen, hcell⟩ := World.cells?_some h1
    obtain ⟨xs, k, hk, hxy, _, hxl, hf⟩ := DataW.trod_array Try.underlying63 h2
    match cs', hlen with
    | [v0, v1, v2, v3], _ =>
      have d3 : Try.prog.cellsOf 3 = 1 := by kernel_rfl
      have g0 := hf 0 (by omega)
      have g1 := hf 1 (by omega)
      have g2 := hf 2 (by omega)
      have g3 := hf 3 (by omega)
      rw [d3] at g0 g1 g2 g3
      replace g0 : DataW.trod enc Try.prog W base (fun _ => true) hd k 3 [v0] = xs[0]? := g0
      replace g1 : DataW.trod enc Try.prog W base (fun _ => true) hd k 3 [v1] = xs[1]? := g1
      replace g2 : DataW.trod enc Try.prog W base (fun _ => true) hd k 3 [v2] = xs[2]? := g2
      replace g3 : DataW.trod enc Try.prog W base (fun _ => true) hd k 3 [v3] = xs[3]? := g3
      match xs, hxl with
      | [y0, y1, y2, y3], _ =>
        obtain ⟨z0, e0, _, r0⟩ := DataW.trod_int Try.underlying3 g0
        obtain ⟨z1, e1, _, r1⟩ := DataW.trod_int Try.underlying3 g1
        obtain ⟨z2, e2, _, r2⟩ := DataW.trod_int Try.underlying3 g2
        obtain ⟨z3, e3, _, r3⟩ := DataW.trod_int Try.underlying3 g3
        simp only [List.cons.injEq, and_true] at e0 e1 e2 e3
        subst e0 e1 e2 e3
        obtain ⟨x0, rfl⟩ := Wd.word_of z0 r0
        obtain ⟨x1, rfl⟩ := Wd.word_of z1 r1
        obtain ⟨x2, rfl⟩ := Wd.word_of z2 r2
        obtain ⟨x3, rfl⟩ := Wd.word_of z3 r3
        have q0 := hcell 0 (by omega)
        have q1 := hcell 1 (by omega)
        have q2 := hcell 2 (by omega)
        have q3 := hcell 3 (by omega)
        simp only [List.getElem?_cons_zero, List.getElem?_cons_succ, Go.Deep.add_add] at q0 q1 q2 q3
        obtain ⟨b, off, spot⟩ := ad
        have hspot : spot = none := by
          obtain ⟨cs0, h10, _⟩ := hx 0 (by omega)
          rw [ce] at h10
          obtain ⟨_, hlen0, hcell0⟩ := World.cells?_some h10
          have q := hcell0 0 (by omega)
          rw [List.getElem?_eq_getElem (by omega)] at q
          have := World.cell?_spot q
          simpa [Addr.add] using this
        subst hspot
        have hadd : ∀ t : Nat, (⟨b, off, none⟩ : Addr).add t = ⟨b, off + t, none⟩ := fun t => by unfold Addr.add; split <;> simp_all
        rw [hadd] at q0 q1 q2 q3
        have hbw : b < W.heap.size := World.block_lt_of_cell? W _ q0
        exact ⟨b, off, rfl, hbw, x0, x1, x2, x3, by simpa using q0, by simpa [Nat.add_assoc] using q1, by simpa [Nat.add_assoc] using q2, by simpa [Nat.add_assoc] using q3⟩
theorem Jnl.keptF {F : Nat → Prop} {w w' : World} {J : Jh} {s : St} {f c : Nat} {turn : BitVec 64} {u : Nat} {out : List (List UInt8)} (j : Jnl w J s f c turn u out) (k : Kept F w w') (hF : ∀ x, J.foot x → ¬ F x) : Jnl w' J s f c turn u out :=
  ⟨j.dev.kept k (fun x hx => hF x (.inl hx)), j.box.kept k (hF _ (.inr (.inl rfl))), j.recs.keptS (fun x hx => k.block x (owns_lt j.recs hx) (hF x (.inr (.inr hx)))), j.np, j.nr⟩
theorem kept_five {F : Nat → Prop} {a w : World} (h : Kept F a w) {z : Nat} (hz : F z ∨ a.heap.size ≤ z) (x y u v r : Value) : Kept F a (((((w.setCell ⟨z, 0, none⟩ x).setCell ⟨z, 1, none⟩ y).setCell ⟨z, 2, none⟩ u).setCell ⟨z, 3, none⟩ v).setCell ⟨z, 4, none⟩ r) :=
  ((((h.setCell (p := ⟨z, 0, none⟩) hz x).setCell (p := ⟨z, 1, none⟩) hz y).setCell (p := ⟨z, 2, none⟩) hz u).setCell (p := ⟨z, 3, none⟩) hz v).setCell (p := ⟨z, 4, none⟩) hz r
/-- What ref23's Open tells of blocks of which the code's told the records. -/
theorem refOpen_same {B : List (List UInt8)} {tb : BitVec 64} {out : List (List UInt8)} {u : Nat} (hok : ∀ b ∈ extL B 3 40, okB b = true) (hr : Recs (extL B 3 40) tb out u) {w : World} {e : Ending} {w' : World} (h : OpenOn B 3 40 tb w e w') : (∃ va vn vc, e = .returned (.tuple #[.agg (jv 3 40 tb.toInt (.slice va vn vc) u), .int .i64 0]) ∧ OwnsS w' w.heap.size (.slice va vn vc) (bks out)) ∧ Below w.heap.size w w' := by
  obtain ⟨h, hb⟩ := h
  refine ⟨?_, hb⟩
  rcases h with ⟨_, o2, u2, v, he, hv, hr2, _⟩ | ⟨⟨b, hb1, hb2⟩, _⟩
  · obtain ⟨e1, e2⟩ := hr2.unique hr
    subst e1 e2
    obtain ⟨va, vn, vc, rfl⟩ := hv.slice
    exact ⟨va, vn, vc, he, hv⟩
  · rw [hok b hb1] at hb2; cases hb2
/-- The device, the document's, and the variable in which that lies. -/
structure Tk (w wx : World) (hp qb : Nat) (H : Hnd) (R : RH) (s : St) (i : Nat) : Prop where
  both : Both wx H R s
  hp : H.p = hp
  foot : ∀ k, H.foot k → w.heap.size ≤ k
  box : Box wx qb 30 (rd R.sa s.sure.length R.sc R.wa s.wait.length R.wc s.fz s.off)
  qw : w.heap.size ≤ qb
  n50 : s.sure.length = 50
  off : s.off = false
  fuse : s.fuse < 0
  wait : s.wait.length = i
  bel : Below w.heap.size w wx
theorem Tk.over {w w1 w2 : World} {hp qb : Nat} {H : Hnd} {R : RH} {s : St} {i : Nat} (o : Tk w w1 hp qb H R s i) (b : Below w1.heap.size w1 w2) : Tk w w2 hp qb H R s i :=
  ⟨o.both.below b, o.hp, o.foot, o.box.over b, o.qw, o.n50, o.off, o.fuse, o.wait, o.bel.trans (b.mono o.bel.size)⟩
/-- The variable alone. -/
structure Tq (w wx : World) (qb : Nat) (R : RH) (n1 n2 : Nat) (n3 : Int) (n4 : Bool) : Prop where
  box : Box wx qb 30 (rd R.sa n1 R.sc R.wa n2 R.wc n3 n4)
  bel : Below w.heap.size w wx
theorem Tq.over {w w1 w2 : World} {qb : Nat} {R : RH} {n1 n2 : Nat} {n3 : Int} {n4 : Bool} (o : Tq w w1 qb R n1 n2 n3 n4) (b : Below w1.heap.size w1 w2) : Tq w w2 qb R n1 n2 n3 n4 := ⟨o.box.over b, o.bel.trans (b.mono o.bel.size)⟩
theorem putR_free {s : St} (ho : s.off = false) (hf : s.fuse < 0) {k : Nat} (hk : k < s.sure.length) {str : ByteArray} (h8 : str.size = 128) : PutR s (k : Int) str (s.write k str.data.toList) 0 :=
  ⟨fun h => absurd ⟨⟨by omega, by omega⟩, h8⟩ h, fun _ h => (by rw [free_goes ho hf] at h; cases h), fun _ _ => ⟨by simp, rfl⟩⟩
end Go.Proofs.Ytfcflefkjccfgaa
/-
  The walk of law JournalTakes: it answers true, whatever lies in the blocks, whatever turn is asked.
-/
namespace Go.Proofs.Ytfcflefkjccfgaa
open Go.RowKit Leb

set_option maxRecDepth 4000 in
set_option maxHeartbeats 40000000 in
theorem walkJournalTakes (a0 : Option Addr) (len0 cap0 : Nat) (w : World) (h0 : FoursAre w a0 len0) (a1 : Option Addr) (len1 cap1 : Nat) (h1 : StrsAre w a1 len1) (t : Int) (rt : (Lit.int .i64 t).wf = true) :
    Calls Try.prog 5 #[.slice a0 len0 cap0, .slice a1 len1 cap1, .int .i64 t] w fun e w' => e = .returned (.bool true) ∧ Below w.heap.size w w' := by
  obtain ⟨tb, htb⟩ := Wd.word_of t rt
  have HT : Hid (t = tb.toInt) := htb
  have cnew := new_any 50 (by omega) (by omega) w
  have crn := fun w => rnew_any 50 (by omega) (by omega) w
  obtain ⟨ls, hls, hlm, hrs⟩ := h1
  have hl0 : (len0 : Int) ≤ 9223372036854775807 := by have := h0.1; unfold maxLen at this; omega
  have hl1 : (len1 : Int) ≤ 9223372036854775807 := by unfold maxLen at hlm; omega
  have H0 : Hid (∀ i, i < len0 → ∃ b off, a0 = some ⟨b, off, none⟩ ∧ b < w.heap.size ∧ ∃ x0 x1 x2 x3, FourAt w b (off + i * 4) x0 x1 x2 x3) := h0.2
  have H1 : Hid (∀ i, i < len1 → ∃ b off T, a1 = some ⟨b, off, none⟩ ∧ b < w.heap.size ∧ w.cell? ⟨b, off + i, none⟩ = some (.string T)) := by
    intro i hi
    rcases hrs cap1 with ⟨h, _⟩ | ⟨b, off, c, hv, _, hb, hc⟩
    · rw [h] at hls; simp at hls; omega
    · simp only [Value.slice.injEq] at hv
      exact ⟨b, off, ls[i]'(by omega), hv.1, hb, hc i _ (List.getElem?_eq_getElem (by omega))⟩
  clear rt htb h0 hls hlm hrs
  go_enter Try.func5, Try.ntmps5
  go_wp2_with fail
  refine cnew.mono ?_
  rintro e w1 ⟨H, rfl, D1, b1, hF⟩
  have HD : Hid (DevIs w1 H (St.new 50) ∧ Below w.heap.size w w1 ∧ ∀ k, H.foot k → w.heap.size ≤ k) := ⟨D1, b1, hF⟩
  obtain ⟨hp, hhp⟩ : ∃ hp, hp = H.p := ⟨_, rfl⟩
  have HH : Hid (hp = H.p) := hhp
  rw [← hhp]
  clear D1 b1 hF cnew hhp
  go_wp2_with fail
  refine (crn _).mono ?_
  rintro e w2 ⟨⟨va, vc, rfl, hsr, hown⟩, b2⟩
  have HTK : Hid (Tk w (w2.alloc (.cells (rd va 50 vc none 0 0 (-1) false) 30)) hp w2.heap.size H ⟨va, vc, none, 0⟩ (St.new 50) 0) := by
    obtain ⟨d1, b1, hF⟩ := HD.out
    have bl := below1 w2 (.cells (rd va 50 vc none 0 0 (-1) false) 30)
    have B : Both w2 H ⟨va, vc, none, 0⟩ (St.new 50) := ⟨d1.below b2, ⟨hsr, srows_nil _ _ _, fun k hk hf => (by have := hown k hk; have := d1.lt hf; omega), fun k hk => by simp [Value.ownBlock] at hk⟩⟩
    have b12 := b1.trans (b2.mono b1.size)
    exact ⟨B.below bl, HH.out.symm, hF, box_new _ _ _, b12.size, rfl, rfl, fuse_new, rfl, b12.trans (bl.mono b12.size)⟩
  clear hsr hown b2 crn
  by_cases h8 : (8 : Int) < (len0 : Int) ∨ (8 : Int) < (len1 : Int)
  · have hcs : (8 : Int) < (len0 : Int) ∨ (¬ (8 : Int) < (len0 : Int) ∧ (8 : Int) < (len1 : Int)) := by omega
    clear h8
    rcases hcs with hq | ⟨hq1, hq2⟩
    all_goals
      go_wp2_with fail
      refine (awake23 _).mono ?_
      rintro e w3 ⟨rfl, b3⟩
      go_wp2_with fail
      go_ret
      exact ⟨rfl, HTK.out.bel.trans (b3.mono HTK.out.bel.size)⟩
  · have hq1 : ¬ (8 : Int) < (len0 : Int) := by omega
    have hq2 : ¬ (8 : Int) < (len1 : Int) := by omega
    clear h8
    obtain ⟨M, hM1, hM2, hM3⟩ : ∃ M, M ≤ len0 ∧ M ≤ len1 ∧ (len0 ≤ M ∨ len1 ≤ M) := ⟨min len0 len1, by omega, by omega, by omega⟩
    obtain ⟨qb, hqb⟩ : ∃ qb, qb = w2.heap.size := ⟨_, rfl⟩
    go_wp2_with fail
    rw [← hqb] at HTK ⊢
    clear hqb
    go_loopg [11] M (fun g s11 wx => ∃ (i : Nat) (H : Hnd) (R : RH) (s : St), i + g = M ∧ s11 = .int .i64 i ∧ Tk w wx hp qb H R s i)
    case atStart => exact ⟨0, H, _, _, by omega, rfl, HTK.out⟩
    case round =>
      clear HTK HD HH H
      obtain ⟨i, H, R, s, hig, rfl, htk⟩ := hrel
      have HTK : Hid (Tk w wr hp qb H R s i) := htk
      by_cases hi : i < M
      · have hi0 : (i : Int) < (len0 : Int) := by omega
        have hi1 : (i : Int) < (len1 : Int) := by omega
        have hix : 0 ≤ (i : Int) ∧ (i : Int) < (len0 : Int) := by omega
        have hiy : 0 ≤ (i : Int) ∧ (i : Int) < (len1 : Int) := by omega
        obtain ⟨b1, off1, T, rfl, hb1w, hTc⟩ := H1.out i (by omega)
        obtain ⟨b0, off0, rfl, hb0w, x0, x1, x2, x3, hfo⟩ := H0.out i (by omega)
        replace hTc := (htk.bel.cell (p := ⟨b1, off1 + i, none⟩) hb1w).trans hTc
        replace hfo := hfo.below hb0w htk.bel
        have hb0r : b0 < wr.heap.size := Nat.lt_of_lt_of_le hb0w htk.bel.size
        by_cases h100 : (T.size : Int) ≤ 100
        · obtain ⟨y0, hy0, hy0l⟩ := and_mask x0 3 (by omega)
          obtain ⟨y1, hy1, hy1l⟩ := and_mask x1 7 (by omega)
          obtain ⟨y2, hy2, hy2l⟩ := and_mask x2 3 (by omega)
          obtain ⟨y3, hy3, hy3l⟩ := and_mask x3 3 (by omega)
          replace hy0 : bits .and .i64 x0.toInt 3 = (y0 : Int) := hy0
          replace hy1 : bits .and .i64 x1.toInt 7 = (y1 : Int) := hy1
          replace hy2 : bits .and .i64 x2.toInt 3 = (y2 : Int) := hy2
          replace hy3 : bits .and .i64 x3.toInt 3 = (y3 : Int) := hy3
          obtain ⟨P, hP⟩ : ∃ P : Pt, P = ⟨BitVec.ofNat 64 y0, BitVec.ofNat 64 y1, BitVec.ofNat 64 y2, BitVec.ofNat 64 y3, T.data.toList⟩ := ⟨_, rfl⟩
          have hTl : T.data.toList.length ≤ 100 := by have : T.data.toList.length = T.size := by simp
                                                      omega
          have hbl : (bodyL P).length ≤ 124 := by
            rw [bodyL, List.length_append, Pt.nums, encs_five_len, hP]
            simp only
            have e0 := enc1_two (BitVec.ofNat 64 y0) (by rw [ofNat_toInt (by omega)]; omega) (by rw [ofNat_toInt (by omega)]; omega)
            have e1 := enc1_two (BitVec.ofNat 64 y1) (by rw [ofNat_toInt (by omega)]; omega) (by rw [ofNat_toInt (by omega)]; omega)
            have e2 := enc1_two (BitVec.ofNat 64 y2) (by rw [ofNat_toInt (by omega)]; omega) (by rw [ofNat_toInt (by omega)]; omega)
            have e3 := enc1_two (BitVec.ofNat 64 y3) (by rw [ofNat_toInt (by omega)]; omega) (by rw [ofNat_toInt (by omega)]; omega)
            have e4 := enc1_two (BitVec.ofNat 64 T.data.toList.length) (by rw [ofNat_toInt (by omega)]; omega) (by rw [ofNat_toInt (by omega)]; omega)
            omega
          have cpt := fun w => refPart_any P hbl w
          have ep : P.turn.toInt = (y0 : Int) ∧ P.num.toInt = (y1 : Int) ∧ P.ahead.toInt = (y2 : Int) ∧ P.behind.toInt = (y3 : Int) ∧ strB P.s = T := by
            rw [hP]
            exact ⟨ofNat_toInt (by omega), ofNat_toInt (by omega), ofNat_toInt (by omega), ofNat_toInt (by omega), strB_of T⟩
          rw [ep.1, ep.2.1, ep.2.2.1, ep.2.2.2.1, ep.2.2.2.2] at cpt
          have hpl := partL_len hbl
          obtain ⟨Q, hQ⟩ : ∃ Q, Q = strB (partL P) := ⟨_, rfl⟩
          have hQs : Q.size = 128 := by rw [hQ, strB_size, hpl]
          rw [← hQ] at cpt
          have HQ8 : Hid (Q.size = 128) := hQs
          have kc0 : ∀ k : Above wr, k.it.cell? ⟨b0, off0 + i * 4, none⟩ = some (.int .i64 x0.toInt) := fun k => (hfo.below hb0r k.is).c0
          have kc1 : ∀ k : Above wr, k.it.cell? ⟨b0, off0 + i * 4 + 1, none⟩ = some (.int .i64 x1.toInt) := fun k => (hfo.below hb0r k.is).c1
          have kc2 : ∀ k : Above wr, k.it.cell? ⟨b0, off0 + i * 4 + 2, none⟩ = some (.int .i64 x2.toInt) := fun k => (hfo.below hb0r k.is).c2
          have kc3 : ∀ k : Above wr, k.it.cell? ⟨b0, off0 + i * 4 + 3, none⟩ = some (.int .i64 x3.toInt) := fun k => (hfo.below hb0r k.is).c3
          clear hP hTl hbl ep hpl hQ hfo htk hb1w hb0w hy0l hy1l hy2l hy3l hb0r
          go_wp2_with fail
          refine wp_region_above (by kernel_rfl) (by kernel_rfl) ?_
          intro hne
          repeat (go_big_quiet_step (first | (go_at_call 24; exact above_of (cpt _))))
          refine wpQuiet_nil ?_
          rintro _ ⟨kq, rfl⟩
          have HTK4 : Hid (Tk w kq.it hp qb H R s i) := HTK.out.over kq.is
          clear kc0 kc1 kc2 kc3 hTc cpt hne
          obtain ⟨WC, hWC⟩ : ∃ WC, WC = kq.it := ⟨_, rfl⟩
          rw [← hWC] at HTK4 ⊢
          clear hWC kq
          -- the two devices do the same
          have o4 := HTK4
          have cput := rput_all o4.out.both.dev o4.out.both.ref (fun k hk => o4.out.both.lt k hk) (by rw [o4.out.wait]; omega) ((3 + i : Nat) : Int) Q (putR_free o4.out.off o4.out.fuse (by rw [o4.out.n50]; omega) HQ8.out)
          rw [show ((3 + i : Nat) : Int) = 3 + (i : Int) by omega] at cput
          have z0 : WC.cell? ⟨qb, 0, none⟩ = some (.slice R.sa s.sure.length R.sc) := o4.out.box.cell 0 _ rfl
          have z1 : WC.cell? ⟨qb, 1, none⟩ = some (.slice R.wa s.wait.length R.wc) := o4.out.box.cell 1 _ rfl
          have z2 : WC.cell? ⟨qb, 2, none⟩ = some (.int .i64 s.fz) := o4.out.box.cell 2 _ rfl
          have z3 : WC.cell? ⟨qb, 3, none⟩ = some (.bool s.off) := o4.out.box.cell 3 _ rfl
          obtain ⟨n1, hn1⟩ : ∃ n1, n1 = s.sure.length := ⟨_, rfl⟩
          obtain ⟨n2, hn2⟩ : ∃ n2, n2 = s.wait.length := ⟨_, rfl⟩
          obtain ⟨n3, hn3⟩ : ∃ n3, n3 = s.fz := ⟨_, rfl⟩
          obtain ⟨n4, hn4⟩ : ∃ n4, n4 = s.off := ⟨_, rfl⟩
          rw [← hn1] at cput z0
          rw [← hn2] at cput z1
          rw [← hn3] at cput z2
          rw [← hn4] at cput z3
          clear hn1 hn2 hn3 hn4
          go_wp2_with fail
          refine cput.mono ?_
          rintro e w6 ⟨⟨R6, rfl, ref6⟩, b6⟩
          have k6 := o4.out.over b6
          have HK6 : Hid (Tk w w6 hp qb H R s i ∧ RefIs w6 H.foot R6 (s.write (3 + i) Q.data.toList).sure (s.write (3 + i) Q.data.toList).wait) := ⟨k6, ref6⟩
          clear z0 z1 z2 z3 cput k6 ref6 b6
          obtain ⟨m1, hm1⟩ : ∃ m1, m1 = (s.write (3 + i) Q.data.toList).sure.length := ⟨_, rfl⟩
          obtain ⟨m2, hm2⟩ : ∃ m2, m2 = (s.write (3 + i) Q.data.toList).wait.length := ⟨_, rfl⟩
          obtain ⟨m3, hm3⟩ : ∃ m3, m3 = (s.write (3 + i) Q.data.toList).fz := ⟨_, rfl⟩
          obtain ⟨m4, hm4⟩ : ∃ m4, m4 = (s.write (3 + i) Q.data.toList).off := ⟨_, rfl⟩
          rw [← hm1, ← hm2, ← hm3, ← hm4]
          have HMM : Hid (m1 = (s.write (3 + i) Q.data.toList).sure.length ∧ m2 = (s.write (3 + i) Q.data.toList).wait.length ∧ m3 = (s.write (3 + i) Q.data.toList).fz ∧ m4 = (s.write (3 + i) Q.data.toList).off) := ⟨hm1, hm2, hm3, hm4⟩
          clear hm1 hm2 hm3 hm4
          have B7 := HK6.out.1.box.alloc (.cells #[.slice R6.sa m1 R6.sc, .slice R6.wa m2 R6.wc, .int .i64 m3, .bool m4] 30)
          have q0 := B7.cell 0 (.slice R.sa s.sure.length R.sc) rfl
          have q1 := B7.cell 1 (.slice R.wa s.wait.length R.wc) rfl
          have q2 := B7.cell 2 (.int .i64 s.fz) rfl
          have q3 := B7.cell 3 (.bool s.off) rfl
          have f0 := B7.frozen 0
          have f1 := B7.frozen 1
          have f2 := B7.frozen 2
          have f3 := B7.frozen 3
          have hne : qb ≠ w6.heap.size := Nat.ne_of_lt HK6.out.1.box.lt
          clear B7
          go_wp2_with fail
          have bl7 := below1 w6 (.cells #[.slice R6.sa m1 R6.sc, .slice R6.wa m2 R6.wc, .int .i64 m3, .bool m4] 30)
          have k7 := HK6.out.1.over bl7
          have r7 := HK6.out.2.below bl7
          have K4 := kept_four (F := fun k => k = qb) (Kept.refl _ (w6.alloc (.cells #[.slice R6.sa m1 R6.sc, .slice R6.wa m2 R6.wc, .int .i64 m3, .bool m4] 30))) (.inl rfl) (.slice R6.sa m1 R6.sc) (.slice R6.wa m2 R6.wc) (.int .i64 m3) (.bool m4)
          have F4 := box_four k7.box rfl (.slice R6.sa m1 R6.sc) (.slice R6.wa m2 R6.wc) (.int .i64 m3) (.bool m4)
          obtain ⟨W8, hW8⟩ : ∃ W8, W8 = ((((w6.alloc (.cells #[.slice R6.sa m1 R6.sc, .slice R6.wa m2 R6.wc, .int .i64 m3, .bool m4] 30)).setCell ⟨qb, 0, none⟩ (.slice R6.sa m1 R6.sc)).setCell ⟨qb, 1, none⟩ (.slice R6.wa m2 R6.wc)).setCell ⟨qb, 2, none⟩ (.int .i64 m3)).setCell ⟨qb, 3, none⟩ (.bool m4) := ⟨_, rfl⟩
          rw [← hW8] at K4 F4 ⊢
          have D8 := k7.both.dev.kept K4 (fun x hx e => dev_ne_box k7.both.dev k7.box (by rw [← e]; exact hx))
          have R8 : RefIs W8 H.foot R6 (s.write (3 + i) Q.data.toList).sure (s.write (3 + i) Q.data.toList).wait := ⟨r7.sure.kept K4 (fun g hg e => srows_ne_box r7.sure k7.box (by decide) g hg e), r7.wait.kept K4 (fun g hg e => srows_ne_box r7.wait k7.box (by decide) g hg e), r7.g1, r7.g2⟩
          have b8 : Below w.heap.size w W8 := k7.bel.trans (K4.below (fun k hk => by rw [hk]; exact k7.qw) k7.bel.size)
          have cwr := dput_all D8 (by rw [k7.wait]; omega) ((3 + i : Nat) : Int) Q (putR_free k7.off k7.fuse (by rw [k7.n50]; omega) HQ8.out)
          rw [k7.hp, show ((3 + i : Nat) : Int) = 3 + (i : Int) by omega] at cwr
          have H8 : Hid (DevIs W8 H s ∧ RefIs W8 H.foot R6 (s.write (3 + i) Q.data.toList).sure (s.write (3 + i) Q.data.toList).wait ∧ Box W8 qb 30 #[.slice R6.sa m1 R6.sc, .slice R6.wa m2 R6.wc, .int .i64 m3, .bool m4] ∧ Below w.heap.size w W8) := ⟨D8, R8, F4, b8⟩
          clear hW8 K4 F4 D8 R8 b8 k7 r7 bl7 q0 q1 q2 q3 f0 f1 f2 f3 hne
          go_wp2_with fail
          refine cwr.mono ?_
          rintro e w9 ⟨rfl, H9, D9, T9⟩
          have HE : Hid (∃ H9 R9 s9, Tk w w9 hp qb H9 R9 s9 (i + 1)) := by
            obtain ⟨d8, r8, x8, b8⟩ := H8.out
            have k := HK6.out.1
            refine ⟨H9, R6, s.write (3 + i) Q.data.toList, Both.turn D9 T9 r8 rfl rfl, T9.p.trans k.hp, T9.above k.foot b8.size, ?_, k.qw, k.n50, (free_burnt k.off k.fuse).1, (free_burnt k.off k.fuse).2, ?_, b8.trans (T9.below k.foot b8.size)⟩
            · have := x8.kept T9.kept (dev_ne_box d8 x8)
              obtain ⟨h1, h2, h3, h4⟩ := HMM.out
              rw [h1, h2, h3, h4] at this
              exact this
            · show (s.wait ++ [_]).length = i + 1
              rw [List.length_append, k.wait]
              rfl
          clear D9 T9 cwr
          go_wp2_with fail
          go_roundg (M - (i + 1))
          case measure => omega
          case rel =>
            obtain ⟨H9, R9, s9, h⟩ := HE.out
            exact ⟨i + 1, H9, R9, s9, by omega, by go_num, h⟩
        · by_cases h128 : T.size = 128
          · have HQ8 : Hid (T.size = 128) := h128
            have hTs : (T.size : Int) = 128 := by omega
            have HTK4 : Hid (Tk w wr hp qb H R s i) := HTK.out
            clear hfo htk hb1w hb0w hb0r
            -- the two devices do the same
            have o4 := HTK4
            have cput := rput_all o4.out.both.dev o4.out.both.ref (fun k hk => o4.out.both.lt k hk) (by rw [o4.out.wait]; omega) ((3 + i : Nat) : Int) T (putR_free o4.out.off o4.out.fuse (by rw [o4.out.n50]; omega) HQ8.out)
            rw [show ((3 + i : Nat) : Int) = 3 + (i : Int) by omega] at cput
            have z0 : wr.cell? ⟨qb, 0, none⟩ = some (.slice R.sa s.sure.length R.sc) := o4.out.box.cell 0 _ rfl
            have z1 : wr.cell? ⟨qb, 1, none⟩ = some (.slice R.wa s.wait.length R.wc) := o4.out.box.cell 1 _ rfl
            have z2 : wr.cell? ⟨qb, 2, none⟩ = some (.int .i64 s.fz) := o4.out.box.cell 2 _ rfl
            have z3 : wr.cell? ⟨qb, 3, none⟩ = some (.bool s.off) := o4.out.box.cell 3 _ rfl
            obtain ⟨n1, hn1⟩ : ∃ n1, n1 = s.sure.length := ⟨_, rfl⟩
            obtain ⟨n2, hn2⟩ : ∃ n2, n2 = s.wait.length := ⟨_, rfl⟩
            obtain ⟨n3, hn3⟩ : ∃ n3, n3 = s.fz := ⟨_, rfl⟩
            obtain ⟨n4, hn4⟩ : ∃ n4, n4 = s.off := ⟨_, rfl⟩
            rw [← hn1] at cput z0
            rw [← hn2] at cput z1
            rw [← hn3] at cput z2
            rw [← hn4] at cput z3
            clear hn1 hn2 hn3 hn4
            go_wp2_with fail
            refine cput.mono ?_
            rintro e w6 ⟨⟨R6, rfl, ref6⟩, b6⟩
            have k6 := o4.out.over b6
            have HK6 : Hid (Tk w w6 hp qb H R s i ∧ RefIs w6 H.foot R6 (s.write (3 + i) T.data.toList).sure (s.write (3 + i) T.data.toList).wait) := ⟨k6, ref6⟩
            clear z0 z1 z2 z3 cput k6 ref6 b6
            obtain ⟨m1, hm1⟩ : ∃ m1, m1 = (s.write (3 + i) T.data.toList).sure.length := ⟨_, rfl⟩
            obtain ⟨m2, hm2⟩ : ∃ m2, m2 = (s.write (3 + i) T.data.toList).wait.length := ⟨_, rfl⟩
            obtain ⟨m3, hm3⟩ : ∃ m3, m3 = (s.write (3 + i) T.data.toList).fz := ⟨_, rfl⟩
            obtain ⟨m4, hm4⟩ : ∃ m4, m4 = (s.write (3 + i) T.data.toList).off := ⟨_, rfl⟩
            rw [← hm1, ← hm2, ← hm3, ← hm4]
            have HMM : Hid (m1 = (s.write (3 + i) T.data.toList).sure.length ∧ m2 = (s.write (3 + i) T.data.toList).wait.length ∧ m3 = (s.write (3 + i) T.data.toList).fz ∧ m4 = (s.write (3 + i) T.data.toList).off) := ⟨hm1, hm2, hm3, hm4⟩
            clear hm1 hm2 hm3 hm4
            have B7 := HK6.out.1.box.alloc (.cells #[.slice R6.sa m1 R6.sc, .slice R6.wa m2 R6.wc, .int .i64 m3, .bool m4] 30)
            have q0 := B7.cell 0 (.slice R.sa s.sure.length R.sc) rfl
            have q1 := B7.cell 1 (.slice R.wa s.wait.length R.wc) rfl
            have q2 := B7.cell 2 (.int .i64 s.fz) rfl
            have q3 := B7.cell 3 (.bool s.off) rfl
            have f0 := B7.frozen 0
            have f1 := B7.frozen 1
            have f2 := B7.frozen 2
            have f3 := B7.frozen 3
            have hne : qb ≠ w6.heap.size := Nat.ne_of_lt HK6.out.1.box.lt
            clear B7
            go_wp2_with fail
            have bl7 := below1 w6 (.cells #[.slice R6.sa m1 R6.sc, .slice R6.wa m2 R6.wc, .int .i64 m3, .bool m4] 30)
            have k7 := HK6.out.1.over bl7
            have r7 := HK6.out.2.below bl7
            have K4 := kept_four (F := fun k => k = qb) (Kept.refl _ (w6.alloc (.cells #[.slice R6.sa m1 R6.sc, .slice R6.wa m2 R6.wc, .int .i64 m3, .bool m4] 30))) (.inl rfl) (.slice R6.sa m1 R6.sc) (.slice R6.wa m2 R6.wc) (.int .i64 m3) (.bool m4)
            have F4 := box_four k7.box rfl (.slice R6.sa m1 R6.sc) (.slice R6.wa m2 R6.wc) (.int .i64 m3) (.bool m4)
            obtain ⟨W8, hW8⟩ : ∃ W8, W8 = ((((w6.alloc (.cells #[.slice R6.sa m1 R6.sc, .slice R6.wa m2 R6.wc, .int .i64 m3, .bool m4] 30)).setCell ⟨qb, 0, none⟩ (.slice R6.sa m1 R6.sc)).setCell ⟨qb, 1, none⟩ (.slice R6.wa m2 R6.wc)).setCell ⟨qb, 2, none⟩ (.int .i64 m3)).setCell ⟨qb, 3, none⟩ (.bool m4) := ⟨_, rfl⟩
            rw [← hW8] at K4 F4 ⊢
            have D8 := k7.both.dev.kept K4 (fun x hx e => dev_ne_box k7.both.dev k7.box (by rw [← e]; exact hx))
            have R8 : RefIs W8 H.foot R6 (s.write (3 + i) T.data.toList).sure (s.write (3 + i) T.data.toList).wait := ⟨r7.sure.kept K4 (fun g hg e => srows_ne_box r7.sure k7.box (by decide) g hg e), r7.wait.kept K4 (fun g hg e => srows_ne_box r7.wait k7.box (by decide) g hg e), r7.g1, r7.g2⟩
            have b8 : Below w.heap.size w W8 := k7.bel.trans (K4.below (fun k hk => by rw [hk]; exact k7.qw) k7.bel.size)
            have cwr := dput_all D8 (by rw [k7.wait]; omega) ((3 + i : Nat) : Int) T (putR_free k7.off k7.fuse (by rw [k7.n50]; omega) HQ8.out)
            rw [k7.hp, show ((3 + i : Nat) : Int) = 3 + (i : Int) by omega] at cwr
            have H8 : Hid (DevIs W8 H s ∧ RefIs W8 H.foot R6 (s.write (3 + i) T.data.toList).sure (s.write (3 + i) T.data.toList).wait ∧ Box W8 qb 30 #[.slice R6.sa m1 R6.sc, .slice R6.wa m2 R6.wc, .int .i64 m3, .bool m4] ∧ Below w.heap.size w W8) := ⟨D8, R8, F4, b8⟩
            clear hW8 K4 F4 D8 R8 b8 k7 r7 bl7 q0 q1 q2 q3 f0 f1 f2 f3 hne
            go_wp2_with fail
            refine cwr.mono ?_
            rintro e w9 ⟨rfl, H9, D9, T9⟩
            have HE : Hid (∃ H9 R9 s9, Tk w w9 hp qb H9 R9 s9 (i + 1)) := by
              obtain ⟨d8, r8, x8, b8⟩ := H8.out
              have k := HK6.out.1
              refine ⟨H9, R6, s.write (3 + i) T.data.toList, Both.turn D9 T9 r8 rfl rfl, T9.p.trans k.hp, T9.above k.foot b8.size, ?_, k.qw, k.n50, (free_burnt k.off k.fuse).1, (free_burnt k.off k.fuse).2, ?_, b8.trans (T9.below k.foot b8.size)⟩
              · have := x8.kept T9.kept (dev_ne_box d8 x8)
                obtain ⟨h1, h2, h3, h4⟩ := HMM.out
                rw [h1, h2, h3, h4] at this
                exact this
              · show (s.wait ++ [_]).length = i + 1
                rw [List.length_append, k.wait]
                rfl
            clear D9 T9 cwr
            go_wp2_with fail
            go_roundg (M - (i + 1))
            case measure => omega
            case rel =>
              obtain ⟨H9, R9, s9, h⟩ := HE.out
              exact ⟨i + 1, H9, R9, s9, by omega, by go_num, h⟩
          · have hTs : ((T.size : Int) == 128) = false := by simp; omega
            have hTn : ¬ (T.size : Int) = 128 := by omega
            clear hfo htk hb1w hb0w hb0r
            go_wp2_with fail
            refine (awake23 _).mono ?_
            rintro e w4 ⟨rfl, b4⟩
            go_wp2_with fail
            go_ret
            exact ⟨rfl, HTK.out.bel.trans (b4.mono HTK.out.bel.size)⟩
      · have hcs : ¬ (i : Int) < (len0 : Int) ∨ ((i : Int) < (len0 : Int) ∧ ¬ (i : Int) < (len1 : Int)) := by omega
        obtain ⟨n1, hn1⟩ : ∃ n1, n1 = s.sure.length := ⟨_, rfl⟩
        obtain ⟨n2, hn2⟩ : ∃ n2, n2 = s.wait.length := ⟨_, rfl⟩
        obtain ⟨n3, hn3⟩ : ∃ n3, n3 = s.fz := ⟨_, rfl⟩
        obtain ⟨n4, hn4⟩ : ∃ n4, n4 = s.off := ⟨_, rfl⟩
        have HNN : Hid (n1 = s.sure.length ∧ n2 = s.wait.length ∧ n3 = s.fz ∧ n4 = s.off) := ⟨hn1, hn2, hn3, hn4⟩
        have HS4 : Hid (∀ W : World, Box W qb 30 (rd R.sa n1 R.sc R.wa n2 R.wc n3 n4) → (fun w' : World => w'.cell? ⟨qb, 0, none⟩ = some (.slice R.sa n1 R.sc) ∧ w'.cell? ⟨qb, 1, none⟩ = some (.slice R.wa n2 R.wc) ∧ w'.cell? ⟨qb, 2, none⟩ = some (.int .i64 n3) ∧ w'.cell? ⟨qb, 3, none⟩ = some (.bool n4)) W) := fun W h => ⟨h.cell 0 _ rfl, h.cell 1 _ rfl, h.cell 2 _ rfl, h.cell 3 _ rfl⟩
        have HQ0 : Hid (Tq w wr qb R n1 n2 n3 n4) := by
          have h := htk.box
          rw [← hn1, ← hn2, ← hn3, ← hn4] at h
          exact ⟨h, htk.bel⟩
        have h50 : n1 = 50 := by rw [hn1]; exact htk.n50
        have h4f : n4 = false := by rw [hn4]; exact htk.off
        have hlong : n2 ≤ 8 := by rw [hn2, htk.wait]; omega
        clear HTK
        have HSR : Hid (∀ W, Below wr.heap.size wr W → Calls Try.prog 23 #[.pointer (some ⟨hp, 0, none⟩), .agg #[.int .i64 3, .int .i64 40], .int .i64 t] W (JOpenAns H s 3 40 tb W) ∨ mayJ 50 3 40 t = false) := by
          intro W hW
          cases hm : mayJ 50 3 40 t with
          | false => exact .inr rfl
          | true =>
            left
            have D := htk.both.dev.below hW
            have h := jopen_on D htk.off 3 40 (by omega) (by rw [htk.n50]; omega) (by rw [htk.n50]; omega) D.blks tb (by rw [htk.n50, ← HT.out]; exact hm)
            rw [htk.hp, ← HT.out] at h
            exact h
        cases hm : mayJ 50 3 40 t with
        | false =>
          have HOPN : Hid (∀ W, Below wr.heap.size wr W → Calls Try.prog 23 #[.pointer (some ⟨hp, 0, none⟩), .agg #[.int .i64 3, .int .i64 40], .int .i64 t] W fun e w' => e = .returned (.tuple #[.pointer none, .int .i64 1]) ∧ Below W.heap.size W w') := fun W hW => jopen_no _ 50 (by omega) 3 40 t (by omega) W (by have h := (htk.both.dev.below hW).up; rw [htk.n50, htk.hp] at h; exact h) hm
          have HRF : Hid (∀ W, Below wr.heap.size wr W → Calls Try.prog 27 #[.agg #[.slice R.sa n1 R.sc, .slice R.wa n2 R.wc, .int .i64 n3, .bool n4], .agg #[.int .i64 3, .int .i64 40], .int .i64 t] W fun e w' => e = .returned (.tuple #[.agg #[.int .i64 0, .int .i64 0, .int .i64 0, .slice none 0 0, .int .i64 0], .int .i64 1]) ∧ Below W.heap.size W w') := fun W _ => by
            have h := refOpen_arg R.sa n1 R.sc (by omega) R.wa n2 R.wc n3 n4 3 40 tb (by rw [← HT.out, h50]; exact hm) W
            rw [← HT.out] at h
            exact h
          clear hm htk hn1 hn2 hn3 hn4 h50 h4f hlong HSR
          rcases hcs with hc1 | ⟨hc1, hc2⟩
          all_goals
            go_wp2_with fail
            refine (lat_any _).mono ?_
            rintro e w2' ⟨rfl, b2'⟩
            go_wp2_with fail
            refine (HOPN.out w2' b2').mono ?_
            rintro e w3 ⟨rfl, b3'⟩
            have b3 := b2'.trans (b3'.mono b2'.size)
            have HO3 : Hid (Tq w w3 qb R n1 n2 n3 n4) := HQ0.out.over b3
            have HREF : Hid (∀ W, Below w3.heap.size w3 W → Calls Try.prog 27 #[.agg #[.slice R.sa n1 R.sc, .slice R.wa n2 R.wc, .int .i64 n3, .bool n4], .agg #[.int .i64 3, .int .i64 40], .int .i64 t] W fun e w' => e = .returned (.tuple #[.agg #[.int .i64 0, .int .i64 0, .int .i64 0, .slice none 0 0, .int .i64 0], .int .i64 1]) ∧ Below W.heap.size W w') := fun W hW => HRF.out W (b3.trans (hW.mono b3.size))
            clear b2' b3' b3
            go_wp2_with fail
            -- the document's journal
            have n1e : (fun w' : World => w'.cell? ⟨qb, 0, none⟩ = some (.slice R.sa n1 R.sc) ∧ w'.cell? ⟨qb, 1, none⟩ = some (.slice R.wa n2 R.wc) ∧ w'.cell? ⟨qb, 2, none⟩ = some (.int .i64 n3) ∧ w'.cell? ⟨qb, 3, none⟩ = some (.bool n4)) w3 := HS4.out w3 HO3.out.box
            refine wp_region_held_then (fun w' : World => w'.cell? ⟨qb, 0, none⟩ = some (.slice R.sa n1 R.sc) ∧ w'.cell? ⟨qb, 1, none⟩ = some (.slice R.wa n2 R.wc) ∧ w'.cell? ⟨qb, 2, none⟩ = some (.int .i64 n3) ∧ w'.cell? ⟨qb, 3, none⟩ = some (.bool n4)) _ (by kernel_rfl) rfl (by kernel_rfl) ?_
            have hHeld : (fun w' : World => w'.cell? ⟨qb, 0, none⟩ = some (.slice R.sa n1 R.sc) ∧ w'.cell? ⟨qb, 1, none⟩ = some (.slice R.wa n2 R.wc) ∧ w'.cell? ⟨qb, 2, none⟩ = some (.int .i64 n3) ∧ w'.cell? ⟨qb, 3, none⟩ = some (.bool n4)) w3.drew := n1e
            have lz : ∀ W : World, Box W qb 30 (rd R.sa n1 R.sc R.wa n2 R.wc n3 n4) → (fun w' : World => w'.cell? ⟨qb, 0, none⟩ = some (.slice R.sa n1 R.sc) ∧ w'.cell? ⟨qb, 1, none⟩ = some (.slice R.wa n2 R.wc) ∧ w'.cell? ⟨qb, 2, none⟩ = some (.int .i64 n3) ∧ w'.cell? ⟨qb, 3, none⟩ = some (.bool n4)) (W.alloc (.cells #[.int .i64 0, .int .i64 0, .int .i64 0, .slice none 0 0, .int .i64 0] 41)) := fun W h => HS4.out _ (h.alloc _)
            dsimp only [List.dropLast, List.length, List.getLast]
            ((refine takeL 0 (v := ?_) rfl (by kernel_rfl) (by kernel_rfl) (by kernel_rfl) (fun _ _ _ h => h) (by rfl) hHeld ?_ ?_; rotate_left; focus (intro w hSw; (try dsimp only at hSw); go_simp <;> with_reducible rfl); (try simp only [Act.put, List.setIfInBounds_toArray, List.set_cons_zero, List.set_cons_succ])); (refine takeL 2 (v := ?_) rfl (by kernel_rfl) (by kernel_rfl) (by kernel_rfl) (fun _ _ _ h => h) (by rfl) hHeld ?_ ?_; rotate_left; focus (intro w hSw; (try dsimp only at hSw); go_simp <;> with_reducible rfl); (try simp only [Act.put, List.setIfInBounds_toArray, List.set_cons_zero, List.set_cons_succ])))
            dsimp only [Act.put]
            simp only [List.setIfInBounds_toArray, List.set_cons_zero, List.set_cons_succ]
            refine callNewL 1 7 (f := 11) (vs := #[]) (w3.drew.alloc (.cells #[.int .i64 0, .int .i64 0, .int .i64 0, .slice none 0 0, .int .i64 0] 41)) (.pointer (some ⟨w3.heap.size, 0, none⟩)) rfl rfl (by kernel_rfl) (by rfl) (by rfl) (by go_simp) (by go_simp) (lz _ HO3.out.box.drew) ?_ ?_
            · refine (lat_any _).mono ?_
              rintro e w4 ⟨rfl, b4⟩
              replace b4 := (Below.refl w3.heap.size w3).drew.trans b4
              have o4 := HO3.out.over b4
              have hH4 : (fun w' : World => w'.cell? ⟨qb, 0, none⟩ = some (.slice R.sa n1 R.sc) ∧ w'.cell? ⟨qb, 1, none⟩ = some (.slice R.wa n2 R.wc) ∧ w'.cell? ⟨qb, 2, none⟩ = some (.int .i64 n3) ∧ w'.cell? ⟨qb, 3, none⟩ = some (.bool n4)) w4 := HS4.out w4 o4.box
              refine ⟨_, rfl, hH4, ?_⟩
              try dsimp only [Act.put]
              try simp only [List.setIfInBounds_toArray, List.set_cons_zero, List.set_cons_succ]
              refine callNewL 3 7 (f := 27) (vs := #[.agg #[.slice R.sa n1 R.sc, .slice R.wa n2 R.wc, .int .i64 n3, .bool n4], .agg #[.int .i64 3, .int .i64 40], .int .i64 t]) (w4.alloc (.cells #[.int .i64 0, .int .i64 0, .int .i64 0, .slice none 0 0, .int .i64 0] 41)) (.pointer (some ⟨w4.heap.size, 0, none⟩)) rfl rfl (by kernel_rfl) (by rfl) (by rfl) (by go_simp) (by go_simp) (lz _ o4.box) ?_ ?_
              · refine (HREF.out w4 b4).mono ?_
                rintro e w5 ⟨rfl, b5⟩
                have b35 := b4.trans (b5.mono b4.size)
                have o5' := HO3.out.over b35
                have hH5 : (fun w' : World => w'.cell? ⟨qb, 0, none⟩ = some (.slice R.sa n1 R.sc) ∧ w'.cell? ⟨qb, 1, none⟩ = some (.slice R.wa n2 R.wc) ∧ w'.cell? ⟨qb, 2, none⟩ = some (.int .i64 n3) ∧ w'.cell? ⟨qb, 3, none⟩ = some (.bool n4)) w5 := HS4.out w5 o5'.box
                refine ⟨_, rfl, hH5, ?_⟩
                ((refine takeL 4 (v := ?_) rfl (by kernel_rfl) (by kernel_rfl) (by kernel_rfl) (fun _ _ _ h => h) (by rfl) hH5 ?_ ?_; rotate_left; focus (intro w hSw; (try dsimp only at hSw); go_simp <;> with_reducible rfl); (try simp only [Act.put, List.setIfInBounds_toArray, List.set_cons_zero, List.set_cons_succ])); (refine takeL 5 (v := ?_) rfl (by kernel_rfl) (by kernel_rfl) (by kernel_rfl) (fun _ _ _ h => h) (by rfl) hH5 ?_ ?_; rotate_left; focus (intro w hSw; (try dsimp only at hSw); go_simp <;> with_reducible rfl); (try simp only [Act.put, List.setIfInBounds_toArray, List.set_cons_zero, List.set_cons_succ])); (refine takeL 6 (v := ?_) rfl (by kernel_rfl) (by kernel_rfl) (by kernel_rfl) (fun _ _ _ h => h) (by rfl) hH5 ?_ ?_; rotate_left; focus (intro w hSw; (try dsimp only at hSw); go_simp <;> with_reducible rfl); (try simp only [Act.put, List.setIfInBounds_toArray, List.set_cons_zero, List.set_cons_succ])))
                try dsimp only [Act.put]
                try simp only [List.setIfInBounds_toArray, List.set_cons_zero, List.set_cons_succ]
                refine newL 7 (w5.alloc (.cells #[.int .i64 0, .int .i64 0, .int .i64 0, .slice none 0 0, .int .i64 0] 41)) (.pointer (some ⟨w5.heap.size, 0, none⟩)) rfl (by kernel_rfl) (by rfl) (by go_simp) (lz _ o5'.box) ?_
                have bl := below1 w5 (.cells #[.int .i64 0, .int .i64 0, .int .i64 0, .slice none 0 0, .int .i64 0] 41)
                have o5 := o5'.over bl
                have G5 := box_new w5 #[.int .i64 0, .int .i64 0, .int .i64 0, .slice none 0 0, .int .i64 0] 41
                obtain ⟨ga, hga⟩ : ∃ ga, ga = w5.heap.size := ⟨_, rfl⟩
                rw [← hga] at G5 ⊢
                have hgq : ga ≠ qb := by have := o5'.box.lt; omega
                have hg3 : w3.heap.size ≤ ga := by have := b35.size; omega
                clear hga bl
                obtain ⟨w5n, hw5n⟩ : ∃ x, x = w5.alloc (.cells #[.int .i64 0, .int .i64 0, .int .i64 0, .slice none 0 0, .int .i64 0] 41) := ⟨_, rfl⟩
                rw [← hw5n] at o5 G5 ⊢
                clear hw5n
                have q0 := G5.cell 0 (.int .i64 0) rfl
                have q1 := G5.cell 1 (.int .i64 0) rfl
                have q2 := G5.cell 2 (.int .i64 0) rfl
                have q3 := G5.cell 3 (.slice none 0 0) rfl
                have q4 := G5.cell 4 (.int .i64 0) rfl
                have f0 := G5.frozen 0
                have f1 := G5.frozen 1
                have f2 := G5.frozen 2
                have f3 := G5.frozen 3
                have f4 := G5.frozen 4
                have X5 := box_five G5 (.int .i64 0) (.int .i64 0) (.int .i64 0) (.slice none 0 0) (.int .i64 0)
                have K5 := kept_five (F := fun k => k = ga) (Kept.refl _ w5n) (.inl rfl) (.int .i64 0) (.int .i64 0) (.int .i64 0) (.slice none 0 0) (.int .i64 0)
                have hsF : (fun w' : World => w'.cell? ⟨qb, 0, none⟩ = some (.slice R.sa n1 R.sc) ∧ w'.cell? ⟨qb, 1, none⟩ = some (.slice R.wa n2 R.wc) ∧ w'.cell? ⟨qb, 2, none⟩ = some (.int .i64 n3) ∧ w'.cell? ⟨qb, 3, none⟩ = some (.bool n4)) (((((w5n.setCell ⟨ga, 0, none⟩ (.int .i64 0)).setCell ⟨ga, 1, none⟩ (.int .i64 0)).setCell ⟨ga, 2, none⟩ (.int .i64 0)).setCell ⟨ga, 3, none⟩ (.slice none 0 0)).setCell ⟨ga, 4, none⟩ (.int .i64 0)) := HS4.out _ (o5.box.kept K5 (fun e => hgq e.symm))
                refine stepL 8 (((((w5n.setCell ⟨ga, 0, none⟩ (.int .i64 0)).setCell ⟨ga, 1, none⟩ (.int .i64 0)).setCell ⟨ga, 2, none⟩ (.int .i64 0)).setCell ⟨ga, 3, none⟩ (.slice none 0 0)).setCell ⟨ga, 4, none⟩ (.int .i64 0)) rfl (by kernel_rfl) (by rfl) (by go_simp) hsF ?_
                obtain ⟨W6, hW6⟩ : ∃ W6, W6 = (((((w5n.setCell ⟨ga, 0, none⟩ (.int .i64 0)).setCell ⟨ga, 1, none⟩ (.int .i64 0)).setCell ⟨ga, 2, none⟩ (.int .i64 0)).setCell ⟨ga, 3, none⟩ (.slice none 0 0)).setCell ⟨ga, 4, none⟩ (.int .i64 0)) := ⟨_, rfl⟩
                rw [← hW6] at X5 K5 ⊢
                have hgw : w.heap.size ≤ ga := by have := HO3.out.bel.size; omega
                have b6 : Below w.heap.size w W6 := o5.bel.trans (K5.below (fun k hk => by rw [hk]; exact hgw) o5.bel.size)
                have HG : Hid (Below w.heap.size w W6) := b6
                clear b6 hgw
                clear hW6 q0 q1 q2 q3 q4 f0 f1 f2 f3 f4 hsF o5 K5 X5 G5
                refine doneL (by kernel_rfl) ?_
                try dsimp only [Act.put]
                unfold Oper.wp
                go_simp
                go_wp2_with fail
                refine wp_region_above (by kernel_rfl) (by kernel_rfl) ?_
                intro hne
                repeat (go_big_quiet_step (first | (go_at_call 12; exact above_of (awake23 _))))
                refine wpQuiet_nil ?_
                rintro _ ⟨kq, rfl⟩
                go_wp2_with fail
                go_ret
                exact ⟨rfl, HG.out.trans (kq.is.mono HG.out.size)⟩
              · try dsimp only [Act.put]
                try dsimp only [Act.put]
                try simp only [List.setIfInBounds_toArray, List.set_cons_zero, List.set_cons_succ]
                have bl := below1 w4 (.cells #[.int .i64 0, .int .i64 0, .int .i64 0, .slice none 0 0, .int .i64 0] 41)
                have b4a := b4.trans (bl.mono b4.size)
                refine callL 3 (f := 27) (vs := #[.agg #[.slice R.sa n1 R.sc, .slice R.wa n2 R.wc, .int .i64 n3, .bool n4], .agg #[.int .i64 3, .int .i64 40], .int .i64 t]) rfl (by kernel_rfl) (by rfl) (by go_simp) ?_
                refine (HREF.out _ b4a).mono ?_
                rintro e w5 ⟨rfl, b5⟩
                have b35 := b4a.trans (b5.mono b4a.size)
                have o5 := HO3.out.over b35
                have hH5 : (fun w' : World => w'.cell? ⟨qb, 0, none⟩ = some (.slice R.sa n1 R.sc) ∧ w'.cell? ⟨qb, 1, none⟩ = some (.slice R.wa n2 R.wc) ∧ w'.cell? ⟨qb, 2, none⟩ = some (.int .i64 n3) ∧ w'.cell? ⟨qb, 3, none⟩ = some (.bool n4)) w5 := HS4.out w5 o5.box
                refine ⟨_, rfl, hH5, ?_⟩
                ((refine takeL 4 (v := ?_) rfl (by kernel_rfl) (by kernel_rfl) (by kernel_rfl) (fun _ _ _ h => h) (by rfl) hH5 ?_ ?_; rotate_left; focus (intro w hSw; (try dsimp only at hSw); go_simp <;> with_reducible rfl); (try simp only [Act.put, List.setIfInBounds_toArray, List.set_cons_zero, List.set_cons_succ])); (refine takeL 5 (v := ?_) rfl (by kernel_rfl) (by kernel_rfl) (by kernel_rfl) (fun _ _ _ h => h) (by rfl) hH5 ?_ ?_; rotate_left; focus (intro w hSw; (try dsimp only at hSw); go_simp <;> with_reducible rfl); (try simp only [Act.put, List.setIfInBounds_toArray, List.set_cons_zero, List.set_cons_succ])); (refine takeL 6 (v := ?_) rfl (by kernel_rfl) (by kernel_rfl) (by kernel_rfl) (fun _ _ _ h => h) (by rfl) hH5 ?_ ?_; rotate_left; focus (intro w hSw; (try dsimp only at hSw); go_simp <;> with_reducible rfl); (try simp only [Act.put, List.setIfInBounds_toArray, List.set_cons_zero, List.set_cons_succ])))
                try dsimp only [Act.put]
                try simp only [List.setIfInBounds_toArray, List.set_cons_zero, List.set_cons_succ]
                have G5 := (box_new w4 #[.int .i64 0, .int .i64 0, .int .i64 0, .slice none 0 0, .int .i64 0] 41).over b5
                obtain ⟨ga, hga⟩ : ∃ ga, ga = w4.heap.size := ⟨_, rfl⟩
                rw [← hga] at G5 ⊢
                have hgq : ga ≠ qb := by have := o4.box.lt; omega
                have hg3 : w3.heap.size ≤ ga := by have := b4.size; omega
                clear hga bl b4a
                have q0 := G5.cell 0 (.int .i64 0) rfl
                have q1 := G5.cell 1 (.int .i64 0) rfl
                have q2 := G5.cell 2 (.int .i64 0) rfl
                have q3 := G5.cell 3 (.slice none 0 0) rfl
                have q4 := G5.cell 4 (.int .i64 0) rfl
                have f0 := G5.frozen 0
                have f1 := G5.frozen 1
                have f2 := G5.frozen 2
                have f3 := G5.frozen 3
                have f4 := G5.frozen 4
                have X5 := box_five G5 (.int .i64 0) (.int .i64 0) (.int .i64 0) (.slice none 0 0) (.int .i64 0)
                have K5 := kept_five (F := fun k => k = ga) (Kept.refl _ w5) (.inl rfl) (.int .i64 0) (.int .i64 0) (.int .i64 0) (.slice none 0 0) (.int .i64 0)
                have hsF : (fun w' : World => w'.cell? ⟨qb, 0, none⟩ = some (.slice R.sa n1 R.sc) ∧ w'.cell? ⟨qb, 1, none⟩ = some (.slice R.wa n2 R.wc) ∧ w'.cell? ⟨qb, 2, none⟩ = some (.int .i64 n3) ∧ w'.cell? ⟨qb, 3, none⟩ = some (.bool n4)) (((((w5.setCell ⟨ga, 0, none⟩ (.int .i64 0)).setCell ⟨ga, 1, none⟩ (.int .i64 0)).setCell ⟨ga, 2, none⟩ (.int .i64 0)).setCell ⟨ga, 3, none⟩ (.slice none 0 0)).setCell ⟨ga, 4, none⟩ (.int .i64 0)) := HS4.out _ (o5.box.kept K5 (fun e => hgq e.symm))
                refine stepL 8 (((((w5.setCell ⟨ga, 0, none⟩ (.int .i64 0)).setCell ⟨ga, 1, none⟩ (.int .i64 0)).setCell ⟨ga, 2, none⟩ (.int .i64 0)).setCell ⟨ga, 3, none⟩ (.slice none 0 0)).setCell ⟨ga, 4, none⟩ (.int .i64 0)) rfl (by kernel_rfl) (by rfl) (by go_simp) hsF ?_
                obtain ⟨W6, hW6⟩ : ∃ W6, W6 = (((((w5.setCell ⟨ga, 0, none⟩ (.int .i64 0)).setCell ⟨ga, 1, none⟩ (.int .i64 0)).setCell ⟨ga, 2, none⟩ (.int .i64 0)).setCell ⟨ga, 3, none⟩ (.slice none 0 0)).setCell ⟨ga, 4, none⟩ (.int .i64 0)) := ⟨_, rfl⟩
                rw [← hW6] at X5 K5 ⊢
                have hgw : w.heap.size ≤ ga := by have := HO3.out.bel.size; omega
                have b6 : Below w.heap.size w W6 := o5.bel.trans (K5.below (fun k hk => by rw [hk]; exact hgw) o5.bel.size)
                have HG : Hid (Below w.heap.size w W6) := b6
                clear b6 hgw
                clear hW6 q0 q1 q2 q3 q4 f0 f1 f2 f3 f4 hsF o5 K5 X5 G5
                refine doneL (by kernel_rfl) ?_
                try dsimp only [Act.put]
                unfold Oper.wp
                go_simp
                go_wp2_with fail
                refine wp_region_above (by kernel_rfl) (by kernel_rfl) ?_
                intro hne
                repeat (go_big_quiet_step (first | (go_at_call 12; exact above_of (awake23 _))))
                refine wpQuiet_nil ?_
                rintro _ ⟨kq, rfl⟩
                go_wp2_with fail
                go_ret
                exact ⟨rfl, HG.out.trans (kq.is.mono HG.out.size)⟩
            · try dsimp only [Act.put]
              try dsimp only [Act.put]
              try simp only [List.setIfInBounds_toArray, List.set_cons_zero, List.set_cons_succ]
              have bl := (Below.refl w3.heap.size w3).drew.alloc (Nat.le_refl _) (.cells #[.int .i64 0, .int .i64 0, .int .i64 0, .slice none 0 0, .int .i64 0] 41)
              refine callL 1 (f := 11) (vs := #[]) rfl (by kernel_rfl) (by rfl) (by go_simp) ?_
              refine (lat_any _).mono ?_
              rintro e w4 ⟨rfl, b4'⟩
              have G4 := (box_new w3.drew #[.int .i64 0, .int .i64 0, .int .i64 0, .slice none 0 0, .int .i64 0] 41).over b4'
              have b4 := bl.trans (b4'.mono bl.size)
              have o4 := HO3.out.over b4
              have hH4 : (fun w' : World => w'.cell? ⟨qb, 0, none⟩ = some (.slice R.sa n1 R.sc) ∧ w'.cell? ⟨qb, 1, none⟩ = some (.slice R.wa n2 R.wc) ∧ w'.cell? ⟨qb, 2, none⟩ = some (.int .i64 n3) ∧ w'.cell? ⟨qb, 3, none⟩ = some (.bool n4)) w4 := HS4.out w4 o4.box
              refine ⟨_, rfl, hH4, ?_⟩
              try dsimp only [Act.put]
              try simp only [List.setIfInBounds_toArray, List.set_cons_zero, List.set_cons_succ]
              refine callL 3 (f := 27) (vs := #[.agg #[.slice R.sa n1 R.sc, .slice R.wa n2 R.wc, .int .i64 n3, .bool n4], .agg #[.int .i64 3, .int .i64 40], .int .i64 t]) rfl (by kernel_rfl) (by rfl) (by go_simp) ?_
              refine (HREF.out w4 b4).mono ?_
              rintro e w5 ⟨rfl, b5⟩
              have b35 := b4.trans (b5.mono b4.size)
              have o5 := HO3.out.over b35
              have hH5 : (fun w' : World => w'.cell? ⟨qb, 0, none⟩ = some (.slice R.sa n1 R.sc) ∧ w'.cell? ⟨qb, 1, none⟩ = some (.slice R.wa n2 R.wc) ∧ w'.cell? ⟨qb, 2, none⟩ = some (.int .i64 n3) ∧ w'.cell? ⟨qb, 3, none⟩ = some (.bool n4)) w5 := HS4.out w5 o5.box
              refine ⟨_, rfl, hH5, ?_⟩
              ((refine takeL 4 (v := ?_) rfl (by kernel_rfl) (by kernel_rfl) (by kernel_rfl) (fun _ _ _ h => h) (by rfl) hH5 ?_ ?_; rotate_left; focus (intro w hSw; (try dsimp only at hSw); go_simp <;> with_reducible rfl); (try simp only [Act.put, List.setIfInBounds_toArray, List.set_cons_zero, List.set_cons_succ])); (refine takeL 5 (v := ?_) rfl (by kernel_rfl) (by kernel_rfl) (by kernel_rfl) (fun _ _ _ h => h) (by rfl) hH5 ?_ ?_; rotate_left; focus (intro w hSw; (try dsimp only at hSw); go_simp <;> with_reducible rfl); (try simp only [Act.put, List.setIfInBounds_toArray, List.set_cons_zero, List.set_cons_succ])); (refine takeL 6 (v := ?_) rfl (by kernel_rfl) (by kernel_rfl) (by kernel_rfl) (fun _ _ _ h => h) (by rfl) hH5 ?_ ?_; rotate_left; focus (intro w hSw; (try dsimp only at hSw); go_simp <;> with_reducible rfl); (try simp only [Act.put, List.setIfInBounds_toArray, List.set_cons_zero, List.set_cons_succ])))
              try dsimp only [Act.put]
              try simp only [List.setIfInBounds_toArray, List.set_cons_zero, List.set_cons_succ]
              have G5 := G4.over b5
              obtain ⟨ga, hga⟩ : ∃ ga, ga = w3.drew.heap.size := ⟨_, rfl⟩
              have hga3 : ga = w3.heap.size := hga
              rw [← hga] at G5
              rw [← hga3]
              have hgq : ga ≠ qb := by have := HO3.out.box.lt; omega
              have hg3 : w3.heap.size ≤ ga := by omega
              clear hga hga3 bl b4'
              have q0 := G5.cell 0 (.int .i64 0) rfl
              have q1 := G5.cell 1 (.int .i64 0) rfl
              have q2 := G5.cell 2 (.int .i64 0) rfl
              have q3 := G5.cell 3 (.slice none 0 0) rfl
              have q4 := G5.cell 4 (.int .i64 0) rfl
              have f0 := G5.frozen 0
              have f1 := G5.frozen 1
              have f2 := G5.frozen 2
              have f3 := G5.frozen 3
              have f4 := G5.frozen 4
              have X5 := box_five G5 (.int .i64 0) (.int .i64 0) (.int .i64 0) (.slice none 0 0) (.int .i64 0)
              have K5 := kept_five (F := fun k => k = ga) (Kept.refl _ w5) (.inl rfl) (.int .i64 0) (.int .i64 0) (.int .i64 0) (.slice none 0 0) (.int .i64 0)
              have hsF : (fun w' : World => w'.cell? ⟨qb, 0, none⟩ = some (.slice R.sa n1 R.sc) ∧ w'.cell? ⟨qb, 1, none⟩ = some (.slice R.wa n2 R.wc) ∧ w'.cell? ⟨qb, 2, none⟩ = some (.int .i64 n3) ∧ w'.cell? ⟨qb, 3, none⟩ = some (.bool n4)) (((((w5.setCell ⟨ga, 0, none⟩ (.int .i64 0)).setCell ⟨ga, 1, none⟩ (.int .i64 0)).setCell ⟨ga, 2, none⟩ (.int .i64 0)).setCell ⟨ga, 3, none⟩ (.slice none 0 0)).setCell ⟨ga, 4, none⟩ (.int .i64 0)) := HS4.out _ (o5.box.kept K5 (fun e => hgq e.symm))
              refine stepL 8 (((((w5.setCell ⟨ga, 0, none⟩ (.int .i64 0)).setCell ⟨ga, 1, none⟩ (.int .i64 0)).setCell ⟨ga, 2, none⟩ (.int .i64 0)).setCell ⟨ga, 3, none⟩ (.slice none 0 0)).setCell ⟨ga, 4, none⟩ (.int .i64 0)) rfl (by kernel_rfl) (by rfl) (by go_simp) hsF ?_
              obtain ⟨W6, hW6⟩ : ∃ W6, W6 = (((((w5.setCell ⟨ga, 0, none⟩ (.int .i64 0)).setCell ⟨ga, 1, none⟩ (.int .i64 0)).setCell ⟨ga, 2, none⟩ (.int .i64 0)).setCell ⟨ga, 3, none⟩ (.slice none 0 0)).setCell ⟨ga, 4, none⟩ (.int .i64 0)) := ⟨_, rfl⟩
              rw [← hW6] at X5 K5 ⊢
              have hgw : w.heap.size ≤ ga := by have := HO3.out.bel.size; omega
              have b6 : Below w.heap.size w W6 := o5.bel.trans (K5.below (fun k hk => by rw [hk]; exact hgw) o5.bel.size)
              have HG : Hid (Below w.heap.size w W6) := b6
              clear b6 hgw
              clear hW6 q0 q1 q2 q3 q4 f0 f1 f2 f3 f4 hsF o5 K5 X5 G5
              refine doneL (by kernel_rfl) ?_
              try dsimp only [Act.put]
              unfold Oper.wp
              go_simp
              go_wp2_with fail
              refine wp_region_above (by kernel_rfl) (by kernel_rfl) ?_
              intro hne
              repeat (go_big_quiet_step (first | (go_at_call 12; exact above_of (awake23 _))))
              refine wpQuiet_nil ?_
              rintro _ ⟨kq, rfl⟩
              go_wp2_with fail
              go_ret
              exact ⟨rfl, HG.out.trans (kq.is.mono HG.out.size)⟩
        | true =>
          have HRO : Hid (∀ W, Below wr.heap.size wr W → Calls Try.prog 27 #[.agg #[.slice R.sa n1 R.sc, .slice R.wa n2 R.wc, .int .i64 n3, .bool n4], .agg #[.int .i64 3, .int .i64 40], .int .i64 t] W (OpenOn (lay s.sure s.wait) 3 40 tb W)) := by
            intro W hW
            have r := htk.both.ref.below hW
            have h := refOpen_on r.sure r.wait (by rw [htk.n50]; omega) (by rw [htk.wait]; omega) (htk.both.dev.blks) s.fz 3 40 (by omega) (by rw [htk.n50]; omega) tb (by rw [htk.n50, ← HT.out]; exact hm)
            rw [← hn1, ← hn2, ← hn3, ← HT.out] at h
            rw [h4f]
            exact h
          have hno : ¬ mayJ 50 3 40 t = false := by rw [hm]; decide
          by_cases hbad : ∃ b ∈ extL (lay s.sure s.wait) 3 40, okB b = false
          · have HOPN : Hid (∀ W, Below wr.heap.size wr W → Calls Try.prog 23 #[.pointer (some ⟨hp, 0, none⟩), .agg #[.int .i64 3, .int .i64 40], .int .i64 t] W fun e w' => e = .returned (.tuple #[.pointer none, .int .i64 5]) ∧ Below W.heap.size W w') := fun W hW => by
              rcases HSR.out W hW with h | h
              · refine h.mono ?_
                rintro e w' ⟨h2, hb⟩
                rcases h2 with ⟨h3, _⟩ | ⟨_, h3⟩
                · obtain ⟨b, hb1, hb2⟩ := hbad
                  rw [h3 b hb1] at hb2; cases hb2
                · exact ⟨h3, hb⟩
              · exact absurd h hno
            have HRF : Hid (∀ W, Below wr.heap.size wr W → Calls Try.prog 27 #[.agg #[.slice R.sa n1 R.sc, .slice R.wa n2 R.wc, .int .i64 n3, .bool n4], .agg #[.int .i64 3, .int .i64 40], .int .i64 t] W fun e w' => e = .returned (.tuple #[.agg #[.int .i64 0, .int .i64 0, .int .i64 0, .slice none 0 0, .int .i64 0], .int .i64 5]) ∧ Below W.heap.size W w') := fun W hW => by
              refine (HRO.out W hW).mono ?_
              rintro e w' ⟨h2, hb⟩
              rcases h2 with ⟨h3, _⟩ | ⟨_, h3⟩
              · obtain ⟨b, hb1, hb2⟩ := hbad
                rw [h3 b hb1] at hb2; cases hb2
              · exact ⟨h3, hb⟩
            clear hm htk hn1 hn2 hn3 hn4 h50 h4f hlong HSR HRO hbad hno
            rcases hcs with hc1 | ⟨hc1, hc2⟩
            all_goals
              go_wp2_with fail
              refine (lat_any _).mono ?_
              rintro e w2' ⟨rfl, b2'⟩
              go_wp2_with fail
              refine (HOPN.out w2' b2').mono ?_
              rintro e w3 ⟨rfl, b3'⟩
              have b3 := b2'.trans (b3'.mono b2'.size)
              have HO3 : Hid (Tq w w3 qb R n1 n2 n3 n4) := HQ0.out.over b3
              have HREF : Hid (∀ W, Below w3.heap.size w3 W → Calls Try.prog 27 #[.agg #[.slice R.sa n1 R.sc, .slice R.wa n2 R.wc, .int .i64 n3, .bool n4], .agg #[.int .i64 3, .int .i64 40], .int .i64 t] W fun e w' => e = .returned (.tuple #[.agg #[.int .i64 0, .int .i64 0, .int .i64 0, .slice none 0 0, .int .i64 0], .int .i64 5]) ∧ Below W.heap.size W w') := fun W hW => HRF.out W (b3.trans (hW.mono b3.size))
              clear b2' b3' b3
              go_wp2_with fail
              -- the document's journal
              have n1e : (fun w' : World => w'.cell? ⟨qb, 0, none⟩ = some (.slice R.sa n1 R.sc) ∧ w'.cell? ⟨qb, 1, none⟩ = some (.slice R.wa n2 R.wc) ∧ w'.cell? ⟨qb, 2, none⟩ = some (.int .i64 n3) ∧ w'.cell? ⟨qb, 3, none⟩ = some (.bool n4)) w3 := HS4.out w3 HO3.out.box
              refine wp_region_held_then (fun w' : World => w'.cell? ⟨qb, 0, none⟩ = some (.slice R.sa n1 R.sc) ∧ w'.cell? ⟨qb, 1, none⟩ = some (.slice R.wa n2 R.wc) ∧ w'.cell? ⟨qb, 2, none⟩ = some (.int .i64 n3) ∧ w'.cell? ⟨qb, 3, none⟩ = some (.bool n4)) _ (by kernel_rfl) rfl (by kernel_rfl) ?_
              have hHeld : (fun w' : World => w'.cell? ⟨qb, 0, none⟩ = some (.slice R.sa n1 R.sc) ∧ w'.cell? ⟨qb, 1, none⟩ = some (.slice R.wa n2 R.wc) ∧ w'.cell? ⟨qb, 2, none⟩ = some (.int .i64 n3) ∧ w'.cell? ⟨qb, 3, none⟩ = some (.bool n4)) w3.drew := n1e
              have lz : ∀ W : World, Box W qb 30 (rd R.sa n1 R.sc R.wa n2 R.wc n3 n4) → (fun w' : World => w'.cell? ⟨qb, 0, none⟩ = some (.slice R.sa n1 R.sc) ∧ w'.cell? ⟨qb, 1, none⟩ = some (.slice R.wa n2 R.wc) ∧ w'.cell? ⟨qb, 2, none⟩ = some (.int .i64 n3) ∧ w'.cell? ⟨qb, 3, none⟩ = some (.bool n4)) (W.alloc (.cells #[.int .i64 0, .int .i64 0, .int .i64 0, .slice none 0 0, .int .i64 0] 41)) := fun W h => HS4.out _ (h.alloc _)
              dsimp only [List.dropLast, List.length, List.getLast]
              ((refine takeL 0 (v := ?_) rfl (by kernel_rfl) (by kernel_rfl) (by kernel_rfl) (fun _ _ _ h => h) (by rfl) hHeld ?_ ?_; rotate_left; focus (intro w hSw; (try dsimp only at hSw); go_simp <;> with_reducible rfl); (try simp only [Act.put, List.setIfInBounds_toArray, List.set_cons_zero, List.set_cons_succ])); (refine takeL 2 (v := ?_) rfl (by kernel_rfl) (by kernel_rfl) (by kernel_rfl) (fun _ _ _ h => h) (by rfl) hHeld ?_ ?_; rotate_left; focus (intro w hSw; (try dsimp only at hSw); go_simp <;> with_reducible rfl); (try simp only [Act.put, List.setIfInBounds_toArray, List.set_cons_zero, List.set_cons_succ])))
              dsimp only [Act.put]
              simp only [List.setIfInBounds_toArray, List.set_cons_zero, List.set_cons_succ]
              refine callNewL 1 7 (f := 11) (vs := #[]) (w3.drew.alloc (.cells #[.int .i64 0, .int .i64 0, .int .i64 0, .slice none 0 0, .int .i64 0] 41)) (.pointer (some ⟨w3.heap.size, 0, none⟩)) rfl rfl (by kernel_rfl) (by rfl) (by rfl) (by go_simp) (by go_simp) (lz _ HO3.out.box.drew) ?_ ?_
              · refine (lat_any _).mono ?_
                rintro e w4 ⟨rfl, b4⟩
                replace b4 := (Below.refl w3.heap.size w3).drew.trans b4
                have o4 := HO3.out.over b4
                have hH4 : (fun w' : World => w'.cell? ⟨qb, 0, none⟩ = some (.slice R.sa n1 R.sc) ∧ w'.cell? ⟨qb, 1, none⟩ = some (.slice R.wa n2 R.wc) ∧ w'.cell? ⟨qb, 2, none⟩ = some (.int .i64 n3) ∧ w'.cell? ⟨qb, 3, none⟩ = some (.bool n4)) w4 := HS4.out w4 o4.box
                refine ⟨_, rfl, hH4, ?_⟩
                try dsimp only [Act.put]
                try simp only [List.setIfInBounds_toArray, List.set_cons_zero, List.set_cons_succ]
                refine callNewL 3 7 (f := 27) (vs := #[.agg #[.slice R.sa n1 R.sc, .slice R.wa n2 R.wc, .int .i64 n3, .bool n4], .agg #[.int .i64 3, .int .i64 40], .int .i64 t]) (w4.alloc (.cells #[.int .i64 0, .int .i64 0, .int .i64 0, .slice none 0 0, .int .i64 0] 41)) (.pointer (some ⟨w4.heap.size, 0, none⟩)) rfl rfl (by kernel_rfl) (by rfl) (by rfl) (by go_simp) (by go_simp) (lz _ o4.box) ?_ ?_
                · refine (HREF.out w4 b4).mono ?_
                  rintro e w5 ⟨rfl, b5⟩
                  have b35 := b4.trans (b5.mono b4.size)
                  have o5' := HO3.out.over b35
                  have hH5 : (fun w' : World => w'.cell? ⟨qb, 0, none⟩ = some (.slice R.sa n1 R.sc) ∧ w'.cell? ⟨qb, 1, none⟩ = some (.slice R.wa n2 R.wc) ∧ w'.cell? ⟨qb, 2, none⟩ = some (.int .i64 n3) ∧ w'.cell? ⟨qb, 3, none⟩ = some (.bool n4)) w5 := HS4.out w5 o5'.box
                  refine ⟨_, rfl, hH5, ?_⟩
                  ((refine takeL 4 (v := ?_) rfl (by kernel_rfl) (by kernel_rfl) (by kernel_rfl) (fun _ _ _ h => h) (by rfl) hH5 ?_ ?_; rotate_left; focus (intro w hSw; (try dsimp only at hSw); go_simp <;> with_reducible rfl); (try simp only [Act.put, List.setIfInBounds_toArray, List.set_cons_zero, List.set_cons_succ])); (refine takeL 5 (v := ?_) rfl (by kernel_rfl) (by kernel_rfl) (by kernel_rfl) (fun _ _ _ h => h) (by rfl) hH5 ?_ ?_; rotate_left; focus (intro w hSw; (try dsimp only at hSw); go_simp <;> with_reducible rfl); (try simp only [Act.put, List.setIfInBounds_toArray, List.set_cons_zero, List.set_cons_succ])); (refine takeL 6 (v := ?_) rfl (by kernel_rfl) (by kernel_rfl) (by kernel_rfl) (fun _ _ _ h => h) (by rfl) hH5 ?_ ?_; rotate_left; focus (intro w hSw; (try dsimp only at hSw); go_simp <;> with_reducible rfl); (try simp only [Act.put, List.setIfInBounds_toArray, List.set_cons_zero, List.set_cons_succ])))
                  try dsimp only [Act.put]
                  try simp only [List.setIfInBounds_toArray, List.set_cons_zero, List.set_cons_succ]
                  refine newL 7 (w5.alloc (.cells #[.int .i64 0, .int .i64 0, .int .i64 0, .slice none 0 0, .int .i64 0] 41)) (.pointer (some ⟨w5.heap.size, 0, none⟩)) rfl (by kernel_rfl) (by rfl) (by go_simp) (lz _ o5'.box) ?_
                  have bl := below1 w5 (.cells #[.int .i64 0, .int .i64 0, .int .i64 0, .slice none 0 0, .int .i64 0] 41)
                  have o5 := o5'.over bl
                  have G5 := box_new w5 #[.int .i64 0, .int .i64 0, .int .i64 0, .slice none 0 0, .int .i64 0] 41
                  obtain ⟨ga, hga⟩ : ∃ ga, ga = w5.heap.size := ⟨_, rfl⟩
                  rw [← hga] at G5 ⊢
                  have hgq : ga ≠ qb := by have := o5'.box.lt; omega
                  have hg3 : w3.heap.size ≤ ga := by have := b35.size; omega
                  clear hga bl
                  obtain ⟨w5n, hw5n⟩ : ∃ x, x = w5.alloc (.cells #[.int .i64 0, .int .i64 0, .int .i64 0, .slice none 0 0, .int .i64 0] 41) := ⟨_, rfl⟩
                  rw [← hw5n] at o5 G5 ⊢
                  clear hw5n
                  have q0 := G5.cell 0 (.int .i64 0) rfl
                  have q1 := G5.cell 1 (.int .i64 0) rfl
                  have q2 := G5.cell 2 (.int .i64 0) rfl
                  have q3 := G5.cell 3 (.slice none 0 0) rfl
                  have q4 := G5.cell 4 (.int .i64 0) rfl
                  have f0 := G5.frozen 0
                  have f1 := G5.frozen 1
                  have f2 := G5.frozen 2
                  have f3 := G5.frozen 3
                  have f4 := G5.frozen 4
                  have X5 := box_five G5 (.int .i64 0) (.int .i64 0) (.int .i64 0) (.slice none 0 0) (.int .i64 0)
                  have K5 := kept_five (F := fun k => k = ga) (Kept.refl _ w5n) (.inl rfl) (.int .i64 0) (.int .i64 0) (.int .i64 0) (.slice none 0 0) (.int .i64 0)
                  have hsF : (fun w' : World => w'.cell? ⟨qb, 0, none⟩ = some (.slice R.sa n1 R.sc) ∧ w'.cell? ⟨qb, 1, none⟩ = some (.slice R.wa n2 R.wc) ∧ w'.cell? ⟨qb, 2, none⟩ = some (.int .i64 n3) ∧ w'.cell? ⟨qb, 3, none⟩ = some (.bool n4)) (((((w5n.setCell ⟨ga, 0, none⟩ (.int .i64 0)).setCell ⟨ga, 1, none⟩ (.int .i64 0)).setCell ⟨ga, 2, none⟩ (.int .i64 0)).setCell ⟨ga, 3, none⟩ (.slice none 0 0)).setCell ⟨ga, 4, none⟩ (.int .i64 0)) := HS4.out _ (o5.box.kept K5 (fun e => hgq e.symm))
                  refine stepL 8 (((((w5n.setCell ⟨ga, 0, none⟩ (.int .i64 0)).setCell ⟨ga, 1, none⟩ (.int .i64 0)).setCell ⟨ga, 2, none⟩ (.int .i64 0)).setCell ⟨ga, 3, none⟩ (.slice none 0 0)).setCell ⟨ga, 4, none⟩ (.int .i64 0)) rfl (by kernel_rfl) (by rfl) (by go_simp) hsF ?_
                  obtain ⟨W6, hW6⟩ : ∃ W6, W6 = (((((w5n.setCell ⟨ga, 0, none⟩ (.int .i64 0)).setCell ⟨ga, 1, none⟩ (.int .i64 0)).setCell ⟨ga, 2, none⟩ (.int .i64 0)).setCell ⟨ga, 3, none⟩ (.slice none 0 0)).setCell ⟨ga, 4, none⟩ (.int .i64 0)) := ⟨_, rfl⟩
                  rw [← hW6] at X5 K5 ⊢
                  have hgw : w.heap.size ≤ ga := by have := HO3.out.bel.size; omega
                  have b6 : Below w.heap.size w W6 := o5.bel.trans (K5.below (fun k hk => by rw [hk]; exact hgw) o5.bel.size)
                  have HG : Hid (Below w.heap.size w W6) := b6
                  clear b6 hgw
                  clear hW6 q0 q1 q2 q3 q4 f0 f1 f2 f3 f4 hsF o5 K5 X5 G5
                  refine doneL (by kernel_rfl) ?_
                  try dsimp only [Act.put]
                  unfold Oper.wp
                  go_simp
                  go_wp2_with fail
                  refine wp_region_above (by kernel_rfl) (by kernel_rfl) ?_
                  intro hne
                  repeat (go_big_quiet_step (first | (go_at_call 12; exact above_of (awake23 _))))
                  refine wpQuiet_nil ?_
                  rintro _ ⟨kq, rfl⟩
                  go_wp2_with fail
                  go_ret
                  exact ⟨rfl, HG.out.trans (kq.is.mono HG.out.size)⟩
                · try dsimp only [Act.put]
                  try dsimp only [Act.put]
                  try simp only [List.setIfInBounds_toArray, List.set_cons_zero, List.set_cons_succ]
                  have bl := below1 w4 (.cells #[.int .i64 0, .int .i64 0, .int .i64 0, .slice none 0 0, .int .i64 0] 41)
                  have b4a := b4.trans (bl.mono b4.size)
                  refine callL 3 (f := 27) (vs := #[.agg #[.slice R.sa n1 R.sc, .slice R.wa n2 R.wc, .int .i64 n3, .bool n4], .agg #[.int .i64 3, .int .i64 40], .int .i64 t]) rfl (by kernel_rfl) (by rfl) (by go_simp) ?_
                  refine (HREF.out _ b4a).mono ?_
                  rintro e w5 ⟨rfl, b5⟩
                  have b35 := b4a.trans (b5.mono b4a.size)
                  have o5 := HO3.out.over b35
                  have hH5 : (fun w' : World => w'.cell? ⟨qb, 0, none⟩ = some (.slice R.sa n1 R.sc) ∧ w'.cell? ⟨qb, 1, none⟩ = some (.slice R.wa n2 R.wc) ∧ w'.cell? ⟨qb, 2, none⟩ = some (.int .i64 n3) ∧ w'.cell? ⟨qb, 3, none⟩ = some (.bool n4)) w5 := HS4.out w5 o5.box
                  refine ⟨_, rfl, hH5, ?_⟩
                  ((refine takeL 4 (v := ?_) rfl (by kernel_rfl) (by kernel_rfl) (by kernel_rfl) (fun _ _ _ h => h) (by rfl) hH5 ?_ ?_; rotate_left; focus (intro w hSw; (try dsimp only at hSw); go_simp <;> with_reducible rfl); (try simp only [Act.put, List.setIfInBounds_toArray, List.set_cons_zero, List.set_cons_succ])); (refine takeL 5 (v := ?_) rfl (by kernel_rfl) (by kernel_rfl) (by kernel_rfl) (fun _ _ _ h => h) (by rfl) hH5 ?_ ?_; rotate_left; focus (intro w hSw; (try dsimp only at hSw); go_simp <;> with_reducible rfl); (try simp only [Act.put, List.setIfInBounds_toArray, List.set_cons_zero, List.set_cons_succ])); (refine takeL 6 (v := ?_) rfl (by kernel_rfl) (by kernel_rfl) (by kernel_rfl) (fun _ _ _ h => h) (by rfl) hH5 ?_ ?_; rotate_left; focus (intro w hSw; (try dsimp only at hSw); go_simp <;> with_reducible rfl); (try simp only [Act.put, List.setIfInBounds_toArray, List.set_cons_zero, List.set_cons_succ])))
                  try dsimp only [Act.put]
                  try simp only [List.setIfInBounds_toArray, List.set_cons_zero, List.set_cons_succ]
                  have G5 := (box_new w4 #[.int .i64 0, .int .i64 0, .int .i64 0, .slice none 0 0, .int .i64 0] 41).over b5
                  obtain ⟨ga, hga⟩ : ∃ ga, ga = w4.heap.size := ⟨_, rfl⟩
                  rw [← hga] at G5 ⊢
                  have hgq : ga ≠ qb := by have := o4.box.lt; omega
                  have hg3 : w3.heap.size ≤ ga := by have := b4.size; omega
                  clear hga bl b4a
                  have q0 := G5.cell 0 (.int .i64 0) rfl
                  have q1 := G5.cell 1 (.int .i64 0) rfl
                  have q2 := G5.cell 2 (.int .i64 0) rfl
                  have q3 := G5.cell 3 (.slice none 0 0) rfl
                  have q4 := G5.cell 4 (.int .i64 0) rfl
                  have f0 := G5.frozen 0
                  have f1 := G5.frozen 1
                  have f2 := G5.frozen 2
                  have f3 := G5.frozen 3
                  have f4 := G5.frozen 4
                  have X5 := box_five G5 (.int .i64 0) (.int .i64 0) (.int .i64 0) (.slice none 0 0) (.int .i64 0)
                  have K5 := kept_five (F := fun k => k = ga) (Kept.refl _ w5) (.inl rfl) (.int .i64 0) (.int .i64 0) (.int .i64 0) (.slice none 0 0) (.int .i64 0)
                  have hsF : (fun w' : World => w'.cell? ⟨qb, 0, none⟩ = some (.slice R.sa n1 R.sc) ∧ w'.cell? ⟨qb, 1, none⟩ = some (.slice R.wa n2 R.wc) ∧ w'.cell? ⟨qb, 2, none⟩ = some (.int .i64 n3) ∧ w'.cell? ⟨qb, 3, none⟩ = some (.bool n4)) (((((w5.setCell ⟨ga, 0, none⟩ (.int .i64 0)).setCell ⟨ga, 1, none⟩ (.int .i64 0)).setCell ⟨ga, 2, none⟩ (.int .i64 0)).setCell ⟨ga, 3, none⟩ (.slice none 0 0)).setCell ⟨ga, 4, none⟩ (.int .i64 0)) := HS4.out _ (o5.box.kept K5 (fun e => hgq e.symm))
                  refine stepL 8 (((((w5.setCell ⟨ga, 0, none⟩ (.int .i64 0)).setCell ⟨ga, 1, none⟩ (.int .i64 0)).setCell ⟨ga, 2, none⟩ (.int .i64 0)).setCell ⟨ga, 3, none⟩ (.slice none 0 0)).setCell ⟨ga, 4, none⟩ (.int .i64 0)) rfl (by kernel_rfl) (by rfl) (by go_simp) hsF ?_
                  obtain ⟨W6, hW6⟩ : ∃ W6, W6 = (((((w5.setCell ⟨ga, 0, none⟩ (.int .i64 0)).setCell ⟨ga, 1, none⟩ (.int .i64 0)).setCell ⟨ga, 2, none⟩ (.int .i64 0)).setCell ⟨ga, 3, none⟩ (.slice none 0 0)).setCell ⟨ga, 4, none⟩ (.int .i64 0)) := ⟨_, rfl⟩
                  rw [← hW6] at X5 K5 ⊢
                  have hgw : w.heap.size ≤ ga := by have := HO3.out.bel.size; omega
                  have b6 : Below w.heap.size w W6 := o5.bel.trans (K5.below (fun k hk => by rw [hk]; exact hgw) o5.bel.size)
                  have HG : Hid (Below w.heap.size w W6) := b6
                  clear b6 hgw
                  clear hW6 q0 q1 q2 q3 q4 f0 f1 f2 f3 f4 hsF o5 K5 X5 G5
                  refine doneL (by kernel_rfl) ?_
                  try dsimp only [Act.put]
                  unfold Oper.wp
                  go_simp
                  go_wp2_with fail
                  refine wp_region_above (by kernel_rfl) (by kernel_rfl) ?_
                  intro hne
                  repeat (go_big_quiet_step (first | (go_at_call 12; exact above_of (awake23 _))))
                  refine wpQuiet_nil ?_
                  rintro _ ⟨kq, rfl⟩
                  go_wp2_with fail
                  go_ret
                  exact ⟨rfl, HG.out.trans (kq.is.mono HG.out.size)⟩
              · try dsimp only [Act.put]
                try dsimp only [Act.put]
                try simp only [List.setIfInBounds_toArray, List.set_cons_zero, List.set_cons_succ]
                have bl := (Below.refl w3.heap.size w3).drew.alloc (Nat.le_refl _) (.cells #[.int .i64 0, .int .i64 0, .int .i64 0, .slice none 0 0, .int .i64 0] 41)
                refine callL 1 (f := 11) (vs := #[]) rfl (by kernel_rfl) (by rfl) (by go_simp) ?_
                refine (lat_any _).mono ?_
                rintro e w4 ⟨rfl, b4'⟩
                have G4 := (box_new w3.drew #[.int .i64 0, .int .i64 0, .int .i64 0, .slice none 0 0, .int .i64 0] 41).over b4'
                have b4 := bl.trans (b4'.mono bl.size)
                have o4 := HO3.out.over b4
                have hH4 : (fun w' : World => w'.cell? ⟨qb, 0, none⟩ = some (.slice R.sa n1 R.sc) ∧ w'.cell? ⟨qb, 1, none⟩ = some (.slice R.wa n2 R.wc) ∧ w'.cell? ⟨qb, 2, none⟩ = some (.int .i64 n3) ∧ w'.cell? ⟨qb, 3, none⟩ = some (.bool n4)) w4 := HS4.out w4 o4.box
                refine ⟨_, rfl, hH4, ?_⟩
                try dsimp only [Act.put]
                try simp only [List.setIfInBounds_toArray, List.set_cons_zero, List.set_cons_succ]
                refine callL 3 (f := 27) (vs := #[.agg #[.slice R.sa n1 R.sc, .slice R.wa n2 R.wc, .int .i64 n3, .bool n4], .agg #[.int .i64 3, .int .i64 40], .int .i64 t]) rfl (by kernel_rfl) (by rfl) (by go_simp) ?_
                refine (HREF.out w4 b4).mono ?_
                rintro e w5 ⟨rfl, b5⟩
                have b35 := b4.trans (b5.mono b4.size)
                have o5 := HO3.out.over b35
                have hH5 : (fun w' : World => w'.cell? ⟨qb, 0, none⟩ = some (.slice R.sa n1 R.sc) ∧ w'.cell? ⟨qb, 1, none⟩ = some (.slice R.wa n2 R.wc) ∧ w'.cell? ⟨qb, 2, none⟩ = some (.int .i64 n3) ∧ w'.cell? ⟨qb, 3, none⟩ = some (.bool n4)) w5 := HS4.out w5 o5.box
                refine ⟨_, rfl, hH5, ?_⟩
                ((refine takeL 4 (v := ?_) rfl (by kernel_rfl) (by kernel_rfl) (by kernel_rfl) (fun _ _ _ h => h) (by rfl) hH5 ?_ ?_; rotate_left; focus (intro w hSw; (try dsimp only at hSw); go_simp <;> with_reducible rfl); (try simp only [Act.put, List.setIfInBounds_toArray, List.set_cons_zero, List.set_cons_succ])); (refine takeL 5 (v := ?_) rfl (by kernel_rfl) (by kernel_rfl) (by kernel_rfl) (fun _ _ _ h => h) (by rfl) hH5 ?_ ?_; rotate_left; focus (intro w hSw; (try dsimp only at hSw); go_simp <;> with_reducible rfl); (try simp only [Act.put, List.setIfInBounds_toArray, List.set_cons_zero, List.set_cons_succ])); (refine takeL 6 (v := ?_) rfl (by kernel_rfl) (by kernel_rfl) (by kernel_rfl) (fun _ _ _ h => h) (by rfl) hH5 ?_ ?_; rotate_left; focus (intro w hSw; (try dsimp only at hSw); go_simp <;> with_reducible rfl); (try simp only [Act.put, List.setIfInBounds_toArray, List.set_cons_zero, List.set_cons_succ])))
                try dsimp only [Act.put]
                try simp only [List.setIfInBounds_toArray, List.set_cons_zero, List.set_cons_succ]
                have G5 := G4.over b5
                obtain ⟨ga, hga⟩ : ∃ ga, ga = w3.drew.heap.size := ⟨_, rfl⟩
                have hga3 : ga = w3.heap.size := hga
                rw [← hga] at G5
                rw [← hga3]
                have hgq : ga ≠ qb := by have := HO3.out.box.lt; omega
                have hg3 : w3.heap.size ≤ ga := by omega
                clear hga hga3 bl b4'
                have q0 := G5.cell 0 (.int .i64 0) rfl
                have q1 := G5.cell 1 (.int .i64 0) rfl
                have q2 := G5.cell 2 (.int .i64 0) rfl
                have q3 := G5.cell 3 (.slice none 0 0) rfl
                have q4 := G5.cell 4 (.int .i64 0) rfl
                have f0 := G5.frozen 0
                have f1 := G5.frozen 1
                have f2 := G5.frozen 2
                have f3 := G5.frozen 3
                have f4 := G5.frozen 4
                have X5 := box_five G5 (.int .i64 0) (.int .i64 0) (.int .i64 0) (.slice none 0 0) (.int .i64 0)
                have K5 := kept_five (F := fun k => k = ga) (Kept.refl _ w5) (.inl rfl) (.int .i64 0) (.int .i64 0) (.int .i64 0) (.slice none 0 0) (.int .i64 0)
                have hsF : (fun w' : World => w'.cell? ⟨qb, 0, none⟩ = some (.slice R.sa n1 R.sc) ∧ w'.cell? ⟨qb, 1, none⟩ = some (.slice R.wa n2 R.wc) ∧ w'.cell? ⟨qb, 2, none⟩ = some (.int .i64 n3) ∧ w'.cell? ⟨qb, 3, none⟩ = some (.bool n4)) (((((w5.setCell ⟨ga, 0, none⟩ (.int .i64 0)).setCell ⟨ga, 1, none⟩ (.int .i64 0)).setCell ⟨ga, 2, none⟩ (.int .i64 0)).setCell ⟨ga, 3, none⟩ (.slice none 0 0)).setCell ⟨ga, 4, none⟩ (.int .i64 0)) := HS4.out _ (o5.box.kept K5 (fun e => hgq e.symm))
                refine stepL 8 (((((w5.setCell ⟨ga, 0, none⟩ (.int .i64 0)).setCell ⟨ga, 1, none⟩ (.int .i64 0)).setCell ⟨ga, 2, none⟩ (.int .i64 0)).setCell ⟨ga, 3, none⟩ (.slice none 0 0)).setCell ⟨ga, 4, none⟩ (.int .i64 0)) rfl (by kernel_rfl) (by rfl) (by go_simp) hsF ?_
                obtain ⟨W6, hW6⟩ : ∃ W6, W6 = (((((w5.setCell ⟨ga, 0, none⟩ (.int .i64 0)).setCell ⟨ga, 1, none⟩ (.int .i64 0)).setCell ⟨ga, 2, none⟩ (.int .i64 0)).setCell ⟨ga, 3, none⟩ (.slice none 0 0)).setCell ⟨ga, 4, none⟩ (.int .i64 0)) := ⟨_, rfl⟩
                rw [← hW6] at X5 K5 ⊢
                have hgw : w.heap.size ≤ ga := by have := HO3.out.bel.size; omega
                have b6 : Below w.heap.size w W6 := o5.bel.trans (K5.below (fun k hk => by rw [hk]; exact hgw) o5.bel.size)
                have HG : Hid (Below w.heap.size w W6) := b6
                clear b6 hgw
                clear hW6 q0 q1 q2 q3 q4 f0 f1 f2 f3 f4 hsF o5 K5 X5 G5
                refine doneL (by kernel_rfl) ?_
                try dsimp only [Act.put]
                unfold Oper.wp
                go_simp
                go_wp2_with fail
                refine wp_region_above (by kernel_rfl) (by kernel_rfl) ?_
                intro hne
                repeat (go_big_quiet_step (first | (go_at_call 12; exact above_of (awake23 _))))
                refine wpQuiet_nil ?_
                rintro _ ⟨kq, rfl⟩
                go_wp2_with fail
                go_ret
                exact ⟨rfl, HG.out.trans (kq.is.mono HG.out.size)⟩
          · have HOKB : Hid (∀ b ∈ extL (lay s.sure s.wait) 3 40, okB b = true) := fun b hb => by
              cases h : okB b with
              | true => rfl
              | false => exact absurd ⟨b, hb, h⟩ hbad
            have HOPN : Hid (∀ W, Below wr.heap.size wr W → Calls Try.prog 23 #[.pointer (some ⟨hp, 0, none⟩), .agg #[.int .i64 3, .int .i64 40], .int .i64 t] W (JSOpen W H (lay s.sure s.wait) s tb)) := fun W hW => by
              rcases HSR.out W hW with h | h
              · refine h.mono ?_
                rintro e w' ⟨h2, hb⟩
                rcases h2 with ⟨_, K, u, out, he, hH, hj, hr, hu, hp', hv⟩ | ⟨⟨b, hb1, hb2⟩, _⟩
                · exact ⟨⟨K, u, out, he, hH, hj, hr, hu, hp', hv⟩, hb⟩
                · rw [HOKB.out b hb1] at hb2; cases hb2
              · exact absurd h hno
            have HRF := HRO
            clear hm htk hn1 hn2 hn3 hn4 h50 h4f hlong HSR HRO hbad hno
            rcases hcs with hc1 | ⟨hc1, hc2⟩
            all_goals
              go_wp2_with fail
              refine (lat_any _).mono ?_
              rintro e w2' ⟨rfl, b2'⟩
              go_wp2_with fail
              refine (HOPN.out w2' b2').mono ?_
              rintro e w3 ⟨⟨K, u, out, rfl, _, jk3, hrk, hu40, _⟩, b3'⟩
              have b3 := b2'.trans (b3'.mono b2'.size)
              have HO3 : Hid (Tq w w3 qb R n1 n2 n3 n4) := HQ0.out.over b3
              have HJK : Hid (Jnl w3 K s 3 40 tb u out) := jk3
              have HUO : Hid (u ≤ 40 ∧ out.length ≤ 40) := ⟨hu40, by have := line_count hrk.line; omega⟩
              have huI : 0 ≤ (u : Int) ∧ (u : Int) ≤ 40 := by omega
              have r40 : IntKind.i64.wrap (40 - (u : Int)) = 40 - (u : Int) := by rw [IntKind.wrap_i64]; omega
              have HREF : Hid (∀ W, Below w3.heap.size w3 W → Calls Try.prog 27 #[.agg #[.slice R.sa n1 R.sc, .slice R.wa n2 R.wc, .int .i64 n3, .bool n4], .agg #[.int .i64 3, .int .i64 40], .int .i64 t] W fun e w' => (∃ va vn vc, e = .returned (.tuple #[.agg #[.int .i64 3, .int .i64 40, .int .i64 t, .slice va vn vc, .int .i64 u], .int .i64 0]) ∧ OwnsS w' W.heap.size (.slice va vn vc) (bks out)) ∧ Below W.heap.size W w') := fun W hW => (HRF.out W (b3.trans (hW.mono b3.size))).mono fun e w' h => by
                have h2 := refOpen_same HOKB.out hrk h
                rw [← HT.out] at h2
                exact h2
              obtain ⟨pk, hpk⟩ : ∃ pk, pk = K.p := ⟨_, rfl⟩
              have HPK : Hid (pk = K.p) := hpk
              rw [← hpk]
              clear b2' b3' b3 jk3 hrk hu40 hpk
              go_wp2_with fail
              go_cut [17, 18] (fun s17 s18 wx => ∃ (ga : Nat) (va : Option Addr) (vn vc : Nat) (W6 : World), s17 = .pointer (some ⟨ga, 0, none⟩) ∧ s18 = .int .i64 0 ∧ wx = W6 ∧ Jnl W6 K s 3 40 tb u out ∧ ReadsS W6 (.slice va vn vc) (bks out) ∧ Box W6 ga 41 #[.int .i64 3, .int .i64 40, .int .i64 t, .slice va vn vc, .int .i64 u] ∧ Below w.heap.size w W6)
              case first =>
                -- the document's journal
                have n1e : (fun w' : World => w'.cell? ⟨qb, 0, none⟩ = some (.slice R.sa n1 R.sc) ∧ w'.cell? ⟨qb, 1, none⟩ = some (.slice R.wa n2 R.wc) ∧ w'.cell? ⟨qb, 2, none⟩ = some (.int .i64 n3) ∧ w'.cell? ⟨qb, 3, none⟩ = some (.bool n4)) w3 := HS4.out w3 HO3.out.box
                refine wp_region_held_then (fun w' : World => w'.cell? ⟨qb, 0, none⟩ = some (.slice R.sa n1 R.sc) ∧ w'.cell? ⟨qb, 1, none⟩ = some (.slice R.wa n2 R.wc) ∧ w'.cell? ⟨qb, 2, none⟩ = some (.int .i64 n3) ∧ w'.cell? ⟨qb, 3, none⟩ = some (.bool n4)) _ (by kernel_rfl) rfl (by kernel_rfl) ?_
                have hHeld : (fun w' : World => w'.cell? ⟨qb, 0, none⟩ = some (.slice R.sa n1 R.sc) ∧ w'.cell? ⟨qb, 1, none⟩ = some (.slice R.wa n2 R.wc) ∧ w'.cell? ⟨qb, 2, none⟩ = some (.int .i64 n3) ∧ w'.cell? ⟨qb, 3, none⟩ = some (.bool n4)) w3.drew := n1e
                have lz : ∀ W : World, Box W qb 30 (rd R.sa n1 R.sc R.wa n2 R.wc n3 n4) → (fun w' : World => w'.cell? ⟨qb, 0, none⟩ = some (.slice R.sa n1 R.sc) ∧ w'.cell? ⟨qb, 1, none⟩ = some (.slice R.wa n2 R.wc) ∧ w'.cell? ⟨qb, 2, none⟩ = some (.int .i64 n3) ∧ w'.cell? ⟨qb, 3, none⟩ = some (.bool n4)) (W.alloc (.cells #[.int .i64 0, .int .i64 0, .int .i64 0, .slice none 0 0, .int .i64 0] 41)) := fun W h => HS4.out _ (h.alloc _)
                dsimp only [List.dropLast, List.length, List.getLast]
                ((refine takeL 0 (v := ?_) rfl (by kernel_rfl) (by kernel_rfl) (by kernel_rfl) (fun _ _ _ h => h) (by rfl) hHeld ?_ ?_; rotate_left; focus (intro w hSw; (try dsimp only at hSw); go_simp <;> with_reducible rfl); (try simp only [Act.put, List.setIfInBounds_toArray, List.set_cons_zero, List.set_cons_succ])); (refine takeL 2 (v := ?_) rfl (by kernel_rfl) (by kernel_rfl) (by kernel_rfl) (fun _ _ _ h => h) (by rfl) hHeld ?_ ?_; rotate_left; focus (intro w hSw; (try dsimp only at hSw); go_simp <;> with_reducible rfl); (try simp only [Act.put, List.setIfInBounds_toArray, List.set_cons_zero, List.set_cons_succ])))
                dsimp only [Act.put]
                simp only [List.setIfInBounds_toArray, List.set_cons_zero, List.set_cons_succ]
                refine callNewL 1 7 (f := 11) (vs := #[]) (w3.drew.alloc (.cells #[.int .i64 0, .int .i64 0, .int .i64 0, .slice none 0 0, .int .i64 0] 41)) (.pointer (some ⟨w3.heap.size, 0, none⟩)) rfl rfl (by kernel_rfl) (by rfl) (by rfl) (by go_simp) (by go_simp) (lz _ HO3.out.box.drew) ?_ ?_
                · refine (lat_any _).mono ?_
                  rintro e w4 ⟨rfl, b4⟩
                  replace b4 := (Below.refl w3.heap.size w3).drew.trans b4
                  have o4 := HO3.out.over b4
                  have hH4 : (fun w' : World => w'.cell? ⟨qb, 0, none⟩ = some (.slice R.sa n1 R.sc) ∧ w'.cell? ⟨qb, 1, none⟩ = some (.slice R.wa n2 R.wc) ∧ w'.cell? ⟨qb, 2, none⟩ = some (.int .i64 n3) ∧ w'.cell? ⟨qb, 3, none⟩ = some (.bool n4)) w4 := HS4.out w4 o4.box
                  refine ⟨_, rfl, hH4, ?_⟩
                  try dsimp only [Act.put]
                  try simp only [List.setIfInBounds_toArray, List.set_cons_zero, List.set_cons_succ]
                  refine callNewL 3 7 (f := 27) (vs := #[.agg #[.slice R.sa n1 R.sc, .slice R.wa n2 R.wc, .int .i64 n3, .bool n4], .agg #[.int .i64 3, .int .i64 40], .int .i64 t]) (w4.alloc (.cells #[.int .i64 0, .int .i64 0, .int .i64 0, .slice none 0 0, .int .i64 0] 41)) (.pointer (some ⟨w4.heap.size, 0, none⟩)) rfl rfl (by kernel_rfl) (by rfl) (by rfl) (by go_simp) (by go_simp) (lz _ o4.box) ?_ ?_
                  · refine (HREF.out w4 b4).mono ?_
                    rintro e w5 ⟨⟨va, vn, vc, rfl, hv⟩, b5⟩
                    have b35 := b4.trans (b5.mono b4.size)
                    have o5' := HO3.out.over b35
                    have hH5 : (fun w' : World => w'.cell? ⟨qb, 0, none⟩ = some (.slice R.sa n1 R.sc) ∧ w'.cell? ⟨qb, 1, none⟩ = some (.slice R.wa n2 R.wc) ∧ w'.cell? ⟨qb, 2, none⟩ = some (.int .i64 n3) ∧ w'.cell? ⟨qb, 3, none⟩ = some (.bool n4)) w5 := HS4.out w5 o5'.box
                    refine ⟨_, rfl, hH5, ?_⟩
                    ((refine takeL 4 (v := ?_) rfl (by kernel_rfl) (by kernel_rfl) (by kernel_rfl) (fun _ _ _ h => h) (by rfl) hH5 ?_ ?_; rotate_left; focus (intro w hSw; (try dsimp only at hSw); go_simp <;> with_reducible rfl); (try simp only [Act.put, List.setIfInBounds_toArray, List.set_cons_zero, List.set_cons_succ])); (refine takeL 5 (v := ?_) rfl (by kernel_rfl) (by kernel_rfl) (by kernel_rfl) (fun _ _ _ h => h) (by rfl) hH5 ?_ ?_; rotate_left; focus (intro w hSw; (try dsimp only at hSw); go_simp <;> with_reducible rfl); (try simp only [Act.put, List.setIfInBounds_toArray, List.set_cons_zero, List.set_cons_succ])); (refine takeL 6 (v := ?_) rfl (by kernel_rfl) (by kernel_rfl) (by kernel_rfl) (fun _ _ _ h => h) (by rfl) hH5 ?_ ?_; rotate_left; focus (intro w hSw; (try dsimp only at hSw); go_simp <;> with_reducible rfl); (try simp only [Act.put, List.setIfInBounds_toArray, List.set_cons_zero, List.set_cons_succ])))
                    try dsimp only [Act.put]
                    try simp only [List.setIfInBounds_toArray, List.set_cons_zero, List.set_cons_succ]
                    refine newL 7 (w5.alloc (.cells #[.int .i64 0, .int .i64 0, .int .i64 0, .slice none 0 0, .int .i64 0] 41)) (.pointer (some ⟨w5.heap.size, 0, none⟩)) rfl (by kernel_rfl) (by rfl) (by go_simp) (lz _ o5'.box) ?_
                    have bl := below1 w5 (.cells #[.int .i64 0, .int .i64 0, .int .i64 0, .slice none 0 0, .int .i64 0] 41)
                    have o5 := o5'.over bl
                    have G5 := box_new w5 #[.int .i64 0, .int .i64 0, .int .i64 0, .slice none 0 0, .int .i64 0] 41
                    have hvg : ∀ k, (Value.slice va vn vc).ownBlock = some k → k ≠ w5.heap.size := fun k hk => Nat.ne_of_lt (owns_lt hv hk)
                    replace hv := OwnsS.below hv bl
                    have jk5 := (HJK.out.over b35).over bl
                    obtain ⟨ga, hga⟩ : ∃ ga, ga = w5.heap.size := ⟨_, rfl⟩
                    rw [← hga] at G5 hvg ⊢
                    have hgq : ga ≠ qb := by have := o5'.box.lt; omega
                    have hg3 : w3.heap.size ≤ ga := by have := b35.size; omega
                    clear hga bl
                    obtain ⟨w5n, hw5n⟩ : ∃ x, x = w5.alloc (.cells #[.int .i64 0, .int .i64 0, .int .i64 0, .slice none 0 0, .int .i64 0] 41) := ⟨_, rfl⟩
                    rw [← hw5n] at o5 G5 hv jk5 ⊢
                    clear hw5n
                    have q0 := G5.cell 0 (.int .i64 0) rfl
                    have q1 := G5.cell 1 (.int .i64 0) rfl
                    have q2 := G5.cell 2 (.int .i64 0) rfl
                    have q3 := G5.cell 3 (.slice none 0 0) rfl
                    have q4 := G5.cell 4 (.int .i64 0) rfl
                    have f0 := G5.frozen 0
                    have f1 := G5.frozen 1
                    have f2 := G5.frozen 2
                    have f3 := G5.frozen 3
                    have f4 := G5.frozen 4
                    have X5 := box_five G5 (.int .i64 3) (.int .i64 40) (.int .i64 t) (.slice va vn vc) (.int .i64 u)
                    have K5 := kept_five (F := fun k => k = ga) (Kept.refl _ w5n) (.inl rfl) (.int .i64 3) (.int .i64 40) (.int .i64 t) (.slice va vn vc) (.int .i64 u)
                    have hsF : (fun w' : World => w'.cell? ⟨qb, 0, none⟩ = some (.slice R.sa n1 R.sc) ∧ w'.cell? ⟨qb, 1, none⟩ = some (.slice R.wa n2 R.wc) ∧ w'.cell? ⟨qb, 2, none⟩ = some (.int .i64 n3) ∧ w'.cell? ⟨qb, 3, none⟩ = some (.bool n4)) (((((w5n.setCell ⟨ga, 0, none⟩ (.int .i64 3)).setCell ⟨ga, 1, none⟩ (.int .i64 40)).setCell ⟨ga, 2, none⟩ (.int .i64 t)).setCell ⟨ga, 3, none⟩ (.slice va vn vc)).setCell ⟨ga, 4, none⟩ (.int .i64 u)) := HS4.out _ (o5.box.kept K5 (fun e => hgq e.symm))
                    refine stepL 8 (((((w5n.setCell ⟨ga, 0, none⟩ (.int .i64 3)).setCell ⟨ga, 1, none⟩ (.int .i64 40)).setCell ⟨ga, 2, none⟩ (.int .i64 t)).setCell ⟨ga, 3, none⟩ (.slice va vn vc)).setCell ⟨ga, 4, none⟩ (.int .i64 u)) rfl (by kernel_rfl) (by rfl) (by go_simp) hsF ?_
                    obtain ⟨W6, hW6⟩ : ∃ W6, W6 = (((((w5n.setCell ⟨ga, 0, none⟩ (.int .i64 3)).setCell ⟨ga, 1, none⟩ (.int .i64 40)).setCell ⟨ga, 2, none⟩ (.int .i64 t)).setCell ⟨ga, 3, none⟩ (.slice va vn vc)).setCell ⟨ga, 4, none⟩ (.int .i64 u)) := ⟨_, rfl⟩
                    rw [← hW6] at X5 K5 ⊢
                    have hgw : w.heap.size ≤ ga := by have := HO3.out.bel.size; omega
                    have b6 : Below w.heap.size w W6 := o5.bel.trans (K5.below (fun k hk => by rw [hk]; exact hgw) o5.bel.size)
                    have hjk : Jnl W6 K s 3 40 tb u out := (jk5).keptF K5 (fun x hx e => by have := HJK.out.lt hx; omega)
                    have hvr : ReadsS W6 (.slice va vn vc) (bks out) := OwnsS.reads (OwnsS.keptS hv fun k hk => K5.block k (owns_lt hv hk) (fun e => hvg k hk e))
                    have HG : Hid (Jnl W6 K s 3 40 tb u out ∧ ReadsS W6 (.slice va vn vc) (bks out) ∧ Box W6 ga 41 #[.int .i64 3, .int .i64 40, .int .i64 t, .slice va vn vc, .int .i64 u] ∧ Below w.heap.size w W6) := ⟨hjk, hvr, X5, b6⟩
                    clear hjk hvr b6 hgw hvg hv jk5
                    clear hW6 q0 q1 q2 q3 q4 f0 f1 f2 f3 f4 hsF o5 K5 X5 G5
                    refine doneL (by kernel_rfl) ?_
                    try dsimp only [Act.put]
                    unfold Oper.wp
                    go_simp
                    go_wp2_with fail
                    go_meet
                    exact ⟨ga, va, vn, vc, W6, rfl, rfl, rfl, HG.out⟩
                  · try dsimp only [Act.put]
                    try dsimp only [Act.put]
                    try simp only [List.setIfInBounds_toArray, List.set_cons_zero, List.set_cons_succ]
                    have bl := below1 w4 (.cells #[.int .i64 0, .int .i64 0, .int .i64 0, .slice none 0 0, .int .i64 0] 41)
                    have b4a := b4.trans (bl.mono b4.size)
                    refine callL 3 (f := 27) (vs := #[.agg #[.slice R.sa n1 R.sc, .slice R.wa n2 R.wc, .int .i64 n3, .bool n4], .agg #[.int .i64 3, .int .i64 40], .int .i64 t]) rfl (by kernel_rfl) (by rfl) (by go_simp) ?_
                    refine (HREF.out _ b4a).mono ?_
                    rintro e w5 ⟨⟨va, vn, vc, rfl, hv⟩, b5⟩
                    have b35 := b4a.trans (b5.mono b4a.size)
                    have o5 := HO3.out.over b35
                    have hH5 : (fun w' : World => w'.cell? ⟨qb, 0, none⟩ = some (.slice R.sa n1 R.sc) ∧ w'.cell? ⟨qb, 1, none⟩ = some (.slice R.wa n2 R.wc) ∧ w'.cell? ⟨qb, 2, none⟩ = some (.int .i64 n3) ∧ w'.cell? ⟨qb, 3, none⟩ = some (.bool n4)) w5 := HS4.out w5 o5.box
                    refine ⟨_, rfl, hH5, ?_⟩
                    ((refine takeL 4 (v := ?_) rfl (by kernel_rfl) (by kernel_rfl) (by kernel_rfl) (fun _ _ _ h => h) (by rfl) hH5 ?_ ?_; rotate_left; focus (intro w hSw; (try dsimp only at hSw); go_simp <;> with_reducible rfl); (try simp only [Act.put, List.setIfInBounds_toArray, List.set_cons_zero, List.set_cons_succ])); (refine takeL 5 (v := ?_) rfl (by kernel_rfl) (by kernel_rfl) (by kernel_rfl) (fun _ _ _ h => h) (by rfl) hH5 ?_ ?_; rotate_left; focus (intro w hSw; (try dsimp only at hSw); go_simp <;> with_reducible rfl); (try simp only [Act.put, List.setIfInBounds_toArray, List.set_cons_zero, List.set_cons_succ])); (refine takeL 6 (v := ?_) rfl (by kernel_rfl) (by kernel_rfl) (by kernel_rfl) (fun _ _ _ h => h) (by rfl) hH5 ?_ ?_; rotate_left; focus (intro w hSw; (try dsimp only at hSw); go_simp <;> with_reducible rfl); (try simp only [Act.put, List.setIfInBounds_toArray, List.set_cons_zero, List.set_cons_succ])))
                    try dsimp only [Act.put]
                    try simp only [List.setIfInBounds_toArray, List.set_cons_zero, List.set_cons_succ]
                    have G5 := (box_new w4 #[.int .i64 0, .int .i64 0, .int .i64 0, .slice none 0 0, .int .i64 0] 41).over b5
                    have hvg : ∀ k, (Value.slice va vn vc).ownBlock = some k → k ≠ w4.heap.size := fun k hk e => by have := (World.ownsRow.lt hv k hk).1; rw [World.size_alloc] at this; omega
                    have jk5 := HJK.out.over b35
                    obtain ⟨ga, hga⟩ : ∃ ga, ga = w4.heap.size := ⟨_, rfl⟩
                    rw [← hga] at G5 hvg ⊢
                    have hgq : ga ≠ qb := by have := o4.box.lt; omega
                    have hg3 : w3.heap.size ≤ ga := by have := b4.size; omega
                    clear hga bl b4a
                    have q0 := G5.cell 0 (.int .i64 0) rfl
                    have q1 := G5.cell 1 (.int .i64 0) rfl
                    have q2 := G5.cell 2 (.int .i64 0) rfl
                    have q3 := G5.cell 3 (.slice none 0 0) rfl
                    have q4 := G5.cell 4 (.int .i64 0) rfl
                    have f0 := G5.frozen 0
                    have f1 := G5.frozen 1
                    have f2 := G5.frozen 2
                    have f3 := G5.frozen 3
                    have f4 := G5.frozen 4
                    have X5 := box_five G5 (.int .i64 3) (.int .i64 40) (.int .i64 t) (.slice va vn vc) (.int .i64 u)
                    have K5 := kept_five (F := fun k => k = ga) (Kept.refl _ w5) (.inl rfl) (.int .i64 3) (.int .i64 40) (.int .i64 t) (.slice va vn vc) (.int .i64 u)
                    have hsF : (fun w' : World => w'.cell? ⟨qb, 0, none⟩ = some (.slice R.sa n1 R.sc) ∧ w'.cell? ⟨qb, 1, none⟩ = some (.slice R.wa n2 R.wc) ∧ w'.cell? ⟨qb, 2, none⟩ = some (.int .i64 n3) ∧ w'.cell? ⟨qb, 3, none⟩ = some (.bool n4)) (((((w5.setCell ⟨ga, 0, none⟩ (.int .i64 3)).setCell ⟨ga, 1, none⟩ (.int .i64 40)).setCell ⟨ga, 2, none⟩ (.int .i64 t)).setCell ⟨ga, 3, none⟩ (.slice va vn vc)).setCell ⟨ga, 4, none⟩ (.int .i64 u)) := HS4.out _ (o5.box.kept K5 (fun e => hgq e.symm))
                    refine stepL 8 (((((w5.setCell ⟨ga, 0, none⟩ (.int .i64 3)).setCell ⟨ga, 1, none⟩ (.int .i64 40)).setCell ⟨ga, 2, none⟩ (.int .i64 t)).setCell ⟨ga, 3, none⟩ (.slice va vn vc)).setCell ⟨ga, 4, none⟩ (.int .i64 u)) rfl (by kernel_rfl) (by rfl) (by go_simp) hsF ?_
                    obtain ⟨W6, hW6⟩ : ∃ W6, W6 = (((((w5.setCell ⟨ga, 0, none⟩ (.int .i64 3)).setCell ⟨ga, 1, none⟩ (.int .i64 40)).setCell ⟨ga, 2, none⟩ (.int .i64 t)).setCell ⟨ga, 3, none⟩ (.slice va vn vc)).setCell ⟨ga, 4, none⟩ (.int .i64 u)) := ⟨_, rfl⟩
                    rw [← hW6] at X5 K5 ⊢
                    have hgw : w.heap.size ≤ ga := by have := HO3.out.bel.size; omega
                    have b6 : Below w.heap.size w W6 := o5.bel.trans (K5.below (fun k hk => by rw [hk]; exact hgw) o5.bel.size)
                    have hjk : Jnl W6 K s 3 40 tb u out := (jk5).keptF K5 (fun x hx e => by have := HJK.out.lt hx; omega)
                    have hvr : ReadsS W6 (.slice va vn vc) (bks out) := OwnsS.reads (OwnsS.keptS hv fun k hk => K5.block k (owns_lt hv hk) (fun e => hvg k hk e))
                    have HG : Hid (Jnl W6 K s 3 40 tb u out ∧ ReadsS W6 (.slice va vn vc) (bks out) ∧ Box W6 ga 41 #[.int .i64 3, .int .i64 40, .int .i64 t, .slice va vn vc, .int .i64 u] ∧ Below w.heap.size w W6) := ⟨hjk, hvr, X5, b6⟩
                    clear hjk hvr b6 hgw hvg hv jk5
                    clear hW6 q0 q1 q2 q3 q4 f0 f1 f2 f3 f4 hsF o5 K5 X5 G5
                    refine doneL (by kernel_rfl) ?_
                    try dsimp only [Act.put]
                    unfold Oper.wp
                    go_simp
                    go_wp2_with fail
                    go_meet
                    exact ⟨ga, va, vn, vc, W6, rfl, rfl, rfl, HG.out⟩
                · try dsimp only [Act.put]
                  try dsimp only [Act.put]
                  try simp only [List.setIfInBounds_toArray, List.set_cons_zero, List.set_cons_succ]
                  have bl := (Below.refl w3.heap.size w3).drew.alloc (Nat.le_refl _) (.cells #[.int .i64 0, .int .i64 0, .int .i64 0, .slice none 0 0, .int .i64 0] 41)
                  refine callL 1 (f := 11) (vs := #[]) rfl (by kernel_rfl) (by rfl) (by go_simp) ?_
                  refine (lat_any _).mono ?_
                  rintro e w4 ⟨rfl, b4'⟩
                  have G4 := (box_new w3.drew #[.int .i64 0, .int .i64 0, .int .i64 0, .slice none 0 0, .int .i64 0] 41).over b4'
                  have b4 := bl.trans (b4'.mono bl.size)
                  have o4 := HO3.out.over b4
                  have hH4 : (fun w' : World => w'.cell? ⟨qb, 0, none⟩ = some (.slice R.sa n1 R.sc) ∧ w'.cell? ⟨qb, 1, none⟩ = some (.slice R.wa n2 R.wc) ∧ w'.cell? ⟨qb, 2, none⟩ = some (.int .i64 n3) ∧ w'.cell? ⟨qb, 3, none⟩ = some (.bool n4)) w4 := HS4.out w4 o4.box
                  refine ⟨_, rfl, hH4, ?_⟩
                  try dsimp only [Act.put]
                  try simp only [List.setIfInBounds_toArray, List.set_cons_zero, List.set_cons_succ]
                  refine callL 3 (f := 27) (vs := #[.agg #[.slice R.sa n1 R.sc, .slice R.wa n2 R.wc, .int .i64 n3, .bool n4], .agg #[.int .i64 3, .int .i64 40], .int .i64 t]) rfl (by kernel_rfl) (by rfl) (by go_simp) ?_
                  refine (HREF.out w4 b4).mono ?_
                  rintro e w5 ⟨⟨va, vn, vc, rfl, hv⟩, b5⟩
                  have b35 := b4.trans (b5.mono b4.size)
                  have o5 := HO3.out.over b35
                  have hH5 : (fun w' : World => w'.cell? ⟨qb, 0, none⟩ = some (.slice R.sa n1 R.sc) ∧ w'.cell? ⟨qb, 1, none⟩ = some (.slice R.wa n2 R.wc) ∧ w'.cell? ⟨qb, 2, none⟩ = some (.int .i64 n3) ∧ w'.cell? ⟨qb, 3, none⟩ = some (.bool n4)) w5 := HS4.out w5 o5.box
                  refine ⟨_, rfl, hH5, ?_⟩
                  ((refine takeL 4 (v := ?_) rfl (by kernel_rfl) (by kernel_rfl) (by kernel_rfl) (fun _ _ _ h => h) (by rfl) hH5 ?_ ?_; rotate_left; focus (intro w hSw; (try dsimp only at hSw); go_simp <;> with_reducible rfl); (try simp only [Act.put, List.setIfInBounds_toArray, List.set_cons_zero, List.set_cons_succ])); (refine takeL 5 (v := ?_) rfl (by kernel_rfl) (by kernel_rfl) (by kernel_rfl) (fun _ _ _ h => h) (by rfl) hH5 ?_ ?_; rotate_left; focus (intro w hSw; (try dsimp only at hSw); go_simp <;> with_reducible rfl); (try simp only [Act.put, List.setIfInBounds_toArray, List.set_cons_zero, List.set_cons_succ])); (refine takeL 6 (v := ?_) rfl (by kernel_rfl) (by kernel_rfl) (by kernel_rfl) (fun _ _ _ h => h) (by rfl) hH5 ?_ ?_; rotate_left; focus (intro w hSw; (try dsimp only at hSw); go_simp <;> with_reducible rfl); (try simp only [Act.put, List.setIfInBounds_toArray, List.set_cons_zero, List.set_cons_succ])))
                  try dsimp only [Act.put]
                  try simp only [List.setIfInBounds_toArray, List.set_cons_zero, List.set_cons_succ]
                  have G5 := G4.over b5
                  have hvg : ∀ k, (Value.slice va vn vc).ownBlock = some k → k ≠ w3.drew.heap.size := fun k hk e => by have h1 := (World.ownsRow.lt hv k hk).1; have h2 := G4.lt; omega
                  have jk5 := HJK.out.over b35
                  obtain ⟨ga, hga⟩ : ∃ ga, ga = w3.drew.heap.size := ⟨_, rfl⟩
                  have hga3 : ga = w3.heap.size := hga
                  rw [← hga] at G5 hvg
                  rw [← hga3]
                  have hgq : ga ≠ qb := by have := HO3.out.box.lt; omega
                  have hg3 : w3.heap.size ≤ ga := by omega
                  clear hga hga3 bl b4'
                  have q0 := G5.cell 0 (.int .i64 0) rfl
                  have q1 := G5.cell 1 (.int .i64 0) rfl
                  have q2 := G5.cell 2 (.int .i64 0) rfl
                  have q3 := G5.cell 3 (.slice none 0 0) rfl
                  have q4 := G5.cell 4 (.int .i64 0) rfl
                  have f0 := G5.frozen 0
                  have f1 := G5.frozen 1
                  have f2 := G5.frozen 2
                  have f3 := G5.frozen 3
                  have f4 := G5.frozen 4
                  have X5 := box_five G5 (.int .i64 3) (.int .i64 40) (.int .i64 t) (.slice va vn vc) (.int .i64 u)
                  have K5 := kept_five (F := fun k => k = ga) (Kept.refl _ w5) (.inl rfl) (.int .i64 3) (.int .i64 40) (.int .i64 t) (.slice va vn vc) (.int .i64 u)
                  have hsF : (fun w' : World => w'.cell? ⟨qb, 0, none⟩ = some (.slice R.sa n1 R.sc) ∧ w'.cell? ⟨qb, 1, none⟩ = some (.slice R.wa n2 R.wc) ∧ w'.cell? ⟨qb, 2, none⟩ = some (.int .i64 n3) ∧ w'.cell? ⟨qb, 3, none⟩ = some (.bool n4)) (((((w5.setCell ⟨ga, 0, none⟩ (.int .i64 3)).setCell ⟨ga, 1, none⟩ (.int .i64 40)).setCell ⟨ga, 2, none⟩ (.int .i64 t)).setCell ⟨ga, 3, none⟩ (.slice va vn vc)).setCell ⟨ga, 4, none⟩ (.int .i64 u)) := HS4.out _ (o5.box.kept K5 (fun e => hgq e.symm))
                  refine stepL 8 (((((w5.setCell ⟨ga, 0, none⟩ (.int .i64 3)).setCell ⟨ga, 1, none⟩ (.int .i64 40)).setCell ⟨ga, 2, none⟩ (.int .i64 t)).setCell ⟨ga, 3, none⟩ (.slice va vn vc)).setCell ⟨ga, 4, none⟩ (.int .i64 u)) rfl (by kernel_rfl) (by rfl) (by go_simp) hsF ?_
                  obtain ⟨W6, hW6⟩ : ∃ W6, W6 = (((((w5.setCell ⟨ga, 0, none⟩ (.int .i64 3)).setCell ⟨ga, 1, none⟩ (.int .i64 40)).setCell ⟨ga, 2, none⟩ (.int .i64 t)).setCell ⟨ga, 3, none⟩ (.slice va vn vc)).setCell ⟨ga, 4, none⟩ (.int .i64 u)) := ⟨_, rfl⟩
                  rw [← hW6] at X5 K5 ⊢
                  have hgw : w.heap.size ≤ ga := by have := HO3.out.bel.size; omega
                  have b6 : Below w.heap.size w W6 := o5.bel.trans (K5.below (fun k hk => by rw [hk]; exact hgw) o5.bel.size)
                  have hjk : Jnl W6 K s 3 40 tb u out := (jk5).keptF K5 (fun x hx e => by have := HJK.out.lt hx; omega)
                  have hvr : ReadsS W6 (.slice va vn vc) (bks out) := OwnsS.reads (OwnsS.keptS hv fun k hk => K5.block k (owns_lt hv hk) (fun e => hvg k hk e))
                  have HG : Hid (Jnl W6 K s 3 40 tb u out ∧ ReadsS W6 (.slice va vn vc) (bks out) ∧ Box W6 ga 41 #[.int .i64 3, .int .i64 40, .int .i64 t, .slice va vn vc, .int .i64 u] ∧ Below w.heap.size w W6) := ⟨hjk, hvr, X5, b6⟩
                  clear hjk hvr b6 hgw hvg hv jk5
                  clear hW6 q0 q1 q2 q3 q4 f0 f1 f2 f3 f4 hsF o5 K5 X5 G5
                  refine doneL (by kernel_rfl) ?_
                  try dsimp only [Act.put]
                  unfold Oper.wp
                  go_simp
                  go_wp2_with fail
                  go_meet
                  exact ⟨ga, va, vn, vc, W6, rfl, rfl, rfl, HG.out⟩
              case rest =>
                obtain ⟨ga, va, vn, vc, W6, rfl, rfl, hwx, hG⟩ := hcut
                replace hwx := hwx.symm
                subst hwx
                have HG := (show Hid _ from hG)
                clear hG HREF HO3
                have hH6 : (fun w' : World => w'.cell? ⟨ga, 3, none⟩ = some (.slice va vn vc) ∧ w'.cell? ⟨ga, 4, none⟩ = some (.int .i64 u)) W6 := ⟨HG.out.2.2.1.cell 3 _ rfl, HG.out.2.2.1.cell 4 _ rfl⟩
                have mk21 : ∀ W, Below W6.heap.size W6 W → (fun w' : World => w'.cell? ⟨ga, 3, none⟩ = some (.slice va vn vc) ∧ w'.cell? ⟨ga, 4, none⟩ = some (.int .i64 u)) W := fun W hW => ⟨(HG.out.2.2.1.over hW).cell 3 _ rfl, (HG.out.2.2.1.over hW).cell 4 _ rfl⟩
                have M21 := (show Hid _ from mk21)
                clear mk21
                go_wp2_with fail
                refine wp_region_held_then (fun w' : World => w'.cell? ⟨ga, 3, none⟩ = some (.slice va vn vc) ∧ w'.cell? ⟨ga, 4, none⟩ = some (.int .i64 u)) _ (by kernel_rfl) rfl (by kernel_rfl) ?_
                have hHeld : (fun w' : World => w'.cell? ⟨ga, 3, none⟩ = some (.slice va vn vc) ∧ w'.cell? ⟨ga, 4, none⟩ = some (.int .i64 u)) W6.drew := hH6
                dsimp only [List.dropLast, List.length, List.getLast]
                ((refine takeL 0 (v := ?_) rfl (by kernel_rfl) (by kernel_rfl) (by kernel_rfl) (fun _ _ _ h => h) (by rfl) hHeld ?_ ?_; rotate_left; focus (intro w hSw; (try dsimp only at hSw); go_simp <;> with_reducible rfl); (try simp only [Act.put, List.setIfInBounds_toArray, List.set_cons_zero, List.set_cons_succ])); (refine takeL 1 (v := ?_) rfl (by kernel_rfl) (by kernel_rfl) (by kernel_rfl) (fun _ _ _ h => h) (by rfl) hHeld ?_ ?_; rotate_left; focus (intro w hSw; (try dsimp only at hSw); go_simp <;> with_reducible rfl); (try simp only [Act.put, List.setIfInBounds_toArray, List.set_cons_zero, List.set_cons_succ])); (refine takeL 2 (v := ?_) rfl (by kernel_rfl) (by kernel_rfl) (by kernel_rfl) (fun _ _ _ h => h) (by rfl) hHeld ?_ ?_; rotate_left; focus (intro w hSw; (try dsimp only at hSw); go_simp <;> with_reducible rfl); (try simp only [Act.put, List.setIfInBounds_toArray, List.set_cons_zero, List.set_cons_succ])); (refine takeL 3 (v := ?_) rfl (by kernel_rfl) (by kernel_rfl) (by kernel_rfl) (fun _ _ _ h => h) (by rfl) hHeld ?_ ?_; rotate_left; focus (intro w hSw; (try dsimp only at hSw); go_simp <;> with_reducible rfl); (try simp only [Act.put, List.setIfInBounds_toArray, List.set_cons_zero, List.set_cons_succ])); (refine takeL 5 (v := ?_) rfl (by kernel_rfl) (by kernel_rfl) (by kernel_rfl) (fun _ _ _ h => h) (by rfl) hHeld ?_ ?_; rotate_left; focus (intro w hSw; (try dsimp only at hSw); go_simp <;> with_reducible rfl); (try simp only [Act.put, List.setIfInBounds_toArray, List.set_cons_zero, List.set_cons_succ])); (refine takeL 6 (v := ?_) rfl (by kernel_rfl) (by kernel_rfl) (by kernel_rfl) (fun _ _ _ h => h) (by rfl) hHeld ?_ ?_; rotate_left; focus (intro w hSw; (try dsimp only at hSw); go_simp <;> with_reducible rfl); (try simp only [Act.put, List.setIfInBounds_toArray, List.set_cons_zero, List.set_cons_succ])))
                dsimp only [Act.put]
                simp only [List.setIfInBounds_toArray, List.set_cons_zero, List.set_cons_succ]
                refine callL 4 (f := 15) (vs := #[.pointer (some ⟨pk, 0, none⟩)]) rfl (by kernel_rfl) (by rfl) (by go_simp) ?_
                have bd := (Below.refl W6.heap.size W6).drew
                have jd := HG.out.1.over bd
                have crk := jrecords_any jd.box jd.recs.reads (by rw [bks_len]; have := HUO.out; omega)
                rw [← HPK.out] at crk
                refine crk.mono ?_
                rintro e w7 ⟨⟨r, rfl, hr⟩, b7⟩
                replace b7 := bd.trans b7
                have hH7 := M21.out w7 b7
                refine ⟨_, rfl, hH7, ?_⟩
                try dsimp only [Act.put]
                try simp only [List.setIfInBounds_toArray, List.set_cons_zero, List.set_cons_succ]
                refine callL 7 (f := 14) (vs := #[r, .slice va vn vc]) rfl (by kernel_rfl) (by rfl) (by go_simp) ?_
                refine (sameT_any w7 r (.slice va vn vc) (bks out) (by rw [bks_len]; have := HUO.out; omega) hr.reads (HG.out.2.1.below b7)).mono ?_
                rintro e w8 ⟨rfl, n8, hw8⟩
                have b8 : Below W6.heap.size W6 w8 := by rw [hw8]; exact b7.trans ((below_drewN _ _).mono b7.size)
                clear hw8
                have hH8 := M21.out w8 b8
                refine ⟨_, rfl, hH8, ?_⟩
                ((refine takeL 8 (v := ?_) rfl (by kernel_rfl) (by kernel_rfl) (by kernel_rfl) (fun _ _ _ h => h) (by rfl) hH8 ?_ ?_; rotate_left; focus (intro w hSw; (try dsimp only at hSw); go_simp <;> with_reducible rfl); (try simp only [Act.put, List.setIfInBounds_toArray, List.set_cons_zero, List.set_cons_succ])); (refine takeL 9 (v := ?_) rfl (by kernel_rfl) (by kernel_rfl) (by kernel_rfl) (fun _ _ _ h => h) (by rfl) hH8 ?_ ?_; rotate_left; focus (intro w hSw; (try dsimp only at hSw); go_simp <;> with_reducible rfl); (try simp only [Act.put, List.setIfInBounds_toArray, List.set_cons_zero, List.set_cons_succ])); (refine takeL 11 (v := ?_) rfl (by kernel_rfl) (by kernel_rfl) (by kernel_rfl) (fun _ _ _ h => h) (by rfl) hH8 ?_ ?_; rotate_left; focus (intro w hSw; (try dsimp only at hSw); go_simp <;> with_reducible rfl); (try simp only [Act.put, List.setIfInBounds_toArray, List.set_cons_zero, List.set_cons_succ])); (refine takeL 12 (v := ?_) rfl (by kernel_rfl) (by kernel_rfl) (by kernel_rfl) (fun _ _ _ h => h) (by rfl) hH8 ?_ ?_; rotate_left; focus (intro w hSw; (try dsimp only at hSw); go_simp <;> with_reducible rfl); (try simp only [Act.put, List.setIfInBounds_toArray, List.set_cons_zero, List.set_cons_succ])); (refine takeL 13 (v := ?_) rfl (by kernel_rfl) (by kernel_rfl) (by kernel_rfl) (fun _ _ _ h => h) (by rfl) hH8 ?_ ?_; rotate_left; focus (intro w hSw; (try dsimp only at hSw); go_simp <;> with_reducible rfl); (try simp only [Act.put, List.setIfInBounds_toArray, List.set_cons_zero, List.set_cons_succ])))
                try dsimp only [Act.put]
                try simp only [List.setIfInBounds_toArray, List.set_cons_zero, List.set_cons_succ]
                refine callL 10 (f := 16) (vs := #[.pointer (some ⟨pk, 0, none⟩)]) rfl (by kernel_rfl) (by rfl) (by go_simp) ?_
                have croom := jroom_any (HG.out.1.over b8).box (by have := HUO.out; omega)
                rw [← HPK.out, show ((40 : Nat) : Int) = 40 from rfl] at croom
                refine croom.mono ?_
                rintro e w9 ⟨rfl, b9⟩
                replace b9 := b8.trans (b9.mono b8.size)
                have hH9 := M21.out w9 b9
                refine ⟨_, rfl, hH9, ?_⟩
                ((refine takeL 14 (v := ?_) rfl (by kernel_rfl) (by kernel_rfl) (by kernel_rfl) (fun _ _ _ h => h) (by rfl) hH9 ?_ ?_; rotate_left; focus (intro w hSw; (try dsimp only at hSw); go_simp <;> with_reducible rfl); (try simp only [Act.put, List.setIfInBounds_toArray, List.set_cons_zero, List.set_cons_succ])); (refine takeL 15 (v := ?_) rfl (by kernel_rfl) (by kernel_rfl) (by kernel_rfl) (fun _ _ _ h => h) (by rfl) hH9 ?_ ?_; rotate_left; focus (intro w hSw; (try dsimp only at hSw); go_simp <;> with_reducible rfl); (try simp only [Act.put, List.setIfInBounds_toArray, List.set_cons_zero, List.set_cons_succ])); (refine takeL 16 (v := ?_) rfl (by kernel_rfl) (by kernel_rfl) (by kernel_rfl) (fun _ _ _ h => h) (by rfl) hH9 ?_ ?_; rotate_left; focus (intro w hSw; (try dsimp only at hSw); go_simp <;> with_reducible rfl); (try simp only [Act.put, List.setIfInBounds_toArray, List.set_cons_zero, List.set_cons_succ])); (refine takeL 17 (v := ?_) rfl (by kernel_rfl) (by kernel_rfl) (by kernel_rfl) (fun _ _ _ h => h) (by rfl) hH9 ?_ ?_; rotate_left; focus (intro w hSw; (try dsimp only at hSw); go_simp <;> with_reducible rfl); (try simp only [Act.put, List.setIfInBounds_toArray, List.set_cons_zero, List.set_cons_succ])))
                try dsimp only [Act.put]
                try simp only [List.setIfInBounds_toArray, List.set_cons_zero, List.set_cons_succ]
                refine callL 18 (f := 12) (vs := #[]) rfl (by kernel_rfl) (by rfl) (by go_simp) ?_
                refine (awake23 _).mono ?_
                rintro e w10 ⟨rfl, b10⟩
                replace b10 := b9.trans (b10.mono b9.size)
                have hH10 := M21.out w10 b10
                refine ⟨_, rfl, hH10, ?_⟩
                ((refine takeL 19 (v := ?_) rfl (by kernel_rfl) (by kernel_rfl) (by kernel_rfl) (fun _ _ _ h => h) (by rfl) hH10 ?_ ?_; rotate_left; focus (intro w hSw; (try dsimp only at hSw); go_simp <;> with_reducible rfl); (try simp only [Act.put, List.setIfInBounds_toArray, List.set_cons_zero, List.set_cons_succ])))
                refine doneL (by kernel_rfl) ?_
                try dsimp only [Act.put]
                unfold Oper.wp
                go_simp
                go_wp2_with fail
                go_ret
                exact ⟨rfl, HG.out.2.2.2.trans (b10.mono HG.out.2.2.2.size)⟩
end Go.Proofs.Ytfcflefkjccfgaa
