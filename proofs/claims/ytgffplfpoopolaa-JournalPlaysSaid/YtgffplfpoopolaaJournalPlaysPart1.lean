/-
  5 texts, one behind the other: JRefH, JRefI, JRefJ, DRefN, JT.
-/
import Derived.Test.YtgffplfpoopolaaJoin4
import Derived.Test.YtgffplfpoopolaaJoin2
import Derived.Test.YtgffplfpoopolaaJoin5
import Derived.Deep.Slices
import Derived.OpenShut
import Derived.ChangeArms
/-
  The contract of package peristyleref23's Open, where the power is on.
-/
namespace Go.Proofs.Ytgffplfpoopolaa
open Go.RowKit Leb

theorem OwnsS.slice {w : World} {B : Nat} {v : Value} {l : List ByteArray} (h : OwnsS w B v l) : ∃ a n c, v = .slice a n c := by
  rcases h.reads with ⟨_, a, c, rfl⟩ | ⟨b, off, c, rfl, _⟩
  · exact ⟨_, _, _, rfl⟩
  · exact ⟨_, _, _, rfl⟩
theorem OwnsS.same {w w' : World} {B : Nat} {v : Value} {l : List ByteArray} (h : OwnsS w B v l) (hk : ∀ g, B ≤ g → w'.heap[g]? = w.heap[g]?) : OwnsS w' B v l := by
  refine ⟨h.1, ?_⟩
  rcases h.2 with hn | ⟨g, cap, cur, rfl, hbg, hg, rest⟩
  · exact .inl hn
  · exact .inr ⟨g, cap, cur, rfl, hbg, by rw [hk g hbg]; exact hg, rest⟩
theorem OwnsS.five {w : World} {B z : Nat} {v : Value} {l : List ByteArray} (h : OwnsS w B v l) (hz : z < B) (x y u t r : Value) : OwnsS (((((w.setCell ⟨z, 0, none⟩ x).setCell ⟨z, 1, none⟩ y).setCell ⟨z, 2, none⟩ u).setCell ⟨z, 3, none⟩ t).setCell ⟨z, 4, none⟩ r) B v l := by
  refine h.same fun g hg => ?_
  rw [heap_setCell_other _ _ _ _ (show g ≠ z by omega), heap_setCell_other _ _ _ _ (show g ≠ z by omega), heap_setCell_other _ _ _ _ (show g ≠ z by omega), heap_setCell_other _ _ _ _ (show g ≠ z by omega), heap_setCell_other _ _ _ _ (show g ≠ z by omega)]
theorem Opn.low {w w1 w2 : World} {dv e : Array Value} (o : Opn w w1 dv e) (b : Below (w.heap.size + 3) w1 w2) : Opn w w2 dv e := ⟨o.bd.below b (by omega), o.be.below b (by omega), o.bj.below b (by omega), o.bel.trans (b.mono (by omega))⟩
theorem Opn.size {w w1 : World} {dv e : Array Value} (o : Opn w w1 dv e) : w.heap.size + 3 ≤ w1.heap.size := by
  have := o.bj.lt
  omega
def OpenOn (B : List (List UInt8)) (f c : Nat) (turn : BitVec 64) (w : World) (e : Ending) (w' : World) : Prop :=
  (((∀ b ∈ extL B f c, okB b = true) ∧ ∃ (out : List (List UInt8)) (u : Nat) (v : Value), e = .returned (.tuple #[.agg (jv f c turn.toInt v u), .int .i64 0]) ∧ OwnsS w' w.heap.size v (bks out) ∧ Recs (extL B f c) turn out u ∧ u ≤ c) ∨
    ((∃ b ∈ extL B f c, okB b = false) ∧ e = .returned (.tuple #[.agg jz, .int .i64 5]))) ∧ Below w.heap.size w w'
set_option maxRecDepth 4000 in
set_option maxHeartbeats 1000000 in
theorem refOpen_on {w : World} {sa : Option Addr} {sc : Nat} {wa : Option Addr} {wc : Nat} {su : List (List UInt8)} {wt : List (Nat × List UInt8)} (hs : SRows w (.slice sa su.length sc) 9 1 (su.map s1)) (hw : SRows w (.slice wa wt.length wc) 78 2 (wt.map w2))
    (hn : su.length ≤ 4096) (hl6 : wt.length ≤ 1000000) (hblk : ∀ b ∈ lay su wt, b.length = 128) (fz : Int) (f c : Nat) (hc : 1 ≤ c) (hfc : f + c ≤ su.length) (turn : BitVec 64) (hm : mayJ su.length f c turn.toInt = true) :
    Calls Try.prog 43 #[.agg #[.slice sa su.length sc, .slice wa wt.length wc, .int .i64 fz, .bool false], .agg #[.int .i64 f, .int .i64 c], .int .i64 turn.toInt] w (OpenOn (lay su wt) f c turn w) := by
  have cm := refMay_any su.length hn f c turn.toInt
  rw [hm] at cm
  have hO := opn_new w #[.slice sa su.length sc, .slice wa wt.length wc, .int .i64 fz, .bool false] #[.int .i64 f, .int .i64 c]
  have HO := (show Hid _ from hO)
  have HSW : Hid (SRows w (.slice sa su.length sc) 9 1 (su.map s1) ∧ SRows w (.slice wa wt.length wc) 78 2 (wt.map w2)) := ⟨hs, hw⟩
  have hBl : (lay su wt).length = su.length := lay_len _ _
  have cr : ∀ (k : Nat) (b : List UInt8), (lay su wt)[f + k]? = some b → ∀ W, Below w.heap.size w W → Calls Try.prog 14 #[.agg #[.slice sa su.length sc, .slice wa wt.length wc, .int .i64 fz, .bool false], .int .i64 ((f : Int) + (k : Int))] W fun e w' => e = .returned (.tuple #[.string (strB b), .int .i64 0]) ∧ Below W.heap.size W w' := by
    intro k b hb W hW
    have := rread_on (w := W) (hs.kept (kept_of_below (fun _ => False) hW) (fun _ _ h => h)) (hw.kept (kept_of_below (fun _ => False) hW) (fun _ _ h => h)) hl6 fz (f + k) b hb
    rw [show ((f + k : Nat) : Int) = (f : Int) + (k : Int) by omega] at this
    exact this
  have HCR := (show Hid _ from cr)
  obtain ⟨B, hB⟩ : ∃ B, B = lay su wt := ⟨_, rfl⟩
  rw [← hB] at hblk hBl HCR ⊢
  have HBK : Hid (∀ b ∈ B, b.length = 128) := hblk
  have HBL : Hid (B.length = su.length ∧ f + c ≤ su.length) := ⟨hBl, hfc⟩
  obtain ⟨n, hnn⟩ : ∃ n, n = su.length := ⟨_, rfl⟩
  obtain ⟨m, hmm⟩ : ∃ m, m = wt.length := ⟨_, rfl⟩
  rw [← hnn, ← hmm] at HO HSW HCR
  rw [← hnn] at HBL cm hfc hn
  rw [← hnn, ← hmm]
  have hcI : (c : Int) ≤ 4096 := by omega
  have hfI : (f : Int) ≤ 4096 := by omega
  clear hm hO hs hw hblk hBl cr hnn hmm hB hl6
  go_enter Try.func43, Try.ntmps43
  go_wp2_with fail
  refine (cm _).mono ?_
  rintro e w1 ⟨rfl, hb1⟩
  have O1 := HO.out.over hb1
  have HO1 := (show Hid _ from O1)
  clear O1 hb1 HO cm
  go_wp2_with fail
  go_loopg [8, 9] c (fun g s8 s9 wx => ∃ k : Nat, k + g = c ∧ s9 = .int .i64 k ∧ OwnsS wx (w.heap.size + 3) s8 (bks ((extL B f c).take k)) ∧ (∀ b ∈ (extL B f c).take k, okB b = true) ∧ Opn w wx #[.slice sa n sc, .slice wa m wc, .int .i64 fz, .bool false] #[.int .i64 f, .int .i64 c])
  case atStart => exact ⟨0, by omega, rfl, ownsS_nil _ _, by simp, HO1.out⟩
  case round =>
    obtain ⟨k, hkg, rfl, hown, hok, hopn⟩ := hrel
    have HOW : Hid (OwnsS wr (w.heap.size + 3) u8 (bks ((extL B f c).take k))) := hown
    have HOK : Hid (∀ b ∈ (extL B f c).take k, okB b = true) := hok
    have HOP := (show Hid _ from hopn)
    have b0 := hopn.bd.cell 0 _ rfl
    have b1 := hopn.bd.cell 1 _ rfl
    have b2 := hopn.bd.cell 2 _ rfl
    have b3 := hopn.bd.cell 3 _ rfl
    have e0 := hopn.be.cell 0 _ rfl
    have e1 := hopn.be.cell 1 _ rfl
    clear hown hok hopn
    by_cases hk : k < c
    · have hkI : (k : Int) < (c : Int) := by omega
      obtain ⟨b, hbk⟩ : ∃ b, B[f + k]? = some b := ⟨_, List.getElem?_eq_getElem (by have := HBL.out; omega)⟩
      have cr := HCR.out k b hbk wr HOP.out.bel
      have c2 := refRead_any b (HBK.out b (List.mem_of_getElem? hbk))
      obtain ⟨S, hS⟩ : ∃ S, S = strB b := ⟨_, rfl⟩
      rw [← hS] at cr c2
      have HSB : Hid (B[f + k]? = some b ∧ S = strB b) := ⟨hbk, hS⟩
      clear hbk hS
      go_wp2_with fail
      refine cr.mono ?_
      rintro e w2 ⟨rfl, hb2⟩
      have O2 := (show Hid _ from HOP.out.over hb2)
      have W2 : Hid (OwnsS w2 (w.heap.size + 3) u8 (bks ((extL B f c).take k))) := HOW.out.below hb2
      clear hb2 cr b0 b1 b2 b3 e0 e1
      go_wp2_with fail
      refine (c2 _).mono ?_
      rintro e w3 ⟨⟨⟨a, nn, x, y, sL⟩, he, _⟩, hb3⟩
      have he2 : e = .returned (.tuple #[.agg #[.int .i64 a.toInt, .int .i64 nn.toInt, .int .i64 x.toInt, .int .i64 y.toInt, .string (strB sL)], .bool (readP b).isSome]) := he
      clear he c2
      subst he2
      have hb4 := hb3.trans ((below1 w3 (.cells #[.int .i64 a.toInt, .int .i64 nn.toInt, .int .i64 x.toInt, .int .i64 y.toInt, .string (strB sL)] 120)).mono hb3.size)
      have O4 := (show Hid _ from O2.out.over hb4)
      have W4 := (show Hid _ from W2.out.below hb4)
      have hsz4 := O4.out.size
      have hlen : (bks ((extL B f c).take k)).length ≤ 4096 := by rw [bks_len, List.length_take]; omega
      have hsn := extL_snoc hk HSB.out.1
      have hbs : bks ((extL B f c).take (k + 1)) = bks ((extL B f c).take k) ++ [S] := by rw [hsn, bks_snoc, HSB.out.2]
      have hmem : b ∈ extL B f c := List.mem_of_getElem? (i := k) (by rw [extL_at hk]; exact HSB.out.1)
      have HM : Hid (bks ((extL B f c).take (k + 1)) = bks ((extL B f c).take k) ++ [S] ∧ (extL B f c).take (k + 1) = (extL B f c).take k ++ [b] ∧ b ∈ extL B f c) := ⟨hbs, hsn, hmem⟩
      obtain ⟨L, hL⟩ : ∃ L, L = bks ((extL B f c).take k) := ⟨_, rfl⟩
      rw [← hL] at W4 hlen
      have HL : Hid (L = bks ((extL B f c).take k)) := hL
      clear hb4 hb3 hL hsn hbs hmem
      cases hr : (readP b).isSome with
      | true =>
        have HR : Hid (okB b = true) := by show _ = _; unfold okB; rw [hr]; rfl
        clear hr
        go_wp2_with (at_builtin; refine append_s rfl (.tmp 57) (.tmp 59) rfl rfl (by rw [World.size_alloc]; rfl) W4.out ?hB ?hl ?_; (case hB => exact hsz4); (case hl => omega); intro v6 w6 hown6 hb6)
        go_roundg (c - (k + 1))
        case measure => omega
        case rel =>
          refine ⟨k + 1, by omega, by go_num, ?_, ?_, O4.out.low hb6⟩
          · rw [HM.out.1, ← HL.out]; exact hown6
          · rw [HM.out.2.1]
            intro b' hb'
            rcases List.mem_append.1 hb' with h | h
            · exact HOK.out b' h
            · rw [List.mem_singleton.1 h]; exact HR.out
      | false =>
        have hz8 : (strB (List.replicate 128 (0 : UInt8))).toList = zeros := strB_toList _
        obtain ⟨Z, hZ⟩ : ∃ Z, Z = strB (List.replicate 128 (0 : UInt8)) := ⟨_, rfl⟩
        rw [← hZ] at hz8
        have HZ : Hid (Z = strB (List.replicate 128 (0 : UInt8))) := hZ
        by_cases hbz : b = zeros
        · have hqb : (S.toList == Z.toList) = true := by rw [HSB.out.2, strB_toList, hz8, hbz]; simp
          have HR : Hid (okB b = true) := by show _ = _; unfold okB; rw [hbz]; simp
          clear hr hbz hZ hz8
          go_wp2_with (first
            | (at_make; refine make_u8g ?hw _ _ rfl (n := 128) rfl rfl rfl (by omega) ?_; (case hw => first | rfl | simp [Region.wanted, yielded]); intro w5 hrow hb5; have htx := hrow.text 128; rw [List.length_replicate, ← HZ.out, World.size_alloc] at htx; have O5 := (show Hid _ from O4.out.over hb5); have W5 := (show Hid _ from OwnsS.below (B := w.heap.size + 3) (v := u8) (l := L) W4.out hb5); have hsz5 := O5.out.size)
            | (at_builtin; refine append_s rfl (.tmp 57) (.tmp 59) rfl rfl rfl W5.out ?hB ?hl ?_; (case hB => exact hsz5); (case hl => omega); intro v6 w6 hown6 hb6))
          go_roundg (c - (k + 1))
          case measure => omega
          case rel =>
            refine ⟨k + 1, by omega, by go_num, ?_, ?_, O5.out.low hb6⟩
            · rw [HM.out.1, ← HL.out]; exact hown6
            · rw [HM.out.2.1]
              intro b' hb'
              rcases List.mem_append.1 hb' with h | h
              · exact HOK.out b' h
              · rw [List.mem_singleton.1 h]; exact HR.out
        · have hqb : (S.toList == Z.toList) = false := by rw [HSB.out.2, strB_toList, hz8]; simpa using hbz
          have HR : Hid (okB b = false) := by show _ = _; unfold okB; rw [hr]; simpa using hbz
          clear hr hbz hZ hz8
          go_wp2_with (at_make; refine make_u8g ?hw _ _ rfl (n := 128) rfl rfl rfl (by omega) ?_; (case hw => first | rfl | simp [Region.wanted, yielded]); intro w5 hrow hb5; have htx := hrow.text 128; rw [List.length_replicate, ← HZ.out, World.size_alloc] at htx; have O5 := (show Hid _ from O4.out.over hb5); have W5 := (show Hid _ from OwnsS.below (B := w.heap.size + 3) (v := u8) (l := L) W4.out hb5); have hsz5 := O5.out.size; have z0 := O5.out.bj.cell 0 _ rfl; have z1 := O5.out.bj.cell 1 _ rfl; have z2 := O5.out.bj.cell 2 _ rfl; have z3 := O5.out.bj.cell 3 _ rfl; have z4 := O5.out.bj.cell 4 _ rfl; have y0 := O5.out.bj.frozen 0; have y1 := O5.out.bj.frozen 1; have y2 := O5.out.bj.frozen 2; have y3 := O5.out.bj.frozen 3; have y4 := O5.out.bj.frozen 4)
          have F5 := box_five O5.out.bj (.int .i64 0) (.int .i64 0) (.int .i64 0) (.slice none 0 0) (.int .i64 0)
          have hb3 := below_five O5.out.bel (z := w.heap.size + 1 + 1) (by omega) (.int .i64 0) (.int .i64 0) (.int .i64 0) (.slice none 0 0) (.int .i64 0)
          exact bodyPost_ret (res_box_slot Try.results43 _ rfl F5 Try.underlying41 rfl size_jv _ rfl) rfl ⟨.inr ⟨⟨b, HM.out.2.2, HR.out⟩, rfl⟩, hb3⟩
    · have hkI : ¬ (k : Int) < (c : Int) := by omega
      have hkc : k = c := by omega
      subst hkc
      have hEl : (extL B f k).length = k := extL_len (by have := HBL.out; omega)
      have htk : (extL B f k).take k = extL B f k := List.take_of_length_le (by omega)
      have hR := HOW.out.reads
      rw [htk] at hR
      have c3 := refRecords_any (extL B f k) (fun b hb => HBK.out b (List.mem_of_mem_drop (List.mem_of_mem_take hb))) (by omega) (by omega) turn u8 wr hR
      have HOKA : Hid (∀ b ∈ extL B f k, okB b = true) := by
        intro b hb
        exact HOK.out b (by rw [htk]; exact hb)
      have HEL : Hid ((extL B f k).length = k) := hEl
      clear hEl htk hR
      go_wp2_with fail
      refine c3.mono ?_
      rintro e w2 ⟨⟨out, u, v, rfl, hown, hrec, hu⟩, hb2⟩
      rw [HEL.out] at hu
      obtain ⟨va, vn, vc, rfl⟩ := hown.slice
      have O2 := HOP.out.over hb2
      have HRC : Hid (Recs (extL B f k) turn out u ∧ u ≤ k) := ⟨hrec, hu⟩
      have hown2 := (OwnsS.five hown (z := w.heap.size + 1 + 1) (by have := HOP.out.size; omega) (.int .i64 f) (.int .i64 k) (.int .i64 turn.toInt) (.slice va vn vc) (.int .i64 u)).base (B' := w.heap.size) HOP.out.bel.size
      have e0' := O2.be.cell 0 _ rfl
      have e1' := O2.be.cell 1 _ rfl
      have z0 := O2.bj.cell 0 _ rfl
      have z1 := O2.bj.cell 1 _ rfl
      have z2 := O2.bj.cell 2 _ rfl
      have z3 := O2.bj.cell 3 _ rfl
      have z4 := O2.bj.cell 4 _ rfl
      have y0 := O2.bj.frozen 0
      have y1 := O2.bj.frozen 1
      have y2 := O2.bj.frozen 2
      have y3 := O2.bj.frozen 3
      have y4 := O2.bj.frozen 4
      have HO2 := (show Hid _ from O2)
      have HOW2 := (show Hid _ from hown2)
      clear O2 hown hown2 hrec hu hb2 c3
      have F5 := box_five HO2.out.bj (.int .i64 f) (.int .i64 k) (.int .i64 turn.toInt) (.slice va vn vc) (.int .i64 u)
      have hb3 := below_five HO2.out.bel (z := w.heap.size + 1 + 1) (by omega) (.int .i64 f) (.int .i64 k) (.int .i64 turn.toInt) (.slice va vn vc) (.int .i64 u)
      have hHF := (show Hid _ from F5)
      have hHB := (show Hid _ from hb3)
      clear F5 hb3
      go_wp2_with fail
      exact bodyPost_ret (res_box_slot Try.results43 _ rfl hHF.out Try.underlying41 rfl size_jv _ rfl) rfl ⟨.inl ⟨HOKA.out, out, u, _, rfl, HOW2.out, HRC.out.1, HRC.out.2⟩, hHB.out⟩
end Go.Proofs.Ytgffplfpoopolaa
/-
  The contract of package peristyleref23's Add, where it is refused.
-/
namespace Go.Proofs.Ytgffplfpoopolaa
open Go.RowKit Leb

/-- What stays while a record is added: the device, the journal, and the two answers. -/
structure Adn (w wx : World) (dv jn : Array Value) : Prop where
  bd : Box wx w.heap.size 30 dv
  bj : Box wx (w.heap.size + 1) 41 jn
  rd : Box wx (w.heap.size + 1 + 1) 30 (rd none 0 0 none 0 0 0 false)
  rj : Box wx (w.heap.size + 1 + 1 + 1) 41 jz
  bel : Below w.heap.size w wx
theorem Adn.over {w w1 w2 : World} {dv jn : Array Value} (o : Adn w w1 dv jn) (b : Below w1.heap.size w1 w2) : Adn w w2 dv jn := ⟨o.bd.over b, o.bj.over b, o.rd.over b, o.rj.over b, o.bel.trans (b.mono o.bel.size)⟩
theorem Adn.size {w w1 : World} {dv jn : Array Value} (o : Adn w w1 dv jn) : w.heap.size + 4 ≤ w1.heap.size := by
  have := o.rj.lt
  omega
theorem adn_new (w : World) (dv jn : Array Value) : Adn w ((((w.alloc (.cells dv 30)).alloc (.cells jn 41)).alloc (.cells (rd none 0 0 none 0 0 0 false) 30)).alloc (.cells jz 41)) dv jn := by
  have h3 := heap3 w (.cells dv 30) (.cells jn 41) (.cells (rd none 0 0 none 0 0 0 false) 30)
  have b3 := (((Below.refl _ w).alloc (Nat.le_refl _) (.cells dv 30)).alloc (by simp) (.cells jn 41)).alloc (by simp; omega) (.cells (rd none 0 0 none 0 0 0 false) 30)
  have b4 := box_new (((w.alloc (.cells dv 30)).alloc (.cells jn 41)).alloc (.cells (rd none 0 0 none 0 0 0 false) 30)) jz 41
  rw [World.size_alloc, World.size_alloc, World.size_alloc] at b4
  exact ⟨Box.alloc h3.1 _, Box.alloc h3.2.1 _, Box.alloc h3.2.2 _, b4, b3.alloc (by simp; omega) _⟩
theorem res_two_slot {P : Program} {fn : Func} {p q r : Tmp} {ty1 ty2 : TypeId} {w : World} {g1 g2 : Nat} {t1 t2 : TypeId} {c1 c2 : Array Value} {tmps : Array Value} (h : fn.results = #[.cell p ty1, .cell q ty2, .tmp r]) (d1 d2 : TypeDesc)
    (hp : tmps.getD p undef = .pointer (some ⟨g1, 0, none⟩)) (hg1 : Box w g1 t1 c1) (hu1 : P.underlying ty1 = some d1) (hd1 : (match d1 with | .struct _ | .array _ _ => true | _ => false) = true) (hi1 : (P.info? ty1).map (·.size) = some c1.size)
    (hq : tmps.getD q undef = .pointer (some ⟨g2, 0, none⟩)) (hg2 : Box w g2 t2 c2) (hu2 : P.underlying ty2 = some d2) (hd2 : (match d2 with | .struct _ | .array _ _ => true | _ => false) = true) (hi2 : (P.info? ty2).map (·.size) = some c2.size)
    (v : Value) (hr : tmps.getD r undef = v) : (results fn tmps).run P w = .ok (.tuple #[.agg c1, .agg c2, v]) w := by
  have hp' : tmps[p]?.getD undef = .pointer (some ⟨g1, 0, none⟩) := by simpa using hp
  have hq' : tmps[q]?.getD undef = .pointer (some ⟨g2, 0, none⟩) := by simpa using hq
  have hr' : tmps[r]?.getD undef = v := by simpa using hr
  have hl1 := run_loadVar_row (P := P) w g1 t1 ty1 c1 (0, 0) d1 hg1 hu1 hd1 hi1
  have hl2 := run_loadVar_row (P := P) w g2 t2 ty2 c2 (0, 0) d2 hg2 hu2 hd2 hi2
  simp [results, h, hp', hq', hr', asAddr, hl1, hl2]
/-- The two answers are laid. -/
abbrev World.nine (w : World) (z : Nat) (a b c d e f g h i : Value) : World := ((((((((w.setCell ⟨z, 0, none⟩ a).setCell ⟨z, 1, none⟩ b).setCell ⟨z, 2, none⟩ c).setCell ⟨z, 3, none⟩ d).setCell ⟨z + 1, 0, none⟩ e).setCell ⟨z + 1, 1, none⟩ f).setCell ⟨z + 1, 2, none⟩ g).setCell ⟨z + 1, 3, none⟩ h).setCell ⟨z + 1, 4, none⟩ i
structure Laid (w W : World) (dv jn : Array Value) : Prop where
  rd : Box W (w.heap.size + 1 + 1) 30 dv
  rj : Box W (w.heap.size + 1 + 1 + 1) 41 jn
  bel : Below w.heap.size w W
theorem adn_laid {w w1 : World} {dv jn : Array Value} (o : Adn w w1 dv jn) (a b c d e f g h i : Value) : Laid w (World.nine w1 (w.heap.size + 1 + 1) a b c d e f g h i) #[a, b, c, d] #[e, f, g, h, i] := by
  have h4 := box_four o.rd rfl a b c d
  have h5 := ((((h4.other (a := ⟨w.heap.size + 1 + 1 + 1, 0, none⟩) (by simp) e).other (a := ⟨w.heap.size + 1 + 1 + 1, 1, none⟩) (by simp) f).other (a := ⟨w.heap.size + 1 + 1 + 1, 2, none⟩) (by simp) g).other (a := ⟨w.heap.size + 1 + 1 + 1, 3, none⟩) (by simp) h).other (a := ⟨w.heap.size + 1 + 1 + 1, 4, none⟩) (by simp) i
  have k4 := (((o.rj.other (a := ⟨w.heap.size + 1 + 1, 0, none⟩) (by simp) a).other (a := ⟨w.heap.size + 1 + 1, 1, none⟩) (by simp) b).other (a := ⟨w.heap.size + 1 + 1, 2, none⟩) (by simp) c).other (a := ⟨w.heap.size + 1 + 1, 3, none⟩) (by simp) d
  have k5 := box_five k4 e f g h i
  have b4 := (((o.bel.setCell (p := ⟨w.heap.size + 1 + 1, 0, none⟩) (by simp; omega) a).setCell (p := ⟨w.heap.size + 1 + 1, 1, none⟩) (by simp; omega) b).setCell (p := ⟨w.heap.size + 1 + 1, 2, none⟩) (by simp; omega) c).setCell (p := ⟨w.heap.size + 1 + 1, 3, none⟩) (by simp; omega) d
  exact ⟨h5, k5, below_five b4 (by omega) e f g h i⟩
set_option maxRecDepth 4000 in
set_option maxHeartbeats 1000000 in
theorem refAdd_arg (sa : Option Addr) (n sc : Nat) (wa : Option Addr) (m wc : Nat) (fz : Int) (o : Bool) (f c turn : Int) (va : Option Addr) (vn vc : Nat) (u : Int) (s : List UInt8) (hs : needsI s.length = 0) (w : World) :
    Calls Try.prog 20 #[.agg #[.slice sa n sc, .slice wa m wc, .int .i64 fz, .bool o], .agg #[.int .i64 f, .int .i64 c, .int .i64 turn, .slice va vn vc, .int .i64 u], .string (strB s)] w fun e w' => e = .returned (.tuple #[.agg #[.slice sa n sc, .slice wa m wc, .int .i64 fz, .bool o], .agg #[.int .i64 f, .int .i64 c, .int .i64 turn, .slice va vn vc, .int .i64 u], .int .i64 1]) ∧ Below w.heap.size w w' := by
  have cn := refNeeds_any (s.length : Int)
  rw [hs] at cn
  have hz : (strB s).size = s.length := rfl
  obtain ⟨S, hS⟩ : ∃ S, S = strB s := ⟨_, rfl⟩
  obtain ⟨L, hL⟩ : ∃ L, L = s.length := ⟨_, rfl⟩
  rw [← hS, ← hL] at hz
  rw [← hL] at cn
  rw [← hS]
  have hA := adn_new w #[.slice sa n sc, .slice wa m wc, .int .i64 fz, .bool o] #[.int .i64 f, .int .i64 c, .int .i64 turn, .slice va vn vc, .int .i64 u]
  have HA := (show Hid _ from hA)
  clear hs hS hL hA
  go_enter Try.func20, Try.ntmps20
  go_wp2_with fail
  refine (cn _).mono ?_
  rintro e w1 ⟨rfl, hw1⟩
  replace HA : Hid (Adn w w1 #[.slice sa n sc, .slice wa m wc, .int .i64 fz, .bool o] #[.int .i64 f, .int .i64 c, .int .i64 turn, .slice va vn vc, .int .i64 u]) := by
    rw [hw1]; exact HA.out
  clear hw1
  have d0 := HA.out.bd.cell 0 _ rfl
  have d1 := HA.out.bd.cell 1 _ rfl
  have d2 := HA.out.bd.cell 2 _ rfl
  have d3 := HA.out.bd.cell 3 _ rfl
  have j0 := HA.out.bj.cell 0 _ rfl
  have j1 := HA.out.bj.cell 1 _ rfl
  have j2 := HA.out.bj.cell 2 _ rfl
  have j3 := HA.out.bj.cell 3 _ rfl
  have j4 := HA.out.bj.cell 4 _ rfl
  have p0 := HA.out.rd.cell 0 _ rfl
  have p1 := HA.out.rd.cell 1 _ rfl
  have p2 := HA.out.rd.cell 2 _ rfl
  have p3 := HA.out.rd.cell 3 _ rfl
  have q0 := HA.out.rj.cell 0 _ rfl
  have q1 := HA.out.rj.cell 1 _ rfl
  have q2 := HA.out.rj.cell 2 _ rfl
  have q3 := HA.out.rj.cell 3 _ rfl
  have q4 := HA.out.rj.cell 4 _ rfl
  have x0 := HA.out.rd.frozen 0
  have x1 := HA.out.rd.frozen 1
  have x2 := HA.out.rd.frozen 2
  have x3 := HA.out.rd.frozen 3
  have y0 := HA.out.rj.frozen 0
  have y1 := HA.out.rj.frozen 1
  have y2 := HA.out.rj.frozen 2
  have y3 := HA.out.rj.frozen 3
  have y4 := HA.out.rj.frozen 4
  have HF := (show Hid _ from adn_laid HA.out (.slice sa n sc) (.slice wa m wc) (.int .i64 fz) (.bool o) (.int .i64 f) (.int .i64 c) (.int .i64 turn) (.slice va vn vc) (.int .i64 u))
  go_wp2_with fail
  go_region
  all_goals
    go_wp2_with fail
    exact bodyPost_ret (res_two_slot Try.results20 _ _ rfl HF.out.rd.drew Try.underlying30 rfl size_rd rfl HF.out.rj.drew Try.underlying41 rfl size_jv _ rfl) rfl ⟨rfl, HF.out.bel.drew⟩
set_option maxRecDepth 4000 in
set_option maxHeartbeats 1000000 in
theorem refAdd_full (sa : Option Addr) (n sc : Nat) (wa : Option Addr) (m wc : Nat) (fz : Int) (o : Bool) (f c : Nat) (turn : Int) (va : Option Addr) (vn vc : Nat) (u : Nat) (hu : u ≤ c) (hc : c ≤ 4096) (s : List UInt8) (h1 : 1 ≤ s.length) (h2 : s.length ≤ 8192) (hs : c < u + needs s.length) (w : World) :
    Calls Try.prog 20 #[.agg #[.slice sa n sc, .slice wa m wc, .int .i64 fz, .bool o], .agg #[.int .i64 f, .int .i64 c, .int .i64 turn, .slice va vn vc, .int .i64 u], .string (strB s)] w fun e w' => e = .returned (.tuple #[.agg #[.slice sa n sc, .slice wa m wc, .int .i64 fz, .bool o], .agg #[.int .i64 f, .int .i64 c, .int .i64 turn, .slice va vn vc, .int .i64 u], .int .i64 2]) ∧ Below w.heap.size w w' := by
  have cn := refNeeds_any (s.length : Int)
  rw [needsI_nat h1 h2] at cn
  have hq1 := needs_pos h1
  have hq2 := needs_le h2
  obtain ⟨q, hq⟩ : ∃ q, q = needs s.length := ⟨_, rfl⟩
  rw [← hq] at cn hs hq1 hq2
  have hqz : ((q : Int) == 0) = false := by simp; omega
  have hfl : decide ((c : Int) - (u : Int) < (q : Int)) = true := by simp; omega
  have hcI : (c : Int) ≤ 4096 := by omega
  have huI : (u : Int) ≤ 4096 := by omega
  have hz : (strB s).size = s.length := rfl
  obtain ⟨S, hS⟩ : ∃ S, S = strB s := ⟨_, rfl⟩
  obtain ⟨L, hL⟩ : ∃ L, L = s.length := ⟨_, rfl⟩
  rw [← hS, ← hL] at hz
  rw [← hL] at cn
  rw [← hS]
  have hA := adn_new w #[.slice sa n sc, .slice wa m wc, .int .i64 fz, .bool o] #[.int .i64 f, .int .i64 c, .int .i64 turn, .slice va vn vc, .int .i64 u]
  have HA := (show Hid _ from hA)
  clear hs hS hL hA hq hq1 hq2 h1 h2
  go_enter Try.func20, Try.ntmps20
  go_wp2_with fail
  refine (cn _).mono ?_
  rintro e w1 ⟨rfl, hw1⟩
  replace HA : Hid (Adn w w1 #[.slice sa n sc, .slice wa m wc, .int .i64 fz, .bool o] #[.int .i64 f, .int .i64 c, .int .i64 turn, .slice va vn vc, .int .i64 u]) := by
    rw [hw1]; exact HA.out
  clear hw1
  have d0 := HA.out.bd.cell 0 _ rfl
  have d1 := HA.out.bd.cell 1 _ rfl
  have d2 := HA.out.bd.cell 2 _ rfl
  have d3 := HA.out.bd.cell 3 _ rfl
  have j0 := HA.out.bj.cell 0 _ rfl
  have j1 := HA.out.bj.cell 1 _ rfl
  have j2 := HA.out.bj.cell 2 _ rfl
  have j3 := HA.out.bj.cell 3 _ rfl
  have j4 := HA.out.bj.cell 4 _ rfl
  have p0 := HA.out.rd.cell 0 _ rfl
  have p1 := HA.out.rd.cell 1 _ rfl
  have p2 := HA.out.rd.cell 2 _ rfl
  have p3 := HA.out.rd.cell 3 _ rfl
  have q0 := HA.out.rj.cell 0 _ rfl
  have q1 := HA.out.rj.cell 1 _ rfl
  have q2 := HA.out.rj.cell 2 _ rfl
  have q3 := HA.out.rj.cell 3 _ rfl
  have q4 := HA.out.rj.cell 4 _ rfl
  have x0 := HA.out.rd.frozen 0
  have x1 := HA.out.rd.frozen 1
  have x2 := HA.out.rd.frozen 2
  have x3 := HA.out.rd.frozen 3
  have y0 := HA.out.rj.frozen 0
  have y1 := HA.out.rj.frozen 1
  have y2 := HA.out.rj.frozen 2
  have y3 := HA.out.rj.frozen 3
  have y4 := HA.out.rj.frozen 4
  have HF := (show Hid _ from adn_laid HA.out (.slice sa n sc) (.slice wa m wc) (.int .i64 fz) (.bool o) (.int .i64 f) (.int .i64 c) (.int .i64 turn) (.slice va vn vc) (.int .i64 u))
  go_wp2_with fail
  go_region
  all_goals
    go_wp2_with fail
    exact bodyPost_ret (res_two_slot Try.results20 _ _ rfl HF.out.rd.drew Try.underlying30 rfl size_rd rfl HF.out.rj.drew Try.underlying41 rfl size_jv _ rfl) rfl ⟨rfl, HF.out.bel.drew⟩
end Go.Proofs.Ytgffplfpoopolaa
/-
  The contract of package peristyleref23's Add, where it is not refused by its arguments.
-/
namespace Go.Proofs.Ytgffplfpoopolaa
open Go.RowKit Leb

theorem pa_cons (s : St) (a : Nat) (b : List UInt8) (r : List (List UInt8)) : putAll s a (b :: r) = if s.goes then putAll (s.write a b) (a + 1) r else (s.burnt, 40) := rfl
theorem pa_nil (s : St) (a : Nat) : putAll s a [] = if s.goes then (s.synced, 0) else (s.burnt, 40) := rfl
theorem RefIs.keptL {w w' : World} {G F : Nat → Prop} {R : RH} {su : List (List UInt8)} {wt : List (Nat × List UInt8)} (r : RefIs w G R su wt) (k : Kept F w w') (h1 : ∀ x, (Value.slice R.sa su.length R.sc).ownBlock = some x → ¬ F x) (h2 : ∀ x, (Value.slice R.wa wt.length R.wc).ownBlock = some x → ¬ F x) : RefIs w' G R su wt :=
  ⟨r.sure.kept k h1, r.wait.kept k h2, r.g1, r.g2⟩
/-- The document's device of a state. -/
def rda (R : RH) (s : St) : Array Value := #[.slice R.sa s.sure.length R.sc, .slice R.wa s.wait.length R.wc, .int .i64 s.fz, .bool s.off]
/-- What is asked of a state beside a device. -/
structure StOk (s : St) : Prop where
  fz : -9223372036854775808 ≤ s.fuse ∧ s.fuse < 9223372036854775808
  ats : ∀ x ∈ s.wait, x.1 < s.sure.length
  top : s.sure.length ≤ 4096
  few : s.wait.length ≤ 800000
theorem fz_b {s : St} (h : -9223372036854775808 ≤ s.fuse ∧ s.fuse < 9223372036854775808) : -9223372036854775808 ≤ s.fz ∧ s.fz < 9223372036854775808 := by
  unfold St.fz
  omega
theorem burnt_b {s : St} (h : -9223372036854775808 ≤ s.fuse ∧ s.fuse < 9223372036854775808) : -9223372036854775808 ≤ s.burnt.fuse ∧ s.burnt.fuse < 9223372036854775808 := by
  unfold St.burnt
  simp only
  split
  · exact h
  · split
    · omega
    · split <;> omega
def RPutAns (G : Nat → Prop) (r : St × Int) (w : World) (e : Ending) (w' : World) : Prop :=
  (∃ R', e = .returned (.tuple #[.agg (rda R' r.1), .int .i64 r.2]) ∧ RefIs w' G R' r.1.sure r.1.wait) ∧ Below w.heap.size w w'
theorem rput_ok {w : World} {G : Nat → Prop} {R : RH} {s : St} (r0 : RefIs w G R s.sure s.wait) (hG : ∀ k, G k → k < w.heap.size) (hz : -9223372036854775808 ≤ s.fuse ∧ s.fuse < 9223372036854775808) (hl : s.wait.length < 900000) (k : Nat) (hk : k < s.sure.length) (b : List UInt8) (h8 : b.length = 128) :
    Calls Try.prog 38 #[.agg (rda R s), .int .i64 k, .string (strB b)] w (RPutAns G (if s.goes then (s.write k b, 0) else (s.burnt, 40)) w) := by
  have hfb := fz_burnt s s.sure s.wait
  cases hg : s.goes with
  | false =>
    have := put_off R.sa s.sure.length R.sc R.wa s.wait.length R.wc ⟨s.sure, s.wait, s.fz, s.off⟩ (fz_b hz) k hk (strB b) (by rw [strB_size]; exact h8) (by rw [fz_goes]; exact hg) w
    rw [hfb.1, hfb.2] at this
    refine this.mono ?_
    rintro e w' ⟨rfl, b⟩
    exact ⟨⟨R, rfl, r0.below b⟩, b⟩
  | true =>
    have := put_on R.sa s.sure.length R.sc R.wa R.wc s.wait ⟨s.sure, s.wait, s.fz, s.off⟩ (fz_b hz) k hk b h8 (by rw [fz_goes]; exact hg) w r0.wait hl
    rw [hfb.1, hfb.2] at this
    refine this.mono ?_
    rintro e w' ⟨⟨va, vc, rfl, h1, h2⟩, bl⟩
    have r := r0.below bl
    refine ⟨⟨⟨R.sa, R.sc, va, vc⟩, ?_, ⟨r.sure, ?_, r.g1, ?_⟩⟩, bl⟩
    · simp [St.write, rda]
      exact ⟨rfl, rfl⟩
    · simpa [St.write] using h1
    · intro x hx hf
      have h3 := h2 x (by simpa [St.write] using hx)
      have := hG x hf
      omega
theorem rsync_ok {w : World} {G : Nat → Prop} {R : RH} {s : St} (r0 : RefIs w G R s.sure s.wait) (hG : ∀ k, G k → k < w.heap.size) (ok : StOk s) :
    Calls Try.prog 39 #[.agg (rda R s)] w (RPutAns G (if s.goes then (s.synced, 0) else (s.burnt, 40)) w) := by
  have hfb := fz_burnt s s.sure s.wait
  cases hg : s.goes with
  | false =>
    have := rsync_off R.sa s.sure.length R.sc R.wa s.wait.length R.wc ⟨s.sure, s.wait, s.fz, s.off⟩ (fz_b ok.fz) (by rw [fz_goes]; exact hg) w
    rw [hfb.1, hfb.2] at this
    refine this.mono ?_
    rintro e w' ⟨rfl, b⟩
    exact ⟨⟨R, rfl, r0.below b⟩, b⟩
  | true =>
    have := rsync_on r0 hG ⟨s.sure, s.wait, s.fz, s.off⟩ (fz_b ok.fz) (by rw [fz_goes]; exact hg) ok.ats ok.top (by have := ok.few; omega)
    rw [hfb.1, hfb.2] at this
    refine this.mono ?_
    rintro e w' ⟨⟨R', rfl, r, hwa, hwc⟩, b⟩
    refine ⟨⟨R', ?_, r⟩, b⟩
    show Ending.returned (.tuple #[.agg #[.slice R'.sa s.sure.length R'.sc, .slice none 0 0, .int .i64 s.burnt.fz, .bool s.burnt.off], .int .i64 0]) = .returned (.tuple #[.agg #[.slice R'.sa (lay s.sure s.wait).length R'.sc, .slice R'.wa 0 R'.wc, .int .i64 s.burnt.fz, .bool s.burnt.off], .int .i64 0])
    rw [lay_len, hwa, hwc]
theorem exec_append {P : Program} {o : Oper} {ev : Operand → Value} {w : World} (s x : Operand) (T e : TypeId) (i : TypeInfo) (z : Value) (sz bytes : Nat) (ho : o.op = .call { callee := .builtin .append, args := #[s, x], argTypes := #[T, T] })
    (hT : P.underlying T = some (.slice e)) (hi : P.info? e = some i) (hz : i.zero = some z) (hsize : i.size = sz) (hby : i.bytes = bytes) (hzs : z.cells.size = sz) (hsz : 0 < sz) (hbl : bytes ≤ 200)
    {B : Nat} {v : Value} {g m2 c2 : Nat} {R1 R2 : List (List Value)} (hs : ev s = v) (hx : ev x = .slice (some ⟨g, 0, none⟩) m2 c2) (hv : SRows w v e sz R1) (hu : SRows w (.slice (some ⟨g, 0, none⟩) m2 c2) e sz R2) (hm2 : R2.length = m2) (hvB : ∀ k, v.ownBlock = some k → B ≤ k) (hB : B ≤ w.heap.size)
    (h1 : ∀ r ∈ R2, ∀ c ∈ r, c.oneCell' = true) (hl : R1.length + m2 ≤ 1000000) :
    ∃ va vc w', (execOp ev o).run P w = .ok (.value (.slice va (R1.length + m2) vc)) w' ∧ SRows w' (.slice va (R1.length + m2) vc) e sz (R1 ++ R2) ∧ (∀ k, (Value.slice va (R1.length + m2) vc).ownBlock = some k → B ≤ k) ∧ Below B w w' := by
  subst hm2
  have hown := srows_own_base hv hsz hvB
  have hlens : ∀ r ∈ R1 ++ R2, r.length = sz := fun r hr => by
    rcases List.mem_append.1 hr with hr | hr
    · exact hv.rowlen r hr
    · exact hu.rowlen r hr
  have hnews : ∀ (j : Nat) u, R2.flatten[j]? = some u → w.cell? ((⟨g, 0, none⟩ : Addr).add j) = some u := (hu.own hsz).cells rfl
  have hone : ∀ u ∈ R2.flatten, u.oneCell' = true := by
    intro u hu
    obtain ⟨r, hr, hur⟩ := List.mem_flatten.1 hu
    exact h1 r hr u hur
  have h63 : R1.length + R2.length ≤ maxLen := by unfold maxLen; omega
  have hbytes : (R1.length + R2.length) * bytes ≤ 140737488355328 := by
    have : (R1.length + R2.length) * bytes ≤ 1000000 * 200 := Nat.mul_le_mul hl hbl
    omega
  obtain ⟨v', w', hr, hown', hgrow, _⟩ := run_append_own (P := P) w B T o.type e i z sz bytes hT hi hz hsize hby hzs hsz _ R1.length R1.flatten hown ⟨g, 0, none⟩ R2.length c2 R2.flatten (length_flat R2 hu.rowlen) hnews hone h63 hbytes hB
  obtain ⟨⟨va, vc, rfl⟩, hvb⟩ := own_shape hown'
  refine ⟨va, vc, w', ?_, srows_of_own hown' (by rw [List.flatten_append]) hlens hsz (by simp), hvb, (Below.refl B w).grown hgrow hB fun k hk => hvB k hk⟩
  unfold execOp
  simp only [ho, resolve, invoke, builtin, Sem.run_bind, Sem.run_pure, Result.andThen_ok, List.map_toArray, List.map_cons, List.map_nil, hs, hx, hr]
/-- 'append' in a region that draws its order, where it alone may come up. -/
theorem appendB {P : Program} {l : List Oper} {zl : Oper} {Q : Exit → Act → World → Prop} {S : World → Prop} (k : Nat) {oi : Oper} {fuel : Nat} {listed : Array Bool} {a : Act} {w : World} (hi : l[k]? = some oi) (hr : Region.ready .any l.toArray listed = [k])
    (hw : Region.wanted oi (yielded l.toArray a.tmps) = true) (s x : Operand) (T e : TypeId) (i : TypeInfo) (z : Value) (sz bytes : Nat) (ho : oi.op = .call { callee := .builtin .append, args := #[s, x], argTypes := #[T, T] })
    (hT : P.underlying T = some (.slice e)) (hi' : P.info? e = some i) (hz : i.zero = some z) (hsize : i.size = sz) (hby : i.bytes = bytes) (hzs : z.cells.size = sz) (hsz : 0 < sz) (hbl : bytes ≤ 200)
    {B : Nat} {v : Value} {g m2 c2 : Nat} {R1 R2 : List (List Value)} (hs : a.eval s = v) (hx : a.eval x = .slice (some ⟨g, 0, none⟩) m2 c2) (hv : SRows w v e sz R1) (hu : SRows w (.slice (some ⟨g, 0, none⟩) m2 c2) e sz R2) (hm2 : R2.length = m2) (hvB : ∀ k, v.ownBlock = some k → B ≤ k) (hB : B ≤ w.heap.size)
    (h1 : ∀ r ∈ R2, ∀ c ∈ r, c.oneCell' = true) (m : Nat) (hm : R1.length + m2 = m) (R : List (List Value)) (hR : R1 ++ R2 = R) (hl : m ≤ 1000000) (hS : ∀ w', Below B w w' → S w')
    (h : ∀ va vc w', SRows w' (.slice va m vc) e sz R → (∀ k, (Value.slice va m vc).ownBlock = some k → B ≤ k) → Below B w w' → wpAnyH P .any l.toArray (Then P zl Q) S fuel (listed.setIfInBounds k true) (a.put oi.dst (.slice va m vc)) w') : wpAnyH P .any l.toArray (Then P zl Q) S (fuel + 1) listed a w := by
  subst hm hR
  obtain ⟨va, vc, w', g1, g2, g3, g4⟩ := exec_append (P := P) (o := oi) (ev := a.eval) s x T e i z sz bytes ho hT hi' hz hsize hby hzs hsz hbl hs hx hv hu hm2 hvB hB h1 hl
  exact newL k w' _ hi hr hw g1 (hS w' g4) (h va vc w' g2 g3 g4)
theorem refBlocks_own (turn : BitVec 64) (first : Nat) (hf : first ≤ 10000) (s : List UInt8) (h1 : 1 ≤ s.length) (h2 : s.length ≤ 8192) (w : World) :
    Calls Try.prog 37 #[.int .i64 turn.toInt, .int .i64 first, .string (strB s)] w fun e w' => (∃ g off c, e = .returned (.slice (some ⟨g, off, none⟩) (needs s.length) c) ∧ w.heap.size ≤ g ∧ g < w'.heap.size ∧ ∀ i, i < needs s.length → w'.cell? ⟨g, off + i, none⟩ = some (.string (strB (blkL turn first s i)))) ∧ Below w.heap.size w w' := by
  refine (refBlocks_any turn first hf s h1 h2 w).mono ?_
  rintro e w' ⟨⟨v, rfl, hown⟩, hb⟩
  obtain ⟨g, off, c, rfl, hg, hc⟩ := hown.reads.at (by intro e; have := congrArg List.length e; rw [blks_len] at this; have := needs_pos h1; simp at *; omega)
  refine ⟨⟨g, off, c, by rw [blks_len], ?_, hg, fun i hi => hc i _ (blks_at turn first s hi)⟩, hb⟩
  exact (hown.lt g rfl).1
/-- What is so while the blocks are put. -/
structure Rag (w wx : World) (G : Nat → Prop) (R : RH) (s s' : St) (a : Nat) (bl : List (List UInt8)) (k : Nat) (jn : Array Value) (g off : Nat) (va : Option Addr) (vn vc : Nat) (out : List (List UInt8)) : Prop where
  adn : Adn w wx (rda R s') jn
  ref : RefIs wx (fun x => G x ∨ (w.heap.size ≤ x ∧ x < w.heap.size + 4)) R s'.sure s'.wait
  put : putAll s' (a + k) (bl.drop k) = putAll s a bl
  ok : StOk s'
  sure : s'.sure.length = s.sure.length
  wait : s'.wait.length ≤ s.wait.length + k
  gw : w.heap.size + 4 ≤ g ∧ g < wx.heap.size
  cells : ∀ i b, bl[i]? = some b → wx.cell? ⟨g, off + i, none⟩ = some (.string (strB b))
  list : SRows wx (.slice va vn vc) 9 1 (out.map s1)
  low : ∀ k, (Value.slice va vn vc).ownBlock = some k → k < w.heap.size
theorem Rag.over {w w1 w2 : World} {G : Nat → Prop} {R : RH} {s s' : St} {a : Nat} {bl : List (List UInt8)} {k : Nat} {jn : Array Value} {g off : Nat} {va : Option Addr} {vn vc : Nat} {out : List (List UInt8)} (o : Rag w w1 G R s s' a bl k jn g off va vn vc out) (b : Below w1.heap.size w1 w2) : Rag w w2 G R s s' a bl k jn g off va vn vc out :=
  ⟨o.adn.over b, o.ref.below b, o.put, o.ok, o.sure, o.wait, ⟨o.gw.1, Nat.lt_of_lt_of_le o.gw.2 b.size⟩, fun i x hx => (b.cell (p := ⟨g, off + i, none⟩) o.gw.2).trans (o.cells i x hx), o.list.over b, o.low⟩
/-- The document's device is laid anew into its variable. -/
theorem Adn.dev {w w1 : World} {dv jn : Array Value} (o : Adn w w1 dv jn) (hd : dv.size = 4) (a b c d : Value) : Adn w ((((w1.setCell ⟨w.heap.size, 0, none⟩ a).setCell ⟨w.heap.size, 1, none⟩ b).setCell ⟨w.heap.size, 2, none⟩ c).setCell ⟨w.heap.size, 3, none⟩ d) #[a, b, c, d] jn := by
  refine ⟨box_four o.bd hd a b c d, ?_, ?_, ?_, ?_⟩
  · exact (((o.bj.other (a := ⟨w.heap.size, 0, none⟩) (by simp) a).other (a := ⟨w.heap.size, 1, none⟩) (by simp) b).other (a := ⟨w.heap.size, 2, none⟩) (by simp) c).other (a := ⟨w.heap.size, 3, none⟩) (by simp) d
  · exact (((o.rd.other (a := ⟨w.heap.size, 0, none⟩) (by simp; omega) a).other (a := ⟨w.heap.size, 1, none⟩) (by simp; omega) b).other (a := ⟨w.heap.size, 2, none⟩) (by simp; omega) c).other (a := ⟨w.heap.size, 3, none⟩) (by simp; omega) d
  · exact (((o.rj.other (a := ⟨w.heap.size, 0, none⟩) (by simp; omega) a).other (a := ⟨w.heap.size, 1, none⟩) (by simp; omega) b).other (a := ⟨w.heap.size, 2, none⟩) (by simp; omega) c).other (a := ⟨w.heap.size, 3, none⟩) (by simp; omega) d
  · exact (((o.bel.setCell (p := ⟨w.heap.size, 0, none⟩) (Nat.le_refl _) a).setCell (p := ⟨w.heap.size, 1, none⟩) (Nat.le_refl _) b).setCell (p := ⟨w.heap.size, 2, none⟩) (Nat.le_refl _) c).setCell (p := ⟨w.heap.size, 3, none⟩) (Nat.le_refl _) d
theorem kept_nine {F : Nat → Prop} {a w : World} (h : Kept F a w) {z : Nat} (hz : F z ∨ a.heap.size ≤ z) (hz2 : F (z + 1) ∨ a.heap.size ≤ z + 1) (x0 x1 x2 x3 x4 x5 x6 x7 x8 : Value) : Kept F a (World.nine w z x0 x1 x2 x3 x4 x5 x6 x7 x8) :=
  ((((((((h.setCell (p := ⟨z, 0, none⟩) hz x0).setCell (p := ⟨z, 1, none⟩) hz x1).setCell (p := ⟨z, 2, none⟩) hz x2).setCell (p := ⟨z, 3, none⟩) hz x3).setCell (p := ⟨z + 1, 0, none⟩) hz2 x4).setCell (p := ⟨z + 1, 1, none⟩) hz2 x5).setCell (p := ⟨z + 1, 2, none⟩) hz2 x6).setCell (p := ⟨z + 1, 3, none⟩) hz2 x7).setCell (p := ⟨z + 1, 4, none⟩) hz2 x8
theorem Adn.low4 {w w1 w2 : World} {dv jn : Array Value} (o : Adn w w1 dv jn) {B : Nat} (b : Below B w1 w2) (hB : w.heap.size + 4 ≤ B) : Adn w w2 dv jn := ⟨o.bd.below b (by omega), o.bj.below b (by omega), o.rd.below b (by omega), o.rj.below b (by omega), o.bel.trans (b.mono (by omega))⟩
theorem other_four {w : World} {g z : Nat} {t : TypeId} {c : Array Value} (h : Box w g t c) (hn : g ≠ z) (x y u v : Value) : Box ((((w.setCell ⟨z, 0, none⟩ x).setCell ⟨z, 1, none⟩ y).setCell ⟨z, 2, none⟩ u).setCell ⟨z, 3, none⟩ v) g t c :=
  (((h.other (a := ⟨z, 0, none⟩) hn x).other (a := ⟨z, 1, none⟩) hn y).other (a := ⟨z, 2, none⟩) hn u).other (a := ⟨z, 3, none⟩) hn v
def RAddAns (G : Nat → Prop) (s : St) (f c : Nat) (turn : BitVec 64) (u : Nat) (v : Value) (out : List (List UInt8)) (t : List UInt8) (w : World) (e : Ending) (w' : World) : Prop :=
  (∃ R' s' n, putAll s (f + u) (blkLs turn u t) = (s', n) ∧ RefIs w' G R' s'.sure s'.wait ∧
    ((n = 0 ∧ ∃ va vc, e = .returned (.tuple #[.agg (rda R' s'), .agg (jv f c turn.toInt (.slice va (out.length + 1) vc) ((u : Int) + (needs t.length : Nat))), .int .i64 0]) ∧ SRows w' (.slice va (out.length + 1) vc) 9 1 ((out ++ [t]).map s1) ∧ ∀ k, (Value.slice va (out.length + 1) vc).ownBlock = some k → w.heap.size ≤ k) ∨
     (n = 40 ∧ e = .returned (.tuple #[.agg (rda R' s'), .agg (jv f c turn.toInt v u), .int .i64 40])))) ∧ Below w.heap.size w w'
set_option maxRecDepth 4000 in
set_option maxHeartbeats 4000000 in
theorem refAdd_on {w : World} {G : Nat → Prop} {R : RH} {s : St} (r0 : RefIs w G R s.sure s.wait) (hG : ∀ k, G k → k < w.heap.size) (ok : StOk s) (hwl : s.wait.length ≤ 700000) (f c : Nat) (turn : BitVec 64) (u : Nat) (hfc : f + c ≤ s.sure.length) (va : Option Addr) (vn vc : Nat) (out : List (List UInt8)) (hv : SRows w (.slice va vn vc) 9 1 (out.map s1)) (hvn : vn = out.length) (hol : out.length ≤ 10000) (t : List UInt8) (h1 : 1 ≤ t.length) (h2 : t.length ≤ 8192) (hr : u + needs t.length ≤ c) :
    Calls Try.prog 20 #[.agg (rda R s), .agg (jv f c turn.toInt (.slice va vn vc) u), .string (strB t)] w (RAddAns G s f c turn u (.slice va vn vc) out t w) := by
  have hn4 := ok.top
  have cn := refNeeds_any (t.length : Int)
  rw [needsI_nat h1 h2] at cn
  have hq1 := needs_pos h1
  have hq2 := needs_le h2
  have cb := refBlocks_own turn u (by omega) t h1 h2
  have hA := adn_new w (rda R s) (jv f c turn.toInt (.slice va vn vc) u)
  have hbl := blkLs_len turn u t
  have HBL : Hid (∀ i b, (blkLs turn u t)[i]? = some b → b.length = 128 ∧ i < needs t.length ∧ b = blkL turn u t i) := fun i b hb => by
    obtain ⟨h3, h4⟩ := blkLs_at hb
    exact ⟨by rw [h4]; exact blk_len turn u h1 h2 h3, h3, h4⟩
  have hsz : (rda R s).size = 4 := rfl
  have HA : Hid (Unit → Adn w _ (rda R s) (jv f c turn.toInt (.slice va vn vc) u) ∧ RefIs w G R s.sure s.wait ∧ SRows w (.slice va vn vc) 9 1 (out.map s1) ∧ StOk s) := fun _ => ⟨hA, r0, hv, ok⟩
  have HG : Hid ((∀ k, G k → k < w.heap.size) ∧ s.wait.length ≤ 700000 ∧ f + c ≤ s.sure.length ∧ out.length ≤ 10000 ∧ vn = out.length ∧ (blkLs turn u t).length = needs t.length) := ⟨hG, hwl, hfc, hol, hvn, hbl⟩
  obtain ⟨N, hN⟩ : ∃ N, N = needs t.length := ⟨_, rfl⟩
  rw [← hN] at cn hr hq1 hq2 HG HBL cb
  have HNN : Hid (N = needs t.length) := hN
  have hqz : ((N : Int) == 0) = false := by simp; omega
  have hfl : ¬ (c : Int) - (u : Int) < (N : Int) := by omega
  have hcI : (c : Int) ≤ 4096 := by omega
  have huI : (u : Int) ≤ 4096 := by omega
  have hfI : (f : Int) ≤ 4096 := by omega
  have hNI : (N : Int) ≤ 86 := by omega
  have hz : (strB t).size = t.length := rfl
  obtain ⟨S, hS⟩ : ∃ S, S = strB t := ⟨_, rfl⟩
  have HS : Hid (S = strB t) := hS
  obtain ⟨L, hL⟩ : ∃ L, L = t.length := ⟨_, rfl⟩
  rw [← hS, ← hL] at hz
  rw [← hL] at cn
  rw [← hS] at cb ⊢
  obtain ⟨T, hT⟩ : ∃ T, T = turn.toInt := ⟨_, rfl⟩
  have HT : Hid (T = turn.toInt) := hT
  rw [← hT] at cb HA ⊢
  have HFIN : Hid (f + u + N ≤ s.sure.length) := by show _ ≤ _; omega
  show Calls _ _ #[.agg #[.slice R.sa s.sure.length R.sc, .slice R.wa s.wait.length R.wc, .int .i64 s.fz, .bool s.off], .agg #[.int .i64 f, .int .i64 c, .int .i64 T, .slice va vn vc, .int .i64 u], _] w _
  clear hS hL hA hN h1 h2 hr hfc hn4 hbl hv hvn hol hwl hG r0 ok hT hsz hq1 hq2
  go_enter Try.func20, Try.ntmps20
  go_wp2_with fail
  refine (cn _).mono ?_
  rintro e w1 ⟨rfl, hw1⟩
  have HA1 : Hid (Adn w w1 (rda R s) (jv f c T (.slice va vn vc) u)) := by rw [hw1]; exact (HA.out ()).1
  clear hw1
  have j1 : w1.cell? ⟨w.heap.size + 1, 1, none⟩ = some (.int .i64 c) := HA1.out.bj.cell 1 _ rfl
  have j2 : w1.cell? ⟨w.heap.size + 1, 2, none⟩ = some (.int .i64 T) := HA1.out.bj.cell 2 _ rfl
  have j4 : w1.cell? ⟨w.heap.size + 1, 4, none⟩ = some (.int .i64 u) := HA1.out.bj.cell 4 _ rfl
  go_wp2_with fail
  refine (cb _).mono ?_
  rintro e w2 ⟨⟨g, off, cg, rfl, hgw1, hgw, hcg⟩, b2⟩
  have HR0 : Hid (Rag w w2 G R s s (f + u) (blkLs turn u t) 0 (jv f c T (.slice va vn vc) u) g off va vn vc out) := by
    have h := HA.out ()
    have bw := HA1.out.bel.trans (b2.mono HA1.out.bel.size)
    refine ⟨HA1.out.over b2, (h.2.1.grow (fun x hx hn h5 => ?_)).below bw, rfl, h.2.2.2, rfl, by omega, ⟨by have := HA1.out.size; omega, hgw⟩, fun i b hb => ?_, h.2.2.1.over bw, fun x hx => h.2.2.1.lt hx⟩
    · rcases h5 with h5 | h5
      · exact hn h5
      · omega
    · obtain ⟨_, h6, h7⟩ := HBL.out i b hb
      rw [h7]
      exact hcg i h6
  clear hgw hgw1 hcg b2 j1 j2 j4 cn cb HA
  go_wp2_with fail
  go_loopg [11] N (fun gg s11 wx => ∃ (k : Nat) (R' : RH) (s' : St), k + gg = N ∧ s11 = .int .i64 k ∧ Rag w wx G R' s s' (f + u) (blkLs turn u t) k (jv f c T (.slice va vn vc) u) g off va vn vc out)
  case atStart => exact ⟨0, R, s, by omega, rfl, HR0.out⟩
  case round =>
    obtain ⟨k, R', s', hkg, rfl, hO⟩ := hrel
    have HO : Hid (Rag w wr G R' s s' (f + u) (blkLs turn u t) k (jv f c T (.slice va vn vc) u) g off va vn vc out) := hO
    have HV : Hid (∃ sa n1 sc wa n2 wc fz of, rda R' s' = #[.slice sa n1 sc, .slice wa n2 wc, .int .i64 fz, .bool of]) := ⟨_, _, _, _, _, _, _, _, rfl⟩
    obtain ⟨sa, n1, sc, wa, n2, wc, fz, of, hV⟩ := HV.out
    have HV2 : Hid (rda R' s' = #[.slice sa n1 sc, .slice wa n2 wc, .int .i64 fz, .bool of]) := hV
    have hadn := hO.adn
    rw [hV] at hadn
    have d0 := hadn.bd.cell 0 (.slice sa n1 sc) rfl
    have d1 := hadn.bd.cell 1 (.slice wa n2 wc) rfl
    have d2 := hadn.bd.cell 2 (.int .i64 fz) rfl
    have d3 := hadn.bd.cell 3 (.bool of) rfl
    have j0 : wr.cell? ⟨w.heap.size + 1, 0, none⟩ = some (.int .i64 f) := hadn.bj.cell 0 _ rfl
    have j4 : wr.cell? ⟨w.heap.size + 1, 4, none⟩ = some (.int .i64 u) := hadn.bj.cell 4 _ rfl
    have HAD : Hid (Adn w wr #[.slice sa n1 sc, .slice wa n2 wc, .int .i64 fz, .bool of] (jv f c T (.slice va vn vc) u)) := hadn
    clear hO hV HV hadn
    by_cases hk : k < N
    · have hkI : (k : Int) < N := by omega
      obtain ⟨b, hb⟩ : ∃ b, (blkLs turn u t)[k]? = some b := ⟨_, List.getElem?_eq_getElem (by have := HG.out; omega)⟩
      have hcb := HO.out.cells k b hb
      obtain ⟨B, hB⟩ : ∃ B, B = strB b := ⟨_, rfl⟩
      rw [← hB] at hcb
      have HPUT : Hid (∀ (W : World) (G' : Nat → Prop), Below wr.heap.size wr W → (∀ x, G' x → x < W.heap.size) → RefIs W G' R' s'.sure s'.wait → Calls Try.prog 38 #[.agg #[.slice sa n1 sc, .slice wa n2 wc, .int .i64 fz, .bool of], .int .i64 ((f : Int) + (u : Int) + (k : Int)), .string B] W (RPutAns G' (if s'.goes then (s'.write (f + u + k) b, 0) else (s'.burnt, 40)) W)) := fun W G' hW hG' hr => by
        have hx := HG.out
        have c0 := rput_ok hr hG' HO.out.ok.fz (by have := HO.out.wait; omega) (f + u + k) (by have := HO.out.sure; have := HFIN.out; omega) b (HBL.out k b hb).1
        rw [HV2.out, ← hB, show ((f + u + k : Nat) : Int) = (f : Int) + (u : Int) + (k : Int) by omega] at c0
        exact c0
      have HBE : Hid ((blkLs turn u t)[k]? = some b) := hb
      clear hb hB
      have r1 : IntKind.i64.wrap ((f : Int) + (u : Int)) = (f : Int) + (u : Int) := by rw [IntKind.wrap_i64]; omega
      have r2 : IntKind.i64.wrap ((f : Int) + (u : Int) + (k : Int)) = (f : Int) + (u : Int) + (k : Int) := by rw [IntKind.wrap_i64]; omega
      go_wp2_with fail
      refine wp_region_held_then (fun w' : World => w'.cell? ⟨w.heap.size, 0, none⟩ = some (.slice sa n1 sc) ∧ w'.cell? ⟨w.heap.size, 1, none⟩ = some (.slice wa n2 wc) ∧ w'.cell? ⟨w.heap.size, 2, none⟩ = some (.int .i64 fz) ∧ w'.cell? ⟨w.heap.size, 3, none⟩ = some (.bool of) ∧ w'.cell? ⟨w.heap.size + 1, 0, none⟩ = some (.int .i64 f) ∧ w'.cell? ⟨w.heap.size + 1, 4, none⟩ = some (.int .i64 u) ∧ w'.cell? ⟨g, off + k, none⟩ = some (.string B)) _ (by kernel_rfl) rfl (by kernel_rfl) ?_
      have HSF : Hid (∀ W, Below wr.heap.size wr W → (fun w' : World => w'.cell? ⟨w.heap.size, 0, none⟩ = some (.slice sa n1 sc) ∧ w'.cell? ⟨w.heap.size, 1, none⟩ = some (.slice wa n2 wc) ∧ w'.cell? ⟨w.heap.size, 2, none⟩ = some (.int .i64 fz) ∧ w'.cell? ⟨w.heap.size, 3, none⟩ = some (.bool of) ∧ w'.cell? ⟨w.heap.size + 1, 0, none⟩ = some (.int .i64 f) ∧ w'.cell? ⟨w.heap.size + 1, 4, none⟩ = some (.int .i64 u) ∧ w'.cell? ⟨g, off + k, none⟩ = some (.string B)) W) := fun W hW => by
        have a := HAD.out.over hW
        exact ⟨a.bd.cell 0 _ rfl, a.bd.cell 1 _ rfl, a.bd.cell 2 _ rfl, a.bd.cell 3 _ rfl, a.bj.cell 0 _ rfl, a.bj.cell 4 _ rfl, (hW.cell (p := ⟨g, off + k, none⟩) HO.out.gw.2).trans hcb⟩
      have hHeld := HSF.out wr.drew (Below.refl _ wr).drew
      have hAl : Below wr.heap.size wr (wr.drew.alloc (.cells #[.slice none 0 0, .slice none 0 0, .int .i64 0, .bool false] 30)) := (Below.refl wr.heap.size wr).drew.alloc (Nat.le_refl _) _
      have hHeldA := HSF.out _ hAl
      have HGG : Hid (∀ x, (G x ∨ (w.heap.size ≤ x ∧ x < w.heap.size + 4)) → x < wr.heap.size) := fun x hx => by
        have := HAD.out.size
        rcases hx with hx | hx
        · have := HG.out.1 x hx
          omega
        · omega
      have HAL : Hid (Unit → Below wr.heap.size wr (wr.drew.alloc (.cells #[.slice none 0 0, .slice none 0 0, .int .i64 0, .bool false] 30))) := fun _ => hAl
      clear hAl
      dsimp only [List.dropLast, List.length, List.getLast]
      ((refine takeL 0 (v := ?_) rfl (by kernel_rfl) (by kernel_rfl) (by kernel_rfl) (fun _ _ _ h => h) (by rfl) hHeld ?_ ?_; rotate_left; focus (intro w hSw; (try dsimp only at hSw); go_simp <;> with_reducible rfl); (try simp only [Act.put, List.setIfInBounds_toArray, List.set_cons_zero, List.set_cons_succ])); (refine takeL 1 (v := ?_) rfl (by kernel_rfl) (by kernel_rfl) (by kernel_rfl) (fun _ _ _ h => h) (by rfl) hHeld ?_ ?_; rotate_left; focus (intro w hSw; (try dsimp only at hSw); go_simp <;> with_reducible rfl); (try simp only [Act.put, List.setIfInBounds_toArray, List.set_cons_zero, List.set_cons_succ])); (refine takeL 2 (v := ?_) rfl (by kernel_rfl) (by kernel_rfl) (by kernel_rfl) (fun _ _ _ h => h) (by rfl) hHeld ?_ ?_; rotate_left; focus (intro w hSw; (try dsimp only at hSw); go_simp <;> with_reducible rfl); (try simp only [Act.put, List.setIfInBounds_toArray, List.set_cons_zero, List.set_cons_succ])); (refine takeL 3 (v := ?_) rfl (by kernel_rfl) (by kernel_rfl) (by kernel_rfl) (fun _ _ _ h => h) (by rfl) hHeld ?_ ?_; rotate_left; focus (intro w hSw; (try dsimp only at hSw); go_simp <;> with_reducible rfl); (try simp only [Act.put, List.setIfInBounds_toArray, List.set_cons_zero, List.set_cons_succ])); (refine takeL 4 (v := ?_) rfl (by kernel_rfl) (by kernel_rfl) (by kernel_rfl) (fun _ _ _ h => h) (by rfl) hHeld ?_ ?_; rotate_left; focus (intro w hSw; (try dsimp only at hSw); go_simp <;> with_reducible rfl); (try simp only [Act.put, List.setIfInBounds_toArray, List.set_cons_zero, List.set_cons_succ])))
      dsimp only [Act.put]
      simp only [List.setIfInBounds_toArray, List.set_cons_zero, List.set_cons_succ]
      ((refine takeL 5 (v := ?_) rfl (by kernel_rfl) (by kernel_rfl) (by kernel_rfl) (fun _ _ _ h => h) (by rfl) hHeld ?_ ?_; rotate_left; focus (intro w hSw; (try dsimp only at hSw); go_simp <;> with_reducible rfl); (try simp only [Act.put, List.setIfInBounds_toArray, List.set_cons_zero, List.set_cons_succ])); (refine takeL 6 (v := ?_) rfl (by kernel_rfl) (by kernel_rfl) (by kernel_rfl) (fun _ _ _ h => h) (by rfl) hHeld ?_ ?_; rotate_left; focus (intro w hSw; (try dsimp only at hSw); go_simp <;> with_reducible rfl); (try simp only [Act.put, List.setIfInBounds_toArray, List.set_cons_zero, List.set_cons_succ])); (refine takeL 7 (v := ?_) rfl (by kernel_rfl) (by kernel_rfl) (by kernel_rfl) (fun _ _ _ h => h) (by rfl) hHeld ?_ ?_; rotate_left; focus (intro w hSw; (try dsimp only at hSw); go_simp <;> with_reducible rfl); (try simp only [Act.put, List.setIfInBounds_toArray, List.set_cons_zero, List.set_cons_succ])); (refine takeL 8 (v := ?_) rfl (by kernel_rfl) (by kernel_rfl) (by kernel_rfl) (fun _ _ _ h => h) (by rfl) hHeld ?_ ?_; rotate_left; focus (intro w hSw; (try dsimp only at hSw); go_simp <;> with_reducible rfl); (try simp only [Act.put, List.setIfInBounds_toArray, List.set_cons_zero, List.set_cons_succ])))
      dsimp only [Act.put]
      simp only [List.setIfInBounds_toArray, List.set_cons_zero, List.set_cons_succ]
      ((refine takeL 9 (v := ?_) rfl (by kernel_rfl) (by kernel_rfl) (by kernel_rfl) (fun _ _ _ h => h) (by rfl) hHeld ?_ ?_; rotate_left; focus (intro w hSw; (try dsimp only at hSw); go_simp <;> with_reducible rfl); (try simp only [Act.put, List.setIfInBounds_toArray, List.set_cons_zero, List.set_cons_succ])); (refine takeL 10 (v := ?_) rfl (by kernel_rfl) (by kernel_rfl) (by kernel_rfl) (fun _ _ _ h => h) (by rfl) hHeld ?_ ?_; rotate_left; focus (intro w hSw; (try dsimp only at hSw); go_simp <;> with_reducible rfl); (try simp only [Act.put, List.setIfInBounds_toArray, List.set_cons_zero, List.set_cons_succ])); (refine takeL 11 (v := ?_) rfl (by kernel_rfl) (by kernel_rfl) (by kernel_rfl) (fun _ _ _ h => h) (by rfl) hHeld ?_ ?_; rotate_left; focus (intro w hSw; (try dsimp only at hSw); go_simp <;> with_reducible rfl); (try simp only [Act.put, List.setIfInBounds_toArray, List.set_cons_zero, List.set_cons_succ])); (refine takeL 12 (v := ?_) rfl (by kernel_rfl) (by kernel_rfl) (by kernel_rfl) (fun _ _ _ h => h) (by rfl) hHeld ?_ ?_; rotate_left; focus (intro w hSw; (try dsimp only at hSw); go_simp <;> with_reducible rfl); (try simp only [Act.put, List.setIfInBounds_toArray, List.set_cons_zero, List.set_cons_succ])))
      dsimp only [Act.put]
      simp only [List.setIfInBounds_toArray, List.set_cons_zero, List.set_cons_succ]
      cases hg : s'.goes with
      | true =>
        have HPT := HPUT.out
        rw [hg] at HPT
        simp only [if_true] at HPT
        have HPU := (show Hid _ from HPT)
        have HGO : Hid (s'.goes = true) := hg
        clear HPT hg
        refine callNewL 13 17 (f := 38) (vs := #[.agg #[.slice sa n1 sc, .slice wa n2 wc, .int .i64 fz, .bool of], .int .i64 ((f : Int) + (u : Int) + (k : Int)), .string B]) (wr.drew.alloc (.cells #[.slice none 0 0, .slice none 0 0, .int .i64 0, .bool false] 30)) (.pointer (some ⟨wr.heap.size, 0, none⟩)) rfl rfl (by kernel_rfl) (by rfl) (by rfl) (by go_simp) (by go_simp) hHeldA ?_ ?_
        · refine Calls.mono (HPU.out wr.drew (fun x => G x ∨ (w.heap.size ≤ x ∧ x < w.heap.size + 4)) (Below.refl _ wr).drew HGG.out (HO.out.ref.below (Below.refl _ wr).drew)) ?_
          rintro e w3 ⟨⟨R3, rfl, r3⟩, b3⟩
          have b3' : Below wr.heap.size wr w3 := (Below.refl _ wr).drew.trans b3
          have hS3 := HSF.out w3 b3'
          have bA : Below wr.heap.size wr (w3.alloc (.cells #[.slice none 0 0, .slice none 0 0, .int .i64 0, .bool false] 30)) := b3'.alloc b3'.size _
          have hS3A := HSF.out _ bA
          have BZ := box_new w3 #[.slice none 0 0, .slice none 0 0, .int .i64 0, .bool false] 30
          have rA := r3.below (below1 w3 (.cells #[.slice none 0 0, .slice none 0 0, .int .i64 0, .bool false] 30))
          have hzz : wr.heap.size ≤ w3.heap.size := b3'.size
          have hav : ∀ R0 : RH, R0 = R3 → (∀ x, (Value.slice R3.sa (s'.write (f + u + k) b).sure.length R3.sc).ownBlock = some x → x ≠ w3.heap.size) ∧ ∀ x, (Value.slice R3.wa (s'.write (f + u + k) b).wait.length R3.wc).ownBlock = some x → x ≠ w3.heap.size := fun _ _ => ⟨fun x hx e => by have := r3.sure.lt hx; omega, fun x hx e => by have := r3.wait.lt hx; omega⟩
          have HQE : Hid (∃ qa m1 qc pa m2 pc fy oy, rda R3 (s'.write (f + u + k) b) = #[.slice qa m1 qc, .slice pa m2 pc, .int .i64 fy, .bool oy]) := ⟨_, _, _, _, _, _, _, _, rfl⟩
          obtain ⟨qa, m1, qc, pa, m2, pc, fy, oy, hQ⟩ := HQE.out
          have HQQ : Hid (rda R3 (s'.write (f + u + k) b) = #[.slice qa m1 qc, .slice pa m2 pc, .int .i64 fy, .bool oy]) := hQ
          rw [show rda R3 (s'.write (f + u + k) b, (0 : Int)).1 = #[.slice qa m1 qc, .slice pa m2 pc, .int .i64 fy, .bool oy] from hQ]
          refine ⟨_, rfl, hS3, ?_⟩
          try dsimp only [Act.put]
          try simp only [List.setIfInBounds_toArray, List.set_cons_zero, List.set_cons_succ]
          ((refine takeL 14 (v := ?_) rfl (by kernel_rfl) (by kernel_rfl) (by kernel_rfl) (fun _ _ _ h => h) (by rfl) hS3 ?_ ?_; rotate_left; focus (intro w hSw; (try dsimp only at hSw); go_simp <;> with_reducible rfl); (try simp only [Act.put, List.setIfInBounds_toArray, List.set_cons_zero, List.set_cons_succ])); (refine takeL 15 (v := ?_) rfl (by kernel_rfl) (by kernel_rfl) (by kernel_rfl) (fun _ _ _ h => h) (by rfl) hS3 ?_ ?_; rotate_left; focus (intro w hSw; (try dsimp only at hSw); go_simp <;> with_reducible rfl); (try simp only [Act.put, List.setIfInBounds_toArray, List.set_cons_zero, List.set_cons_succ])); (refine takeL 16 (v := ?_) rfl (by kernel_rfl) (by kernel_rfl) (by kernel_rfl) (fun _ _ _ h => h) (by rfl) hS3 ?_ ?_; rotate_left; focus (intro w hSw; (try dsimp only at hSw); go_simp <;> with_reducible rfl); (try simp only [Act.put, List.setIfInBounds_toArray, List.set_cons_zero, List.set_cons_succ])))
          dsimp only [Act.put]
          simp only [List.setIfInBounds_toArray, List.set_cons_zero, List.set_cons_succ]
          refine newL 17 (w3.alloc (.cells #[.slice none 0 0, .slice none 0 0, .int .i64 0, .bool false] 30)) (.pointer (some ⟨w3.heap.size, 0, none⟩)) rfl (by kernel_rfl) (by rfl) (by go_simp) hS3A ?_
          try dsimp only [Act.put]
          try simp only [List.setIfInBounds_toArray, List.set_cons_zero, List.set_cons_succ]
          obtain ⟨z, hz⟩ : ∃ z, z = w3.heap.size := ⟨_, rfl⟩
          obtain ⟨W, hW⟩ : ∃ W, W = w3.alloc (.cells #[.slice none 0 0, .slice none 0 0, .int .i64 0, .bool false] 30) := ⟨_, rfl⟩
          rw [← hz] at BZ hzz hav ⊢
          rw [← hW] at BZ bA rA hS3A ⊢
          clear hz hW
          have p0 := BZ.cell 0 (.slice none 0 0) rfl
          have p1 := BZ.cell 1 (.slice none 0 0) rfl
          have p2 := BZ.cell 2 (.int .i64 0) rfl
          have p3 := BZ.cell 3 (.bool false) rfl
          have x0 := BZ.frozen 0
          have x1 := BZ.frozen 1
          have x2 := BZ.frozen 2
          have x3 := BZ.frozen 3
          have BF := box_four BZ rfl (.slice qa m1 qc) (.slice pa m2 pc) (.int .i64 fy) (.bool oy)
          have bF : Below wr.heap.size wr ((((W.setCell ⟨z, 0, none⟩ (.slice qa m1 qc)).setCell ⟨z, 1, none⟩ (.slice pa m2 pc)).setCell ⟨z, 2, none⟩ (.int .i64 fy)).setCell ⟨z, 3, none⟩ (.bool oy)) := (((bA.setCell (p := ⟨z, 0, none⟩) hzz (.slice qa m1 qc)).setCell (p := ⟨z, 1, none⟩) hzz (.slice pa m2 pc)).setCell (p := ⟨z, 2, none⟩) hzz (.int .i64 fy)).setCell (p := ⟨z, 3, none⟩) hzz (.bool oy)
          have rF := rA.keptL (kept_four (Kept.refl (fun x => x = z) W) (.inl rfl) (.slice qa m1 qc) (.slice pa m2 pc) (.int .i64 fy) (.bool oy)) (hav R3 rfl).1 (hav R3 rfl).2
          have hSf := HSF.out _ bF
          have hzl := BZ.lt
          refine stepL 18 ((((W.setCell ⟨z, 0, none⟩ (.slice qa m1 qc)).setCell ⟨z, 1, none⟩ (.slice pa m2 pc)).setCell ⟨z, 2, none⟩ (.int .i64 fy)).setCell ⟨z, 3, none⟩ (.bool oy)) rfl (by kernel_rfl) (by rfl) (by go_simp) hSf ?_
          try dsimp only [Act.put]
          try simp only [List.setIfInBounds_toArray, List.set_cons_zero, List.set_cons_succ]
          obtain ⟨Wf, hWf⟩ : ∃ Wf, Wf = ((((W.setCell ⟨z, 0, none⟩ (.slice qa m1 qc)).setCell ⟨z, 1, none⟩ (.slice pa m2 pc)).setCell ⟨z, 2, none⟩ (.int .i64 fy)).setCell ⟨z, 3, none⟩ (.bool oy)) := ⟨_, rfl⟩
          rw [← hWf] at BF bF rF hSf ⊢
          have HZ : Hid (Box Wf z 30 #[.slice qa m1 qc, .slice pa m2 pc, .int .i64 fy, .bool oy] ∧ Adn w Wf #[.slice sa n1 sc, .slice wa n2 wc, .int .i64 fz, .bool of] (jv f c T (.slice va vn vc) u) ∧ RefIs Wf (fun x => G x ∨ (w.heap.size ≤ x ∧ x < w.heap.size + 4)) R3 (s'.write (f + u + k) b).sure (s'.write (f + u + k) b).wait ∧ Rag w Wf G R' s s' (f + u) (blkLs turn u t) k (jv f c T (.slice va vn vc) u) g off va vn vc out ∧ wr.heap.size ≤ z) := ⟨BF, HAD.out.over bF, rF, HO.out.over bF, hzz⟩
          clear hWf BF bF rF BZ bA rA p0 p1 p2 p3 x0 x1 x2 x3 hav hQ HQE hS3 hS3A hzl hzz
          refine doneL (by kernel_rfl) ?_
          try dsimp only [Act.put]
          try simp only [List.setIfInBounds_toArray, List.set_cons_zero, List.set_cons_succ]
          unfold Oper.wp
          have e0 := HZ.out.1.cell 0 (.slice qa m1 qc) rfl
          have e1 := HZ.out.1.cell 1 (.slice pa m2 pc) rfl
          have e2 := HZ.out.1.cell 2 (.int .i64 fy) rfl
          have e3 := HZ.out.1.cell 3 (.bool oy) rfl
          have o0 := HZ.out.2.1.bd.cell 0 (.slice sa n1 sc) rfl
          have o1 := HZ.out.2.1.bd.cell 1 (.slice wa n2 wc) rfl
          have o2 := HZ.out.2.1.bd.cell 2 (.int .i64 fz) rfl
          have o3 := HZ.out.2.1.bd.cell 3 (.bool of) rfl
          have v0 := HZ.out.2.1.bd.frozen 0
          have v1 := HZ.out.2.1.bd.frozen 1
          have v2 := HZ.out.2.1.bd.frozen 2
          have v3 := HZ.out.2.1.bd.frozen 3
          have HND : Hid (Unit → Adn w _ #[.slice qa m1 qc, .slice pa m2 pc, .int .i64 fy, .bool oy] (jv f c T (.slice va vn vc) u) ∧ RefIs _ (fun x => G x ∨ (w.heap.size ≤ x ∧ x < w.heap.size + 4)) R3 (s'.write (f + u + k) b).sure (s'.write (f + u + k) b).wait ∧ Kept (fun x => x = w.heap.size) Wf _) := fun _ => ⟨HZ.out.2.1.dev rfl (.slice qa m1 qc) (.slice pa m2 pc) (.int .i64 fy) (.bool oy), HZ.out.2.2.1.kept (kept_four (Kept.refl (fun x => x = w.heap.size) Wf) (.inl rfl) (.slice qa m1 qc) (.slice pa m2 pc) (.int .i64 fy) (.bool oy)) (fun x hx e => hx (.inr (by omega))), kept_four (Kept.refl (fun x => x = w.heap.size) Wf) (.inl rfl) (.slice qa m1 qc) (.slice pa m2 pc) (.int .i64 fy) (.bool oy)⟩
          clear hHeld hHeldA hSf d0 d1 d2 d3 j0 j4
          go_simp
          go_wp2_with fail
          go_roundg (N - (k + 1))
          case measure => omega
          case rel =>
            obtain ⟨n1, n2, n3⟩ := HND.out ()
            have hx := HG.out.2.2.2.2.2
            have hx3 := HG.out.2.1
            refine ⟨k + 1, R3, _, by omega, by go_num, ⟨by rw [HQQ.out]; exact n1, n2, ?_, ⟨burnt_b HO.out.ok.fz, ?_, HO.out.ok.top, ?_⟩, HO.out.sure, ?_, ⟨HO.out.gw.1, Nat.lt_of_lt_of_le HZ.out.2.2.2.1.gw.2 n3.size⟩, fun i x hx2 => ?_, HZ.out.2.2.2.1.list.kept n3 (fun x hx2 e => by have := HO.out.low x hx2; omega), HO.out.low⟩⟩
            · rw [← HO.out.put, List.drop_eq_getElem_cons (i := k) (l := blkLs turn u t) (by omega), pa_cons s', if_pos HGO.out, show f + u + k + 1 = f + u + (k + 1) by omega]
              have e9 := HBE.out
              rw [List.getElem?_eq_getElem (by omega)] at e9
              rw [Option.some.inj e9]
            · intro x hx2
              rcases List.mem_append.1 hx2 with hx2 | hx2
              · exact HO.out.ok.ats x hx2
              · simp at hx2
                subst hx2
                have := HO.out.sure
                have := HFIN.out
                show f + u + k < s'.sure.length
                omega
            · show (s'.wait ++ [_]).length ≤ 800000
              have := HO.out.wait
              simp
              omega
            · show (s'.wait ++ [_]).length ≤ _
              have := HO.out.wait
              simp
              omega
            · have h9 := HZ.out.2.2.2.1.cells i x hx2
              rw [← h9]
              exact World.cell?_of_block (n3.block g HZ.out.2.2.2.1.gw.2 (by have := HO.out.gw.1; omega))
        · try dsimp only [Act.put]
          try simp only [List.setIfInBounds_toArray, List.set_cons_zero, List.set_cons_succ]
          have bB := HAL.out ()
          have BZ0 := box_new wr.drew #[.slice none 0 0, .slice none 0 0, .int .i64 0, .bool false] 30
          have rB : RefIs (wr.drew.alloc (.cells #[.slice none 0 0, .slice none 0 0, .int .i64 0, .bool false] 30)) (fun x => (G x ∨ (w.heap.size ≤ x ∧ x < w.heap.size + 4)) ∨ x = wr.heap.size) R' s'.sure s'.wait := (HO.out.ref.grow (fun x hx hn h => by
            rcases h with h | h
            · exact hn h
            · omega)).below bB
          refine callL 13 (f := 38) (vs := #[.agg #[.slice sa n1 sc, .slice wa n2 wc, .int .i64 fz, .bool of], .int .i64 ((f : Int) + (u : Int) + (k : Int)), .string B]) rfl (by kernel_rfl) (by rfl) (by go_simp) ?_
          refine Calls.mono (HPU.out _ _ bB (fun x hx => by
            rcases hx with hx | hx
            · have := HGG.out x hx
              simp
              omega
            · simp
              omega) rB) ?_
          rintro e w3 ⟨⟨R3, rfl, r3⟩, b3⟩
          have bA : Below wr.heap.size wr w3 := bB.trans (b3.mono bB.size)
          have hS3A := HSF.out w3 bA
          have hS3 := hS3A
          have BZ := BZ0.over b3
          have rA : RefIs w3 (fun x => G x ∨ (w.heap.size ≤ x ∧ x < w.heap.size + 4)) R3 (s'.write (f + u + k) b).sure (s'.write (f + u + k) b).wait := r3.grow (fun x _ hn h => hn (.inl h))
          have hzz : wr.heap.size ≤ wr.heap.size := Nat.le_refl _
          have hav : ∀ R0 : RH, R0 = R3 → (∀ x, (Value.slice R3.sa (s'.write (f + u + k) b).sure.length R3.sc).ownBlock = some x → x ≠ wr.heap.size) ∧ ∀ x, (Value.slice R3.wa (s'.write (f + u + k) b).wait.length R3.wc).ownBlock = some x → x ≠ wr.heap.size := fun _ _ => ⟨fun x hx e => r3.g1 x hx (.inr e), fun x hx e => r3.g2 x hx (.inr e)⟩
          have HQE : Hid (∃ qa m1 qc pa m2 pc fy oy, rda R3 (s'.write (f + u + k) b) = #[.slice qa m1 qc, .slice pa m2 pc, .int .i64 fy, .bool oy]) := ⟨_, _, _, _, _, _, _, _, rfl⟩
          obtain ⟨qa, m1, qc, pa, m2, pc, fy, oy, hQ⟩ := HQE.out
          have HQQ : Hid (rda R3 (s'.write (f + u + k) b) = #[.slice qa m1 qc, .slice pa m2 pc, .int .i64 fy, .bool oy]) := hQ
          rw [show rda R3 (s'.write (f + u + k) b, (0 : Int)).1 = #[.slice qa m1 qc, .slice pa m2 pc, .int .i64 fy, .bool oy] from hQ]
          refine ⟨_, rfl, hS3, ?_⟩
          try dsimp only [Act.put]
          try simp only [List.setIfInBounds_toArray, List.set_cons_zero, List.set_cons_succ]
          ((refine takeL 14 (v := ?_) rfl (by kernel_rfl) (by kernel_rfl) (by kernel_rfl) (fun _ _ _ h => h) (by rfl) hS3 ?_ ?_; rotate_left; focus (intro w hSw; (try dsimp only at hSw); go_simp <;> with_reducible rfl); (try simp only [Act.put, List.setIfInBounds_toArray, List.set_cons_zero, List.set_cons_succ])); (refine takeL 15 (v := ?_) rfl (by kernel_rfl) (by kernel_rfl) (by kernel_rfl) (fun _ _ _ h => h) (by rfl) hS3 ?_ ?_; rotate_left; focus (intro w hSw; (try dsimp only at hSw); go_simp <;> with_reducible rfl); (try simp only [Act.put, List.setIfInBounds_toArray, List.set_cons_zero, List.set_cons_succ])); (refine takeL 16 (v := ?_) rfl (by kernel_rfl) (by kernel_rfl) (by kernel_rfl) (fun _ _ _ h => h) (by rfl) hS3 ?_ ?_; rotate_left; focus (intro w hSw; (try dsimp only at hSw); go_simp <;> with_reducible rfl); (try simp only [Act.put, List.setIfInBounds_toArray, List.set_cons_zero, List.set_cons_succ])))
          dsimp only [Act.put]
          simp only [List.setIfInBounds_toArray, List.set_cons_zero, List.set_cons_succ]
          obtain ⟨z, hz⟩ : ∃ z, z = wr.heap.size := ⟨_, rfl⟩
          obtain ⟨W, hW⟩ : ∃ W, W = w3 := ⟨_, rfl⟩
          replace BZ : Box W z 30 #[.slice none 0 0, .slice none 0 0, .int .i64 0, .bool false] := by rw [hW, hz]; exact BZ
          replace hzz : wr.heap.size ≤ z := by omega
          rw [show ((some ⟨wr.heap.size, 0, none⟩) : Option Addr) = some ⟨z, 0, none⟩ by rw [hz]]
          rw [← hz] at hav
          rw [← hW] at bA rA hS3A ⊢
          clear hz hW
          have p0 := BZ.cell 0 (.slice none 0 0) rfl
          have p1 := BZ.cell 1 (.slice none 0 0) rfl
          have p2 := BZ.cell 2 (.int .i64 0) rfl
          have p3 := BZ.cell 3 (.bool false) rfl
          have x0 := BZ.frozen 0
          have x1 := BZ.frozen 1
          have x2 := BZ.frozen 2
          have x3 := BZ.frozen 3
          have BF := box_four BZ rfl (.slice qa m1 qc) (.slice pa m2 pc) (.int .i64 fy) (.bool oy)
          have bF : Below wr.heap.size wr ((((W.setCell ⟨z, 0, none⟩ (.slice qa m1 qc)).setCell ⟨z, 1, none⟩ (.slice pa m2 pc)).setCell ⟨z, 2, none⟩ (.int .i64 fy)).setCell ⟨z, 3, none⟩ (.bool oy)) := (((bA.setCell (p := ⟨z, 0, none⟩) hzz (.slice qa m1 qc)).setCell (p := ⟨z, 1, none⟩) hzz (.slice pa m2 pc)).setCell (p := ⟨z, 2, none⟩) hzz (.int .i64 fy)).setCell (p := ⟨z, 3, none⟩) hzz (.bool oy)
          have rF := rA.keptL (kept_four (Kept.refl (fun x => x = z) W) (.inl rfl) (.slice qa m1 qc) (.slice pa m2 pc) (.int .i64 fy) (.bool oy)) (hav R3 rfl).1 (hav R3 rfl).2
          have hSf := HSF.out _ bF
          have hzl := BZ.lt
          refine stepL 18 ((((W.setCell ⟨z, 0, none⟩ (.slice qa m1 qc)).setCell ⟨z, 1, none⟩ (.slice pa m2 pc)).setCell ⟨z, 2, none⟩ (.int .i64 fy)).setCell ⟨z, 3, none⟩ (.bool oy)) rfl (by kernel_rfl) (by rfl) (by go_simp) hSf ?_
          try dsimp only [Act.put]
          try simp only [List.setIfInBounds_toArray, List.set_cons_zero, List.set_cons_succ]
          obtain ⟨Wf, hWf⟩ : ∃ Wf, Wf = ((((W.setCell ⟨z, 0, none⟩ (.slice qa m1 qc)).setCell ⟨z, 1, none⟩ (.slice pa m2 pc)).setCell ⟨z, 2, none⟩ (.int .i64 fy)).setCell ⟨z, 3, none⟩ (.bool oy)) := ⟨_, rfl⟩
          rw [← hWf] at BF bF rF hSf ⊢
          have HZ : Hid (Box Wf z 30 #[.slice qa m1 qc, .slice pa m2 pc, .int .i64 fy, .bool oy] ∧ Adn w Wf #[.slice sa n1 sc, .slice wa n2 wc, .int .i64 fz, .bool of] (jv f c T (.slice va vn vc) u) ∧ RefIs Wf (fun x => G x ∨ (w.heap.size ≤ x ∧ x < w.heap.size + 4)) R3 (s'.write (f + u + k) b).sure (s'.write (f + u + k) b).wait ∧ Rag w Wf G R' s s' (f + u) (blkLs turn u t) k (jv f c T (.slice va vn vc) u) g off va vn vc out ∧ wr.heap.size ≤ z) := ⟨BF, HAD.out.over bF, rF, HO.out.over bF, hzz⟩
          clear hWf BF bF rF BZ bA rA p0 p1 p2 p3 x0 x1 x2 x3 hav hQ HQE hS3 hS3A hzl hzz
          refine doneL (by kernel_rfl) ?_
          try dsimp only [Act.put]
          try simp only [List.setIfInBounds_toArray, List.set_cons_zero, List.set_cons_succ]
          unfold Oper.wp
          have e0 := HZ.out.1.cell 0 (.slice qa m1 qc) rfl
          have e1 := HZ.out.1.cell 1 (.slice pa m2 pc) rfl
          have e2 := HZ.out.1.cell 2 (.int .i64 fy) rfl
          have e3 := HZ.out.1.cell 3 (.bool oy) rfl
          have o0 := HZ.out.2.1.bd.cell 0 (.slice sa n1 sc) rfl
          have o1 := HZ.out.2.1.bd.cell 1 (.slice wa n2 wc) rfl
          have o2 := HZ.out.2.1.bd.cell 2 (.int .i64 fz) rfl
          have o3 := HZ.out.2.1.bd.cell 3 (.bool of) rfl
          have v0 := HZ.out.2.1.bd.frozen 0
          have v1 := HZ.out.2.1.bd.frozen 1
          have v2 := HZ.out.2.1.bd.frozen 2
          have v3 := HZ.out.2.1.bd.frozen 3
          have HND : Hid (Unit → Adn w _ #[.slice qa m1 qc, .slice pa m2 pc, .int .i64 fy, .bool oy] (jv f c T (.slice va vn vc) u) ∧ RefIs _ (fun x => G x ∨ (w.heap.size ≤ x ∧ x < w.heap.size + 4)) R3 (s'.write (f + u + k) b).sure (s'.write (f + u + k) b).wait ∧ Kept (fun x => x = w.heap.size) Wf _) := fun _ => ⟨HZ.out.2.1.dev rfl (.slice qa m1 qc) (.slice pa m2 pc) (.int .i64 fy) (.bool oy), HZ.out.2.2.1.kept (kept_four (Kept.refl (fun x => x = w.heap.size) Wf) (.inl rfl) (.slice qa m1 qc) (.slice pa m2 pc) (.int .i64 fy) (.bool oy)) (fun x hx e => hx (.inr (by omega))), kept_four (Kept.refl (fun x => x = w.heap.size) Wf) (.inl rfl) (.slice qa m1 qc) (.slice pa m2 pc) (.int .i64 fy) (.bool oy)⟩
          clear hHeld hHeldA hSf d0 d1 d2 d3 j0 j4
          go_simp
          go_wp2_with fail
          go_roundg (N - (k + 1))
          case measure => omega
          case rel =>
            obtain ⟨n1, n2, n3⟩ := HND.out ()
            have hx := HG.out.2.2.2.2.2
            have hx3 := HG.out.2.1
            refine ⟨k + 1, R3, _, by omega, by go_num, ⟨by rw [HQQ.out]; exact n1, n2, ?_, ⟨burnt_b HO.out.ok.fz, ?_, HO.out.ok.top, ?_⟩, HO.out.sure, ?_, ⟨HO.out.gw.1, Nat.lt_of_lt_of_le HZ.out.2.2.2.1.gw.2 n3.size⟩, fun i x hx2 => ?_, HZ.out.2.2.2.1.list.kept n3 (fun x hx2 e => by have := HO.out.low x hx2; omega), HO.out.low⟩⟩
            · rw [← HO.out.put, List.drop_eq_getElem_cons (i := k) (l := blkLs turn u t) (by omega), pa_cons s', if_pos HGO.out, show f + u + k + 1 = f + u + (k + 1) by omega]
              have e9 := HBE.out
              rw [List.getElem?_eq_getElem (by omega)] at e9
              rw [Option.some.inj e9]
            · intro x hx2
              rcases List.mem_append.1 hx2 with hx2 | hx2
              · exact HO.out.ok.ats x hx2
              · simp at hx2
                subst hx2
                have := HO.out.sure
                have := HFIN.out
                show f + u + k < s'.sure.length
                omega
            · show (s'.wait ++ [_]).length ≤ 800000
              have := HO.out.wait
              simp
              omega
            · show (s'.wait ++ [_]).length ≤ _
              have := HO.out.wait
              simp
              omega
            · have h9 := HZ.out.2.2.2.1.cells i x hx2
              rw [← h9]
              exact World.cell?_of_block (n3.block g HZ.out.2.2.2.1.gw.2 (by have := HO.out.gw.1; omega))
      | false =>
        have HPT := HPUT.out
        rw [hg] at HPT
        simp only [Bool.false_eq_true, if_false] at HPT
        have HPU := (show Hid _ from HPT)
        have HGO : Hid (s'.goes = false) := hg
        clear HPT hg
        refine callNewL 13 17 (f := 38) (vs := #[.agg #[.slice sa n1 sc, .slice wa n2 wc, .int .i64 fz, .bool of], .int .i64 ((f : Int) + (u : Int) + (k : Int)), .string B]) (wr.drew.alloc (.cells #[.slice none 0 0, .slice none 0 0, .int .i64 0, .bool false] 30)) (.pointer (some ⟨wr.heap.size, 0, none⟩)) rfl rfl (by kernel_rfl) (by rfl) (by rfl) (by go_simp) (by go_simp) hHeldA ?_ ?_
        · refine Calls.mono (HPU.out wr.drew (fun x => G x ∨ (w.heap.size ≤ x ∧ x < w.heap.size + 4)) (Below.refl _ wr).drew HGG.out (HO.out.ref.below (Below.refl _ wr).drew)) ?_
          rintro e w3 ⟨⟨R3, rfl, r3⟩, b3⟩
          have b3' : Below wr.heap.size wr w3 := (Below.refl _ wr).drew.trans b3
          have hS3 := HSF.out w3 b3'
          have bA : Below wr.heap.size wr (w3.alloc (.cells #[.slice none 0 0, .slice none 0 0, .int .i64 0, .bool false] 30)) := b3'.alloc b3'.size _
          have hS3A := HSF.out _ bA
          have BZ := box_new w3 #[.slice none 0 0, .slice none 0 0, .int .i64 0, .bool false] 30
          have rA := r3.below (below1 w3 (.cells #[.slice none 0 0, .slice none 0 0, .int .i64 0, .bool false] 30))
          have hzz : wr.heap.size ≤ w3.heap.size := b3'.size
          have hav : ∀ R0 : RH, R0 = R3 → (∀ x, (Value.slice R3.sa (s'.burnt).sure.length R3.sc).ownBlock = some x → x ≠ w3.heap.size) ∧ ∀ x, (Value.slice R3.wa (s'.burnt).wait.length R3.wc).ownBlock = some x → x ≠ w3.heap.size := fun _ _ => ⟨fun x hx e => by have := r3.sure.lt hx; omega, fun x hx e => by have := r3.wait.lt hx; omega⟩
          have HQE : Hid (∃ qa m1 qc pa m2 pc fy oy, rda R3 (s'.burnt) = #[.slice qa m1 qc, .slice pa m2 pc, .int .i64 fy, .bool oy]) := ⟨_, _, _, _, _, _, _, _, rfl⟩
          obtain ⟨qa, m1, qc, pa, m2, pc, fy, oy, hQ⟩ := HQE.out
          have HQQ : Hid (rda R3 (s'.burnt) = #[.slice qa m1 qc, .slice pa m2 pc, .int .i64 fy, .bool oy]) := hQ
          rw [show rda R3 (s'.burnt, (40 : Int)).1 = #[.slice qa m1 qc, .slice pa m2 pc, .int .i64 fy, .bool oy] from hQ]
          refine ⟨_, rfl, hS3, ?_⟩
          try dsimp only [Act.put]
          try simp only [List.setIfInBounds_toArray, List.set_cons_zero, List.set_cons_succ]
          ((refine takeL 14 (v := ?_) rfl (by kernel_rfl) (by kernel_rfl) (by kernel_rfl) (fun _ _ _ h => h) (by rfl) hS3 ?_ ?_; rotate_left; focus (intro w hSw; (try dsimp only at hSw); go_simp <;> with_reducible rfl); (try simp only [Act.put, List.setIfInBounds_toArray, List.set_cons_zero, List.set_cons_succ])); (refine takeL 15 (v := ?_) rfl (by kernel_rfl) (by kernel_rfl) (by kernel_rfl) (fun _ _ _ h => h) (by rfl) hS3 ?_ ?_; rotate_left; focus (intro w hSw; (try dsimp only at hSw); go_simp <;> with_reducible rfl); (try simp only [Act.put, List.setIfInBounds_toArray, List.set_cons_zero, List.set_cons_succ])); (refine takeL 16 (v := ?_) rfl (by kernel_rfl) (by kernel_rfl) (by kernel_rfl) (fun _ _ _ h => h) (by rfl) hS3 ?_ ?_; rotate_left; focus (intro w hSw; (try dsimp only at hSw); go_simp <;> with_reducible rfl); (try simp only [Act.put, List.setIfInBounds_toArray, List.set_cons_zero, List.set_cons_succ])))
          dsimp only [Act.put]
          simp only [List.setIfInBounds_toArray, List.set_cons_zero, List.set_cons_succ]
          refine newL 17 (w3.alloc (.cells #[.slice none 0 0, .slice none 0 0, .int .i64 0, .bool false] 30)) (.pointer (some ⟨w3.heap.size, 0, none⟩)) rfl (by kernel_rfl) (by rfl) (by go_simp) hS3A ?_
          try dsimp only [Act.put]
          try simp only [List.setIfInBounds_toArray, List.set_cons_zero, List.set_cons_succ]
          obtain ⟨z, hz⟩ : ∃ z, z = w3.heap.size := ⟨_, rfl⟩
          obtain ⟨W, hW⟩ : ∃ W, W = w3.alloc (.cells #[.slice none 0 0, .slice none 0 0, .int .i64 0, .bool false] 30) := ⟨_, rfl⟩
          rw [← hz] at BZ hzz hav ⊢
          rw [← hW] at BZ bA rA hS3A ⊢
          clear hz hW
          have p0 := BZ.cell 0 (.slice none 0 0) rfl
          have p1 := BZ.cell 1 (.slice none 0 0) rfl
          have p2 := BZ.cell 2 (.int .i64 0) rfl
          have p3 := BZ.cell 3 (.bool false) rfl
          have x0 := BZ.frozen 0
          have x1 := BZ.frozen 1
          have x2 := BZ.frozen 2
          have x3 := BZ.frozen 3
          have BF := box_four BZ rfl (.slice qa m1 qc) (.slice pa m2 pc) (.int .i64 fy) (.bool oy)
          have bF : Below wr.heap.size wr ((((W.setCell ⟨z, 0, none⟩ (.slice qa m1 qc)).setCell ⟨z, 1, none⟩ (.slice pa m2 pc)).setCell ⟨z, 2, none⟩ (.int .i64 fy)).setCell ⟨z, 3, none⟩ (.bool oy)) := (((bA.setCell (p := ⟨z, 0, none⟩) hzz (.slice qa m1 qc)).setCell (p := ⟨z, 1, none⟩) hzz (.slice pa m2 pc)).setCell (p := ⟨z, 2, none⟩) hzz (.int .i64 fy)).setCell (p := ⟨z, 3, none⟩) hzz (.bool oy)
          have rF := rA.keptL (kept_four (Kept.refl (fun x => x = z) W) (.inl rfl) (.slice qa m1 qc) (.slice pa m2 pc) (.int .i64 fy) (.bool oy)) (hav R3 rfl).1 (hav R3 rfl).2
          have hSf := HSF.out _ bF
          have hzl := BZ.lt
          refine stepL 18 ((((W.setCell ⟨z, 0, none⟩ (.slice qa m1 qc)).setCell ⟨z, 1, none⟩ (.slice pa m2 pc)).setCell ⟨z, 2, none⟩ (.int .i64 fy)).setCell ⟨z, 3, none⟩ (.bool oy)) rfl (by kernel_rfl) (by rfl) (by go_simp) hSf ?_
          try dsimp only [Act.put]
          try simp only [List.setIfInBounds_toArray, List.set_cons_zero, List.set_cons_succ]
          obtain ⟨Wf, hWf⟩ : ∃ Wf, Wf = ((((W.setCell ⟨z, 0, none⟩ (.slice qa m1 qc)).setCell ⟨z, 1, none⟩ (.slice pa m2 pc)).setCell ⟨z, 2, none⟩ (.int .i64 fy)).setCell ⟨z, 3, none⟩ (.bool oy)) := ⟨_, rfl⟩
          rw [← hWf] at BF bF rF hSf ⊢
          have HZ : Hid (Box Wf z 30 #[.slice qa m1 qc, .slice pa m2 pc, .int .i64 fy, .bool oy] ∧ Adn w Wf #[.slice sa n1 sc, .slice wa n2 wc, .int .i64 fz, .bool of] (jv f c T (.slice va vn vc) u) ∧ RefIs Wf (fun x => G x ∨ (w.heap.size ≤ x ∧ x < w.heap.size + 4)) R3 (s'.burnt).sure (s'.burnt).wait ∧ Rag w Wf G R' s s' (f + u) (blkLs turn u t) k (jv f c T (.slice va vn vc) u) g off va vn vc out ∧ wr.heap.size ≤ z) := ⟨BF, HAD.out.over bF, rF, HO.out.over bF, hzz⟩
          clear hWf BF bF rF BZ bA rA p0 p1 p2 p3 x0 x1 x2 x3 hav hQ HQE hS3 hS3A hzl hzz
          refine doneL (by kernel_rfl) ?_
          try dsimp only [Act.put]
          try simp only [List.setIfInBounds_toArray, List.set_cons_zero, List.set_cons_succ]
          unfold Oper.wp
          have e0 := HZ.out.1.cell 0 (.slice qa m1 qc) rfl
          have e1 := HZ.out.1.cell 1 (.slice pa m2 pc) rfl
          have e2 := HZ.out.1.cell 2 (.int .i64 fy) rfl
          have e3 := HZ.out.1.cell 3 (.bool oy) rfl
          have o0 := HZ.out.2.1.bd.cell 0 (.slice sa n1 sc) rfl
          have o1 := HZ.out.2.1.bd.cell 1 (.slice wa n2 wc) rfl
          have o2 := HZ.out.2.1.bd.cell 2 (.int .i64 fz) rfl
          have o3 := HZ.out.2.1.bd.cell 3 (.bool of) rfl
          have v0 := HZ.out.2.1.bd.frozen 0
          have v1 := HZ.out.2.1.bd.frozen 1
          have v2 := HZ.out.2.1.bd.frozen 2
          have v3 := HZ.out.2.1.bd.frozen 3
          have HND : Hid (Unit → Adn w _ #[.slice qa m1 qc, .slice pa m2 pc, .int .i64 fy, .bool oy] (jv f c T (.slice va vn vc) u) ∧ RefIs _ (fun x => G x ∨ (w.heap.size ≤ x ∧ x < w.heap.size + 4)) R3 (s'.burnt).sure (s'.burnt).wait ∧ Kept (fun x => x = w.heap.size) Wf _) := fun _ => ⟨HZ.out.2.1.dev rfl (.slice qa m1 qc) (.slice pa m2 pc) (.int .i64 fy) (.bool oy), HZ.out.2.2.1.kept (kept_four (Kept.refl (fun x => x = w.heap.size) Wf) (.inl rfl) (.slice qa m1 qc) (.slice pa m2 pc) (.int .i64 fy) (.bool oy)) (fun x hx e => hx (.inr (by omega))), kept_four (Kept.refl (fun x => x = w.heap.size) Wf) (.inl rfl) (.slice qa m1 qc) (.slice pa m2 pc) (.int .i64 fy) (.bool oy)⟩
          clear hHeld hHeldA hSf d0 d1 d2 d3 j0 j4
          go_simp
          go_wp2_with fail
          obtain ⟨n1, n2, n3⟩ := HND.out ()
          obtain ⟨Wg, hWg⟩ : ∃ Wg, Wg = ((((Wf.setCell ⟨w.heap.size, 0, none⟩ (.slice qa m1 qc)).setCell ⟨w.heap.size, 1, none⟩ (.slice pa m2 pc)).setCell ⟨w.heap.size, 2, none⟩ (.int .i64 fy)).setCell ⟨w.heap.size, 3, none⟩ (.bool oy)) := ⟨_, rfl⟩
          rw [← hWg] at n1 n2 n3 ⊢
          clear hWg e0 e1 e2 e3 o0 o1 o2 o3 v0 v1 v2 v3
          have d0 := n1.bd.cell 0 (.slice qa m1 qc) rfl
          have d1 := n1.bd.cell 1 (.slice pa m2 pc) rfl
          have d2 := n1.bd.cell 2 (.int .i64 fy) rfl
          have d3 := n1.bd.cell 3 (.bool oy) rfl
          have j0 : Wg.cell? ⟨w.heap.size + 1, 0, none⟩ = some (.int .i64 f) := n1.bj.cell 0 _ rfl
          have j1 : Wg.cell? ⟨w.heap.size + 1, 1, none⟩ = some (.int .i64 c) := n1.bj.cell 1 _ rfl
          have j2 : Wg.cell? ⟨w.heap.size + 1, 2, none⟩ = some (.int .i64 T) := n1.bj.cell 2 _ rfl
          have j3 : Wg.cell? ⟨w.heap.size + 1, 3, none⟩ = some (.slice va vn vc) := n1.bj.cell 3 _ rfl
          have j4 : Wg.cell? ⟨w.heap.size + 1, 4, none⟩ = some (.int .i64 u) := n1.bj.cell 4 _ rfl
          have p0 := n1.rd.cell 0 _ rfl
          have p1 := n1.rd.cell 1 _ rfl
          have p2 := n1.rd.cell 2 _ rfl
          have p3 := n1.rd.cell 3 _ rfl
          have q0 := n1.rj.cell 0 _ rfl
          have q1 := n1.rj.cell 1 _ rfl
          have q2 := n1.rj.cell 2 _ rfl
          have q3 := n1.rj.cell 3 _ rfl
          have q4 := n1.rj.cell 4 _ rfl
          have x0 := n1.rd.frozen 0
          have x1 := n1.rd.frozen 1
          have x2 := n1.rd.frozen 2
          have x3 := n1.rd.frozen 3
          have y0 := n1.rj.frozen 0
          have y1 := n1.rj.frozen 1
          have y2 := n1.rj.frozen 2
          have y3 := n1.rj.frozen 3
          have y4 := n1.rj.frozen 4
          have HF : Hid (Unit → Laid w _ #[.slice qa m1 qc, .slice pa m2 pc, .int .i64 fy, .bool oy] (jv f c T (.slice va vn vc) u) ∧ RefIs _ G R3 (s'.burnt).sure (s'.burnt).wait) := fun _ => ⟨adn_laid n1 (.slice qa m1 qc) (.slice pa m2 pc) (.int .i64 fy) (.bool oy) (.int .i64 f) (.int .i64 c) (.int .i64 T) (.slice va vn vc) (.int .i64 u), (n2.kept (kept_nine (z := w.heap.size + 1 + 1) (Kept.refl (fun x => w.heap.size ≤ x ∧ x < w.heap.size + 4) Wg) (.inl (by omega)) (.inl (by omega)) (.slice qa m1 qc) (.slice pa m2 pc) (.int .i64 fy) (.bool oy) (.int .i64 f) (.int .i64 c) (.int .i64 T) (.slice va vn vc) (.int .i64 u)) (fun x hx h => hx (.inr h))).grow (fun x _ hn h => hn (.inl h))⟩
          clear n1 n2 n3
          go_region
          all_goals
            go_wp2_with fail
            refine bodyPost_ret (res_two_slot Try.results20 _ _ rfl (HF.out ()).1.rd.drew Try.underlying30 rfl size_rd rfl (HF.out ()).1.rj.drew Try.underlying41 rfl size_jv _ rfl) rfl ⟨⟨R3, s'.burnt, 40, ?_, (HF.out ()).2.below (Below.refl _ _).drew, .inr ⟨rfl, ?_⟩⟩, (HF.out ()).1.bel.drew⟩
            · have hx := HG.out.2.2.2.2.2
              rw [← HO.out.put, List.drop_eq_getElem_cons (i := k) (l := blkLs turn u t) (by omega), pa_cons s', if_neg (by rw [HGO.out]; decide)]
            · rw [HQQ.out, ← HT.out]
              rfl
        · try dsimp only [Act.put]
          try simp only [List.setIfInBounds_toArray, List.set_cons_zero, List.set_cons_succ]
          have bB := HAL.out ()
          have BZ0 := box_new wr.drew #[.slice none 0 0, .slice none 0 0, .int .i64 0, .bool false] 30
          have rB : RefIs (wr.drew.alloc (.cells #[.slice none 0 0, .slice none 0 0, .int .i64 0, .bool false] 30)) (fun x => (G x ∨ (w.heap.size ≤ x ∧ x < w.heap.size + 4)) ∨ x = wr.heap.size) R' s'.sure s'.wait := (HO.out.ref.grow (fun x hx hn h => by
            rcases h with h | h
            · exact hn h
            · omega)).below bB
          refine callL 13 (f := 38) (vs := #[.agg #[.slice sa n1 sc, .slice wa n2 wc, .int .i64 fz, .bool of], .int .i64 ((f : Int) + (u : Int) + (k : Int)), .string B]) rfl (by kernel_rfl) (by rfl) (by go_simp) ?_
          refine Calls.mono (HPU.out _ _ bB (fun x hx => by
            rcases hx with hx | hx
            · have := HGG.out x hx
              simp
              omega
            · simp
              omega) rB) ?_
          rintro e w3 ⟨⟨R3, rfl, r3⟩, b3⟩
          have bA : Below wr.heap.size wr w3 := bB.trans (b3.mono bB.size)
          have hS3A := HSF.out w3 bA
          have hS3 := hS3A
          have BZ := BZ0.over b3
          have rA : RefIs w3 (fun x => G x ∨ (w.heap.size ≤ x ∧ x < w.heap.size + 4)) R3 (s'.burnt).sure (s'.burnt).wait := r3.grow (fun x _ hn h => hn (.inl h))
          have hzz : wr.heap.size ≤ wr.heap.size := Nat.le_refl _
          have hav : ∀ R0 : RH, R0 = R3 → (∀ x, (Value.slice R3.sa (s'.burnt).sure.length R3.sc).ownBlock = some x → x ≠ wr.heap.size) ∧ ∀ x, (Value.slice R3.wa (s'.burnt).wait.length R3.wc).ownBlock = some x → x ≠ wr.heap.size := fun _ _ => ⟨fun x hx e => r3.g1 x hx (.inr e), fun x hx e => r3.g2 x hx (.inr e)⟩
          have HQE : Hid (∃ qa m1 qc pa m2 pc fy oy, rda R3 (s'.burnt) = #[.slice qa m1 qc, .slice pa m2 pc, .int .i64 fy, .bool oy]) := ⟨_, _, _, _, _, _, _, _, rfl⟩
          obtain ⟨qa, m1, qc, pa, m2, pc, fy, oy, hQ⟩ := HQE.out
          have HQQ : Hid (rda R3 (s'.burnt) = #[.slice qa m1 qc, .slice pa m2 pc, .int .i64 fy, .bool oy]) := hQ
          rw [show rda R3 (s'.burnt, (40 : Int)).1 = #[.slice qa m1 qc, .slice pa m2 pc, .int .i64 fy, .bool oy] from hQ]
          refine ⟨_, rfl, hS3, ?_⟩
          try dsimp only [Act.put]
          try simp only [List.setIfInBounds_toArray, List.set_cons_zero, List.set_cons_succ]
          ((refine takeL 14 (v := ?_) rfl (by kernel_rfl) (by kernel_rfl) (by kernel_rfl) (fun _ _ _ h => h) (by rfl) hS3 ?_ ?_; rotate_left; focus (intro w hSw; (try dsimp only at hSw); go_simp <;> with_reducible rfl); (try simp only [Act.put, List.setIfInBounds_toArray, List.set_cons_zero, List.set_cons_succ])); (refine takeL 15 (v := ?_) rfl (by kernel_rfl) (by kernel_rfl) (by kernel_rfl) (fun _ _ _ h => h) (by rfl) hS3 ?_ ?_; rotate_left; focus (intro w hSw; (try dsimp only at hSw); go_simp <;> with_reducible rfl); (try simp only [Act.put, List.setIfInBounds_toArray, List.set_cons_zero, List.set_cons_succ])); (refine takeL 16 (v := ?_) rfl (by kernel_rfl) (by kernel_rfl) (by kernel_rfl) (fun _ _ _ h => h) (by rfl) hS3 ?_ ?_; rotate_left; focus (intro w hSw; (try dsimp only at hSw); go_simp <;> with_reducible rfl); (try simp only [Act.put, List.setIfInBounds_toArray, List.set_cons_zero, List.set_cons_succ])))
          dsimp only [Act.put]
          simp only [List.setIfInBounds_toArray, List.set_cons_zero, List.set_cons_succ]
          obtain ⟨z, hz⟩ : ∃ z, z = wr.heap.size := ⟨_, rfl⟩
          obtain ⟨W, hW⟩ : ∃ W, W = w3 := ⟨_, rfl⟩
          replace BZ : Box W z 30 #[.slice none 0 0, .slice none 0 0, .int .i64 0, .bool false] := by rw [hW, hz]; exact BZ
          replace hzz : wr.heap.size ≤ z := by omega
          rw [show ((some ⟨wr.heap.size, 0, none⟩) : Option Addr) = some ⟨z, 0, none⟩ by rw [hz]]
          rw [← hz] at hav
          rw [← hW] at bA rA hS3A ⊢
          clear hz hW
          have p0 := BZ.cell 0 (.slice none 0 0) rfl
          have p1 := BZ.cell 1 (.slice none 0 0) rfl
          have p2 := BZ.cell 2 (.int .i64 0) rfl
          have p3 := BZ.cell 3 (.bool false) rfl
          have x0 := BZ.frozen 0
          have x1 := BZ.frozen 1
          have x2 := BZ.frozen 2
          have x3 := BZ.frozen 3
          have BF := box_four BZ rfl (.slice qa m1 qc) (.slice pa m2 pc) (.int .i64 fy) (.bool oy)
          have bF : Below wr.heap.size wr ((((W.setCell ⟨z, 0, none⟩ (.slice qa m1 qc)).setCell ⟨z, 1, none⟩ (.slice pa m2 pc)).setCell ⟨z, 2, none⟩ (.int .i64 fy)).setCell ⟨z, 3, none⟩ (.bool oy)) := (((bA.setCell (p := ⟨z, 0, none⟩) hzz (.slice qa m1 qc)).setCell (p := ⟨z, 1, none⟩) hzz (.slice pa m2 pc)).setCell (p := ⟨z, 2, none⟩) hzz (.int .i64 fy)).setCell (p := ⟨z, 3, none⟩) hzz (.bool oy)
          have rF := rA.keptL (kept_four (Kept.refl (fun x => x = z) W) (.inl rfl) (.slice qa m1 qc) (.slice pa m2 pc) (.int .i64 fy) (.bool oy)) (hav R3 rfl).1 (hav R3 rfl).2
          have hSf := HSF.out _ bF
          have hzl := BZ.lt
          refine stepL 18 ((((W.setCell ⟨z, 0, none⟩ (.slice qa m1 qc)).setCell ⟨z, 1, none⟩ (.slice pa m2 pc)).setCell ⟨z, 2, none⟩ (.int .i64 fy)).setCell ⟨z, 3, none⟩ (.bool oy)) rfl (by kernel_rfl) (by rfl) (by go_simp) hSf ?_
          try dsimp only [Act.put]
          try simp only [List.setIfInBounds_toArray, List.set_cons_zero, List.set_cons_succ]
          obtain ⟨Wf, hWf⟩ : ∃ Wf, Wf = ((((W.setCell ⟨z, 0, none⟩ (.slice qa m1 qc)).setCell ⟨z, 1, none⟩ (.slice pa m2 pc)).setCell ⟨z, 2, none⟩ (.int .i64 fy)).setCell ⟨z, 3, none⟩ (.bool oy)) := ⟨_, rfl⟩
          rw [← hWf] at BF bF rF hSf ⊢
          have HZ : Hid (Box Wf z 30 #[.slice qa m1 qc, .slice pa m2 pc, .int .i64 fy, .bool oy] ∧ Adn w Wf #[.slice sa n1 sc, .slice wa n2 wc, .int .i64 fz, .bool of] (jv f c T (.slice va vn vc) u) ∧ RefIs Wf (fun x => G x ∨ (w.heap.size ≤ x ∧ x < w.heap.size + 4)) R3 (s'.burnt).sure (s'.burnt).wait ∧ Rag w Wf G R' s s' (f + u) (blkLs turn u t) k (jv f c T (.slice va vn vc) u) g off va vn vc out ∧ wr.heap.size ≤ z) := ⟨BF, HAD.out.over bF, rF, HO.out.over bF, hzz⟩
          clear hWf BF bF rF BZ bA rA p0 p1 p2 p3 x0 x1 x2 x3 hav hQ HQE hS3 hS3A hzl hzz
          refine doneL (by kernel_rfl) ?_
          try dsimp only [Act.put]
          try simp only [List.setIfInBounds_toArray, List.set_cons_zero, List.set_cons_succ]
          unfold Oper.wp
          have e0 := HZ.out.1.cell 0 (.slice qa m1 qc) rfl
          have e1 := HZ.out.1.cell 1 (.slice pa m2 pc) rfl
          have e2 := HZ.out.1.cell 2 (.int .i64 fy) rfl
          have e3 := HZ.out.1.cell 3 (.bool oy) rfl
          have o0 := HZ.out.2.1.bd.cell 0 (.slice sa n1 sc) rfl
          have o1 := HZ.out.2.1.bd.cell 1 (.slice wa n2 wc) rfl
          have o2 := HZ.out.2.1.bd.cell 2 (.int .i64 fz) rfl
          have o3 := HZ.out.2.1.bd.cell 3 (.bool of) rfl
          have v0 := HZ.out.2.1.bd.frozen 0
          have v1 := HZ.out.2.1.bd.frozen 1
          have v2 := HZ.out.2.1.bd.frozen 2
          have v3 := HZ.out.2.1.bd.frozen 3
          have HND : Hid (Unit → Adn w _ #[.slice qa m1 qc, .slice pa m2 pc, .int .i64 fy, .bool oy] (jv f c T (.slice va vn vc) u) ∧ RefIs _ (fun x => G x ∨ (w.heap.size ≤ x ∧ x < w.heap.size + 4)) R3 (s'.burnt).sure (s'.burnt).wait ∧ Kept (fun x => x = w.heap.size) Wf _) := fun _ => ⟨HZ.out.2.1.dev rfl (.slice qa m1 qc) (.slice pa m2 pc) (.int .i64 fy) (.bool oy), HZ.out.2.2.1.kept (kept_four (Kept.refl (fun x => x = w.heap.size) Wf) (.inl rfl) (.slice qa m1 qc) (.slice pa m2 pc) (.int .i64 fy) (.bool oy)) (fun x hx e => hx (.inr (by omega))), kept_four (Kept.refl (fun x => x = w.heap.size) Wf) (.inl rfl) (.slice qa m1 qc) (.slice pa m2 pc) (.int .i64 fy) (.bool oy)⟩
          clear hHeld hHeldA hSf d0 d1 d2 d3 j0 j4
          go_simp
          go_wp2_with fail
          obtain ⟨n1, n2, n3⟩ := HND.out ()
          obtain ⟨Wg, hWg⟩ : ∃ Wg, Wg = ((((Wf.setCell ⟨w.heap.size, 0, none⟩ (.slice qa m1 qc)).setCell ⟨w.heap.size, 1, none⟩ (.slice pa m2 pc)).setCell ⟨w.heap.size, 2, none⟩ (.int .i64 fy)).setCell ⟨w.heap.size, 3, none⟩ (.bool oy)) := ⟨_, rfl⟩
          rw [← hWg] at n1 n2 n3 ⊢
          clear hWg e0 e1 e2 e3 o0 o1 o2 o3 v0 v1 v2 v3
          have d0 := n1.bd.cell 0 (.slice qa m1 qc) rfl
          have d1 := n1.bd.cell 1 (.slice pa m2 pc) rfl
          have d2 := n1.bd.cell 2 (.int .i64 fy) rfl
          have d3 := n1.bd.cell 3 (.bool oy) rfl
          have j0 : Wg.cell? ⟨w.heap.size + 1, 0, none⟩ = some (.int .i64 f) := n1.bj.cell 0 _ rfl
          have j1 : Wg.cell? ⟨w.heap.size + 1, 1, none⟩ = some (.int .i64 c) := n1.bj.cell 1 _ rfl
          have j2 : Wg.cell? ⟨w.heap.size + 1, 2, none⟩ = some (.int .i64 T) := n1.bj.cell 2 _ rfl
          have j3 : Wg.cell? ⟨w.heap.size + 1, 3, none⟩ = some (.slice va vn vc) := n1.bj.cell 3 _ rfl
          have j4 : Wg.cell? ⟨w.heap.size + 1, 4, none⟩ = some (.int .i64 u) := n1.bj.cell 4 _ rfl
          have p0 := n1.rd.cell 0 _ rfl
          have p1 := n1.rd.cell 1 _ rfl
          have p2 := n1.rd.cell 2 _ rfl
          have p3 := n1.rd.cell 3 _ rfl
          have q0 := n1.rj.cell 0 _ rfl
          have q1 := n1.rj.cell 1 _ rfl
          have q2 := n1.rj.cell 2 _ rfl
          have q3 := n1.rj.cell 3 _ rfl
          have q4 := n1.rj.cell 4 _ rfl
          have x0 := n1.rd.frozen 0
          have x1 := n1.rd.frozen 1
          have x2 := n1.rd.frozen 2
          have x3 := n1.rd.frozen 3
          have y0 := n1.rj.frozen 0
          have y1 := n1.rj.frozen 1
          have y2 := n1.rj.frozen 2
          have y3 := n1.rj.frozen 3
          have y4 := n1.rj.frozen 4
          have HF : Hid (Unit → Laid w _ #[.slice qa m1 qc, .slice pa m2 pc, .int .i64 fy, .bool oy] (jv f c T (.slice va vn vc) u) ∧ RefIs _ G R3 (s'.burnt).sure (s'.burnt).wait) := fun _ => ⟨adn_laid n1 (.slice qa m1 qc) (.slice pa m2 pc) (.int .i64 fy) (.bool oy) (.int .i64 f) (.int .i64 c) (.int .i64 T) (.slice va vn vc) (.int .i64 u), (n2.kept (kept_nine (z := w.heap.size + 1 + 1) (Kept.refl (fun x => w.heap.size ≤ x ∧ x < w.heap.size + 4) Wg) (.inl (by omega)) (.inl (by omega)) (.slice qa m1 qc) (.slice pa m2 pc) (.int .i64 fy) (.bool oy) (.int .i64 f) (.int .i64 c) (.int .i64 T) (.slice va vn vc) (.int .i64 u)) (fun x hx h => hx (.inr h))).grow (fun x _ hn h => hn (.inl h))⟩
          clear n1 n2 n3
          go_region
          all_goals
            go_wp2_with fail
            refine bodyPost_ret (res_two_slot Try.results20 _ _ rfl (HF.out ()).1.rd.drew Try.underlying30 rfl size_rd rfl (HF.out ()).1.rj.drew Try.underlying41 rfl size_jv _ rfl) rfl ⟨⟨R3, s'.burnt, 40, ?_, (HF.out ()).2.below (Below.refl _ _).drew, .inr ⟨rfl, ?_⟩⟩, (HF.out ()).1.bel.drew⟩
            · have hx := HG.out.2.2.2.2.2
              rw [← HO.out.put, List.drop_eq_getElem_cons (i := k) (l := blkLs turn u t) (by omega), pa_cons s', if_neg (by rw [HGO.out]; decide)]
            · rw [HQQ.out, ← HT.out]
              rfl
    · have hkI : ¬ (k : Int) < N := by omega
      have hk5 : k = N := by omega
      subst hk5
      have hGG : ∀ x, (G x ∨ (w.heap.size ≤ x ∧ x < w.heap.size + 4)) → x < wr.heap.size := fun x hx => by
        have := HAD.out.size
        rcases hx with hx | hx
        · have := HG.out.1 x hx
          have := HAD.out.bel.size
          omega
        · omega
      have cs := rsync_ok HO.out.ref hGG HO.out.ok
      rw [HV2.out] at cs
      have hput := HO.out.put
      rw [List.drop_of_length_le (by have := HG.out.2.2.2.2.2; omega), pa_nil] at hput
      cases hg : s'.goes with
      | true =>
        rw [hg] at cs hput
        simp only [if_true] at cs hput
        have HPP : Hid (putAll s (f + u) (blkLs turn u t) = (s'.synced, 0)) := hput.symm
        clear hput hg hGG
        go_wp2_with fail
        refine Calls.mono cs ?_
        rintro e w3 ⟨⟨R3, rfl, r3⟩, b3⟩
        have HQE : Hid (∃ qa m1 qc pa m2 pc fy oy, rda R3 s'.synced = #[.slice qa m1 qc, .slice pa m2 pc, .int .i64 fy, .bool oy]) := ⟨_, _, _, _, _, _, _, _, rfl⟩
        obtain ⟨qa, m1, qc, pa, m2, pc, fy, oy, hQ⟩ := HQE.out
        have HQQ : Hid (rda R3 s'.synced = #[.slice qa m1 qc, .slice pa m2 pc, .int .i64 fy, .bool oy]) := hQ
        rw [show rda R3 (s'.synced, (0 : Int)).1 = #[.slice qa m1 qc, .slice pa m2 pc, .int .i64 fy, .bool oy] from hQ]
        have A3 := HAD.out.over b3
        have o0 := A3.bd.cell 0 (.slice sa n1 sc) rfl
        have o1 := A3.bd.cell 1 (.slice wa n2 wc) rfl
        have o2 := A3.bd.cell 2 (.int .i64 fz) rfl
        have o3 := A3.bd.cell 3 (.bool of) rfl
        have v0 := A3.bd.frozen 0
        have v1 := A3.bd.frozen 1
        have v2 := A3.bd.frozen 2
        have v3 := A3.bd.frozen 3
        have HND : Hid (Unit → Adn w _ #[.slice qa m1 qc, .slice pa m2 pc, .int .i64 fy, .bool oy] (jv f c T (.slice va vn vc) u) ∧ RefIs _ (fun x => G x ∨ (w.heap.size ≤ x ∧ x < w.heap.size + 4)) R3 s'.synced.sure s'.synced.wait ∧ Rag w w3 G R' s s' (f + u) (blkLs turn u t) k (jv f c T (.slice va vn vc) u) g off va vn vc out ∧ Kept (fun x => x = w.heap.size) w3 _) := fun _ => ⟨A3.dev rfl (.slice qa m1 qc) (.slice pa m2 pc) (.int .i64 fy) (.bool oy), r3.kept (kept_four (Kept.refl (fun x => x = w.heap.size) w3) (.inl rfl) (.slice qa m1 qc) (.slice pa m2 pc) (.int .i64 fy) (.bool oy)) (fun x hx e => hx (.inr (by omega))), HO.out.over b3, kept_four (Kept.refl (fun x => x = w.heap.size) w3) (.inl rfl) (.slice qa m1 qc) (.slice pa m2 pc) (.int .i64 fy) (.bool oy)⟩
        have i3 : w3.cell? ⟨w.heap.size + 1, 3, none⟩ = some (.slice va vn vc) := A3.bj.cell 3 _ rfl
        have hSL : SRows ((((w3.setCell ⟨w.heap.size, 0, none⟩ (.slice qa m1 qc)).setCell ⟨w.heap.size, 1, none⟩ (.slice pa m2 pc)).setCell ⟨w.heap.size, 2, none⟩ (.int .i64 fy)).setCell ⟨w.heap.size, 3, none⟩ (.bool oy)) (.slice va vn vc) 9 1 (out.map s1) := (HO.out.over b3).list.kept (kept_four (Kept.refl (fun x => x = w.heap.size) w3) (.inl rfl) (.slice qa m1 qc) (.slice pa m2 pc) (.int .i64 fy) (.bool oy)) (fun x hx e => by have := HO.out.low x hx; omega)
        obtain ⟨i0, hi0, hz0, hz1, hz2⟩ := info_parts info_str
        have hwA : w.heap.size + 4 ≤ w3.heap.size := A3.size
        have rwk : IntKind.i64.wrap ((u : Int) + (k : Int)) = (u : Int) + (k : Int) := by rw [IntKind.wrap_i64]; omega
        have HLT : Hid ((∀ x, (Value.slice R3.sa s'.synced.sure.length R3.sc).ownBlock = some x → x < w3.heap.size) ∧ ∀ x, (Value.slice R3.wa s'.synced.wait.length R3.wc).ownBlock = some x → x < w3.heap.size) := ⟨fun x hx => r3.sure.lt hx, fun x hx => r3.wait.lt hx⟩
        clear A3 r3 b3 cs hQ HQE d0 d1 d2 d3 j0 j4
        go_wp2_with (at_builtin; refine append_rows rfl (.tmp 78) (.tmp 80) 27 9 i0 _ 1 16 rfl Try.underlying27 hi0 hz0 hz1 hz2 rfl (by decide) (by decide) rfl rfl (srows_nil _ _ _) hSL (noOwn w3.heap.size) ?hB (s1_one out) vn ?hm (out.map s1) rfl ?hl ?_; (case hB => simp); (case hm => have := HG.out.2.2.2.2.1; simp; omega); (case hl => have := HG.out.2.2.2.2.1; have := HG.out.2.2.2.1; omega); intro va4 vc4 w4 h1 h2 h3)
        have n := HND.out ()
        have b4 : Below ((((w3.setCell ⟨w.heap.size, 0, none⟩ (.slice qa m1 qc)).setCell ⟨w.heap.size, 1, none⟩ (.slice pa m2 pc)).setCell ⟨w.heap.size, 2, none⟩ (.int .i64 fy)).setCell ⟨w.heap.size, 3, none⟩ (.bool oy)).heap.size ((((w3.setCell ⟨w.heap.size, 0, none⟩ (.slice qa m1 qc)).setCell ⟨w.heap.size, 1, none⟩ (.slice pa m2 pc)).setCell ⟨w.heap.size, 2, none⟩ (.int .i64 fy)).setCell ⟨w.heap.size, 3, none⟩ (.bool oy)) w4 := h3.mono (by simp)
        have A4 := n.1.over b4
        have HX4 : Hid (Adn w w4 #[.slice qa m1 qc, .slice pa m2 pc, .int .i64 fy, .bool oy] (jv f c T (.slice va vn vc) u) ∧ RefIs w4 (fun x => G x ∨ (w.heap.size ≤ x ∧ x < w.heap.size + 4)) R3 s'.synced.sure s'.synced.wait ∧ w3.heap.size ≤ w4.heap.size ∧ w.heap.size + 4 ≤ w3.heap.size) := ⟨A4, n.2.1.below b4, by have := b4.size; simpa using this, hwA⟩
        have HL4 : Hid (SRows w4 (.slice va4 vn vc4) 9 1 (out.map s1) ∧ ∀ x, (Value.slice va4 vn vc4).ownBlock = some x → w3.heap.size ≤ x) := ⟨h1, h2⟩
        clear h1 h2 h3 n b4 A4 hSL o0 o1 o2 o3 v0 v1 v2 v3 i3
        refine wp_region_held_then (fun w' : World => w'.cell? ⟨w.heap.size, 0, none⟩ = some (.slice qa m1 qc) ∧ w'.cell? ⟨w.heap.size, 1, none⟩ = some (.slice pa m2 pc) ∧ w'.cell? ⟨w.heap.size, 2, none⟩ = some (.int .i64 fy) ∧ w'.cell? ⟨w.heap.size, 3, none⟩ = some (.bool oy) ∧ w'.cell? ⟨w.heap.size + 1, 0, none⟩ = some (.int .i64 f) ∧ w'.cell? ⟨w.heap.size + 1, 1, none⟩ = some (.int .i64 c) ∧ w'.cell? ⟨w.heap.size + 1, 2, none⟩ = some (.int .i64 T) ∧ w'.cell? ⟨w.heap.size + 1, 4, none⟩ = some (.int .i64 u)) _ (by kernel_rfl) rfl (by kernel_rfl) ?_
        have HS9 : Hid (∀ W, Adn w W #[.slice qa m1 qc, .slice pa m2 pc, .int .i64 fy, .bool oy] (jv f c T (.slice va vn vc) u) → (fun w' : World => w'.cell? ⟨w.heap.size, 0, none⟩ = some (.slice qa m1 qc) ∧ w'.cell? ⟨w.heap.size, 1, none⟩ = some (.slice pa m2 pc) ∧ w'.cell? ⟨w.heap.size, 2, none⟩ = some (.int .i64 fy) ∧ w'.cell? ⟨w.heap.size, 3, none⟩ = some (.bool oy) ∧ w'.cell? ⟨w.heap.size + 1, 0, none⟩ = some (.int .i64 f) ∧ w'.cell? ⟨w.heap.size + 1, 1, none⟩ = some (.int .i64 c) ∧ w'.cell? ⟨w.heap.size + 1, 2, none⟩ = some (.int .i64 T) ∧ w'.cell? ⟨w.heap.size + 1, 4, none⟩ = some (.int .i64 u)) W) := fun W a => ⟨a.bd.cell 0 _ rfl, a.bd.cell 1 _ rfl, a.bd.cell 2 _ rfl, a.bd.cell 3 _ rfl, a.bj.cell 0 _ rfl, a.bj.cell 1 _ rfl, a.bj.cell 2 _ rfl, a.bj.cell 4 _ rfl⟩
        have hHeld := HS9.out w4.drew (HX4.out.1.over (Below.refl _ w4).drew)
        have hHeld2 := HS9.out (w4.drew.alloc (.cells #[.string S] 9)) (HX4.out.1.over ((Below.refl _ w4).drew.alloc (Nat.le_refl _) _))
        dsimp only [List.dropLast, List.length, List.getLast]
        ((refine takeL 0 (v := ?_) rfl (by kernel_rfl) (by kernel_rfl) (by kernel_rfl) (fun _ _ _ h => h) (by rfl) hHeld ?_ ?_; rotate_left; focus (intro w hSw; (try dsimp only at hSw); go_simp <;> with_reducible rfl); (try simp only [Act.put, List.setIfInBounds_toArray, List.set_cons_zero, List.set_cons_succ])); (refine takeL 1 (v := ?_) rfl (by kernel_rfl) (by kernel_rfl) (by kernel_rfl) (fun _ _ _ h => h) (by rfl) hHeld ?_ ?_; rotate_left; focus (intro w hSw; (try dsimp only at hSw); go_simp <;> with_reducible rfl); (try simp only [Act.put, List.setIfInBounds_toArray, List.set_cons_zero, List.set_cons_succ])); (refine takeL 2 (v := ?_) rfl (by kernel_rfl) (by kernel_rfl) (by kernel_rfl) (fun _ _ _ h => h) (by rfl) hHeld ?_ ?_; rotate_left; focus (intro w hSw; (try dsimp only at hSw); go_simp <;> with_reducible rfl); (try simp only [Act.put, List.setIfInBounds_toArray, List.set_cons_zero, List.set_cons_succ])); (refine takeL 3 (v := ?_) rfl (by kernel_rfl) (by kernel_rfl) (by kernel_rfl) (fun _ _ _ h => h) (by rfl) hHeld ?_ ?_; rotate_left; focus (intro w hSw; (try dsimp only at hSw); go_simp <;> with_reducible rfl); (try simp only [Act.put, List.setIfInBounds_toArray, List.set_cons_zero, List.set_cons_succ])); (refine takeL 4 (v := ?_) rfl (by kernel_rfl) (by kernel_rfl) (by kernel_rfl) (fun _ _ _ h => h) (by rfl) hHeld ?_ ?_; rotate_left; focus (intro w hSw; (try dsimp only at hSw); go_simp <;> with_reducible rfl); (try simp only [Act.put, List.setIfInBounds_toArray, List.set_cons_zero, List.set_cons_succ])))
        dsimp only [Act.put]
        simp only [List.setIfInBounds_toArray, List.set_cons_zero, List.set_cons_succ]
        ((refine takeL 5 (v := ?_) rfl (by kernel_rfl) (by kernel_rfl) (by kernel_rfl) (fun _ _ _ h => h) (by rfl) hHeld ?_ ?_; rotate_left; focus (intro w hSw; (try dsimp only at hSw); go_simp <;> with_reducible rfl); (try simp only [Act.put, List.setIfInBounds_toArray, List.set_cons_zero, List.set_cons_succ])); (refine takeL 6 (v := ?_) rfl (by kernel_rfl) (by kernel_rfl) (by kernel_rfl) (fun _ _ _ h => h) (by rfl) hHeld ?_ ?_; rotate_left; focus (intro w hSw; (try dsimp only at hSw); go_simp <;> with_reducible rfl); (try simp only [Act.put, List.setIfInBounds_toArray, List.set_cons_zero, List.set_cons_succ])); (refine takeL 9 (v := ?_) rfl (by kernel_rfl) (by kernel_rfl) (by kernel_rfl) (fun _ _ _ h => h) (by rfl) hHeld ?_ ?_; rotate_left; focus (intro w hSw; (try dsimp only at hSw); go_simp <;> with_reducible rfl); (try simp only [Act.put, List.setIfInBounds_toArray, List.set_cons_zero, List.set_cons_succ])); (refine takeL 10 (v := ?_) rfl (by kernel_rfl) (by kernel_rfl) (by kernel_rfl) (fun _ _ _ h => h) (by rfl) hHeld ?_ ?_; rotate_left; focus (intro w hSw; (try dsimp only at hSw); go_simp <;> with_reducible rfl); (try simp only [Act.put, List.setIfInBounds_toArray, List.set_cons_zero, List.set_cons_succ])))
        dsimp only [Act.put]
        simp only [List.setIfInBounds_toArray, List.set_cons_zero, List.set_cons_succ]
        ((refine takeL 11 (v := ?_) rfl (by kernel_rfl) (by kernel_rfl) (by kernel_rfl) (fun _ _ _ h => h) (by rfl) hHeld ?_ ?_; rotate_left; focus (intro w hSw; (try dsimp only at hSw); go_simp <;> with_reducible rfl); (try simp only [Act.put, List.setIfInBounds_toArray, List.set_cons_zero, List.set_cons_succ])); (refine takeL 12 (v := ?_) rfl (by kernel_rfl) (by kernel_rfl) (by kernel_rfl) (fun _ _ _ h => h) (by rfl) hHeld ?_ ?_; rotate_left; focus (intro w hSw; (try dsimp only at hSw); go_simp <;> with_reducible rfl); (try simp only [Act.put, List.setIfInBounds_toArray, List.set_cons_zero, List.set_cons_succ])))
        dsimp only [Act.put]
        simp only [List.setIfInBounds_toArray, List.set_cons_zero, List.set_cons_succ]
        refine newL 7 (w4.drew.alloc (.cells #[.string S] 9)) (.slice (some ⟨w4.heap.size, 0, none⟩) 1 1) rfl (by kernel_rfl) (by rfl) (by go_simp) hHeld2 ?_
        try dsimp only [Act.put]
        try simp only [List.setIfInBounds_toArray, List.set_cons_zero, List.set_cons_succ]
        have hB9 : Below w3.heap.size w4 (w4.drew.alloc (.cells #[.string S] 9)) := ((Below.refl w4.heap.size w4).drew.alloc (Nat.le_refl _) _).mono HX4.out.2.2.1
        refine appendB 8 rfl (by kernel_rfl) (by rfl) (.tmp 87) (.tmp 89) 27 9 i0 _ 1 16 rfl Try.underlying27 hi0 hz0 hz1 hz2 rfl (by decide) (by decide) (B := w3.heap.size) rfl rfl (HL4.out.1.over ((Below.refl _ w4).drew.alloc (Nat.le_refl _) _)) (srows_new w4.drew [.string S] 9 (sz := 1) rfl) rfl HL4.out.2 (by have := HX4.out.2.2.1; simp; omega) (by intro r hr c hc; simp at hr; subst hr; simp at hc; subst hc; rfl) (vn + 1) (by have := HG.out.2.2.2.2.1; simp; omega) ((out ++ [t]).map s1) (by rw [HS.out]; simp [s1]) (by have := HG.out.2.2.2.2.1; have := HG.out.2.2.2.1; omega) (fun W hW => HS9.out W (HX4.out.1.low4 (hB9.trans hW) HX4.out.2.2.2)) ?_
        intro va5 vc5 w6 l1 l2 l3
        have b46 := hB9.trans l3
        have A6 := HX4.out.1.low4 b46 HX4.out.2.2.2
        have hS6 := HS9.out w6 A6
        try dsimp only [Act.put]
        try simp only [List.setIfInBounds_toArray, List.set_cons_zero, List.set_cons_succ]
        ((refine takeL 13 (v := ?_) rfl (by kernel_rfl) (by kernel_rfl) (by kernel_rfl) (fun _ _ _ h => h) (by rfl) hS6 ?_ ?_; rotate_left; focus (intro w hSw; (try dsimp only at hSw); go_simp <;> with_reducible rfl); (try simp only [Act.put, List.setIfInBounds_toArray, List.set_cons_zero, List.set_cons_succ])))
        dsimp only [Act.put]
        simp only [List.setIfInBounds_toArray, List.set_cons_zero, List.set_cons_succ]
        have p0 := A6.rd.cell 0 _ rfl
        have p1 := A6.rd.cell 1 _ rfl
        have p2 := A6.rd.cell 2 _ rfl
        have p3 := A6.rd.cell 3 _ rfl
        have q0 := A6.rj.cell 0 _ rfl
        have q1 := A6.rj.cell 1 _ rfl
        have q2 := A6.rj.cell 2 _ rfl
        have q3 := A6.rj.cell 3 _ rfl
        have q4 := A6.rj.cell 4 _ rfl
        have x0 := A6.rd.frozen 0
        have x1 := A6.rd.frozen 1
        have x2 := A6.rd.frozen 2
        have x3 := A6.rd.frozen 3
        have y0 := A6.rj.frozen 0
        have y1 := A6.rj.frozen 1
        have y2 := A6.rj.frozen 2
        have y3 := A6.rj.frozen 3
        have y4 := A6.rj.frozen 4
        have bd7 := other_four A6.bd (z := w.heap.size + 1 + 1) (by omega) (.slice qa m1 qc) (.slice pa m2 pc) (.int .i64 fy) (.bool oy)
        have bj7 := other_four A6.bj (z := w.heap.size + 1 + 1) (by omega) (.slice qa m1 qc) (.slice pa m2 pc) (.int .i64 fy) (.bool oy)
        have bd8 := other_five bd7 (z := w.heap.size + 1 + 1 + 1) (by omega) (.int .i64 f) (.int .i64 c) (.int .i64 T) (.slice va5 (vn + 1) vc5) (.int .i64 ((u : Int) + (k : Int)))
        have bj8 := other_five bj7 (z := w.heap.size + 1 + 1 + 1) (by omega) (.int .i64 f) (.int .i64 c) (.int .i64 T) (.slice va5 (vn + 1) vc5) (.int .i64 ((u : Int) + (k : Int)))
        have hS7 : (fun w' : World => w'.cell? ⟨w.heap.size, 0, none⟩ = some (.slice qa m1 qc) ∧ w'.cell? ⟨w.heap.size, 1, none⟩ = some (.slice pa m2 pc) ∧ w'.cell? ⟨w.heap.size, 2, none⟩ = some (.int .i64 fy) ∧ w'.cell? ⟨w.heap.size, 3, none⟩ = some (.bool oy) ∧ w'.cell? ⟨w.heap.size + 1, 0, none⟩ = some (.int .i64 f) ∧ w'.cell? ⟨w.heap.size + 1, 1, none⟩ = some (.int .i64 c) ∧ w'.cell? ⟨w.heap.size + 1, 2, none⟩ = some (.int .i64 T) ∧ w'.cell? ⟨w.heap.size + 1, 4, none⟩ = some (.int .i64 u)) ((((w6.setCell ⟨w.heap.size + 1 + 1, 0, none⟩ (.slice qa m1 qc)).setCell ⟨w.heap.size + 1 + 1, 1, none⟩ (.slice pa m2 pc)).setCell ⟨w.heap.size + 1 + 1, 2, none⟩ (.int .i64 fy)).setCell ⟨w.heap.size + 1 + 1, 3, none⟩ (.bool oy)) := ⟨bd7.cell 0 _ rfl, bd7.cell 1 _ rfl, bd7.cell 2 _ rfl, bd7.cell 3 _ rfl, bj7.cell 0 _ rfl, bj7.cell 1 _ rfl, bj7.cell 2 _ rfl, bj7.cell 4 _ rfl⟩
        have hS8 : (fun w' : World => w'.cell? ⟨w.heap.size, 0, none⟩ = some (.slice qa m1 qc) ∧ w'.cell? ⟨w.heap.size, 1, none⟩ = some (.slice pa m2 pc) ∧ w'.cell? ⟨w.heap.size, 2, none⟩ = some (.int .i64 fy) ∧ w'.cell? ⟨w.heap.size, 3, none⟩ = some (.bool oy) ∧ w'.cell? ⟨w.heap.size + 1, 0, none⟩ = some (.int .i64 f) ∧ w'.cell? ⟨w.heap.size + 1, 1, none⟩ = some (.int .i64 c) ∧ w'.cell? ⟨w.heap.size + 1, 2, none⟩ = some (.int .i64 T) ∧ w'.cell? ⟨w.heap.size + 1, 4, none⟩ = some (.int .i64 u)) (World.nine w6 (w.heap.size + 1 + 1) (.slice qa m1 qc) (.slice pa m2 pc) (.int .i64 fy) (.bool oy) (.int .i64 f) (.int .i64 c) (.int .i64 T) (.slice va5 (vn + 1) vc5) (.int .i64 ((u : Int) + (k : Int)))) := ⟨bd8.cell 0 _ rfl, bd8.cell 1 _ rfl, bd8.cell 2 _ rfl, bd8.cell 3 _ rfl, bj8.cell 0 _ rfl, bj8.cell 1 _ rfl, bj8.cell 2 _ rfl, bj8.cell 4 _ rfl⟩
        have k9 := kept_nine (z := w.heap.size + 1 + 1) (Kept.refl (fun x => w.heap.size ≤ x ∧ x < w.heap.size + 4) w6) (.inl (by omega)) (.inl (by omega)) (.slice qa m1 qc) (.slice pa m2 pc) (.int .i64 fy) (.bool oy) (.int .i64 f) (.int .i64 c) (.int .i64 T) (.slice va5 (vn + 1) vc5) (.int .i64 ((u : Int) + (k : Int)))
        have r6 := HX4.out.2.1.keptL (F := fun x => w3.heap.size ≤ x) ⟨b46.os, b46.tape, b46.output, b46.size, fun x _ hx => b46.block x (by omega)⟩ (fun x hx h => by have := HLT.out.1 x hx; omega) (fun x hx h => by have := HLT.out.2 x hx; omega)
        have HF : Hid (Unit → Laid w (World.nine w6 (w.heap.size + 1 + 1) (.slice qa m1 qc) (.slice pa m2 pc) (.int .i64 fy) (.bool oy) (.int .i64 f) (.int .i64 c) (.int .i64 T) (.slice va5 (vn + 1) vc5) (.int .i64 ((u : Int) + (k : Int)))) #[.slice qa m1 qc, .slice pa m2 pc, .int .i64 fy, .bool oy] #[.int .i64 f, .int .i64 c, .int .i64 T, .slice va5 (vn + 1) vc5, .int .i64 ((u : Int) + (k : Int))] ∧ RefIs (World.nine w6 (w.heap.size + 1 + 1) (.slice qa m1 qc) (.slice pa m2 pc) (.int .i64 fy) (.bool oy) (.int .i64 f) (.int .i64 c) (.int .i64 T) (.slice va5 (vn + 1) vc5) (.int .i64 ((u : Int) + (k : Int)))) G R3 s'.synced.sure s'.synced.wait ∧ SRows (World.nine w6 (w.heap.size + 1 + 1) (.slice qa m1 qc) (.slice pa m2 pc) (.int .i64 fy) (.bool oy) (.int .i64 f) (.int .i64 c) (.int .i64 T) (.slice va5 (vn + 1) vc5) (.int .i64 ((u : Int) + (k : Int)))) (.slice va5 (vn + 1) vc5) 9 1 ((out ++ [t]).map s1) ∧ ∀ x, (Value.slice va5 (vn + 1) vc5).ownBlock = some x → w.heap.size ≤ x) := fun _ => ⟨adn_laid A6 (.slice qa m1 qc) (.slice pa m2 pc) (.int .i64 fy) (.bool oy) (.int .i64 f) (.int .i64 c) (.int .i64 T) (.slice va5 (vn + 1) vc5) (.int .i64 ((u : Int) + (k : Int))), (r6.kept k9 (fun x hx h => hx (.inr h))).grow (fun x _ hn h => hn (.inl h)), l1.kept k9 (fun x hx h => by have := l2 x hx; have := HX4.out.2.2.2; omega), fun x hx => by have := l2 x hx; have := HX4.out.2.2.2; omega⟩
        clear bd7 bj7 bd8 bj8 k9 r6 A6 l1 l2 l3 b46 hB9
        refine stepL 14 ((((w6.setCell ⟨w.heap.size + 1 + 1, 0, none⟩ (.slice qa m1 qc)).setCell ⟨w.heap.size + 1 + 1, 1, none⟩ (.slice pa m2 pc)).setCell ⟨w.heap.size + 1 + 1, 2, none⟩ (.int .i64 fy)).setCell ⟨w.heap.size + 1 + 1, 3, none⟩ (.bool oy)) rfl (by kernel_rfl) (by rfl) (by go_simp) hS7 ?_
        try dsimp only [Act.put]
        try simp only [List.setIfInBounds_toArray, List.set_cons_zero, List.set_cons_succ]
        refine stepL 15 (World.nine w6 (w.heap.size + 1 + 1) (.slice qa m1 qc) (.slice pa m2 pc) (.int .i64 fy) (.bool oy) (.int .i64 f) (.int .i64 c) (.int .i64 T) (.slice va5 (vn + 1) vc5) (.int .i64 ((u : Int) + (k : Int)))) rfl (by kernel_rfl) (by rfl) (by go_simp) hS8 ?_
        try dsimp only [Act.put]
        try simp only [List.setIfInBounds_toArray, List.set_cons_zero, List.set_cons_succ]
        refine doneL (by kernel_rfl) ?_
        try dsimp only [Act.put]
        try simp only [List.setIfInBounds_toArray, List.set_cons_zero, List.set_cons_succ]
        unfold Oper.wp
        clear hS6 hS7 hS8 hHeld hHeld2 p0 p1 p2 p3 q0 q1 q2 q3 q4 x0 x1 x2 x3 y0 y1 y2 y3 y4
        go_simp
        go_wp2_with fail
        refine bodyPost_ret (res_two_slot Try.results20 _ _ rfl (HF.out ()).1.rd Try.underlying30 rfl size_rd rfl (HF.out ()).1.rj Try.underlying41 rfl size_jv _ rfl) rfl ⟨⟨R3, s'.synced, 0, HPP.out, (HF.out ()).2.1, .inl ⟨rfl, va5, vc5, ?_, ?_, ?_⟩⟩, (HF.out ()).1.bel⟩
        · rw [HQQ.out, ← HT.out, ← HNN.out, ← HG.out.2.2.2.2.1]
          rfl
        · rw [← HG.out.2.2.2.2.1]
          exact (HF.out ()).2.2.1
        · rw [← HG.out.2.2.2.2.1]
          exact (HF.out ()).2.2.2
      | false =>
        rw [hg] at cs hput
        simp only [Bool.false_eq_true, if_false] at cs hput
        have HPP : Hid (putAll s (f + u) (blkLs turn u t) = (s'.burnt, 40)) := hput.symm
        clear hput hg hGG
        go_wp2_with fail
        refine Calls.mono cs ?_
        rintro e w3 ⟨⟨R3, rfl, r3⟩, b3⟩
        have HQE : Hid (∃ qa m1 qc pa m2 pc fy oy, rda R3 s'.burnt = #[.slice qa m1 qc, .slice pa m2 pc, .int .i64 fy, .bool oy]) := ⟨_, _, _, _, _, _, _, _, rfl⟩
        obtain ⟨qa, m1, qc, pa, m2, pc, fy, oy, hQ⟩ := HQE.out
        have HQQ : Hid (rda R3 s'.burnt = #[.slice qa m1 qc, .slice pa m2 pc, .int .i64 fy, .bool oy]) := hQ
        rw [show rda R3 (s'.burnt, (40 : Int)).1 = #[.slice qa m1 qc, .slice pa m2 pc, .int .i64 fy, .bool oy] from hQ]
        have A3 := HAD.out.over b3
        have o0 := A3.bd.cell 0 (.slice sa n1 sc) rfl
        have o1 := A3.bd.cell 1 (.slice wa n2 wc) rfl
        have o2 := A3.bd.cell 2 (.int .i64 fz) rfl
        have o3 := A3.bd.cell 3 (.bool of) rfl
        have v0 := A3.bd.frozen 0
        have v1 := A3.bd.frozen 1
        have v2 := A3.bd.frozen 2
        have v3 := A3.bd.frozen 3
        have HND : Hid (Unit → Adn w _ #[.slice qa m1 qc, .slice pa m2 pc, .int .i64 fy, .bool oy] (jv f c T (.slice va vn vc) u) ∧ RefIs _ (fun x => G x ∨ (w.heap.size ≤ x ∧ x < w.heap.size + 4)) R3 s'.burnt.sure s'.burnt.wait) := fun _ => ⟨A3.dev rfl (.slice qa m1 qc) (.slice pa m2 pc) (.int .i64 fy) (.bool oy), r3.kept (kept_four (Kept.refl (fun x => x = w.heap.size) w3) (.inl rfl) (.slice qa m1 qc) (.slice pa m2 pc) (.int .i64 fy) (.bool oy)) (fun x hx e => hx (.inr (by omega)))⟩
        clear A3 r3 b3 cs hQ HQE d0 d1 d2 d3 j0 j4
        go_wp2_with fail
        obtain ⟨n1, n2⟩ := HND.out ()
        obtain ⟨Wg, hWg⟩ : ∃ Wg, Wg = ((((w3.setCell ⟨w.heap.size, 0, none⟩ (.slice qa m1 qc)).setCell ⟨w.heap.size, 1, none⟩ (.slice pa m2 pc)).setCell ⟨w.heap.size, 2, none⟩ (.int .i64 fy)).setCell ⟨w.heap.size, 3, none⟩ (.bool oy)) := ⟨_, rfl⟩
        rw [← hWg] at n1 n2 ⊢
        clear hWg o0 o1 o2 o3 v0 v1 v2 v3
        have d0 := n1.bd.cell 0 (.slice qa m1 qc) rfl
        have d1 := n1.bd.cell 1 (.slice pa m2 pc) rfl
        have d2 := n1.bd.cell 2 (.int .i64 fy) rfl
        have d3 := n1.bd.cell 3 (.bool oy) rfl
        have j0 : Wg.cell? ⟨w.heap.size + 1, 0, none⟩ = some (.int .i64 f) := n1.bj.cell 0 _ rfl
        have j1 : Wg.cell? ⟨w.heap.size + 1, 1, none⟩ = some (.int .i64 c) := n1.bj.cell 1 _ rfl
        have j2 : Wg.cell? ⟨w.heap.size + 1, 2, none⟩ = some (.int .i64 T) := n1.bj.cell 2 _ rfl
        have j3 : Wg.cell? ⟨w.heap.size + 1, 3, none⟩ = some (.slice va vn vc) := n1.bj.cell 3 _ rfl
        have j4 : Wg.cell? ⟨w.heap.size + 1, 4, none⟩ = some (.int .i64 u) := n1.bj.cell 4 _ rfl
        have p0 := n1.rd.cell 0 _ rfl
        have p1 := n1.rd.cell 1 _ rfl
        have p2 := n1.rd.cell 2 _ rfl
        have p3 := n1.rd.cell 3 _ rfl
        have q0 := n1.rj.cell 0 _ rfl
        have q1 := n1.rj.cell 1 _ rfl
        have q2 := n1.rj.cell 2 _ rfl
        have q3 := n1.rj.cell 3 _ rfl
        have q4 := n1.rj.cell 4 _ rfl
        have x0 := n1.rd.frozen 0
        have x1 := n1.rd.frozen 1
        have x2 := n1.rd.frozen 2
        have x3 := n1.rd.frozen 3
        have y0 := n1.rj.frozen 0
        have y1 := n1.rj.frozen 1
        have y2 := n1.rj.frozen 2
        have y3 := n1.rj.frozen 3
        have y4 := n1.rj.frozen 4
        have HF : Hid (Unit → Laid w _ #[.slice qa m1 qc, .slice pa m2 pc, .int .i64 fy, .bool oy] (jv f c T (.slice va vn vc) u) ∧ RefIs _ G R3 (s'.burnt).sure (s'.burnt).wait) := fun _ => ⟨adn_laid n1 (.slice qa m1 qc) (.slice pa m2 pc) (.int .i64 fy) (.bool oy) (.int .i64 f) (.int .i64 c) (.int .i64 T) (.slice va vn vc) (.int .i64 u), (n2.kept (kept_nine (z := w.heap.size + 1 + 1) (Kept.refl (fun x => w.heap.size ≤ x ∧ x < w.heap.size + 4) Wg) (.inl (by omega)) (.inl (by omega)) (.slice qa m1 qc) (.slice pa m2 pc) (.int .i64 fy) (.bool oy) (.int .i64 f) (.int .i64 c) (.int .i64 T) (.slice va vn vc) (.int .i64 u)) (fun x hx h => hx (.inr h))).grow (fun x _ hn h => hn (.inl h))⟩
        clear n1 n2
        go_region
        all_goals
          go_wp2_with fail
          refine bodyPost_ret (res_two_slot Try.results20 _ _ rfl (HF.out ()).1.rd.drew Try.underlying30 rfl size_rd rfl (HF.out ()).1.rj.drew Try.underlying41 rfl size_jv _ rfl) rfl ⟨⟨R3, s'.burnt, 40, HPP.out, (HF.out ()).2.below (Below.refl _ _).drew, .inr ⟨rfl, ?_⟩⟩, (HF.out ()).1.bel.drew⟩
          rw [HQQ.out, ← HT.out]
          rfl
end Go.Proofs.Ytgffplfpoopolaa
/-
  The contract of peristyleref04's New.
-/
namespace Go.Proofs.Ytgffplfpoopolaa
open Go.RowKit

set_option maxHeartbeats 2000000 in
theorem rnew_any (n : Nat) (h1 : 1 ≤ n) (h2 : n ≤ 4096) (w : World) :
    Calls Try.prog 5 #[.int .i64 n] w fun e w' => (∃ va vc, e = .returned (.tuple #[.agg #[.slice va n vc, .slice none 0 0, .int .i64 (-1), .bool false], .int .i64 0]) ∧ SRows w' (.slice va n vc) 9 1 ((List.replicate n (List.replicate 128 (0 : UInt8))).map s1) ∧ ∀ x, (Value.slice va n vc).ownBlock = some x → w.heap.size ≤ x) ∧ Below w.heap.size w w' := by
  have g1 : ¬ (n : Int) < 1 := by omega
  have g2 : ¬ (4096 : Int) < (n : Int) := by omega
  obtain ⟨i0, hi0, hz0, hz1, hz2⟩ := info_parts info_str
  have HI : Hid (Try.prog.info? 9 = some i0 ∧ i0.zero = some (.string { data := #[] }) ∧ i0.size = 1 ∧ i0.bytes = 16) := ⟨hi0, hz0, hz1, hz2⟩
  obtain ⟨Z, hZ⟩ : ∃ Z, Z = List.replicate 128 (0 : UInt8) := ⟨_, rfl⟩
  rw [← hZ]
  obtain ⟨str, hstr⟩ : ∃ str, str = strB Z := ⟨_, rfl⟩
  have HS : Hid (str = strB Z) := hstr
  have HZ : Hid (Z = List.replicate 128 (0 : UInt8)) := hZ
  clear hZ hstr
  clear hi0 hz0 hz1 hz2
  go_enter Try.func5, Try.ntmps5
  go_wp2_with (refine make_u8 rfl _ _ rfl (n := 128) rfl rfl rfl (by omega) ?_; intro w1 hrow1 hb1; have ht := hrow1.text 128; rw [List.length_replicate, ← HZ.out, World.size_alloc, ← HS.out] at ht)
  have B0 := (box_new w (rd none 0 0 none 0 0 0 false) 30).over hb1
  have hBB := (below1 w _).trans (hb1.mono (by simp))
  have hsz : w.heap.size + 1 ≤ w1.heap.size := by have := hb1.size; simpa using this
  have H0 : Hid (Box w1 w.heap.size 30 (rd none 0 0 none 0 0 0 false) ∧ Below w.heap.size w w1 ∧ w.heap.size + 1 ≤ w1.heap.size) := ⟨B0, hBB, hsz⟩
  clear hrow1 hb1 ht B0 hBB hsz
  go_loopg [4, 6] n (fun g s4 s6 wx => ∃ (k : Nat) (va : Option Addr) (vc : Nat), k + g = n ∧ s6 = .int .i64 k ∧ s4 = .slice va k vc ∧ SRows wx (.slice va k vc) 9 1 ((List.replicate k Z).map s1) ∧ (∀ x, (Value.slice va k vc).ownBlock = some x → w.heap.size + 1 ≤ x) ∧ Box wx w.heap.size 30 (rd none 0 0 none 0 0 0 false) ∧ Below w.heap.size w wx ∧ w.heap.size + 1 ≤ wx.heap.size)
  case atStart => exact ⟨0, none, 0, by omega, rfl, rfl, srows_nil _ _ _, noOwn _, H0.out⟩
  case round =>
    obtain ⟨k, va, vc, hkg, rfl, rfl, hr, hown, hbox, hbel, hsz⟩ := hrel
    clear H0
    by_cases hk : k < n
    · have hkI : (k : Int) < (n : Int) := by omega
      have hr2 : IntKind.i64.wrap ((k : Int) + 1) = (k : Int) + 1 := by rw [IntKind.wrap_i64]; omega
      have hl6 : k + 1 ≤ 1000000 := by clear hr2; omega
      have HK : Hid (((List.replicate k Z).map s1).length + [[Value.string str]].length = k + 1 ∧ ((List.replicate k Z).map s1) ++ [[Value.string str]] = ((List.replicate (k + 1) Z).map s1)) := ⟨by simp, by rw [HS.out, List.replicate_succ']; simp [s1]⟩
      have HR : Hid (SRows wr (.slice va k vc) 9 1 ((List.replicate k Z).map s1) ∧ (∀ x, (Value.slice va k vc).ownBlock = some x → w.heap.size + 1 ≤ x) ∧ Box wr w.heap.size 30 (rd none 0 0 none 0 0 0 false) ∧ Below w.heap.size w wr ∧ w.heap.size + 1 ≤ wr.heap.size) := ⟨hr, hown, hbox, hbel, hsz⟩
      clear hr hown hbox hbel
      go_wp2_with (at_builtin; refine append_rows rfl (.tmp 21) (.tmp 23) 27 9 i0 _ 1 16 rfl Try.underlying27 HI.out.1 HI.out.2.1 HI.out.2.2.1 HI.out.2.2.2 rfl (by decide) (by decide) rfl rfl (HR.out.1.of_block (fun k hk => heap_alloc_old _ _ (HR.out.1.lt hk))) (srows_new wr [.string str] 9 (sz := 1) rfl) HR.out.2.1 ?hB ?h1 (k + 1) HK.out.1 ((List.replicate (k + 1) Z).map s1) HK.out.2 hl6 ?_; (case hB => simp; omega); (case h1 => intro r hr c hc; simp at hr; subst hr; simp at hc; subst hc; rfl); intro va4 vc4 w4 h1 h2 h4; have HY : Hid (SRows w4 (.slice va4 (k + 1) vc4) 9 1 ((List.replicate (k + 1) Z).map s1) ∧ (∀ k', (Value.slice va4 (k + 1) vc4).ownBlock = some k' → w.heap.size + 1 ≤ k') ∧ Below (w.heap.size + 1) (wr.alloc (.cells #[.string str] 9)) w4) := ⟨h1, h2, h4⟩; clear h1 h2 h4)
      obtain ⟨h1, h2, h4⟩ := HY.out
      obtain ⟨_, _, hbox, hbel, hsz⟩ := HR.out
      have a1 := hbel.alloc hbel.size (.cells #[.string str] 9)
      go_roundg (n - (k + 1))
      case measure => clear hr2; omega
      case rel => exact ⟨k + 1, va4, vc4, by clear hr2; omega, by go_num, rfl, h1, h2, (hbox.alloc _).below h4 (Nat.lt_succ_self _), a1.trans (h4.mono (Nat.le_succ _)), Nat.le_trans hsz (Nat.le_trans (by simp) h4.size)⟩
    · have hkI : ¬ (k : Int) < (n : Int) := by omega
      obtain rfl : k = n := by omega
      have F1 := hbox.setRow (rd va k vc none 0 0 (-1) false)
      have hone := rd_one va k vc none 0 0 (-1) false
      have HR : Hid (SRows wr (.slice va k vc) 9 1 ((List.replicate k Z).map s1) ∧ (∀ x, (Value.slice va k vc).ownBlock = some x → w.heap.size + 1 ≤ x) ∧ Below w.heap.size w wr) := ⟨hr, hown, hbel⟩
      clear hr hown hbel
      go_wp2_with (refine wpList_store_row rfl 30 _ _ rfl w.heap.size (rd va k vc none 0 0 (-1) false) rfl rfl 30 _ hbox size_rd rfl hone ?_)
      obtain ⟨hr, hown, hbel⟩ := HR.out
      refine bodyPost_ret (res_box_slot Try.results5 _ rfl F1 Try.underlying30 rfl size_rd _ rfl) rfl ⟨⟨_, _, rfl, ?_, fun x hx => by have := hown x hx; omega⟩, below_setRow hbel (Nat.le_refl _) _⟩
      rw [List.map_replicate] at hr
      refine hr.of_block fun x hx => ?_
      have h9 := hown x hx
      exact setRow_other _ _ _ _ (by omega)
end Go.Proofs.Ytgffplfpoopolaa
/-
  What law JournalTakes is handed: texts, and numbers four by four; the document's device as a variable.
-/
namespace Go.Proofs.Ytgffplfpoopolaa
open Go.RowKit Leb

theorem cells_type {w : World} {b : Nat} {c c' : Array Value} {t t' : TypeId} {f f' : Nat × Nat} (h : w.heap[b]? = some (.cells c t f)) (h' : w.heap[b]? = some (.cells c' t' f')) : t = t' := by
  rw [h] at h'
  cases h'
  rfl
theorem dev_ne_box {w : World} {H : Hnd} {s : St} {b : Nat} {c : Array Value} (D : DevIs w H s) (B : Box w b 30 c) : ¬ H.foot b := by
  intro hf
  rcases hf with rfl | rfl | rfl | hf
  · have := cells_type B D.dev
    simp at this
  · obtain ⟨cur, h1, _⟩ := D.sure
    have := cells_type B h1
    simp at this
  · obtain ⟨cur, h1, _⟩ := D.seen
    have := cells_type B h1
    simp at this
  · rcases D.wait with ⟨hv, _⟩ | ⟨g, cap, hv, _, _, cur, h1, _⟩
    · rw [hv] at hf; simp [Value.ownBlock] at hf
    · rw [hv] at hf
      simp [Value.ownBlock] at hf
      subst hf
      have := cells_type B h1
      simp at this
theorem srows_ne_box {w : World} {v : Value} {t t' : TypeId} {sz : Nat} {R : List (List Value)} {b : Nat} {c : Array Value} (h : SRows w v t sz R) (B : Box w b t' c) (ht : t ≠ t') : ∀ k, v.ownBlock = some k → k ≠ b := by
  intro k hk e
  subst e
  rcases h with ⟨rfl, _⟩ | ⟨g, cap, rfl, _, _, cur, h1, _⟩
  · simp [Value.ownBlock] at hk
  · simp [Value.ownBlock] at hk
    subst hk
    exact ht (cells_type h1 B)
/-- What turns one block alone, in which the document's device lies as a variable. -/
theorem Both.box {w w' : World} {H : Hnd} {R : RH} {s : St} {b : Nat} {c : Array Value} (B : Both w H R s) (X : Box w b 30 c) (k : Kept (fun x => x = b) w w') : Both w' H R s :=
  ⟨B.dev.kept k (fun x hx e => dev_ne_box B.dev X (by rw [← e]; exact hx)),
    ⟨B.ref.sure.kept k (fun g hg e => srows_ne_box B.ref.sure X (by decide) g hg e), B.ref.wait.kept k (fun g hg e => srows_ne_box B.ref.wait X (by decide) g hg e), B.ref.g1, B.ref.g2⟩⟩
/-- What a law's walk is told of a slice of texts that came in. -/
def StrsAre (w : World) (a : Option Addr) (len : Nat) : Prop := ∃ l : List ByteArray, l.length = len ∧ len ≤ maxLen ∧ ∀ cap, ReadsS w (.slice a len cap) l
theorem strsAre_of {H : Type} {enc : TypeId × Value → H} {W : World} {base : Nat} {sp : Nat → Bool} {hd : Bool} {fuel : Nat} {a : Option Addr} {len cap : Nat} {x : DataW H × List MemPlace}
    (h : DataW.trod enc Try.prog W base sp hd fuel 27 [.slice a len cap] = some x) : StrsAre W a len := by
  obtain ⟨l, h1, h2, h3⟩ := strs_of h
  refine ⟨l, h1, by omega, fun c => ?_⟩
  rcases h2 with ⟨rfl, a', c', hv⟩ | ⟨b, off, c', hv, hne, hb, hc⟩
  · refine .inl ⟨rfl, a, c, ?_⟩
    simp only [List.length_nil] at h1
    rw [← h1]
  · simp only [Value.slice.injEq] at hv
    exact .inr ⟨b, off, c, by rw [hv.1, hv.2.1], hne, hb, hc⟩
structure FourAt (w : World) (b o : Nat) (x0 x1 x2 x3 : BitVec 64) : Prop where
  c0 : w.cell? ⟨b, o, none⟩ = some (.int .i64 x0.toInt)
  c1 : w.cell? ⟨b, o + 1, none⟩ = some (.int .i64 x1.toInt)
  c2 : w.cell? ⟨b, o + 2, none⟩ = some (.int .i64 x2.toInt)
  c3 : w.cell? ⟨b, o + 3, none⟩ = some (.int .i64 x3.toInt)
theorem FourAt.below {w w' : World} {b o : Nat} {x0 x1 x2 x3 : BitVec 64} (h : FourAt w b o x0 x1 x2 x3) (hb : b < w.heap.size) (k : Below w.heap.size w w') : FourAt w' b o x0 x1 x2 x3 :=
  ⟨(k.cell (p := ⟨b, o, none⟩) hb).trans h.c0, (k.cell (p := ⟨b, o + 1, none⟩) hb).trans h.c1, (k.cell (p := ⟨b, o + 2, none⟩) hb).trans h.c2, (k.cell (p := ⟨b, o + 3, none⟩) hb).trans h.c3⟩
def FoursAre (w : World) (a : Option Addr) (len : Nat) : Prop :=
  len ≤ maxLen ∧ ∀ i, i < len → ∃ b off, a = some ⟨b, off, none⟩ ∧ b < w.heap.size ∧ ∃ x0 x1 x2 x3, FourAt w b (off + i * 4) x0 x1 x2 x3
theorem Jnl.keptF {F : Nat → Prop} {w w' : World} {J : Jh} {s : St} {f c : Nat} {turn : BitVec 64} {u : Nat} {out : List (List UInt8)} (j : Jnl w J s f c turn u out) (k : Kept F w w') (hF : ∀ x, J.foot x → ¬ F x) : Jnl w' J s f c turn u out :=
  ⟨j.dev.kept k (fun x hx => hF x (.inl hx)), j.box.kept k (hF _ (.inr (.inl rfl))), j.recs.keptS (fun x hx => k.block x (owns_lt j.recs hx) (hF x (.inr (.inr hx)))), j.np, j.nr⟩
theorem kept_five {F : Nat → Prop} {a w : World} (h : Kept F a w) {z : Nat} (hz : F z ∨ a.heap.size ≤ z) (x y u v r : Value) : Kept F a (((((w.setCell ⟨z, 0, none⟩ x).setCell ⟨z, 1, none⟩ y).setCell ⟨z, 2, none⟩ u).setCell ⟨z, 3, none⟩ v).setCell ⟨z, 4, none⟩ r) :=
  ((((h.setCell (p := ⟨z, 0, none⟩) hz x).setCell (p := ⟨z, 1, none⟩) hz y).setCell (p := ⟨z, 2, none⟩) hz u).setCell (p := ⟨z, 3, none⟩) hz v).setCell (p := ⟨z, 4, none⟩) hz r
/-- What ref23's Open tells of blocks of which the code's told the records. -/
theorem refOpen_same {B : List (List UInt8)} {tb : BitVec 64} {out : List (List UInt8)} {u : Nat} (hok : ∀ b ∈ extL B 3 40, okB b = true) (hr : Recs (extL B 3 40) tb out u) {w : World} {e : Ending} {w' : World} (h : OpenOn B 3 40 tb w e w') : (∃ va vn vc, e = .returned (.tuple #[.agg (jv 3 40 tb.toInt (.slice va vn vc) u), .int .i64 0]) ∧ OwnsS w' w.heap.size (.slice va vn vc) (bks out)) ∧ Below w.heap.size w w' := by
  obtain ⟨h, hb⟩ := h
  refine ⟨?_, hb⟩
  rcases h with ⟨_, o2, u2, v, he, hv, hr2, _⟩ | ⟨⟨b, hb1, hb2⟩, _⟩
  · obtain ⟨e1, e2⟩ := hr2.unique hr
    subst e1 e2
    obtain ⟨va, vn, vc, rfl⟩ := hv.slice
    exact ⟨va, vn, vc, he, hv⟩
  · rw [hok b hb1] at hb2; cases hb2
/-- The device, the document's, and the variable in which that lies. -/
structure Tk (w wx : World) (hp qb : Nat) (H : Hnd) (R : RH) (s : St) (i : Nat) : Prop where
  both : Both wx H R s
  hp : H.p = hp
  foot : ∀ k, H.foot k → w.heap.size ≤ k
  box : Box wx qb 30 (rd R.sa s.sure.length R.sc R.wa s.wait.length R.wc s.fz s.off)
  qw : w.heap.size ≤ qb
  n50 : s.sure.length = 50
  off : s.off = false
  fuse : s.fuse < 0
  wait : s.wait.length = i
  bel : Below w.heap.size w wx
theorem Tk.over {w w1 w2 : World} {hp qb : Nat} {H : Hnd} {R : RH} {s : St} {i : Nat} (o : Tk w w1 hp qb H R s i) (b : Below w1.heap.size w1 w2) : Tk w w2 hp qb H R s i :=
  ⟨o.both.below b, o.hp, o.foot, o.box.over b, o.qw, o.n50, o.off, o.fuse, o.wait, o.bel.trans (b.mono o.bel.size)⟩
/-- The variable alone. -/
structure Tq (w wx : World) (qb : Nat) (R : RH) (n1 n2 : Nat) (n3 : Int) (n4 : Bool) : Prop where
  box : Box wx qb 30 (rd R.sa n1 R.sc R.wa n2 R.wc n3 n4)
  bel : Below w.heap.size w wx
theorem Tq.over {w w1 w2 : World} {qb : Nat} {R : RH} {n1 n2 : Nat} {n3 : Int} {n4 : Bool} (o : Tq w w1 qb R n1 n2 n3 n4) (b : Below w1.heap.size w1 w2) : Tq w w2 qb R n1 n2 n3 n4 := ⟨o.box.over b, o.bel.trans (b.mono o.bel.size)⟩
theorem putR_free {s : St} (ho : s.off = false) (hf : s.fuse < 0) {k : Nat} (hk : k < s.sure.length) {str : ByteArray} (h8 : str.size = 128) : PutR s (k : Int) str (s.write k str.data.toList) 0 :=
  ⟨fun h => absurd ⟨⟨by omega, by omega⟩, h8⟩ h, fun _ h => (by rw [free_goes ho hf] at h; cases h), fun _ _ => ⟨by simp, rfl⟩⟩
end Go.Proofs.Ytgffplfpoopolaa
