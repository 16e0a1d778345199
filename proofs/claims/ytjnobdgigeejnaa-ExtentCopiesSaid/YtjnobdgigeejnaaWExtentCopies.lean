/-
  The walk of law 5's ExtentCopies.
-/
import Derived.Test.YtjnobdgigeejnaaESame
import Derived.Test.YtjnobdgigeejnaaEExts
namespace Go.Proofs.Ytjnobdgigeejnaa
open Go.RowKit

/-- Take, whatever the extent is. -/
theorem take_some {w W : World} {p g n : Nat} {hs : List (Nat × Nat)} (O : Own w W p g n hs) (x y : Int) (hx : -9223372036854775808 ≤ x ∧ x < 9223372036854775808) :
    Calls Try.prog 14 #[.pointer (some ⟨p, 0, none⟩), .agg #[.int .i64 x, .int .i64 y]] W fun e W' => ∃ v, e = .returned (.int .i64 v) ∧ ∃ g' hs', Own w W' p g' n hs' := by
  have O' := O
  obtain ⟨cap, M, h2, h3, h4⟩ := O'
  by_cases h : 0 < n ∧ 0 ≤ x ∧ 1 ≤ y ∧ y ≤ n - x
  · obtain ⟨a, rfl⟩ : ∃ a : Nat, x = a := ⟨x.toNat, by omega⟩
    obtain ⟨c, rfl⟩ : ∃ c : Nat, y = c := ⟨y.toNat, by omega⟩
    refine (take_own O a c (by omega) (by omega)).mono ?_
    rintro e W' (⟨e1, _, e3⟩ | ⟨e1, _, hs', g', _, o, _⟩)
    · exact ⟨_, e1, g, hs, O.over e3⟩
    · exact ⟨_, e1, g', hs', o⟩
  · refine (take_bad _ n W M.size M.n2 x y hx h).mono ?_
    rintro e W' ⟨e1, e2⟩
    exact ⟨_, e1, g, hs, O.over e2⟩
theorem cut_back {hs hs5 hs6 : List (Nat × Nat)} {n c k d : Nat} {x : Nat × Nat} (hn : Nice 0 hs) (hf : FirstFit hs c k x) (hc : c = d) (h5 : Cut hs hs5 n x.1 d) (h6 : Filled hs5 hs6 n x.1 d) : hs6 = hs := by
  subst hc
  refine nice_unique hs6 hs 0 0 h6.1 hn fun b => ?_
  rw [h6.2.2 b, h5.2.2 b]
  have hx := List.mem_of_getElem? hf.1
  have hd := hf.2.1
  constructor
  · rintro (⟨h, _⟩ | h)
    · exact h
    · exact ⟨x, hx, by omega, by omega⟩
  · intro h
    by_cases hb : x.1 ≤ b ∧ b < x.1 + c
    · exact .inr hb
    · exact .inl ⟨h, hb⟩
theorem copy_own {w W : World} {p g n : Nat} {hs : List (Nat × Nat)} (O : Own w W p g n hs) : Calls Try.prog 21 #[.pointer (some ⟨p, 0, none⟩)] W fun e w' => (∃ p', e = .returned (.pointer (some ⟨p', 0, none⟩)) ∧ NewMap W w' p' n hs) ∧ Below W.heap.size W w' := by
  obtain ⟨cap, M, _⟩ := O
  exact copy_any M
set_option maxRecDepth 4000 in
set_option maxHeartbeats 4000000 in
theorem walkExtentCopies (a0 : Option Addr) (len cap0 : Nat) (w : World) (hl : ExtsAre w a0 len) (m : Int) (wm : (Lit.int .i64 m).wf = true) :
    Calls Try.prog 5 #[.slice a0 len cap0, .int .i64 m] w fun e w' => e = .returned (.bool true) ∧ Below w.heap.size w w' := by
  have cn := new_own 100 w (by decide) (by decide)
  have HL : Hid (ExtsAre w a0 len) := hl
  have hl63 : (len : Int) ≤ 9223372036854775807 := by have := hl.1; unfold maxLen at this; omega
  clear hl
  go_enter Try.func5, Try.ntmps5
  go_wp2_with fail
  refine cn.mono ?_
  rintro e w1 ⟨p, rfl, g1, O1⟩
  have HO1 : Hid (Own w w1 p g1 100 [(0, 100)]) := O1
  clear cn O1
  go_wp2_with fail
  go_loopg [7] len (fun gg s7 wx => ∃ (i : Nat), i + gg = len ∧ s7 = .int .i64 i ∧ ∃ g hs, Own w wx p g 100 hs)
  case atStart => exact ⟨0, by omega, rfl, g1, _, HO1.out⟩
  case round =>
    obtain ⟨i, hig, rfl, g, hs, O⟩ := hrel
    by_cases hst : i < len ∧ i < 20
    · obtain ⟨hi, h20⟩ := hst
      have hiI : (i : Int) < (len : Int) := by omega
      have h20I : (i : Int) < 20 := by omega
      obtain ⟨b, off, x, y, rfl, hb, hx, hy, hxr⟩ := HL.out.2 i hi
      have hx2 := (O.bel.cell (p := ⟨b, off + i * 2, none⟩) hb).trans hx
      have hy2 := (O.bel.cell (p := ⟨b, off + i * 2 + 1, none⟩) hb).trans hy
      have ct := take_some O x y hxr
      have hr2 : IntKind.i64.wrap ((i : Int) + 1) = (i : Int) + 1 := by rw [IntKind.wrap_i64]; omega
      clear hb hx hy hxr O
      go_wp2_with fail
      refine ct.mono ?_
      rintro e w2 ⟨v, rfl, g', hs', O2⟩
      have HO : Hid (Own w w2 p g' 100 hs') := O2
      clear ct hx2 hy2 O2
      go_wp2_with fail
      go_roundg (len - (i + 1))
      case measure => clear hr2; omega
      case rel => exact ⟨i + 1, by clear hr2; omega, by go_num, g', hs', HO.out⟩
    · by_cases hi : i < len
      case' pos =>
        have hiI : (i : Int) < (len : Int) := by omega
        have h20I : ¬ (i : Int) < 20 := by omega
      case' neg =>
        have hiI : ¬ (i : Int) < (len : Int) := by omega
      all_goals
        clear hst hi
        have ch := holes_own O
        have HO : Hid (Own w wr p g 100 hs) := O
        clear O
        go_wp2_with fail
        refine ch.mono ?_
        obtain ⟨q, hq⟩ : ∃ q, q = hs.length := ⟨_, rfl⟩
        rw [← hq]
        rintro e w2 ⟨⟨gw, cw, rfl, hsr, hgw⟩, b2⟩
        have O2 := HO.out.over b2
        have cc := copy_own O2
        have HQ : Hid (q = hs.length ∧ SRows w2 (.slice (some ⟨gw, 0, none⟩) q cw) 32 2 (hs.map ec) ∧ wr.heap.size ≤ gw) := ⟨hq, hsr, hgw⟩
        have HO2 : Hid (Own w w2 p g 100 hs ∧ p < wr.heap.size ∧ g < wr.heap.size ∧ gw < w2.heap.size) := ⟨O2, HO.out.lt.1, HO.out.lt.2.1, hsr.lt rfl⟩
        clear ch hq hsr hgw b2 O2
        go_wp2_with fail
        refine cc.mono ?_
        rintro e w3 ⟨⟨pc, rfl, gc, capc, Mc, hpc, hgc⟩, b3⟩
        have O3 := HO2.out.1.over b3
        obtain ⟨y, hy1, hy2⟩ := and_low m wm 255 (by omega)
        obtain ⟨k, k3⟩ : ∃ k, k = 1 + y % 30 := ⟨_, rfl⟩
        have k1 : 1 ≤ k := by omega
        have k2 : k ≤ 30 := by omega
        have hwk : IntKind.i64.wrap (1 + Int.tmod (y : Int) 30) = (k : Int) := by
          rw [Int.tmod_eq_emod_of_nonneg (by omega), IntKind.wrap_i64]
          omega
        have hy2 : bits .and .i64 m 255 = (y : Int) := hy2
        have ca := alloc_own O3 k (by omega)
        have HO3 : Hid (Own w w3 p g 100 hs ∧ MapIs w3 pc gc 100 capc hs ∧ w2.heap.size ≤ pc ∧ w2.heap.size ≤ gc ∧ SRows w3 (.slice (some ⟨gw, 0, none⟩) q cw) 32 2 (hs.map ec)) := ⟨O3, Mc, hpc, hgc, HQ.out.2.1.of_block (fun x hx => b3.block x (HQ.out.2.1.lt hx))⟩
        have HK : Hid (1 ≤ k ∧ k ≤ 30 ∧ k = 1 + y % 30) := ⟨k1, k2, k3⟩
        clear cc Mc hpc hgc b3 O3 k1 k2 k3 hy1
        go_wp2_with fail
        rw [show (1 : Int) + (y : Int) % 30 = (k : Int) by have := HK.out.2.2; omega]
        refine ca.mono ?_
        rintro e w4 (⟨rfl, hno, b4⟩ | ⟨kk, x, d, hd, rfl, hfit, hs5, g5, hcut, O5, S5⟩)
        · have b5 := b4.trans ((below1 w4 (.cells #[.int .i64 0, .int .i64 0] 32)).mono b4.size)
          have M5 := HO3.out.2.1.over b5
          have O5 := HO3.out.1.over b5
          have w5 := HO3.out.2.2.2.2.of_block (fun x hx => b5.block x (HO3.out.2.2.2.2.lt hx))
          have ch := holes_any M5
          have HH : Hid (Own w (w4.alloc (.cells #[.int .i64 0, .int .i64 0] 32)) p g 100 hs ∧ SRows (w4.alloc (.cells #[.int .i64 0, .int .i64 0] 32)) (.slice (some ⟨gw, 0, none⟩) q cw) 32 2 (hs.map ec) ∧ q ≤ 5000) := ⟨O5, w5, by rw [HQ.out.1]; have := M5.few; omega⟩
          rw [← HQ.out.1] at ch
          clear hno b4 b5 M5 O5 w5 ca hwk hy2
          go_wp2_with fail
          refine ch.mono ?_
          rintro e w6 ⟨⟨gh, chh, rfl, hsr, _⟩, b6⟩
          have w6s := HH.out.2.1.of_block (fun x hx => b6.block x (HH.out.2.1.lt hx))
          have cs := same_yes hsr w6s HH.out.2.2
          have O6 := HH.out.1.over b6
          have HO6 : Hid (Own w w6 p g 100 hs ∧ SRows w6 (.slice (some ⟨gw, 0, none⟩) q cw) 32 2 (hs.map ec)) := ⟨O6, w6s⟩
          clear ch hsr b6 w6s O6
          go_wp2_with fail
          refine cs.mono ?_
          rintro e w7 ⟨rfl, b7⟩
          have w7s := HO6.out.2.of_block (fun x hx => b7.block x (HO6.out.2.lt hx))
          have O7 := HO6.out.1.over b7
          have ch := holes_own O7
          rw [← HQ.out.1] at ch
          have HO7 : Hid (Own w w7 p g 100 hs ∧ SRows w7 (.slice (some ⟨gw, 0, none⟩) q cw) 32 2 (hs.map ec)) := ⟨O7, w7s⟩
          clear cs b7 w7s O7
          go_wp2_with fail
          refine ch.mono ?_
          rintro e w8 ⟨⟨gh2, chh2, rfl, hsr, _⟩, b8⟩
          have w8s := HO7.out.2.of_block (fun x hx => b8.block x (HO7.out.2.lt hx))
          have cs := same_yes hsr w8s HH.out.2.2
          have O8 := HO7.out.1.over b8
          have HO8 : Hid (Own w w8 p g 100 hs) := O8
          clear ch hsr b8 w8s O8
          go_wp2_with fail
          refine cs.mono ?_
          rintro e w9 ⟨rfl, b9⟩
          have O9 := HO8.out.over b9
          have ca := awake_any w9
          have HO9 : Hid (Below w.heap.size w w9) := O9.bel
          clear cs b9 O9
          go_wp2_with fail
          refine ca.mono ?_
          rintro e wA ⟨rfl, bA⟩
          have HBA : Hid (Below w.heap.size w wA) := HO9.out.trans (bA.mono HO9.out.size)
          clear ca bA
          go_wp2_with fail
          go_ret
          exact ⟨rfl, HBA.out⟩
        · have hlt := HO2.out
          have hgw := HQ.out.2.2
          have h3 := HO3.out
          have hkk := HK.out
          have hM3p := h3.2.1.ltp
          have hM3g := h3.2.1.ltg
          have Mc4 := h3.2.1.kept S5.2 (fun e => by rcases e with e | e <;> omega) (fun e => by rcases e with e | e <;> omega)
          have ws4 := h3.2.2.2.2.kept S5.2 (fun gq hgq e => by
            simp [Value.ownBlock] at hgq
            have := HQ.out.2.2
            rcases e with e | e <;> omega)
          have bX := below1 w4 (.cells #[.int .i64 (x.1 : Int), .int .i64 (d : Int)] 32)
          have X5 := box_new w4 #[.int .i64 (x.1 : Int), .int .i64 (d : Int)] 32
          have O6 := O5.over bX
          have Mc6 := Mc4.over bX
          have ws6 := ws4.of_block (fun x hx => bX.block x (ws4.lt hx))
          have hxm := h3.1.within x (List.mem_of_getElem? hfit.1)
          have hdx := hfit.2.1
          have hd1 : 1 ≤ d ∧ x.1 + d ≤ 100 ∧ k = d := by omega
          have HX : Hid (Box (w4.alloc (.cells #[.int .i64 (x.1 : Int), .int .i64 (d : Int)] 32)) w4.heap.size 32 #[.int .i64 (x.1 : Int), .int .i64 (d : Int)]) := X5
          have HC : Hid (FirstFit hs k kk x ∧ k = d ∧ Cut hs hs5 100 x.1 d ∧ Nice 0 hs ∧ 1 ≤ d ∧ x.1 + d ≤ 100 ∧ d ≤ x.2) := ⟨hfit, hd1.2.2, hcut, h3.1.nice, hd1.1, hd1.2.1, by omega⟩
          have HH : Hid (Own w (w4.alloc (.cells #[.int .i64 (x.1 : Int), .int .i64 (d : Int)] 32)) p g5 100 hs5 ∧ MapIs (w4.alloc (.cells #[.int .i64 (x.1 : Int), .int .i64 (d : Int)] 32)) pc gc 100 capc hs ∧ SRows (w4.alloc (.cells #[.int .i64 (x.1 : Int), .int .i64 (d : Int)] 32)) (.slice (some ⟨gw, 0, none⟩) q cw) 32 2 (hs.map ec) ∧ q ≤ 5000) := ⟨O6, Mc6, ws6, by rw [HQ.out.1]; have := Mc6.few; omega⟩
          have HNE : Hid (p < wr.heap.size ∧ g < wr.heap.size ∧ wr.heap.size ≤ gw ∧ gw < w2.heap.size ∧ w2.heap.size ≤ pc ∧ w2.heap.size ≤ gc ∧ pc < w3.heap.size ∧ gc < w3.heap.size ∧ (g5 = g ∨ w3.heap.size ≤ g5) ∧ w3.heap.size ≤ w4.heap.size ∧ g5 < w4.heap.size) := ⟨hlt.2.1, hlt.2.2.1, HQ.out.2.2, hlt.2.2.2, h3.2.2.1, h3.2.2.2.1, hM3p, hM3g, S5.1, S5.2.size, O5.lt.2.1⟩
          have ch := holes_any Mc6
          rw [← HQ.out.1] at ch
          have y0 := X5.cell 0 _ rfl
          have y1 := X5.cell 1 _ rfl
          clear hgw hlt h3 hkk hM3p hM3g Mc4 ws4 bX X5 O6 Mc6 ws6 hxm hdx hd1 hfit hd hcut O5 S5 ca hwk hy2
          go_wp2_with fail
          refine ch.mono ?_
          rintro e w6 ⟨⟨gh, chh, rfl, hsr, _⟩, b6⟩
          have w6s := HH.out.2.2.1.of_block (fun x hx => b6.block x (HH.out.2.2.1.lt hx))
          have cs := same_yes hsr w6s HH.out.2.2.2
          have HO6 : Hid (Own w w6 p g5 100 hs5 ∧ MapIs w6 pc gc 100 capc hs ∧ SRows w6 (.slice (some ⟨gw, 0, none⟩) q cw) 32 2 (hs.map ec) ∧ Box w6 w4.heap.size 32 #[.int .i64 (x.1 : Int), .int .i64 (d : Int)]) := ⟨HH.out.1.over b6, HH.out.2.1.over b6, w6s, HX.out.over b6⟩
          clear ch hsr b6 w6s y0 y1
          go_wp2_with fail
          refine cs.mono ?_
          rintro e w7 ⟨rfl, b7⟩
          have O7 := HO6.out.1.over b7
          have X7 := HO6.out.2.2.2.over b7
          have y0 := X7.cell 0 _ rfl
          have y1 := X7.cell 1 _ rfl
          have cf := free_own O7 x.1 d HC.out.2.2.2.2.1 HC.out.2.2.2.2.2.1
          have HO7 : Hid (MapIs w7 pc gc 100 capc hs ∧ SRows w7 (.slice (some ⟨gw, 0, none⟩) q cw) 32 2 (hs.map ec) ∧ Box w7 w4.heap.size 32 #[.int .i64 (x.1 : Int), .int .i64 (d : Int)]) := ⟨HO6.out.2.1.over b7, HO6.out.2.2.1.of_block (fun x hx => b7.block x (HO6.out.2.2.1.lt hx)), X7⟩
          clear cs b7 O7 X7
          go_wp2_with fail
          refine cf.mono ?_
          rintro e w8 (⟨_, hno, _⟩ | ⟨rfl, _, hs6, g6, hfil, O8, S8⟩)
          · exact absurd (fun b hb1 hb2 hf => ((HC.out.2.2.1.2.2 b).1 hf).2 ⟨hb1, hb2⟩) hno
          have e6 := cut_back HC.out.2.2.2.1 HC.out.1 HC.out.2.1 HC.out.2.2.1 hfil
          subst e6
          have hn := HNE.out
          have HO8 : Hid (Own w w8 p g6 100 hs6 ∧ MapIs w8 pc gc 100 capc hs6 ∧ SRows w8 (.slice (some ⟨gw, 0, none⟩) q cw) 32 2 (hs6.map ec) ∧ Box w8 w4.heap.size 32 #[.int .i64 (x.1 : Int), .int .i64 (d : Int)] ∧ (g6 = g5 ∨ w4.heap.size < g6)) := ⟨O8, HO7.out.1.kept S8.2 (fun e => by rcases e with e | e <;> omega) (fun e => by rcases e with e | e <;> omega), HO7.out.2.1.kept S8.2 (fun gq hgq e => by
            simp [Value.ownBlock] at hgq
            rcases e with e | e <;> omega), S8.box HO7.out.2.2 (by omega) (by omega), by
              have h1 := HO7.out.2.2.lt
              rcases S8.1 with h | h
              · exact .inl h
              · exact .inr (by omega)⟩
          have ch := holes_own O8
          rw [← HQ.out.1] at ch
          clear cf hfil O8 S8 y0 y1 hn
          go_wp2_with fail
          refine ch.mono ?_
          rintro e w9 ⟨⟨gh2, chh2, rfl, hsr, _⟩, b9⟩
          have w9s := HO8.out.2.2.1.of_block (fun x hx => b9.block x (HO8.out.2.2.1.lt hx))
          have cs := same_yes hsr w9s HH.out.2.2.2
          have HO9 : Hid (Own w w9 p g6 100 hs6 ∧ MapIs w9 pc gc 100 capc hs6 ∧ Box w9 w4.heap.size 32 #[.int .i64 (x.1 : Int), .int .i64 (d : Int)]) := ⟨HO8.out.1.over b9, HO8.out.2.1.over b9, HO8.out.2.2.2.1.over b9⟩
          clear ch hsr b9 w9s
          go_wp2_with fail
          refine cs.mono ?_
          rintro e wA ⟨rfl, bA⟩
          have XA := HO9.out.2.2.over bA
          have y0 := XA.cell 0 _ rfl
          have y1 := XA.cell 1 _ rfl
          have OA := HO9.out.1.over bA
          have cf := free_own OA x.1 d HC.out.2.2.2.2.1 HC.out.2.2.2.2.2.1
          have HOA : Hid (Own w wA p g6 100 hs6 ∧ MapIs wA pc gc 100 capc hs6 ∧ Box wA w4.heap.size 32 #[.int .i64 (x.1 : Int), .int .i64 (d : Int)]) := ⟨OA, HO9.out.2.1.over bA, XA⟩
          clear cs bA XA OA
          go_wp2_with fail
          refine cf.mono ?_
          rintro e wB (⟨rfl, _, bB⟩ | ⟨_, hnf, _⟩)
          rotate_left
          · have hc := HC.out
            exact absurd ⟨x, List.mem_of_getElem? hc.1.1, Nat.le_refl _, by omega⟩ (hnf x.1 (Nat.le_refl _) (by omega))
          have XB := HOA.out.2.2.over bB
          have y0 := XB.cell 0 _ rfl
          have y1 := XB.cell 1 _ rfl
          have MB := HOA.out.2.1.over bB
          have hpw : w.heap.size ≤ pc ∧ w.heap.size ≤ gc := by
            have h1 := HO2.out.1.bel.size
            have h2 := HNE.out
            omega
          have OcB : Own w wB pc gc 100 hs6 := ⟨capc, MB, hpw.1, hpw.2, HOA.out.1.bel.trans (bB.mono HOA.out.1.bel.size)⟩
          have ct := take_own OcB x.1 d HC.out.2.2.2.2.1 HC.out.2.2.2.2.2.1
          clear cf bB XB MB hpw OcB
          go_wp2_with fail
          refine ct.mono ?_
          rintro e wC (⟨_, hna, _⟩ | ⟨rfl, _, hs7, g7, _, OC, _⟩)
          · have hc := HC.out
            exact absurd (fun b hb1 hb2 => ⟨x, List.mem_of_getElem? hc.1.1, by omega, by omega⟩) hna
          have ca := awake_any wC
          have HOC : Hid (Below w.heap.size w wC) := OC.bel
          clear ct OC y0 y1
          go_wp2_with fail
          refine ca.mono ?_
          rintro e wD ⟨rfl, bD⟩
          have HBD : Hid (Below w.heap.size w wD) := HOC.out.trans (bD.mono HOC.out.size)
          clear ca bD
          go_wp2_with fail
          go_ret
          exact ⟨rfl, HBD.out⟩
end Go.Proofs.Ytjnobdgigeejnaa
