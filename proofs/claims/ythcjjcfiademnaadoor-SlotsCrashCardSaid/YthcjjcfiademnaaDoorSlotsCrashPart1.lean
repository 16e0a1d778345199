/-
  2 texts, one behind the other: QY, WSlotsCrash.
-/
import Derived.Test.YthcjjcfiademnaaDoorJoin4
/-
  What Read tells in law 24's sequence.
-/
namespace Go.Proofs.YthcjjcfiademnaaDoor
open Go.RowKit Leb

def lastL (l : List (List UInt8)) (i : Nat) : List UInt8 := if i = 0 then [] else l.getD (i - 1) []
theorem inv_read_none {w0 w : World} {p : Nat} {H : Hnd} {s : St} (o : Own w0 w p H s) (ho : s.off = false) {l : List (List UInt8)} (hI : Inv (lay s.sure s.wait) l 0) :
    Calls Tryd.prog 10 #[.pointer (some ⟨p, 0, none⟩)] w fun e w' => e = .returned (.tuple #[.string { data := #[] }, .agg #[.int .i64 0, .int .i64 0], .int .i64 0, .int .i64 3]) ∧ Below w.heap.size w w' := by
  have c := qRead_none o.dev ho _ _ (hI.two (fun j hj => by omega) (by omega)) (best_is (l := l) (i := 0) (by omega))
  rw [o.at_] at c
  exact c
theorem inv_read_some {w0 w : World} {p : Nat} {H : Hnd} {s : St} (o : Own w0 w p H s) (ho : s.off = false) {l : List (List UInt8)} {i : Nat} (hI : Inv (lay s.sure s.wait) l i) (hi : 1 ≤ i) (hi2 : i ≤ 100) (hl : ∀ j, j < i → (l.getD j []).length ≤ 512) :
    Calls Tryd.prog 10 #[.pointer (some ⟨p, 0, none⟩)] w fun e w' => e = .returned (.tuple #[.string (strB (lastL l i)), .agg #[.int .i64 (fI (i - 1) : Nat), .int .i64 8], .int .i64 i, .int .i64 0]) ∧ Below w.heap.size w w' := by
  obtain ⟨j, rfl⟩ : ∃ j, i = j + 1 := ⟨i - 1, by omega⟩
  have c := qRead_some o.dev ho _ _ (hI.two hl hi2) _ (best_is (l := l) (i := j + 1) hi2) (fI j) 8 (l.getD j []) (hI.lies (hl j (by omega)))
  rw [o.at_] at c
  have e1 : (sdOf (BitVec.ofNat 64 (fI j)) (BitVec.ofNat 64 8) (BitVec.ofNat 64 (j + 1)) (l.getD j [])).turn.toInt = ((j + 1 : Nat) : Int) := ofNat_toInt (by omega)
  rw [e1] at c
  exact c
/-- Laying the next one. -/
theorem inv_lay {w0 w : World} {p : Nat} {H : Hnd} {s : St} (o : Own w0 w p H s) {l : List (List UInt8)} {i : Nat} (hI : Inv s.sure l i) (hwt : s.wait = []) (hi : i ≤ 50) (ht : (l.getD i []).length ≤ 512) :
    Calls Tryd.prog 8 #[.pointer (some ⟨p, 0, none⟩), .agg #[.int .i64 (fI i : Nat), .int .i64 8], .int .i64 ((i : Int) + 1), .string (strB (l.getD i []))] w fun e w' => ∃ H' s', Own w0 w' p H' s' ∧ ((e = .returned (.int .i64 0) ∧ Inv s'.sure l (i + 1) ∧ s'.wait = [] ∧ s'.off = false) ∨ (e = .returned (.int .i64 40) ∧ ∀ g, Inv (s'.crashed g).sure l i ∨ Inv (s'.crashed g).sure l (i + 1))) := by
  have e1 : (BitVec.ofNat 64 (i + 1)).toInt = ((i + 1 : Nat) : Int) := ofNat_toInt (by omega)
  have hf2 : fI i ≤ 10 ∧ 2 ≤ fI i := by unfold fI; omega
  have c := qlay_any o.dev (fI i) 8 hf2.2 (by omega) (by rw [hI.len]; omega) (BitVec.ofNat 64 (i + 1)) (by rw [e1]; omega) (by rw [e1]; omega) ((i + 1) % 2) (by rw [e1]; omega) (l.getD i []) (by omega) (by rw [hwt]; simp)
  rw [o.at_, e1, show ((i + 1 : Nat) : Int) = (i : Int) + 1 by omega, show ((8 : Nat) : Int) = 8 from rfl] at c
  refine Calls.mono c ?_
  rintro e w' ⟨H', he, D', T'⟩
  have hsp := lay_spec (s := s) (l := l) (i := i) hI hwt
  have hd : sdOf (BitVec.ofNat 64 (fI i)) (BitVec.ofNat 64 8) (BitVec.ofNat 64 (i + 1)) (l.getD i []) = sdO (slI l (i + 1)) := rfl
  rw [hd] at he D'
  refine ⟨H', _, o.turned D' T', ?_⟩
  rcases hsp with ⟨f1, f2, f3, f4⟩ | ⟨f1, f2⟩
  · rw [f1] at he
    exact .inl ⟨he, f2, f3, f4⟩
  · rw [f1] at he
    exact .inr ⟨he, f2⟩
theorem crashed_lay (s : St) (g : Nat → Bool) : lay (s.crashed g).sure (s.crashed g).wait = (s.crashed g).sure := rfl
end Go.Proofs.YthcjjcfiademnaaDoor
/-
  The walk of law SlotsCrash: it answers true, whatever texts are laid, whenever the power goes, whatever survives.
-/
namespace Go.Proofs.YthcjjcfiademnaaDoor
open Go.RowKit Leb

/-- What is so ahead of the i-th Lay. -/
structure Sq (w wx : World) (p : Nat) (H : Hnd) (s : St) (l : List (List UInt8)) (i : Nat) : Prop where
  own : Own w wx p H s
  inv : Inv s.sure l i
  wait : s.wait = []
  off : s.off = false
  few : ∀ j, j < i → (l.getD j []).length ≤ 512
theorem last_succ (l : List (List UInt8)) (i : Nat) : lastL l (i + 1) = l.getD i [] := rfl
theorem getD_map (l : List ByteArray) (i : Nat) (hi : i < l.length) : (l.map fun b => b.data.toList).getD i [] = (l.getD i ByteArray.empty).data.toList := by simp [hi]
set_option maxRecDepth 4000 in
set_option maxHeartbeats 4000000 in
theorem walkSlotsCrash (a0 : Option Addr) (len0 cap0 : Nat) (w : World) (w0 : StrsAre w a0 len0) (a1 : Int) (w1 : (Lit.int .i64 a1).wf = true) (a2 : Option Addr) (len2 cap2 : Nat) (z2 : List Int) (w2 : IsRow .i64 w a2 len2 cap2 z2) :
    Calls Tryd.prog 3 #[.slice a0 len0 cap0, .int .i64 a1, .slice a2 len2 cap2] w fun e w' => e = .returned (.bool true) ∧ Below w.heap.size w w' := by
  obtain ⟨x1, rfl⟩ := Wd.word_of a1 w1
  obtain ⟨l0, hl0, hlm, hrd0⟩ := w0
  obtain ⟨l2, hl2, hrd2⟩ := reads_of_row w2
  have hm2 : l2.length ≤ maxLen := by
    rcases w2 with ⟨_, h, _, _⟩ | ⟨_, _, h1, h2, _⟩
    · rw [hl2, h]; exact Nat.zero_le _
    · rw [hl2]; omega
  have hread : ∀ i, i < len0 → ∃ b off, a0 = some ⟨b, off, none⟩ ∧ b < w.heap.size ∧ w.cell? ⟨b, off + i, none⟩ = some (.string (l0.getD i ByteArray.empty)) := by
    intro i hi
    rcases hrd0 cap0 with ⟨h1, _⟩ | ⟨b, off, c, h1, h2, h3, h4⟩
    · rw [h1] at hl0; simp at hl0; omega
    · simp only [Value.slice.injEq] at h1
      exact ⟨b, off, h1.1, h3, h4 i _ (by simp [hl0, hi])⟩
  have HR0 : Hid (∀ i, i < len0 → ∃ b off, a0 = some ⟨b, off, none⟩ ∧ b < w.heap.size ∧ w.cell? ⟨b, off + i, none⟩ = some (.string (l0.getD i ByteArray.empty))) := hread
  have HR2 : Hid (ReadsI w (.slice a2 len2 cap2) l2 ∧ l2.length ≤ maxLen ∧ l0.length = len0) := ⟨hrd2, hm2, hl0⟩
  have hlI : (len0 : Int) ≤ 9223372036854775807 := by unfold maxLen at hlm; omega
  obtain ⟨F, hF0, hFl⟩ := and_mask x1 15 (by omega)
  replace hF0 : bits .and .i64 x1.toInt 15 = (F : Int) := hF0
  obtain ⟨L, hL⟩ : ∃ L, L = l0.map fun b => b.data.toList := ⟨_, rfl⟩
  have HLL : Hid (∀ i, i < len0 → strB (L.getD i []) = l0.getD i ByteArray.empty ∧ (L.getD i []).length = (l0.getD i ByteArray.empty).size) := fun i hi => by
    rw [hL, getD_map l0 i (by omega), strB_of]
    exact ⟨rfl, by simp⟩
  have cnew := new_any 20 (by omega) (by omega) w
  rw [show ((20 : Nat) : Int) = 20 from rfl] at cnew
  obtain ⟨y1, hy1⟩ : ∃ y, y = x1.toInt := ⟨_, rfl⟩
  rw [← hy1] at hF0 ⊢
  clear w1 w2 hrd0 hrd2 hl0 hl2 hm2 hread hlm hL hy1
  go_enter Tryd.func3, Tryd.ntmps3
  go_wp2_with fail
  refine cnew.mono ?_
  rintro e w1 ⟨H, rfl, D1, b1, hF⟩
  obtain ⟨p, hp⟩ : ∃ p, p = H.p := ⟨_, rfl⟩
  have HS0 : Hid (Sq w w1 p H (St.new 20) L 0) := ⟨by rw [hp]; exact own_new D1 b1 hF, inv_new L, rfl, rfl, fun j hj => by omega⟩
  rw [← hp]
  clear D1 b1 hF cnew hp
  by_cases h12 : len0 ≤ 12
  · have h12I : ¬ 12 < (len0 : Int) := by omega
    go_wp2_with fail
    go_loopg [9, 10] len0 (fun g s9 s10 wx => ∃ (i : Nat) (H' : Hnd) (s' : St) (T : ByteArray), i + g = len0 ∧ s10 = .int .i64 i ∧ s9 = .string T ∧ T = strB (lastL L i) ∧ Sq w wx p H' s' L i)
    case atStart => exact ⟨0, H, _, _, by omega, rfl, rfl, rfl, HS0.out⟩
    case round =>
      obtain ⟨i, H', s', T, hig, rfl, rfl, hT, hsq⟩ := hrel
      have HT : Hid (T = strB (lastL L i)) := hT
      have HSQ : Hid (Sq w wr p H' s' L i) := hsq
      clear hT hsq
      by_cases hi : i < len0
      · have hiI : (i : Int) < (len0 : Int) := by omega
        obtain ⟨b, off, rfl, hbw, hcell⟩ := HR0.out i hi
        have HC : Hid (∀ W, Below w.heap.size w W → W.cell? ⟨b, off + i, none⟩ = some (.string (l0.getD i ByteArray.empty))) := fun W hW => (hW.cell (p := ⟨b, off + i, none⟩) hbw).trans hcell
        have hll := HLL.out i hi
        obtain ⟨X, hX⟩ : ∃ X, X = l0.getD i ByteArray.empty := ⟨_, rfl⟩
        rw [← hX] at HC hll
        have HXX : Hid (strB (L.getD i []) = X ∧ (L.getD i []).length = X.size) := hll
        have hc0 := HC.out wr HSQ.out.own.bel
        clear hcell hX hll
        by_cases h5 : X.size ≤ 512
        · have h5I : ¬ 512 < (X.size : Int) := by omega
          have HTT : Hid ((L.getD i []).length ≤ 512) := by
            have := HXX.out.2
            show _ ≤ _
            omega
          obtain ⟨q, hq⟩ : ∃ q, q = i % 2 := ⟨_, rfl⟩
          have hand : bits .and .i64 (i : Int) 1 = (q : Int) := by
            rw [hq]
            exact and_pow i 1 1 rfl (by omega) (by omega)
          have hqI : (q : Int) ≤ 1 := by omega
          have hfI : ((fI i : Nat) : Int) = 2 + (q : Int) * 8 := by unfold fI; omega
          have HLY : Hid (∀ (W : World) (Hx : Hnd) (sx : St), Own w W p Hx sx → sx.sure = s'.sure → sx.wait = [] → Calls Tryd.prog 8 #[.pointer (some ⟨p, 0, none⟩), .agg #[.int .i64 (2 + (q : Int) * 8), .int .i64 8], .int .i64 ((i : Int) + 1), .string X] W fun e w' => ∃ H2 s2, Own w w' p H2 s2 ∧ ((e = .returned (.int .i64 0) ∧ Inv s2.sure L (i + 1) ∧ s2.wait = [] ∧ s2.off = false) ∨ (e = .returned (.int .i64 40) ∧ ∀ g, Inv (s2.crashed g).sure L i ∨ Inv (s2.crashed g).sure L (i + 1)))) := fun W Hx sx o hs hw => by
            have c := inv_lay o (l := L) (i := i) (by rw [hs]; exact HSQ.out.inv) hw (by omega) HTT.out
            rw [HXX.out.1, hfI] at c
            exact c
          clear hq hfI
          by_cases hlast : i + 1 = len0
          · have he : ((i : Int) == (len0 : Int) - 1) = true := by simp; omega
            clear hlast
            have cfu := fuse_any HSQ.out.own.dev (F : Int) (by omega)
            rw [HSQ.out.own.at_] at cfu
            go_wp2_with fail
            refine cfu.mono ?_
            rintro e w3 ⟨rfl, D3, T3⟩
            have o3 := HSQ.out.own.turned D3 T3
            have cl := HLY.out w3 H' _ o3 rfl HSQ.out.wait
            have hc3 := HC.out w3 o3.bel
            clear D3 T3 o3 cfu hc0
            go_wp2_with fail
            refine cl.mono ?_
            rintro e w4 ⟨H4, s4, o4, hr⟩
            have hc4 := HC.out w4 o4.bel
            rcases hr with ⟨rfl, hI4, hw4, ho4⟩ | ⟨rfl, hI4⟩
            · have HN : Hid (Sq w w4 p H4 s4 L (i + 1)) := ⟨o4, hI4, hw4, ho4, fun j hj => by
                rcases Nat.lt_or_ge j i with h | h
                · exact HSQ.out.few j h
                · obtain rfl : j = i := by omega
                  exact HTT.out⟩
              clear o4 hI4 hw4 ho4 cl
              go_wp2_with fail
              go_roundg (len0 - (i + 1))
              case measure => omega
              case rel => exact ⟨i + 1, H4, s4, X, by omega, by go_num, rfl, by rw [last_succ]; exact HXX.out.1.symm, HN.out⟩
            · have ccr := crash_any o4.dev (.slice a2 len2 cap2) l2 (HR2.out.1.below o4.bel) HR2.out.2.1
              rw [o4.at_] at ccr
              have HO4 : Hid (Own w w4 p H4 s4 ∧ ∀ g, Inv (s4.crashed g).sure L i ∨ Inv (s4.crashed g).sure L (i + 1)) := ⟨o4, hI4⟩
              clear o4 hI4 cl
              go_wp2_with fail
              refine ccr.mono ?_
              rintro e w5 ⟨rfl, H5, D5, T5⟩
              have o5 := HO4.out.1.turned D5 T5
              have HO5 : Hid (Own w w5 p H5 (s4.crashed (among l2))) := o5
              clear D5 T5 o5 ccr hc4
              rcases HO4.out.2 (among l2) with hI5 | hI5
              · rcases Nat.eq_zero_or_pos i with h0 | h0
                · subst h0
                  have cr := inv_read_none HO5.out rfl (by rw [crashed_lay]; exact hI5)
                  clear hI5
                  go_wp2_with fail
                  refine cr.mono ?_
                  rintro e w6 ⟨rfl, b6⟩
                  have HB6 : Hid (Unit → Below w.heap.size w (w6.alloc (.cells #[.int .i64 0, .int .i64 0] 32))) := fun _ => (HO5.out.bel.trans (b6.mono HO5.out.bel.size)).alloc (Nat.le_trans HO5.out.bel.size b6.size) _
                  clear b6 cr
                  go_wp2_with fail
                  refine (awake24 _).mono ?_
                  rintro e w7 ⟨rfl, b7⟩
                  have HB7 : Hid (Below w.heap.size w w7) := (HB6.out ()).trans (b7.mono (HB6.out ()).size)
                  clear b7
                  go_wp2_with fail
                  go_ret
                  exact ⟨rfl, HB7.out⟩
                · have cr := inv_read_some HO5.out rfl (by rw [crashed_lay]; exact hI5) h0 (by omega) HSQ.out.few
                  rw [← HT.out] at cr
                  obtain ⟨y, hy⟩ : ∃ y : Int, y = ((fI (i - 1) : Nat) : Int) := ⟨_, rfl⟩
                  rw [← hy] at cr
                  clear hI5 hy
                  go_wp2_with fail
                  refine cr.mono ?_
                  rintro e w6 ⟨rfl, b6⟩
                  have HB6 : Hid (Unit → Below w.heap.size w (w6.alloc (.cells #[.int .i64 y, .int .i64 8] 32))) := fun _ => (HO5.out.bel.trans (b6.mono HO5.out.bel.size)).alloc (Nat.le_trans HO5.out.bel.size b6.size) _
                  clear b6 cr
                  go_wp2_with fail
                  refine (awake24 _).mono ?_
                  rintro e w7 ⟨rfl, b7⟩
                  have HB7 : Hid (Below w.heap.size w w7) := (HB6.out ()).trans (b7.mono (HB6.out ()).size)
                  clear b7
                  go_wp2_with fail
                  go_ret
                  exact ⟨rfl, HB7.out⟩
              · have cr := inv_read_some HO5.out rfl (by rw [crashed_lay]; exact hI5) (by omega) (by omega) (fun j hj => by
                  rcases Nat.lt_or_ge j i with h | h
                  · exact HSQ.out.few j h
                  · obtain rfl : j = i := by omega
                    exact HTT.out)
                rw [last_succ, HXX.out.1, show ((i + 1 : Nat) : Int) = (i : Int) + 1 by omega] at cr
                obtain ⟨y, hy⟩ : ∃ y : Int, y = ((fI (i + 1 - 1) : Nat) : Int) := ⟨_, rfl⟩
                rw [← hy] at cr
                have hne : ((i : Int) + 1 == (i : Int)) = false := by simp; omega
                clear hI5 hy
                go_wp2_with fail
                refine cr.mono ?_
                rintro e w6 ⟨rfl, b6⟩
                have bw6 := HO5.out.bel.trans (b6.mono HO5.out.bel.size)
                have hc6 := HC.out w6 bw6
                have hb6 : b < w6.heap.size := Nat.lt_of_lt_of_le hbw bw6.size
                have HB6 : Hid (Unit → Below w.heap.size w (w6.alloc (.cells #[.int .i64 y, .int .i64 8] 32))) := fun _ => bw6.alloc bw6.size _
                clear b6 cr bw6
                go_wp2_with fail
                refine (awake24 _).mono ?_
                rintro e w7 ⟨rfl, b7⟩
                have HB7 : Hid (Below w.heap.size w w7) := (HB6.out ()).trans (b7.mono (HB6.out ()).size)
                clear b7
                go_wp2_with fail
                go_ret
                exact ⟨rfl, HB7.out⟩
          · have he : ((i : Int) == (len0 : Int) - 1) = false := by simp; omega
            have cl := HLY.out wr H' s' HSQ.out.own rfl HSQ.out.wait
            go_wp2_with fail
            refine cl.mono ?_
            rintro e w4 ⟨H4, s4, o4, hr⟩
            have hc4 := HC.out w4 o4.bel
            rcases hr with ⟨rfl, hI4, hw4, ho4⟩ | ⟨rfl, hI4⟩
            · have HN : Hid (Sq w w4 p H4 s4 L (i + 1)) := ⟨o4, hI4, hw4, ho4, fun j hj => by
                rcases Nat.lt_or_ge j i with h | h
                · exact HSQ.out.few j h
                · obtain rfl : j = i := by omega
                  exact HTT.out⟩
              clear o4 hI4 hw4 ho4 cl
              go_wp2_with fail
              go_roundg (len0 - (i + 1))
              case measure => omega
              case rel => exact ⟨i + 1, H4, s4, X, by omega, by go_num, rfl, by rw [last_succ]; exact HXX.out.1.symm, HN.out⟩
            · have ccr := crash_any o4.dev (.slice a2 len2 cap2) l2 (HR2.out.1.below o4.bel) HR2.out.2.1
              rw [o4.at_] at ccr
              have HO4 : Hid (Own w w4 p H4 s4 ∧ ∀ g, Inv (s4.crashed g).sure L i ∨ Inv (s4.crashed g).sure L (i + 1)) := ⟨o4, hI4⟩
              clear o4 hI4 cl
              go_wp2_with fail
              refine ccr.mono ?_
              rintro e w5 ⟨rfl, H5, D5, T5⟩
              have o5 := HO4.out.1.turned D5 T5
              have HO5 : Hid (Own w w5 p H5 (s4.crashed (among l2))) := o5
              clear D5 T5 o5 ccr hc4
              rcases HO4.out.2 (among l2) with hI5 | hI5
              · rcases Nat.eq_zero_or_pos i with h0 | h0
                · subst h0
                  have cr := inv_read_none HO5.out rfl (by rw [crashed_lay]; exact hI5)
                  clear hI5
                  go_wp2_with fail
                  refine cr.mono ?_
                  rintro e w6 ⟨rfl, b6⟩
                  have HB6 : Hid (Unit → Below w.heap.size w (w6.alloc (.cells #[.int .i64 0, .int .i64 0] 32))) := fun _ => (HO5.out.bel.trans (b6.mono HO5.out.bel.size)).alloc (Nat.le_trans HO5.out.bel.size b6.size) _
                  clear b6 cr
                  go_wp2_with fail
                  refine (awake24 _).mono ?_
                  rintro e w7 ⟨rfl, b7⟩
                  have HB7 : Hid (Below w.heap.size w w7) := (HB6.out ()).trans (b7.mono (HB6.out ()).size)
                  clear b7
                  go_wp2_with fail
                  go_ret
                  exact ⟨rfl, HB7.out⟩
                · have cr := inv_read_some HO5.out rfl (by rw [crashed_lay]; exact hI5) h0 (by omega) HSQ.out.few
                  rw [← HT.out] at cr
                  obtain ⟨y, hy⟩ : ∃ y : Int, y = ((fI (i - 1) : Nat) : Int) := ⟨_, rfl⟩
                  rw [← hy] at cr
                  clear hI5 hy
                  go_wp2_with fail
                  refine cr.mono ?_
                  rintro e w6 ⟨rfl, b6⟩
                  have HB6 : Hid (Unit → Below w.heap.size w (w6.alloc (.cells #[.int .i64 y, .int .i64 8] 32))) := fun _ => (HO5.out.bel.trans (b6.mono HO5.out.bel.size)).alloc (Nat.le_trans HO5.out.bel.size b6.size) _
                  clear b6 cr
                  go_wp2_with fail
                  refine (awake24 _).mono ?_
                  rintro e w7 ⟨rfl, b7⟩
                  have HB7 : Hid (Below w.heap.size w w7) := (HB6.out ()).trans (b7.mono (HB6.out ()).size)
                  clear b7
                  go_wp2_with fail
                  go_ret
                  exact ⟨rfl, HB7.out⟩
              · have cr := inv_read_some HO5.out rfl (by rw [crashed_lay]; exact hI5) (by omega) (by omega) (fun j hj => by
                  rcases Nat.lt_or_ge j i with h | h
                  · exact HSQ.out.few j h
                  · obtain rfl : j = i := by omega
                    exact HTT.out)
                rw [last_succ, HXX.out.1, show ((i + 1 : Nat) : Int) = (i : Int) + 1 by omega] at cr
                obtain ⟨y, hy⟩ : ∃ y : Int, y = ((fI (i + 1 - 1) : Nat) : Int) := ⟨_, rfl⟩
                rw [← hy] at cr
                have hne : ((i : Int) + 1 == (i : Int)) = false := by simp; omega
                clear hI5 hy
                go_wp2_with fail
                refine cr.mono ?_
                rintro e w6 ⟨rfl, b6⟩
                have bw6 := HO5.out.bel.trans (b6.mono HO5.out.bel.size)
                have hc6 := HC.out w6 bw6
                have hb6 : b < w6.heap.size := Nat.lt_of_lt_of_le hbw bw6.size
                have HB6 : Hid (Unit → Below w.heap.size w (w6.alloc (.cells #[.int .i64 y, .int .i64 8] 32))) := fun _ => bw6.alloc bw6.size _
                clear b6 cr bw6
                go_wp2_with fail
                refine (awake24 _).mono ?_
                rintro e w7 ⟨rfl, b7⟩
                have HB7 : Hid (Below w.heap.size w w7) := (HB6.out ()).trans (b7.mono (HB6.out ()).size)
                clear b7
                go_wp2_with fail
                go_ret
                exact ⟨rfl, HB7.out⟩
        · have h5I : 512 < (X.size : Int) := by omega
          go_wp2_with fail
          refine (awake24 _).mono ?_
          rintro e w3 ⟨rfl, b3⟩
          have HB3 : Hid (Below w.heap.size w w3) := HSQ.out.own.bel.trans (b3.mono HSQ.out.own.bel.size)
          clear b3 hc0
          go_wp2_with fail
          go_ret
          exact ⟨rfl, HB3.out⟩
      · have hiI : ¬ (i : Int) < (len0 : Int) := by omega
        have hie : i = len0 := by omega
        subst hie
        rcases Nat.eq_zero_or_pos i with h0 | h0
        · subst h0
          have cr := inv_read_none HSQ.out.own HSQ.out.off (by rw [HSQ.out.wait, lay_nil]; exact HSQ.out.inv)
          go_wp2_with fail
          refine cr.mono ?_
          rintro e w3 ⟨rfl, b3⟩
          have HB3 : Hid (Unit → Below w.heap.size w (w3.alloc (.cells #[.int .i64 0, .int .i64 0] 32))) := fun _ => (HSQ.out.own.bel.trans (b3.mono HSQ.out.own.bel.size)).alloc (Nat.le_trans HSQ.out.own.bel.size b3.size) _
          clear b3 cr
          go_wp2_with fail
          refine (awake24 _).mono ?_
          rintro e w4 ⟨rfl, b4⟩
          have HB4 : Hid (Below w.heap.size w w4) := (HB3.out ()).trans (b4.mono (HB3.out ()).size)
          clear b4
          go_wp2_with fail
          go_ret
          exact ⟨rfl, HB4.out⟩
        · have cr := inv_read_some HSQ.out.own HSQ.out.off (by rw [HSQ.out.wait, lay_nil]; exact HSQ.out.inv) h0 (by omega) HSQ.out.few
          rw [← HT.out] at cr
          obtain ⟨y, hy⟩ : ∃ y : Int, y = ((fI (i - 1) : Nat) : Int) := ⟨_, rfl⟩
          rw [← hy] at cr
          have hz : ((i : Int) == 0) = false := by simp; omega
          clear hy
          go_wp2_with fail
          refine cr.mono ?_
          rintro e w3 ⟨rfl, b3⟩
          have HB3 : Hid (Unit → Below w.heap.size w (w3.alloc (.cells #[.int .i64 y, .int .i64 8] 32))) := fun _ => (HSQ.out.own.bel.trans (b3.mono HSQ.out.own.bel.size)).alloc (Nat.le_trans HSQ.out.own.bel.size b3.size) _
          clear b3 cr
          go_wp2_with fail
          refine (awake24 _).mono ?_
          rintro e w4 ⟨rfl, b4⟩
          have HB4 : Hid (Below w.heap.size w w4) := (HB3.out ()).trans (b4.mono (HB3.out ()).size)
          clear b4
          go_wp2_with fail
          go_ret
          exact ⟨rfl, HB4.out⟩
  · have h12I : 12 < (len0 : Int) := by omega
    go_wp2_with fail
    refine (awake24 _).mono ?_
    rintro e w3 ⟨rfl, b3⟩
    have HB3 : Hid (Below w.heap.size w w3) := HS0.out.own.bel.trans (b3.mono HS0.out.own.bel.size)
    clear b3
    go_wp2_with fail
    go_ret
    exact ⟨rfl, HB3.out⟩
end Go.Proofs.YthcjjcfiademnaaDoor
