/-
  The contract of package span's Of: the spans of places.
-/
import Derived.Test.YteijhnfciiblmaaSLib
import Derived.Test.YteijhnfciiblmaaSIdx
namespace Go.Proofs.Yteijhnfciiblmaa
open Go.RowKit

/-- What Of answers. -/
def OfAns (w : World) (l : List Int) (e : Ending) (w' : World) : Prop :=
  ((l.any badB = false ∧ ∃ v R, e = .returned (.tuple #[v, .int .i64 0]) ∧ SpansIs w' v R ∧ IsSet R (fun x => x ∈ l)) ∨ (l.any badB = true ∧ e = .returned (.tuple #[.slice none 0 0, .int .i64 1]))) ∧ Below w.heap.size w w'
theorem good_of {l : List Int} (h : l.any badB = false) : ∀ x ∈ l, 0 ≤ x ∧ x < 65536 := fun x hx => by
  have := List.any_eq_false.1 h x hx
  simp [badB] at this
  omega
theorem end_last {R : List Sn} {n : Nat} (h : R.length = n + 1) : ∃ p s, R = p ++ [s] ∧ p.length = n ∧ endS R = s.hi := by
  obtain ⟨p, s, rfl, hp⟩ := list_snoc h
  exact ⟨p, s, rfl, hp, end_snoc p s⟩

set_option maxRecDepth 4000 in
set_option maxHeartbeats 4000000 in
theorem of_any {w : World} {v : Value} {l : List Int} (h : ReadsZ w v l) (hl : l.length ≤ 100000) :
    Calls Try.prog 27 #[v] w (OfAns w l) := by
  have hbad := hasZ_any h (by omega)
  have hcl := clone_any h (by omega)
  obtain ⟨a, n0, cap0, rfl, hn0, hcap0⟩ := h.slice
  cases hb : l.any badB with
  | true =>
    rw [hb] at hbad
    have HB : Hid (l.any badB = true) := hb
    clear h hcl hn0 hb
    go_enter Try.func27, Try.ntmps27
    go_wp2_with fail
    refine hbad.mono ?_
    rintro e w1 ⟨rfl, rfl⟩
    go_wp2_with fail
    go_ret2
    exact ⟨.inr ⟨HB.out, rfl⟩, Below.refl _ _⟩
  | false =>
    rw [hb] at hbad
    have HL : Hid (l.any badB = false ∧ l.length ≤ 100000) := ⟨hb, hl⟩
    obtain ⟨i0, hi0, hz0, hz1, hz2⟩ := info_parts info_span
    have HI : Hid (Try.prog.info? 43 = some i0 ∧ i0.zero = some (.agg #[.int .i64 0, .int .i64 0]) ∧ i0.size = 2 ∧ i0.bytes = 16) := ⟨hi0, hz0, hz1, hz2⟩
    clear h hn0 hb hl hi0 hz0 hz1 hz2
    go_enter Try.func27, Try.ntmps27
    go_wp2_with fail
    refine hbad.mono ?_
    rintro e w1 ⟨rfl, hw1⟩
    replace hw1 := hw1.symm
    subst hw1
    clear hbad
    go_wp2_with fail
    refine hcl.mono ?_
    rintro e w2 ⟨⟨v2, rfl, ho2⟩, hb2⟩
    have hso := sort_any ho2 (by have := HL.out.2; omega) hb2.size
    have H2 : Hid (Below w.heap.size w w2) := hb2
    clear hcl ho2 hb2
    go_wp2_with fail
    refine hso.mono ?_
    rintro e w3 ⟨rfl, ho3, hb3⟩
    have H3 : Hid (Below w.heap.size w w3) := H2.out.trans hb3
    have hco := compact_any ho3 (by rw [sort_len]; have := HL.out.2; omega) H3.out.size
    clear hso ho3 hb3 H2
    go_wp2_with fail
    refine hco.mono ?_
    rintro e w4 ⟨⟨v4, rfl, hr4⟩, hb4⟩
    have H4 : Hid (Below w.heap.size w w4) := H3.out.trans hb4
    clear hco H3 hb4
    obtain ⟨c, hc⟩ : ∃ c, c = Lib.compact (sortZ l) := ⟨_, rfl⟩
    have hrise : Rise c := by rw [hc]; exact compact_rise (sort_le l)
    have hmem : ∀ x, x ∈ c ↔ x ∈ l := fun x => by rw [hc, compact_mem, sort_mem]
    have hclen : c.length ≤ 100000 := by rw [hc]; have := compact_le (sortZ l); rw [sort_len] at this; have := HL.out.2; omega
    have hgood : ∀ x ∈ c, 0 ≤ x ∧ x < 65536 := fun x hx => good_of HL.out.1 x ((hmem x).1 hx)
    rw [← hc] at hr4
    clear hc
    obtain ⟨pa, n, cap, rfl, hn, hcap⟩ := hr4.slice
    have hn1 : (n : Int) ≤ 100000 := by omega
    have HC : Hid (ReadsZ w4 (.slice pa n cap) c ∧ c.length = n ∧ Rise c ∧ (∀ x ∈ c, 0 ≤ x ∧ x < 65536) ∧ ∀ x, x ∈ c ↔ x ∈ l) := ⟨hr4, hn, hrise, hgood, hmem⟩
    clear hr4 hn hrise hgood hmem hclen
    go_wp2_with fail
    go_loopg [5, 18] n (fun gg s5 s18 wx => ∃ (k : Nat) (R : List Sn), k + gg = n ∧ s18 = .int .i64 k ∧ Hid (OfP c k R ∧ R.length ≤ k) ∧ Hid (SRows wx s5 43 2 (R.map sc) ∧ ∀ x, s5.ownBlock = some x → w4.heap.size ≤ x) ∧ Hid (Below w4.heap.size w4 wx))
    case atStart => exact ⟨0, [], by omega, rfl, ⟨ofP_start HC.out.2.2.2.1, by simp⟩, ⟨srows_nil _ _ _, noOwn _⟩, Below.refl _ _⟩
    case round =>
      obtain ⟨k, R, hkg, rfl, HR, HS, HB⟩ := hrel
      by_cases hk : k < n
      · have hkI : (k : Int) < (n : Int) := by omega
        obtain ⟨y, b, off, hy, rfl, c0⟩ := (HC.out.1.below HB.out).at hk
        have hyb := HC.out.2.2.2.1 y (List.mem_of_getElem? hy)
        have hr2 : IntKind.i64.wrap ((k : Int) + 1) = (k : Int) + 1 := by rw [IntKind.wrap_i64]; omega
        have HY : Hid (c[k]? = some y) := hy
        have hlen := HR.out.2
        obtain ⟨a3, c3, h3⟩ := srows_slice HS.out.1
        rw [List.length_map] at h3
        subst h3
        clear hy
        have hnew : ∀ (hne : endS R ≠ y), Hid (OfP c (k + 1) (R ++ [⟨y, y + 1⟩]) ∧ (R ++ [(⟨y, y + 1⟩ : Sn)]).length ≤ k + 1) := fun hne => ⟨ofP_new HC.out.2.2.1 HC.out.2.2.2.1 HR.out.1 HY.out hne, by simp; omega⟩
        have HV : Hid (SRows (wr.alloc (.cells #[.int .i64 y, .int .i64 (y + 1)] 43)) (.slice a3 R.length c3) 43 2 (R.map sc) ∧ SRows (wr.alloc (.cells #[.int .i64 y, .int .i64 (y + 1)] 43)) (.slice (some ⟨wr.heap.size, 0, none⟩) 1 1) 43 2 [sc ⟨y, y + 1⟩]) :=
          ⟨HS.out.1.of_block (fun y hy => (below1 wr _).block y (HS.out.1.lt hy)), srows_new wr (sc ⟨y, y + 1⟩) 43 (sz := 2) rfl⟩
        have HX : Hid ((R.map sc).length + [sc ⟨y, y + 1⟩].length = R.length + 1 ∧ R.map sc ++ [sc ⟨y, y + 1⟩] = (R ++ [(⟨y, y + 1⟩ : Sn)]).map sc ∧ R.length + 1 ≤ 1000000 ∧ w4.heap.size ≤ (wr.alloc (.cells #[.int .i64 y, .int .i64 (y + 1)] 43)).heap.size) :=
          ⟨by simp, by simp, by omega, by have := HB.out.size; simp; omega⟩
        have hone := sc_one ⟨y, y + 1⟩
        rcases Nat.eq_zero_or_pos R.length with h0 | hp
        · have hR0 : R = [] := List.eq_nil_of_length_eq_zero h0
          subst hR0
          have HN := hnew (by show (-1 : Int) ≠ y; omega)
          clear hnew h0
          simp only [List.length_nil] at HV HX HS ⊢
          go_wp2_with (at_builtin; refine append_rows rfl (.tmp 44) (.tmp 49) 22 43 i0 _ 2 16 rfl Try.underlying22 HI.out.1 HI.out.2.1 HI.out.2.2.1 HI.out.2.2.2 rfl (by decide) (by decide) rfl rfl HV.out.1 HV.out.2 HS.out.2 HX.out.2.2.2 hone (0 + 1) HX.out.1 (([] ++ [(⟨y, y + 1⟩ : Sn)]).map sc) HX.out.2.1 HX.out.2.2.1 ?_; intro va vc w5 h1 h2 h3; have HS5 : Hid (SRows w5 (.slice va (0 + 1) vc) 43 2 (([] ++ [(⟨y, y + 1⟩ : Sn)]).map sc) ∧ ∀ x, (Value.slice va (0 + 1) vc).ownBlock = some x → w4.heap.size ≤ x) := ⟨h1, h2⟩; have HB5 : Hid (Below w4.heap.size w4 w5) := (HB.out.trans (belowOne _ HB.out.size _)).trans h3; clear h1 h2 h3)
          go_roundg (n - (k + 1))
          case measure => clear hr2; omega
          case rel => exact ⟨k + 1, _, by clear hr2; omega, by go_num, HN, HS5, HB5⟩
        · obtain ⟨q, hq⟩ : ∃ q, R.length = q + 1 := ⟨R.length - 1, by omega⟩
          obtain ⟨p, s, rfl, hpl, hes⟩ := end_last hq
          have hlp : (p ++ [s]).length = q + 1 := hq
          rw [hlp] at HV HX HS hlen ⊢
          rw [hes] at hnew
          obtain ⟨g, rfl, hg, g1, g2, g3⟩ := hi_at HS.out.1 rfl hpl
          have hqI : (q : Int) ≤ 100000 := by omega
          have hmb := may_snoc.1 HR.out.1.may
          have heb := end_bd (may_append_left HR.out.1.may)
          have HO : Hid (w4.heap.size ≤ g) := HS.out.2 g rfl
          have hon : s.hi = y → Hid (OfP c (k + 1) (p ++ [⟨s.lo, s.hi + 1⟩]) ∧ (p ++ [(⟨s.lo, s.hi + 1⟩ : Sn)]).length ≤ k + 1) := fun e => ⟨ofP_on HC.out.2.2.1 HC.out.2.2.2.1 HR.out.1 HY.out e, by simp; omega⟩
          have hhb : 0 ≤ s.hi ∧ s.hi ≤ 65536 := by omega
          clear hes hq hp hlp hmb heb hpl
          by_cases hc : s.hi = y
          · have HN := hon hc
            have HG : Hid (∀ u : Int, SRows (wr.setCell ⟨g, q * 2 + 1, none⟩ (.int .i64 u)) (.slice (some ⟨g, 0, none⟩) (q + 1) c3) 43 2 ((p ++ [(⟨s.lo, u⟩ : Sn)]).map sc)) := g3
            clear hon hnew g3 HV HX hone
            obtain ⟨lo, hi⟩ := s
            simp only at *
            subst hc
            go_wp2_with fail
            go_roundg (n - (k + 1))
            case measure => clear hr2; omega
            case rel => exact ⟨k + 1, _, by clear hr2; omega, by go_num, HN, ⟨HG.out _, fun x hx => by simp [Value.ownBlock] at hx; subst hx; exact HO.out⟩, HB.out.setCell HO.out _⟩
          · have HN := hnew hc
            have B1 : (s.hi == y) = false := by simpa using hc
            clear hon hnew g3 hc
            go_wp2_with (at_builtin; refine append_rows rfl (.tmp 44) (.tmp 49) 22 43 i0 _ 2 16 rfl Try.underlying22 HI.out.1 HI.out.2.1 HI.out.2.2.1 HI.out.2.2.2 rfl (by decide) (by decide) rfl rfl HV.out.1 HV.out.2 HS.out.2 HX.out.2.2.2 hone (q + 1 + 1) HX.out.1 ((p ++ [s] ++ [(⟨y, y + 1⟩ : Sn)]).map sc) HX.out.2.1 HX.out.2.2.1 ?_; intro va vc w5 h1 h2 h3; have HS5 : Hid (SRows w5 (.slice va (q + 1 + 1) vc) 43 2 ((p ++ [s] ++ [(⟨y, y + 1⟩ : Sn)]).map sc) ∧ ∀ x, (Value.slice va (q + 1 + 1) vc).ownBlock = some x → w4.heap.size ≤ x) := ⟨h1, h2⟩; have HB5 : Hid (Below w4.heap.size w4 w5) := (HB.out.trans (belowOne _ HB.out.size _)).trans h3; clear h1 h2 h3)
            go_roundg (n - (k + 1))
            case measure => clear hr2; omega
            case rel => exact ⟨k + 1, _, by clear hr2; omega, by go_num, HN, HS5, HB5⟩
      · have hkI : ¬ (k : Int) < (n : Int) := by omega
        obtain rfl : k = n := by omega
        have HE : Hid (IsSet R (fun x => x ∈ l)) := by
          have h1 := HR.out.1
          rw [← HC.out.2.1] at h1
          have h2 := ofP_end h1
          exact ⟨h2.may, fun x => (h2.iff x).trans (HC.out.2.2.2.2 x)⟩
        go_wp2_with fail
        go_ret2
        exact ⟨.inl ⟨HL.out.1, _, R, rfl, spans_of_srows HS.out.1, HE.out⟩, H4.out.trans (HB.out.mono H4.out.size)⟩
end Go.Proofs.Yteijhnfciiblmaa
