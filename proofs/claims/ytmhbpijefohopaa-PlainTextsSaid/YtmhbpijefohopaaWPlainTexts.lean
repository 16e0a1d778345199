/-
  The walk of law 7's PlainTexts: any texts as bytes, and the texts of any bytes; what is put is taken as it was.
-/
import Derived.Test.YtmhbpijefohopaaWPlainInts
namespace Go.Proofs.Ytmhbpijefohopaa
open Go.RowKit

/-- What a law's walk is told of a slice of texts that came in. -/
def StrsAre (w : World) (a : Option Addr) (len : Nat) : Prop := ∃ l : List ByteArray, l.length = len ∧ len ≤ maxLen ∧ ∀ cap, ReadsS w (.slice a len cap) l
theorem strsAre_of {H : Type} {enc : TypeId × Value → H} {W : World} {base : Nat} {sp : Nat → Bool} {hd : Bool} {fuel : Nat} {a : Option Addr} {len cap : Nat} {x : DataW H × List MemPlace}
    (h : DataW.trod enc Try.prog W base sp hd fuel 30 [.slice a len cap] = some x) : StrsAre W a len := by
  obtain ⟨l, h1, h2, h3⟩ := strs_of h
  refine ⟨l, h1, by omega, fun c => ?_⟩
  rcases h2 with ⟨rfl, a', c', hv⟩ | ⟨b, off, c', hv, hne, hb, hc⟩
  · refine .inl ⟨rfl, a, c, ?_⟩
    simp only [List.length_nil] at h1
    rw [← h1]
  · simp only [Value.slice.injEq] at hv
    exact .inr ⟨b, off, c, by rw [hv.1, hv.2.1], hne, hb, hc⟩

theorem okT_dec (l : List ByteArray) : (okB l = true ∧ Pl.okT l) ∨ okB l = false := by
  cases h : okB l with
  | true => exact .inl ⟨rfl, (okB_iff l).1 h⟩
  | false => exact .inr rfl

set_option maxRecDepth 4000 in
set_option maxHeartbeats 4000000 in
theorem walkPlainTexts (a0 : Option Addr) (len0 cap0 : Nat) (w : World) (w0 : StrsAre w a0 len0) (s : ByteArray) (_ : s.size ≤ maxLen) (a2 : Int) (w2 : (Lit.int .i64 a2).wf = true) :
    Calls Try.prog 4 #[.slice a0 len0 cap0, .string s, .int .i64 a2] w fun e w' => e = .returned (.bool true) ∧ Below w.heap.size w w' := by
  obtain ⟨l, hll, hlm, hr0⟩ := w0
  have hr := hr0 cap0
  clear hr0
  have c0 : ∀ w1, Below w.heap.size w w1 → Calls Try.prog 12 #[.slice a0 len0 cap0, .int .i64 60] w1 (FewPost l 60 w1) := fun w1 hb => few_any w1 _ l 60 (by omega) (by omega) (hr.below hb)
  by_cases h512 : (512 : Int) < (s.size : Int)
  · go_enter Try.func4, Try.ntmps4
    go_wp2_with fail
    refine (c0 _ (Below.refl _ _)).mono ?_
    rintro e w1 ⟨b, rfl, _, hw1⟩
    replace hw1 := hw1.symm
    subst hw1
    cases b
    all_goals
      go_wp2_with (go_at_call 6; refine (awake_any _).mono ?_; rintro e w2 ⟨rfl, hb2⟩)
      go_ret
      exact ⟨rfl, hb2⟩
  · go_enter Try.func4, Try.ntmps4
    go_wp2_with fail
    refine (c0 _ (Below.refl _ _)).mono ?_
    rintro e w1 ⟨b, rfl, hfew, hw1⟩
    replace hw1 := hw1.symm
    subst hw1
    clear c0
    cases b with
    | false =>
      clear hfew
      go_wp2_with (go_at_call 6; refine (awake_any _).mono ?_; rintro e w2 ⟨rfl, hb2⟩)
      go_ret
      exact ⟨rfl, hb2⟩
    | true =>
      have hl : l.length ≤ 60 := hfew rfl
      clear hfew
      obtain ⟨n, rfl⟩ := Wd.word_of a2 w2
      have c1 : ∀ w1, Below w.heap.size w w1 → Calls Try.prog 13 #[.slice a0 len0 cap0] w1 fun e w' => e = .returned (.tuple #[.string (ptA l).1, .int .i64 (ptA l).2]) ∧ Below w1.heap.size w1 w' := fun w1 hb => putTexts_any _ l w1 (by omega) (hr.below hb)
      have c2 : ∀ w1, Below w.heap.size w w1 → Calls Try.prog 14 #[.slice a0 len0 cap0] w1 fun e w' => e = .returned (.tuple #[.string (ptA l).1, .int .i64 (ptA l).2]) ∧ Below w1.heap.size w1 w' := fun w1 hb => refPutTexts_any _ l w1 (by omega) (hr.below hb)
      have c4 := takeTexts_any s (by omega) n
      have c5 := refTakeTexts_any s (by omega) n
      unfold TookT at c4 c5
      have hta := ttA_len s.data.toList n.toInt
      have hsl : s.data.toList.length = s.size := by simp
      rw [hsl] at hta
      obtain ⟨d, hd⟩ : ∃ d, d = (ttA s.data.toList n.toInt).1 := ⟨_, rfl⟩
      obtain ⟨f, hf⟩ : ∃ f, f = (ttA s.data.toList n.toInt).2 := ⟨_, rfl⟩
      obtain ⟨z, hz⟩ : ∃ z, z = n.toInt := ⟨_, rfl⟩
      rw [← hd] at hta
      have HR : Hid (ReadsS w (.slice a0 len0 cap0) l) := hr
      have HL : Hid (l.length ≤ 1000000 ∧ d.length ≤ 1000000) := ⟨by omega, by omega⟩
      rw [← hd, ← hf, ← hz] at c4 c5
      rw [← hz]
      clear hr hta hd hf hz hsl w2 hlm
      -- the last call's contract, in both ways
      have c6 : ∃ (T : ByteArray) (g : Nat), ptA l = (T, g) ∧ ((g = 0 ∧ ∀ w1, Calls Try.prog 15 #[.string T, .int .i64 (len0 : Int)] w1 fun e w' => (∃ v, e = .returned (.tuple #[v, .int .i64 0]) ∧ OwnsS w' w1.heap.size v l) ∧ Below w1.heap.size w1 w') ∨ (g = 1 ∧ ∀ w1, Calls Try.prog 15 #[.string T, .int .i64 (len0 : Int)] w1 fun e w' => (∃ (v : Value) (i : Nat), e = .returned (.tuple #[v, .int .i64 (i : Int)])) ∧ Below w1.heap.size w1 w')) := by
        rcases okT_dec l with ⟨_, ho⟩ | ho
        · exact ⟨_, _, ptA_ok ho, .inl ⟨rfl, fun w1 => hll ▸ takeTexts_enc l (by omega) ho w1⟩⟩
        · refine ⟨ByteArray.empty, 1, by rw [ptA, ho]; rfl, .inr ⟨rfl, fun w1 => ?_⟩⟩
          have h := takeTexts_any ByteArray.empty (by decide) (BitVec.ofNat 64 len0) w1
          rw [Wd.toInt_of_small _ (by omega)] at h
          refine h.mono ?_
          rintro e w' ⟨⟨v, rfl, _⟩, hb⟩
          exact ⟨⟨v, _, rfl⟩, hb⟩
      obtain ⟨T, g, hp, c6⟩ := c6
      rw [hp] at c1 c2
      clear hp hl hll
      go_wp2_with fail
      refine (c1 _ (Below.refl _ _)).mono ?_
      rintro e w1 ⟨rfl, hbb⟩
      go_wp2_with fail
      refine (c2 _ hbb).mono ?_
      rintro e w2 ⟨rfl, hb2⟩
      replace hbb := hbb.trans (hb2.mono hbb.size)
      clear hb2 c1 c2
      go_wp2_with fail
      refine (c4 _).mono ?_
      rintro e w3 ⟨⟨v3, rfl, hown3⟩, hb3⟩
      replace hbb := hbb.trans (hb3.mono hbb.size)
      replace hown3 := hown3.reads
      clear hb3 c4
      go_wp2_with fail
      refine (c5 _).mono ?_
      rintro e w4 ⟨⟨v4, rfl, hown4⟩, hb4⟩
      replace hbb := hbb.trans (hb4.mono hbb.size)
      replace hown3 := hown3.below hb4
      replace hown4 := hown4.reads
      clear hb4 c5
      have hsame := sameT_any _ _ _ d HL.out.2 hown3 hown4
      clear hown3 hown4
      go_wp2_with fail
      refine hsame.mono ?_
      clear hsame
      rintro e w5 ⟨rfl, hw5⟩
      replace hbb := below_drewN hbb hw5
      clear hw5
      rcases c6 with ⟨rfl, c6⟩ | ⟨rfl, c6⟩
      · go_wp2_with fail
        refine (c6 _).mono ?_
        rintro e w6 ⟨⟨v6, rfl, hown6⟩, hb6⟩
        replace hbb := hbb.trans (hb6.mono hbb.size)
        clear hb6 c6
        have hsame := sameT_any _ _ _ l HL.out.1 hown6.reads (HR.out.below hbb)
        clear hown6
        go_wp2_with fail
        refine hsame.mono ?_
        clear hsame
        rintro e w7 ⟨rfl, hw7⟩
        replace hbb := below_drewN hbb hw7
        clear hw7
        go_wp2_with (go_at_call 6; refine (awake_any _).mono ?_; rintro e w8 ⟨rfl, hb8⟩)
        go_ret
        exact ⟨rfl, hbb.trans (hb8.mono hbb.size)⟩
      · go_wp2_with fail
        refine (c6 _).mono ?_
        rintro e w6 ⟨⟨v6, i6, rfl⟩, hb6⟩
        replace hbb := hbb.trans (hb6.mono hbb.size)
        clear hb6 c6
        go_wp2_with (go_at_call 6; refine (awake_any _).mono ?_; rintro e w8 ⟨rfl, hb8⟩)
        go_ret
        exact ⟨rfl, hbb.trans (hb8.mono hbb.size)⟩
end Go.Proofs.Ytmhbpijefohopaa
