/-
  The walk of law 7's PlainInts: any numbers as bytes, and the numbers of any bytes; what is put is taken as it was.
-/
import Derived.Test.YtmhbpijefohopaaWPlainApart
namespace Go.Proofs.Ytmhbpijefohopaa
open Go.RowKit

theorem below_drewN {B : Nat} {w w1 w2 : World} (h : Below B w w1) (e : ∃ n, w2 = w1.drewN n) : Below B w w2 := by
  obtain ⟨n, rfl⟩ := e
  exact ⟨h.os, h.tape, h.output, h.size, h.block⟩

set_option maxRecDepth 4000 in
set_option maxHeartbeats 4000000 in
theorem walkPlainInts (a0 : Option Addr) (len0 cap0 : Nat) (z0 : List Int) (w : World) (w0 : IsRow .i64 w a0 len0 cap0 z0) (s : ByteArray) (_ : s.size ≤ maxLen) (a2 : Int) (w2 : (Lit.int .i64 a2).wf = true) :
    Calls Try.prog 3 #[.slice a0 len0 cap0, .string s, .int .i64 a2] w fun e w' => e = .returned (.bool true) ∧ Below w.heap.size w w' := by
  by_cases h100 : (100 : Int) < (len0 : Int)
  · go_enter Try.func3, Try.ntmps3
    go_wp2_with (go_at_call 6; refine (awake_any _).mono ?_; rintro e w2 ⟨rfl, hb2⟩)
    go_ret
    exact ⟨rfl, hb2⟩
  · by_cases h512 : (512 : Int) < (s.size : Int)
    · go_enter Try.func3, Try.ntmps3
      go_wp2_with (go_at_call 6; refine (awake_any _).mono ?_; rintro e w2 ⟨rfl, hb2⟩)
      go_ret
      exact ⟨rfl, hb2⟩
    · obtain ⟨n, rfl⟩ := Wd.word_of a2 w2
      obtain ⟨l, hll, hr⟩ := reads_of_row w0
      have hl : l.length ≤ 100 := by omega
      obtain ⟨T, hT⟩ : ∃ T, T = Pl.txt (Pl.encI l) := ⟨_, rfl⟩
      have c1 : ∀ w1, Below w.heap.size w w1 → Calls Try.prog 7 #[.slice a0 len0 cap0] w1 fun e w' => e = .returned (.string T) ∧ Below w1.heap.size w1 w' := fun w1 hb => hT ▸ putInts_any _ l w1 (by omega) (hr.below hb)
      have c2 : ∀ w1, Below w.heap.size w w1 → Calls Try.prog 10 #[.slice a0 len0 cap0] w1 fun e w' => e = .returned (.string T) ∧ Below w1.heap.size w1 w' := fun w1 hb => hT ▸ refPutInts_any _ l w1 (by omega) (hr.below hb)
      have c3 : ∀ w1, Calls Try.prog 8 #[.string T, .int .i64 (len0 : Int)] w1 fun e w' => (∃ v, e = .returned (.tuple #[v, .int .i64 0]) ∧ OwnsI w' w1.heap.size v l) ∧ Below w1.heap.size w1 w' := fun w1 => hT ▸ hll ▸ takeInts_enc l (by omega) w1
      have c4 := takeInts_any s (by omega) n
      have c5 := refTakeInts_any s (by omega) n
      unfold TookI at c4 c5
      have hta := tiA_len s.data.toList n.toInt
      have hsl : s.data.toList.length = s.size := by simp
      rw [hsl] at hta
      obtain ⟨d, hd⟩ : ∃ d, d = (tiA s.data.toList n.toInt).1 := ⟨_, rfl⟩
      obtain ⟨f, hf⟩ : ∃ f, f = (tiA s.data.toList n.toInt).2 := ⟨_, rfl⟩
      obtain ⟨z, hz⟩ : ∃ z, z = n.toInt := ⟨_, rfl⟩
      rw [← hd] at hta
      have HR : Hid (ReadsI w (.slice a0 len0 cap0) l) := hr
      have HL : Hid (l.length ≤ 1000000 ∧ d.length ≤ 1000000) := ⟨by omega, by omega⟩
      rw [← hd, ← hf, ← hz] at c4 c5
      rw [← hz]
      clear hT hll hr hta hl w0 hd hf hz hsl w2
      go_enter Try.func3, Try.ntmps3
      go_wp2_with fail
      refine (c1 _ (Below.refl _ _)).mono ?_
      rintro e w1 ⟨rfl, hbb⟩
      go_wp2_with fail
      refine (c3 _).mono ?_
      rintro e w2 ⟨⟨v2, rfl, hown2⟩, hb2⟩
      replace hbb := hbb.trans (hb2.mono hbb.size)
      clear hb2 c1 c3
      replace hown2 := hown2.reads
      go_wp2_with fail
      refine (c4 _).mono ?_
      rintro e w3 ⟨⟨v3, rfl, hown3⟩, hb3⟩
      replace hbb := hbb.trans (hb3.mono hbb.size)
      replace hown2 := hown2.below hb3
      replace hown3 := hown3.reads
      clear hb3 c4
      go_wp2_with fail
      refine (c5 _).mono ?_
      rintro e w4 ⟨⟨v4, rfl, hown4⟩, hb4⟩
      replace hbb := hbb.trans (hb4.mono hbb.size)
      replace hown2 := hown2.below hb4
      replace hown3 := hown3.below hb4
      replace hown4 := hown4.reads
      clear hb4 c5
      go_wp2_with fail
      refine (c2 _ hbb).mono ?_
      rintro e w5 ⟨rfl, hb5⟩
      replace hbb := hbb.trans (hb5.mono hbb.size)
      replace hown2 := hown2.below hb5
      replace hown3 := hown3.below hb5
      replace hown4 := hown4.below hb5
      clear hb5 c2
      have hsame := same_any _ _ _ l HL.out.1 hown2 (HR.out.below hbb)
      clear hown2
      go_wp2_with fail
      refine hsame.mono ?_
      clear hsame
      rintro e w6 ⟨rfl, hw6⟩
      have hk6 := below_drewN (Below.refl w5.heap.size w5) hw6
      replace hbb := below_drewN hbb hw6
      replace hown3 := hown3.below hk6
      replace hown4 := hown4.below hk6
      clear hw6 hk6
      have hsame := same_any _ _ _ d HL.out.2 hown3 hown4
      clear hown3 hown4
      go_wp2_with fail
      refine hsame.mono ?_
      clear hsame
      rintro e w7 ⟨rfl, hw7⟩
      replace hbb := below_drewN hbb hw7
      clear hw7
      go_wp2_with (go_at_call 6; refine (awake_any _).mono ?_; rintro e w8 ⟨rfl, hb8⟩)
      go_ret
      exact ⟨rfl, hbb.trans (hb8.mono hbb.size)⟩
end Go.Proofs.Ytmhbpijefohopaa
