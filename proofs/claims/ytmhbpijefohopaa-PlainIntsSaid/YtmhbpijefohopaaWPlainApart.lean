/-
  The walk of law 7's PlainApart: bytes that are taken, as numbers or as texts, are put as they were.
-/
import Derived.Test.YtmhbpijefohopaaPAwake
namespace Go.Proofs.Ytmhbpijefohopaa
open Go.RowKit

theorem OwnsI.shape {w : World} {B : Nat} {v : Value} {l : List (BitVec 64)} (h : OwnsI w B v l) : ∃ a c, v = .slice a l.length c := by
  rcases h.2 with ⟨rfl, h0⟩ | ⟨g, cap, cur, rfl, _⟩
  · exact ⟨none, 0, by rw [h0]⟩
  · exact ⟨_, _, rfl⟩
theorem OwnsS.shape {w : World} {B : Nat} {v : Value} {l : List ByteArray} (h : OwnsS w B v l) : ∃ a c, v = .slice a l.length c := by
  rcases h.2 with ⟨rfl, h0⟩ | ⟨g, cap, cur, rfl, _⟩
  · exact ⟨none, 0, by rw [h0]⟩
  · exact ⟨_, _, rfl⟩
theorem tiA_cases (s : ByteArray) (n : Int) : (tiA s.data.toList n).2 = 20 ∧ (tiA s.data.toList n).1 = [] ∨ (tiA s.data.toList n).2 = 0 ∧ Pl.txt (Pl.encI (tiA s.data.toList n).1) = s ∧ ((tiA s.data.toList n).1.length : Int) = n := by
  unfold tiA
  split
  · rename_i h
    refine .inr ⟨rfl, ?_, ?_⟩
    · rw [Pl.enc_dec _ _ (by omega), Pl.txt_of]
    · rw [Pl.decI_len]; omega
  · exact .inl ⟨rfl, rfl⟩
theorem tiA_len (s : List UInt8) (n : Int) : (tiA s n).1.length ≤ s.length := by
  unfold tiA
  split
  · rw [Pl.decI_len]; omega
  · simp
theorem ttA_cases (s : ByteArray) (n : Int) : (ttA s.data.toList n).2 = 20 ∧ (ttA s.data.toList n).1 = [] ∨ (ttA s.data.toList n).2 = 0 ∧ ptA (ttA s.data.toList n).1 = (s, 0) ∧ ((ttA s.data.toList n).1.length : Int) = n := by
  unfold ttA
  split
  · exact .inl ⟨rfl, rfl⟩
  · split
    · rename_i l h
      obtain ⟨h1, h2, h3⟩ := Pl.enc_tt _ _ _ h
      refine .inr ⟨rfl, ?_, ?_⟩
      · rw [ptA_ok h3, h1, Pl.txt_of]
      · rw [h2]; omega
    · exact .inl ⟨rfl, rfl⟩
theorem tt_len : ∀ (n : Nat) (s : List UInt8) (l : List ByteArray), Pl.tt n s = some l → l.length ≤ s.length := by
  intro n s l h
  apply Nat.le_of_not_lt
  intro e
  obtain ⟨h1, h2, h3⟩ := Pl.enc_tt _ _ _ h
  rw [h2] at e
  rw [Pl.tt_many n s e] at h
  cases h
theorem ttA_len (s : List UInt8) (n : Int) : (ttA s n).1.length ≤ s.length := by
  unfold ttA
  split
  · simp
  · split
    · rename_i l h
      exact tt_len _ _ _ h
    · simp

set_option maxRecDepth 4000 in
set_option maxHeartbeats 4000000 in
theorem walkPlainApart (s : ByteArray) (_ : s.size ≤ maxLen) (a1 : Int) (w1 : (Lit.int .i64 a1).wf = true) (w : World) :
    Calls Try.prog 5 #[.string s, .int .i64 a1] w fun e w' => e = .returned (.bool true) ∧ Below w.heap.size w w' := by
  by_cases h512 : (512 : Int) < (s.size : Int)
  · go_enter Try.func5, Try.ntmps5
    go_wp2_with (go_at_call 6; refine (awake_any _).mono ?_; rintro e w2 ⟨rfl, hb2⟩)
    go_ret
    exact ⟨rfl, hb2⟩
  · obtain ⟨n, rfl⟩ := Wd.word_of a1 w1
    have hsl : s.data.toList.length = s.size := by simp
    have c1 := takeInts_any s (by omega) n
    have c2 := takeTexts_any s (by omega) n
    have k1 := tiA_cases s n.toInt
    have k2 := ttA_cases s n.toInt
    have l1 := tiA_len s.data.toList n.toInt
    have l2 := ttA_len s.data.toList n.toInt
    rw [hsl] at l1 l2
    unfold TookI at c1
    unfold TookT at c2
    obtain ⟨z, hz⟩ : ∃ z, z = n.toInt := ⟨_, rfl⟩
    rw [← hz] at c1 c2 k1 k2 l1 l2 ⊢
    clear hz w1
    obtain ⟨la, hla⟩ : ∃ la, la = (tiA s.data.toList z).1 := ⟨_, rfl⟩
    obtain ⟨lb, hlb⟩ : ∃ lb, lb = (ttA s.data.toList z).1 := ⟨_, rfl⟩
    rw [← hla] at c1 k1 l1
    rw [← hlb] at c2 k2 l2
    clear hla hlb hsl
    have hla9 : la.length ≤ 1000 := by omega
    have hlb9 : lb.length ≤ 1000 := by omega
    have hp2 : ∀ (v : Value) (w : World), ReadsS w v lb → Calls Try.prog 13 #[v] w fun e w' => e = .returned (.tuple #[.string (ptA lb).1, .int .i64 (ptA lb).2]) ∧ Below w.heap.size w w' := fun v w h => putTexts_any v lb w hlb9 h
    have hp1 : ∀ (v : Value) (w : World), ReadsI w v la → Calls Try.prog 7 #[v] w fun e w' => e = .returned (.string (Pl.txt (Pl.encI la))) ∧ Below w.heap.size w w' := fun v w h => putInts_any v la w hla9 h
    obtain ⟨T1, hT1⟩ : ∃ T1, T1 = Pl.txt (Pl.encI la) := ⟨_, rfl⟩
    obtain ⟨T2, hT2⟩ : ∃ T2, T2 = (ptA lb).1 := ⟨_, rfl⟩
    obtain ⟨g2, hg2⟩ : ∃ g2, g2 = (ptA lb).2 := ⟨_, rfl⟩
    rw [← hT1] at k1 hp1
    rw [← hT2, ← hg2] at hp2
    obtain ⟨p, hp⟩ : ∃ p, p = la.length := ⟨_, rfl⟩
    obtain ⟨q, hq⟩ : ∃ q, q = lb.length := ⟨_, rfl⟩
    have HP : Hid (la.length = p) := hp.symm
    have HQ : Hid (lb.length = q) := hq.symm
    rw [← hp] at k1
    rw [← hq] at k2
    obtain ⟨ea, hea⟩ : ∃ ea, ea = (tiA s.data.toList z).2 := ⟨_, rfl⟩
    obtain ⟨eb, heb⟩ : ∃ eb, eb = (ttA s.data.toList z).2 := ⟨_, rfl⟩
    rw [← hea] at c1 k1
    rw [← heb] at c2 k2
    have k2' : eb = 20 ∨ eb = 0 ∧ T2 = s ∧ g2 = 0 ∧ ((q : Int) == z) = true := by
      rcases k2 with ⟨h, _⟩ | ⟨h1, h2, h3⟩
      · exact .inl h
      · refine .inr ⟨h1, ?_, ?_, by rw [beq_iff_eq]; exact h3⟩
        · rw [hT2, h2]
        · rw [hg2, h2]
    have k1' : ea = 20 ∨ ea = 0 ∧ T1 = s ∧ ((p : Int) == z) = true := by
      rcases k1 with ⟨h, _⟩ | ⟨h1, h2, h3⟩
      · exact .inl h
      · exact .inr ⟨h1, h2, by rw [beq_iff_eq]; exact h3⟩
    clear k1 k2 hea heb hT1 hT2 hg2 hp hq hla9 hlb9 l1 l2
    rcases k1' with rfl | ⟨rfl, rfl, hz1⟩ <;> rcases k2' with rfl | ⟨rfl, rfl, rfl, hz2⟩
    all_goals
      go_enter Try.func5, Try.ntmps5
      go_wp2_with fail
      refine (c1 _).mono ?_
      rintro e w1 ⟨⟨v1, rfl, hown1⟩, hb1⟩
      obtain ⟨x1, y1, rfl⟩ := hown1.shape
      rw [HP.out] at hown1 ⊢
      go_wp2_with fail
      refine (c2 _).mono ?_
      rintro e w2 ⟨⟨v2, rfl, hown2⟩, hb2⟩
      obtain ⟨x2, y2, rfl⟩ := hown2.shape
      rw [HQ.out] at hown2 ⊢
      replace hown1 := hown1.reads.below hb2
      replace hb1 := hb1.trans (hb2.mono hb1.size)
      clear hb2
      have d2 := hp2 _ _ hown2.reads
      go_wp2_with fail
      refine d2.mono ?_
      rintro e w3 ⟨rfl, hb3⟩
      replace hown1 := hown1.below hb3
      replace hb1 := hb1.trans (hb3.mono hb1.size)
      clear hb3 d2 c1 c2 hp2 hown2
      have d1 := hp1 _ _ hown1
      clear hown1 hp1
      go_wp2_with (first
        | (go_at_call 7; refine d1.mono ?_; rintro e w4 ⟨rfl, hb4⟩; replace hb1 := hb1.trans (hb4.mono hb1.size); clear hb4)
        | (go_at_call 6; refine (awake_any _).mono ?_; rintro e w5 ⟨rfl, hb5⟩))
      go_ret
      exact ⟨rfl, hb1.trans (hb5.mono hb1.size)⟩
end Go.Proofs.Ytmhbpijefohopaa
