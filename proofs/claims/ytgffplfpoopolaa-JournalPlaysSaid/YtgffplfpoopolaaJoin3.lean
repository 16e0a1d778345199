/-
  18 texts, one behind the other: JRefE, JRefF, DPure, DDev, DMeth, DNew, DWrite, DRaw, DSync, DCrash, DAwake, DWait, DFree, DSpoil, DDel, DSpo, DRef, SApp.
-/
import Derived.Test.YtgffplfpoopolaaJoin2
import Derived.Test.YtgffplfpoopolaaRows
import Derived.Test.YtgffplfpoopolaaJoin1
import Derived.Deep.LoopGhost
import Derived.Laws.MakeOwn
import Derived.Deep.AppendLies
import Derived.Deep.RegionLaw
import Derived.Deep.WholeRow
import Derived.Deep.OwnRows
import Derived.Laws.OwnMore
/-
  The contract of package peristyleref23's record.
-/
namespace Go.Proofs.Ytgffplfpoopolaa
open Go.RowKit Leb

theorem below_from {w w2 w3 w4 : World} (h1 : Below w.heap.size w w2) (hd : Below w2.heap.size w2 w3) (h3 : Below w3.heap.size w3 w4) : Below w.heap.size w w4 := h1.trans ((hd.trans (h3.mono hd.size)).mono h1.size)
/-- Blocks, as texts. -/
def bks (l : List (List UInt8)) : List ByteArray := l.map strB
theorem bks_len (l : List (List UInt8)) : (bks l).length = l.length := by simp [bks]
theorem bks_at {l : List (List UInt8)} {i : Nat} {b : List UInt8} (h : l[i]? = some b) : (bks l)[i]? = some (strB b) := by simp [bks, h]
/-- A slice of texts that has one lies in a block. -/
theorem ReadsS.at {w : World} {v : Value} {l : List ByteArray} (h : ReadsS w v l) (hl : l ≠ []) : ∃ b off c, v = .slice (some ⟨b, off, none⟩) l.length c ∧ b < w.heap.size ∧ ∀ i t, l[i]? = some t → w.cell? ⟨b, off + i, none⟩ = some (.string t) := by
  rcases h with ⟨h, _⟩ | ⟨b, off, c, h1, _, h2, h3⟩
  · exact absurd h hl
  · exact ⟨b, off, c, h1, h2, h3⟩
/-- What must stand in a record's k-th block. -/
theorem rec_step {l : List (List UInt8)} {turn : BitVec 64} {first : Nat} (hf : first ≤ 10000) {t : List UInt8} (h : RecAt l turn first t) {k : Nat} (hk : k < needs t.length) {b : List UInt8} (hb : l[first + k]? = some b) :
    ∃ q, readP b = some q ∧ q.turn = turn ∧ q.num.toInt = (first : Int) + (k : Int) ∧ q.ahead.toInt = (k : Int) ∧ q.behind.toInt = ((needs t.length - 1 - k : Nat) : Int) ∧ q.s = piece t k := by
  have h1 := h.blk k hk
  rw [hb] at h1
  have hn := needs_le h.s1
  refine ⟨ptAt turn first t k, ?_, rfl, ?_, ?_, ?_, rfl⟩
  · rw [Option.some.inj h1]; exact blk_read turn first h.s0 h.s1 hk
  · show (BitVec.ofNat 64 (first + k)).toInt = _
    rw [ofNat_toInt (by omega)]; omega
  · show (BitVec.ofNat 64 k).toInt = _
    rw [ofNat_toInt (by omega)]
  · show (BitVec.ofNat 64 (needs t.length - 1 - k)).toInt = _
    rw [ofNat_toInt (by omega)]
/-- What was put together of the first k parts. -/
def Grown (l : List (List UInt8)) (turn : BitVec 64) (first k : Nat) (acc : List UInt8) : Prop := ∀ t, RecAt l turn first t → k < needs t.length ∧ acc = t.take (96 * k)
theorem grown_zero (l : List (List UInt8)) (turn : BitVec 64) (first : Nat) : Grown l turn first 0 [] := fun t h => ⟨needs_pos h.s0, by simp⟩
section
variable {l : List (List UInt8)} {turn : BitVec 64} {first k : Nat} {acc b : List UInt8} {p : Pt} {ok : Bool}
/-- Where a part does not fit, there is no record. -/
theorem grown_no (hg : Grown l turn first k acc) (hf : first ≤ 10000) (hb : l[first + k]? = some b) (hok : ok = true ↔ readP b = some p ∧ p.turn = turn ∧ p.num.toInt = (first : Int) + (k : Int)) (hp : ∀ q, readP b = some q → p = q)
    (h : ok = false ∨ p.ahead.toInt ≠ (k : Int) ∨ (0 < p.behind.toInt ∧ p.s.length ≠ 96) ∨ 8192 < acc.length + p.s.length) : ∀ t, ¬ RecAt l turn first t := by
  intro t ht
  obtain ⟨hk, ha⟩ := hg t ht
  obtain ⟨q, h1, h2, h3, h4, h5, h6⟩ := rec_step hf ht hk hb
  have hpq := hp q h1
  subst hpq
  have hn : needs t.length = (t.length + 95) / 96 := rfl
  have hpl := piece_len t k
  have hs1 := ht.s1
  rcases h with h | h | ⟨h, h'⟩ | h
  · rw [hok.2 ⟨h1, h2, h3⟩] at h; cases h
  · exact h h4
  · rw [h6, hpl] at h'
    rw [h5] at h
    omega
  · rw [h6, hpl, ha, List.length_take] at h
    omega
/-- One more part. -/
theorem grown_more (hg : Grown l turn first k acc) (hf : first ≤ 10000) (hb : l[first + k]? = some b) (hp : ∀ q, readP b = some q → p = q) (hbe : p.behind.toInt ≠ 0) : Grown l turn first (k + 1) (acc ++ p.s) := by
  intro t ht
  obtain ⟨hk, ha⟩ := hg t ht
  obtain ⟨q, h1, _, _, _, h5, h6⟩ := rec_step hf ht hk hb
  have hpq := hp q h1
  subst hpq
  refine ⟨?_, ?_⟩
  · rw [h5] at hbe; omega
  · rw [ha, h6, take_piece]
theorem grown_last (hg : Grown l turn first k acc) (hf : first ≤ 10000) (hb : l[first + k]? = some b) (hp : ∀ q, readP b = some q → p = q) (hbe : p.behind.toInt = 0) : ∀ t, RecAt l turn first t → acc ++ p.s = t := by
  intro t ht
  obtain ⟨hk, ha⟩ := hg t ht
  obtain ⟨q, h1, _, _, _, h5, h6⟩ := rec_step hf ht hk hb
  have hpq := hp q h1
  subst hpq
  rw [h5] at hbe
  rw [ha, h6, take_piece, show k + 1 = needs t.length by omega, take_needs]
end
theorem needs_more {k m : Nat} (h1 : 1 ≤ m) (h2 : m ≤ 96) : needs (96 * k + m) = k + 1 := by unfold needs; omega
/-- A record's blocks, cell by cell. -/
theorem refBlocks_cells (turn : BitVec 64) (first : Nat) (hf : first ≤ 10000) (s : List UInt8) (h1 : 1 ≤ s.length) (h2 : s.length ≤ 8192) (w : World) :
    Calls Try.prog 37 #[.int .i64 turn.toInt, .int .i64 first, .string (strB s)] w fun e w' => (∃ g off c, e = .returned (.slice (some ⟨g, off, none⟩) (needs s.length) c) ∧ g < w'.heap.size ∧ ∀ i, i < needs s.length → w'.cell? ⟨g, off + i, none⟩ = some (.string (strB (blkL turn first s i)))) ∧ Below w.heap.size w w' := by
  refine (refBlocks_any turn first hf s h1 h2 w).mono ?_
  rintro e w' ⟨⟨v, rfl, hown⟩, hb⟩
  obtain ⟨g, off, c, rfl, hg, hc⟩ := hown.reads.at (by intro e; have := congrArg List.length e; rw [blks_len] at this; have := needs_pos h1; simp at *; omega)
  rw [blks_len]
  exact ⟨⟨g, off, c, rfl, hg, fun i hi => hc i _ (blks_at turn first s hi)⟩, hb⟩
def RecordAns (l : List (List UInt8)) (turn : BitVec 64) (first : Nat) (w : World) (e : Ending) (w' : World) : Prop :=
  ((∃ s : List UInt8, e = .returned (.tuple #[.string (strB s), .int .i64 (needs s.length : Nat)]) ∧ 1 ≤ s.length ∧ s.length ≤ 8192 ∧ first + needs s.length ≤ l.length ∧ ∀ t, RecAt l turn first t → s = t) ∨
    (e = .returned (.tuple #[.string { data := #[] }, .int .i64 0]) ∧ ∀ t, ¬ RecAt l turn first t)) ∧ Below w.heap.size w w'
set_option maxRecDepth 4000 in
set_option maxHeartbeats 1000000 in
theorem refRecord_any (l : List (List UInt8)) (hl : ∀ b ∈ l, b.length = 128) (hll : l.length ≤ 4096) (turn : BitVec 64) (first : Nat) (hf : first < l.length) (v : Value) (w : World) (hr : ReadsS w v (bks l)) :
    Calls Try.prog 69 #[v, .int .i64 turn.toInt, .int .i64 first] w (RecordAns l turn first w) := by
  obtain ⟨g, off, cap, rfl, hgw, hcell⟩ := hr.at (by intro e; have := congrArg List.length e; rw [bks_len] at this; simp at this; rw [this] at hf; simp at hf)
  rw [bks_len]
  have HC : Hid (∀ i b, l[i]? = some b → w.cell? ⟨g, off + i, none⟩ = some (.string (strB b))) := fun i b hb => hcell i _ (bks_at hb)
  have HL : Hid (∀ b ∈ l, b.length = 128) := hl
  obtain ⟨N, hN⟩ : ∃ N, N = l.length := ⟨_, rfl⟩
  have HN : Hid (N = l.length) := hN
  rw [← hN] at hf hll ⊢
  have hNI : (N : Int) ≤ 4096 := by omega
  have hfI : (first : Int) < (N : Int) := by omega
  clear hN hcell hl hr
  go_enter Try.func69, Try.ntmps69
  go_wp2
  go_loopg [8, 9] (N - first) (fun g' s8 s9 wx => ∃ (k : Nat) (acc : List UInt8), k + g' = N - first ∧ s9 = .int .i64 k ∧ s8 = .string (strB acc) ∧ acc.length = 96 * k ∧ acc.length ≤ 8192 ∧ Grown l turn first k acc ∧ Below w.heap.size w wx)
  case atStart => exact ⟨0, [], by omega, rfl, rfl, rfl, by simp, grown_zero _ _ _, Below.refl _ _⟩
  case round =>
    obtain ⟨k, acc, hkg, rfl, rfl, hacc, hacc2, hgr, hb⟩ := hrel
    have HG : Hid (Grown l turn first k acc) := hgr
    have r1 : wrap64 ((first : Int) + (k : Int)) = (first : Int) + (k : Int) := by unfold wrap64; omega
    have HA : Hid (acc.length = 96 * k) := hacc
    have hz : (strB acc).size = acc.length := rfl
    obtain ⟨A, hA⟩ : ∃ A, A = strB acc := ⟨_, rfl⟩
    rw [← hA] at hz
    have HAc : Hid (A = strB acc) := hA
    obtain ⟨n, hn⟩ : ∃ n, n = acc.length := ⟨_, rfl⟩
    rw [← hn] at hz hacc2
    have HNn : Hid (n = acc.length) := hn
    clear hn hA hacc hgr
    rw [← HAc.out]
    by_cases hk : first + k < N
    · have hkI : (first : Int) + (k : Int) < (N : Int) := by omega
      obtain ⟨b, hbk⟩ : ∃ b, l[first + k]? = some b := ⟨_, List.getElem?_eq_getElem (by rw [← HN.out]; exact hk)⟩
      have hb128 := HL.out b (List.mem_of_getElem? hbk)
      have hc1 := (hb.cell (p := ⟨g, off + (first + k), none⟩) hgw).trans (HC.out _ _ hbk)
      have c := refpart_any b hb128 turn ((first : Int) + (k : Int))
      obtain ⟨B, hB⟩ : ∃ B, B = strB b := ⟨_, rfl⟩
      rw [← hB] at c hc1
      have HBK : Hid (l[first + k]? = some b) := hbk
      clear hbk hb128 hB
      go_wp2_with fail
      refine (c _).mono ?_
      rintro e w2 ⟨⟨p, ok, rfl, hok, hp⟩, hb2⟩
      replace hb2 := hb.trans (hb2.mono hb.size)
      have HK : Hid ((ok = true ↔ readP b = some p ∧ p.turn = turn ∧ p.num.toInt = (first : Int) + (k : Int)) ∧ ∀ q, readP b = some q → p = q) := ⟨hok, hp⟩
      have hmay : ok = true → p.May := fun h => (readP_some (hok.1 h).1).1
      have hzt : (strB p.s).size = p.s.length := rfl
      obtain ⟨T, hT⟩ : ∃ T, T = strB p.s := ⟨_, rfl⟩
      obtain ⟨m, hm⟩ : ∃ m, m = p.s.length := ⟨_, rfl⟩
      obtain ⟨ai, hai⟩ : ∃ ai, ai = p.ahead.toInt := ⟨_, rfl⟩
      obtain ⟨be, hbe⟩ : ∃ be, be = p.behind.toInt := ⟨_, rfl⟩
      rw [← hT, ← hm] at hzt
      have HV : Hid (T = strB p.s ∧ m = p.s.length ∧ ai = p.ahead.toInt ∧ be = p.behind.toInt) := ⟨hT, hm, hai, hbe⟩
      have hfacts : ok = true → 1 ≤ m ∧ m ≤ 96 ∧ 0 ≤ be := fun h => ⟨hm ▸ (hmay h).s0, hm ▸ (hmay h).s1, hbe ▸ (hmay h).b0⟩
      rw [← hT, ← hai, ← hbe]
      clear hok hp hmay hT hm hai hbe c hc1
      have hways : (ok = false ∨ (ok = true ∧ ai ≠ (k : Int)) ∨ (ok = true ∧ ai = (k : Int) ∧ 0 < be ∧ m ≠ 96) ∨ (ok = true ∧ ai = (k : Int) ∧ 0 < be ∧ m = 96 ∧ 8192 < n + m) ∨ (ok = true ∧ ai = (k : Int) ∧ be = 0 ∧ 8192 < n + m)) ∨ (ok = true ∧ ai = (k : Int) ∧ 0 < be ∧ m = 96 ∧ n + m ≤ 8192) ∨ (ok = true ∧ ai = (k : Int) ∧ be = 0 ∧ n + m ≤ 8192) := by
        cases ok with
        | false => exact .inl (.inl rfl)
        | true =>
          have := hfacts rfl
          by_cases h1 : ai = (k : Int)
          · by_cases h2 : be = 0
            · by_cases h3 : n + m ≤ 8192
              · exact .inr (.inr ⟨rfl, h1, h2, h3⟩)
              · exact .inl (.inr (.inr (.inr (.inr ⟨rfl, h1, h2, by omega⟩))))
            · by_cases h4 : m = 96
              · by_cases h3 : n + m ≤ 8192
                · exact .inr (.inl ⟨rfl, h1, by omega, h4, h3⟩)
                · exact .inl (.inr (.inr (.inr (.inl ⟨rfl, h1, by omega, h4, by omega⟩))))
              · exact .inl (.inr (.inr (.inl ⟨rfl, h1, by omega, h4⟩)))
          · exact .inl (.inr (.inl ⟨rfl, h1⟩))
      rcases hways with hbad | ⟨rfl, rfl, hbe, hm96, hnm⟩ | ⟨rfl, rfl, rfl, hnm⟩
      · have HNO : Hid (∀ t, ¬ RecAt l turn first t) := by
          refine grown_no HG.out (by omega) HBK.out HK.out.1 HK.out.2 ?_
          obtain ⟨_, e2, e3, e4⟩ := HV.out
          rw [← e2, ← e3, ← e4, ← HNn.out]
          rcases hbad with h | ⟨_, h⟩ | ⟨_, _, h, h'⟩ | ⟨_, _, _, _, h⟩ | ⟨_, _, _, h⟩
          · exact .inl h
          · exact .inr (.inl h)
          · exact .inr (.inr (.inl ⟨h, h'⟩))
          · exact .inr (.inr (.inr h))
          · exact .inr (.inr (.inr h))
        rcases hbad with rfl | ⟨rfl, h1⟩ | ⟨rfl, rfl, h2, h3⟩ | ⟨rfl, rfl, h2, rfl, h4⟩ | ⟨rfl, rfl, rfl, h4⟩
        · clear hfacts
          go_wp2
          go_ret2
          exact ⟨.inr ⟨rfl, HNO.out⟩, hb2⟩
        · have h1b : (ai == (k : Int)) = false := by simpa using h1
          clear hfacts
          go_wp2
          go_ret2
          exact ⟨.inr ⟨rfl, HNO.out⟩, hb2⟩
        · have h3b : ((m : Int) == 96) = false := by simpa using (fun e : (m : Int) = 96 => h3 (by omega))
          clear hfacts
          go_wp2
          go_ret2
          exact ⟨.inr ⟨rfl, HNO.out⟩, hb2⟩
        · have h4I : 8192 < (n : Int) + 96 := by omega
          clear hfacts
          go_wp2
          go_ret2
          exact ⟨.inr ⟨rfl, HNO.out⟩, hb2⟩
        · have h4I : 8192 < (n : Int) + (m : Int) := by omega
          have hm9 : m ≤ 96 := (hfacts rfl).2.1
          clear hfacts
          go_wp2
          go_ret2
          exact ⟨.inr ⟨rfl, HNO.out⟩, hb2⟩
      · subst hm96
        have hd1 : decide (8192 < (n : Int) + 96) = false := by simp; omega
        have HM : Hid (n + 96 ≤ 8192 ∧ 0 < be) := ⟨hnm, hbe⟩
        have hbn : (be == 0) = false := by simp; omega
        clear hfacts hnm
        go_wp2_with fail
        go_roundg (N - first - (k + 1))
        case measure => omega
        case rel =>
          obtain ⟨e1, e2, e3, e4⟩ := HV.out
          refine ⟨k + 1, acc ++ p.s, by omega, by go_num, ?_, ?_, ?_, grown_more HG.out (by omega) HBK.out HK.out.2 (by rw [← e4]; have := HM.out; omega), hb2⟩
          · rw [HAc.out, e1, strB_append]
          · rw [List.length_append, ← e2, HA.out]; omega
          · rw [List.length_append, ← e2, ← HNn.out]; exact HM.out.1
      · have hf1 := hfacts rfl
        have hd1 : decide (8192 < (n : Int) + (m : Int)) = false := by simp; omega
        have hm9 : m ≤ 96 := by omega
        have hAT : A ++ T = strB (acc ++ p.s) := by rw [HAc.out, HV.out.1, strB_append]
        have hlen : (acc ++ p.s).length = n + m := by rw [List.length_append, ← HV.out.2.1, ← HNn.out]
        have h81 : 1 ≤ (acc ++ p.s).length := by rw [hlen]; exact Nat.le_trans hf1.1 (Nat.le_add_left _ _)
        have h82 : (acc ++ p.s).length ≤ 8192 := by rw [hlen]; exact hnm
        have hf0 : first ≤ 10000 := by omega
        have HLA : Hid (∀ t, RecAt l turn first t → acc ++ p.s = t) := grown_last HG.out hf0 HBK.out HK.out.2 HV.out.2.2.2.symm
        have c2 := refBlocks_cells turn first hf0 (acc ++ p.s) h81 h82
        have hnd : needs (acc ++ p.s).length = k + 1 := by rw [hlen, HNn.out, HA.out]; exact needs_more hf1.1 hf1.2.1
        rw [← hAT, hnd] at c2
        have HS : Hid (A ++ T = strB (acc ++ p.s) ∧ (acc ++ p.s).length = n + m ∧ needs (acc ++ p.s).length = k + 1 ∧ 1 ≤ m ∧ n + m ≤ 8192) := ⟨hAT, hlen, hnd, hf1.1, hnm⟩
        obtain ⟨b0, hb0⟩ : ∃ b0, l[first]? = some b0 := ⟨_, List.getElem?_eq_getElem (by rw [← HN.out]; exact hf)⟩
        have hc0 := (hb2.cell (p := ⟨g, off + first, none⟩) hgw).trans (HC.out _ _ hb0)
        obtain ⟨B0, hB0⟩ : ∃ B0, B0 = strB b0 := ⟨_, rfl⟩
        rw [← hB0] at hc0
        have HB0 : Hid (l[first]? = some b0 ∧ B0 = strB b0) := ⟨hb0, hB0⟩
        clear hfacts hf1 hAT hlen hnd hb0 hB0 hnm h81 h82 hf0
        have hgw2 : g < w2.heap.size := Nat.lt_of_lt_of_le hgw hb2.size
        obtain ⟨F0, hF0⟩ : ∃ F0, F0 = strB (blkL turn first (acc ++ p.s) 0) := ⟨_, rfl⟩
        have c3 : ∀ w, Calls Try.prog 37 #[.int .i64 turn.toInt, .int .i64 first, .string (A ++ T)] w fun e w' => (∃ g off c, e = .returned (.slice (some ⟨g, off, none⟩) (k + 1) c) ∧ w'.cell? ⟨g, off, none⟩ = some (.string F0)) ∧ Below w.heap.size w w' := by
          intro w
          refine (c2 w).mono ?_
          rintro e w' ⟨⟨g, off, c, h1, _, h2⟩, h3⟩
          exact ⟨⟨g, off, c, h1, by rw [hF0]; exact h2 0 (Nat.succ_pos _)⟩, h3⟩
        clear c2
        by_cases hq : blkL turn first (acc ++ p.s) 0 = b0
        case' pos =>
          have hqb : (F0.toList == B0.toList) = true := by rw [hF0, HB0.out.2, strB_toList, strB_toList]; simpa using hq
        case' neg =>
          have hqb : (F0.toList == B0.toList) = false := by rw [hF0, HB0.out.2, strB_toList, strB_toList]; simpa using hq
        all_goals
          have HQ := (show Hid _ from hq)
          clear hq hF0
          go_wp2_with fail
          go_region_with (go_at_call 37; refine (c3 _).mono ?_; rintro e w3 ⟨⟨g2, off2, c4, rfl, hc3⟩, hb5⟩; have hc4 := (hb5.cell (p := ⟨g, off + first, none⟩) hgw2).trans hc0; have hb6 := below_from hb2 (by exact ⟨rfl, rfl, rfl, Nat.le_refl _, fun _ _ => rfl⟩) hb5)
          all_goals
            go_wp2
            go_ret2
            first
              | exact ⟨.inr ⟨rfl, fun t ht => HQ.out (by rw [HLA.out t ht]; have h0 := ht.blk 0 (needs_pos ht.s0); rw [Nat.add_zero, HB0.out.1] at h0; exact (Option.some.inj h0).symm)⟩, hb6.trans ⟨rfl, rfl, rfl, Nat.le_refl _, fun _ _ => rfl⟩⟩
              | exact ⟨.inl ⟨acc ++ p.s, by rw [HS.out.1, HS.out.2.2.1]; rfl, by rw [HS.out.2.1]; have := HS.out.2.2.2; omega, by rw [HS.out.2.1]; exact HS.out.2.2.2.2, by rw [HS.out.2.2.1, ← HN.out]; omega, HLA.out⟩, hb6.trans ⟨rfl, rfl, rfl, Nat.le_refl _, fun _ _ => rfl⟩⟩
    · have hkI : ¬ (first : Int) + (k : Int) < (N : Int) := by omega
      have HNO : Hid (∀ t, ¬ RecAt l turn first t) := by
        intro t ht
        have := (HG.out t ht).1
        have := ht.fit
        have := HN.out
        omega
      go_wp2
      go_ret2
      exact ⟨.inr ⟨rfl, HNO.out⟩, hb⟩
end Go.Proofs.Ytgffplfpoopolaa
/-
  The contract of package peristyleref23's Records.
-/
namespace Go.Proofs.Ytgffplfpoopolaa
open Go.RowKit Leb

def RecsAns (l : List (List UInt8)) (turn : BitVec 64) (w : World) (e : Ending) (w' : World) : Prop :=
  (∃ (out : List (List UInt8)) (u : Nat) (v : Value), e = .returned (.tuple #[v, .int .i64 u]) ∧ OwnsS w' w.heap.size v (bks out) ∧ Recs l turn out u ∧ u ≤ l.length) ∧ Below w.heap.size w w'
theorem bks_snoc (out : List (List UInt8)) (s : List UInt8) : bks (out ++ [s]) = bks out ++ [strB s] := by simp [bks]
theorem rec_beyond {l : List (List UInt8)} {turn : BitVec 64} {a : Nat} (h : l.length ≤ a) : ∀ t, ¬ RecAt l turn a t := by
  intro t ht
  have := ht.fit
  have := needs_pos ht.s0
  omega
set_option maxRecDepth 4000 in
set_option maxHeartbeats 1000000 in
theorem refRecords_any (l : List (List UInt8)) (hl : ∀ b ∈ l, b.length = 128) (hl0 : 1 ≤ l.length) (hll : l.length ≤ 4096) (turn : BitVec 64) (v : Value) (w : World) (hr : ReadsS w v (bks l)) :
    Calls Try.prog 59 #[v, .int .i64 turn.toInt] w (RecsAns l turn w) := by
  have HR : Hid (ReadsS w v (bks l)) := hr
  obtain ⟨g, off, cap, rfl, hgw, hcell⟩ := hr.at (by intro e; have := congrArg List.length e; rw [bks_len] at this; simp at this; rw [this] at hl0; simp at hl0)
  rw [bks_len] at HR ⊢
  have HC : Hid (∀ i b, l[i]? = some b → w.cell? ⟨g, off + i, none⟩ = some (.string (strB b))) := fun i b hb => hcell i _ (bks_at hb)
  have HL : Hid (∀ b ∈ l, b.length = 128) := hl
  obtain ⟨N, hN⟩ : ∃ N, N = l.length := ⟨_, rfl⟩
  have HN : Hid (N = l.length) := hN
  rw [← hN] at hl0 hll HR ⊢
  have hNI : (N : Int) ≤ 4096 := by omega
  clear hN hcell hl hr
  go_enter Try.func59, Try.ntmps59
  go_wp2
  go_loopg [6, 7] N (fun g' s6 s7 wx => ∃ (a : Nat) (out : List (List UInt8)), a + g' = N ∧ s7 = .int .i64 a ∧ OwnsS wx w.heap.size s6 (bks out) ∧ out.length ≤ a ∧ Line l turn 0 out a ∧ Below w.heap.size w wx)
  case atStart => exact ⟨0, [], by omega, rfl, ownsS_nil _ _, by simp, rfl, Below.refl _ _⟩
  case round =>
    obtain ⟨a, out, hag, rfl, hown, hol, hline, hb⟩ := hrel
    have HLI : Hid (Line l turn 0 out a) := hline
    clear hline
    by_cases ha : a < N
    · have haI : (a : Int) < (N : Int) := by omega
      have c := refRecord_any l HL.out (by rw [← HN.out]; exact hll) turn a (by rw [← HN.out]; exact ha) (.slice (some ⟨g, off, none⟩) N cap)
      go_wp2_with fail
      refine (c _ (HR.out.below hb)).mono ?_
      rintro e w2 ⟨⟨s, rfl, hs1, hs2, hs3, hs4⟩ | ⟨rfl, hno⟩, hb2⟩
      · have hown2 := hown.below hb2
        replace hb2 := hb.trans (hb2.mono hb.size)
        have c2 := refBlocks_cells turn a (by omega) s hs1 hs2
        have hz : (strB s).size = s.length := rfl
        have hq1 := needs_pos hs1
        rw [← HN.out] at hs3
        obtain ⟨q, hq⟩ : ∃ q, q = needs s.length := ⟨_, rfl⟩
        obtain ⟨S, hS⟩ : ∃ S, S = strB s := ⟨_, rfl⟩
        rw [← hq, ← hS] at c2
        rw [← hq] at hq1 hs3
        rw [← hq, ← hS]
        have HS : Hid (q = needs s.length ∧ S = strB s ∧ 1 ≤ s.length ∧ s.length ≤ 8192 ∧ ∀ t, RecAt l turn a t → s = t) := ⟨hq, hS, hs1, hs2, hs4⟩
        have hqz : ((q : Int) == 0) = false := by simp; omega
        clear hz hq hS hs1 hs2 hs4 c
        go_wp2_with fail
        refine (c2 _).mono ?_
        rintro e w3 ⟨⟨g2, off2, c3, rfl, hg2, hcl⟩, hb3⟩
        have hown3 := hown2.below hb3
        replace hb3 := hb2.trans (hb3.mono hb2.size)
        have HCL : Hid (∀ i, i < q → w3.cell? ⟨g2, off2 + i, none⟩ = some (.string (strB (blkL turn a s i)))) := hcl
        clear hcl c2
        go_wp2_with fail
        go_loopg [11] q (fun g' s11 wx => ∃ i : Nat, i + g' = q ∧ s11 = .int .i64 i ∧ (∀ j, j < i → l[a + j]? = some (blkL turn a s j)) ∧ Below w3.heap.size w3 wx)
        case atStart => exact ⟨0, by omega, rfl, fun j hj => absurd hj (Nat.not_lt_zero _), Below.refl _ _⟩
        case round =>
          obtain ⟨i, hig, rfl, hall, hb4⟩ := hrel
          have HA : Hid (∀ j, j < i → l[a + j]? = some (blkL turn a s j)) := hall
          clear hall
          by_cases hi : i < q
          · have hiI : (i : Int) < (q : Int) := by omega
            have hai : (a : Int) + (i : Int) < (N : Int) := by omega
            obtain ⟨b, hbi⟩ : ∃ b, l[a + i]? = some b := ⟨_, List.getElem?_eq_getElem (by rw [← HN.out]; omega)⟩
            have hc1 := ((hb3.trans (hb4.mono hb3.size)).cell (p := ⟨g, off + (a + i), none⟩) hgw).trans (HC.out _ _ hbi)
            have hc2 := (hb4.cell (p := ⟨g2, off2 + i, none⟩) hg2).trans (HCL.out i hi)
            have HBI : Hid (l[a + i]? = some b) := hbi
            obtain ⟨X, hX⟩ : ∃ X, X = strB b := ⟨_, rfl⟩
            obtain ⟨Y, hY⟩ : ∃ Y, Y = strB (blkL turn a s i) := ⟨_, rfl⟩
            rw [← hX] at hc1
            rw [← hY] at hc2
            by_cases hxy : blkL turn a s i = b
            case' pos => have hqb : (Y.toList == X.toList) = true := by rw [hX, hY, strB_toList, strB_toList]; simpa using hxy
            case' neg => have hqb : (Y.toList == X.toList) = false := by rw [hX, hY, strB_toList, strB_toList]; simpa using hxy
            all_goals
              have HXY := (show Hid _ from hxy)
              have hbd : 0 ≤ (i : Int) ∧ (i : Int) < (q : Int) := ⟨by omega, hiI⟩
              have hbd2 : 0 ≤ (a : Int) + (i : Int) ∧ (a : Int) + (i : Int) < (N : Int) := ⟨by omega, hai⟩
              clear hxy hX hY hbi
              go_wp2_with fail
              have hw9 : IntKind.i64.wrap ((a : Int) + (i : Int)) = (a : Int) + (i : Int) := by rw [IntKind.wrap_i64]; omega
              go_quiet (fail)
              go_wp2_with fail
            · go_ret2
              have hno : ∀ t, ¬ RecAt l turn a t := by
                intro t ht
                have e := HS.out.2.2.2.2 t ht
                subst e
                have h1 := ht.blk i (by rw [← HS.out.1]; exact hi)
                rw [HBI.out] at h1
                exact HXY.out (Option.some.inj h1).symm
              exact ⟨⟨out, a, _, rfl, hown3.below (hb4.trans ((below_drewN _ _).mono hb4.size)), ⟨HLI.out, hno⟩, by rw [← HN.out]; clear hw9; omega⟩, below_from hb3 hb4 (below_drewN _ _)⟩
            · go_roundg (q - (i + 1))
              case measure => clear hw9; omega
              case rel =>
                refine ⟨i + 1, by clear hw9; omega, by clear hw9; go_num, ?_, hb4.trans ((below_drewN _ _).mono hb4.size)⟩
                intro j hj
                by_cases e : j = i
                · subst e; rw [HBI.out, HXY.out]
                · exact HA.out j (by omega)
          · have hiI : ¬ (i : Int) < (q : Int) := by omega
            have hrec : RecAt l turn a s := by
              obtain ⟨h1, h2, h3, h4, h5⟩ := HS.out
              refine ⟨h3, h4, by rw [← h1, ← HN.out]; exact hs3, fun j hj => HA.out j (by rw [← h1] at hj; omega)⟩
            have HREC : Hid (RecAt l turn a s) := hrec
            have hown4 := hown3.below hb4
            have hb5 := hb3.trans (hb4.mono hb3.size)
            have hsz := hb5.size
            have hbl : (bks out).length ≤ 4096 := by rw [bks_len]; omega
            obtain ⟨O, hO⟩ : ∃ O, O = bks out := ⟨_, rfl⟩
            rw [← hO] at hown4 hbl
            have HO : Hid (O = bks out) := hO
            clear hO hrec hown hown2 hown3
            go_wp2_with (at_builtin; refine append_s rfl (.tmp 50) (.tmp 52) rfl rfl rfl hown4 ?hB ?hl ?_; (case hB => omega); (case hl => omega); intro v6 w6 hown6 hb6)
            go_roundg (N - (a + q))
            case measure => omega
            case rel =>
              refine ⟨a + q, out ++ [s], by omega, by go_num, ?_, ?_, ?_, hb5.trans hb6⟩
              · rw [bks_snoc, ← HO.out, ← HS.out.2.1]; exact hown6
              · rw [List.length_append]; simp; omega
              · rw [HS.out.1]; exact line_snoc HLI.out HREC.out
      · have HNO : Hid (∀ t, ¬ RecAt l turn a t) := hno
        clear hno c
        go_wp2
        go_ret2
        exact ⟨⟨out, a, _, rfl, hown.below hb2, ⟨HLI.out, HNO.out⟩, by rw [← HN.out]; omega⟩, hb.trans (hb2.mono hb.size)⟩
    · have haI : ¬ (a : Int) < (N : Int) := by omega
      have HNO : Hid (∀ t, ¬ RecAt l turn a t) := rec_beyond (by rw [← HN.out]; omega)
      go_wp2
      go_ret2
      exact ⟨⟨out, a, _, rfl, hown, ⟨HLI.out, HNO.out⟩, by rw [← HN.out]; omega⟩, hb⟩
end Go.Proofs.Ytgffplfpoopolaa
/-
  What a device is, without memory: blocks that are sure, writes that wait, a fuse, the power. No program is spoken of.
-/
namespace Go.Proofs.Ytgffplfpoopolaa

structure St where
  sure : List (List UInt8)
  wait : List (Nat × List UInt8)
  fuse : Int
  off : Bool

/-- Writes laid upon blocks, one behind the other. -/
def lay (sure : List (List UInt8)) (wait : List (Nat × List UInt8)) : List (List UInt8) := wait.foldl (fun s x => s.set x.1 x.2) sure
theorem lay_nil (s : List (List UInt8)) : lay s [] = s := rfl
theorem lay_len : ∀ (wait : List (Nat × List UInt8)) (s : List (List UInt8)), (lay s wait).length = s.length
  | [], _ => rfl
  | x :: r, s => by
    show (lay (s.set x.1 x.2) r).length = _
    rw [lay_len r]; simp
theorem lay_cons (s : List (List UInt8)) (x : Nat × List UInt8) (r : List (Nat × List UInt8)) : lay s (x :: r) = lay (s.set x.1 x.2) r := rfl
theorem lay_append (s : List (List UInt8)) (a b : List (Nat × List UInt8)) : lay s (a ++ b) = lay (lay s a) b := by simp [lay, List.foldl_append]
theorem lay_snoc (s : List (List UInt8)) (a : List (Nat × List UInt8)) (x : Nat × List UInt8) : lay s (a ++ [x]) = (lay s a).set x.1 x.2 := by rw [lay_append]; rfl
theorem lay_mem {p : List UInt8 → Prop} : ∀ (wait : List (Nat × List UInt8)) (s : List (List UInt8)), (∀ b ∈ s, p b) → (∀ x ∈ wait, p x.2) → ∀ b ∈ lay s wait, p b
  | [], _, h, _ => h
  | x :: r, s, h, h2 => by
    rw [lay_cons]
    refine lay_mem r _ ?_ (fun y hy => h2 y (by simp [hy]))
    intro b hb
    rcases List.mem_or_eq_of_mem_set hb with hb | rfl
    · exact h b hb
    · exact h2 x (by simp)
/-- A block to which no write waits is as it is sure. -/
theorem lay_other (k : Nat) : ∀ (wait : List (Nat × List UInt8)) (s : List (List UInt8)), (∀ x ∈ wait, x.1 ≠ k) → (lay s wait)[k]? = s[k]?
  | [], _, _ => rfl
  | x :: r, s, h => by
    rw [lay_cons, lay_other k r _ (fun y hy => h y (by simp [hy])), List.getElem?_set_ne (h x (by simp))]
/-- Blocks that differ in one alone, to which no write waits. -/
theorem lay_set (k : Nat) (b : List UInt8) : ∀ (wait : List (Nat × List UInt8)) (s : List (List UInt8)), lay (s.set k b) (wait.filter fun x => x.1 != k) = (lay s wait).set k b
  | [], _ => rfl
  | x :: r, s => by
    rw [lay_cons]
    by_cases h : x.1 = k
    · subst h
      simp only [List.filter_cons, bne_self_eq_false, Bool.false_eq_true, if_false]
      rw [← lay_set x.1 b r (s.set x.1 x.2), List.set_set]
    · have h' : (x.1 != k) = true := by simp [h]
      simp only [List.filter_cons, h', if_true]
      rw [lay_cons, List.set_comm _ _ (fun e => h e.symm), lay_set k b r]
/-- Which of the writes survive. -/
def keepW (f : Nat → Bool) : Nat → List (Nat × List UInt8) → List (Nat × List UInt8)
  | _, [] => []
  | i, x :: r => if f i then x :: keepW f (i + 1) r else keepW f (i + 1) r
theorem keepW_mem (f : Nat → Bool) : ∀ (l : List (Nat × List UInt8)) (i : Nat) (x), x ∈ keepW f i l → x ∈ l
  | [], _, _, h => by simp [keepW] at h
  | y :: r, i, x, h => by
    unfold keepW at h
    split at h
    · rcases List.mem_cons.1 h with h | h
      · simp [h]
      · exact List.mem_cons_of_mem _ (keepW_mem f r _ x h)
    · exact List.mem_cons_of_mem _ (keepW_mem f r _ x h)
theorem keepW_congr (f g : Nat → Bool) : ∀ (l : List (Nat × List UInt8)) (i : Nat), (∀ k, i ≤ k → k < i + l.length → f k = g k) → keepW f i l = keepW g i l
  | [], _, _ => rfl
  | y :: r, i, h => by
    unfold keepW
    rw [h i (Nat.le_refl _) (by simp), keepW_congr f g r (i + 1) (fun k h1 h2 => h k (by omega) (by simp; omega))]
theorem keepW_snoc (f : Nat → Bool) (x : Nat × List UInt8) : ∀ (l : List (Nat × List UInt8)) (i : Nat), keepW f i (l ++ [x]) = keepW f i l ++ (if f (i + l.length) then [x] else [])
  | [], i => by simp only [List.nil_append, keepW, List.length_nil, Nat.add_zero]
  | y :: r, i => by
    have e : i + 1 + r.length = i + (y :: r).length := by simp; omega
    simp only [List.cons_append, keepW]
    rw [keepW_snoc f x r (i + 1), e]
    split <;> simp
/-- Back to what is sure, wherever a write waited: that is what is sure. -/
def back (sure : List (List UInt8)) (seen : List (List UInt8)) (wait : List (Nat × List UInt8)) : List (List UInt8) := wait.foldl (fun s x => s.set x.1 (sure.getD x.1 [])) seen
theorem back_len (sure : List (List UInt8)) : ∀ (wait : List (Nat × List UInt8)) (s : List (List UInt8)), (back sure s wait).length = s.length
  | [], _ => rfl
  | x :: r, s => by
    show (back sure (s.set x.1 _) r).length = _
    rw [back_len sure r]; simp
theorem back_snoc (sure s : List (List UInt8)) (a : List (Nat × List UInt8)) (x : Nat × List UInt8) : back sure s (a ++ [x]) = (back sure s a).set x.1 (sure.getD x.1 []) := by simp [back, List.foldl_append]
theorem back_at (sure : List (List UInt8)) (k : Nat) (hk : k < sure.length) : ∀ (wait : List (Nat × List UInt8)) (s : List (List UInt8)), s.length = sure.length → ((∀ x ∈ wait, x.1 ≠ k) → s[k]? = sure[k]?) → (back sure s wait)[k]? = sure[k]?
  | [], s, _, h => h (by simp)
  | x :: r, s, hl, h => by
    show (back sure (s.set x.1 _) r)[k]? = _
    refine back_at sure k hk r _ (by simpa using hl) ?_
    intro h2
    by_cases e : x.1 = k
    · subst e
      rw [List.getElem?_set_self (by omega), List.getElem?_eq_getElem hk]
      simp [hk]
    · rw [List.getElem?_set_ne e]
      exact h (by intro y hy; rcases List.mem_cons.1 hy with rfl | hy; exact e; exact h2 y hy)
theorem back_all (sure : List (List UInt8)) (wait kept : List (Nat × List UInt8)) (hk : ∀ x ∈ kept, x ∈ wait) : back (lay sure kept) (lay sure wait) wait = lay sure kept := by
  apply List.ext_getElem?
  intro k
  by_cases h : k < (lay sure kept).length
  · refine back_at _ k h wait _ (by simp [lay_len]) ?_
    intro h2
    rw [lay_other k wait sure h2, lay_other k kept sure (fun x hx => h2 x (hk x hx))]
  · rw [List.getElem?_eq_none (by rw [back_len, lay_len]; rw [lay_len] at h; omega), List.getElem?_eq_none (by omega)]
/-- The last write to a block, or what is sure of it. -/
theorem lay_last (s : List (List UInt8)) (a : List (Nat × List UInt8)) (x : Nat × List UInt8) (b : List (Nat × List UInt8)) (hb : ∀ y ∈ b, y.1 ≠ x.1) (hx : x.1 < s.length) : (lay s (a ++ x :: b))[x.1]? = some x.2 := by
  rw [lay_append, lay_cons, lay_other x.1 b _ hb, List.getElem?_set_self (by rw [lay_len]; exact hx)]

/-- A doing is done, or the power goes off. -/
def St.goes (s : St) : Bool := !s.off && s.fuse != 0
def St.burnt (s : St) : St := { s with fuse := if s.off then s.fuse else if s.fuse = 0 then -1 else if 0 < s.fuse then s.fuse - 1 else s.fuse, off := s.off || s.fuse == 0 }
def St.write (s : St) (k : Nat) (b : List UInt8) : St := { s.burnt with wait := s.wait ++ [(k, b)] }
def St.synced (s : St) : St := { s.burnt with sure := lay s.sure s.wait, wait := [] }
def St.crashed (s : St) (f : Nat → Bool) : St := { sure := lay s.sure (keepW f 0 s.wait), wait := [], fuse := -1, off := false }
def St.spoilt (s : St) (k : Nat) (b : List UInt8) : St := { s with sure := s.sure.set k b, wait := s.wait.filter fun x => x.1 != k }
end Go.Proofs.Ytgffplfpoopolaa
/-
  A device in memory, and the contracts of its small methods: Size, given, has, fits, Off, Fuse, goesOn, Read.
-/
namespace Go.Proofs.Ytgffplfpoopolaa
open Go.RowKit

def bcells (l : List UInt8) : List Value := l.map fun b => .int .u8 b.toNat
def wcells (x : Nat × List UInt8) : List Value := .int .i64 x.1 :: bcells x.2
theorem bcells_len (l : List UInt8) : (bcells l).length = l.length := by simp [bcells]
theorem bcells_one (l : List UInt8) : ∀ v ∈ bcells l, v.oneCell' = true := by
  intro v hv
  simp only [bcells, List.mem_map] at hv
  obtain ⟨x, _, rfl⟩ := hv
  rfl
theorem wcells_one (x : Nat × List UInt8) : ∀ v ∈ wcells x, v.oneCell' = true := by
  intro v hv
  rcases List.mem_cons.1 hv with rfl | hv
  · rfl
  · exact bcells_one _ v hv

structure Hnd where
  p : Nat
  bs : Nat
  bn : Nat
  wv : Value
def Hnd.foot (H : Hnd) (k : Nat) : Prop := k = H.p ∨ k = H.bs ∨ k = H.bn ∨ H.wv.ownBlock = some k

structure DevIs (w : World) (H : Hnd) (s : St) : Prop where
  dev : w.heap[H.p]? = some (.cells #[.slice (some ⟨H.bs, 0, none⟩) s.sure.length s.sure.length, .slice (some ⟨H.bn, 0, none⟩) s.sure.length s.sure.length, H.wv, .int .i64 s.fuse, .bool s.off] 59 (0, 0))
  sure : Rows w H.bs 75 (s.sure.length * 128) 128 (s.sure.map bcells)
  seen : Rows w H.bn 75 (s.sure.length * 128) 128 ((lay s.sure s.wait).map bcells)
  wait : SRows w H.wv 102 129 (s.wait.map wcells)
  d1 : H.p ≠ H.bs
  d2 : H.p ≠ H.bn
  d3 : H.bs ≠ H.bn
  d4 : ∀ k, H.wv.ownBlock = some k → k ≠ H.p ∧ k ≠ H.bs ∧ k ≠ H.bn
  pos : 1 ≤ s.sure.length
  top : s.sure.length ≤ 4096
  ats : ∀ x ∈ s.wait, x.1 < s.sure.length ∧ x.2.length = 128
  blk : ∀ b ∈ s.sure, b.length = 128
  fz : -9223372036854775808 ≤ s.fuse ∧ s.fuse < 9223372036854775808
  few : s.wait.length ≤ 1000000
section
variable {w w' : World} {H : Hnd} {s : St}
theorem DevIs.cell (D : DevIs w H s) (k : Nat) : w.cell? ⟨H.p, k, none⟩ = (#[Value.slice (some ⟨H.bs, 0, none⟩) s.sure.length s.sure.length, .slice (some ⟨H.bn, 0, none⟩) s.sure.length s.sure.length, H.wv, .int .i64 s.fuse, .bool s.off])[k]? :=
  cell_of_row w H.p k _ _ _ D.dev
theorem DevIs.c0 (D : DevIs w H s) : w.cell? ⟨H.p, 0, none⟩ = some (.slice (some ⟨H.bs, 0, none⟩) s.sure.length s.sure.length) := D.cell 0
theorem DevIs.c1 (D : DevIs w H s) : w.cell? ⟨H.p, 1, none⟩ = some (.slice (some ⟨H.bn, 0, none⟩) s.sure.length s.sure.length) := D.cell 1
theorem DevIs.c2 (D : DevIs w H s) : w.cell? ⟨H.p, 2, none⟩ = some H.wv := D.cell 2
theorem DevIs.c3 (D : DevIs w H s) : w.cell? ⟨H.p, 3, none⟩ = some (.int .i64 s.fuse) := D.cell 3
theorem DevIs.c4 (D : DevIs w H s) : w.cell? ⟨H.p, 4, none⟩ = some (.bool s.off) := D.cell 4
theorem DevIs.fr (D : DevIs w H s) (k : Nat) : w.frozen? ⟨H.p, k, none⟩ = false := frozen_of_row w H.p k _ _ D.dev
theorem DevIs.lt (D : DevIs w H s) {k : Nat} (hk : H.foot k) : k < w.heap.size := by
  rcases hk with rfl | rfl | rfl | hk
  · exact (Array.getElem?_eq_some_iff.1 D.dev).1
  · exact D.sure.lt
  · exact D.seen.lt
  · exact D.wait.lt hk
/-- What leaves the device's blocks as they were leaves the device. -/
theorem DevIs.kept {F : Nat → Prop} (D : DevIs w H s) (k : Kept F w w') (hF : ∀ x, H.foot x → ¬ F x) : DevIs w' H s :=
  { D with
    dev := by rw [k.block H.p (D.lt (.inl rfl)) (hF _ (.inl rfl))]; exact D.dev
    sure := D.sure.kept k (hF _ (.inr (.inl rfl)))
    seen := D.seen.kept k (hF _ (.inr (.inr (.inl rfl))))
    wait := D.wait.kept k fun g hg => hF _ (.inr (.inr (.inr hg))) }
theorem DevIs.below (D : DevIs w H s) (b : Below w.heap.size w w') : DevIs w' H s := D.kept (kept_of_below (fun _ => False) b) (fun _ _ h => h)
theorem DevIs.drewN (D : DevIs w H s) (n : Nat) : DevIs (w.drewN n) H s := D.kept ((Kept.refl (fun _ => False) w).drewN n) (fun _ _ h => h)
end

/-- The same device behind a call that turned it. -/
structure Turned (H H' : Hnd) (w w' : World) : Prop where
  p : H'.p = H.p
  kept : Kept H.foot w w'
  foot : ∀ k, H'.foot k → H.foot k ∨ w.heap.size ≤ k
theorem Turned.refl (H : Hnd) (w : World) : Turned H H w w := ⟨rfl, Kept.refl _ _, fun _ h => .inl h⟩
theorem Turned.trans {H H' H'' : Hnd} {a b c : World} (h : Turned H H' a b) (k : Turned H' H'' b c) : Turned H H'' a c :=
  ⟨k.p.trans h.p, h.kept.trans k.kept h.foot, fun x hx => by
    rcases k.foot x hx with h1 | h1
    · exact h.foot x h1
    · exact .inr (Nat.le_trans h.kept.size h1)⟩
theorem Turned.of_below {H H' : Hnd} {a b c : World} (h : Turned H H' a b) (k : Below b.heap.size b c) : Turned H H' a c :=
  ⟨h.p, h.kept.trans (kept_of_below (fun _ => False) k) (fun _ h => h.elim), h.foot⟩
theorem Turned.below {H H' : Hnd} {w w' : World} {B : Nat} (h : Turned H H' w w') (hF : ∀ k, H.foot k → B ≤ k) (hB : B ≤ w.heap.size) : Below B w w' := h.kept.below hF hB
theorem Turned.above {H H' : Hnd} {w w' : World} {B : Nat} (h : Turned H H' w w') (hF : ∀ k, H.foot k → B ≤ k) (hB : B ≤ w.heap.size) : ∀ k, H'.foot k → B ≤ k := fun k hk => by
  rcases h.foot k hk with h1 | h1
  · exact hF k h1
  · omega

/-! ### Size, given, has, fits -/
theorem size_some (p : Nat) (a : Option Addr) (n c : Nat) (w : World) (hc : w.cell? ⟨p, 0, none⟩ = some (.slice a n c)) :
    Calls Try.prog 28 #[.pointer (some ⟨p, 0, none⟩)] w fun e w' => e = .returned (.int .i64 n) ∧ w' = w := by
  go_enter Try.func28, Try.ntmps28
  go_wp2
  go_ret
  exact ⟨rfl, rfl⟩
theorem size_nil (w : World) :
    Calls Try.prog 28 #[.pointer none] w fun e w' => e = .returned (.int .i64 0) ∧ w' = w := by
  go_enter Try.func28, Try.ntmps28
  go_wp2
  go_ret
  exact ⟨rfl, rfl⟩
/-- The methods' answers hang on the size alone. -/
def SizeIs (d : Value) (n : Nat) (w : World) : Prop := ∀ w', w'.heap = w.heap → Calls Try.prog 28 #[d] w' fun e w'' => e = .returned (.int .i64 n) ∧ w'' = w'
theorem sizeIs_nil (w : World) : SizeIs (.pointer none) 0 w := fun w' _ => size_nil w'
theorem sizeIs_some (p : Nat) (a : Option Addr) (n c : Nat) (w : World) (hc : w.cell? ⟨p, 0, none⟩ = some (.slice a n c)) : SizeIs (.pointer (some ⟨p, 0, none⟩)) n w :=
  fun w' h => size_some p a n c w' (by rw [← hc]; simp [World.cell?, h])
theorem given_any (d : Value) (n : Nat) (w : World) (hs : SizeIs d n w) :
    Calls Try.prog 40 #[d] w fun e w' => e = .returned (.bool (decide (0 < n))) ∧ w' = w := by
  have c := hs w rfl
  go_enter Try.func40, Try.ntmps40
  go_wp2_with (go_at_call 28; refine c.mono ?_; rintro e w1 ⟨rfl, hw1⟩; subst hw1)
  go_ret
  simp
theorem has_any (d : Value) (n : Nat) (at_ : Int) (w : World) (hs : SizeIs d n w) :
    Calls Try.prog 26 #[d, .int .i64 at_] w fun e w' => e = .returned (.bool (decide (0 ≤ at_ ∧ at_ < n))) ∧ w' = w := by
  have c := hs w rfl
  by_cases h : 0 ≤ at_
  · go_enter Try.func26, Try.ntmps26
    go_wp2_with (go_at_call 28; refine c.mono ?_; rintro e w1 ⟨rfl, hw1⟩; subst hw1)
    go_ret
    simp [h]
  · go_enter Try.func26, Try.ntmps26
    go_wp2_with (go_at_call 28; refine c.mono ?_; rintro e w1 ⟨rfl, hw1⟩; subst hw1)
    go_ret
    simp
    omega
theorem fits_any (d : Value) (n : Nat) (at_ : Int) (str : ByteArray) (w : World) (hs : SizeIs d n w) :
    Calls Try.prog 44 #[d, .int .i64 at_, .string str] w fun e w' => e = .returned (.bool (decide ((0 ≤ at_ ∧ at_ < n) ∧ str.size = 128))) ∧ w' = w := by
  have c := has_any d n at_ w hs
  have e8 : ((str.size : Int) == 128) = decide (str.size = 128) := by rw [Bool.eq_iff_iff]; simp; omega
  by_cases h : 0 ≤ at_ ∧ at_ < n
  · have hd : decide (0 ≤ at_ ∧ at_ < n) = true := by simp [h]
    rw [hd] at c
    go_enter Try.func44, Try.ntmps44
    go_wp2_with (go_at_call 26; refine c.mono ?_; rintro e w1 ⟨rfl, hw1⟩; subst hw1)
    go_ret
    simp [h]
  · have hd : decide (0 ≤ at_ ∧ at_ < n) = false := by simpa using h
    rw [hd] at c
    go_enter Try.func44, Try.ntmps44
    go_wp2_with (go_at_call 26; refine c.mono ?_; rintro e w1 ⟨rfl, hw1⟩; subst hw1)
    go_ret
    simp [h]
theorem DevIs.size {w : World} {H : Hnd} {s : St} (D : DevIs w H s) : SizeIs (.pointer (some ⟨H.p, 0, none⟩)) s.sure.length w := sizeIs_some _ _ _ _ _ D.c0
end Go.Proofs.Ytgffplfpoopolaa
/-
  The contracts of a device's methods Off, Fuse, Read, of goesOn, and of law 4's filled.
-/
namespace Go.Proofs.Ytgffplfpoopolaa
open Go.RowKit

section
variable {w w' : World} {H : Hnd} {s : St}
theorem DevIs.setF (D : DevIs w H s) (f : Int) (hf : -9223372036854775808 ≤ f ∧ f < 9223372036854775808) : DevIs (w.setCell ⟨H.p, 3, none⟩ (.int .i64 f)) H { s with fuse := f } :=
  { dev := by
      have := heap_setCell_same w H.p 3 _ _ (.int .i64 f) D.dev
      exact this
    sure := D.sure.of_block (heap_setCell_other w _ _ _ (fun e => D.d1 e.symm))
    seen := D.seen.of_block (heap_setCell_other w _ _ _ (fun e => D.d2 e.symm))
    wait := D.wait.of_block (fun k hk => heap_setCell_other w _ _ _ (D.d4 k hk).1)
    d1 := D.d1, d2 := D.d2, d3 := D.d3, d4 := D.d4, pos := D.pos, top := D.top, ats := D.ats, blk := D.blk, fz := hf, few := D.few }
theorem DevIs.setO (D : DevIs w H s) (b : Bool) : DevIs (w.setCell ⟨H.p, 4, none⟩ (.bool b)) H { s with off := b } :=
  { dev := by
      have := heap_setCell_same w H.p 4 _ _ (.bool b) D.dev
      exact this
    sure := D.sure.of_block (heap_setCell_other w _ _ _ (fun e => D.d1 e.symm))
    seen := D.seen.of_block (heap_setCell_other w _ _ _ (fun e => D.d2 e.symm))
    wait := D.wait.of_block (fun k hk => heap_setCell_other w _ _ _ (D.d4 k hk).1)
    d1 := D.d1, d2 := D.d2, d3 := D.d3, d4 := D.d4, pos := D.pos, top := D.top, ats := D.ats, blk := D.blk, fz := D.fz, few := D.few }
theorem turned_set (H : Hnd) (w : World) (k : Nat) (v : Value) : Turned H H w (w.setCell ⟨H.p, k, none⟩ v) :=
  ⟨rfl, (Kept.refl _ _).setCell (.inl (.inl rfl)) v, fun _ h => .inl h⟩
end

theorem fuse_any {w : World} {H : Hnd} {s : St} (D : DevIs w H s) (n : Int) (hn : -9223372036854775808 ≤ n ∧ n < 9223372036854775808) :
    Calls Try.prog 22 #[.pointer (some ⟨H.p, 0, none⟩), .int .i64 n] w fun e w' => e = .returned (.int .i64 0) ∧ DevIs w' H { s with fuse := n } ∧ Turned H H w w' := by
  have c := given_any _ _ w D.size
  have hp := D.pos
  have hd : decide (0 < s.sure.length) = true := by simp; omega
  rw [hd] at c
  have h3 := D.c3
  have hf := D.fr 3
  have D' := D.setF n hn
  have T := turned_set H w 3 (.int .i64 n)
  go_enter Try.func22, Try.ntmps22
  go_wp2_with (go_at_call 40; refine c.mono ?_; rintro e w1 ⟨rfl, hw1⟩; replace hw1 := hw1.symm; subst hw1)
  go_ret
  exact ⟨rfl, D', T⟩
theorem fuse_none (d : Value) (n : Int) (w : World) (hs : SizeIs d 0 w) :
    Calls Try.prog 22 #[d, .int .i64 n] w fun e w' => e = .returned (.int .i64 1) ∧ w' = w := by
  have c := given_any d 0 w hs
  have hd : decide (0 < 0) = false := by simp
  rw [hd] at c
  go_enter Try.func22, Try.ntmps22
  go_wp2_with (go_at_call 40; refine c.mono ?_; rintro e w1 ⟨rfl, hw1⟩; replace hw1 := hw1.symm; subst hw1)
  go_ret
  exact ⟨rfl, rfl⟩

set_option maxHeartbeats 1000000 in
theorem goesOn_any {w : World} {H : Hnd} {s : St} (D : DevIs w H s) :
    Calls Try.prog 45 #[.pointer (some ⟨H.p, 0, none⟩)] w fun e w' => e = .returned (.bool s.goes) ∧ DevIs w' H s.burnt ∧ Turned H H w w' := by
  have h3 := D.c3
  have h4 := D.c4
  have f3 := D.fr 3
  have f4 := D.fr 4
  have HZ : Hid (-9223372036854775808 ≤ s.fuse ∧ s.fuse < 9223372036854775808) := D.fz
  obtain ⟨sure, wait, f, o⟩ := s
  simp only at h3 h4 HZ
  cases o with
  | true =>
    have D' : DevIs w H (St.burnt ⟨sure, wait, f, true⟩) := by simpa [St.burnt] using D
    clear D
    go_enter Try.func45, Try.ntmps45
    go_wp2
    go_ret
    exact ⟨rfl, D', Turned.refl _ _⟩
  | false =>
    by_cases h0 : f = 0
    · subst h0
      have D' : DevIs ((w.setCell ⟨H.p, 4, none⟩ (.bool true)).setCell ⟨H.p, 3, none⟩ (.int .i64 (-1))) H (St.burnt ⟨sure, wait, 0, false⟩) := by
        have := (D.setO true).setF (-1) (by omega)
        simpa [St.burnt] using this
      have T := (turned_set H w 4 (.bool true)).trans (turned_set H _ 3 (.int .i64 (-1)))
      have hD : Hid (DevIs w H ⟨sure, wait, 0, false⟩) := D
      clear D
      go_enter Try.func45, Try.ntmps45
      go_wp2
      go_ret
      exact ⟨rfl, D', T⟩
    · have hb0 : (f == 0) = false := by simpa using h0
      by_cases hp : 0 < f
      · have hz := HZ.out
        have D' : DevIs (w.setCell ⟨H.p, 3, none⟩ (.int .i64 (f - 1))) H (St.burnt ⟨sure, wait, f, false⟩) := by
          have := D.setF (f - 1) (by omega)
          simpa [St.burnt, h0, hp, hb0] using this
        have T := turned_set H w 3 (.int .i64 (f - 1))
        have hg : St.goes ⟨sure, wait, f, false⟩ = true := by simp [St.goes, h0]
        have r1 : wrap64 (f - 1) = f - 1 := by unfold wrap64; omega
        rw [hg]
        clear D hz
        go_enter Try.func45, Try.ntmps45
        go_wp2
        go_ret
        exact ⟨rfl, D', T⟩
      · have D' : DevIs w H (St.burnt ⟨sure, wait, f, false⟩) := by
          simpa [St.burnt, h0, hp, hb0] using D
        have hg : St.goes ⟨sure, wait, f, false⟩ = true := by simp [St.goes, h0]
        rw [hg]
        clear D
        go_enter Try.func45, Try.ntmps45
        go_wp2
        go_ret
        exact ⟨rfl, D', Turned.refl _ _⟩

/-! ### Read -/
theorem read_bad (d : Value) (n : Nat) (at_ : Int) (w : World) (hs : SizeIs d n w) (h : ¬ (0 ≤ at_ ∧ at_ < n)) :
    Calls Try.prog 13 #[d, .int .i64 at_] w fun e w' => e = .returned (.tuple #[.string { data := #[] }, .int .i64 1]) ∧ w' = w := by
  have c := has_any d n at_ w hs
  have hd : decide (0 ≤ at_ ∧ at_ < (n : Int)) = false := by simpa using h
  rw [hd] at c
  clear h
  go_enter Try.func13, Try.ntmps13
  go_wp2_with (go_at_call 26; refine c.mono ?_; rintro e w1 ⟨rfl, hw1⟩; replace hw1 := hw1.symm; subst hw1)
  go_ret2
  exact ⟨rfl, rfl⟩
theorem read_off {w : World} {H : Hnd} {s : St} (D : DevIs w H s) (k : Nat) (hk : k < s.sure.length) (ho : s.off = true) :
    Calls Try.prog 13 #[.pointer (some ⟨H.p, 0, none⟩), .int .i64 k] w fun e w' => e = .returned (.tuple #[.string { data := #[] }, .int .i64 40]) ∧ w' = w := by
  have c := has_any _ _ (k : Int) w D.size
  have hd : decide (0 ≤ (k : Int) ∧ (k : Int) < (s.sure.length : Int)) = true := by simp; omega
  rw [hd] at c
  have h4 := D.c4
  rw [ho] at h4
  go_enter Try.func13, Try.ntmps13
  go_wp2_with (go_at_call 26; refine c.mono ?_; rintro e w1 ⟨rfl, hw1⟩; replace hw1 := hw1.symm; subst hw1)
  go_ret2
  exact ⟨rfl, rfl⟩
theorem text_of {w : World} {b o : Nat} {l : List UInt8} (h : w.rangeAt b o (bcells l)) (cap : Nat) :
    (convert 60 9 (.slice (some ⟨b, o, none⟩) l.length cap)).run Try.prog w = .ok (.string (strB l)) w := by
  refine run_convert_bytes_back w _ _ 5 _ cap l Try.underlying60 Try.underlying5 Try.underlying9 ?_
  intro j hj
  rw [Addr.add_mid, h j (.int .u8 (l[j].toNat : Int)) (by simp [bcells, hj])]
theorem read_on {w : World} {H : Hnd} {s : St} (D : DevIs w H s) (k : Nat) (l : List UInt8) (hl : (lay s.sure s.wait)[k]? = some l) (ho : s.off = false) :
    Calls Try.prog 13 #[.pointer (some ⟨H.p, 0, none⟩), .int .i64 k] w fun e w' => e = .returned (.tuple #[.string (strB l), .int .i64 0]) ∧ w' = w := by
  have hk : k < s.sure.length := by
    have := (List.getElem?_eq_some_iff.1 hl).1
    rwa [lay_len] at this
  have c := has_any _ _ (k : Int) w D.size
  have hd : decide (0 ≤ (k : Int) ∧ (k : Int) < (s.sure.length : Int)) = true := by simp; omega
  rw [hd] at c
  have h4 := D.c4
  rw [ho] at h4
  have h1 := D.c1
  have h128 : l.length = 128 := lay_mem (p := fun b => b.length = 128) s.wait s.sure D.blk (fun x hx => (D.ats x hx).2) l (List.mem_of_getElem? hl)
  have ht := text_of (D.seen.range (i := k) (r := bcells l) (by rw [List.getElem?_map, hl]; rfl)) 128
  rw [h128] at ht
  have hkI : (k : Int) < (s.sure.length : Int) := by omega
  go_enter Try.func13, Try.ntmps13
  go_wp2_with (go_at_call 26; refine c.mono ?_; rintro e w1 ⟨rfl, hw1⟩; replace hw1 := hw1.symm; subst hw1)
  go_ret2
  exact ⟨rfl, rfl⟩

/-! ### filled -/
end Go.Proofs.Ytgffplfpoopolaa
/-
  The contract of device.New.
-/
namespace Go.Proofs.Ytgffplfpoopolaa
open Go.RowKit

theorem info_block : (Try.prog.info? 75).map (fun i => (i.zero, i.size, i.bytes)) = some (some (.agg (Array.replicate 128 (.int .u8 0))), 128, 128) := by kernel_rfl

/-- 'make([]block, n)', in whatever world. -/
theorem make_blocks (n : Nat) (hn : n ≤ 4096) : ∃ c : Array Value, c.size = n * 128 ∧ (∀ i, i < n * 128 → c[i]? = some (.int .u8 0)) ∧
    ∀ w : World, (Instr.makeSlice 56 (.int .i64 (n : Int)) (.int .i64 (n : Int))).run Try.prog w = .ok (.slice (some ⟨w.heap.size, 0, none⟩) n n) (w.alloc (.cells c 75)) := by
  obtain ⟨i0, hi, hz0, hz1, hz2⟩ := info_parts info_block
  refine ⟨madeCells (Array.replicate 128 (.int .u8 0)) (n * 128), size_madeCells _ _, ?_, ?_⟩
  · intro i h
    have h2 : i % 128 < 128 := Nat.mod_lt _ (by omega)
    simp [madeCells, h, h2]
  · intro w
    have hr := run_make (P := Try.prog) w 56 75 i0 _ Try.underlying56 hi hz0 .i64 .i64 n n (by omega) (Int.le_refl _) (by rw [hz2]; omega) (by omega)
    simp only [Int.toNat_natCast, hz1] at hr
    exact hr
theorem rows_new {w : World} {b n : Nat} {c : Array Value} {t : TypeId} (h : w.heap[b]? = some (.cells c t (0, 0))) (hs : c.size = n * 128) (hc : ∀ i, i < n * 128 → c[i]? = some (.int .u8 0)) :
    Rows w b t (n * 128) 128 ((List.replicate n (List.replicate 128 (0 : UInt8))).map bcells) := by
  refine ⟨c, h, hs, by simp, ?_, ?_⟩
  · intro r hr
    simp only [List.map_replicate, List.mem_replicate] at hr
    rw [hr.2]
    simp [bcells]
  · intro i r hr j v hv
    have hi : i < n := by simpa using (List.getElem?_eq_some_iff.1 hr).1
    simp only [List.map_replicate, List.getElem?_replicate, hi, if_true, Option.some.injEq] at hr
    subst hr
    have hj : j < 128 := by simpa [bcells] using (List.getElem?_eq_some_iff.1 hv).1
    simp only [bcells, List.map_replicate, List.getElem?_replicate, hj, if_true, Option.some.injEq] at hv
    rw [hc _ (by omega), ← hv]
    rfl
theorem heap3 (w : World) (A B C : Obj) : (((w.alloc A).alloc B).alloc C).heap[w.heap.size]? = some A ∧ (((w.alloc A).alloc B).alloc C).heap[w.heap.size + 1]? = some B ∧ (((w.alloc A).alloc B).alloc C).heap[w.heap.size + 1 + 1]? = some C := by
  refine ⟨?_, ?_, ?_⟩
  · rw [heap_alloc_old _ _ (by simp; omega), heap_alloc_old _ _ (by simp)]
    exact heap_alloc_new w A
  · rw [heap_alloc_old _ _ (by simp)]
    have := heap_alloc_new (w.alloc A) B
    simpa using this
  · have := heap_alloc_new ((w.alloc A).alloc B) C
    simpa using this
def St.new (n : Nat) : St := ⟨List.replicate n (List.replicate 128 0), [], -1, false⟩
theorem dev_new {w : World} {n p b1 b2 : Nat} {c : Array Value} (hn : 1 ≤ n) (hn2 : n ≤ 4096) (hs : c.size = n * 128) (hc : ∀ i, i < n * 128 → c[i]? = some (.int .u8 0))
    (hp : w.heap[p]? = some (.cells #[.slice (some ⟨b1, 0, none⟩) n n, .slice (some ⟨b2, 0, none⟩) n n, .slice none 0 0, .int .i64 (-1), .bool false] 59 (0, 0)))
    (h1 : w.heap[b1]? = some (.cells c 75 (0, 0))) (h2 : w.heap[b2]? = some (.cells c 75 (0, 0))) (d1 : p ≠ b1) (d2 : p ≠ b2) (d3 : b1 ≠ b2) : DevIs w ⟨p, b1, b2, .slice none 0 0⟩ (St.new n) :=
  { dev := by simpa [St.new] using hp
    sure := by simpa [St.new] using rows_new h1 hs hc
    seen := by simpa [St.new, lay] using rows_new h2 hs hc
    wait := srows_nil _ _ _
    d1 := d1, d2 := d2, d3 := d3
    d4 := by intro k hk; simp [Value.ownBlock] at hk
    pos := by simpa [St.new] using hn
    top := by simpa [St.new] using hn2
    ats := by intro x hx; simp [St.new] at hx
    blk := by intro b hb; simp [St.new] at hb; rw [hb.2]; simp
    fz := by show _ ≤ (-1 : Int) ∧ (-1 : Int) < _; omega
    few := by simp [St.new] }

theorem new_bad (n : Int) (h : ¬ (1 ≤ n ∧ n ≤ 4096)) (w : World) :
    Calls Try.prog 4 #[.int .i64 n] w fun e w' => e = .returned (.tuple #[.pointer none, .int .i64 1]) ∧ w' = w := by
  by_cases h1 : n < 1
  · clear h
    go_enter Try.func4, Try.ntmps4
    go_wp2
    go_ret2
    exact ⟨rfl, rfl⟩
  · have h2 : 4096 < n := by omega
    clear h
    go_enter Try.func4, Try.ntmps4
    go_wp2
    go_ret2
    exact ⟨rfl, rfl⟩

set_option maxHeartbeats 1000000 in
theorem new_any (n : Nat) (h1 : 1 ≤ n) (h2 : n ≤ 4096) (w : World) :
    Calls Try.prog 4 #[.int .i64 (n : Int)] w fun e w' => ∃ H : Hnd, e = .returned (.tuple #[.pointer (some ⟨H.p, 0, none⟩), .int .i64 0]) ∧ DevIs w' H (St.new n) ∧ Below w.heap.size w w' ∧ ∀ k, H.foot k → w.heap.size ≤ k := by
  obtain ⟨c, hs, hc, hm⟩ := make_blocks n h2
  have g1 : ¬ (n : Int) < 1 := by omega
  have g2 : ¬ 4096 < (n : Int) := by omega
  have HS : Hid (c.size = n * 128) := hs
  have HC : Hid (∀ i, i < n * 128 → c[i]? = some (.int .u8 0)) := hc
  have H1 : Hid (1 ≤ n) := h1
  have H2 : Hid (n ≤ 4096) := h2
  clear hs hc h1 h2
  go_enter Try.func4, Try.ntmps4
  go_wp2
  go_region
  all_goals go_wp2
  all_goals go_ret2
  · refine ⟨⟨w.heap.size + 1 + 1, w.heap.size, w.heap.size + 1, .slice none 0 0⟩, rfl, dev_new H1.out H2.out HS.out HC.out (heap3 w _ _ _).2.2 (heap3 w _ _ _).1 (heap3 w _ _ _).2.1 (by omega) (by omega) (by omega), ?_, ?_⟩
    · exact ((((Below.refl _ w).alloc (Nat.le_refl _) _).alloc (by simp) _).alloc (by simp; omega) _).drew
    · intro k hk
      rcases hk with rfl | rfl | rfl | hk
      · simp only; omega
      · simp only; omega
      · simp only; omega
      · simp [Value.ownBlock] at hk
  · refine ⟨⟨w.heap.size + 1 + 1, w.heap.size + 1, w.heap.size, .slice none 0 0⟩, rfl, dev_new H1.out H2.out HS.out HC.out (heap3 w _ _ _).2.2 (heap3 w _ _ _).2.1 (heap3 w _ _ _).1 (by omega) (by omega) (by omega), ?_, ?_⟩
    · exact ((((Below.refl _ w).alloc (Nat.le_refl _) _).alloc (by simp) _).alloc (by simp; omega) _).drew
    · intro k hk
      rcases hk with rfl | rfl | rfl | hk
      · simp only; omega
      · simp only; omega
      · simp only; omega
      · simp [Value.ownBlock] at hk
end Go.Proofs.Ytgffplfpoopolaa
/-
  The contract of a device's Write.
-/
namespace Go.Proofs.Ytgffplfpoopolaa
open Go.RowKit

theorem info_write : (Try.prog.info? 102).map (fun i => (i.zero, i.size, i.bytes)) = some (some (.agg (#[.int .i64 0] ++ Array.replicate 128 (.int .u8 0))), 129, 136) := by kernel_rfl
theorem size_block : (Try.prog.info? 75).map (·.size) = some 128 := by kernel_rfl
theorem size_write : (Try.prog.info? 102).map (·.size) = some 129 := by kernel_rfl
theorem size_byte : (Try.prog.info? 5).map (·.size) = some 1 := by kernel_rfl

theorem fill_one (off : Nat) : ∀ (vs : List Value) (k : Nat) (cs : Array Value), off + k + vs.length ≤ cs.size →
    ((vs.zipIdx k).foldl (fun (cs : Array Value) (x : Value × Nat) => cs.setIfInBounds (off + x.2) x.1) cs).toList = cs.toList.take (off + k) ++ vs ++ cs.toList.drop (off + k + vs.length)
  | [], k, cs, _ => by simp
  | v :: r, k, cs, h => by
    simp only [List.length_cons] at h
    rw [List.zipIdx_cons, List.foldl_cons, fill_one off r (k + 1) _ (by simp; omega)]
    simp only [Array.toList_setIfInBounds]
    have hl : off + k < cs.toList.length := by simp; omega
    rw [List.take_set, List.drop_set, if_pos (by omega)]
    have e1 : off + (k + 1) = off + k + 1 := by omega
    have e2 : off + (k + 1) + r.length = off + k + (v :: r).length := by simp; omega
    rw [e2, e1]
    have e3 : (cs.toList.take (off + k + 1)).set (off + k) v = cs.toList.take (off + k) ++ [v] := by
      rw [List.take_add_one, List.set_append_right _ _ (by simp; omega)]
      have : (cs.toList.take (off + k)).length = off + k := by simp; omega
      rw [this, Nat.sub_self, List.getElem?_eq_getElem hl]
      simp
    rw [e3]
    simp
def wr (v : Value) (c : Array Value) : Array Value := (v :: c.toList).toArray
theorem info_int : (Try.prog.info? 3).map (fun i => (i.zero, i.size, i.bytes)) = some (some (.int .i64 0), 1, 8) := by kernel_rfl
theorem fill_step (place : Nat → Option (Nat × Nat)) (X : Array Value) (i off size : Nat) (v : Value) (rest : List (Nat × Value)) (hp : place i = some (off, size)) (h1 : v.cells.size = size) (h2 : off + size ≤ X.size) :
    Instr.fill place X ((i, v) :: rest) = Instr.fill place (X.toList.take off ++ v.cells.toList ++ X.toList.drop (off + size)).toArray rest := by
  have e := fill_one off v.cells.toList 0 X (by simp; omega)
  have e2 : (v.cells.zipIdx.foldl (fun (cs : Array Value) (x : Value × Nat) => cs.setIfInBounds (off + x.2) x.1) X) = (X.toList.take off ++ v.cells.toList ++ X.toList.drop (off + size)).toArray := by
    apply Array.ext'
    rw [← Array.foldl_toList, Array.toList_zipIdx, e]
    simp [h1]
  have h3 : ¬ off + v.cells.size > X.size := by omega
  simp only [Instr.fill, hp, h1, ne_eq, not_true_eq_false, decide_false, Bool.false_or, decide_eq_true_eq]
  rw [if_neg (by omega)]
  congr 1
theorem cells_agg (c : Array Value) : (Value.agg c).cells = c := rfl
set_option maxRecDepth 4000 in
/-- 'write{at, bytes}'. -/
theorem build_write (v u : Value) (hv : v.cells = #[v]) (hu : u.cells.size = 128) (w : World) : (Instr.build 102 #[(0, v), (1, u)]).run Try.prog w = .ok (.agg (wr v u.cells)) w := by
  obtain ⟨i0, hi, hz0, hz1, hz2⟩ := info_parts info_write
  obtain ⟨i1, hj, hw0, hw1, hw2⟩ := info_parts info_int
  obtain ⟨i2, hk, hx0, hx1, hx2⟩ := info_parts info_block
  obtain ⟨Z, hZ⟩ : ∃ Z : Array Value, Z = #[Value.int .i64 0] ++ Array.replicate 128 (.int .u8 0) := ⟨_, rfl⟩
  have hZs : Z.size = 129 := by rw [hZ]; simp
  have hf : ∀ place : Nat → Option (Nat × Nat), place 0 = some (0, 1) → place 1 = some (1, 128) → Instr.fill place Z [(0, v), (1, u)] = some (wr v u.cells) := by
    intro place h0 h1
    rw [fill_step place Z 0 0 1 v _ h0 (by rw [hv]; rfl) (by omega), fill_step place _ 1 1 128 u _ h1 hu (by simp [hv]; omega), Instr.fill]
    congr 1
    apply Array.ext'
    have : (List.drop (1 + 128) (List.take 0 Z.toList ++ v.cells.toList ++ List.drop (0 + 1) Z.toList)) = [] := by
      apply List.drop_eq_nil_of_le
      simp [hv]
      omega
    show _ ++ _ ++ _ = _
    rw [this]
    simp [hv, wr]
  rw [← hZ] at hz0
  simp [Instr.build, zeroValue, typeInfo, hi, hz0, run_underlying Try.underlying102, sizeOf, hj, hk, hw1, hx1, cells_agg]
  rw [hf _ (by rfl) (by rfl)]
  rfl
set_option maxRecDepth 4000 in
/-- '[]write{x}'. -/
theorem slice_write (v : Value) (hl : v.cells.size = 129) (w : World) : (Instr.buildSlice 57 1 #[(0, v)]).run Try.prog w = .ok (.slice (some ⟨w.heap.size, 0, none⟩) 1 1) (w.alloc (.cells v.cells 102)) := by
  obtain ⟨i0, hi, hz0, hz1, hz2⟩ := info_parts info_write
  have hf : ∀ (place : Nat → Option (Nat × Nat)) (Z : Array Value), Z.size = 129 → place 0 = some (0, 129) → Instr.fill place Z [(0, v)] = some v.cells := by
    intro place Z hZ h0
    rw [fill_step place Z 0 0 129 v _ h0 hl (by omega), Instr.fill]
    congr 1
    apply Array.ext'
    have : List.drop (0 + 129) Z.toList = [] := by apply List.drop_eq_nil_of_le; simp; omega
    show _ ++ _ ++ _ = _
    rw [this]
    simp
  simp [Instr.buildSlice, zeroValue, typeInfo, hi, hz0, run_underlying Try.underlying57, sizeOf, hz1]
  rw [hf _ _ (by simp) (by rfl)]
  simp [newRow]
theorem exec_build (ρ : Operand → Value) (dst : Option Tmp) (ty : TypeId) (pos : String) (after : Array Edge) (guard : Option (Nat × Bool)) (x y : Operand) (w : World) (hv : (ρ x).cells = #[ρ x]) (hu : (ρ y).cells.size = 128) :
    (execOp ρ { dst, op := .build 102 #[(0, x), (1, y)], type := ty, pos, after, guard }).run Try.prog w = .ok (.value (.agg (wr (ρ x) (ρ y).cells))) w := by
  have := build_write (ρ x) (ρ y) hv hu w
  simp [execOp, this]
theorem exec_slice (ρ : Operand → Value) (dst : Option Tmp) (ty : TypeId) (pos : String) (after : Array Edge) (guard : Option (Nat × Bool)) (x : Operand) (w : World) (hv : (ρ x).cells.size = 129) :
    (execOp ρ { dst, op := .buildSlice 57 1 #[(0, x)], type := ty, pos, after, guard }).run Try.prog w = .ok (.value (.slice (some ⟨w.heap.size, 0, none⟩) 1 1)) (w.alloc (.cells (ρ x).cells 102)) := by
  have := slice_write (ρ x) hv w
  simp [execOp, this]
/-- A whole block's cells, where a pointer points. -/
def lrow (w : World) : Value → Array Value
  | .pointer (some a) => ((List.range 128).map fun j => (w.cell? (a.add j)).getD undef).toArray
  | _ => #[]
def okRow (w : World) (v : Value) : Prop := ∃ b o cs, v = .pointer (some ⟨b, o, none⟩) ∧ w.rangeAt b o cs ∧ cs.length = 128
theorem lrow_eq {w : World} {b o : Nat} {cs : List Value} (h : w.rangeAt b o cs) (hl : cs.length = 128) : lrow w (.pointer (some ⟨b, o, none⟩)) = cs.toArray := by
  show ((List.range 128).map fun j => (w.cell? ((⟨b, o, none⟩ : Addr).add j)).getD undef).toArray = cs.toArray
  refine congrArg List.toArray ?_
  apply List.ext_getElem
  · simp [hl]
  · intro j h1 h2
    simp only [List.getElem_map, List.getElem_range, Addr.add_mid]
    rw [h j cs[j] (List.getElem?_eq_getElem h2)]
    rfl
theorem exec_load (ρ : Operand → Value) (dst : Option Tmp) (ty : TypeId) (pos : String) (after : Array Edge) (guard : Option (Nat × Bool)) (x : Operand) (w : World) (h : okRow w (ρ x)) :
    (execOp ρ { dst, op := .load 75 x, type := ty, pos, after, guard }).run Try.prog w = .ok (.value (.agg (lrow w (ρ x)))) w := by
  obtain ⟨b, o, cs, hx, hr, hl⟩ := h
  have := run_loadAt_mid (P := Try.prog) w b o 75 cs _ hr Try.underlying75 rfl (by rw [hl]; exact size_block)
  rw [hx, lrow_eq hr hl]
  simp [execOp, hx, this]
theorem fold_write (v : Value) (cs : List Value) (hcl : cs.length = 128) (Z : Array Value) (hZ : Z.size = 129) : List.foldl (fun (cs : Array Value) (x : Value × Nat) => cs.setIfInBounds (1 + x.snd) x.fst) (Z.setIfInBounds 0 v) cs.zipIdx = wr v cs.toArray := by
  apply Array.ext'
  rw [fill_one 1 cs 0 _ (by simp; omega)]
  have hd : List.drop (1 + 0 + cs.length) (Z.setIfInBounds 0 v).toList = [] := by
    apply List.drop_eq_nil_of_le
    simp; omega
  rw [hd]
  obtain ⟨l⟩ := Z
  cases l with
  | nil => simp at hZ
  | cons a l => simp [wr]
attribute [local go_sem ↓] exec_build exec_slice exec_load

theorem write_bad (d : Value) (n : Nat) (at_ : Int) (str : ByteArray) (w : World) (hs : SizeIs d n w) (h : ¬ ((0 ≤ at_ ∧ at_ < n) ∧ str.size = 128)) :
    Calls Try.prog 30 #[d, .int .i64 at_, .string str] w fun e w' => e = .returned (.int .i64 1) ∧ w' = w := by
  have c := fits_any d n at_ str w hs
  have hd : decide ((0 ≤ at_ ∧ at_ < (n : Int)) ∧ str.size = 128) = false := by simpa using h
  rw [hd] at c
  clear h
  go_enter Try.func30, Try.ntmps30
  go_wp2_with (go_at_call 44; refine c.mono ?_; rintro e w1 ⟨rfl, hw1⟩; replace hw1 := hw1.symm; subst hw1)
  go_ret
  exact ⟨rfl, rfl⟩
theorem write_off {w : World} {H : Hnd} {s : St} (D : DevIs w H s) (k : Nat) (str : ByteArray) (hk : k < s.sure.length) (hl : str.size = 128) (hg : s.goes = false) :
    Calls Try.prog 30 #[.pointer (some ⟨H.p, 0, none⟩), .int .i64 k, .string str] w fun e w' => e = .returned (.int .i64 40) ∧ DevIs w' H s.burnt ∧ Turned H H w w' := by
  have c := fits_any _ _ (k : Int) str w D.size
  have hd : decide ((0 ≤ (k : Int) ∧ (k : Int) < (s.sure.length : Int)) ∧ str.size = 128) = true := by simp; omega
  rw [hd] at c
  have c2 := goesOn_any D
  rw [hg] at c2
  go_enter Try.func30, Try.ntmps30
  go_wp2_with (first
    | (go_at_call 44; refine c.mono ?_; rintro e w1 ⟨rfl, hw1⟩; replace hw1 := hw1.symm; subst hw1)
    | (go_at_call 45; refine c2.mono ?_; rintro e w1 ⟨rfl, D1, T1⟩))
  go_ret
  exact ⟨rfl, D1, T1⟩

theorem write_end {w1 w2 w3 : World} {H : Hnd} {s : St} (D : DevIs w1 H s) (k : Nat) (hk : k < s.sure.length) (b : List UInt8) (hb : b.length = 128) (hw2 : w2 = w1.setCells H.bn (k * 128) (bcells b)) (X : Obj)
    (hgrow : (w2.alloc X).drew.grownBy w3 H.wv.ownBlock) (g cap n1 : Nat) (hn1 : n1 = s.wait.length + 1) (xs : List Value) (hxs : xs = (s.wait.map wcells).flatten ++ wcells (k, b)) (hown : w3.ownsRow 0 102 129 (.slice (some ⟨g, 0, none⟩) n1 cap) n1 xs)
    (hat : H.wv.ownBlock = some g ∨ g = w2.heap.size + 1) (few : s.wait.length < 1000000) :
    DevIs (w3.setCell ⟨H.p, 2, none⟩ (.slice (some ⟨g, 0, none⟩) n1 cap)) { H with wv := .slice (some ⟨g, 0, none⟩) n1 cap } { s with wait := s.wait ++ [(k, b)] } ∧
      Turned H { H with wv := .slice (some ⟨g, 0, none⟩) n1 cap } w1 (w3.setCell ⟨H.p, 2, none⟩ (.slice (some ⟨g, 0, none⟩) n1 cap)) := by
  have K2 : Kept H.foot w1 w2 := by rw [hw2]; exact Kept.setCells (.inl (.inr (.inr (.inl rfl)))) _ _ _ (Kept.refl _ _)
  have K3 : Kept H.foot w1 w3 := (K2.alloc X).drew.grown hgrow fun x hx => .inl (.inr (.inr (.inr hx)))
  have hpn : ∀ x, x < w1.heap.size → H.wv.ownBlock ≠ some x → w3.heap[x]? = w2.heap[x]? := fun x hx hne => by
    rw [hgrow.block x (by have := K2.size; simp; omega) (fun e => hne e.symm)]
    exact heap_alloc_old _ _ (Nat.lt_of_lt_of_le hx K2.size)
  have far : ∀ x, x ≠ H.bn → w2.heap[x]? = w1.heap[x]? := fun x hx => by rw [hw2]; exact heap_setCells_far _ _ _ _ _ hx
  have np : H.wv.ownBlock ≠ some H.p := fun e => (D.d4 _ e).1 rfl
  have ns : H.wv.ownBlock ≠ some H.bs := fun e => (D.d4 _ e).2.1 rfl
  have nn : H.wv.ownBlock ≠ some H.bn := fun e => (D.d4 _ e).2.2 rfl
  have lp := D.lt (k := H.p) (.inl rfl)
  have ls := D.lt (k := H.bs) (.inr (.inl rfl))
  have ln := D.lt (k := H.bn) (.inr (.inr (.inl rfl)))
  have gne : g ≠ H.p ∧ g ≠ H.bs ∧ g ≠ H.bn := by
    rcases hat with h | h
    · exact D.d4 g h
    · have := K2.size; omega
  have dev3 : w3.heap[H.p]? = _ := ((hpn _ lp np).trans (far _ D.d2)).trans D.dev
  have sn2 : Rows w2 H.bn 75 (s.sure.length * 128) 128 (((lay s.sure s.wait).map bcells).set k (bcells b)) := by
    rw [hw2]
    exact D.seen.set (by rw [List.length_map, lay_len]; exact hk) (by rw [bcells_len, hb])
  refine ⟨?_, rfl, K3.setCell (.inl (.inl rfl)) _, ?_⟩
  · exact
      { dev := heap_setCell_same w3 H.p 2 _ _ _ dev3
        sure := (D.sure.of_block ((hpn _ ls ns).trans (far _ D.d3))).of_block (heap_setCell_other w3 _ _ _ (fun e => D.d1 e.symm))
        seen := by
          have := (sn2.of_block (hpn _ ln nn)).of_block (heap_setCell_other w3 ⟨H.p, 2, none⟩ _ (.slice (some ⟨g, 0, none⟩) n1 cap) (fun e => D.d2 e.symm))
          rw [lay_snoc, List.map_set]
          exact this
        wait := by
          have : SRows w3 (.slice (some ⟨g, 0, none⟩) n1 cap) 102 129 ((s.wait ++ [(k, b)]).map wcells) := by
            refine srows_of_own hown ?_ ?_ (by omega) ?_
            · rw [hxs]; simp
            · intro r hr
              rw [List.map_append, List.mem_append] at hr
              rcases hr with hr | hr
              · exact D.wait.rowlen r hr
              · simp at hr; rw [hr]; simp [wcells, bcells_len, hb]
            · simp [hn1]
          exact this.of_block fun x hx => heap_setCell_other w3 _ _ _ (by simp [Value.ownBlock] at hx; rw [← hx]; exact gne.1)
        d1 := D.d1, d2 := D.d2, d3 := D.d3
        d4 := by intro x hx; simp [Value.ownBlock] at hx; rw [← hx]; exact gne
        pos := D.pos, top := D.top
        ats := by
          intro x hx
          rcases List.mem_append.1 hx with hx | hx
          · exact D.ats x hx
          · simp at hx; rw [hx]; exact ⟨hk, hb⟩
        blk := D.blk, fz := D.fz
        few := by simp; omega }
  · intro x hx
    rcases hx with rfl | rfl | rfl | hx
    · exact .inl (.inl rfl)
    · exact .inl (.inr (.inl rfl))
    · exact .inl (.inr (.inr (.inl rfl)))
    · simp [Value.ownBlock] at hx
      subst hx
      rcases hat with h | h
      · exact .inl (.inr (.inr (.inr h)))
      · right; have := K2.size; omega

set_option maxRecDepth 4000 in
set_option maxHeartbeats 2000000 in
theorem write_on {w : World} {H : Hnd} {s : St} (D : DevIs w H s) (k : Nat) (str : ByteArray) (hk : k < s.sure.length) (hl : str.size = 128) (hg : s.goes = true) (hfew : s.wait.length < 1000000) :
    Calls Try.prog 30 #[.pointer (some ⟨H.p, 0, none⟩), .int .i64 k, .string str] w fun e w' => e = .returned (.int .i64 0) ∧ ∃ H', DevIs w' H' (s.write k str.data.toList) ∧ Turned H H' w w' := by
  have c := fits_any _ _ (k : Int) str w D.size
  have hd : decide ((0 ≤ (k : Int) ∧ (k : Int) < (s.sure.length : Int)) ∧ str.size = 128) = true := by simp; omega
  rw [hd] at c
  have c2 := goesOn_any D
  rw [hg] at c2
  have hkI : (k : Int) < (s.sure.length : Int) := by omega
  obtain ⟨cs, hcs⟩ : ∃ cs, cs = cellsS str := ⟨_, rfl⟩
  have hcl : cs.length = 128 := by rw [hcs, cellsS_len, hl]
  have hone : ∀ v ∈ cs, v.oneCell' = true := by
    rw [hcs]
    intro v hv
    simp only [cellsS, List.mem_map] at hv
    obtain ⟨x, _, rfl⟩ := hv
    rfl
  obtain ⟨A, hA⟩ : ∃ A, A = wr (.int .i64 (k : Int)) cs.toArray := ⟨_, rfl⟩
  have hA9 : A.size = 129 := by rw [hA]; simp [wr, hcl]
  have hAe : wr (.int .i64 (k : Int)) cs.toArray = A := hA.symm
  have hu := Try.underlying75
  have hi := size_block
  rw [← hcl] at hi
  go_enter Try.func30, Try.ntmps30
  go_wp2_with (first
    | (go_at_call 44; refine c.mono ?_; rintro e w1 ⟨rfl, hw1⟩; replace hw1 := hw1.symm; subst hw1)
    | (go_at_call 45; refine c2.mono ?_; rintro e w1 ⟨rfl, D1, T1⟩; have q1 := D1.c1; have q2 := D1.c2; have q5 := D1.fr 2; have qb := D1.seen.there (i := k) (by rw [List.length_map, lay_len]; exact hk))
    | (refine wpList_copy_str rfl _ _ _ _ 5 rfl H.bn (k * 128) 128 128 str rfl rfl hl Try.underlying60 size_byte qb ?_))
  obtain ⟨w2, hw2⟩ : ∃ w2, w2 = w1.setCells H.bn (k * 128) (cellsS str) := ⟨_, rfl⟩
  rw [← hw2]
  have K2 : Kept H.foot w1 w2 := by rw [hw2]; exact Kept.setCells (.inl (.inr (.inr (.inl rfl)))) _ _ _ (Kept.refl _ _)
  have far : ∀ x, x ≠ H.bn → w2.heap[x]? = w1.heap[x]? := fun x hx => by rw [hw2]; exact heap_setCells_far _ _ _ _ _ hx
  have p1 : w2.cell? ⟨H.p, 1, none⟩ = some (.slice (some ⟨H.bn, 0, none⟩) s.burnt.sure.length s.burnt.sure.length) := (World.cell?_of_block (far _ D1.d2)).trans q1
  have p2 : w2.cell? ⟨H.p, 2, none⟩ = some H.wv := (World.cell?_of_block (far _ D1.d2)).trans q2
  have sn2 : w2.rangeAt H.bn (k * 128) cs := by
    rw [hw2, hcs]
    refine World.rangeAt_setCells_same _ _ _ _ ?_
    rw [cellsS_len, hl]
    exact qb
  have lp : H.p < w2.heap.size := Nat.lt_of_lt_of_le (D1.lt (.inl rfl)) K2.size
  have p2a : (w2.alloc (.cells A 102)).cell? ⟨H.p, 2, none⟩ = some H.wv := (World.cell?_of_block (heap_alloc_old _ _ lp)).trans p2
  have hown : (w2.alloc (.cells A 102)).drew.ownsRow 0 102 129 H.wv s.wait.length (s.wait.map wcells).flatten := by
    have h0 : SRows w2 H.wv 102 129 (s.wait.map wcells) := D1.wait.of_block fun x hx => far x (D1.d4 x hx).2.2
    have h1 := (h0.of_block (w' := (w2.alloc (.cells A 102)).drew) fun x hx => heap_alloc_old _ _ (h0.lt hx)).own (by omega)
    rw [List.length_map] at h1
    exact h1
  have hnews : ∀ j u, A.toList[j]? = some u → (w2.alloc (.cells A 102)).drew.cell? ((⟨w2.heap.size, 0, none⟩ : Addr).add j) = some u := World.news_of_block (heap_alloc_last w2 _)
  have hAone : ∀ u ∈ A.toList, u.oneCell' = true := by
    rw [hA]
    intro u hu
    simp [wr] at hu
    rcases hu with rfl | hu
    · rfl
    · exact hone u hu
  have hAl : A.toList.length = 1 * 129 := by simp [hA9]
  obtain ⟨i0, z0, HI⟩ : ∃ (i0 : TypeInfo) (z0 : Value), Hid (Try.prog.info? 102 = some i0 ∧ i0.zero = some z0 ∧ i0.size = 129 ∧ i0.bytes = 136 ∧ z0.cells.size = 129) := by
    obtain ⟨i0, hi0, hz0, hz1, hz2⟩ := info_parts info_write
    exact ⟨i0, _, hi0, hz0, hz1, hz2, by simp [cells_agg]⟩
  have HX : Hid (DevIs w1 H s.burnt ∧ Turned H H w w1 ∧ w2 = w1.setCells H.bn (k * 128) (cellsS str) ∧ cs = cellsS str ∧ A = wr (.int .i64 (k : Int)) cs.toArray) := ⟨D1, T1, hw2, hcs, hA⟩
  have lp3 : H.p < (w2.alloc (.cells A 102)).drew.heap.size := by simp; omega
  have npw : some H.p ≠ H.wv.ownBlock := fun e => (D1.d4 _ e.symm).1 rfl
  have nnw : some H.bn ≠ H.wv.ownBlock := fun e => (D1.d4 _ e.symm).2.2 rfl
  have ln3 : H.bn < (w2.alloc (.cells A 102)).drew.heap.size := by
    have := Nat.lt_of_lt_of_le (D1.lt (.inr (.inr (.inl rfl)))) K2.size
    simp; omega
  have dnp : H.bn ≠ H.p := fun e => D1.d2 e.symm
  have p5 : w2.frozen? ⟨H.p, 2, none⟩ = false := (World.frozen?_of_block (far _ D1.d2)).trans q5
  have p5a : (w2.alloc (.cells A 102)).frozen? ⟨H.p, 2, none⟩ = false := (World.frozen?_of_block (heap_alloc_old _ _ lp)).trans p5
  have p1a : (w2.alloc (.cells A 102)).cell? ⟨H.p, 1, none⟩ = some (.slice (some ⟨H.bn, 0, none⟩) s.burnt.sure.length s.burnt.sure.length) := (World.cell?_of_block (heap_alloc_old _ _ lp)).trans p1
  have sn2a : (w2.alloc (.cells A 102)).rangeAt H.bn (k * 128) cs := World.rangeAt_alloc sn2 _
  clear D1 T1 hw2 hcs hA D far K2 q1 q2 q5 qb c c2 hg hd
  have hok : okRow w2.drew (.pointer (some ⟨H.bn, k * 128, none⟩)) := ⟨_, _, cs, rfl, sn2, hcl⟩
  have hlr : lrow w2.drew (.pointer (some ⟨H.bn, k * 128, none⟩)) = cs.toArray := lrow_eq sn2 hcl
  clear sn2 sn2a hu hi
  have hfold : ∀ Z : Array Value, Z.size = 129 → List.foldl (fun (cs : Array Value) (x : Value × Nat) => cs.setIfInBounds (1 + x.snd) x.fst) (Z.setIfInBounds 0 (.int .i64 (k : Int))) cs.zipIdx = A := fun Z hZ => (fold_write _ cs hcl Z hZ).trans hAe
  go_wp2_with fail
  go_region_law
    ((refine step_append_lies _ rfl (.tmp 28) (.tmp 38) 57 rfl 0 102 i0 z0 129 136 Try.underlying57 HI.out.1 HI.out.2.1 HI.out.2.2.1 HI.out.2.2.2.1 HI.out.2.2.2.2 (by decide) H.wv s.wait.length (s.wait.map wcells).flatten (by simp [Act.eval]) hown ⟨w2.heap.size, 0, none⟩ 1 1 A.toList (by simp [Act.eval]) hAl hnews hAone (by decide) (by simp only [maxLen]; omega) (by omega) (Nat.zero_le _) (w2.heap.size + 1) (by simp) ?_; intro g cap w3 hown3 hgrow hat hlt; have r3 := (hgrow.cell_far ⟨H.p, 2, none⟩ lp3 npw).trans p2a; have r4 := (hgrow.frozen_far ⟨H.p, 2, none⟩ lp3 npw).trans p5a))
  all_goals go_wp2
  all_goals go_ret
  all_goals
    obtain ⟨D1, T1, hw2, hcs, hA⟩ := HX.out
    have hx := write_end D1 k hk str.data.toList (by simpa using hl) (by rw [hw2]; rfl) _ hgrow g cap (s.wait.length + 1) rfl _ (by rw [hA, hcs]; simp [wr, wcells, cellsS, bcells]; rfl) hown3 hat hfew
    exact ⟨rfl, _, hx.1, T1.trans hx.2⟩
end Go.Proofs.Ytgffplfpoopolaa
/-
  A device in memory in the midst of a call: what is sure and what is seen stand apart. And laws for a whole struct or array that a loop's variable is.
-/
namespace Go.Proofs.Ytgffplfpoopolaa
open Go.RowKit

structure Raw (w : World) (H : Hnd) (n : Nat) (su sn : List (List UInt8)) (wt : List (Nat × List UInt8)) (f : Int) (o : Bool) : Prop where
  dev : w.heap[H.p]? = some (.cells #[.slice (some ⟨H.bs, 0, none⟩) n n, .slice (some ⟨H.bn, 0, none⟩) n n, H.wv, .int .i64 f, .bool o] 59 (0, 0))
  sure : Rows w H.bs 75 (n * 128) 128 (su.map bcells)
  seen : Rows w H.bn 75 (n * 128) 128 (sn.map bcells)
  wait : SRows w H.wv 102 129 (wt.map wcells)
  d1 : H.p ≠ H.bs
  d2 : H.p ≠ H.bn
  d3 : H.bs ≠ H.bn
  d4 : ∀ k, H.wv.ownBlock = some k → k ≠ H.p ∧ k ≠ H.bs ∧ k ≠ H.bn
  l1 : su.length = n
  l2 : sn.length = n
  pos : 1 ≤ n
  top : n ≤ 4096
  ats : ∀ x ∈ wt, x.1 < n ∧ x.2.length = 128
  b1 : ∀ b ∈ su, b.length = 128
  b2 : ∀ b ∈ sn, b.length = 128
  fz : -9223372036854775808 ≤ f ∧ f < 9223372036854775808
  few : wt.length ≤ 1000000
section
variable {w w' : World} {H : Hnd} {s : St} {n : Nat} {su sn : List (List UInt8)} {wt : List (Nat × List UInt8)} {f : Int} {o : Bool}
theorem DevIs.raw (D : DevIs w H s) : Raw w H s.sure.length s.sure (lay s.sure s.wait) s.wait s.fuse s.off :=
  { dev := D.dev, sure := D.sure, seen := D.seen, wait := D.wait, d1 := D.d1, d2 := D.d2, d3 := D.d3, d4 := D.d4, l1 := rfl, l2 := lay_len _ _, pos := D.pos, top := D.top, ats := D.ats, b1 := D.blk
    b2 := lay_mem (p := fun b => b.length = 128) s.wait s.sure D.blk (fun x hx => (D.ats x hx).2), fz := D.fz, few := D.few }
theorem Raw.is (R : Raw w H n su sn wt f o) (h : sn = lay su wt) : DevIs w H ⟨su, wt, f, o⟩ := by
  have h1 := R.l1
  subst h h1
  exact { dev := R.dev, sure := R.sure, seen := R.seen, wait := R.wait, d1 := R.d1, d2 := R.d2, d3 := R.d3, d4 := R.d4, pos := R.pos, top := R.top, ats := R.ats, blk := R.b1, fz := R.fz, few := R.few }
theorem Raw.cell (R : Raw w H n su sn wt f o) (k : Nat) : w.cell? ⟨H.p, k, none⟩ = (#[Value.slice (some ⟨H.bs, 0, none⟩) n n, .slice (some ⟨H.bn, 0, none⟩) n n, H.wv, .int .i64 f, .bool o])[k]? := cell_of_row w H.p k _ _ _ R.dev
theorem Raw.c0 (R : Raw w H n su sn wt f o) : w.cell? ⟨H.p, 0, none⟩ = some (.slice (some ⟨H.bs, 0, none⟩) n n) := R.cell 0
theorem Raw.c1 (R : Raw w H n su sn wt f o) : w.cell? ⟨H.p, 1, none⟩ = some (.slice (some ⟨H.bn, 0, none⟩) n n) := R.cell 1
theorem Raw.c2 (R : Raw w H n su sn wt f o) : w.cell? ⟨H.p, 2, none⟩ = some H.wv := R.cell 2
theorem Raw.c3 (R : Raw w H n su sn wt f o) : w.cell? ⟨H.p, 3, none⟩ = some (.int .i64 f) := R.cell 3
theorem Raw.c4 (R : Raw w H n su sn wt f o) : w.cell? ⟨H.p, 4, none⟩ = some (.bool o) := R.cell 4
theorem Raw.fr (R : Raw w H n su sn wt f o) (k : Nat) : w.frozen? ⟨H.p, k, none⟩ = false := frozen_of_row w H.p k _ _ R.dev
theorem Raw.lt (R : Raw w H n su sn wt f o) {k : Nat} (hk : H.foot k) : k < w.heap.size := by
  rcases hk with rfl | rfl | rfl | hk
  · exact (Array.getElem?_eq_some_iff.1 R.dev).1
  · exact R.sure.lt
  · exact R.seen.lt
  · exact R.wait.lt hk
theorem Raw.kept {F : Nat → Prop} (R : Raw w H n su sn wt f o) (k : Kept F w w') (hF : ∀ x, H.foot x → ¬ F x) : Raw w' H n su sn wt f o :=
  { R with
    dev := by rw [k.block H.p (R.lt (.inl rfl)) (hF _ (.inl rfl))]; exact R.dev
    sure := R.sure.kept k (hF _ (.inr (.inl rfl)))
    seen := R.seen.kept k (hF _ (.inr (.inr (.inl rfl))))
    wait := R.wait.kept k fun g hg => hF _ (.inr (.inr (.inr hg))) }
theorem Raw.alloc (R : Raw w H n su sn wt f o) (b : Obj) : Raw (w.alloc b) H n su sn wt f o := R.kept ((Kept.refl (fun _ => False) w).alloc b) (fun _ _ h => h)
theorem Raw.drew (R : Raw w H n su sn wt f o) : Raw w.drew H n su sn wt f o := R.kept ((Kept.refl (fun _ => False) w).drew) (fun _ _ h => h)
theorem Raw.setSure (R : Raw w H n su sn wt f o) {k : Nat} (hk : k < n) {b : List UInt8} (hb : b.length = 128) : Raw (w.setCells H.bs (k * 128) (bcells b)) H n (su.set k b) sn wt f o :=
  { R with
    dev := by rw [heap_setCells_far _ _ _ _ _ R.d1]; exact R.dev
    sure := by
      have := R.sure.set (i := k) (r := bcells b) (by rw [List.length_map, R.l1]; exact hk) (by rw [bcells_len, hb])
      rwa [List.map_set]
    seen := R.seen.far _ (fun e => R.d3 e.symm)
    wait := R.wait.of_block fun x hx => heap_setCells_far _ _ _ _ _ (R.d4 x hx).2.1
    l1 := by rw [List.length_set]; exact R.l1
    b1 := by
      intro x hx
      rcases List.mem_or_eq_of_mem_set hx with hx | rfl
      · exact R.b1 x hx
      · exact hb }
theorem Raw.setSeen (R : Raw w H n su sn wt f o) {k : Nat} (hk : k < n) {b : List UInt8} (hb : b.length = 128) : Raw (w.setCells H.bn (k * 128) (bcells b)) H n su (sn.set k b) wt f o :=
  { R with
    dev := by rw [heap_setCells_far _ _ _ _ _ R.d2]; exact R.dev
    seen := by
      have := R.seen.set (i := k) (r := bcells b) (by rw [List.length_map, R.l2]; exact hk) (by rw [bcells_len, hb])
      rwa [List.map_set]
    sure := R.sure.far _ R.d3
    wait := R.wait.of_block fun x hx => heap_setCells_far _ _ _ _ _ (R.d4 x hx).2.2
    l2 := by rw [List.length_set]; exact R.l2
    b2 := by
      intro x hx
      rcases List.mem_or_eq_of_mem_set hx with hx | rfl
      · exact R.b2 x hx
      · exact hb }
/-- Another slice of writes. -/
theorem Raw.setWait (R : Raw w H n su sn wt f o) (v : Value) (wt' : List (Nat × List UInt8)) (hv : SRows w v 102 129 (wt'.map wcells)) (hd : ∀ k, v.ownBlock = some k → k ≠ H.p ∧ k ≠ H.bs ∧ k ≠ H.bn) (ha : ∀ x ∈ wt', x.1 < n ∧ x.2.length = 128) (hf : wt'.length ≤ 1000000) :
    Raw (w.setCell ⟨H.p, 2, none⟩ v) { H with wv := v } n su sn wt' f o :=
  { R with
    dev := heap_setCell_same w H.p 2 _ _ v R.dev
    sure := R.sure.of_block (heap_setCell_other w _ _ _ (fun e => R.d1 e.symm))
    seen := R.seen.of_block (heap_setCell_other w _ _ _ (fun e => R.d2 e.symm))
    wait := hv.of_block fun k hk => heap_setCell_other w _ _ _ (hd k hk).1
    d4 := hd, ats := ha, few := hf }
theorem Raw.setNone (R : Raw w H n su sn wt f o) : Raw (w.setCell ⟨H.p, 2, none⟩ (.slice none 0 0)) { H with wv := .slice none 0 0 } n su sn [] f o :=
  R.setWait _ [] (srows_nil _ _ _) (by intro k hk; simp [Value.ownBlock] at hk) (by simp) (by simp)
theorem Raw.setF (R : Raw w H n su sn wt f o) (f' : Int) (hf : -9223372036854775808 ≤ f' ∧ f' < 9223372036854775808) : Raw (w.setCell ⟨H.p, 3, none⟩ (.int .i64 f')) H n su sn wt f' o :=
  { R with
    dev := heap_setCell_same w H.p 3 _ _ _ R.dev
    sure := R.sure.of_block (heap_setCell_other w _ _ _ (fun e => R.d1 e.symm))
    seen := R.seen.of_block (heap_setCell_other w _ _ _ (fun e => R.d2 e.symm))
    wait := R.wait.of_block (fun k hk => heap_setCell_other w _ _ _ (R.d4 k hk).1)
    fz := hf }
theorem Raw.setO (R : Raw w H n su sn wt f o) (b : Bool) : Raw (w.setCell ⟨H.p, 4, none⟩ (.bool b)) H n su sn wt f b :=
  { R with
    dev := heap_setCell_same w H.p 4 _ _ _ R.dev
    sure := R.sure.of_block (heap_setCell_other w _ _ _ (fun e => R.d1 e.symm))
    seen := R.seen.of_block (heap_setCell_other w _ _ _ (fun e => R.d2 e.symm))
    wait := R.wait.of_block (fun k hk => heap_setCell_other w _ _ _ (R.d4 k hk).1) }
/-- The write number k, where it lies. -/
theorem Raw.at_ (R : Raw w H n su sn wt f o) {k : Nat} {x : Nat × List UInt8} (hx : wt[k]? = some x) : ∃ g cap, H.wv = .slice (some ⟨g, 0, none⟩) wt.length cap ∧ w.rangeAt g (k * 129) (wcells x) := by
  rcases R.wait with ⟨_, h0⟩ | ⟨g, cap, hv, _, _, hr⟩
  · simp at h0; subst h0; simp at hx
  · refine ⟨g, cap, by simpa using hv, hr.range ?_⟩
    rw [List.getElem?_map, hx]; rfl
theorem Raw.wv (R : Raw w H n su sn wt f o) : ∃ g cap, H.wv = .slice g wt.length cap := by
  rcases R.wait with ⟨hv, h0⟩ | ⟨g, cap, hv, _⟩
  · simp at h0; subst h0; exact ⟨_, _, hv⟩
  · exact ⟨_, _, by simpa using hv⟩
end

/-! ### A loop's variable that is a whole struct -/
section
variable {P : Program} {ops : Array Oper} {rest : List Oper} {op : Oper} {a : Act} {w : World} {Q : Exit → Act → World → Prop}
theorem alloc_wide {t : TypeId} {z : Array Value} (hz : ∀ w, (zeroValue t).run P w = .ok (.agg z) w) (hgd : op.guard = none) (ho : op.op = .alloc t)
    (h : wpList P ops Q rest (a.put op.dst (.pointer (some ⟨w.heap.size, 0, none⟩))) (w.alloc (.cells z t))) : wpList P ops Q (op :: rest) a w := by
  refine wpList_plain hgd fun K hK => ?_
  unfold Oper.wp execOp
  simp only [ho, Instr.alloc, Sem.run_bind, hz, Result.andThen_ok]
  exact hK _ _ h
theorem store_wide {t : TypeId} {n : Nat} (hi : (P.info? t).map (·.size) = some n) (x y : Operand) (b : Nat) (c c' : Array Value) (W : World) (hW : w = W.alloc (.cells c t)) (hgd : op.guard = none) (ho : op.op = .store t x y) (hx : a.eval x = .pointer (some ⟨b, 0, none⟩)) (hb : b = W.heap.size) (hy : a.eval y = .agg c')
    (hc : c.size = n) (hc' : c'.size = n) (h1 : c'.all (·.oneCell') = true)
    (h : wpList P ops Q rest (a.put op.dst undef) (W.alloc (.cells c' t))) : wpList P ops Q (op :: rest) a w := by
  subst hb hW
  refine wpList_store_row hgd t x y ho W.heap.size c' hx hy t c (heap_alloc_last W _) (by rw [hc']; exact hi) (by omega) h1 ?_
  rw [World.setRow_alloc_new]
  exact h
end
def zw : Array Value := #[Value.int .i64 0] ++ Array.replicate 128 (.int .u8 0)
theorem zw_size : zw.size = 129 := by simp [zw]
theorem info_write2 : (Try.prog.info? 102).map (fun i => (i.zero, i.size)) = some (some (.agg zw), 129) := by kernel_rfl
theorem zero_write (w : World) : (zeroValue 102).run Try.prog w = .ok (.agg zw) w := (zero_of_info info_write2).1 w
def wArr (x : Nat × List UInt8) : Array Value := (wcells x).toArray
theorem wArr_size {x : Nat × List UInt8} (h : x.2.length = 128) : (wArr x).size = 129 := by simp [wArr, wcells, bcells_len, h]
theorem wArr_one (x : Nat × List UInt8) : (wArr x).all (·.oneCell') = true := all_oneCell_toArray (wcells_one x)
theorem wArr_cell {w : World} {B : Nat} {t : TypeId} {x : Nat × List UInt8} (h : w.heap[B]? = some (.cells (wArr x) t (0, 0))) : w.cell? ⟨B, 0, none⟩ = some (.int .i64 x.1) ∧ w.rangeAt B 1 (bcells x.2) := by
  refine ⟨by rw [cell_of_row w B 0 _ t _ h]; rfl, ?_⟩
  intro j v hj
  rw [cell_of_row w B _ _ t _ h]
  simp [wArr, wcells, Nat.add_comm 1 j, hj]
end Go.Proofs.Ytgffplfpoopolaa
/-
  The contract of a device's Sync.
-/
namespace Go.Proofs.Ytgffplfpoopolaa
open Go.RowKit

theorem sync_none (d : Value) (w : World) (hs : SizeIs d 0 w) :
    Calls Try.prog 32 #[d] w fun e w' => e = .returned (.int .i64 1) ∧ w' = w := by
  have c := given_any d 0 w hs
  have hd : decide (0 < 0) = false := by simp
  rw [hd] at c
  go_enter Try.func32, Try.ntmps32
  go_wp2_with (go_at_call 40; refine c.mono ?_; rintro e w1 ⟨rfl, hw1⟩; replace hw1 := hw1.symm; subst hw1)
  go_ret
  exact ⟨rfl, rfl⟩
theorem sync_off {w : World} {H : Hnd} {s : St} (D : DevIs w H s) (hg : s.goes = false) :
    Calls Try.prog 32 #[.pointer (some ⟨H.p, 0, none⟩)] w fun e w' => e = .returned (.int .i64 40) ∧ DevIs w' H s.burnt ∧ Turned H H w w' := by
  have c := given_any _ _ w D.size
  have hp := D.pos
  have hd : decide (0 < s.sure.length) = true := by simp; omega
  rw [hd] at c
  have c2 := goesOn_any D
  rw [hg] at c2
  go_enter Try.func32, Try.ntmps32
  go_wp2_with (first
    | (go_at_call 40; refine c.mono ?_; rintro e w1 ⟨rfl, hw1⟩; replace hw1 := hw1.symm; subst hw1)
    | (go_at_call 45; refine c2.mono ?_; rintro e w1 ⟨rfl, D1, T1⟩))
  go_ret
  exact ⟨rfl, D1, T1⟩
theorem lay_take (su : List (List UInt8)) (wt : List (Nat × List UInt8)) (k : Nat) (x : Nat × List UInt8) (hx : wt[k]? = some x) : lay su (wt.take (k + 1)) = (lay su (wt.take k)).set x.1 x.2 := by
  rw [List.take_add_one, hx]
  exact lay_snoc _ _ _

set_option maxRecDepth 4000 in
set_option maxHeartbeats 2000000 in
theorem sync_on {w : World} {H : Hnd} {s : St} (D : DevIs w H s) (hg : s.goes = true) :
    Calls Try.prog 32 #[.pointer (some ⟨H.p, 0, none⟩)] w fun e w' => e = .returned (.int .i64 0) ∧ ∃ H', DevIs w' H' s.synced ∧ Turned H H' w w' := by
  have c := given_any _ _ w D.size
  have hp := D.pos
  have hd : decide (0 < s.sure.length) = true := by simp; omega
  rw [hd] at c
  have c2 := goesOn_any D
  rw [hg] at c2
  have hz := zero_write
  obtain ⟨gg, cap, hwv⟩ := D.raw.wv
  have hu := Try.underlying75
  have hi := size_block
  clear hg hd
  go_enter Try.func32, Try.ntmps32
  go_wp2_with (first
    | (go_at_call 40; refine c.mono ?_; rintro e w1 ⟨rfl, hw1⟩; replace hw1 := hw1.symm; subst hw1)
    | (go_at_call 45; refine c2.mono ?_; rintro e w1 ⟨rfl, D1, T1⟩; have q2 := D1.c2; rw [hwv] at q2; obtain ⟨n, hn⟩ : ∃ n, n = s.sure.length := ⟨_, rfl⟩; obtain ⟨m, hm⟩ : ∃ m, m = s.wait.length := ⟨_, rfl⟩; have R1 : Raw w1 H n s.sure (lay s.sure s.wait) s.wait s.burnt.fuse s.burnt.off := (hn ▸ D1.raw : _)))
  go_loopg [4, 16, 17, 18, 19, 20, 21, 22, 23, 24, 25, 26, 27, 28, 29] m (fun g s4 s16 s17 s18 s19 s20 s21 s22 s23 s24 s25 s26 s27 s28 s29 wx => ∃ k : Nat, k + g = m ∧ s16 = .int .i64 k ∧ Raw wx H n (lay s.sure (s.wait.take k)) (lay s.sure s.wait) s.wait s.burnt.fuse s.burnt.off ∧ Kept H.foot w1 wx)
  case atStart => exact ⟨0, by omega, rfl, by simpa [lay] using R1, Kept.refl _ _⟩
  case round =>
    obtain ⟨k, hkg, rfl, R, K⟩ := hrel
    by_cases hk : k < m
    · have hkI : (k : Int) < (s.wait.length : Int) := by omega
      obtain ⟨x, hx⟩ : ∃ x, s.wait[k]? = some x := ⟨_, List.getElem?_eq_getElem (by omega)⟩
      obtain ⟨g, cap', hv, hrange⟩ := R.at_ hx
      rw [hwv] at hv
      simp only [Value.slice.injEq, true_and] at hv
      obtain ⟨rfl, rfl⟩ := hv
      obtain ⟨hxa, hxl⟩ := R.ats x (List.mem_of_getElem? hx)
      have RA := R.alloc (.cells (wArr x) 102)
      have p0 := RA.c0
      obtain ⟨b0, b1⟩ := wArr_cell (heap_alloc_last wr (.cells (wArr x) 102))
      have th := RA.sure.there (i := x.1) (by rw [List.length_map, lay_len, ← hn]; exact hxa)
      obtain ⟨cs, hcs⟩ : ∃ cs, cs = bcells x.2 := ⟨_, rfl⟩
      rw [← hcs] at b1
      have hcl : cs.length = 128 := by rw [hcs, bcells_len, hxl]
      have hone : ∀ v ∈ cs, v.oneCell' = true := by rw [hcs]; exact bcells_one _
      have hi : Option.map (fun x => x.size) (Try.prog.info? 75) = some cs.length := by rw [hcl]; exact size_block
      have hws := wArr_size hxl
      have d1 := R.d1
      have nB : wr.heap.size ≠ H.bs := Nat.ne_of_gt (R.lt (.inr (.inl rfl)))
      have hxI : (x.1 : Int) < (n : Int) := by omega
      have hr2 : IntKind.i64.wrap ((k : Int) + 1) = (k : Int) + 1 := by have := R.few; rw [IntKind.wrap_i64]; omega
      have hwl : some (wcells x).length = some 129 := by simp [wcells, bcells_len, hxl]
      have HR : Hid (Raw (wr.alloc (.cells (wArr x) 102)) H n (lay s.sure (s.wait.take k)) (lay s.sure s.wait) s.wait s.burnt.fuse s.burnt.off ∧ Kept H.foot w1 wr ∧ cs = bcells x.2 ∧ s.wait[k]? = some x ∧ x.2.length = 128) := ⟨RA, K, hcs, hx, hxl⟩
      have HM : Hid (m = s.wait.length) := hm
      clear RA K hcs hx hxl R R1 D1 T1 c c2 D hm hn q2
      go_wp2_with (first
        | (refine wpList_load_mid rfl 102 _ rfl g (k * 129) rfl (wcells x) _ hrange Try.underlying102 rfl (size_write.trans hwl.symm) ?_)
        | (refine alloc_wide hz rfl rfl ?_)
        | (refine store_wide size_write _ _ _ zw (wArr x) wr rfl rfl rfl rfl rfl rfl zw_size hws (wArr_one x) ?_))
      go_region_held3 (fun w' => w'.cell? ⟨H.p, 0, none⟩ = some (.slice (some ⟨H.bs, 0, none⟩) n n) ∧ w'.cell? ⟨wr.heap.size, 0, none⟩ = some (.int .i64 x.1) ∧ w'.rangeAt wr.heap.size 1 cs ∧ w'.there H.bs (x.1 * 128) 128)
        (first
          | exact ⟨p0, b0, b1, th⟩
          | exact ⟨(World.cell?_setCells_out _ _ _ _ _ (fun e _ => absurd e d1)).trans p0, (World.cell?_setCells_out _ _ _ _ _ (fun e _ => absurd e nB)).trans b0, World.rangeAt_setCells_apart ((World.rangeAt_drew _ _ _ _).2 b1) _ _ _ (.inl nB), World.there_setCells ((World.there_drew _ _ _ _).2 th) _ _ _⟩)
        (fail)
      all_goals go_wp2
      go_roundg (m - (k + 1))
      case measure => omega
      case rel =>
        obtain ⟨RA, K, hcs, hx, hxl⟩ := HR.out
        refine ⟨k + 1, by omega, by go_num, ?_, ?_⟩
        · rw [lay_take _ _ _ _ hx, hcs]
          exact RA.drew.setSure hxa hxl
        · exact Kept.setCells (.inl (.inr (.inl rfl))) _ _ _ (K.alloc _).drew
    · have hkI : ¬ (k : Int) < (s.wait.length : Int) := by omega
      obtain rfl : k = m := by omega
      rw [hm, List.take_length] at R
      have R2 := R.setNone
      have q1 := R.c2
      have q3 := R.fr 2
      have DD := R2.is rfl
      have K2 := K.setCell (p := ⟨H.p, 2, none⟩) (.inl (.inl rfl)) (.slice none 0 0)
      have TT : Turned H { H with wv := .slice none 0 0 } w1 (wr.setCell ⟨H.p, 2, none⟩ (.slice none 0 0)) := ⟨rfl, K2, fun x hx => by
        rcases hx with rfl | rfl | rfl | hx
        · exact .inl (.inl rfl)
        · exact .inl (.inr (.inl rfl))
        · exact .inl (.inr (.inr (.inl rfl)))
        · simp [Value.ownBlock] at hx⟩
      have HR : Hid (Turned H { H with wv := .slice none 0 0 } w (wr.setCell ⟨H.p, 2, none⟩ (.slice none 0 0))) := T1.trans TT
      clear R R2 K K2 R1 c c2 D1 T1 D TT
      go_wp2
      go_ret
      exact ⟨rfl, _, DD, HR.out⟩
end Go.Proofs.Ytgffplfpoopolaa
/-
  The contract of a device's Crash.
-/
namespace Go.Proofs.Ytgffplfpoopolaa
open Go.RowKit

/-- Is a number among these? -/
def among (l : List (BitVec 64)) (i : Nat) : Bool := l.any fun x => x.toInt == (i : Int)
theorem among_step (l : List (BitVec 64)) (j : Nat) (hj : j < l.length) (i : Nat) : among (l.take (j + 1)) i = (among (l.take j) i || ((l.getD j 0#64).toInt == (i : Int))) := by
  unfold among
  rw [List.take_add_one, List.getElem?_eq_getElem hj, List.any_append]
  simp [hj]
theorem reads_at {w : World} {v : Value} {l : List (BitVec 64)} (h : ReadsI w v l) : ∃ a c, v = .slice a l.length c ∧ ∀ i, i < l.length → ∃ b off, a = some ⟨b, off, none⟩ ∧ b < w.heap.size ∧ w.cell? ⟨b, off + i, none⟩ = some (.int .i64 (l.getD i 0#64).toInt) := by
  rcases h with ⟨rfl, a, c, rfl⟩ | ⟨b, off, c, rfl, _, hb, hc⟩
  · exact ⟨a, c, rfl, by simp⟩
  · exact ⟨_, c, rfl, fun i hi => ⟨b, off, rfl, hb, hc i hi⟩⟩
theorem info_bool : (Try.prog.info? 4).map (fun i => (i.zero, i.size, i.bytes)) = some (some (.bool false), 1, 1) := by kernel_rfl
theorem crash_none (d v : Value) (w : World) (hs : SizeIs d 0 w) :
    Calls Try.prog 41 #[d, v] w fun e w' => e = .returned (.int .i64 1) ∧ w' = w := by
  have c := given_any d 0 w hs
  have hd : decide (0 < 0) = false := by simp
  rw [hd] at c
  go_enter Try.func41, Try.ntmps41
  go_wp2_with (go_at_call 40; refine c.mono ?_; rintro e w1 ⟨rfl, hw1⟩; replace hw1 := hw1.symm; subst hw1)
  go_ret
  exact ⟨rfl, rfl⟩
theorem back_take (su sn : List (List UInt8)) (wt : List (Nat × List UInt8)) (k : Nat) (x : Nat × List UInt8) (hx : wt[k]? = some x) : back su sn (wt.take (k + 1)) = (back su sn (wt.take k)).set x.1 (su.getD x.1 []) := by
  rw [List.take_add_one, hx]
  exact back_snoc _ _ _ _
theorem keep_take (f : Nat → Bool) (wt : List (Nat × List UInt8)) (k : Nat) (x : Nat × List UInt8) (hx : wt[k]? = some x) : keepW f 0 (wt.take (k + 1)) = keepW f 0 (wt.take k) ++ if f k then [x] else [] := by
  have hk : k < wt.length := (List.getElem?_eq_some_iff.1 hx).1
  rw [List.take_add_one, hx]
  show keepW f 0 (wt.take k ++ [x]) = _
  rw [keepW_snoc, List.length_take, Nat.zero_add, Nat.min_eq_left (by omega)]

set_option maxRecDepth 4000 in
set_option maxHeartbeats 4000000 in
theorem crash_any {w : World} {H : Hnd} {s : St} (D : DevIs w H s) (v : Value) (l : List (BitVec 64)) (hv : ReadsI w v l) (hll : l.length ≤ maxLen) :
    Calls Try.prog 41 #[.pointer (some ⟨H.p, 0, none⟩), v] w fun e w' => e = .returned (.int .i64 0) ∧ ∃ H', DevIs w' H' (s.crashed (among l)) ∧ Turned H H' w w' := by
  have c := given_any _ _ w D.size
  have hp := D.pos
  have hd : decide (0 < s.sure.length) = true := by simp; omega
  rw [hd] at c
  have hz := zero_write
  have hu := Try.underlying75
  have R0 := D.raw
  obtain ⟨n, hn⟩ : ∃ n, n = s.sure.length := ⟨_, rfl⟩
  rw [← hn] at R0
  obtain ⟨gg, cap, hwv⟩ := R0.wv
  obtain ⟨m, hm⟩ : ∃ m, m = s.wait.length := ⟨_, rfl⟩
  rw [← hm] at hwv
  obtain ⟨i0, hi0, hz0, hz1, hz2⟩ := info_parts info_bool
  have hmb : i0.bytes * m ≤ 281474976710656 := by have := D.few; rw [hz2]; omega
  have hmb2 : m ≤ 9223372036854775807 := by have := D.few; omega
  have q2 := R0.c2
  rw [hwv] at q2
  have q2a : (w.alloc (.cells (madeCells #[.bool false] m) 4)).cell? ⟨H.p, 2, none⟩ = some (.slice gg m cap) := by rw [← hwv]; exact (R0.alloc _).c2
  obtain ⟨av, cv, rfl, hread⟩ := reads_at hv
  have hL : (l.length : Int) ≤ 9223372036854775807 := by simp only [maxLen] at hll; omega
  have HM : Hid (m = s.wait.length) := hm
  have HN : Hid (n = s.sure.length) := hn
  clear hd hv hm hn hp hll
  go_enter Try.func41, Try.ntmps41
  go_wp2_with (first
    | (go_at_call 40; refine c.mono ?_; rintro e w1 ⟨rfl, hw1⟩; replace hw1 := hw1.symm; subst hw1)
    | (refine wpList_make_row _ rfl _ _ 117 rfl 4 i0 (.bool false) Try.underlying117 hi0 hz0 hz1 rfl .i64 .i64 m rfl rfl hmb hmb2 ?_))
  go_loopg [7, 23, 24, 25, 26, 27, 28, 29, 30, 31, 32, 33, 34, 35, 36, 37, 38] l.length (fun g s7 s23 s24 s25 s26 s27 s28 s29 s30 s31 s32 s33 s34 s35 s36 s37 s38 wx => ∃ j : Nat, j + g = l.length ∧ s23 = .int .i64 j ∧ wx.rowIs w.heap.size 4 m (fun i => .bool (among (l.take j) i)) ∧ Below w.heap.size w wx)
  case atStart =>
    refine ⟨0, by omega, rfl, ?_, (Below.refl _ _).alloc (Nat.le_refl _) _⟩
    have := World.rowIs_made w (.bool false) m 4
    exact this
  case round =>
    obtain ⟨j, hjg, rfl, hrow, hb⟩ := hrel
    by_cases hj : j < l.length
    · have hjI : (j : Int) < (l.length : Int) := by omega
      obtain ⟨b, off, rfl, hbw, hcell⟩ := hread j hj
      have hc2 := (hb.cell (p := ⟨b, off + j, none⟩) hbw).trans hcell
      have hst := among_step l j hj
      obtain ⟨z, hzz⟩ : ∃ z, z = (l.getD j 0#64).toInt := ⟨_, rfl⟩
      rw [← hzz] at hc2 hst
      have hr2 : IntKind.i64.wrap ((j : Int) + 1) = (j : Int) + 1 := by rw [IntKind.wrap_i64]; omega
      have HS : Hid (∀ i, among (l.take (j + 1)) i = (among (l.take j) i || (z == (i : Int)))) := hst
      clear hst hcell hread hzz D R0 q2 q2a c
      by_cases hz2 : 0 ≤ z ∧ z < (m : Int)
      · obtain ⟨q, rfl⟩ : ∃ q : Nat, z = (q : Int) := ⟨z.toNat, by omega⟩
        have hqm : q < m := by omega
        have hqI : (q : Int) < (m : Int) := by omega
        have hcl := hrow.cell (i := q) hqm
        have hfr := hrow.frozen q
        have hset := (hrow.set q (.bool true)).congr (g := fun i => .bool (among (l.take (j + 1)) i)) (fun i _ => by
          rw [HS.out i]
          by_cases e : i = q
          · subst e; simp
          · have : ((q : Int) == (i : Int)) = false := by simp; omega
            simp [e, this])
        have hb2 := hb.setCell (p := ⟨w.heap.size, q, none⟩) (Nat.le_refl _) (.bool true)
        clear hrow hb hz2
        go_wp2
        go_roundg (l.length - (j + 1))
        case measure => omega
        case rel => exact ⟨j + 1, by omega, by go_num, hset, hb2⟩
      · have hset := hrow.congr (g := fun i => .bool (among (l.take (j + 1)) i)) (fun i hi => by
          rw [HS.out i]
          have : (z == (i : Int)) = false := by simp; omega
          simp [this])
        clear hrow
        by_cases h0 : 0 ≤ z
        · have h1 : ¬ z < (m : Int) := by omega
          clear hz2
          go_wp2
          go_roundg (l.length - (j + 1))
          case measure => omega
          case rel => exact ⟨j + 1, by omega, by go_num, hset, hb⟩
        · clear hz2
          go_wp2
          go_roundg (l.length - (j + 1))
          case measure => omega
          case rel => exact ⟨j + 1, by omega, by go_num, hset, hb⟩
    · have hjI : ¬ (j : Int) < (l.length : Int) := by omega
      obtain rfl : j = l.length := by omega
      rw [List.take_length] at hrow
      have R1 : Raw wr H n s.sure (lay s.sure s.wait) s.wait s.fuse s.off := R0.kept (kept_of_below (fun _ => False) hb) (fun _ _ h => h)
      have K1 : Kept H.foot w wr := kept_of_below _ hb
      have nf : ¬ H.foot w.heap.size := fun h => Nat.lt_irrefl _ (R0.lt h)
      obtain ⟨B0, hB0⟩ : ∃ B0, B0 = w.heap.size := ⟨_, rfl⟩
      rw [← hB0] at hrow nf ⊢
      have hq : wr.cell? ⟨H.p, 2, none⟩ = some (.slice gg m cap) := by rw [← hwv]; exact R1.c2
      obtain ⟨w2, hw2⟩ : ∃ w2, w2 = wr := ⟨_, rfl⟩
      subst hw2
      have HL : Hid (Kept H.foot w w2) := K1
      clear hread q2 q2a c hb hjI hjg D R0 hi0 hz0 hz1 hz2 hmb hB0
      go_wp2_with fail
      go_loopg [8, 9, 44, 45, 46, 47, 48, 49, 50, 51, 52, 53, 54, 55, 56, 57, 58, 59, 60, 61, 62] m (fun g s8 s9 s44 s45 s46 s47 s48 s49 s50 s51 s52 s53 s54 s55 s56 s57 s58 s59 s60 s61 s62 wx => ∃ k : Nat, k + g = m ∧ s44 = .int .i64 k ∧ Raw wx H n (lay s.sure (keepW (among l) 0 (s.wait.take k))) (lay s.sure s.wait) s.wait s.fuse s.off ∧ Kept H.foot w wx ∧ wx.rowIs B0 4 m (fun i => .bool (among l i)))
      case atStart => exact ⟨0, by omega, rfl, by simpa [lay, keepW] using R1, HL.out, hrow⟩
      case round =>
        obtain ⟨k, hkg, rfl, R, K, hrow⟩ := hrel
        clear R1 K1 hq
        by_cases hk : k < m
        · have hkI : (k : Int) < (m : Int) := by omega
          obtain ⟨x, hx⟩ : ∃ x, s.wait[k]? = some x := ⟨_, List.getElem?_eq_getElem (by have := HM.out; omega)⟩
          obtain ⟨g, cap', hv, hrange⟩ := R.at_ hx
          rw [hwv] at hv
          simp only [Value.slice.injEq] at hv
          obtain ⟨rfl, hmm, rfl⟩ := hv
          clear hmm
          obtain ⟨hxa, hxl⟩ := R.ats x (List.mem_of_getElem? hx)
          have RA := R.alloc (.cells (wArr x) 102)
          have p0 := RA.c0
          obtain ⟨b0, b1⟩ := wArr_cell (heap_alloc_last wr (.cells (wArr x) 102))
          have th := RA.sure.there (i := x.1) (by rw [List.length_map, RA.l1]; exact hxa)
          obtain ⟨cs, hcs⟩ : ∃ cs, cs = bcells x.2 := ⟨_, rfl⟩
          rw [← hcs] at b1
          have hcl : cs.length = 128 := by rw [hcs, bcells_len, hxl]
          have hone : ∀ v ∈ cs, v.oneCell' = true := by rw [hcs]; exact bcells_one _
          have hi : Option.map (fun x => x.size) (Try.prog.info? 75) = some cs.length := by rw [hcl]; exact size_block
          have hws := wArr_size hxl
          have d1 := R.d1
          have nB : wr.heap.size ≠ H.bs := Nat.ne_of_gt (R.lt (.inr (.inl rfl)))
          have hxI : (x.1 : Int) < (n : Int) := by omega
          have hr2 : IntKind.i64.wrap ((k : Int) + 1) = (k : Int) + 1 := by rw [IntKind.wrap_i64]; omega
          have hwl : some (wcells x).length = some 129 := by simp [wcells, bcells_len, hxl]
          have hrA := hrow.alloc (.cells (wArr x) 102)
          have hbc := hrA.cell (i := k) hk
          have nbs : B0 ≠ H.bs := fun e => nf (.inr (.inl e))
          have HR : Hid (Raw (wr.alloc (.cells (wArr x) 102)) H n (lay s.sure (keepW (among l) 0 (s.wait.take k))) (lay s.sure s.wait) s.wait s.fuse s.off ∧ Kept H.foot w wr ∧ cs = bcells x.2 ∧ s.wait[k]? = some x ∧ x.2.length = 128 ∧ (wr.alloc (.cells (wArr x) 102)).rowIs B0 4 m (fun i => .bool (among l i))) := ⟨RA, K, hcs, hx, hxl, hrA⟩
          clear RA K hcs hx hxl R hrA hrow
          cases hal : among l k with
          | true =>
            have HA : Hid (among l k = true) := hal
            rw [hal] at hbc
            clear hal
            go_wp2_with (first
              | (refine wpList_load_mid rfl 102 _ rfl g (k * 129) rfl (wcells x) _ hrange Try.underlying102 rfl (size_write.trans hwl.symm) ?_)
              | (refine alloc_wide hz rfl rfl ?_)
              | (refine store_wide size_write _ _ _ zw (wArr x) wr rfl rfl rfl rfl rfl rfl zw_size hws (wArr_one x) ?_))
            go_region_held3 (fun w' => w'.cell? ⟨H.p, 0, none⟩ = some (.slice (some ⟨H.bs, 0, none⟩) n n) ∧ w'.cell? ⟨wr.heap.size, 0, none⟩ = some (.int .i64 x.1) ∧ w'.rangeAt wr.heap.size 1 cs ∧ w'.there H.bs (x.1 * 128) 128)
              (first
                | exact ⟨p0, b0, b1, th⟩
                | exact ⟨(World.cell?_setCells_out _ _ _ _ _ (fun e _ => absurd e d1)).trans p0, (World.cell?_setCells_out _ _ _ _ _ (fun e _ => absurd e nB)).trans b0, World.rangeAt_setCells_apart ((World.rangeAt_drew _ _ _ _).2 b1) _ _ _ (.inl nB), World.there_setCells ((World.there_drew _ _ _ _).2 th) _ _ _⟩)
              (fail)
            all_goals go_wp2
            go_roundg (m - (k + 1))
            case measure => omega
            case rel =>
              obtain ⟨RA, K, hcs, hx, hxl, hrA⟩ := HR.out
              refine ⟨k + 1, by omega, by go_num, ?_, ?_, ?_⟩
              · rw [keep_take _ _ _ _ hx, HA.out, hcs]
                simp only [if_true]
                rw [lay_snoc]
                exact RA.drew.setSure hxa hxl
              · exact Kept.setCells (.inl (.inr (.inl rfl))) _ _ _ (K.alloc _).drew
              · exact hrA.drew.of_block (heap_setCells_far _ _ _ _ _ nbs)
          | false =>
            have HA : Hid (among l k = false) := hal
            rw [hal] at hbc
            clear hal
            go_wp2_with (first
              | (refine wpList_load_mid rfl 102 _ rfl g (k * 129) rfl (wcells x) _ hrange Try.underlying102 rfl (size_write.trans hwl.symm) ?_)
              | (refine alloc_wide hz rfl rfl ?_)
              | (refine store_wide size_write _ _ _ zw (wArr x) wr rfl rfl rfl rfl rfl rfl zw_size hws (wArr_one x) ?_))
            go_roundg (m - (k + 1))
            case measure => omega
            case rel =>
              obtain ⟨RA, K, hcs, hx, hxl, hrA⟩ := HR.out
              refine ⟨k + 1, by omega, by go_num, ?_, K.alloc _, hrA⟩
              rw [keep_take _ _ _ _ hx, HA.out]
              simp only [Bool.false_eq_true, if_false, List.append_nil]
              exact RA
        · have hkI : ¬ (k : Int) < (m : Int) := by omega
          obtain rfl : k = m := by omega
          obtain ⟨w3, hw3⟩ : ∃ w3, w3 = wr := ⟨_, rfl⟩
          subst hw3
          have ht : s.wait.take k = s.wait := by rw [HM.out, List.take_length]
          rw [ht] at R
          clear ht
          obtain ⟨su, hsu⟩ : ∃ su, su = lay s.sure (keepW (among l) 0 s.wait) := ⟨_, rfl⟩
          rw [← hsu] at R
          have hq : w3.cell? ⟨H.p, 2, none⟩ = some (.slice gg k cap) := by rw [← hwv]; exact R.c2
          have HS : Hid (su = lay s.sure (keepW (among l) 0 s.wait)) := hsu
          have HK : Hid (Kept H.foot w w3) := K
          have HRR : Hid (Raw w3 H n su (lay s.sure s.wait) s.wait s.fuse s.off) := R
          clear hrow hkg hsu R K
          go_wp2_with fail
          go_loopg [11, 68, 69, 70, 71, 72, 73, 74, 75, 76, 77, 78, 79, 80, 81, 82, 83, 84, 85, 86, 87] k (fun g s11 s68 s69 s70 s71 s72 s73 s74 s75 s76 s77 s78 s79 s80 s81 s82 s83 s84 s85 s86 s87 wx => ∃ i : Nat, i + g = k ∧ s68 = .int .i64 i ∧ Raw wx H n su (back su (lay s.sure s.wait) (s.wait.take i)) s.wait s.fuse s.off ∧ Kept H.foot w wx)
          case atStart => exact ⟨0, by omega, rfl, by simpa [back] using HRR.out, HK.out⟩
          case round =>
            obtain ⟨i, hig, rfl, R, K⟩ := hrel
            clear hq
            by_cases hi : i < k
            · have hiI : (i : Int) < (k : Int) := by omega
              obtain ⟨x, hx⟩ : ∃ x, s.wait[i]? = some x := ⟨_, List.getElem?_eq_getElem (by have := HM.out; omega)⟩
              obtain ⟨g, cap', hv, hrange⟩ := R.at_ hx
              rw [hwv] at hv
              simp only [Value.slice.injEq] at hv
              obtain ⟨rfl, hmm, rfl⟩ := hv
              clear hmm
              obtain ⟨hxa, hxl⟩ := R.ats x (List.mem_of_getElem? hx)
              have RA := R.alloc (.cells (wArr x) 102)
              have p0 := RA.c0
              have p1 := RA.c1
              obtain ⟨b0, _⟩ := wArr_cell (heap_alloc_last wr (.cells (wArr x) 102))
              have hxs : x.1 < su.length := by rw [RA.l1]; exact hxa
              have hbk : su[x.1]? = some (su.getD x.1 []) := by simp [hxs]
              have hbl : (su.getD x.1 []).length = 128 := RA.b1 _ (List.mem_of_getElem? hbk)
              have b1 := RA.sure.range (i := x.1) (r := bcells (su.getD x.1 [])) (by rw [List.getElem?_map, hbk]; rfl)
              have th := RA.seen.there (i := x.1) (by rw [List.length_map, RA.l2]; exact hxa)
              obtain ⟨cs, hcs⟩ : ∃ cs, cs = bcells (su.getD x.1 []) := ⟨_, rfl⟩
              rw [← hcs] at b1
              have hcl : cs.length = 128 := by rw [hcs, bcells_len, hbl]
              have hone : ∀ v ∈ cs, v.oneCell' = true := by rw [hcs]; exact bcells_one _
              have hin : Option.map (fun x => x.size) (Try.prog.info? 75) = some cs.length := by rw [hcl]; exact size_block
              have hws := wArr_size hxl
              have d2 := R.d2
              have d3 := R.d3
              have nB : wr.heap.size ≠ H.bn := Nat.ne_of_gt (R.lt (.inr (.inr (.inl rfl))))
              have hxI : (x.1 : Int) < (n : Int) := by omega
              have hr2 : IntKind.i64.wrap ((i : Int) + 1) = (i : Int) + 1 := by rw [IntKind.wrap_i64]; omega
              have hwl : some (wcells x).length = some 129 := by simp [wcells, bcells_len, hxl]
              have HR : Hid (Raw (wr.alloc (.cells (wArr x) 102)) H n su (back su (lay s.sure s.wait) (s.wait.take i)) s.wait s.fuse s.off ∧ Kept H.foot w wr ∧ cs = bcells (su.getD x.1 []) ∧ s.wait[i]? = some x ∧ (su.getD x.1 []).length = 128) := ⟨RA, K, hcs, hx, hbl⟩
              clear RA K hcs hx hxl R hbl hbk hxs
              go_wp2_with (first
                | (refine wpList_load_mid rfl 102 _ rfl g (i * 129) rfl (wcells x) _ hrange Try.underlying102 rfl (size_write.trans hwl.symm) ?_)
                | (refine alloc_wide hz rfl rfl ?_)
                | (refine store_wide size_write _ _ _ zw (wArr x) wr rfl rfl rfl rfl rfl rfl zw_size hws (wArr_one x) ?_))
              go_region_held3 (fun w' => w'.cell? ⟨H.p, 0, none⟩ = some (.slice (some ⟨H.bs, 0, none⟩) n n) ∧ w'.cell? ⟨H.p, 1, none⟩ = some (.slice (some ⟨H.bn, 0, none⟩) n n) ∧ w'.cell? ⟨wr.heap.size, 0, none⟩ = some (.int .i64 x.1) ∧ w'.rangeAt H.bs (x.1 * 128) cs ∧ w'.there H.bn (x.1 * 128) 128)
                (first
                  | exact ⟨p0, p1, b0, b1, th⟩
                  | exact ⟨(World.cell?_setCells_out _ _ _ _ _ (fun e _ => absurd e d2)).trans p0, (World.cell?_setCells_out _ _ _ _ _ (fun e _ => absurd e d2)).trans p1, (World.cell?_setCells_out _ _ _ _ _ (fun e _ => absurd e nB)).trans b0, World.rangeAt_setCells_apart ((World.rangeAt_drew _ _ _ _).2 b1) _ _ _ (.inl d3), World.there_setCells ((World.there_drew _ _ _ _).2 th) _ _ _⟩)
                (fail)
              all_goals go_wp2
              go_roundg (k - (i + 1))
              case measure => omega
              case rel =>
                obtain ⟨RA, K, hcs, hx, hbl⟩ := HR.out
                refine ⟨i + 1, by omega, by go_num, ?_, ?_⟩
                · rw [back_take _ _ _ _ _ hx, hcs]
                  exact RA.drew.setSeen hxa hbl
                · exact Kept.setCells (.inl (.inr (.inr (.inl rfl)))) _ _ _ (K.alloc _).drew
            · have hiI : ¬ (i : Int) < (k : Int) := by omega
              obtain rfl : i = k := by omega
              have ht : s.wait.take i = s.wait := by rw [HM.out, List.take_length]
              rw [ht] at R
              have hbb : back su (lay s.sure s.wait) s.wait = su := by
                rw [HS.out]
                exact back_all _ _ _ (fun x hx => keepW_mem _ _ _ x hx)
              rw [hbb] at R
              clear ht hbb
              have q2 := R.c2
              have q3 := R.c3
              have q4 := R.c4
              have f2 := R.fr 2
              have f3 := R.fr 3
              have f4 := R.fr 4
              have DD := ((R.setNone.setF (-1) (by omega)).setO false).is rfl
              have TT : Turned H { H with wv := .slice none 0 0 } w (((wr.setCell ⟨H.p, 2, none⟩ (.slice none 0 0)).setCell ⟨H.p, 3, none⟩ (.int .i64 (-1))).setCell ⟨H.p, 4, none⟩ (.bool false)) :=
                ⟨rfl, ((K.setCell (p := ⟨H.p, 2, none⟩) (.inl (.inl rfl)) _).setCell (p := ⟨H.p, 3, none⟩) (.inl (.inl rfl)) _).setCell (p := ⟨H.p, 4, none⟩) (.inl (.inl rfl)) _, fun x hx => by
                  rcases hx with rfl | rfl | rfl | hx
                  · exact .inl (.inl rfl)
                  · exact .inl (.inr (.inl rfl))
                  · exact .inl (.inr (.inr (.inl rfl)))
                  · simp [Value.ownBlock] at hx⟩
              rw [HS.out] at DD
              clear R K
              go_wp2
              go_ret
              exact ⟨rfl, _, DD, TT⟩
end Go.Proofs.Ytgffplfpoopolaa
/-
  Law 4's awake, and the contracts that it and the laws lean on, where there is no fuse and the power is on.
-/
namespace Go.Proofs.Ytgffplfpoopolaa
open Go.RowKit

def fl (c : UInt8) : List UInt8 := List.replicate 128 c
def FS (c : UInt8) : ByteArray := strB (fl c)
theorem fl_len (c : UInt8) : (fl c).length = 128 := by simp [fl]
theorem FS_size (c : UInt8) : (FS c).size = 128 := by rw [FS, strB_size, fl_len]
theorem FS_list (c : UInt8) : (FS c).data.toList = fl c := strB_list _
section
variable {w : World} {H : Hnd} {su : List (List UInt8)} {wt : List (Nat × List UInt8)}
theorem write_free (D : DevIs w H ⟨su, wt, -1, false⟩) (k : Nat) (c : UInt8) (hk : k < su.length) (hfew : wt.length < 1000000) :
    Calls Try.prog 30 #[.pointer (some ⟨H.p, 0, none⟩), .int .i64 k, .string (FS c)] w fun e w' => e = .returned (.int .i64 0) ∧ ∃ H', DevIs w' H' ⟨su, wt ++ [(k, fl c)], -1, false⟩ ∧ Turned H H' w w' := by
  have := write_on D k (FS c) hk (FS_size c) rfl hfew
  rw [FS_list] at this
  exact this
theorem sync_free (D : DevIs w H ⟨su, wt, -1, false⟩) :
    Calls Try.prog 32 #[.pointer (some ⟨H.p, 0, none⟩)] w fun e w' => e = .returned (.int .i64 0) ∧ ∃ H', DevIs w' H' ⟨lay su wt, [], -1, false⟩ ∧ Turned H H' w w' := sync_on D rfl
theorem read_free (D : DevIs w H ⟨su, wt, -1, false⟩) (k : Nat) (c : UInt8) (hl : (lay su wt)[k]? = some (fl c)) :
    Calls Try.prog 13 #[.pointer (some ⟨H.p, 0, none⟩), .int .i64 k] w fun e w' => e = .returned (.tuple #[.string (FS c), .int .i64 0]) ∧ w' = w := read_on D k (fl c) hl rfl
end
theorem reads_one (W : World) (x : BitVec 64) (n : Int) (hn : n = x.toInt) (t : TypeId) : ReadsI (W.alloc (.cells #[.int .i64 n] t)) (.slice (some ⟨W.heap.size, 0, none⟩) 1 1) [x] := by
  subst hn
  refine .inr ⟨W.heap.size, 0, 1, rfl, by simp, by simp, ?_⟩
  intro i hi
  obtain rfl : i = 0 := by simpa using hi
  rw [cell_of_row _ W.heap.size (0 + 0) _ t _ (heap_alloc_last W _)]
  rfl
/-- A device of the call's own, at p: above all that was there ahead. -/
structure Own (w0 w : World) (p : Nat) (H : Hnd) (s : St) : Prop where
  dev : DevIs w H s
  bel : Below w0.heap.size w0 w
  abv : ∀ k, H.foot k → w0.heap.size ≤ k
  at_ : H.p = p
section
variable {w0 w w' : World} {p : Nat} {H H' : Hnd} {s s' : St} {su : List (List UInt8)} {wt : List (Nat × List UInt8)}
theorem Own.turned (o : Own w0 w p H s) (D : DevIs w' H' s') (T : Turned H H' w w') : Own w0 w' p H' s' :=
  ⟨D, o.bel.trans (T.below o.abv o.bel.size), T.above o.abv o.bel.size, T.p.trans o.at_⟩
theorem Own.below (o : Own w0 w p H s) (b : Below w.heap.size w w') : Own w0 w' p H s :=
  ⟨o.dev.below b, o.bel.trans (b.mono o.bel.size), o.abv, o.at_⟩
theorem Own.alloc (o : Own w0 w p H s) (x : Obj) : Own w0 (w.alloc x) p H s := o.below ((Below.refl _ _).alloc (Nat.le_refl _) _)
theorem Own.drewN (o : Own w0 w p H s) (n : Nat) : Own w0 (w.drewN n) p H s := o.below ⟨rfl, rfl, rfl, Nat.le_refl _, fun _ _ => rfl⟩
theorem Own.write (o : Own w0 w p H ⟨su, wt, -1, false⟩) (k : Nat) (c : UInt8) (hk : k < su.length) (hfew : wt.length < 1000000) :
    Calls Try.prog 30 #[.pointer (some ⟨p, 0, none⟩), .int .i64 k, .string (FS c)] w fun e w' => e = .returned (.int .i64 0) ∧ ∃ H', Own w0 w' p H' ⟨su, wt ++ [(k, fl c)], -1, false⟩ ∧ Turned H H' w w' := by
  have h := o.at_
  subst h
  refine (write_free o.dev k c hk hfew).mono ?_
  rintro e w' ⟨rfl, H', D, T⟩
  exact ⟨rfl, H', o.turned D T, T⟩
theorem Own.sync (o : Own w0 w p H ⟨su, wt, -1, false⟩) :
    Calls Try.prog 32 #[.pointer (some ⟨p, 0, none⟩)] w fun e w' => e = .returned (.int .i64 0) ∧ ∃ H', Own w0 w' p H' ⟨lay su wt, [], -1, false⟩ ∧ Turned H H' w w' := by
  have h := o.at_
  subst h
  refine (sync_free o.dev).mono ?_
  rintro e w' ⟨rfl, H', D, T⟩
  exact ⟨rfl, H', o.turned D T, T⟩
theorem Own.read (o : Own w0 w p H ⟨su, wt, -1, false⟩) (k : Nat) (c : UInt8) (hl : (lay su wt)[k]? = some (fl c)) :
    Calls Try.prog 13 #[.pointer (some ⟨p, 0, none⟩), .int .i64 k] w fun e w' => e = .returned (.tuple #[.string (FS c), .int .i64 0]) ∧ w' = w := by
  have h := o.at_
  subst h
  exact read_free o.dev k c hl
theorem Own.crash (o : Own w0 w p H s) (v : Value) (l : List (BitVec 64)) (hv : ReadsI w v l) (hll : l.length ≤ maxLen) :
    Calls Try.prog 41 #[.pointer (some ⟨p, 0, none⟩), v] w fun e w' => e = .returned (.int .i64 0) ∧ ∃ H', Own w0 w' p H' ⟨lay s.sure (keepW (among l) 0 s.wait), [], -1, false⟩ ∧ Turned H H' w w' := by
  have h := o.at_
  subst h
  refine (crash_any o.dev v l hv hll).mono ?_
  rintro e w' ⟨rfl, H', D, T⟩
  exact ⟨rfl, H', o.turned D T, T⟩
theorem Own.size (o : Own w0 w p H s) :
    Calls Try.prog 28 #[.pointer (some ⟨p, 0, none⟩)] w fun e w' => e = .returned (.int .i64 s.sure.length) ∧ w' = w := by
  have h := o.at_
  subst h
  exact o.dev.size w rfl
end
theorem own_new {w w1 : World} {H : Hnd} {s : St} (D : DevIs w1 H s) (b : Below w.heap.size w w1) (a : ∀ k, H.foot k → w.heap.size ≤ k) : Own w w1 H.p H s := ⟨D, b, a, rfl⟩

end Go.Proofs.Ytgffplfpoopolaa
/-
  The contract of a device's Waiting; what Spoil and Waiting answer where there is no device.
-/
namespace Go.Proofs.Ytgffplfpoopolaa
open Go.RowKit

theorem toInt_small (a : Nat) (h : a < 1000000) : (BitVec.ofNat 64 a).toInt = (a : Int) := by
  rw [BitVec.toInt_eq_toNat_bmod, BitVec.toNat_ofNat, Int.bmod_def]
  omega
def ats (wt : List (Nat × List UInt8)) : List (BitVec 64) := wt.map fun x => BitVec.ofNat 64 x.1
theorem ats_len (wt : List (Nat × List UInt8)) : (ats wt).length = wt.length := by simp [ats]

end Go.Proofs.Ytgffplfpoopolaa
/-
  A device of the call's own with a fuse: what Write and Sync do with it; small masks of words.
-/
namespace Go.Proofs.Ytgffplfpoopolaa
open Go.RowKit

section
variable {w0 w w' : World} {p : Nat} {H H' : Hnd} {s s' : St} {su : List (List UInt8)} {wt : List (Nat × List UInt8)} {f : Int}
theorem Own.fuse (o : Own w0 w p H s) (n : Int) (hn : -9223372036854775808 ≤ n ∧ n < 9223372036854775808) :
    Calls Try.prog 22 #[.pointer (some ⟨p, 0, none⟩), .int .i64 n] w fun e w' => e = .returned (.int .i64 0) ∧ Own w0 w' p H { s with fuse := n } := by
  have h := o.at_
  subst h
  refine (fuse_any o.dev n hn).mono ?_
  rintro e w' ⟨rfl, D, T⟩
  exact ⟨rfl, o.turned D T⟩
theorem Own.write_pos (o : Own w0 w p H ⟨su, wt, f, false⟩) (hf : 0 < f) (k : Nat) (c : UInt8) (hk : k < su.length) (hfew : wt.length < 1000000) :
    Calls Try.prog 30 #[.pointer (some ⟨p, 0, none⟩), .int .i64 k, .string (FS c)] w fun e w' => e = .returned (.int .i64 0) ∧ ∃ H', Own w0 w' p H' ⟨su, wt ++ [(k, fl c)], f - 1, false⟩ := by
  have h := o.at_
  subst h
  have h0 : ¬ f = 0 := by omega
  have hb0 : (f == 0) = false := by simpa using h0
  refine (write_on o.dev k (FS c) hk (FS_size c) (by simp [St.goes, h0]) hfew).mono ?_
  rintro e w' ⟨rfl, H', D, T⟩
  rw [FS_list] at D
  have D' : DevIs w' H' ⟨su, wt ++ [(k, fl c)], f - 1, false⟩ := by simpa [St.write, St.burnt, h0, hf, hb0] using D
  exact ⟨rfl, H', o.turned D' T⟩
theorem Own.sync_pos (o : Own w0 w p H ⟨su, wt, f, false⟩) (hf : 0 < f) :
    Calls Try.prog 32 #[.pointer (some ⟨p, 0, none⟩)] w fun e w' => e = .returned (.int .i64 0) ∧ ∃ H', Own w0 w' p H' ⟨lay su wt, [], f - 1, false⟩ := by
  have h := o.at_
  subst h
  have h0 : ¬ f = 0 := by omega
  have hb0 : (f == 0) = false := by simpa using h0
  refine (sync_on o.dev (by simp [St.goes, h0])).mono ?_
  rintro e w' ⟨rfl, H', D, T⟩
  have D' : DevIs w' H' ⟨lay su wt, [], f - 1, false⟩ := by simpa [St.synced, St.burnt, h0, hf, hb0] using D
  exact ⟨rfl, H', o.turned D' T⟩
theorem Own.write_dead {b : Bool} (o : Own w0 w p H ⟨su, wt, f, b⟩) (hf : b = true ∧ f = -1 ∨ b = false ∧ f = 0) (k : Nat) (c : UInt8) (hk : k < su.length) :
    Calls Try.prog 30 #[.pointer (some ⟨p, 0, none⟩), .int .i64 k, .string (FS c)] w fun e w' => e = .returned (.int .i64 40) ∧ Own w0 w' p H ⟨su, wt, -1, true⟩ := by
  have h := o.at_
  subst h
  refine (write_off o.dev k (FS c) hk (FS_size c) (by rcases hf with ⟨rfl, rfl⟩ | ⟨rfl, rfl⟩ <;> simp [St.goes])).mono ?_
  rintro e w' ⟨rfl, D, T⟩
  have D' : DevIs w' H ⟨su, wt, -1, true⟩ := by rcases hf with ⟨rfl, rfl⟩ | ⟨rfl, rfl⟩ <;> simpa [St.burnt] using D
  exact ⟨rfl, o.turned D' T⟩
theorem Own.sync_dead {b : Bool} (o : Own w0 w p H ⟨su, wt, f, b⟩) (hf : b = true ∧ f = -1 ∨ b = false ∧ f = 0) :
    Calls Try.prog 32 #[.pointer (some ⟨p, 0, none⟩)] w fun e w' => e = .returned (.int .i64 40) ∧ Own w0 w' p H ⟨su, wt, -1, true⟩ := by
  have h := o.at_
  subst h
  refine (sync_off o.dev (by rcases hf with ⟨rfl, rfl⟩ | ⟨rfl, rfl⟩ <;> simp [St.goes])).mono ?_
  rintro e w' ⟨rfl, D, T⟩
  have D' : DevIs w' H ⟨su, wt, -1, true⟩ := by rcases hf with ⟨rfl, rfl⟩ | ⟨rfl, rfl⟩ <;> simpa [St.burnt] using D
  exact ⟨rfl, o.turned D' T⟩
end
theorem and_mask (x : BitVec 64) (m : Nat) (hm : m < 1000000) : ∃ u : Nat, bits .and .i64 x.toInt (m : Int) = (u : Int) ∧ u ≤ m := by
  have hb : (x &&& BitVec.ofNat 64 m).toNat ≤ m := by
    rw [BitVec.toNat_and, BitVec.toNat_ofNat, Nat.mod_eq_of_lt (by omega)]
    exact Nat.and_le_right
  refine ⟨(x &&& BitVec.ofNat 64 m).toNat, ?_, hb⟩
  rw [← toInt_small m hm, Wd.i64_and, BitVec.toInt_eq_toNat_bmod, Int.bmod_def]
  omega
theorem and_pow (K j m : Nat) (hm : m + 1 = 2 ^ j) (hm2 : m < 1000000) (hK : K < 1000000) : bits .and .i64 (K : Int) (m : Int) = ((K % (m + 1) : Nat) : Int) := by
  have h2 : (BitVec.ofNat 64 K &&& BitVec.ofNat 64 m).toNat = K % (m + 1) := by
    rw [BitVec.toNat_and, BitVec.toNat_ofNat, BitVec.toNat_ofNat, Nat.mod_eq_of_lt (by omega), Nat.mod_eq_of_lt (by omega), hm]
    have e : m = 2 ^ j - 1 := by omega
    rw [e]
    exact Nat.and_two_pow_sub_one_eq_mod K j
  rw [← toInt_small m hm2, ← toInt_small K hK, Wd.i64_and, BitVec.toInt_eq_toNat_bmod, h2, Int.bmod_def]
  have : K % (m + 1) < m + 1 := Nat.mod_lt _ (by omega)
  omega
end Go.Proofs.Ytgffplfpoopolaa
/-
  The contracts of slices.IndexFunc and slices.DeleteFunc, as a device's Spoil calls them, and of Spoil.
-/
namespace Go.Proofs.Ytgffplfpoopolaa
open Go.RowKit

/-- None of the first j writes is to the block k. -/
def noneTo (wt : List (Nat × List UInt8)) (k j : Nat) : Prop := ∀ i x, i < j → wt[i]? = some x → x.1 ≠ k
/-- The write j is to the block k. -/
def isTo (wt : List (Nat × List UInt8)) (k j : Nat) : Prop := ∃ x, wt[j]? = some x ∧ x.1 = k

end Go.Proofs.Ytgffplfpoopolaa
/-
  The contract of slices.DeleteFunc, as a device's Spoil calls it.
-/
namespace Go.Proofs.Ytgffplfpoopolaa
open Go.RowKit

theorem clear_wide {P : Program} (w : World) (t e ty : TypeId) (z : Array Value) (sz : Nat) (ht : P.underlying t = some (.slice e)) (hv : ∀ w, (zeroValue e).run P w = .ok (.agg z) w) (hz : z.size = sz) (hsz : 0 < sz) (h1 : z.all (·.oneCell') = true) (b o n c : Nat) (hn : 0 < n)
    (hth : w.there b o (n * sz)) : ∃ cs : List Value, cs.length = n * sz ∧ (Builtin.clear_ #[t] ty #[.slice (some ⟨b, o, none⟩) n c]).run P w = .ok (.tuple #[]) (w.setCells b o cs) := by
  refine ⟨(Builtin.zeroCells z n).toList, by simp [Builtin.zeroCells, hz], ?_⟩
  have hst := run_storeCells_cells (P := P) b o (Builtin.zeroCells z n).toList 0 w (fun j hj => by
      simp [Builtin.zeroCells, hz] at hj
      simpa using (hth j hj).1) (fun j hj => by
      simp [Builtin.zeroCells, hz] at hj
      simpa using (hth j hj).2) (fun v hv' => by
      simp [Builtin.zeroCells] at hv'
      obtain ⟨i, _, rfl⟩ := hv'
      have hlt : i % z.size < z.size := Nat.mod_lt _ (by omega)
      rw [getElem!_pos z _ hlt]
      rw [Array.all_eq_true] at h1
      exact h1 _ hlt)
  simp only [Nat.add_zero] at hst
  obtain ⟨m, rfl⟩ : ∃ m, n = m + 1 := ⟨n - 1, by omega⟩
  have hcl : (Value.agg z).cells = z := rfl
  simp [Builtin.clear_, run_underlying ht, hv, hcl, hst]
theorem wpList_clear {P : Program} {ops : Array Oper} {rest : List Oper} {op : Oper} {a : Act} {w : World} {Q : Exit → Act → World → Prop} (hgd : op.guard = none) (x : Operand) (t e : TypeId) (z : Array Value) (sz : Nat)
    (ho : op.op = .call { callee := .builtin .clear, args := #[x], argTypes := #[t] }) (b o n c : Nat) (hx : a.eval x = .slice (some ⟨b, o, none⟩) n c) (ht : P.underlying t = some (.slice e)) (hv : ∀ w, (zeroValue e).run P w = .ok (.agg z) w) (hz : z.size = sz) (hsz : 0 < sz) (h1 : z.all (·.oneCell') = true) (hn : 0 < n)
    (hth : w.there b o (n * sz)) (h : ∀ cs : List Value, cs.length = n * sz → wpList P ops Q rest (a.put op.dst (.tuple #[])) (w.setCells b o cs)) : wpList P ops Q (op :: rest) a w := by
  refine wpList_plain hgd fun K hK => ?_
  obtain ⟨cs, hl, hr⟩ := clear_wide (P := P) w t e op.type z sz ht hv hz hsz h1 b o n c hn hth
  unfold Oper.wp execOp
  simp only [ho, resolve, invoke, builtin, Sem.run_bind, Sem.run_pure, Result.andThen_ok, List.map_toArray, List.map_cons, List.map_nil, hx, hr]
  exact hK _ _ (h cs hl)

def kept (wt : List (Nat × List UInt8)) (k j : Nat) : List (Nat × List UInt8) := (wt.take j).filter fun y => y.1 != k
theorem kept_all (wt : List (Nat × List UInt8)) (k j : Nat) (h : wt.length ≤ j) : kept wt k j = wt.filter fun y => y.1 != k := by rw [kept, List.take_of_length_le h]
theorem kept_none (wt : List (Nat × List UInt8)) (k j : Nat) (h : noneTo wt k j) : kept wt k j = wt.take j := by
  unfold kept
  rw [List.filter_eq_self]
  intro x hx
  obtain ⟨i, hi⟩ := List.mem_iff_getElem?.1 hx
  rw [List.getElem?_take] at hi
  split at hi
  · have := h i x (by assumption) hi
    simpa using this
  · cases hi
theorem kept_step (wt : List (Nat × List UInt8)) (k j : Nat) (x : Nat × List UInt8) (hx : wt[j]? = some x) : kept wt k (j + 1) = kept wt k j ++ if x.1 != k then [x] else [] := by
  unfold kept
  rw [List.take_add_one, hx, List.filter_append]
  congr 1
  simp only [Option.toList, List.filter_cons, List.filter_nil]
theorem kept_le (wt : List (Nat × List UInt8)) (k j : Nat) : (kept wt k j).length ≤ j := by
  refine Nat.le_trans (List.length_filter_le _ _) ?_
  rw [List.length_take]; omega
/-- In the midst: the head is what is kept, behind j all is as it was. -/
structure Midst (w0 w : World) (g0 cap m : Nat) (wt : List (Nat × List UInt8)) (k i j : Nat) : Prop where
  rows : ∃ R : List (List Value), Rows w g0 102 (cap * 129) 129 R ∧ R.length = m ∧ (∀ t, t < i → R[t]? = ((kept wt k j).map wcells)[t]?) ∧ ∀ t, j ≤ t → R[t]? = (wt.map wcells)[t]?
  n : i = (kept wt k j).length
  lt : i < j
  le : j ≤ m
  kp : Kept (fun x => x = g0) w0 w
section
variable {w0 w w' : World} {g0 cap m : Nat} {wt : List (Nat × List UInt8)} {k i j : Nat}
theorem Midst.below (M : Midst w0 w g0 cap m wt k i j) (b : Below w.heap.size w w') : Midst w0 w' g0 cap m wt k i j := by
  obtain ⟨⟨R, h1, h2⟩, h3, h4, h5, h6⟩ := M
  exact ⟨⟨R, h1.of_block (b.block g0 h1.lt), h2⟩, h3, h4, h5, h6.trans (kept_of_below (fun _ => False) b) (fun _ h => h.elim)⟩
theorem Midst.lt_heap (M : Midst w0 w g0 cap m wt k i j) : g0 < w.heap.size := by
  obtain ⟨⟨R, h1, h2⟩, h3, h4, h5, h6⟩ := M
  exact h1.lt
theorem Midst.range (M : Midst w0 w g0 cap m wt k i j) {x : Nat × List UInt8} (hx : wt[j]? = some x) : w.rangeAt g0 (j * 129) (wcells x) := by
  obtain ⟨⟨R, h1, h2, h3, h4⟩, _⟩ := M
  exact h1.range (by rw [h4 j (Nat.le_refl _), List.getElem?_map, hx]; rfl)
theorem Midst.there (M : Midst w0 w g0 cap m wt k i j) : w.there g0 (i * 129) 129 := by
  obtain ⟨⟨R, h1, h2, h3, h4⟩, hn, hlt, hle, _⟩ := M
  exact h1.there (by omega)
theorem Midst.skip (M : Midst w0 w g0 cap m wt k i j) {x : Nat × List UInt8} (hx : wt[j]? = some x) (hk : x.1 = k) (hj : j < m) : Midst w0 w g0 cap m wt k i (j + 1) := by
  obtain ⟨⟨R, h1, h2, h3, h4⟩, hn, hlt, hle, hk6⟩ := M
  have e : kept wt k (j + 1) = kept wt k j := by rw [kept_step wt k j x hx, hk]; simp
  exact ⟨⟨R, h1, h2, by rw [e]; exact h3, fun t ht => h4 t (by omega)⟩, by rw [e]; exact hn, by omega, by omega, hk6⟩
theorem Midst.put (M : Midst w0 w g0 cap m wt k i j) {x : Nat × List UInt8} (hx : wt[j]? = some x) (hk : x.1 ≠ k) (hj : j < m) (h128 : x.2.length = 128) : Midst w0 (w.setCells g0 (i * 129) (wcells x)) g0 cap m wt k (i + 1) (j + 1) := by
  obtain ⟨⟨R, h1, h2, h3, h4⟩, hn, hlt, hle, hk6⟩ := M
  have e : kept wt k (j + 1) = kept wt k j ++ [x] := by rw [kept_step wt k j x hx]; simp [hk]
  have hwl : (wcells x).length = 129 := by simp [wcells, bcells_len, h128]
  refine ⟨⟨R.set i (wcells x), h1.set (by omega) hwl, by rw [List.length_set]; exact h2, ?_, ?_⟩, by rw [e, List.length_append, ← hn]; rfl, by omega, by omega, Kept.setCells (F := fun x => x = g0) (.inl rfl) _ _ _ hk6⟩
  · intro t ht
    rw [e, List.map_append]
    by_cases ht' : t = i
    · subst ht'
      rw [List.getElem?_set_self (by omega), List.getElem?_append_right (by rw [List.length_map, ← hn]; exact Nat.le_refl _)]
      simp [← hn]
    · rw [List.getElem?_set_ne (fun h => ht' h.symm), h3 t (by omega), List.getElem?_append_left (by rw [List.length_map, ← hn]; omega)]
  · intro t ht
    rw [List.getElem?_set_ne (by omega)]
    exact h4 t (by omega)
theorem Midst.first (hs : SRows w (.slice (some ⟨g0, 0, none⟩) m cap) 102 129 (wt.map wcells)) (hm : m = wt.length) {j : Nat} (hj : j < m) (h1 : isTo wt k j) (h2 : noneTo wt k j) : Midst w w g0 cap m wt k j (j + 1) := by
  have e : kept wt k (j + 1) = wt.take j := by
    obtain ⟨x, hx, hxk⟩ := h1
    rw [kept_step wt k j x hx, hxk, kept_none wt k j h2]
    simp
  rcases hs with ⟨hv, _⟩ | ⟨g', cap', hv, _, _, hrows⟩
  · simp at hv
  · simp only [Value.slice.injEq, Option.some.injEq, Addr.mk.injEq, and_true] at hv
    obtain ⟨rfl, _, rfl⟩ := hv
    refine ⟨⟨wt.map wcells, hrows, by simp [hm], ?_, fun t _ => rfl⟩, by rw [e, List.length_take]; omega, by omega, by omega, Kept.refl _ _⟩
    intro t ht
    rw [e, List.getElem?_map, List.getElem?_map, List.getElem?_take, if_pos ht]
theorem Midst.done (M : Midst w0 w g0 cap m wt k i j) (hj : j = m) (hm : m = wt.length) (hcap : m ≤ cap) (hcm : cap ≤ maxLen) (cs : List Value) (hl : cs.length = (m - i) * 129) :
    SRows (w.setCells g0 (i * 129) cs) (.slice (some ⟨g0, 0, none⟩) (wt.filter fun y => y.1 != k).length cap) 102 129 ((wt.filter fun y => y.1 != k).map wcells) ∧ Kept (fun x => x = g0) w0 (w.setCells g0 (i * 129) cs) := by
  obtain ⟨⟨R, h1, h2, h3, h4⟩, hn, hlt, hle, hk6⟩ := M
  have e : kept wt k j = wt.filter fun y => y.1 != k := kept_all wt k j (by omega)
  rw [e] at hn h3
  have hR : R.take i = (wt.filter fun y => y.1 != k).map wcells := by
    apply List.ext_getElem?
    intro t
    rw [List.getElem?_take]
    split
    · rename_i ht; exact h3 t ht
    · rename_i ht
      rw [List.getElem?_eq_none (by rw [List.length_map, ← hn]; omega)]
  have hlen : (R.take i).length = i := by rw [List.length_take]; omega
  have hb := (h1.take i).behind cs (o := i * 129) (by rw [hlen]; exact Nat.le_refl _) (by
    rw [hl, ← Nat.add_mul]
    exact Nat.mul_le_mul_right _ (by omega))
  rw [hR] at hb
  refine ⟨.inr ⟨g0, cap, by simp, by rw [List.length_map, ← hn]; omega, hcm, hb⟩, Kept.setCells (F := fun x => x = g0) (.inl rfl) _ _ _ hk6⟩
theorem Midst.room (M : Midst w0 w g0 cap m wt k i j) (hcap : m ≤ cap) : w.there g0 (i * 129) ((m - i) * 129) := by
  obtain ⟨⟨R, h1, h2, h3, h4⟩, hn, hlt, hle, hk6⟩ := M
  refine h1.there_at ?_
  rw [← Nat.add_mul]
  exact Nat.mul_le_mul_right _ (by omega)
end

theorem zw_one : zw.all (·.oneCell') = true := by decide +kernel

end Go.Proofs.Ytgffplfpoopolaa
/-
  The contract of a device's Spoil.
-/
namespace Go.Proofs.Ytgffplfpoopolaa
open Go.RowKit

theorem SRows.shape {w : World} {v : Value} {t : TypeId} {sz : Nat} {R : List (List Value)} (h : SRows w v t sz R) : ∃ a n c, v = .slice a n c := by
  rcases h with ⟨rfl, _⟩ | ⟨g, cap, rfl, _⟩
  · exact ⟨_, _, _, rfl⟩
  · exact ⟨_, _, _, rfl⟩
theorem Raw.delete {w w' : World} {H : Hnd} {n : Nat} {su sn : List (List UInt8)} {wt wt' : List (Nat × List UInt8)} {f : Int} {o : Bool} (R : Raw w H n su sn wt f o) {F : Nat → Prop} (K : Kept F w w') (hF : ∀ x, F x → H.wv.ownBlock = some x) (v : Value) (hv : SRows w' v 102 129 (wt'.map wcells)) (ho : ∀ x, v.ownBlock = some x → H.wv.ownBlock = some x)
    (ha : ∀ x ∈ wt', x ∈ wt) (hf : wt'.length ≤ wt.length) : Raw (w'.setCell ⟨H.p, 2, none⟩ v) { H with wv := v } n su sn wt' f o := by
  have np : ∀ x, x = H.p ∨ x = H.bs ∨ x = H.bn → ¬ F x := fun x hx hf => by
    have := R.d4 x (hF x hf)
    rcases hx with e | e | e
    · exact this.1 e
    · exact this.2.1 e
    · exact this.2.2 e
  have dev' : w'.heap[H.p]? = _ := (K.block H.p (R.lt (.inl rfl)) (np _ (.inl rfl))).trans R.dev
  exact { R with
    dev := heap_setCell_same w' H.p 2 _ _ v dev'
    sure := (R.sure.kept K (np _ (.inr (.inl rfl)))).of_block (heap_setCell_other w' _ _ _ (fun e => R.d1 e.symm))
    seen := (R.seen.kept K (np _ (.inr (.inr rfl)))).of_block (heap_setCell_other w' _ _ _ (fun e => R.d2 e.symm))
    wait := hv.of_block fun k hk => heap_setCell_other w' _ _ _ (R.d4 k (ho k hk)).1
    d4 := fun k hk => R.d4 k (ho k hk)
    ats := fun x hx => R.ats x (ha x hx)
    few := Nat.le_trans hf R.few }

end Go.Proofs.Ytgffplfpoopolaa
/-
  The document's device (package peristyleref04) as a value: its lists in memory; the contracts of in, done, Fuse and has.
-/
namespace Go.Proofs.Ytgffplfpoopolaa
open Go.RowKit

def s1 (b : List UInt8) : List Value := [.string (strB b)]
def w2 (x : Nat × List UInt8) : List Value := [.int .i64 x.1, .string (strB x.2)]

/-- The two slices of the document's device. -/
structure RH where
  sa : Option Addr
  sc : Nat
  wa : Option Addr
  wc : Nat
/-- The lists lie in blocks of which none is G's. -/
structure RefIs (w : World) (G : Nat → Prop) (R : RH) (su : List (List UInt8)) (wt : List (Nat × List UInt8)) : Prop where
  sure : SRows w (.slice R.sa su.length R.sc) 9 1 (su.map s1)
  wait : SRows w (.slice R.wa wt.length R.wc) 78 2 (wt.map w2)
  g1 : ∀ k, (Value.slice R.sa su.length R.sc).ownBlock = some k → ¬ G k
  g2 : ∀ k, (Value.slice R.wa wt.length R.wc).ownBlock = some k → ¬ G k
section
variable {w w' : World} {G G' F : Nat → Prop} {R : RH} {su : List (List UInt8)} {wt : List (Nat × List UInt8)}
theorem RefIs.kept (r : RefIs w G R su wt) (k : Kept F w w') (hF : ∀ x, ¬ G x → ¬ F x) : RefIs w' G R su wt :=
  ⟨r.sure.kept k fun g hg => hF g (r.g1 g hg), r.wait.kept k fun g hg => hF g (r.g2 g hg), r.g1, r.g2⟩
theorem RefIs.below (r : RefIs w G R su wt) (b : Below w.heap.size w w') : RefIs w' G R su wt := r.kept (kept_of_below (fun _ => False) b) (fun _ _ h => h)
theorem RefIs.grow (r : RefIs w G R su wt) (h : ∀ k, k < w.heap.size → ¬ G k → ¬ G' k) : RefIs w G' R su wt :=
  ⟨r.sure, r.wait, fun k hk => h k (r.sure.lt hk) (r.g1 k hk), fun k hk => h k (r.wait.lt hk) (r.g2 k hk)⟩
end

theorem in_any (sa : Option Addr) (n sc : Nat) (wa : Option Addr) (m wc : Nat) (f : Int) (o : Bool) (at_ : Int) (w : World) :
    Calls Try.prog 27 #[.agg #[.slice sa n sc, .slice wa m wc, .int .i64 f, .bool o], .int .i64 at_] w fun e w' => e = .returned (.bool (decide (0 ≤ at_ ∧ at_ < n))) ∧ Below w.heap.size w w' := by
  by_cases h : 0 ≤ at_
  · go_enter Try.func27, Try.ntmps27
    go_wp2
    go_ret
    refine ⟨by simp [h], (Below.refl _ _).alloc (Nat.le_refl _) _⟩
  · go_enter Try.func27, Try.ntmps27
    go_wp2
    go_ret
    refine ⟨by simp; omega, (Below.refl _ _).alloc (Nat.le_refl _) _⟩

theorem done_is (sa : Option Addr) (n sc : Nat) (wa : Option Addr) (m wc : Nat) (f : Int) (o : Bool) (f' : Int) (o' : Bool) (b : Bool) (hz : -9223372036854775808 ≤ f ∧ f < 9223372036854775808)
    (h : (o = true ∧ f' = f ∧ o' = true ∧ b = false) ∨ (o = false ∧ f = 0 ∧ f' = -1 ∧ o' = true ∧ b = false) ∨ (o = false ∧ 0 < f ∧ f' = f - 1 ∧ o' = false ∧ b = true) ∨ (o = false ∧ f < 0 ∧ f' = f ∧ o' = false ∧ b = true)) (w : World) :
    Calls Try.prog 54 #[.agg #[.slice sa n sc, .slice wa m wc, .int .i64 f, .bool o]] w fun e w' => e = .returned (.tuple #[.agg #[.slice sa n sc, .slice wa m wc, .int .i64 f', .bool o'], .bool b]) ∧ Below w.heap.size w w' := by
  have hb2 : ∀ A B : Obj, Below w.heap.size w ((w.alloc A).alloc B) := fun A B => ((Below.refl _ w).alloc (Nat.le_refl _) _).alloc (by simp) _
  rcases h with ⟨rfl, rfl, rfl, rfl⟩ | ⟨rfl, rfl, rfl, rfl, rfl⟩ | ⟨rfl, h1, rfl, rfl, rfl⟩ | ⟨rfl, h1, rfl, rfl, rfl⟩
  · clear hz
    go_enter Try.func54, Try.ntmps54
    go_wp2
    exact bodyPost_ret (v := .tuple #[.agg #[.slice sa n sc, .slice wa m wc, .int .i64 f', .bool true], .bool false]) (by simp [results, Try.results54, go_sem]) rfl ⟨rfl, hb2 _ _⟩
  · clear hz
    go_enter Try.func54, Try.ntmps54
    go_wp2
    exact bodyPost_ret (v := .tuple #[.agg #[.slice sa n sc, .slice wa m wc, .int .i64 (-1), .bool true], .bool false]) (by simp [results, Try.results54, go_sem]) rfl ⟨rfl, hb2 _ _⟩
  · have h0 : ¬ f = 0 := by omega
    have h00 : (f == 0) = false := by simpa using h0
    have r1 : wrap64 (f - 1) = f - 1 := by unfold wrap64; omega
    clear hz
    go_enter Try.func54, Try.ntmps54
    go_wp2
    exact bodyPost_ret (v := .tuple #[.agg #[.slice sa n sc, .slice wa m wc, .int .i64 (f - 1), .bool false], .bool true]) (by simp [results, Try.results54, go_sem]) rfl ⟨rfl, hb2 _ _⟩
  · have h0 : ¬ f' = 0 := by omega
    have h00 : (f' == 0) = false := by simpa using h0
    have h2 : ¬ 0 < f' := by omega
    clear hz
    go_enter Try.func54, Try.ntmps54
    go_wp2
    exact bodyPost_ret (v := .tuple #[.agg #[.slice sa n sc, .slice wa m wc, .int .i64 f', .bool false], .bool true]) (by simp [results, Try.results54, go_sem]) rfl ⟨rfl, hb2 _ _⟩
theorem done_any (sa : Option Addr) (n sc : Nat) (wa : Option Addr) (m wc : Nat) (s : St) (hz : -9223372036854775808 ≤ s.fuse ∧ s.fuse < 9223372036854775808) (w : World) :
    Calls Try.prog 54 #[.agg #[.slice sa n sc, .slice wa m wc, .int .i64 s.fuse, .bool s.off]] w fun e w' => e = .returned (.tuple #[.agg #[.slice sa n sc, .slice wa m wc, .int .i64 s.burnt.fuse, .bool s.burnt.off], .bool s.goes]) ∧ Below w.heap.size w w' := by
  refine done_is sa n sc wa m wc _ _ _ _ _ hz ?_ w
  obtain ⟨sure, wait, f, o⟩ := s
  cases o with
  | true => left; simp [St.burnt, St.goes]
  | false =>
    right
    by_cases h0 : f = 0
    · left; simp [St.burnt, St.goes, h0]
    · right
      by_cases hp : 0 < f
      · left; simp [St.burnt, St.goes, h0, hp]
      · right
        simp [St.burnt, St.goes, h0, hp]
        omega
theorem rfuse_any (sa : Option Addr) (n sc : Nat) (wa : Option Addr) (m wc : Nat) (f : Int) (o : Bool) (k : Int) (w : World) :
    Calls Try.prog 21 #[.agg #[.slice sa n sc, .slice wa m wc, .int .i64 f, .bool o], .int .i64 k] w fun e w' => e = .returned (.agg #[.slice sa n sc, .slice wa m wc, .int .i64 (max k (-1)), .bool o]) ∧ Below w.heap.size w w' := by
  have hb2 : ∀ A B : Obj, Below w.heap.size w ((w.alloc A).alloc B) := fun A B => ((Below.refl _ w).alloc (Nat.le_refl _) _).alloc (by simp) _
  by_cases h : -1 ≤ k
  · have hm : max k (-1) = k := by omega
    rw [hm]
    clear hm
    go_enter Try.func21, Try.ntmps21
    go_wp2
    exact bodyPost_ret (v := .agg #[.slice sa n sc, .slice wa m wc, .int .i64 k, .bool o]) (by simp [results, Try.results21, go_sem]) rfl ⟨rfl, hb2 _ _⟩
  · have hm : max k (-1) = -1 := by omega
    rw [hm]
    clear hm
    go_enter Try.func21, Try.ntmps21
    go_wp2
    exact bodyPost_ret (v := .agg #[.slice sa n sc, .slice wa m wc, .int .i64 (-1), .bool o]) (by simp [results, Try.results21, go_sem]) rfl ⟨rfl, hb2 _ _⟩
theorem has_is (w : World) (v : Value) (l : List (BitVec 64)) (hv : ReadsI w v l) (hll : l.length ≤ maxLen) (i : Nat) :
    Calls Try.prog 56 #[v, .int .i64 i] w fun e w' => e = .returned (.bool (among l i)) ∧ w' = w := by
  obtain ⟨av, cv, rfl, hread⟩ := reads_at hv
  have hL : (l.length : Int) ≤ 9223372036854775807 := by simp only [maxLen] at hll; omega
  clear hv hll
  go_enter Try.func56, Try.ntmps56
  go_wp2
  go_loopg [4, 5] l.length (fun g s4 s5 wx => ∃ j : Nat, j + g = l.length ∧ s5 = .int .i64 j ∧ among (l.take j) i = false ∧ wx = w)
  case atStart => exact ⟨0, by omega, rfl, rfl, rfl⟩
  case round =>
    obtain ⟨j, hjg, rfl, hno, rfl⟩ := hrel
    by_cases hj : j < l.length
    · have hjI : (j : Int) < (l.length : Int) := by omega
      obtain ⟨b, off, rfl, hbw, hcell⟩ := hread j hj
      have hst := among_step l j hj i
      rw [hno, Bool.false_or] at hst
      obtain ⟨z, hzz⟩ : ∃ z, z = (l.getD j 0#64).toInt := ⟨_, rfl⟩
      rw [← hzz] at hcell hst
      have hmem : z = (i : Int) → among l i = true := by
        intro e
        unfold among
        rw [List.any_eq_true]
        refine ⟨l.getD j 0#64, ?_, by rw [← hzz, e]; simp⟩
        simp [hj]
      have hr2 : IntKind.i64.wrap ((j : Int) + 1) = (j : Int) + 1 := by rw [IntKind.wrap_i64]; omega
      have HS : Hid (among (l.take (j + 1)) i = (z == (i : Int))) := hst
      have HM : Hid (z = (i : Int) → among l i = true) := hmem
      clear hst hmem hzz hread hno
      by_cases hz : z = (i : Int)
      · have hzb : (z == (i : Int)) = true := by simpa using hz
        clear hz
        go_wp2
        go_ret
        rw [HM.out (by simpa using hzb)]
        exact ⟨rfl, rfl⟩
      · have hzb : (z == (i : Int)) = false := by simpa using hz
        clear hz
        go_wp2
        go_roundg (l.length - (j + 1))
        case measure => clear hr2; omega
        case rel => exact ⟨j + 1, by clear hr2; omega, by go_num, by rw [HS.out]; exact hzb, rfl⟩
    · have hjI : ¬ (j : Int) < (l.length : Int) := by omega
      rw [List.take_of_length_le (by omega)] at hno
      have HN : Hid (among l i = false) := hno
      clear hread hno
      go_wp2
      go_ret
      rw [HN.out]
      exact ⟨rfl, rfl⟩
end Go.Proofs.Ytgffplfpoopolaa
/-
  Slices of rows (elements of any number of cells): append of one to another, a store into one, what they read as. No program is spoken of.
-/
namespace Go.Proofs.Ytgffplfpoopolaa
open Go.RowKit

theorem srows_own_base {w : World} {v : Value} {t : TypeId} {sz : Nat} {R : List (List Value)} (h : SRows w v t sz R) (hsz : 0 < sz) {B : Nat} (hB : ∀ k, v.ownBlock = some k → B ≤ k) : w.ownsRow B t sz v R.length R.flatten := by
  obtain ⟨h1, h2⟩ := h.own hsz
  refine ⟨h1, ?_⟩
  rcases h2 with h2 | ⟨g, cap, cur, rfl, _, h3⟩
  · exact .inl h2
  · exact .inr ⟨g, cap, cur, rfl, hB g rfl, h3⟩
theorem own_shape {w : World} {B : Nat} {e : TypeId} {size : Nat} {v : Value} {n : Nat} {xs : List Value} (h : w.ownsRow B e size v n xs) : (∃ va vc, v = .slice va n vc) ∧ ∀ k, v.ownBlock = some k → B ≤ k := by
  refine ⟨?_, fun k hk => (h.lt k hk).1⟩
  rcases h.2 with ⟨rfl, rfl⟩ | ⟨g, cap, cur, rfl, _⟩
  · exact ⟨_, _, rfl⟩
  · exact ⟨_, _, rfl⟩
theorem srows_new (w : World) (r : List Value) (t : TypeId) {sz : Nat} (hr : r.length = sz) : SRows (w.alloc (.cells r.toArray t)) (.slice (some ⟨w.heap.size, 0, none⟩) 1 1) t sz [r] := by
  refine .inr ⟨w.heap.size, 1, rfl, Nat.le_refl _, by unfold maxLen; omega, r.toArray, heap_alloc_last w _, by simp [hr], by simp, by simp [hr], ?_⟩
  intro i x hx j v hv
  cases i with
  | zero => simp at hx; subst hx; simpa using hv
  | succ i => simp at hx

theorem noOwn (B : Nat) : ∀ k, (Value.slice none 0 0).ownBlock = some k → B ≤ k := by intro k hk; simp [Value.ownBlock] at hk

section
variable {P : Program} {ops : Array Oper} {rest : List Oper} {o : Oper} {a : Act} {w : World} {Q : Exit → Act → World → Prop}
/-- 'append(v, u...)', v the call's own. -/
theorem append_rows (hgd : o.guard = none) (s x : Operand) (T e : TypeId) (i : TypeInfo) (z : Value) (sz bytes : Nat) (ho : o.op = .call { callee := .builtin .append, args := #[s, x], argTypes := #[T, T] })
    (hT : P.underlying T = some (.slice e)) (hi : P.info? e = some i) (hz : i.zero = some z) (hsize : i.size = sz) (hby : i.bytes = bytes) (hzs : z.cells.size = sz) (hsz : 0 < sz) (hbl : bytes ≤ 200)
    {B : Nat} {v u : Value} {R1 R2 : List (List Value)} (hs : a.eval s = v) (hx : a.eval x = u) (hv : SRows w v e sz R1) (hu : SRows w u e sz R2) (hvB : ∀ k, v.ownBlock = some k → B ≤ k) (hB : B ≤ w.heap.size)
    (h1 : ∀ r ∈ R2, ∀ c ∈ r, c.oneCell' = true) (m : Nat) (hm : R1.length + R2.length = m) (R : List (List Value)) (hR : R1 ++ R2 = R) (hl : m ≤ 1000000)
    (h : ∀ va vc w', SRows w' (.slice va m vc) e sz R → (∀ k, (Value.slice va m vc).ownBlock = some k → B ≤ k) → Below B w w' → wpList P ops Q rest (a.put o.dst (.slice va m vc)) w') :
    wpList P ops Q (o :: rest) a w := by
  subst hm hR
  have hown := srows_own_base hv hsz hvB
  have hlens : ∀ r ∈ R1 ++ R2, r.length = sz := fun r hr => by
    rcases List.mem_append.1 hr with hr | hr
    · exact hv.rowlen r hr
    · exact hu.rowlen r hr
  rcases hu with ⟨rfl, rfl⟩ | ⟨g, cap, rfl, hc1, hc2, hrows⟩
  · have hrun := run_append_owned_none (P := P) w B T (o.type) e i sz hT hi v R1.length _ hown
    obtain ⟨⟨va, vc, rfl⟩, hvb⟩ := own_shape hown
    simp only [List.append_nil, List.length_nil, Nat.add_zero] at h
    refine wpList_plain hgd fun K hK => ?_
    unfold Oper.wp execOp
    simp only [ho, resolve, invoke, builtin, Sem.run_bind, Sem.run_pure, Result.andThen_ok, List.map_toArray, List.map_cons, List.map_nil, hs, hx, hrun]
    exact hK _ _ (h va vc w hv hvB (Below.refl _ _))
  · have hus : SRows w (.slice (some ⟨g, 0, none⟩) R2.length cap) e sz R2 := .inr ⟨g, cap, rfl, hc1, hc2, hrows⟩
    have hnews : ∀ j u, R2.flatten[j]? = some u → w.cell? ((⟨g, 0, none⟩ : Addr).add j) = some u := (hus.own hsz).cells rfl
    refine wpList_append_own w hgd s x T ho B e i z sz bytes hT hi hz hsize hby hzs hsz v R1.length R1.flatten hs hown ⟨g, 0, none⟩ R2.length cap R2.flatten hx (length_flat R2 hus.rowlen) hnews ?_ ?_ ?_ hB ?_
    · intro u hu
      obtain ⟨r, hr, hur⟩ := List.mem_flatten.1 hu
      exact h1 r hr u hur
    · unfold maxLen; omega
    · have : (R1.length + R2.length) * bytes ≤ 1000000 * 200 := Nat.mul_le_mul hl hbl
      omega
    · intro v' w' hown' hgrow _
      obtain ⟨⟨va, vc, rfl⟩, hvb⟩ := own_shape hown'
      refine h va vc w' (srows_of_own hown' (by rw [List.flatten_append]) hlens hsz (by simp)) hvb ?_
      exact (Below.refl B w).grown hgrow hB fun k hk => hvB k hk
end
end Go.Proofs.Ytgffplfpoopolaa
