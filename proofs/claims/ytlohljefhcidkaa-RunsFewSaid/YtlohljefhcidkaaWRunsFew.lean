/-
  The walk of law 10's RunsFew: there are as many runs as places at which a number is another one than the one ahead, and one.
-/
import Derived.Test.YtlohljefhcidkaaUAwake
import Derived.Test.YtlohljefhcidkaaUTake
import Derived.Test.YtlohljefhcidkaaUSame
import Derived.Test.YtlohljefhcidkaaVRow
namespace Go.Proofs.Ytlohljefhcidkaa
open Go.RowKit

theorem ofP_grow (l : List (BitVec 64)) (k : Nat) (hk : k ≤ l.length) (h16 : k ≤ 65536) : ((0 < k ∧ l.getD k 0#64 = l.getD (k - 1) 0#64) → (ofP l (k + 1)).length = (ofP l k).length) ∧ ((k = 0 ∨ l.getD k 0#64 ≠ l.getD (k - 1) 0#64) → (ofP l (k + 1)).length = (ofP l k).length + 1) := by
  refine ⟨fun ⟨h1, h2⟩ => ?_, fun h => by rw [ofP_new h]; simp⟩
  obtain ⟨a, r, e, _⟩ := (of_is l k hk h16).last h1
  rw [ofP_on h1 h2, e, bump_snoc]
  simp

set_option maxRecDepth 4000 in
set_option maxHeartbeats 4000000 in
theorem walkRunsFew {w : World} (a : Option Addr) (len cap : Nat) (zs : List Int) (h : IsRow .i64 w a len cap zs) :
    Calls Try.prog 6 #[.slice a len cap] w fun e w' => e = .returned (.bool true) ∧ Below w.heap.size w w' := by
  obtain ⟨l, hl, hrd⟩ := reads_of_row h
  clear h
  have hmx : len ≤ 100 ∨ (100 : Int) < (len : Int) := by omega
  rcases hmx with h100 | h100
  · have HL : Hid (l.length = len ∧ ReadsI w (.slice a len cap) l) := ⟨hl, hrd⟩
    have h1I : (len : Int) ≤ 100 := by omega
    clear hl hrd
    go_enter Try.func6, Try.ntmps6
    go_wp2_with fail
    go_loopg [3, 4] len (fun gg s3 s4 wx => ∃ k c : Nat, k + gg = len ∧ s4 = .int .i64 k ∧ s3 = .int .i64 c ∧ Hid (c = (ofP l k).length) ∧ c ≤ k ∧ Hid (Below w.heap.size w wx))
    case atStart => exact ⟨0, 0, by omega, rfl, rfl, rfl, Nat.le_refl _, Below.refl _ _⟩
    case round =>
      obtain ⟨k, c, hkg, rfl, rfl, HC, hck, HB⟩ := hrel
      by_cases hk : k < len
      · have hkI : (k : Int) < (len : Int) := by omega
        obtain ⟨hl, hrd⟩ := HL.out
        rcases hrd with ⟨rfl, _⟩ | ⟨b, off, c1, e, hne, hbw, hcell⟩
        · simp at hl
          omega
        · simp only [Value.slice.injEq] at e
          obtain ⟨rfl, hlen, rfl⟩ := e
          have hG := ofP_grow l k (by omega) (by omega)
          have hcl : wr.cell? ⟨b, off + k, none⟩ = some (.int .i64 (l.getD k 0#64).toInt) := (HB.out.cell (p := ⟨b, off + k, none⟩) hbw).trans (hcell k (by omega))
          have hr2 : IntKind.i64.wrap ((k : Int) + 1) = (k : Int) + 1 := by rw [IntKind.wrap_i64]; omega
          have hr3 : IntKind.i64.wrap ((c : Int) + 1) = (c : Int) + 1 := by rw [IntKind.wrap_i64]; omega
          obtain ⟨x, hx⟩ : ∃ x, x = (l.getD k 0#64).toInt := ⟨_, rfl⟩
          rw [← hx] at hcl
          cases k with
          | zero =>
            have HC2 : Hid (c + 1 = (ofP l (0 + 1)).length) := by unfold Hid; rw [hG.2 (.inl rfl), ← HC.out]
            clear hG hcell hne hl hlen
            go_wp2_with fail
            go_quiet (fail)
            go_wp2_with fail
            go_roundg (len - 1)
            case measure => clear hr2 hr3; omega
            case rel => exact ⟨1, c + 1, by clear hr2 hr3; omega, rfl, by go_num, HC2, by omega, ⟨HB.out.os, HB.out.tape, HB.out.output, HB.out.size, HB.out.block⟩⟩
          | succ m =>
            have hmI : (m : Int) ≤ 100 := by omega
            have B0 : ((m : Int) + 1 == 0) = false := by simp; omega
            have hkI2 : (m : Int) + 1 < (len : Int) := by omega
            have hcl2 : wr.cell? ⟨b, off + m, none⟩ = some (.int .i64 (l.getD m 0#64).toInt) := (HB.out.cell (p := ⟨b, off + m, none⟩) hbw).trans (hcell m (by omega))
            obtain ⟨y, hy⟩ : ∃ y, y = (l.getD m 0#64).toInt := ⟨_, rfl⟩
            rw [← hy] at hcl2
            by_cases hxy : x = y
            · have HC2 : Hid (c = (ofP l (m + 1 + 1)).length) := by
                unfold Hid; rw [hG.1 ⟨by omega, BitVec.toInt_inj.1 (by rw [← hx, hxy, hy]; rfl)⟩, ← HC.out]
              have B1 : (x == y) = true := by simpa using hxy
              clear hG hcell hne hl hlen hx hy
              subst hxy
              go_wp2_with fail
              have B9 : ((m : Int) + 1 == 0) = false := by simp; omega
              go_quiet (fail)
              go_wp2_with fail
              go_roundg (len - (m + 2))
              case measure => clear hr2 hr3; omega
              case rel => exact ⟨m + 2, c, by clear hr2 hr3; omega, by go_num, rfl, HC2, by omega, ⟨HB.out.os, HB.out.tape, HB.out.output, HB.out.size, HB.out.block⟩⟩
            · have HC2 : Hid (c + 1 = (ofP l (m + 1 + 1)).length) := by
                unfold Hid; rw [hG.2 (.inr fun e => hxy (by rw [hx, hy, e]; rfl)), ← HC.out]
              have B1 : (x == y) = false := by simpa using hxy
              have B2 : (x != y) = true := by simpa using hxy
              clear hG hcell hne hl hlen hx hy hxy
              go_wp2_with fail
              have B9 : ((m : Int) + 1 == 0) = false := by simp; omega
              go_quiet (fail)
              go_wp2_with fail
              go_roundg (len - (m + 2))
              case measure => clear hr2 hr3; omega
              case rel => exact ⟨m + 2, c + 1, by clear hr2 hr3; omega, by go_num, by go_num, HC2, by omega, ⟨HB.out.os, HB.out.tape, HB.out.output, HB.out.size, HB.out.block⟩⟩
      · have hkI : ¬ (k : Int) < (len : Int) := by omega
        obtain rfl : k = len := by omega
        have HW : Hid (Below w.heap.size w wr ∧ ReadsI wr (.slice a k cap) l ∧ l.length = k) := ⟨HB.out, HL.out.2.below HB.out, HL.out.1⟩
        clear HL HB
        have hof := runsOf_any HW.out.2.1 (by have := HW.out.2.2; omega)
        have hO := of_is l k (by have := HW.out.2.2; omega) (by omega)
        obtain ⟨R, hR⟩ : ∃ R, R = ofP l k := ⟨_, rfl⟩
        have HO : Hid (May R ∧ endR R = (k : Int) ∧ R.length = c ∧ c ≤ 100) := ⟨by rw [hR]; exact hO.may, by rw [hR]; exact hO.all, by rw [hR, HC.out], by omega⟩
        have HR2 : Hid (ofP l l.length = R) := by unfold Hid; rw [HW.out.2.2, hR]
        clear hO hR HC
        go_wp2_with fail
        refine hof.mono ?_
        rintro e w1 ⟨⟨v1, rfl, hv1⟩, hb1⟩
        rw [HR2.out] at hv1
        obtain ⟨a1, n1, c1, rfl, hn1, _⟩ := hv1.slice
        obtain rfl : n1 = c := by rw [← hn1]; exact HO.out.2.2.1
        have H1 : Hid (RunsIs w1 (.slice a1 n1 c1) R ∧ Below w.heap.size w w1) := ⟨hv1, HW.out.1.trans (hb1.mono HW.out.1.size)⟩
        clear hof hv1 hb1 hn1 HR2
        have hpt := put_yes H1.out.1 (by have := HO.out; omega) HO.out.1
        go_wp2_with fail
        refine hpt.mono ?_
        rintro e w2 ⟨rfl, hb2⟩
        have H2 : Hid (RunsIs w2 (.slice a1 n1 c1) R ∧ Below w.heap.size w w2) := ⟨H1.out.1.below hb2, H1.out.2.trans (hb2.mono H1.out.2.size)⟩
        clear hpt hb2 H1
        have htk := takeRuns_any (str (encR R)) (by rw [str_size]; have := (encR_len R).1; have := HO.out; omega) (k : Int) (by omega) (by omega) w2
        rw [str_list] at htk
        generalize str (encR R) = t at htk ⊢
        go_wp2_with fail
        refine htk.mono ?_
        rintro e w3 ⟨hb3, hans⟩
        have hans2 : ∃ v, e = .returned (.tuple #[v, .int .i64 0]) ∧ RunsIs w3 v R := by
          rcases hans with ⟨rs, v, he, hr, hi⟩ | ⟨_, hno⟩
          · obtain rfl := hi.same HO.out.1.chain rfl
            exact ⟨v, he, hr⟩
          · exact absurd ⟨R, HO.out.1, rfl, HO.out.2.1⟩ hno
        obtain ⟨v3, rfl, hv3⟩ := hans2
        have H3 : Hid (RunsIs w3 (.slice a1 n1 c1) R ∧ RunsIs w3 v3 R ∧ Below w.heap.size w w3) := ⟨H2.out.1.below hb3, hv3, H2.out.2.trans (hb3.mono H2.out.2.size)⟩
        clear htk hans hb3 hv3 H2
        have hsm := sameR_any H3.out.2.1 H3.out.1 (by have := HO.out; omega)
        go_wp2_with fail
        refine hsm.mono ?_
        rintro e w4 ⟨rfl, nq, rfl⟩
        clear hsm
        go_wp2_with (go_at_call 7; refine (awake_any _).mono ?_; rintro e w5 ⟨rfl, hb5⟩)
        go_ret
        exact ⟨rfl, H3.out.2.2.trans ((show Below w3.heap.size w3 w5 from ⟨hb5.os, hb5.tape, hb5.output, hb5.size, hb5.block⟩).mono H3.out.2.2.size)⟩
  · clear hl hrd
    go_enter Try.func6, Try.ntmps6
    go_wp2_with (go_at_call 7; refine (awake_any _).mono ?_; rintro e w1 ⟨rfl, hb1⟩)
    go_ret
    exact ⟨rfl, hb1⟩
end Go.Proofs.Ytlohljefhcidkaa
