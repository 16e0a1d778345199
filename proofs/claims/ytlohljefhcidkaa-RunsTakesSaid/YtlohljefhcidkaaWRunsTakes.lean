/-
  The walk of law 10's RunsTakes: the runs of any bytes, or that they are none; no other bytes lead to these.
-/
import Derived.Test.YtlohljefhcidkaaUAwake
import Derived.Test.YtlohljefhcidkaaURefTake
import Derived.Test.YtlohljefhcidkaaUSame
namespace Go.Proofs.Ytlohljefhcidkaa
open Go.RowKit

/-- What Take tells of bytes: runs, and a number. -/
def TkIs (s : List UInt8) (n : Int) (rs : List Rn) (x : Int) : Prop :=
  (x = 1 ∧ rs = [] ∧ (n < 0 ∨ 65536 < n)) ∨ (x = 20 ∧ rs = [] ∧ ¬ (n < 0 ∨ 65536 < n) ∧ ¬ ∃ r, IsRuns s n r) ∨ (x = 0 ∧ ¬ (n < 0 ∨ 65536 < n) ∧ IsRuns s n rs)
theorem TkIs.unique {s : List UInt8} {n : Int} {r1 r2 : List Rn} {x1 x2 : Int} (h1 : TkIs s n r1 x1) (h2 : TkIs s n r2 x2) : r1 = r2 ∧ x1 = x2 := by
  rcases h1 with ⟨rfl, rfl, a⟩ | ⟨rfl, rfl, a, b⟩ | ⟨rfl, a, b⟩
  · rcases h2 with ⟨rfl, rfl, c⟩ | ⟨rfl, rfl, c, d⟩ | ⟨rfl, c, d⟩
    · exact ⟨rfl, rfl⟩
    · exact absurd a c
    · exact absurd a c
  · rcases h2 with ⟨rfl, rfl, c⟩ | ⟨rfl, rfl, c, d⟩ | ⟨rfl, c, d⟩
    · exact absurd c a
    · exact ⟨rfl, rfl⟩
    · exact absurd ⟨r2, d⟩ b
  · rcases h2 with ⟨rfl, rfl, c⟩ | ⟨rfl, rfl, c, d⟩ | ⟨rfl, c, d⟩
    · exact absurd c a
    · exact absurd ⟨r1, b⟩ d
    · exact ⟨b.same d.may.chain d.enc.symm, rfl⟩
theorem TkIs.may {s : List UInt8} {n : Int} {rs : List Rn} {x : Int} (h : TkIs s n rs x) : May rs ∧ 2 * rs.length ≤ s.length := by
  rcases h with ⟨_, rfl, _⟩ | ⟨_, rfl, _⟩ | ⟨_, _, b⟩
  · exact ⟨may_nil, by simp⟩
  · exact ⟨may_nil, by simp⟩
  · refine ⟨b.may, ?_⟩
    have := (encR_len rs).2
    rwa [b.enc] at this
/-- What both Takes answer. -/
def TkAns (w : World) (s : List UInt8) (n : Int) (e : Ending) (w' : World) : Prop := Below w.heap.size w w' ∧ ∃ rs v x, e = .returned (.tuple #[v, .int .i64 x]) ∧ RunsIs w' v rs ∧ TkIs s n rs x
theorem tkAns_bad {w w' : World} {s : List UInt8} {n : Int} {e : Ending} (hn : n < 0 ∨ 65536 < n) (h : e = .returned (.tuple #[.slice none 0 0, .int .i64 1]) ∧ Below w.heap.size w w') : TkAns w s n e w' :=
  ⟨h.2, [], _, 1, h.1, runs_nil _, .inl ⟨rfl, rfl, hn⟩⟩
theorem tkAns_good {w w' : World} {s : List UInt8} {n : Int} {e : Ending} (hn : ¬ (n < 0 ∨ 65536 < n)) (h : TookR w s n e w') : TkAns w s n e w' := by
  rcases h.2 with ⟨rs, v, he, hr, hi⟩ | ⟨he, hno⟩
  · exact ⟨h.1, rs, v, 0, he, hr, .inr (.inr ⟨rfl, hn, hi⟩)⟩
  · exact ⟨h.1, [], _, 20, he, runs_nil _, .inr (.inl ⟨rfl, rfl, hn, hno⟩)⟩
theorem take_all (s : ByteArray) (hs : s.size ≤ 1000000) (n : Int) (w : World) : Calls Try.prog 18 #[.string s, .int .i64 n] w (TkAns w s.data.toList n) := by
  by_cases hn : n < 0 ∨ 65536 < n
  · exact (take_bad s n hn w).mono fun e w' h => tkAns_bad hn h
  · exact (takeRuns_any s hs n (by omega) (by omega) w).mono fun e w' h => tkAns_good hn h
theorem refTake_all (s : ByteArray) (hs : s.size ≤ 1000000) (n : Int) (w : World) : Calls Try.prog 19 #[.string s, .int .i64 n] w (TkAns w s.data.toList n) := by
  by_cases hn : n < 0 ∨ 65536 < n
  · exact (refTake_bad s n hn w).mono fun e w' h => tkAns_bad hn h
  · exact (refTakeRuns_any s hs n (by omega) (by omega) w).mono fun e w' h => tkAns_good hn h
theorem str_data (s : ByteArray) : str s.data.toList = s := by
  apply ByteArray.ext
  simp [str]

set_option maxRecDepth 4000 in
set_option maxHeartbeats 4000000 in
theorem walkRunsTakes {w : World} (s : ByteArray) (hs : s.size ≤ maxLen) (n : Int) (_hn : (Lit.int .i64 n).wf = true) :
    Calls Try.prog 5 #[.string s, .int .i64 n] w fun e w' => e = .returned (.bool true) ∧ Below w.heap.size w w' := by
  clear _hn
  unfold maxLen at hs
  by_cases h5 : (512 : Int) < (s.size : Int)
  · go_enter Try.func5, Try.ntmps5
    go_wp2_with (go_at_call 7; refine (awake_any _).mono ?_; rintro e w1 ⟨rfl, hb1⟩)
    go_ret
    exact ⟨rfl, hb1⟩
  · have ht1 := take_all s (by omega) n
    have ht2 := refTake_all s (by omega) n
    have HS : Hid (s.data.toList.length ≤ 512 ∧ str s.data.toList = s) := ⟨by rw [← Lib.size_eq]; omega, str_data s⟩
    go_enter Try.func5, Try.ntmps5
    go_wp2_with fail
    refine (ht1 _).mono ?_
    rintro e w1 ⟨hb1, rs, v1, x, rfl, hv1, hk1⟩
    have H1 : Hid (RunsIs w1 v1 rs ∧ TkIs s.data.toList n rs x ∧ Below w.heap.size w w1) := ⟨hv1, hk1, hb1⟩
    clear hb1 hv1 hk1 ht1
    go_wp2_with fail
    refine (ht2 _).mono ?_
    rintro e w2 ⟨hb2, rs2, v2, x2, rfl, hv2, hk2⟩
    obtain ⟨rfl, rfl⟩ := hk2.unique H1.out.2.1
    have H2 : Hid (RunsIs w2 v1 rs2 ∧ RunsIs w2 v2 rs2 ∧ Below w.heap.size w w2) := ⟨H1.out.1.below hb2, hv2, H1.out.2.2.trans (hb2.mono H1.out.2.2.size)⟩
    have HK : Hid (TkIs s.data.toList n rs2 x2) := hk2
    clear hb2 hv2 hk2 ht2 H1
    obtain ⟨hm, hlen⟩ := HK.out.may
    have hpt := put_yes H2.out.1 (by have := HS.out.1; omega) hm
    have hsm : ∀ W, Below w2.heap.size w2 W → Calls Try.prog 13 #[v1, v2] W fun e w' => e = .returned (.bool true) ∧ ∃ q, w' = W.drewN q := fun W hW => sameR_any (H2.out.1.below hW) (H2.out.2.1.below hW) (by have := HS.out.1; omega)
    clear hm hlen
    rcases (show (x2 = 1 ∨ x2 = 20) ∨ (x2 = 0 ∧ encR rs2 = s.data.toList) by
      rcases HK.out with ⟨h, _⟩ | ⟨h, _⟩ | ⟨h, _, hi⟩
      · exact .inl (.inl h)
      · exact .inl (.inr h)
      · exact .inr ⟨h, hi.enc⟩) with (rfl | rfl) | ⟨rfl, henc⟩
    case' inr => rw [henc, HS.out.2] at hpt; clear henc
    case' inl.inl => generalize str (encR rs2) = t at hpt
    case' inl.inr => generalize str (encR rs2) = t at hpt
    all_goals
      go_wp2_with fail
      refine hpt.mono ?_
      rintro e w3 ⟨rfl, hb3⟩
      have H3 : Hid (Below w.heap.size w w3) := H2.out.2.2.trans (hb3.mono H2.out.2.2.size)
      have hs3 := hsm w3 hb3
      clear hpt hb3 hsm
      go_wp2_with fail
      refine hs3.mono ?_
      rintro e w4 ⟨rfl, nq, rfl⟩
      clear hs3
      go_wp2_with (go_at_call 7; refine (awake_any _).mono ?_; rintro e w5 ⟨rfl, hb5⟩)
      go_ret
      exact ⟨rfl, H3.out.trans ((show Below w3.heap.size w3 w5 from ⟨hb5.os, hb5.tape, hb5.output, hb5.size, hb5.block⟩).mono H3.out.size)⟩
end Go.Proofs.Ytlohljefhcidkaa
