/-
  The walk of law 5's ExtentFor.
-/
import Derived.Test.YtjnobdgigeejnaaELaw
namespace Go.Proofs.Ytjnobdgigeejnaa
open Go.RowKit

set_option maxRecDepth 4000 in
set_option maxHeartbeats 4000000 in
theorem walkExtentFor (b : Int) (wf : (Lit.int .i64 b).wf = true) (w : World) :
    Calls Try.prog 6 #[.int .i64 b] w fun e w' => e = .returned (.bool true) ∧ Below w.heap.size w w' := by
  have hb := wf_range b wf
  have cf := for_any b hb w
  have ca := awake_any w
  by_cases h1 : b < 1
  · rw [show forB b = 0 from if_pos h1] at cf
    clear hb
    go_enter Try.func6, Try.ntmps6
    go_wp2_with fail
    refine cf.mono ?_
    rintro e w1 ⟨rfl, h8⟩
    subst h8
    clear cf
    go_wp2_with fail
    refine ca.mono ?_
    rintro e w2 ⟨rfl, b2⟩
    have HB : Hid (Below w1.heap.size w1 w2) := b2
    clear ca b2
    go_wp2_with fail
    go_ret
    exact ⟨rfl, HB.out⟩
  · obtain ⟨d, hd⟩ : ∃ d, d = (b - 1) / 128 := ⟨_, rfl⟩
    rw [show forB b = d + 1 by rw [hd]; exact if_neg h1] at cf
    have h2 : 1 ≤ d + 1 := by omega
    have hw1 : IntKind.i64.wrap (d + 1 - 1) = d := by rw [IntKind.wrap_i64]; omega
    have hw1' : IntKind.i64.wrap d = d := by rw [IntKind.wrap_i64]; omega
    have h3 : d < 72057594037927936 := by omega
    obtain ⟨m, hm⟩ : ∃ m, m = d * 128 := ⟨_, rfl⟩
    have hw2 : IntKind.i64.wrap (d * 128) = m := by rw [IntKind.wrap_i64]; omega
    have h4 : m < b := by omega
    have hw3 : IntKind.i64.wrap (b - m) = b - m := by rw [IntKind.wrap_i64]; omega
    have h5 : b - m ≤ 128 := by omega
    clear hb hd hm
    go_enter Try.func6, Try.ntmps6
    go_wp2_with fail
    refine cf.mono ?_
    rintro e w1 ⟨rfl, h8⟩
    subst h8
    clear cf
    go_wp2_with fail
    refine ca.mono ?_
    rintro e w2 ⟨rfl, b2⟩
    have HB : Hid (Below w1.heap.size w1 w2) := b2
    clear ca b2
    go_wp2_with fail
    go_ret
    exact ⟨rfl, HB.out⟩
end Go.Proofs.Ytjnobdgigeejnaa
