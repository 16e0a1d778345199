/-
  What the laws' walks of layer 5 have in common.
-/
import Derived.Test.YtjnobdgigeejnaaEAwake
import Derived.Test.YtjnobdgigeejnaaWords
namespace Go.Proofs.Ytjnobdgigeejnaa
open Go.RowKit

theorem wf_range (a : Int) (h : (Lit.int .i64 a).wf = true) : -9223372036854775808 ≤ a ∧ a < 9223372036854775808 := by
  obtain ⟨x, rfl⟩ := Wd.word_of a h
  have h1 := x.toInt_lt
  have h2 := x.le_toInt
  omega
end Go.Proofs.Ytjnobdgigeejnaa
