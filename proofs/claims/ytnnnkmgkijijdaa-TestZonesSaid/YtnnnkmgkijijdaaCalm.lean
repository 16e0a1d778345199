/-
  Regions that draw their order and hold calls that make memory and turn nothing old: the walk in the order of the text serves, over all worlds above the first one. No program is spoken of.
-/
import Derived.WalkKit
import Derived.Deep.Quiet
import Derived.Deep.QuietTactic
import Derived.BigQuiet
import Derived.Below
namespace Go.Proofs.Ytnnnkmgkijijdaa
open Go.RowKit

/-- A world above w: below w's heap all is as it was. -/
structure Above (w : World) where
  it : World
  is : Below w.heap.size w it
theorem above_some (w : World) : Nonempty (Above w) := ⟨⟨w, Below.refl _ _⟩⟩
/-- A callee that makes memory and turns nothing old. -/
theorem above_of {P : Program} {f : FuncId} {args : Array Value} {w : World} {k : Above w} {v : Value}
    (h : Calls P f args k.it fun e w' => e = .returned v ∧ Below k.it.heap.size k.it w') : Calls P f args k.it fun e w'' => e = .returned v ∧ ∃ k' : Above w, w'' = k'.it :=
  h.mono fun _ w'' ⟨he, hb⟩ => ⟨he, ⟨w'', k.is.trans (hb.mono k.is.size)⟩, rfl⟩
/-- A callee that only computes. -/
theorem above_same {P : Program} {f : FuncId} {args : Array Value} {w : World} {k : Above w} {v : Value}
    (h : Calls P f args k.it fun e w' => e = .returned v ∧ w' = k.it) : Calls P f args k.it fun e w'' => e = .returned v ∧ ∃ k' : Above w, w'' = k'.it :=
  h.mono fun _ _ ⟨he, hb⟩ => ⟨he, k, hb⟩
/-- A callee that only reads, and draws. -/
theorem above_drew {P : Program} {f : FuncId} {args : Array Value} {w : World} {k : Above w} {v : Value}
    (h : Calls P f args k.it fun e w' => e = .returned v ∧ ∃ n, w' = k.it.drewN n) : Calls P f args k.it fun e w'' => e = .returned v ∧ ∃ k' : Above w, w'' = k'.it :=
  h.mono fun _ w'' ⟨he, n, hb⟩ => ⟨he, ⟨w'', by
    rw [hb]
    exact ⟨k.is.os, k.is.tape, k.is.output, k.is.size, k.is.block⟩⟩, rfl⟩
theorem wp_region_above {P : Program} {id : Nat} {Q : Exit → Act → World → Prop} {a : Act} {w : World} {l : List Oper} (hm : P.follows .mixedOrders = true) (hB : Region.lexB .any l.toArray = true)
    (h : Nonempty (Above w) → wpQuiet P l.toArray (fun w' => ∃ k : Above w, w' = k.it) (fun a' => ∀ w', (∃ k : Above w, w' = k.it) → Q .normal a' w') l a) : (Code.region id l.toArray true).wp P Q a w :=
  wp_region_quiet (C := fun w' => ∃ k : Above w, w' = k.it) hm hB ⟨⟨w.drew, (Below.refl _ _).drew⟩, rfl⟩ (by simpa using h (above_some w))
end Go.Proofs.Ytnnnkmgkijijdaa
