/-
  No cell of these rows narrows 'for every input' (looked for: loops, veiled, ifaces, maps, wideKeys, modest, calm, conditions, laid).
  DERIVED. THE GIVEN ROWS OF THIS SEAT. 4 by the template 'for every input the law returns true; each argument reads behind the call as it read before'; 0 by the template 'total and deterministic' (their statements: YtflabcmjbhmphaaTotals.lean).
  GIVEN WITH THE SEED: the statements are not yours to turn. If you find one false, say at which input.
  Laid BY PROGRAM, IN A SANDBOX (cutbox-rows.mjs): the forced cells as the released guide's own fill.sh prints them over the translation ac47e541b5c4ef7a… (all of the seat's roots in one cut). By AI agents, Wed Nov 11 2026. No macro, syntax, notation, axiom, sorry.
-/
import Derived.Test.YtflabcmjbhmphaaChecked
import GoSem.Claim
import GoSem.ClaimJoined
import GoSem.ClaimMapViews
import Derived.JoinedTies
import Derived.KernelRfl
namespace Go.Proofs.Ytflabcmjbhmphaa
/- THE CELL 'sum', in the pinned program and in every row, IS THE sha256 OF THE DUMP (.gsa) THAT YtflabcmjbhmphaaProg.lean LOADS. Nothing in Lean hashes anything: it is a label: what it is worth is what the hold of that sum in a sandbox is worth. -/
noncomputable def Try.pinned : Pinned := { name := "ytflabcmjbhmphaa", sum := "ac47e541b5c4ef7a3f4c27c2c6ac39a16dd25e48a57563964a7ebbcdcdbce923", checked := Try.checked }
namespace Rows
def none {H : Type} : Left H := { results := [], args := [] }

/-- 'peristylelaw27.MoverMerges': WHATEVER THE INPUT: true; the input reads as it did. -/
def moverMergesSpec : ChangeSpec := { name := "moverMerges", fn := fun _ => fun
  | [d1, d2, d3] => { results := [.lit (.bool true)], args := [d1, d2, d3] }
  | _ => none }
def moverMergesRow : OpenClaim := { program := "ytflabcmjbhmphaa", sum := "ac47e541b5c4ef7a3f4c27c2c6ac39a16dd25e48a57563964a7ebbcdcdbce923", func := "peristyle/peristylelaw27.MoverMerges", spec := "moverMerges", unfollowed := true, recurses := true, apart := false }
def MoverMergesSaid : Prop := moverMergesRow.holds Try.pinned (OpenSpec.ofChange moverMergesSpec)

/-- ITS FALSE NEIGHBOUR: 'it returns false'. Refute it at one input. -/
def moverMergesWrong : ChangeSpec := { name := "moverMerges", fn := fun _ => fun
  | [d1, d2, d3] => { results := [.lit (.bool false)], args := [d1, d2, d3] }
  | _ => none }
def MoverMergesWrongFalsely : Prop := moverMergesRow.holds Try.pinned (OpenSpec.ofChange moverMergesWrong)

/-- 'peristylelaw27.MoverLives': WHATEVER THE INPUT: true; the input reads as it did. -/
def moverLivesSpec : ChangeSpec := { name := "moverLives", fn := fun _ => fun
  | [d1, d2, d3] => { results := [.lit (.bool true)], args := [d1, d2, d3] }
  | _ => none }
def moverLivesRow : OpenClaim := { program := "ytflabcmjbhmphaa", sum := "ac47e541b5c4ef7a3f4c27c2c6ac39a16dd25e48a57563964a7ebbcdcdbce923", func := "peristyle/peristylelaw27.MoverLives", spec := "moverLives", unfollowed := true, recurses := true, apart := false }
def MoverLivesSaid : Prop := moverLivesRow.holds Try.pinned (OpenSpec.ofChange moverLivesSpec)

/-- ITS FALSE NEIGHBOUR: 'it returns false'. Refute it at one input. -/
def moverLivesWrong : ChangeSpec := { name := "moverLives", fn := fun _ => fun
  | [d1, d2, d3] => { results := [.lit (.bool false)], args := [d1, d2, d3] }
  | _ => none }
def MoverLivesWrongFalsely : Prop := moverLivesRow.holds Try.pinned (OpenSpec.ofChange moverLivesWrong)

/-- 'peristylelaw27.MoverProjects': WHATEVER THE INPUT: true; the input reads as it did. -/
def moverProjectsSpec : ChangeSpec := { name := "moverProjects", fn := fun _ => fun
  | [d1, d2, d3] => { results := [.lit (.bool true)], args := [d1, d2, d3] }
  | _ => none }
def moverProjectsRow : OpenClaim := { program := "ytflabcmjbhmphaa", sum := "ac47e541b5c4ef7a3f4c27c2c6ac39a16dd25e48a57563964a7ebbcdcdbce923", func := "peristyle/peristylelaw27.MoverProjects", spec := "moverProjects", unfollowed := true, recurses := true, apart := false }
def MoverProjectsSaid : Prop := moverProjectsRow.holds Try.pinned (OpenSpec.ofChange moverProjectsSpec)

/-- ITS FALSE NEIGHBOUR: 'it returns false'. Refute it at one input. -/
def moverProjectsWrong : ChangeSpec := { name := "moverProjects", fn := fun _ => fun
  | [d1, d2, d3] => { results := [.lit (.bool false)], args := [d1, d2, d3] }
  | _ => none }
def MoverProjectsWrongFalsely : Prop := moverProjectsRow.holds Try.pinned (OpenSpec.ofChange moverProjectsWrong)

/-- 'peristylelaw27.MoverKeeps': WHATEVER THE INPUT: true; the input reads as it did. -/
def moverKeepsSpec : ChangeSpec := { name := "moverKeeps", fn := fun _ => fun
  | [d1, d2, d3] => { results := [.lit (.bool true)], args := [d1, d2, d3] }
  | _ => none }
def moverKeepsRow : OpenClaim := { program := "ytflabcmjbhmphaa", sum := "ac47e541b5c4ef7a3f4c27c2c6ac39a16dd25e48a57563964a7ebbcdcdbce923", func := "peristyle/peristylelaw27.MoverKeeps", spec := "moverKeeps", unfollowed := true, recurses := true, apart := false }
def MoverKeepsSaid : Prop := moverKeepsRow.holds Try.pinned (OpenSpec.ofChange moverKeepsSpec)

/-- ITS FALSE NEIGHBOUR: 'it returns false'. Refute it at one input. -/
def moverKeepsWrong : ChangeSpec := { name := "moverKeeps", fn := fun _ => fun
  | [d1, d2, d3] => { results := [.lit (.bool false)], args := [d1, d2, d3] }
  | _ => none }
def MoverKeepsWrongFalsely : Prop := moverKeepsRow.holds Try.pinned (OpenSpec.ofChange moverKeepsWrong)

/- THE SECOND FORM. 'bulk': how many values and letters a reading holds, each counted each time it is reached (what is shared counts as often as it is met; a slice's spare places count too). A statement '..UptoSaid' is the law's where the arguments, and the package variables that the reading takes, are together of bulk at most 1048576: NARROWER than '..Said'. Prove '..Said' where nothing that the law and all that it calls make is longer than what came in: it says more and counts as full. Else prove '..UptoSaid'. A law counts once. -/
mutual
def uptoBulk {H : Type} : DataW H → Nat
  | .lit (.string bytes) => bytes.length + 1
  | .lit _ => 1
  | .nil => 1
  | .ptr d => uptoBulk d + 1
  | .slice elems spare => uptoBulkAll elems + uptoBulkAll spare + 1
  | .agg parts => uptoBulkAll parts + 1
  | .iface _ d => uptoBulk d + 1
  | .map entries => uptoBulkEntries entries + 1
  | .held _ => 1
def uptoBulkAll {H : Type} : List (DataW H) → Nat
  | [] => 0
  | d :: r => uptoBulk d + uptoBulkAll r
def uptoBulkEntries {H : Type} : List (Lit × DataW H) → Nat
  | [] => 0
  | x :: r => uptoBulkEntry x + uptoBulkEntries r
def uptoBulkEntry {H : Type} : Lit × DataW H → Nat
  | (.string bytes, d) => bytes.length + uptoBulk d + 1
  | (_, d) => uptoBulk d + 1
 end
def uptoSmall : (H : Type) → List (DataW H) → Bool := fun _ ds => decide (uptoBulkAll ds ≤ 1048576)
def OpenSpec.upto (s : _root_.Go.ChangeSpec) : _root_.Go.OpenSpec := { _root_.Go.OpenSpec.ofChange s with cond := some uptoSmall }

/-- 'peristylelaw27.MoverMerges', WHERE WHAT IT READS IS OF BULK AT MOST 1048576: true; the input reads as it did. -/
def moverMergesUptoRow : OpenClaim := { program := "ytflabcmjbhmphaa", sum := "ac47e541b5c4ef7a3f4c27c2c6ac39a16dd25e48a57563964a7ebbcdcdbce923", func := "peristyle/peristylelaw27.MoverMerges", spec := "moverMerges", unfollowed := true, recurses := true, apart := false, narrowed := true }
def MoverMergesUptoSaid : Prop := moverMergesUptoRow.holds Try.pinned (OpenSpec.upto moverMergesSpec)

/-- 'peristylelaw27.MoverLives', WHERE WHAT IT READS IS OF BULK AT MOST 1048576: true; the input reads as it did. -/
def moverLivesUptoRow : OpenClaim := { program := "ytflabcmjbhmphaa", sum := "ac47e541b5c4ef7a3f4c27c2c6ac39a16dd25e48a57563964a7ebbcdcdbce923", func := "peristyle/peristylelaw27.MoverLives", spec := "moverLives", unfollowed := true, recurses := true, apart := false, narrowed := true }
def MoverLivesUptoSaid : Prop := moverLivesUptoRow.holds Try.pinned (OpenSpec.upto moverLivesSpec)

/-- 'peristylelaw27.MoverProjects', WHERE WHAT IT READS IS OF BULK AT MOST 1048576: true; the input reads as it did. -/
def moverProjectsUptoRow : OpenClaim := { program := "ytflabcmjbhmphaa", sum := "ac47e541b5c4ef7a3f4c27c2c6ac39a16dd25e48a57563964a7ebbcdcdbce923", func := "peristyle/peristylelaw27.MoverProjects", spec := "moverProjects", unfollowed := true, recurses := true, apart := false, narrowed := true }
def MoverProjectsUptoSaid : Prop := moverProjectsUptoRow.holds Try.pinned (OpenSpec.upto moverProjectsSpec)

/-- 'peristylelaw27.MoverKeeps', WHERE WHAT IT READS IS OF BULK AT MOST 1048576: true; the input reads as it did. -/
def moverKeepsUptoRow : OpenClaim := { program := "ytflabcmjbhmphaa", sum := "ac47e541b5c4ef7a3f4c27c2c6ac39a16dd25e48a57563964a7ebbcdcdbce923", func := "peristyle/peristylelaw27.MoverKeeps", spec := "moverKeeps", unfollowed := true, recurses := true, apart := false, narrowed := true }
def MoverKeepsUptoSaid : Prop := moverKeepsUptoRow.holds Try.pinned (OpenSpec.upto moverKeepsSpec)

end Rows
end Go.Proofs.Ytflabcmjbhmphaa
