/-
  DERIVED. GIVEN WITH THE SEED: THE CARDS: each row of YthcjjcfiademnaaDoorRows.lean that lists a variable, with what it lists TIED to the program's text (the seventh form; the later family's looks); each row that meets fmt, with fmt's text TOLD by the authors' own Lean function (tested against real Go, not proved from fmt's source: count such statements apart). THE CARD IS WHAT COUNTS. Prove the row's statement (the work); the ties are given (YthcjjcfiademnaaDoorTie.lean); close each card by the builder's one call (the guide's Derived/Test/ToyasCard.lean, 'card_holds'). Laid BY PROGRAM, IN A SANDBOX (cutbox-door.mjs). By AI agents, Wed Nov 11 2026. No macro, syntax, notation, axiom, sorry.
-/
import Derived.Test.YthcjjcfiademnaaDoorRows
import GoSem.ClaimSeven
namespace Go.Proofs.YthcjjcfiademnaaDoor
namespace Rows

/-- THE TIED CARD OF 'peristylelaw24.SlotsCrash'. -/
def slotsCrashCard : Claim7 := { stood := { row := slotsCrashRow, standIns := [], harness := (true, "4ee0c44852ad0112ad47c7c0af27f75028e1750bc59cb4d0b516e4c64bcd7d03"), looks := false }, kinds := [], alts := [], laidByText := true, laidKinds := [.data, .pinned], laidTests := true, laidLooks := .later }
def SlotsCrashCardSaid : Prop := Claim7.holds Tryd.pinned (.plain (OpenSpec.ofChange slotsCrashSpec)) slotsCrashCard

/-- THE TIED CARD OF 'peristylelaw24.SlotsBlocks'. -/
def slotsBlocksCard : Claim7 := { stood := { row := slotsBlocksRow, standIns := [], harness := (true, "4ee0c44852ad0112ad47c7c0af27f75028e1750bc59cb4d0b516e4c64bcd7d03"), looks := false }, kinds := [], alts := [], laidByText := true, laidKinds := [.data, .pinned], laidTests := true, laidLooks := .later }
def SlotsBlocksCardSaid : Prop := Claim7.holds Tryd.pinned (.plain (OpenSpec.ofChange slotsBlocksSpec)) slotsBlocksCard

/-- THE SECOND FORM's CARD OF 'peristylelaw24.SlotsCrash'. -/
def slotsCrashUptoCard : Claim7 := { stood := { row := slotsCrashUptoRow, standIns := [], harness := (true, "4ee0c44852ad0112ad47c7c0af27f75028e1750bc59cb4d0b516e4c64bcd7d03"), looks := false }, kinds := [], alts := [], laidByText := true, laidKinds := [.data, .pinned], laidTests := true, laidLooks := .later }
def SlotsCrashUptoCardSaid : Prop := Claim7.holds Tryd.pinned (.plain (OpenSpec.upto slotsCrashSpec)) slotsCrashUptoCard

/-- THE SECOND FORM's CARD OF 'peristylelaw24.SlotsBlocks'. -/
def slotsBlocksUptoCard : Claim7 := { stood := { row := slotsBlocksUptoRow, standIns := [], harness := (true, "4ee0c44852ad0112ad47c7c0af27f75028e1750bc59cb4d0b516e4c64bcd7d03"), looks := false }, kinds := [], alts := [], laidByText := true, laidKinds := [.data, .pinned], laidTests := true, laidLooks := .later }
def SlotsBlocksUptoCardSaid : Prop := Claim7.holds Tryd.pinned (.plain (OpenSpec.upto slotsBlocksSpec)) slotsBlocksUptoCard
end Rows
end Go.Proofs.YthcjjcfiademnaaDoor
