/-
  3 texts, one behind the other: WSlotsBlocks, Cards, Tie.
-/
import Derived.Test.YthcjjcfiademnaaDoorJoin4
import Derived.Test.YthcjjcfiademnaaDoorRows
import GoSem.ClaimSeven
import Derived.LaidByTextLater
import Derived.SevenTiedAt
import Derived.LaidSub
import Derived.LaidOnce
/-
  The walk of law SlotsBlocks: it answers true, whatever the extent, the turn and the bytes.
-/
namespace Go.Proofs.YthcjjcfiademnaaDoor
open Go.RowKit Leb

set_option maxRecDepth 4000 in
set_option maxHeartbeats 2000000 in
theorem walkSlotsBlocks (a0 c0 : Int) (w0 : (Lit.int .i64 a0).wf = true) (w0' : (Lit.int .i64 c0).wf = true) (a1 : Int) (w1 : (Lit.int .i64 a1).wf = true) (a2 : ByteArray) (_w2 : a2.size ≤ maxLen) (w : World) :
    Calls Tryd.prog 4 #[.agg #[.int .i64 a0, .int .i64 c0], .int .i64 a1, .string a2] w fun e w' => e = .returned (.bool true) ∧ Below w.heap.size w w' := by
  obtain ⟨f, rfl⟩ := Wd.word_of a0 w0
  obtain ⟨c, rfl⟩ := Wd.word_of c0 w0'
  obtain ⟨turn, rfl⟩ := Wd.word_of a1 w1
  have ca := awake24
  have hb1 := below1 w (.cells #[.int .i64 f.toInt, .int .i64 c.toInt] 32)
  have B0 := box_new w #[.int .i64 f.toInt, .int .i64 c.toInt] 32
  by_cases hl : a2.size ≤ 512
  · have hlI : ¬ 512 < (a2.size : Int) := by omega
    have htl : a2.data.toList.length ≤ 1000000 := by simp; omega
    have cs := fun w => qslot_any f c turn a2.data.toList htl w
    have cr := fun w => refSlot_any f c turn a2.data.toList htl w
    rw [strB_of] at cs cr
    obtain ⟨R, hR⟩ : ∃ R, R = strB (slotB ⟨turn, f, c, BitVec.ofNat 64 a2.data.toList.length, BitVec.ofNat 64 (Crc.sum a2.data.toList).toNat⟩) := ⟨_, rfl⟩
    rw [← hR] at cs cr
    obtain ⟨x, hx⟩ : ∃ x, x = f.toInt := ⟨_, rfl⟩
    obtain ⟨y, hy⟩ : ∃ y, y = c.toInt := ⟨_, rfl⟩
    obtain ⟨z, hz⟩ : ∃ z, z = turn.toInt := ⟨_, rfl⟩
    rw [← hx, ← hy, ← hz] at cs cr
    rw [← hx, ← hy] at hb1 B0
    rw [← hx, ← hy, ← hz]
    have k0 : ∀ k : Above (w.alloc (.cells #[.int .i64 x, .int .i64 y] 32)), k.it.cell? ⟨w.heap.size, 0, none⟩ = some (.int .i64 x) := fun k => (B0.over k.is).cell 0 _ rfl
    have k1 : ∀ k : Above (w.alloc (.cells #[.int .i64 x, .int .i64 y] 32)), k.it.cell? ⟨w.heap.size, 1, none⟩ = some (.int .i64 y) := fun k => (B0.over k.is).cell 1 _ rfl
    clear hR hx hy hz B0 htl w0 w0' w1
    go_enter Tryd.func4, Tryd.ntmps4
    go_wp2_with fail
    refine wp_region_above (by kernel_rfl) (by kernel_rfl) ?_
    intro hne
    repeat (go_big_quiet_step (first
      | (go_at_call 11; exact above_of (cs _))
      | (go_at_call 12; exact above_of (cr _))
      | (go_at_call 6; exact above_of (ca _))))
    refine wpQuiet_nil ?_
    rintro _ ⟨kq, rfl⟩
    have hbq := kq.is
    replace hbq := hb1.trans (hbq.mono hb1.size)
    clear k0 k1
    go_wp2
    go_ret
    exact ⟨by simp, hbq⟩
  · have hlI : 512 < (a2.size : Int) := by omega
    obtain ⟨x, hx⟩ : ∃ x, x = f.toInt := ⟨_, rfl⟩
    obtain ⟨y, hy⟩ : ∃ y, y = c.toInt := ⟨_, rfl⟩
    obtain ⟨z, hz⟩ : ∃ z, z = turn.toInt := ⟨_, rfl⟩
    rw [← hx, ← hy] at hb1
    rw [← hx, ← hy, ← hz]
    clear hx hy hz B0 w0 w0' w1
    go_enter Tryd.func4, Tryd.ntmps4
    go_wp2_with fail
    refine (ca _).mono ?_
    rintro e w2 ⟨rfl, b2⟩
    go_wp2_with fail
    go_ret
    exact ⟨rfl, hb1.trans (b2.mono hb1.size)⟩
end Go.Proofs.YthcjjcfiademnaaDoor
/-
  DERIVED. GIVEN WITH THE SEED: THE CARDS: each row of YthcjjcfiademnaaDoorRows.lean that lists a variable, with what it lists TIED to the program's text (the seventh form; the later family's looks); each row that meets fmt, with fmt's text TOLD by the authors' own Lean function (tested against real Go, not proved from fmt's source: count such statements apart). THE CARD IS WHAT COUNTS. Prove the row's statement (the work); the ties are given (YthcjjcfiademnaaDoorTie.lean); close each card by the builder's one call (the guide's Derived/Test/ToyasCard.lean, 'card_holds'). Laid BY PROGRAM, IN A SANDBOX (cutbox-door.mjs). By AI agents, Wed Nov 11 2026. No macro, syntax, notation, axiom, sorry.
-/
namespace Go.Proofs.YthcjjcfiademnaaDoor
namespace Rows

/-- THE TIED CARD OF 'peristylelaw24.SlotsCrash'. -/
def slotsCrashCard : Claim7 := { stood := { row := slotsCrashRow, standIns := [], harness := (true, "4ee0c44852ad0112ad47c7c0af27f75028e1750bc59cb4d0b516e4c64bcd7d03"), looks := false }, kinds := [], alts := [], laidByText := true, laidKinds := [.data, .pinned], laidTests := true, laidLooks := .later }
def SlotsCrashCardSaid : Prop := Claim7.holds Tryd.pinned (.plain (OpenSpec.ofChange slotsCrashSpec)) slotsCrashCard

/-- THE TIED CARD OF 'peristylelaw24.SlotsBlocks'. -/
def slotsBlocksCard : Claim7 := { stood := { row := slotsBlocksRow, standIns := [], harness := (true, "4ee0c44852ad0112ad47c7c0af27f75028e1750bc59cb4d0b516e4c64bcd7d03"), looks := false }, kinds := [], alts := [], laidByText := true, laidKinds := [.data, .pinned], laidTests := true, laidLooks := .later }
def SlotsBlocksCardSaid : Prop := Claim7.holds Tryd.pinned (.plain (OpenSpec.ofChange slotsBlocksSpec)) slotsBlocksCard

/-- THE SECOND FORM's CARD OF 'peristylelaw24.SlotsCrash'. -/
def slotsCrashUptoCard : Claim7 := { stood := { row := slotsCrashUptoRow, standIns := [], harness := (true, "4ee0c44852ad0112ad47c7c0af27f75028e1750bc59cb4d0b516e4c64bcd7d03"), looks := false }, kinds := [], alts := [], laidByText := true, laidKinds := [.data, .pinned], laidTests := true, laidLooks := .later }
def SlotsCrashUptoCardSaid : Prop := Claim7.holds Tryd.pinned (.plain (OpenSpec.upto slotsCrashSpec)) slotsCrashUptoCard

/-- THE SECOND FORM's CARD OF 'peristylelaw24.SlotsBlocks'. -/
def slotsBlocksUptoCard : Claim7 := { stood := { row := slotsBlocksUptoRow, standIns := [], harness := (true, "4ee0c44852ad0112ad47c7c0af27f75028e1750bc59cb4d0b516e4c64bcd7d03"), looks := false }, kinds := [], alts := [], laidByText := true, laidKinds := [.data, .pinned], laidTests := true, laidLooks := .later }
def SlotsBlocksUptoCardSaid : Prop := Claim7.holds Tryd.pinned (.plain (OpenSpec.upto slotsBlocksSpec)) slotsBlocksUptoCard
end Rows
end Go.Proofs.YthcjjcfiademnaaDoor
/-
  DERIVED. GIVEN WITH THE SEED: THE PROGRAM's TIES (one call each: nine closed facts by the kernel) AND EACH ROW's TIE, after the 31st guide's Derived/Test/Toyas{Tie, Card}.lean. No idea stands in it: it is a product of the set-up. Laid BY PROGRAM, IN A SANDBOX (cutbox-door.mjs). By AI agents, Wed Nov 11 2026. No macro, syntax, notation, axiom, sorry.
-/
namespace Go.Proofs.YthcjjcfiademnaaDoor
open Go
set_option maxRecDepth 100000
theorem seatTie1 : Tryd.prog.laidByTextLater [("unicode/utf8.acceptRanges", Rows.laid_unicode_utf8_acceptRanges)] [.data] true :=
  Program.laidByTextLater_by_one 19 8 33 (by kernel_rfl) (by kernel_rfl) (by kernel_rfl) (by kernel_rfl) (by kernel_rfl) (by kernel_rfl) (fun _ _ => by kernel_rfl)
theorem pin_laid_unicode_utf8_first : Tryd.pinned.checked.prog.pinnedFits "unicode/utf8.first" = true := by kernel_rfl
theorem noOwnUnsafe : Tryd.pinned.checked.prog.headLifts.contains "ownunsafe" = false := by kernel_rfl
theorem fits1 : Tryd.pinned.checked.prog.listedFits [("unicode/utf8.acceptRanges", Rows.laid_unicode_utf8_acceptRanges), ("unicode/utf8.first", Rows.laid_unicode_utf8_first)] = true := by
  unfold Program.listedFits
  rw [noOwnUnsafe]
  kernel_rfl
theorem tie : Tryd.prog.laidByTextLater [("unicode/utf8.acceptRanges", Rows.laid_unicode_utf8_acceptRanges)] [.data] true :=
  Program.laidByTextLater.sub seatTie1 ["unicode/utf8.acceptRanges"] (by kernel_rfl) (by kernel_rfl)
theorem slotsCrash_row_tie : Rows.slotsCrashRow.laidByTextAt .later Tryd.pinned [.data, .pinned] true :=
  OpenClaim.laidByTextAt_pinned rfl rfl tie rfl rfl rfl rfl (fun y hy _e => by
    simp only [Rows.slotsCrashRow, List.zip_cons_cons, List.zip_nil_right, List.mem_cons, List.mem_nil_iff, or_false] at hy
    rcases hy with rfl | rfl
    · cases _e
    · exact ⟨pin_laid_unicode_utf8_first, by kernel_rfl⟩) fits1
theorem slotsBlocks_row_tie : Rows.slotsBlocksRow.laidByTextAt .later Tryd.pinned [.data, .pinned] true :=
  OpenClaim.laidByTextAt_pinned rfl rfl tie rfl rfl rfl rfl (fun y hy _e => by
    simp only [Rows.slotsBlocksRow, List.zip_cons_cons, List.zip_nil_right, List.mem_cons, List.mem_nil_iff, or_false] at hy
    rcases hy with rfl | rfl
    · cases _e
    · exact ⟨pin_laid_unicode_utf8_first, by kernel_rfl⟩) fits1
theorem slotsCrashUpto_row_tie : Rows.slotsCrashUptoRow.laidByTextAt .later Tryd.pinned [.data, .pinned] true :=
  OpenClaim.laidByTextAt_pinned rfl rfl tie rfl rfl rfl rfl (fun y hy _e => by
    simp only [Rows.slotsCrashUptoRow, List.zip_cons_cons, List.zip_nil_right, List.mem_cons, List.mem_nil_iff, or_false] at hy
    rcases hy with rfl | rfl
    · cases _e
    · exact ⟨pin_laid_unicode_utf8_first, by kernel_rfl⟩) fits1
theorem slotsBlocksUpto_row_tie : Rows.slotsBlocksUptoRow.laidByTextAt .later Tryd.pinned [.data, .pinned] true :=
  OpenClaim.laidByTextAt_pinned rfl rfl tie rfl rfl rfl rfl (fun y hy _e => by
    simp only [Rows.slotsBlocksUptoRow, List.zip_cons_cons, List.zip_nil_right, List.mem_cons, List.mem_nil_iff, or_false] at hy
    rcases hy with rfl | rfl
    · cases _e
    · exact ⟨pin_laid_unicode_utf8_first, by kernel_rfl⟩) fits1
end Go.Proofs.YthcjjcfiademnaaDoor
