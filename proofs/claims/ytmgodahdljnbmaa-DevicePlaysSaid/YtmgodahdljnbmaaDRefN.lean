/-
  The contract of peristyleref04's New.
-/
import Derived.Test.YtmgodahdljnbmaaDRefA
namespace Go.Proofs.Ytmgodahdljnbmaa
open Go.RowKit

set_option maxHeartbeats 2000000 in
theorem rnew_any (n : Nat) (h1 : 1 ≤ n) (h2 : n ≤ 4096) (w : World) :
    Calls Try.prog 8 #[.int .i64 n] w fun e w' => (∃ va vc, e = .returned (.tuple #[.agg #[.slice va n vc, .slice none 0 0, .int .i64 (-1), .bool false], .int .i64 0]) ∧ SRows w' (.slice va n vc) 9 1 ((List.replicate n (List.replicate 128 (0 : UInt8))).map s1) ∧ ∀ x, (Value.slice va n vc).ownBlock = some x → w.heap.size ≤ x) ∧ Below w.heap.size w w' := by
  have g1 : ¬ (n : Int) < 1 := by omega
  have g2 : ¬ (4096 : Int) < (n : Int) := by omega
  obtain ⟨i0, hi0, hz0, hz1, hz2⟩ := info_parts info_str
  have HI : Hid (Try.prog.info? 9 = some i0 ∧ i0.zero = some (.string { data := #[] }) ∧ i0.size = 1 ∧ i0.bytes = 16) := ⟨hi0, hz0, hz1, hz2⟩
  obtain ⟨Z, hZ⟩ : ∃ Z, Z = List.replicate 128 (0 : UInt8) := ⟨_, rfl⟩
  rw [← hZ]
  obtain ⟨str, hstr⟩ : ∃ str, str = strB Z := ⟨_, rfl⟩
  have HS : Hid (str = strB Z) := hstr
  have HZ : Hid (Z = List.replicate 128 (0 : UInt8)) := hZ
  clear hZ hstr
  clear hi0 hz0 hz1 hz2
  go_enter Try.func8, Try.ntmps8
  go_wp2_with (refine make_u8 rfl _ _ rfl (n := 128) rfl rfl rfl (by omega) ?_; intro w1 hrow1 hb1; have ht := hrow1.text 128; rw [List.length_replicate, ← HZ.out, World.size_alloc, ← HS.out] at ht)
  have B0 := (box_new w (rd none 0 0 none 0 0 0 false) 30).over hb1
  have hBB := (below1 w _).trans (hb1.mono (by simp))
  have hsz : w.heap.size + 1 ≤ w1.heap.size := by have := hb1.size; simpa using this
  have H0 : Hid (Box w1 w.heap.size 30 (rd none 0 0 none 0 0 0 false) ∧ Below w.heap.size w w1 ∧ w.heap.size + 1 ≤ w1.heap.size) := ⟨B0, hBB, hsz⟩
  clear hrow1 hb1 ht B0 hBB hsz
  go_loopg [4, 6] n (fun g s4 s6 wx => ∃ (k : Nat) (va : Option Addr) (vc : Nat), k + g = n ∧ s6 = .int .i64 k ∧ s4 = .slice va k vc ∧ SRows wx (.slice va k vc) 9 1 ((List.replicate k Z).map s1) ∧ (∀ x, (Value.slice va k vc).ownBlock = some x → w.heap.size + 1 ≤ x) ∧ Box wx w.heap.size 30 (rd none 0 0 none 0 0 0 false) ∧ Below w.heap.size w wx ∧ w.heap.size + 1 ≤ wx.heap.size)
  case atStart => exact ⟨0, none, 0, by omega, rfl, rfl, srows_nil _ _ _, noOwn _, H0.out⟩
  case round =>
    obtain ⟨k, va, vc, hkg, rfl, rfl, hr, hown, hbox, hbel, hsz⟩ := hrel
    clear H0
    by_cases hk : k < n
    · have hkI : (k : Int) < (n : Int) := by omega
      have hr2 : IntKind.i64.wrap ((k : Int) + 1) = (k : Int) + 1 := by rw [IntKind.wrap_i64]; omega
      have hl6 : k + 1 ≤ 1000000 := by clear hr2; omega
      have HK : Hid (((List.replicate k Z).map s1).length + [[Value.string str]].length = k + 1 ∧ ((List.replicate k Z).map s1) ++ [[Value.string str]] = ((List.replicate (k + 1) Z).map s1)) := ⟨by simp, by rw [HS.out, List.replicate_succ']; simp [s1]⟩
      have HR : Hid (SRows wr (.slice va k vc) 9 1 ((List.replicate k Z).map s1) ∧ (∀ x, (Value.slice va k vc).ownBlock = some x → w.heap.size + 1 ≤ x) ∧ Box wr w.heap.size 30 (rd none 0 0 none 0 0 0 false) ∧ Below w.heap.size w wr ∧ w.heap.size + 1 ≤ wr.heap.size) := ⟨hr, hown, hbox, hbel, hsz⟩
      clear hr hown hbox hbel
      go_wp2_with (at_builtin; refine append_rows rfl (.tmp 21) (.tmp 23) 27 9 i0 _ 1 16 rfl Try.underlying27 HI.out.1 HI.out.2.1 HI.out.2.2.1 HI.out.2.2.2 rfl (by decide) (by decide) rfl rfl (HR.out.1.of_block (fun k hk => heap_alloc_old _ _ (HR.out.1.lt hk))) (srows_new wr [.string str] 9 (sz := 1) rfl) HR.out.2.1 ?hB ?h1 (k + 1) HK.out.1 ((List.replicate (k + 1) Z).map s1) HK.out.2 hl6 ?_; (case hB => simp; omega); (case h1 => intro r hr c hc; simp at hr; subst hr; simp at hc; subst hc; rfl); intro va4 vc4 w4 h1 h2 h4; have HY : Hid (SRows w4 (.slice va4 (k + 1) vc4) 9 1 ((List.replicate (k + 1) Z).map s1) ∧ (∀ k', (Value.slice va4 (k + 1) vc4).ownBlock = some k' → w.heap.size + 1 ≤ k') ∧ Below (w.heap.size + 1) (wr.alloc (.cells #[.string str] 9)) w4) := ⟨h1, h2, h4⟩; clear h1 h2 h4)
      obtain ⟨h1, h2, h4⟩ := HY.out
      obtain ⟨_, _, hbox, hbel, hsz⟩ := HR.out
      have a1 := hbel.alloc hbel.size (.cells #[.string str] 9)
      go_roundg (n - (k + 1))
      case measure => clear hr2; omega
      case rel => exact ⟨k + 1, va4, vc4, by clear hr2; omega, by go_num, rfl, h1, h2, (hbox.alloc _).below h4 (Nat.lt_succ_self _), a1.trans (h4.mono (Nat.le_succ _)), Nat.le_trans hsz (Nat.le_trans (by simp) h4.size)⟩
    · have hkI : ¬ (k : Int) < (n : Int) := by omega
      obtain rfl : k = n := by omega
      have F1 := hbox.setRow (rd va k vc none 0 0 (-1) false)
      have hone := rd_one va k vc none 0 0 (-1) false
      have HR : Hid (SRows wr (.slice va k vc) 9 1 ((List.replicate k Z).map s1) ∧ (∀ x, (Value.slice va k vc).ownBlock = some x → w.heap.size + 1 ≤ x) ∧ Below w.heap.size w wr) := ⟨hr, hown, hbel⟩
      clear hr hown hbel
      go_wp2_with (refine wpList_store_row rfl 30 _ _ rfl w.heap.size (rd va k vc none 0 0 (-1) false) rfl rfl 30 _ hbox size_rd rfl hone ?_)
      obtain ⟨hr, hown, hbel⟩ := HR.out
      refine bodyPost_ret (res_box_slot Try.results8 _ rfl F1 Try.underlying30 rfl size_rd _ rfl) rfl ⟨⟨_, _, rfl, ?_, fun x hx => by have := hown x hx; omega⟩, below_setRow hbel (Nat.le_refl _) _⟩
      rw [List.map_replicate] at hr
      refine hr.of_block fun x hx => ?_
      have h9 := hown x hx
      exact setRow_other _ _ _ _ (by omega)
end Go.Proofs.Ytmgodahdljnbmaa
