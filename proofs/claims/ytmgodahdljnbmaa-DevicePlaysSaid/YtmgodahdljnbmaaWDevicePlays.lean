/-
  The walk of law 4's DevicePlays: whatever is written, synced, spoilt and read, and whenever it crashes, a device has the document's blocks.
-/
import Derived.Test.YtmgodahdljnbmaaDActs
import Derived.Test.YtmgodahdljnbmaaDRefN
namespace Go.Proofs.Ytmgodahdljnbmaa
open Go.RowKit

theorem cells_type {w : World} {b : Nat} {c c' : Array Value} {t t' : TypeId} {f f' : Nat × Nat} (h : w.heap[b]? = some (.cells c t f)) (h' : w.heap[b]? = some (.cells c' t' f')) : t = t' := by
  rw [h] at h'
  cases h'
  rfl
theorem dev_ne_box {w : World} {H : Hnd} {s : St} {b : Nat} {c : Array Value} (D : DevIs w H s) (B : Box w b 30 c) : ¬ H.foot b := by
  intro hf
  rcases hf with rfl | rfl | rfl | hf
  · have := cells_type B D.dev
    simp at this
  · obtain ⟨cur, h1, _⟩ := D.sure
    have := cells_type B h1
    simp at this
  · obtain ⟨cur, h1, _⟩ := D.seen
    have := cells_type B h1
    simp at this
  · rcases D.wait with ⟨hv, _⟩ | ⟨g, cap, hv, _, _, cur, h1, _⟩
    · rw [hv] at hf; simp [Value.ownBlock] at hf
    · rw [hv] at hf
      simp [Value.ownBlock] at hf
      subst hf
      have := cells_type B h1
      simp at this
theorem srows_ne_box {w : World} {v : Value} {t t' : TypeId} {sz : Nat} {R : List (List Value)} {b : Nat} {c : Array Value} (h : SRows w v t sz R) (B : Box w b t' c) (ht : t ≠ t') : ∀ k, v.ownBlock = some k → k ≠ b := by
  intro k hk e
  subst e
  rcases h with ⟨rfl, _⟩ | ⟨g, cap, rfl, _, _, cur, h1, _⟩
  · simp [Value.ownBlock] at hk
  · simp [Value.ownBlock] at hk
    subst hk
    exact ht (cells_type h1 B)
/-- What turns one block alone, in which the document's device lies as a variable. -/
theorem Both.box {w w' : World} {H : Hnd} {R : RH} {s : St} {b : Nat} {c : Array Value} (B : Both w H R s) (X : Box w b 30 c) (k : Kept (fun x => x = b) w w') : Both w' H R s :=
  ⟨B.dev.kept k (fun x hx e => dev_ne_box B.dev X (by rw [← e]; exact hx)),
    ⟨B.ref.sure.kept k (fun g hg e => srows_ne_box B.ref.sure X (by decide) g hg e), B.ref.wait.kept k (fun g hg e => srows_ne_box B.ref.wait X (by decide) g hg e), B.ref.g1, B.ref.g2⟩⟩

theorem kept_row (w : World) (b : Nat) (cs : Array Value) : Kept (fun k => k = b) w (w.setRow b cs) :=
  ⟨rfl, rfl, rfl, by simp, fun x _ hF => setRow_other w b x cs hF⟩
theorem noOwn' (G : Nat → Prop) : ∀ k, (Value.slice none 0 0).ownBlock = some k → ¬ G k := by intro k hk; simp [Value.ownBlock] at hk

set_option maxRecDepth 4000 in
set_option maxHeartbeats 8000000 in
theorem walkDevicePlays (a0 : Int) (w0 : (Lit.int .i64 a0).wf = true) (a1 : Option Addr) (len1 cap1 : Nat) (w : World) (h1 : ActsAre w a1 len1) :
    Calls Try.prog 3 #[.int .i64 a0, .slice a1 len1 cap1] w fun e w' => e = .returned (.bool true) ∧ Below w.heap.size w w' := by
  obtain ⟨x0, rfl⟩ := Wd.word_of a0 w0
  obtain ⟨u, ru, hu⟩ := and_mask x0 15 (by omega)
  replace ru : bits .and .i64 x0.toInt 15 = (u : Int) := ru
  obtain ⟨n, hn⟩ : ∃ n, n = u + 1 := ⟨_, rfl⟩
  have hn1 : 1 ≤ n := by omega
  have hn16 : n ≤ 16 := by omega
  have hrn : IntKind.i64.wrap (1 + (u : Int)) = (n : Int) := by rw [IntKind.wrap_i64]; omega
  have hrn2 : (1 : Int) + (u : Int) = (n : Int) := by omega
  have H1 : Hid (ActsAre w a1 len1) := h1
  obtain ⟨M, hM1, hM2, hM3⟩ : ∃ M, M ≤ len1 ∧ M ≤ 50 ∧ (len1 ≤ M ∨ 50 ≤ M) := ⟨min len1 50, by omega, by omega, by omega⟩
  clear w0 hn h1
  have cn := fun W => new_any n hn1 (by omega) W
  have cr := fun W => rnew_any n hn1 (by omega) W
  go_enter Try.func3, Try.ntmps3
  go_wp2_with fail
  refine (cn _).mono ?_
  rintro e w1 ⟨H0, rfl, D1, b1, c1⟩
  obtain ⟨p, hp⟩ : ∃ p, p = H0.p := ⟨_, rfl⟩
  rw [← hp]
  have HP : Hid (p = H0.p) := hp
  clear hp
  go_wp2_with fail
  refine (cr _).mono ?_
  rintro e w2 ⟨⟨va, vc, rfl, hs2, hf2⟩, b2⟩
  have B2 : Both w2 H0 ⟨va, vc, none, 0⟩ (St.new n) := by
    refine ⟨D1.below b2, ⟨?_, srows_nil _ _ _, ?_, noOwn' _⟩⟩
    · simpa [St.new] using hs2
    · intro k hk hf
      have h1 := hf2 k (by simpa [St.new] using hk)
      have h2 := D1.lt hf
      omega
  have hsn : (St.new n).sure.length = n := by simp [St.new]
  obtain ⟨b8, hb8⟩ : ∃ b8, b8 = w2.heap.size := ⟨_, rfl⟩
  obtain ⟨W3, hW3⟩ : ∃ W3, W3 = w2.alloc (.cells (rd va n vc none 0 0 (-1) false) 30) := ⟨_, rfl⟩
  have X3 : Box W3 b8 30 (rd va n vc none 0 0 (-1) false) := by rw [hW3, hb8]; exact box_new _ _ _
  have hb3 : Below w2.heap.size w2 W3 := by rw [hW3]; exact below1 _ _
  have B3 := B2.below hb3
  have hbw : Below w.heap.size w W3 := (b1.trans (b2.mono b1.size)).trans (hb3.mono (Nat.le_trans b1.size b2.size))
  have hb8w : w.heap.size ≤ b8 := by rw [hb8]; exact Nat.le_trans b1.size b2.size
  have HI : Hid (Both W3 H0 ⟨va, vc, none, 0⟩ (St.new n) ∧ H0.p = p ∧ Box W3 b8 30 (rd va n vc none 0 0 (-1) false) ∧ Below w.heap.size w W3 ∧ (∀ k, H0.foot k → w.heap.size ≤ k) ∧ (St.new n).sure.length = n) := ⟨B3, HP.out.symm, X3, hbw, c1, hsn⟩
  have HW3 : Hid (W3 = w2.alloc (.cells (rd va n vc none 0 0 (-1) false) 30) ∧ b8 = w2.heap.size) := ⟨hW3, hb8⟩
  clear cn cr D1 b1 c1 hs2 hf2 b2 B2 B3 X3 hb3 hbw hW3 hb8 HP hsn
  go_wp2_with fail
  show Code.wp _ _ _ _ (w2.alloc (.cells (rd va n vc none 0 0 (-1) false) 30))
  rw [← HW3.out.1, ← HW3.out.2]
  clear HW3 hrn hrn2
  go_loopg [10] M (fun g s10 wx => ∃ (i : Nat) (H : Hnd) (R : RH) (s : St), i + g = M ∧ s10 = .int .i64 i ∧ Both wx H R s ∧ H.p = p ∧ Box wx b8 30 (rd R.sa s.sure.length R.sc R.wa s.wait.length R.wc s.fz s.off) ∧ Below w.heap.size w wx ∧ (∀ k, H.foot k → w.heap.size ≤ k) ∧ s.wait.length ≤ i)
  case atStart => exact ⟨0, H0, ⟨va, vc, none, 0⟩, St.new n, by omega, rfl, HI.out.1, HI.out.2.1, by simpa [St.new, St.fz] using HI.out.2.2.1, HI.out.2.2.2.1, HI.out.2.2.2.2.1, by simp [St.new]⟩
  case round =>
    obtain ⟨i, H, R, s, hig, rfl, B, hHp, X, hbel, habv, hwl⟩ := hrel
    clear HI
    by_cases hi : i < M
    · have hiI : (i : Int) < (len1 : Int) := by omega
      have hi5 : (i : Int) < 50 := by omega
      obtain ⟨b, off, rfl, hbw, kind, at_, c, text, ka, kn, kc, l, hact⟩ := H1.out.2 i (by omega)
      have A := hact.below hbw hbel
      have g0 := A.c0
      have g1 := A.c1
      have g2 := A.c2
      have g3 := A.c3
      have g4 := A.c4
      have q0 := X.cell 0 _ rfl
      have q1 := X.cell 1 _ rfl
      have q2 := X.cell 2 _ rfl
      have q3 := X.cell 3 _ rfl
      have hr2 : IntKind.i64.wrap ((i : Int) + 1) = (i : Int) + 1 := by rw [IntKind.wrap_i64]; omega
      have HX : Hid (Both wr H R s ∧ H.p = p ∧ Box wr b8 30 (rd R.sa s.sure.length R.sc R.wa s.wait.length R.wc s.fz s.off) ∧ Below w.heap.size w wr ∧ (∀ k, H.foot k → w.heap.size ≤ k) ∧ s.wait.length ≤ i) := ⟨B, hHp, X, hbel, habv, hwl⟩
      have HA : Hid (ReadsI wr (.slice ka kn kc) l ∧ l.length ≤ maxLen ∧ (-9223372036854775808 ≤ at_ ∧ at_ < 9223372036854775808)) := ⟨A.keep, A.few, A.at64⟩
      have HACT : Hid (ActAt w b (off + i * 5) kind at_ c text ka kn kc l) := hact
      clear B hHp X hbel habv hwl A hact
      by_cases h200 : 200 < text.size
      · have h200I : (200 : Int) < (text.size : Int) := by omega
        go_wp2_with fail
        refine (awake_any _).mono ?_
        rintro e w4 ⟨rfl, b4⟩
        go_wp2
        go_ret
        exact ⟨rfl, HX.out.2.2.2.1.trans (b4.mono HX.out.2.2.2.1.size)⟩
      · have h200I : ¬ (200 : Int) < (text.size : Int) := by omega
        go_wp2_with fail
        refine wp_region_held_then (fun w' : World => w'.cell? ⟨b8, 0, none⟩ = some (.slice R.sa s.sure.length R.sc) ∧ w'.cell? ⟨b8, 1, none⟩ = some (.slice R.wa s.wait.length R.wc) ∧ w'.cell? ⟨b8, 2, none⟩ = some (.int .i64 s.fz) ∧ w'.cell? ⟨b8, 3, none⟩ = some (.bool s.off) ∧ w'.cell? ⟨b, off + i * 5, none⟩ = some (.int .i64 kind) ∧ w'.cell? ⟨b, off + i * 5 + 1, none⟩ = some (.int .i64 at_) ∧ w'.cell? ⟨b, off + i * 5 + 2, none⟩ = some (.int .u8 (c.toNat : Int)) ∧ w'.cell? ⟨b, off + i * 5 + 3, none⟩ = some (.string text) ∧ w'.cell? ⟨b, off + i * 5 + 4, none⟩ = some (.slice ka kn kc)) _ (by kernel_rfl) rfl (by kernel_rfl) ?_
        have hHeld : (fun w' : World => w'.cell? ⟨b8, 0, none⟩ = some (.slice R.sa s.sure.length R.sc) ∧ w'.cell? ⟨b8, 1, none⟩ = some (.slice R.wa s.wait.length R.wc) ∧ w'.cell? ⟨b8, 2, none⟩ = some (.int .i64 s.fz) ∧ w'.cell? ⟨b8, 3, none⟩ = some (.bool s.off) ∧ w'.cell? ⟨b, off + i * 5, none⟩ = some (.int .i64 kind) ∧ w'.cell? ⟨b, off + i * 5 + 1, none⟩ = some (.int .i64 at_) ∧ w'.cell? ⟨b, off + i * 5 + 2, none⟩ = some (.int .u8 (c.toNat : Int)) ∧ w'.cell? ⟨b, off + i * 5 + 3, none⟩ = some (.string text) ∧ w'.cell? ⟨b, off + i * 5 + 4, none⟩ = some (.slice ka kn kc)) wr.drew := ⟨q0, q1, q2, q3, g0, g1, g2, g3, g4⟩
        have hdr : Below wr.heap.size wr wr.drew := (Below.refl _ wr).drew
        have hb0 : Below w.heap.size w wr.drew := HX.out.2.2.2.1.trans (hdr.mono HX.out.2.2.2.1.size)
        have mkS : ∀ W', Below w.heap.size w W' → Box W' b8 30 (rd R.sa s.sure.length R.sc R.wa s.wait.length R.wc s.fz s.off) → (fun w' : World => w'.cell? ⟨b8, 0, none⟩ = some (.slice R.sa s.sure.length R.sc) ∧ w'.cell? ⟨b8, 1, none⟩ = some (.slice R.wa s.wait.length R.wc) ∧ w'.cell? ⟨b8, 2, none⟩ = some (.int .i64 s.fz) ∧ w'.cell? ⟨b8, 3, none⟩ = some (.bool s.off) ∧ w'.cell? ⟨b, off + i * 5, none⟩ = some (.int .i64 kind) ∧ w'.cell? ⟨b, off + i * 5 + 1, none⟩ = some (.int .i64 at_) ∧ w'.cell? ⟨b, off + i * 5 + 2, none⟩ = some (.int .u8 (c.toNat : Int)) ∧ w'.cell? ⟨b, off + i * 5 + 3, none⟩ = some (.string text) ∧ w'.cell? ⟨b, off + i * 5 + 4, none⟩ = some (.slice ka kn kc)) W' := fun W' hb hx => by
          have A := HACT.out.below hbw hb
          exact ⟨hx.cell 0 _ rfl, hx.cell 1 _ rfl, hx.cell 2 _ rfl, hx.cell 3 _ rfl, A.c0, A.c1, A.c2, A.c3, A.c4⟩
        have HMK := (show Hid _ from mkS)
        have cdo : ∀ W', Below wr.heap.size wr W' → Calls Try.prog 10 #[.pointer (some ⟨p, 0, none⟩), .agg #[.slice R.sa s.sure.length R.sc, .slice R.wa s.wait.length R.wc, .int .i64 s.fz, .bool s.off], .agg #[.int .i64 kind, .int .i64 at_, .int .u8 (c.toNat : Int), .string text, .slice ka kn kc]] W' (DoesAns W' H s) := fun W' hb => by
          have := does_any (HX.out.1.below hb) (by have := HX.out.2.2.2.2.2; omega) kind at_ HA.out.2.2 c text ka kn kc l (HA.out.1.below hb) HA.out.2.1
          rw [HX.out.2.1] at this
          exact this
        have HCD := (show Hid _ from cdo)
        have hb1' : Below wr.heap.size wr (wr.drew.alloc (.cells (rd none 0 0 none 0 0 0 false) 30)) := hdr.alloc (Nat.le_refl _) _
        have hS1 : (fun w' : World => w'.cell? ⟨b8, 0, none⟩ = some (.slice R.sa s.sure.length R.sc) ∧ w'.cell? ⟨b8, 1, none⟩ = some (.slice R.wa s.wait.length R.wc) ∧ w'.cell? ⟨b8, 2, none⟩ = some (.int .i64 s.fz) ∧ w'.cell? ⟨b8, 3, none⟩ = some (.bool s.off) ∧ w'.cell? ⟨b, off + i * 5, none⟩ = some (.int .i64 kind) ∧ w'.cell? ⟨b, off + i * 5 + 1, none⟩ = some (.int .i64 at_) ∧ w'.cell? ⟨b, off + i * 5 + 2, none⟩ = some (.int .u8 (c.toNat : Int)) ∧ w'.cell? ⟨b, off + i * 5 + 3, none⟩ = some (.string text) ∧ w'.cell? ⟨b, off + i * 5 + 4, none⟩ = some (.slice ka kn kc)) (wr.drew.alloc (.cells (rd none 0 0 none 0 0 0 false) 30)) := mkS _ (HX.out.2.2.2.1.trans (hb1'.mono HX.out.2.2.2.1.size)) (HX.out.2.2.1.over hb1')
        clear mkS cdo g0 g1 g2 g3 g4 q0 q1 q2 q3
        dsimp only [List.dropLast, List.length, List.getLast]
        ((refine takeL 0 (v := ?_) rfl (by kernel_rfl) (by kernel_rfl) (by kernel_rfl) (fun _ _ _ h => h) (by rfl) hHeld ?_ ?_; rotate_left; focus (intro w hSw; (try dsimp only at hSw); go_simp <;> with_reducible rfl); (try simp only [Act.put, List.setIfInBounds_toArray, List.set_cons_zero, List.set_cons_succ])); (refine takeL 1 (v := ?_) rfl (by kernel_rfl) (by kernel_rfl) (by kernel_rfl) (fun _ _ _ h => h) (by rfl) hHeld ?_ ?_; rotate_left; focus (intro w hSw; (try dsimp only at hSw); go_simp <;> with_reducible rfl); (try simp only [Act.put, List.setIfInBounds_toArray, List.set_cons_zero, List.set_cons_succ])); (refine takeL 2 (v := ?_) rfl (by kernel_rfl) (by kernel_rfl) (by kernel_rfl) (fun _ _ _ h => h) (by rfl) hHeld ?_ ?_; rotate_left; focus (intro w hSw; (try dsimp only at hSw); go_simp <;> with_reducible rfl); (try simp only [Act.put, List.setIfInBounds_toArray, List.set_cons_zero, List.set_cons_succ])); (refine takeL 3 (v := ?_) rfl (by kernel_rfl) (by kernel_rfl) (by kernel_rfl) (fun _ _ _ h => h) (by rfl) hHeld ?_ ?_; rotate_left; focus (intro w hSw; (try dsimp only at hSw); go_simp <;> with_reducible rfl); (try simp only [Act.put, List.setIfInBounds_toArray, List.set_cons_zero, List.set_cons_succ])); (refine takeL 4 (v := ?_) rfl (by kernel_rfl) (by kernel_rfl) (by kernel_rfl) (fun _ _ _ h => h) (by rfl) hHeld ?_ ?_; rotate_left; focus (intro w hSw; (try dsimp only at hSw); go_simp <;> with_reducible rfl); (try simp only [Act.put, List.setIfInBounds_toArray, List.set_cons_zero, List.set_cons_succ])); (refine takeL 5 (v := ?_) rfl (by kernel_rfl) (by kernel_rfl) (by kernel_rfl) (fun _ _ _ h => h) (by rfl) hHeld ?_ ?_; rotate_left; focus (intro w hSw; (try dsimp only at hSw); go_simp <;> with_reducible rfl); (try simp only [Act.put, List.setIfInBounds_toArray, List.set_cons_zero, List.set_cons_succ])))
        dsimp only [Act.put]
        simp only [List.setIfInBounds_toArray, List.set_cons_zero, List.set_cons_succ]
        refine callNewL 6 10 (f := 10) (vs := #[.pointer (some ⟨p, 0, none⟩), .agg #[.slice R.sa s.sure.length R.sc, .slice R.wa s.wait.length R.wc, .int .i64 s.fz, .bool s.off], .agg #[.int .i64 kind, .int .i64 at_, .int .u8 (c.toNat : Int), .string text, .slice ka kn kc]]) (wr.drew.alloc (.cells (rd none 0 0 none 0 0 0 false) 30)) (.pointer (some ⟨wr.heap.size, 0, none⟩)) rfl rfl (by kernel_rfl) (by rfl) (by rfl) (by go_simp) (by go_simp) hS1 ?_ ?_
        · refine (HCD.out _ hdr).mono ?_
          rintro e wA ⟨H', R', s', rfl, BA, TA, hwA, hsA⟩
          clear hsA
          refine ⟨_, rfl, ?_⟩
          have hnf := dev_ne_box (HX.out.1.below hdr).dev (HX.out.2.2.1.over hdr)
          have XA := (HX.out.2.2.1.over hdr).kept TA.kept hnf
          have hbA : Below w.heap.size w wA := hb0.trans (TA.below HX.out.2.2.2.2.1 hb0.size)
          have hSA := HMK.out wA hbA XA
          refine ⟨hSA, ?_⟩
          have hbn := below1 wA (.cells (rd none 0 0 none 0 0 0 false) 30)
          have XN := box_new wA (rd none 0 0 none 0 0 0 false) 30
          have hbAn : Below w.heap.size w (wA.alloc (.cells (rd none 0 0 none 0 0 0 false) 30)) := hbA.trans (hbn.mono hbA.size)
          have hSN := HMK.out _ hbAn (XA.over hbn)
          have BN := BA.below hbn
          have hne8 : b8 ≠ wA.heap.size := Nat.ne_of_lt XA.lt
          have hnea : b ≠ wA.heap.size := by have := hbA.size; omega
          obtain ⟨b11, hb11⟩ : ∃ b11, b11 = wA.heap.size := ⟨_, rfl⟩
          have k4 := kept_four (F := fun k => k = b11) (Kept.refl _ (wA.alloc (.cells (rd none 0 0 none 0 0 0 false) 30))) (.inl rfl) (.slice R'.sa s'.sure.length R'.sc) (.slice R'.wa s'.wait.length R'.wc) (.int .i64 s'.fz) (.bool s'.off)
          have F5 := box_four XN rfl (.slice R'.sa s'.sure.length R'.sc) (.slice R'.wa s'.wait.length R'.wc) (.int .i64 s'.fz) (.bool s'.off)
          rw [← hb11] at XN F5 hne8 hnea
          have B6 := BN.box XN k4
          have X6 := (XA.over hbn).kept k4 (fun e => hne8 e)
          have hb6 : Below w.heap.size w (((((wA.alloc (.cells (rd none 0 0 none 0 0 0 false) 30)).setCell ⟨b11, 0, none⟩ (.slice R'.sa s'.sure.length R'.sc)).setCell ⟨b11, 1, none⟩ (.slice R'.wa s'.wait.length R'.wc)).setCell ⟨b11, 2, none⟩ (.int .i64 s'.fz)).setCell ⟨b11, 3, none⟩ (.bool s'.off)) := hbAn.trans (k4.below (fun k hk => by rw [hk, hb11]; exact hbA.size) hbAn.size)
          have hS6 := HMK.out _ hb6 X6
          have HEND : Hid (∃ W6, W6 = (((((wA.alloc (.cells (rd none 0 0 none 0 0 0 false) 30)).setCell ⟨b11, 0, none⟩ (.slice R'.sa s'.sure.length R'.sc)).setCell ⟨b11, 1, none⟩ (.slice R'.wa s'.wait.length R'.wc)).setCell ⟨b11, 2, none⟩ (.int .i64 s'.fz)).setCell ⟨b11, 3, none⟩ (.bool s'.off)) ∧ Both W6 H' R' s' ∧ H'.p = p ∧ Box W6 b8 30 (rd R.sa s.sure.length R.sc R.wa s.wait.length R.wc s.fz s.off) ∧ Box W6 b11 30 (rd R'.sa s'.sure.length R'.sc R'.wa s'.wait.length R'.wc s'.fz s'.off) ∧ Below w.heap.size w W6 ∧ (∀ k, H'.foot k → w.heap.size ≤ k) ∧ s'.wait.length ≤ i + 1 ∧ b8 ≠ b11) :=
            ⟨_, rfl, B6, TA.p.trans HX.out.2.1, X6, F5, hb6, TA.above HX.out.2.2.2.2.1 hb0.size, by have := HX.out.2.2.2.2.2; omega, hne8⟩
          have z0 := XN.cell 0 _ rfl
          have z1 := XN.cell 1 _ rfl
          have z2 := XN.cell 2 _ rfl
          have z3 := XN.cell 3 _ rfl
          have y0 := XN.frozen 0
          have y1 := XN.frozen 1
          have y2 := XN.frozen 2
          have y3 := XN.frozen 3
          ((refine takeL 7 (v := ?_) rfl (by kernel_rfl) (by kernel_rfl) (by kernel_rfl) (fun _ _ _ h => h) (by rfl) hSA ?_ ?_; rotate_left; focus (intro w hSw; (try dsimp only at hSw); go_simp <;> with_reducible rfl); (try simp only [Act.put, List.setIfInBounds_toArray, List.set_cons_zero, List.set_cons_succ])); (refine takeL 8 (v := ?_) rfl (by kernel_rfl) (by kernel_rfl) (by kernel_rfl) (fun _ _ _ h => h) (by rfl) hSA ?_ ?_; rotate_left; focus (intro w hSw; (try dsimp only at hSw); go_simp <;> with_reducible rfl); (try simp only [Act.put, List.setIfInBounds_toArray, List.set_cons_zero, List.set_cons_succ])); (refine takeL 9 (v := ?_) rfl (by kernel_rfl) (by kernel_rfl) (by kernel_rfl) (fun _ _ _ h => h) (by rfl) hSA ?_ ?_; rotate_left; focus (intro w hSw; (try dsimp only at hSw); go_simp <;> with_reducible rfl); (try simp only [Act.put, List.setIfInBounds_toArray, List.set_cons_zero, List.set_cons_succ])))
          dsimp only [Act.put]
          simp only [List.setIfInBounds_toArray, List.set_cons_zero, List.set_cons_succ]
          refine newL 10 (wA.alloc (.cells (rd none 0 0 none 0 0 0 false) 30)) (.pointer (some ⟨b11, 0, none⟩)) rfl (by kernel_rfl) (by rfl) (by rw [hb11]; go_simp) hSN ?_
          dsimp only [Act.put]
          simp only [List.setIfInBounds_toArray, List.set_cons_zero, List.set_cons_succ]
          clear hb11 XA BA TA BN XN k4 B6 X6 hbn hbAn
          refine stepL 11 (((((wA.alloc (.cells (rd none 0 0 none 0 0 0 false) 30)).setCell ⟨b11, 0, none⟩ (.slice R'.sa s'.sure.length R'.sc)).setCell ⟨b11, 1, none⟩ (.slice R'.wa s'.wait.length R'.wc)).setCell ⟨b11, 2, none⟩ (.int .i64 s'.fz)).setCell ⟨b11, 3, none⟩ (.bool s'.off)) rfl (by kernel_rfl) (by rfl) (by go_simp) hS6 ?_
          refine doneL (by kernel_rfl) ?_
          dsimp only [Act.put]
          unfold Oper.wp
          go_simp
          obtain ⟨W6, hW6, HEE⟩ := HEND.out
          rw [← hW6]
          obtain ⟨B6, hp6, X8, X11, hb6', habv6, hwl6, hne⟩ := HEE
          have csm := same_is B6.dev B6.ref s'.fz
          rw [hp6] at csm
          have hone := rd_one R'.sa s'.sure.length R'.sc R'.wa s'.wait.length R'.wc s'.fz s'.off
          have HE6 : Hid (Both W6 H' R' s' ∧ H'.p = p ∧ Below w.heap.size w W6 ∧ (∀ k, H'.foot k → w.heap.size ≤ k) ∧ s'.wait.length ≤ i + 1) := ⟨B6, hp6, hb6', habv6, hwl6⟩
          clear B6 hp6 hb6' habv6 hwl6 HEND hS1 hHeld hW6
          have v0 := X11.cell 0 _ rfl
          have v1 := X11.cell 1 _ rfl
          have v2 := X11.cell 2 _ rfl
          have v3 := X11.cell 3 _ rfl
          go_wp2_with fail
          refine csm.mono ?_
          rintro e w7 ⟨rfl, b7⟩
          have X87 := X8.over b7
          have X117 := X11.over b7
          have F7 := X87.setRow (rd R'.sa s'.sure.length R'.sc R'.wa s'.wait.length R'.wc s'.fz s'.off)
          clear csm X8 X11 v0 v1 v2 v3
          go_wp2_with (first
            | (refine wpList_load_row rfl 30 _ rfl b11 rfl 30 (rd R'.sa s'.sure.length R'.sc R'.wa s'.wait.length R'.wc s'.fz s'.off) (0, 0) _ X117 Try.underlying30 rfl size_rd ?_)
            | (refine wpList_store_row rfl 30 _ _ rfl b8 (rd R'.sa s'.sure.length R'.sc R'.wa s'.wait.length R'.wc s'.fz s'.off) rfl rfl 30 _ X87 size_rd rfl hone ?_))
          obtain ⟨B6, hp6, hb6', habv6, hwl6⟩ := HE6.out
          have hb7w := hb6'.trans (b7.mono hb6'.size)
          have k7 : Kept (fun k => k = b8) w7 (w7.setRow b8 (rd R'.sa s'.sure.length R'.sc R'.wa s'.wait.length R'.wc s'.fz s'.off)) := kept_row _ _ _
          go_roundg (M - (i + 1))
          case measure => clear hr2; omega
          case rel => exact ⟨i + 1, H', R', s', by clear hr2; omega, by go_num, (B6.below b7).box X87 k7, hp6, F7, below_setRow hb7w hb8w _, habv6, hwl6⟩
        · have hnf := dev_ne_box (HX.out.1.below hb1').dev (HX.out.2.2.1.over hb1')
          have XN0 : Box (wr.drew.alloc (.cells (rd none 0 0 none 0 0 0 false) 30)) wr.heap.size 30 (rd none 0 0 none 0 0 0 false) := box_new wr.drew (rd none 0 0 none 0 0 0 false) 30
          have hnf2 := dev_ne_box (HX.out.1.below hb1').dev XN0
          have hb1w : Below w.heap.size w (wr.drew.alloc (.cells (rd none 0 0 none 0 0 0 false) 30)) := HX.out.2.2.2.1.trans (hb1'.mono HX.out.2.2.2.1.size)
          have hne8 : b8 ≠ wr.heap.size := Nat.ne_of_lt HX.out.2.2.1.lt
          dsimp only [Act.put]
          simp only [List.setIfInBounds_toArray, List.set_cons_zero, List.set_cons_succ]
          refine callL 6 (f := 10) (vs := #[.pointer (some ⟨p, 0, none⟩), .agg #[.slice R.sa s.sure.length R.sc, .slice R.wa s.wait.length R.wc, .int .i64 s.fz, .bool s.off], .agg #[.int .i64 kind, .int .i64 at_, .int .u8 (c.toNat : Int), .string text, .slice ka kn kc]]) rfl (by kernel_rfl) (by rfl) (by go_simp) ?_
          refine (HCD.out _ hb1').mono ?_
          rintro e wA ⟨H', R', s', rfl, BA, TA, hwA, hsA⟩
          clear hsA
          refine ⟨_, rfl, ?_⟩
          have XA := (HX.out.2.2.1.over hb1').kept TA.kept hnf
          have XN := XN0.kept TA.kept hnf2
          have hbA : Below w.heap.size w wA := hb1w.trans (TA.below HX.out.2.2.2.2.1 hb1w.size)
          have hSA := HMK.out wA hbA XA
          refine ⟨hSA, ?_⟩
          obtain ⟨b11, hb11⟩ : ∃ b11, b11 = wr.heap.size := ⟨_, rfl⟩
          rw [← hb11] at XN hne8 ⊢
          have k4 := kept_four (F := fun k => k = b11) (Kept.refl _ wA) (.inl rfl) (.slice R'.sa s'.sure.length R'.sc) (.slice R'.wa s'.wait.length R'.wc) (.int .i64 s'.fz) (.bool s'.off)
          have F5 := box_four XN rfl (.slice R'.sa s'.sure.length R'.sc) (.slice R'.wa s'.wait.length R'.wc) (.int .i64 s'.fz) (.bool s'.off)
          have B6 := BA.box XN k4
          have X6 := XA.kept k4 (fun e => hne8 e)
          have hb6 : Below w.heap.size w ((((wA.setCell ⟨b11, 0, none⟩ (.slice R'.sa s'.sure.length R'.sc)).setCell ⟨b11, 1, none⟩ (.slice R'.wa s'.wait.length R'.wc)).setCell ⟨b11, 2, none⟩ (.int .i64 s'.fz)).setCell ⟨b11, 3, none⟩ (.bool s'.off)) := hbA.trans (k4.below (fun k hk => by rw [hk, hb11]; exact HX.out.2.2.2.1.size) hbA.size)
          have hS6 := HMK.out _ hb6 X6
          have HEND : Hid (∃ W6, W6 = ((((wA.setCell ⟨b11, 0, none⟩ (.slice R'.sa s'.sure.length R'.sc)).setCell ⟨b11, 1, none⟩ (.slice R'.wa s'.wait.length R'.wc)).setCell ⟨b11, 2, none⟩ (.int .i64 s'.fz)).setCell ⟨b11, 3, none⟩ (.bool s'.off)) ∧ Both W6 H' R' s' ∧ H'.p = p ∧ Box W6 b8 30 (rd R.sa s.sure.length R.sc R.wa s.wait.length R.wc s.fz s.off) ∧ Box W6 b11 30 (rd R'.sa s'.sure.length R'.sc R'.wa s'.wait.length R'.wc s'.fz s'.off) ∧ Below w.heap.size w W6 ∧ (∀ k, H'.foot k → w.heap.size ≤ k) ∧ s'.wait.length ≤ i + 1 ∧ b8 ≠ b11) :=
            ⟨_, rfl, B6, TA.p.trans HX.out.2.1, X6, F5, hb6, TA.above HX.out.2.2.2.2.1 hb1w.size, by have := HX.out.2.2.2.2.2; omega, hne8⟩
          have z0 := XN.cell 0 _ rfl
          have z1 := XN.cell 1 _ rfl
          have z2 := XN.cell 2 _ rfl
          have z3 := XN.cell 3 _ rfl
          have y0 := XN.frozen 0
          have y1 := XN.frozen 1
          have y2 := XN.frozen 2
          have y3 := XN.frozen 3
          ((refine takeL 7 (v := ?_) rfl (by kernel_rfl) (by kernel_rfl) (by kernel_rfl) (fun _ _ _ h => h) (by rfl) hSA ?_ ?_; rotate_left; focus (intro w hSw; (try dsimp only at hSw); go_simp <;> with_reducible rfl); (try simp only [Act.put, List.setIfInBounds_toArray, List.set_cons_zero, List.set_cons_succ])); (refine takeL 8 (v := ?_) rfl (by kernel_rfl) (by kernel_rfl) (by kernel_rfl) (fun _ _ _ h => h) (by rfl) hSA ?_ ?_; rotate_left; focus (intro w hSw; (try dsimp only at hSw); go_simp <;> with_reducible rfl); (try simp only [Act.put, List.setIfInBounds_toArray, List.set_cons_zero, List.set_cons_succ])); (refine takeL 9 (v := ?_) rfl (by kernel_rfl) (by kernel_rfl) (by kernel_rfl) (fun _ _ _ h => h) (by rfl) hSA ?_ ?_; rotate_left; focus (intro w hSw; (try dsimp only at hSw); go_simp <;> with_reducible rfl); (try simp only [Act.put, List.setIfInBounds_toArray, List.set_cons_zero, List.set_cons_succ])))
          dsimp only [Act.put]
          simp only [List.setIfInBounds_toArray, List.set_cons_zero, List.set_cons_succ]
          clear hb11 XA BA TA XN k4 B6 X6 XN0 hnf hnf2
          refine stepL 11 ((((wA.setCell ⟨b11, 0, none⟩ (.slice R'.sa s'.sure.length R'.sc)).setCell ⟨b11, 1, none⟩ (.slice R'.wa s'.wait.length R'.wc)).setCell ⟨b11, 2, none⟩ (.int .i64 s'.fz)).setCell ⟨b11, 3, none⟩ (.bool s'.off)) rfl (by kernel_rfl) (by rfl) (by go_simp) hS6 ?_
          refine doneL (by kernel_rfl) ?_
          dsimp only [Act.put]
          unfold Oper.wp
          go_simp
          obtain ⟨W6, hW6, HEE⟩ := HEND.out
          rw [← hW6]
          obtain ⟨B6, hp6, X8, X11, hb6', habv6, hwl6, hne⟩ := HEE
          have csm := same_is B6.dev B6.ref s'.fz
          rw [hp6] at csm
          have hone := rd_one R'.sa s'.sure.length R'.sc R'.wa s'.wait.length R'.wc s'.fz s'.off
          have HE6 : Hid (Both W6 H' R' s' ∧ H'.p = p ∧ Below w.heap.size w W6 ∧ (∀ k, H'.foot k → w.heap.size ≤ k) ∧ s'.wait.length ≤ i + 1) := ⟨B6, hp6, hb6', habv6, hwl6⟩
          clear B6 hp6 hb6' habv6 hwl6 HEND hS1 hHeld hW6
          have v0 := X11.cell 0 _ rfl
          have v1 := X11.cell 1 _ rfl
          have v2 := X11.cell 2 _ rfl
          have v3 := X11.cell 3 _ rfl
          go_wp2_with fail
          refine csm.mono ?_
          rintro e w7 ⟨rfl, b7⟩
          have X87 := X8.over b7
          have X117 := X11.over b7
          have F7 := X87.setRow (rd R'.sa s'.sure.length R'.sc R'.wa s'.wait.length R'.wc s'.fz s'.off)
          clear csm X8 X11 v0 v1 v2 v3
          go_wp2_with (first
            | (refine wpList_load_row rfl 30 _ rfl b11 rfl 30 (rd R'.sa s'.sure.length R'.sc R'.wa s'.wait.length R'.wc s'.fz s'.off) (0, 0) _ X117 Try.underlying30 rfl size_rd ?_)
            | (refine wpList_store_row rfl 30 _ _ rfl b8 (rd R'.sa s'.sure.length R'.sc R'.wa s'.wait.length R'.wc s'.fz s'.off) rfl rfl 30 _ X87 size_rd rfl hone ?_))
          obtain ⟨B6, hp6, hb6', habv6, hwl6⟩ := HE6.out
          have hb7w := hb6'.trans (b7.mono hb6'.size)
          have k7 : Kept (fun k => k = b8) w7 (w7.setRow b8 (rd R'.sa s'.sure.length R'.sc R'.wa s'.wait.length R'.wc s'.fz s'.off)) := kept_row _ _ _
          go_roundg (M - (i + 1))
          case measure => clear hr2; omega
          case rel => exact ⟨i + 1, H', R', s', by clear hr2; omega, by go_num, (B6.below b7).box X87 k7, hp6, F7, below_setRow hb7w hb8w _, habv6, hwl6⟩
    · have HBB : Hid (Below w.heap.size w wr) := hbel
      have hib : ¬ (i : Int) < (len1 : Int) ∨ ¬ (i : Int) < 50 := by omega
      clear B X hHp habv hwl
      by_cases hl0 : (i : Int) < (len1 : Int)
      case' pos =>
        have hl4 : ¬ (i : Int) < 50 := by rcases hib with h | h; exact absurd hl0 h; exact h
      all_goals
        clear hib
        go_wp2_with fail
        refine (awake_any _).mono ?_
        rintro e w4 ⟨rfl, b4⟩
        go_wp2
        go_ret
        exact ⟨rfl, HBB.out.trans (b4.mono HBB.out.size)⟩
end Go.Proofs.Ytmgodahdljnbmaa
