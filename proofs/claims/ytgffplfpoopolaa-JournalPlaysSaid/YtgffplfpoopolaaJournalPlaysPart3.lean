/-
  1 texts, one behind the other: JSf.
-/
import Derived.Test.YtgffplfpoopolaaJournalPlaysPart2
/-
  Law 23's side.does: an Add.
-/
namespace Go.Proofs.Ytgffplfpoopolaa
open Go.RowKit Leb

def DoAns (w0 : World) (px hp : Nat) (i : Nat) (e : Ending) (w' : World) : Prop :=
  e = .returned (.bool true) ∧ ∃ J R s turn u out va vn vc, Sy w0 w' px hp J R s turn u out va vn vc i
set_option maxRecDepth 4000 in
set_option maxHeartbeats 8000000 in
theorem does_add {w0 wx : World} {px hp : Nat} {J : Jh} {R : RH} {s : St} {turn : BitVec 64} {u : Nat} {out : List (List UInt8)} {va : Option Addr} {vn vc i : Nat} (o : Sy w0 wx px hp J R s turn u out va vn vc i) (hi : i ≤ 100) (N : BitVec 64) (t : List UInt8) (kv : Value) :
    Calls Try.prog 9 #[.pointer (some ⟨px, 0, none⟩), .agg #[.int .i64 1, .int .i64 N.toInt, .string (strB t), kv]] wx (DoAns w0 px hp (i + 1)) := by
  obtain ⟨F, hF0, hFl⟩ := and_mask N 16383 (by omega)
  replace hF0 : bits .and .i64 N.toInt 16383 = (F : Int) := hF0
  have cl := llong_any F (by omega)
  have HO : Hid (Sy w0 wx px hp J R s turn u out va vn vc i ∧ i ≤ 100) := ⟨o, hi⟩
  clear o hi
  go_enter Try.func9, Try.ntmps9
  have HB0 : Hid (Below wx.heap.size wx (wx.alloc (.cells #[.int .i64 1, .int .i64 N.toInt, .string (strB t), kv] 46))) := below1 _ _
  go_wp2_with fail
  · refine (cl _).mono ?_
    rintro e w1 ⟨rfl, b1⟩
    have hb1 := HB0.out.trans (b1.mono HB0.out.size)
    obtain ⟨t2, ht2⟩ : ∃ t2, t2 = longL F := ⟨_, rfl⟩
    rw [← ht2]
    clear ht2 b1 HB0
    go_wp2_with fail
    clear cl hF0 hFl
    obtain ⟨S2, hS2⟩ : ∃ S2, S2 = strB t2 := ⟨_, rfl⟩
    have HS2 : Hid (S2 = strB t2) := hS2
    rw [← hS2]
    clear hS2
    have HO1 : Hid (Sy w0 w1 px hp J R s turn u out va vn vc i ∧ i ≤ 100) := ⟨HO.out.1.over hb1, HO.out.2⟩
    clear HO hb1
    obtain ⟨jp, hjp⟩ : ∃ jp, jp = J.p := ⟨_, rfl⟩
    obtain ⟨T0, hT0⟩ : ∃ T, T = turn.toInt := ⟨_, rfl⟩
    obtain ⟨u0, hu0⟩ : ∃ x : Int, x = (u : Int) := ⟨_, rfl⟩
    obtain ⟨sx, ux, ox, nx, hadd⟩ : ∃ sx ux ox nx, addF s turn u out t2 = (sx, ux, ox, nx) := ⟨_, _, _, _, rfl⟩
    obtain ⟨ux0, hux0⟩ : ∃ x : Int, x = (ux : Int) := ⟨_, rfl⟩
    have HAD : Hid (addF s turn u out t2 = (sx, ux, ox, nx) ∧ ux0 = (ux : Int) ∧ T0 = turn.toInt ∧ jp = J.p) := ⟨hadd, hux0, hT0, hjp⟩
    have HQE : Hid (∃ sa n1 sc wa n2 wc fz of, rda R s = #[.slice sa n1 sc, .slice wa n2 wc, .int .i64 fz, .bool of]) := ⟨_, _, _, _, _, _, _, _, rfl⟩
    obtain ⟨sa, n1, sc, wa, n2, wc, fz, of, hQ0⟩ := HQE.out
    have HBX : Hid (Box w1 px 43 #[.pointer (some ⟨hp, 0, none⟩), .pointer (some ⟨jp, 0, none⟩), .slice sa n1 sc, .slice wa n2 wc, .int .i64 fz, .bool of, .int .i64 3, .int .i64 40, .int .i64 T0, .slice va vn vc, .int .i64 u0]) := by
      have := HO1.out.1.box
      rw [hQ0, ← hjp, ← hT0, ← hu0] at this
      exact this
    have HREF : Hid (∀ (W : World) (E : Nat → Prop), Below w1.heap.size w1 W → (∀ x, E x → w1.heap.size ≤ x ∧ x < W.heap.size) → Calls Try.prog 20 #[.agg #[.slice sa n1 sc, .slice wa n2 wc, .int .i64 fz, .bool of], .agg #[.int .i64 3, .int .i64 40, .int .i64 T0, .slice va vn vc, .int .i64 u0], .string S2] W fun e w' => (∃ R' va' vn' vc' qa m1 qc pa m2 pc fy oy, rda R' sx = #[.slice qa m1 qc, .slice pa m2 pc, .int .i64 fy, .bool oy] ∧ e = .returned (.tuple #[.agg #[.slice qa m1 qc, .slice pa m2 pc, .int .i64 fy, .bool oy], .agg #[.int .i64 3, .int .i64 40, .int .i64 T0, .slice va' vn' vc', .int .i64 ux0], .int .i64 nx]) ∧ Mr w' J px E R' sx ox va' vn' vc') ∧ Below W.heap.size W w') := by
      intro W E bW hE
      have h := ref_sy HO1.out.1 HO1.out.2 t2 bW E hE
      rw [hadd, hQ0, ← HS2.out, ← hT0, ← hu0] at h
      dsimp only at h
      rw [← hux0] at h
      exact h
    have HS : Hid (∀ W, Below w1.heap.size w1 W → (fun w' : World => w'.cell? ⟨px, 2, none⟩ = some (.slice sa n1 sc) ∧ w'.cell? ⟨px, 3, none⟩ = some (.slice wa n2 wc) ∧ w'.cell? ⟨px, 4, none⟩ = some (.int .i64 fz) ∧ w'.cell? ⟨px, 5, none⟩ = some (.bool of) ∧ w'.cell? ⟨px, 6, none⟩ = some (.int .i64 3) ∧ w'.cell? ⟨px, 7, none⟩ = some (.int .i64 40) ∧ w'.cell? ⟨px, 8, none⟩ = some (.int .i64 T0) ∧ w'.cell? ⟨px, 9, none⟩ = some (.slice va vn vc) ∧ w'.cell? ⟨px, 10, none⟩ = some (.int .i64 u0)) W) := fun W hW => by
      have b := HBX.out.over hW
      exact ⟨b.cell 2 _ rfl, b.cell 3 _ rfl, b.cell 4 _ rfl, b.cell 5 _ rfl, b.cell 6 _ rfl, b.cell 7 _ rfl, b.cell 8 _ rfl, b.cell 9 _ rfl, b.cell 10 _ rfl⟩
    clear hjp hT0 hu0 hadd hux0 HQE hQ0
    go_cut [6, 7, 8] (fun s6 s7 s8 wy => ∃ (ga gb : Nat) (R' : RH) (va' : Option Addr) (vn' vc' : Nat) (qa : Option Addr) (m1 qc : Nat) (pa : Option Addr) (m2 pc : Nat) (fy : Int) (oy : Bool) (W6 : World), s6 = .pointer (some ⟨ga, 0, none⟩) ∧ s7 = .pointer (some ⟨gb, 0, none⟩) ∧ s8 = .int .i64 nx ∧ wy = W6 ∧ rda R' sx = #[.slice qa m1 qc, .slice pa m2 pc, .int .i64 fy, .bool oy] ∧ M6 w0 W6 px hp J R s turn u out va vn vc i R' sx ox va' vn' vc' ga gb #[.slice qa m1 qc, .slice pa m2 pc, .int .i64 fy, .bool oy] #[.int .i64 3, .int .i64 40, .int .i64 T0, .slice va' vn' vc', .int .i64 ux0])
    case first =>
      refine wp_region_held_then (fun w' : World => w'.cell? ⟨px, 2, none⟩ = some (.slice sa n1 sc) ∧ w'.cell? ⟨px, 3, none⟩ = some (.slice wa n2 wc) ∧ w'.cell? ⟨px, 4, none⟩ = some (.int .i64 fz) ∧ w'.cell? ⟨px, 5, none⟩ = some (.bool of) ∧ w'.cell? ⟨px, 6, none⟩ = some (.int .i64 3) ∧ w'.cell? ⟨px, 7, none⟩ = some (.int .i64 40) ∧ w'.cell? ⟨px, 8, none⟩ = some (.int .i64 T0) ∧ w'.cell? ⟨px, 9, none⟩ = some (.slice va vn vc) ∧ w'.cell? ⟨px, 10, none⟩ = some (.int .i64 u0)) _ (by kernel_rfl) rfl (by kernel_rfl) ?_
      have bD : Below w1.heap.size w1 w1.drew := (Below.refl _ w1).drew
      have bDa : Below w1.heap.size w1 (w1.drew.alloc (.cells #[.slice none 0 0, .slice none 0 0, .int .i64 0, .bool false] 30)) := bD.alloc (Nat.le_refl _) _
      have bDb : Below w1.heap.size w1 (w1.drew.alloc (.cells #[.int .i64 0, .int .i64 0, .int .i64 0, .slice none 0 0, .int .i64 0] 41)) := bD.alloc (Nat.le_refl _) _
      have bDab : Below w1.heap.size w1 ((w1.drew.alloc (.cells #[.slice none 0 0, .slice none 0 0, .int .i64 0, .bool false] 30)).alloc (.cells #[.int .i64 0, .int .i64 0, .int .i64 0, .slice none 0 0, .int .i64 0] 41)) := bDa.alloc bDa.size _
      have bDba : Below w1.heap.size w1 ((w1.drew.alloc (.cells #[.int .i64 0, .int .i64 0, .int .i64 0, .slice none 0 0, .int .i64 0] 41)).alloc (.cells #[.slice none 0 0, .slice none 0 0, .int .i64 0, .bool false] 30)) := bDb.alloc bDb.size _
      have HSZ : Hid ((w1.drew.alloc (.cells #[.slice none 0 0, .slice none 0 0, .int .i64 0, .bool false] 30)).heap.size = w1.heap.size + 1 ∧ (w1.drew.alloc (.cells #[.int .i64 0, .int .i64 0, .int .i64 0, .slice none 0 0, .int .i64 0] 41)).heap.size = w1.heap.size + 1 ∧ ((w1.drew.alloc (.cells #[.slice none 0 0, .slice none 0 0, .int .i64 0, .bool false] 30)).alloc (.cells #[.int .i64 0, .int .i64 0, .int .i64 0, .slice none 0 0, .int .i64 0] 41)).heap.size = w1.heap.size + 1 + 1 ∧ ((w1.drew.alloc (.cells #[.int .i64 0, .int .i64 0, .int .i64 0, .slice none 0 0, .int .i64 0] 41)).alloc (.cells #[.slice none 0 0, .slice none 0 0, .int .i64 0, .bool false] 30)).heap.size = w1.heap.size + 1 + 1) := ⟨World.size_alloc _ _, World.size_alloc _ _, by rw [World.size_alloc, World.size_alloc]; rfl, by rw [World.size_alloc, World.size_alloc]; rfl⟩
      have hHeld := HS.out _ bD
      have hHa := HS.out _ bDa
      have hHb := HS.out _ bDb
      dsimp only [List.dropLast, List.length, List.getLast]
      ((refine takeL 0 (v := ?_) rfl (by kernel_rfl) (by kernel_rfl) (by kernel_rfl) (fun _ _ _ h => h) (by rfl) hHeld ?_ ?_; rotate_left; focus (intro w hSw; (try dsimp only at hSw); go_simp <;> with_reducible rfl); (try simp only [Act.put, List.setIfInBounds_toArray, List.set_cons_zero, List.set_cons_succ])); (refine takeL 1 (v := ?_) rfl (by kernel_rfl) (by kernel_rfl) (by kernel_rfl) (fun _ _ _ h => h) (by rfl) hHeld ?_ ?_; rotate_left; focus (intro w hSw; (try dsimp only at hSw); go_simp <;> with_reducible rfl); (try simp only [Act.put, List.setIfInBounds_toArray, List.set_cons_zero, List.set_cons_succ])); (refine takeL 2 (v := ?_) rfl (by kernel_rfl) (by kernel_rfl) (by kernel_rfl) (fun _ _ _ h => h) (by rfl) hHeld ?_ ?_; rotate_left; focus (intro w hSw; (try dsimp only at hSw); go_simp <;> with_reducible rfl); (try simp only [Act.put, List.setIfInBounds_toArray, List.set_cons_zero, List.set_cons_succ])); (refine takeL 3 (v := ?_) rfl (by kernel_rfl) (by kernel_rfl) (by kernel_rfl) (fun _ _ _ h => h) (by rfl) hHeld ?_ ?_; rotate_left; focus (intro w hSw; (try dsimp only at hSw); go_simp <;> with_reducible rfl); (try simp only [Act.put, List.setIfInBounds_toArray, List.set_cons_zero, List.set_cons_succ])))
      try dsimp only [Act.put]
      try simp only [List.setIfInBounds_toArray, List.set_cons_zero, List.set_cons_succ]
      ((refine takeL 4 (v := ?_) rfl (by kernel_rfl) (by kernel_rfl) (by kernel_rfl) (fun _ _ _ h => h) (by rfl) hHeld ?_ ?_; rotate_left; focus (intro w hSw; (try dsimp only at hSw); go_simp <;> with_reducible rfl); (try simp only [Act.put, List.setIfInBounds_toArray, List.set_cons_zero, List.set_cons_succ])); (refine takeL 5 (v := ?_) rfl (by kernel_rfl) (by kernel_rfl) (by kernel_rfl) (fun _ _ _ h => h) (by rfl) hHeld ?_ ?_; rotate_left; focus (intro w hSw; (try dsimp only at hSw); go_simp <;> with_reducible rfl); (try simp only [Act.put, List.setIfInBounds_toArray, List.set_cons_zero, List.set_cons_succ])); (refine takeL 6 (v := ?_) rfl (by kernel_rfl) (by kernel_rfl) (by kernel_rfl) (fun _ _ _ h => h) (by rfl) hHeld ?_ ?_; rotate_left; focus (intro w hSw; (try dsimp only at hSw); go_simp <;> with_reducible rfl); (try simp only [Act.put, List.setIfInBounds_toArray, List.set_cons_zero, List.set_cons_succ])); (refine takeL 7 (v := ?_) rfl (by kernel_rfl) (by kernel_rfl) (by kernel_rfl) (fun _ _ _ h => h) (by rfl) hHeld ?_ ?_; rotate_left; focus (intro w hSw; (try dsimp only at hSw); go_simp <;> with_reducible rfl); (try simp only [Act.put, List.setIfInBounds_toArray, List.set_cons_zero, List.set_cons_succ])); (refine takeL 8 (v := ?_) rfl (by kernel_rfl) (by kernel_rfl) (by kernel_rfl) (fun _ _ _ h => h) (by rfl) hHeld ?_ ?_; rotate_left; focus (intro w hSw; (try dsimp only at hSw); go_simp <;> with_reducible rfl); (try simp only [Act.put, List.setIfInBounds_toArray, List.set_cons_zero, List.set_cons_succ])))
      try dsimp only [Act.put]
      try simp only [List.setIfInBounds_toArray, List.set_cons_zero, List.set_cons_succ]
      refine callNewNewL 9 14 15 (f := 20) (vs := #[.agg #[.slice sa n1 sc, .slice wa n2 wc, .int .i64 fz, .bool of], .agg #[.int .i64 3, .int .i64 40, .int .i64 T0, .slice va vn vc, .int .i64 u0], .string S2]) (w1.drew.alloc (.cells #[.slice none 0 0, .slice none 0 0, .int .i64 0, .bool false] 30)) (.pointer (some ⟨w1.heap.size, 0, none⟩)) (w1.drew.alloc (.cells #[.int .i64 0, .int .i64 0, .int .i64 0, .slice none 0 0, .int .i64 0] 41)) (.pointer (some ⟨w1.heap.size, 0, none⟩)) rfl rfl rfl (by kernel_rfl) (by rfl) (by rfl) (by rfl) (by go_simp) (by go_simp) (by go_simp) hHa hHb ?_ ?_ ?_
      · refine Calls.mono (HREF.out _ (fun _ => False) bD (fun _ h => h.elim)) ?_
        rintro e w2 ⟨⟨R', va', vn', vc', qa, m1, qc, pa, m2, pc, fy, oy, hq, rfl, m⟩, b2⟩
        have HQ : Hid (rda R' sx = #[.slice qa m1 qc, .slice pa m2 pc, .int .i64 fy, .bool oy]) := hq
        clear hq
        have b12 : Below w1.heap.size w1 w2 := bD.trans (b2.mono bD.size)
        have hH2 := HS.out w2 b12
        refine ⟨_, rfl, hH2, ?_⟩
        try dsimp only [Act.put]
        try simp only [List.setIfInBounds_toArray, List.set_cons_zero, List.set_cons_succ]
        ((refine takeL 10 (v := ?_) rfl (by kernel_rfl) (by kernel_rfl) (by kernel_rfl) (fun _ _ _ h => h) (by rfl) hH2 ?_ ?_; rotate_left; focus (intro w hSw; (try dsimp only at hSw); go_simp <;> with_reducible rfl); (try simp only [Act.put, List.setIfInBounds_toArray, List.set_cons_zero, List.set_cons_succ])); (refine takeL 11 (v := ?_) rfl (by kernel_rfl) (by kernel_rfl) (by kernel_rfl) (fun _ _ _ h => h) (by rfl) hH2 ?_ ?_; rotate_left; focus (intro w hSw; (try dsimp only at hSw); go_simp <;> with_reducible rfl); (try simp only [Act.put, List.setIfInBounds_toArray, List.set_cons_zero, List.set_cons_succ])); (refine takeL 12 (v := ?_) rfl (by kernel_rfl) (by kernel_rfl) (by kernel_rfl) (fun _ _ _ h => h) (by rfl) hH2 ?_ ?_; rotate_left; focus (intro w hSw; (try dsimp only at hSw); go_simp <;> with_reducible rfl); (try simp only [Act.put, List.setIfInBounds_toArray, List.set_cons_zero, List.set_cons_succ])); (refine takeL 13 (v := ?_) rfl (by kernel_rfl) (by kernel_rfl) (by kernel_rfl) (fun _ _ _ h => h) (by rfl) hH2 ?_ ?_; rotate_left; focus (intro w hSw; (try dsimp only at hSw); go_simp <;> with_reducible rfl); (try simp only [Act.put, List.setIfInBounds_toArray, List.set_cons_zero, List.set_cons_succ])))
        try dsimp only [Act.put]
        try simp only [List.setIfInBounds_toArray, List.set_cons_zero, List.set_cons_succ]
        refine newNewL 14 15 (w2.alloc (.cells #[.slice none 0 0, .slice none 0 0, .int .i64 0, .bool false] 30)) (.pointer (some ⟨w2.heap.size, 0, none⟩)) (w2.alloc (.cells #[.int .i64 0, .int .i64 0, .int .i64 0, .slice none 0 0, .int .i64 0] 41)) (.pointer (some ⟨w2.heap.size, 0, none⟩)) rfl rfl (by kernel_rfl) (by rfl) (by rfl) (by go_simp) (by go_simp) (HS.out _ (b12.alloc b12.size _)) (HS.out _ (b12.alloc b12.size _)) ?_ ?_
        · try dsimp only [Act.put]
          try simp only [List.setIfInBounds_toArray, List.set_cons_zero, List.set_cons_succ]
          refine newL 15 ((w2.alloc (.cells #[.slice none 0 0, .slice none 0 0, .int .i64 0, .bool false] 30)).alloc (.cells #[.int .i64 0, .int .i64 0, .int .i64 0, .slice none 0 0, .int .i64 0] 41)) (.pointer (some ⟨w2.heap.size + 1, 0, none⟩)) rfl (by kernel_rfl) (by rfl) (by go_simp) (HS.out _ ((b12.alloc b12.size (.cells #[.slice none 0 0, .slice none 0 0, .int .i64 0, .bool false] 30)).alloc (by rw [World.size_alloc]; have := b12.size; omega) (.cells #[.int .i64 0, .int .i64 0, .int .i64 0, .slice none 0 0, .int .i64 0] 41))) ?_
          try dsimp only [Act.put]
          try simp only [List.setIfInBounds_toArray, List.set_cons_zero, List.set_cons_succ]
          have M' : Mr ((w2.alloc (.cells #[.slice none 0 0, .slice none 0 0, .int .i64 0, .bool false] 30)).alloc (.cells #[.int .i64 0, .int .i64 0, .int .i64 0, .slice none 0 0, .int .i64 0] 41)) J px (fun x => x = w2.heap.size ∨ x = w2.heap.size + 1) R' sx ox va' vn' vc' := ((m.grow (E2 := fun x => x = w2.heap.size ∨ x = w2.heap.size + 1) (fun x hx => (by rcases hx with hx | hx <;> (right; omega)))).over ((below1 w2 (.cells #[.slice none 0 0, .slice none 0 0, .int .i64 0, .bool false] 30)).trans ((below1 (w2.alloc (.cells #[.slice none 0 0, .slice none 0 0, .int .i64 0, .bool false] 30)) (.cells #[.int .i64 0, .int .i64 0, .int .i64 0, .slice none 0 0, .int .i64 0] 41)).mono (below1 w2 (.cells #[.slice none 0 0, .slice none 0 0, .int .i64 0, .bool false] 30)).size)))
          have BW : Below w1.heap.size w1 ((w2.alloc (.cells #[.slice none 0 0, .slice none 0 0, .int .i64 0, .bool false] 30)).alloc (.cells #[.int .i64 0, .int .i64 0, .int .i64 0, .slice none 0 0, .int .i64 0] 41)) := ((b12.alloc b12.size (.cells #[.slice none 0 0, .slice none 0 0, .int .i64 0, .bool false] 30)).alloc (by rw [World.size_alloc]; have := b12.size; omega) (.cells #[.int .i64 0, .int .i64 0, .int .i64 0, .slice none 0 0, .int .i64 0] 41))
          have BA : Box ((w2.alloc (.cells #[.slice none 0 0, .slice none 0 0, .int .i64 0, .bool false] 30)).alloc (.cells #[.int .i64 0, .int .i64 0, .int .i64 0, .slice none 0 0, .int .i64 0] 41)) (w2.heap.size) 30 #[.slice none 0 0, .slice none 0 0, .int .i64 0, .bool false] := box_old w2 #[.slice none 0 0, .slice none 0 0, .int .i64 0, .bool false] 30 (.cells #[.int .i64 0, .int .i64 0, .int .i64 0, .slice none 0 0, .int .i64 0] 41)
          have BB : Box ((w2.alloc (.cells #[.slice none 0 0, .slice none 0 0, .int .i64 0, .bool false] 30)).alloc (.cells #[.int .i64 0, .int .i64 0, .int .i64 0, .slice none 0 0, .int .i64 0] 41)) (w2.heap.size + 1) 41 #[.int .i64 0, .int .i64 0, .int .i64 0, .slice none 0 0, .int .i64 0] := box_second w2 (.cells #[.slice none 0 0, .slice none 0 0, .int .i64 0, .bool false] 30) #[.int .i64 0, .int .i64 0, .int .i64 0, .slice none 0 0, .int .i64 0] 41
          have hsz := b12.size
          obtain ⟨ga, hga⟩ : ∃ ga, ga = w2.heap.size := ⟨_, rfl⟩
          obtain ⟨gb, hgb⟩ : ∃ gb, gb = w2.heap.size + 1 := ⟨_, rfl⟩
          obtain ⟨W, hW⟩ : ∃ W, W = ((w2.alloc (.cells #[.slice none 0 0, .slice none 0 0, .int .i64 0, .bool false] 30)).alloc (.cells #[.int .i64 0, .int .i64 0, .int .i64 0, .slice none 0 0, .int .i64 0] 41)) := ⟨_, rfl⟩
          have hla : w1.heap.size ≤ ga := by omega
          have hlb : w1.heap.size ≤ gb := by omega
          replace M' : Mr W J px (fun x => x = ga ∨ x = gb) R' sx ox va' vn' vc' := by rw [hW, hga, hgb]; exact M'
          replace BW : Below w1.heap.size w1 W := by rw [hW]; exact BW
          replace BA : Box W ga 30 #[.slice none 0 0, .slice none 0 0, .int .i64 0, .bool false] := by rw [hW, hga]; exact BA
          replace BB : Box W gb 41 #[.int .i64 0, .int .i64 0, .int .i64 0, .slice none 0 0, .int .i64 0] := by rw [hW, hgb]; exact BB
          rw [← hW]
          rw [show ((some ⟨w2.heap.size + 1, 0, none⟩) : Option Addr) = some ⟨gb, 0, none⟩ by rw [hgb]]
          rw [show ((some ⟨w2.heap.size, 0, none⟩) : Option Addr) = some ⟨ga, 0, none⟩ by rw [hga]]
          clear hga hgb hW hsz
          have q0 := BA.cell 0 (.slice none 0 0) rfl
          have q1 := BA.cell 1 (.slice none 0 0) rfl
          have q2 := BA.cell 2 (.int .i64 0) rfl
          have q3 := BA.cell 3 (.bool false) rfl
          have f0 := BA.frozen 0
          have f1 := BA.frozen 1
          have f2 := BA.frozen 2
          have f3 := BA.frozen 3
          have T6 := tail6 HO1.out.1 BW M' BA BB (.inl rfl) (.inr rfl) hla hlb (.slice qa m1 qc) (.slice pa m2 pc) (.int .i64 fy) (.bool oy) (.int .i64 3) (.int .i64 40) (.int .i64 T0) (.slice va' vn' vc') (.int .i64 ux0)
          have hnp : px ≠ ga := fun e => by have := HO1.out.1.box.lt; omega
          have hne : gb ≠ ga := fun e => by
            rw [e] at BB
            have := cells_type BB BA
            simp at this
          have BX := (((((HBX.out.over BW).other (a := ⟨ga, 0, none⟩) hnp (.slice qa m1 qc)).other (a := ⟨ga, 1, none⟩) hnp (.slice pa m2 pc)).other (a := ⟨ga, 2, none⟩) hnp (.int .i64 fy)).other (a := ⟨ga, 3, none⟩) hnp (.bool oy))
          have BB1 := ((((BB.other (a := ⟨ga, 0, none⟩) hne (.slice qa m1 qc)).other (a := ⟨ga, 1, none⟩) hne (.slice pa m2 pc)).other (a := ⟨ga, 2, none⟩) hne (.int .i64 fy)).other (a := ⟨ga, 3, none⟩) hne (.bool oy))
          have hSA : (fun w' : World => w'.cell? ⟨px, 2, none⟩ = some (.slice sa n1 sc) ∧ w'.cell? ⟨px, 3, none⟩ = some (.slice wa n2 wc) ∧ w'.cell? ⟨px, 4, none⟩ = some (.int .i64 fz) ∧ w'.cell? ⟨px, 5, none⟩ = some (.bool of) ∧ w'.cell? ⟨px, 6, none⟩ = some (.int .i64 3) ∧ w'.cell? ⟨px, 7, none⟩ = some (.int .i64 40) ∧ w'.cell? ⟨px, 8, none⟩ = some (.int .i64 T0) ∧ w'.cell? ⟨px, 9, none⟩ = some (.slice va vn vc) ∧ w'.cell? ⟨px, 10, none⟩ = some (.int .i64 u0)) ((((W.setCell ⟨ga, 0, none⟩ (.slice qa m1 qc)).setCell ⟨ga, 1, none⟩ (.slice pa m2 pc)).setCell ⟨ga, 2, none⟩ (.int .i64 fy)).setCell ⟨ga, 3, none⟩ (.bool oy)) := ⟨BX.cell 2 _ rfl, BX.cell 3 _ rfl, BX.cell 4 _ rfl, BX.cell 5 _ rfl, BX.cell 6 _ rfl, BX.cell 7 _ rfl, BX.cell 8 _ rfl, BX.cell 9 _ rfl, BX.cell 10 _ rfl⟩
          have HFF : Hid (Unit → M6 w0 (((((((((W.setCell ⟨ga, 0, none⟩ (.slice qa m1 qc)).setCell ⟨ga, 1, none⟩ (.slice pa m2 pc)).setCell ⟨ga, 2, none⟩ (.int .i64 fy)).setCell ⟨ga, 3, none⟩ (.bool oy)).setCell ⟨gb, 0, none⟩ (.int .i64 3)).setCell ⟨gb, 1, none⟩ (.int .i64 40)).setCell ⟨gb, 2, none⟩ (.int .i64 T0)).setCell ⟨gb, 3, none⟩ (.slice va' vn' vc')).setCell ⟨gb, 4, none⟩ (.int .i64 ux0)) px hp J R s turn u out va vn vc i R' sx ox va' vn' vc' ga gb #[.slice qa m1 qc, .slice pa m2 pc, .int .i64 fy, .bool oy] #[.int .i64 3, .int .i64 40, .int .i64 T0, .slice va' vn' vc', .int .i64 ux0]) := fun _ => T6
          clear T6 BA BB M' BW hnp hne
          refine stepL 16 ((((W.setCell ⟨ga, 0, none⟩ (.slice qa m1 qc)).setCell ⟨ga, 1, none⟩ (.slice pa m2 pc)).setCell ⟨ga, 2, none⟩ (.int .i64 fy)).setCell ⟨ga, 3, none⟩ (.bool oy)) rfl (by kernel_rfl) (by rfl) (by go_simp) hSA ?_
          try dsimp only [Act.put]
          try simp only [List.setIfInBounds_toArray, List.set_cons_zero, List.set_cons_succ]
          obtain ⟨W1, hW1⟩ : ∃ W1, W1 = ((((W.setCell ⟨ga, 0, none⟩ (.slice qa m1 qc)).setCell ⟨ga, 1, none⟩ (.slice pa m2 pc)).setCell ⟨ga, 2, none⟩ (.int .i64 fy)).setCell ⟨ga, 3, none⟩ (.bool oy)) := ⟨_, rfl⟩
          rw [← hW1] at HFF BX BB1 ⊢
          clear hW1 q0 q1 q2 q3 f0 f1 f2 f3 hSA
          have q0 := BB1.cell 0 (.int .i64 0) rfl
          have q1 := BB1.cell 1 (.int .i64 0) rfl
          have q2 := BB1.cell 2 (.int .i64 0) rfl
          have q3 := BB1.cell 3 (.slice none 0 0) rfl
          have q4 := BB1.cell 4 (.int .i64 0) rfl
          have f0 := BB1.frozen 0
          have f1 := BB1.frozen 1
          have f2 := BB1.frozen 2
          have f3 := BB1.frozen 3
          have f4 := BB1.frozen 4
          have hnp : px ≠ gb := fun e => by
            rw [e] at BX
            have := cells_type BX BB1
            simp at this
          have BX2 := other_five BX hnp (.int .i64 3) (.int .i64 40) (.int .i64 T0) (.slice va' vn' vc') (.int .i64 ux0)
          have hSB : (fun w' : World => w'.cell? ⟨px, 2, none⟩ = some (.slice sa n1 sc) ∧ w'.cell? ⟨px, 3, none⟩ = some (.slice wa n2 wc) ∧ w'.cell? ⟨px, 4, none⟩ = some (.int .i64 fz) ∧ w'.cell? ⟨px, 5, none⟩ = some (.bool of) ∧ w'.cell? ⟨px, 6, none⟩ = some (.int .i64 3) ∧ w'.cell? ⟨px, 7, none⟩ = some (.int .i64 40) ∧ w'.cell? ⟨px, 8, none⟩ = some (.int .i64 T0) ∧ w'.cell? ⟨px, 9, none⟩ = some (.slice va vn vc) ∧ w'.cell? ⟨px, 10, none⟩ = some (.int .i64 u0)) (((((W1.setCell ⟨gb, 0, none⟩ (.int .i64 3)).setCell ⟨gb, 1, none⟩ (.int .i64 40)).setCell ⟨gb, 2, none⟩ (.int .i64 T0)).setCell ⟨gb, 3, none⟩ (.slice va' vn' vc')).setCell ⟨gb, 4, none⟩ (.int .i64 ux0)) := ⟨BX2.cell 2 _ rfl, BX2.cell 3 _ rfl, BX2.cell 4 _ rfl, BX2.cell 5 _ rfl, BX2.cell 6 _ rfl, BX2.cell 7 _ rfl, BX2.cell 8 _ rfl, BX2.cell 9 _ rfl, BX2.cell 10 _ rfl⟩
          clear BX BB1 hnp BX2
          refine stepL 17 (((((W1.setCell ⟨gb, 0, none⟩ (.int .i64 3)).setCell ⟨gb, 1, none⟩ (.int .i64 40)).setCell ⟨gb, 2, none⟩ (.int .i64 T0)).setCell ⟨gb, 3, none⟩ (.slice va' vn' vc')).setCell ⟨gb, 4, none⟩ (.int .i64 ux0)) rfl (by kernel_rfl) (by rfl) (by go_simp) hSB ?_
          try dsimp only [Act.put]
          try simp only [List.setIfInBounds_toArray, List.set_cons_zero, List.set_cons_succ]
          obtain ⟨W6, hW6⟩ : ∃ W6, W6 = (((((W1.setCell ⟨gb, 0, none⟩ (.int .i64 3)).setCell ⟨gb, 1, none⟩ (.int .i64 40)).setCell ⟨gb, 2, none⟩ (.int .i64 T0)).setCell ⟨gb, 3, none⟩ (.slice va' vn' vc')).setCell ⟨gb, 4, none⟩ (.int .i64 ux0)) := ⟨_, rfl⟩
          rw [← hW6] at HFF ⊢
          clear hW6 q0 q1 q2 q3 q4 f0 f1 f2 f3 f4 hSB
          refine doneL (by kernel_rfl) ?_
          try dsimp only [Act.put]
          try simp only [List.setIfInBounds_toArray, List.set_cons_zero, List.set_cons_succ]
          unfold Oper.wp
          go_simp
          go_wp2_with fail
          go_meet
          exact ⟨ga, gb, R', va', vn', vc', qa, m1, qc, pa, m2, pc, fy, oy, W6, rfl, rfl, rfl, rfl, HQ.out, HFF.out ()⟩
        · try dsimp only [Act.put]
          try simp only [List.setIfInBounds_toArray, List.set_cons_zero, List.set_cons_succ]
          refine newL 14 ((w2.alloc (.cells #[.int .i64 0, .int .i64 0, .int .i64 0, .slice none 0 0, .int .i64 0] 41)).alloc (.cells #[.slice none 0 0, .slice none 0 0, .int .i64 0, .bool false] 30)) (.pointer (some ⟨w2.heap.size + 1, 0, none⟩)) rfl (by kernel_rfl) (by rfl) (by go_simp) (HS.out _ ((b12.alloc b12.size (.cells #[.int .i64 0, .int .i64 0, .int .i64 0, .slice none 0 0, .int .i64 0] 41)).alloc (by rw [World.size_alloc]; have := b12.size; omega) (.cells #[.slice none 0 0, .slice none 0 0, .int .i64 0, .bool false] 30))) ?_
          try dsimp only [Act.put]
          try simp only [List.setIfInBounds_toArray, List.set_cons_zero, List.set_cons_succ]
          have M' : Mr ((w2.alloc (.cells #[.int .i64 0, .int .i64 0, .int .i64 0, .slice none 0 0, .int .i64 0] 41)).alloc (.cells #[.slice none 0 0, .slice none 0 0, .int .i64 0, .bool false] 30)) J px (fun x => x = w2.heap.size + 1 ∨ x = w2.heap.size) R' sx ox va' vn' vc' := ((m.grow (E2 := fun x => x = w2.heap.size + 1 ∨ x = w2.heap.size) (fun x hx => (by rcases hx with hx | hx <;> (right; omega)))).over ((below1 w2 (.cells #[.int .i64 0, .int .i64 0, .int .i64 0, .slice none 0 0, .int .i64 0] 41)).trans ((below1 (w2.alloc (.cells #[.int .i64 0, .int .i64 0, .int .i64 0, .slice none 0 0, .int .i64 0] 41)) (.cells #[.slice none 0 0, .slice none 0 0, .int .i64 0, .bool false] 30)).mono (below1 w2 (.cells #[.int .i64 0, .int .i64 0, .int .i64 0, .slice none 0 0, .int .i64 0] 41)).size)))
          have BW : Below w1.heap.size w1 ((w2.alloc (.cells #[.int .i64 0, .int .i64 0, .int .i64 0, .slice none 0 0, .int .i64 0] 41)).alloc (.cells #[.slice none 0 0, .slice none 0 0, .int .i64 0, .bool false] 30)) := ((b12.alloc b12.size (.cells #[.int .i64 0, .int .i64 0, .int .i64 0, .slice none 0 0, .int .i64 0] 41)).alloc (by rw [World.size_alloc]; have := b12.size; omega) (.cells #[.slice none 0 0, .slice none 0 0, .int .i64 0, .bool false] 30))
          have BA : Box ((w2.alloc (.cells #[.int .i64 0, .int .i64 0, .int .i64 0, .slice none 0 0, .int .i64 0] 41)).alloc (.cells #[.slice none 0 0, .slice none 0 0, .int .i64 0, .bool false] 30)) (w2.heap.size + 1) 30 #[.slice none 0 0, .slice none 0 0, .int .i64 0, .bool false] := box_second w2 (.cells #[.int .i64 0, .int .i64 0, .int .i64 0, .slice none 0 0, .int .i64 0] 41) #[.slice none 0 0, .slice none 0 0, .int .i64 0, .bool false] 30
          have BB : Box ((w2.alloc (.cells #[.int .i64 0, .int .i64 0, .int .i64 0, .slice none 0 0, .int .i64 0] 41)).alloc (.cells #[.slice none 0 0, .slice none 0 0, .int .i64 0, .bool false] 30)) (w2.heap.size) 41 #[.int .i64 0, .int .i64 0, .int .i64 0, .slice none 0 0, .int .i64 0] := box_old w2 #[.int .i64 0, .int .i64 0, .int .i64 0, .slice none 0 0, .int .i64 0] 41 (.cells #[.slice none 0 0, .slice none 0 0, .int .i64 0, .bool false] 30)
          have hsz := b12.size
          obtain ⟨ga, hga⟩ : ∃ ga, ga = w2.heap.size + 1 := ⟨_, rfl⟩
          obtain ⟨gb, hgb⟩ : ∃ gb, gb = w2.heap.size := ⟨_, rfl⟩
          obtain ⟨W, hW⟩ : ∃ W, W = ((w2.alloc (.cells #[.int .i64 0, .int .i64 0, .int .i64 0, .slice none 0 0, .int .i64 0] 41)).alloc (.cells #[.slice none 0 0, .slice none 0 0, .int .i64 0, .bool false] 30)) := ⟨_, rfl⟩
          have hla : w1.heap.size ≤ ga := by omega
          have hlb : w1.heap.size ≤ gb := by omega
          replace M' : Mr W J px (fun x => x = ga ∨ x = gb) R' sx ox va' vn' vc' := by rw [hW, hga, hgb]; exact M'
          replace BW : Below w1.heap.size w1 W := by rw [hW]; exact BW
          replace BA : Box W ga 30 #[.slice none 0 0, .slice none 0 0, .int .i64 0, .bool false] := by rw [hW, hga]; exact BA
          replace BB : Box W gb 41 #[.int .i64 0, .int .i64 0, .int .i64 0, .slice none 0 0, .int .i64 0] := by rw [hW, hgb]; exact BB
          rw [← hW]
          rw [show ((some ⟨w2.heap.size, 0, none⟩) : Option Addr) = some ⟨gb, 0, none⟩ by rw [hgb]]
          rw [show ((some ⟨w2.heap.size + 1, 0, none⟩) : Option Addr) = some ⟨ga, 0, none⟩ by rw [hga]]
          clear hga hgb hW hsz
          have q0 := BA.cell 0 (.slice none 0 0) rfl
          have q1 := BA.cell 1 (.slice none 0 0) rfl
          have q2 := BA.cell 2 (.int .i64 0) rfl
          have q3 := BA.cell 3 (.bool false) rfl
          have f0 := BA.frozen 0
          have f1 := BA.frozen 1
          have f2 := BA.frozen 2
          have f3 := BA.frozen 3
          have T6 := tail6 HO1.out.1 BW M' BA BB (.inl rfl) (.inr rfl) hla hlb (.slice qa m1 qc) (.slice pa m2 pc) (.int .i64 fy) (.bool oy) (.int .i64 3) (.int .i64 40) (.int .i64 T0) (.slice va' vn' vc') (.int .i64 ux0)
          have hnp : px ≠ ga := fun e => by have := HO1.out.1.box.lt; omega
          have hne : gb ≠ ga := fun e => by
            rw [e] at BB
            have := cells_type BB BA
            simp at this
          have BX := (((((HBX.out.over BW).other (a := ⟨ga, 0, none⟩) hnp (.slice qa m1 qc)).other (a := ⟨ga, 1, none⟩) hnp (.slice pa m2 pc)).other (a := ⟨ga, 2, none⟩) hnp (.int .i64 fy)).other (a := ⟨ga, 3, none⟩) hnp (.bool oy))
          have BB1 := ((((BB.other (a := ⟨ga, 0, none⟩) hne (.slice qa m1 qc)).other (a := ⟨ga, 1, none⟩) hne (.slice pa m2 pc)).other (a := ⟨ga, 2, none⟩) hne (.int .i64 fy)).other (a := ⟨ga, 3, none⟩) hne (.bool oy))
          have hSA : (fun w' : World => w'.cell? ⟨px, 2, none⟩ = some (.slice sa n1 sc) ∧ w'.cell? ⟨px, 3, none⟩ = some (.slice wa n2 wc) ∧ w'.cell? ⟨px, 4, none⟩ = some (.int .i64 fz) ∧ w'.cell? ⟨px, 5, none⟩ = some (.bool of) ∧ w'.cell? ⟨px, 6, none⟩ = some (.int .i64 3) ∧ w'.cell? ⟨px, 7, none⟩ = some (.int .i64 40) ∧ w'.cell? ⟨px, 8, none⟩ = some (.int .i64 T0) ∧ w'.cell? ⟨px, 9, none⟩ = some (.slice va vn vc) ∧ w'.cell? ⟨px, 10, none⟩ = some (.int .i64 u0)) ((((W.setCell ⟨ga, 0, none⟩ (.slice qa m1 qc)).setCell ⟨ga, 1, none⟩ (.slice pa m2 pc)).setCell ⟨ga, 2, none⟩ (.int .i64 fy)).setCell ⟨ga, 3, none⟩ (.bool oy)) := ⟨BX.cell 2 _ rfl, BX.cell 3 _ rfl, BX.cell 4 _ rfl, BX.cell 5 _ rfl, BX.cell 6 _ rfl, BX.cell 7 _ rfl, BX.cell 8 _ rfl, BX.cell 9 _ rfl, BX.cell 10 _ rfl⟩
          have HFF : Hid (Unit → M6 w0 (((((((((W.setCell ⟨ga, 0, none⟩ (.slice qa m1 qc)).setCell ⟨ga, 1, none⟩ (.slice pa m2 pc)).setCell ⟨ga, 2, none⟩ (.int .i64 fy)).setCell ⟨ga, 3, none⟩ (.bool oy)).setCell ⟨gb, 0, none⟩ (.int .i64 3)).setCell ⟨gb, 1, none⟩ (.int .i64 40)).setCell ⟨gb, 2, none⟩ (.int .i64 T0)).setCell ⟨gb, 3, none⟩ (.slice va' vn' vc')).setCell ⟨gb, 4, none⟩ (.int .i64 ux0)) px hp J R s turn u out va vn vc i R' sx ox va' vn' vc' ga gb #[.slice qa m1 qc, .slice pa m2 pc, .int .i64 fy, .bool oy] #[.int .i64 3, .int .i64 40, .int .i64 T0, .slice va' vn' vc', .int .i64 ux0]) := fun _ => T6
          clear T6 BA BB M' BW hnp hne
          refine stepL 16 ((((W.setCell ⟨ga, 0, none⟩ (.slice qa m1 qc)).setCell ⟨ga, 1, none⟩ (.slice pa m2 pc)).setCell ⟨ga, 2, none⟩ (.int .i64 fy)).setCell ⟨ga, 3, none⟩ (.bool oy)) rfl (by kernel_rfl) (by rfl) (by go_simp) hSA ?_
          try dsimp only [Act.put]
          try simp only [List.setIfInBounds_toArray, List.set_cons_zero, List.set_cons_succ]
          obtain ⟨W1, hW1⟩ : ∃ W1, W1 = ((((W.setCell ⟨ga, 0, none⟩ (.slice qa m1 qc)).setCell ⟨ga, 1, none⟩ (.slice pa m2 pc)).setCell ⟨ga, 2, none⟩ (.int .i64 fy)).setCell ⟨ga, 3, none⟩ (.bool oy)) := ⟨_, rfl⟩
          rw [← hW1] at HFF BX BB1 ⊢
          clear hW1 q0 q1 q2 q3 f0 f1 f2 f3 hSA
          have q0 := BB1.cell 0 (.int .i64 0) rfl
          have q1 := BB1.cell 1 (.int .i64 0) rfl
          have q2 := BB1.cell 2 (.int .i64 0) rfl
          have q3 := BB1.cell 3 (.slice none 0 0) rfl
          have q4 := BB1.cell 4 (.int .i64 0) rfl
          have f0 := BB1.frozen 0
          have f1 := BB1.frozen 1
          have f2 := BB1.frozen 2
          have f3 := BB1.frozen 3
          have f4 := BB1.frozen 4
          have hnp : px ≠ gb := fun e => by
            rw [e] at BX
            have := cells_type BX BB1
            simp at this
          have BX2 := other_five BX hnp (.int .i64 3) (.int .i64 40) (.int .i64 T0) (.slice va' vn' vc') (.int .i64 ux0)
          have hSB : (fun w' : World => w'.cell? ⟨px, 2, none⟩ = some (.slice sa n1 sc) ∧ w'.cell? ⟨px, 3, none⟩ = some (.slice wa n2 wc) ∧ w'.cell? ⟨px, 4, none⟩ = some (.int .i64 fz) ∧ w'.cell? ⟨px, 5, none⟩ = some (.bool of) ∧ w'.cell? ⟨px, 6, none⟩ = some (.int .i64 3) ∧ w'.cell? ⟨px, 7, none⟩ = some (.int .i64 40) ∧ w'.cell? ⟨px, 8, none⟩ = some (.int .i64 T0) ∧ w'.cell? ⟨px, 9, none⟩ = some (.slice va vn vc) ∧ w'.cell? ⟨px, 10, none⟩ = some (.int .i64 u0)) (((((W1.setCell ⟨gb, 0, none⟩ (.int .i64 3)).setCell ⟨gb, 1, none⟩ (.int .i64 40)).setCell ⟨gb, 2, none⟩ (.int .i64 T0)).setCell ⟨gb, 3, none⟩ (.slice va' vn' vc')).setCell ⟨gb, 4, none⟩ (.int .i64 ux0)) := ⟨BX2.cell 2 _ rfl, BX2.cell 3 _ rfl, BX2.cell 4 _ rfl, BX2.cell 5 _ rfl, BX2.cell 6 _ rfl, BX2.cell 7 _ rfl, BX2.cell 8 _ rfl, BX2.cell 9 _ rfl, BX2.cell 10 _ rfl⟩
          clear BX BB1 hnp BX2
          refine stepL 17 (((((W1.setCell ⟨gb, 0, none⟩ (.int .i64 3)).setCell ⟨gb, 1, none⟩ (.int .i64 40)).setCell ⟨gb, 2, none⟩ (.int .i64 T0)).setCell ⟨gb, 3, none⟩ (.slice va' vn' vc')).setCell ⟨gb, 4, none⟩ (.int .i64 ux0)) rfl (by kernel_rfl) (by rfl) (by go_simp) hSB ?_
          try dsimp only [Act.put]
          try simp only [List.setIfInBounds_toArray, List.set_cons_zero, List.set_cons_succ]
          obtain ⟨W6, hW6⟩ : ∃ W6, W6 = (((((W1.setCell ⟨gb, 0, none⟩ (.int .i64 3)).setCell ⟨gb, 1, none⟩ (.int .i64 40)).setCell ⟨gb, 2, none⟩ (.int .i64 T0)).setCell ⟨gb, 3, none⟩ (.slice va' vn' vc')).setCell ⟨gb, 4, none⟩ (.int .i64 ux0)) := ⟨_, rfl⟩
          rw [← hW6] at HFF ⊢
          clear hW6 q0 q1 q2 q3 q4 f0 f1 f2 f3 f4 hSB
          refine doneL (by kernel_rfl) ?_
          try dsimp only [Act.put]
          try simp only [List.setIfInBounds_toArray, List.set_cons_zero, List.set_cons_succ]
          unfold Oper.wp
          go_simp
          go_wp2_with fail
          go_meet
          exact ⟨ga, gb, R', va', vn', vc', qa, m1, qc, pa, m2, pc, fy, oy, W6, rfl, rfl, rfl, rfl, HQ.out, HFF.out ()⟩
      · try dsimp only [Act.put]
        try simp only [List.setIfInBounds_toArray, List.set_cons_zero, List.set_cons_succ]
        refine callNewL 9 15 (f := 20) (vs := #[.agg #[.slice sa n1 sc, .slice wa n2 wc, .int .i64 fz, .bool of], .agg #[.int .i64 3, .int .i64 40, .int .i64 T0, .slice va vn vc, .int .i64 u0], .string S2]) ((w1.drew.alloc (.cells #[.slice none 0 0, .slice none 0 0, .int .i64 0, .bool false] 30)).alloc (.cells #[.int .i64 0, .int .i64 0, .int .i64 0, .slice none 0 0, .int .i64 0] 41)) (.pointer (some ⟨w1.heap.size + 1, 0, none⟩)) rfl rfl (by kernel_rfl) (by rfl) (by rfl) (by go_simp) (by go_simp) (HS.out _ bDab) ?_ ?_
        · refine Calls.mono (HREF.out (w1.drew.alloc (.cells #[.slice none 0 0, .slice none 0 0, .int .i64 0, .bool false] 30)) (fun x => x = w1.heap.size) bDa (fun x hx => by have := HSZ.out; omega)) ?_
          rintro e w2 ⟨⟨R', va', vn', vc', qa, m1, qc, pa, m2, pc, fy, oy, hq, rfl, m⟩, b2⟩
          have HQ : Hid (rda R' sx = #[.slice qa m1 qc, .slice pa m2 pc, .int .i64 fy, .bool oy]) := hq
          clear hq
          have b12 : Below w1.heap.size w1 w2 := bDa.trans (b2.mono bDa.size)
          have hH2 := HS.out w2 b12
          refine ⟨_, rfl, hH2, ?_⟩
          try dsimp only [Act.put]
          try simp only [List.setIfInBounds_toArray, List.set_cons_zero, List.set_cons_succ]
          ((refine takeL 10 (v := ?_) rfl (by kernel_rfl) (by kernel_rfl) (by kernel_rfl) (fun _ _ _ h => h) (by rfl) hH2 ?_ ?_; rotate_left; focus (intro w hSw; (try dsimp only at hSw); go_simp <;> with_reducible rfl); (try simp only [Act.put, List.setIfInBounds_toArray, List.set_cons_zero, List.set_cons_succ])); (refine takeL 11 (v := ?_) rfl (by kernel_rfl) (by kernel_rfl) (by kernel_rfl) (fun _ _ _ h => h) (by rfl) hH2 ?_ ?_; rotate_left; focus (intro w hSw; (try dsimp only at hSw); go_simp <;> with_reducible rfl); (try simp only [Act.put, List.setIfInBounds_toArray, List.set_cons_zero, List.set_cons_succ])); (refine takeL 12 (v := ?_) rfl (by kernel_rfl) (by kernel_rfl) (by kernel_rfl) (fun _ _ _ h => h) (by rfl) hH2 ?_ ?_; rotate_left; focus (intro w hSw; (try dsimp only at hSw); go_simp <;> with_reducible rfl); (try simp only [Act.put, List.setIfInBounds_toArray, List.set_cons_zero, List.set_cons_succ])); (refine takeL 13 (v := ?_) rfl (by kernel_rfl) (by kernel_rfl) (by kernel_rfl) (fun _ _ _ h => h) (by rfl) hH2 ?_ ?_; rotate_left; focus (intro w hSw; (try dsimp only at hSw); go_simp <;> with_reducible rfl); (try simp only [Act.put, List.setIfInBounds_toArray, List.set_cons_zero, List.set_cons_succ])))
          try dsimp only [Act.put]
          try simp only [List.setIfInBounds_toArray, List.set_cons_zero, List.set_cons_succ]
          refine newL 15 (w2.alloc (.cells #[.int .i64 0, .int .i64 0, .int .i64 0, .slice none 0 0, .int .i64 0] 41)) (.pointer (some ⟨w2.heap.size, 0, none⟩)) rfl (by kernel_rfl) (by rfl) (by go_simp) (HS.out _ (b12.alloc b12.size _)) ?_
          try dsimp only [Act.put]
          try simp only [List.setIfInBounds_toArray, List.set_cons_zero, List.set_cons_succ]
          have M' : Mr (w2.alloc (.cells #[.int .i64 0, .int .i64 0, .int .i64 0, .slice none 0 0, .int .i64 0] 41)) J px (fun x => x = w1.heap.size ∨ x = w2.heap.size) R' sx ox va' vn' vc' := ((m.grow (E2 := fun x => x = w1.heap.size ∨ x = w2.heap.size) (fun x hx => (by rcases hx with hx | hx; exact .inl hx; right; omega))).over (below1 w2 (.cells #[.int .i64 0, .int .i64 0, .int .i64 0, .slice none 0 0, .int .i64 0] 41)))
          have BW : Below w1.heap.size w1 (w2.alloc (.cells #[.int .i64 0, .int .i64 0, .int .i64 0, .slice none 0 0, .int .i64 0] 41)) := b12.alloc b12.size _
          have BA : Box (w2.alloc (.cells #[.int .i64 0, .int .i64 0, .int .i64 0, .slice none 0 0, .int .i64 0] 41)) (w1.heap.size) 30 #[.slice none 0 0, .slice none 0 0, .int .i64 0, .bool false] := ((box_new w1.drew #[.slice none 0 0, .slice none 0 0, .int .i64 0, .bool false] 30).over b2).alloc (.cells #[.int .i64 0, .int .i64 0, .int .i64 0, .slice none 0 0, .int .i64 0] 41)
          have BB : Box (w2.alloc (.cells #[.int .i64 0, .int .i64 0, .int .i64 0, .slice none 0 0, .int .i64 0] 41)) (w2.heap.size) 41 #[.int .i64 0, .int .i64 0, .int .i64 0, .slice none 0 0, .int .i64 0] := box_new w2 #[.int .i64 0, .int .i64 0, .int .i64 0, .slice none 0 0, .int .i64 0] 41
          have hsz := b12.size
          obtain ⟨ga, hga⟩ : ∃ ga, ga = w1.heap.size := ⟨_, rfl⟩
          obtain ⟨gb, hgb⟩ : ∃ gb, gb = w2.heap.size := ⟨_, rfl⟩
          obtain ⟨W, hW⟩ : ∃ W, W = (w2.alloc (.cells #[.int .i64 0, .int .i64 0, .int .i64 0, .slice none 0 0, .int .i64 0] 41)) := ⟨_, rfl⟩
          have hla : w1.heap.size ≤ ga := by omega
          have hlb : w1.heap.size ≤ gb := by omega
          replace M' : Mr W J px (fun x => x = ga ∨ x = gb) R' sx ox va' vn' vc' := by rw [hW, hga, hgb]; exact M'
          replace BW : Below w1.heap.size w1 W := by rw [hW]; exact BW
          replace BA : Box W ga 30 #[.slice none 0 0, .slice none 0 0, .int .i64 0, .bool false] := by rw [hW, hga]; exact BA
          replace BB : Box W gb 41 #[.int .i64 0, .int .i64 0, .int .i64 0, .slice none 0 0, .int .i64 0] := by rw [hW, hgb]; exact BB
          rw [← hW]
          rw [show ((some ⟨w2.heap.size, 0, none⟩) : Option Addr) = some ⟨gb, 0, none⟩ by rw [hgb]]
          rw [show ((some ⟨w1.heap.size, 0, none⟩) : Option Addr) = some ⟨ga, 0, none⟩ by rw [hga]]
          clear hga hgb hW hsz
          have q0 := BA.cell 0 (.slice none 0 0) rfl
          have q1 := BA.cell 1 (.slice none 0 0) rfl
          have q2 := BA.cell 2 (.int .i64 0) rfl
          have q3 := BA.cell 3 (.bool false) rfl
          have f0 := BA.frozen 0
          have f1 := BA.frozen 1
          have f2 := BA.frozen 2
          have f3 := BA.frozen 3
          have T6 := tail6 HO1.out.1 BW M' BA BB (.inl rfl) (.inr rfl) hla hlb (.slice qa m1 qc) (.slice pa m2 pc) (.int .i64 fy) (.bool oy) (.int .i64 3) (.int .i64 40) (.int .i64 T0) (.slice va' vn' vc') (.int .i64 ux0)
          have hnp : px ≠ ga := fun e => by have := HO1.out.1.box.lt; omega
          have hne : gb ≠ ga := fun e => by
            rw [e] at BB
            have := cells_type BB BA
            simp at this
          have BX := (((((HBX.out.over BW).other (a := ⟨ga, 0, none⟩) hnp (.slice qa m1 qc)).other (a := ⟨ga, 1, none⟩) hnp (.slice pa m2 pc)).other (a := ⟨ga, 2, none⟩) hnp (.int .i64 fy)).other (a := ⟨ga, 3, none⟩) hnp (.bool oy))
          have BB1 := ((((BB.other (a := ⟨ga, 0, none⟩) hne (.slice qa m1 qc)).other (a := ⟨ga, 1, none⟩) hne (.slice pa m2 pc)).other (a := ⟨ga, 2, none⟩) hne (.int .i64 fy)).other (a := ⟨ga, 3, none⟩) hne (.bool oy))
          have hSA : (fun w' : World => w'.cell? ⟨px, 2, none⟩ = some (.slice sa n1 sc) ∧ w'.cell? ⟨px, 3, none⟩ = some (.slice wa n2 wc) ∧ w'.cell? ⟨px, 4, none⟩ = some (.int .i64 fz) ∧ w'.cell? ⟨px, 5, none⟩ = some (.bool of) ∧ w'.cell? ⟨px, 6, none⟩ = some (.int .i64 3) ∧ w'.cell? ⟨px, 7, none⟩ = some (.int .i64 40) ∧ w'.cell? ⟨px, 8, none⟩ = some (.int .i64 T0) ∧ w'.cell? ⟨px, 9, none⟩ = some (.slice va vn vc) ∧ w'.cell? ⟨px, 10, none⟩ = some (.int .i64 u0)) ((((W.setCell ⟨ga, 0, none⟩ (.slice qa m1 qc)).setCell ⟨ga, 1, none⟩ (.slice pa m2 pc)).setCell ⟨ga, 2, none⟩ (.int .i64 fy)).setCell ⟨ga, 3, none⟩ (.bool oy)) := ⟨BX.cell 2 _ rfl, BX.cell 3 _ rfl, BX.cell 4 _ rfl, BX.cell 5 _ rfl, BX.cell 6 _ rfl, BX.cell 7 _ rfl, BX.cell 8 _ rfl, BX.cell 9 _ rfl, BX.cell 10 _ rfl⟩
          have HFF : Hid (Unit → M6 w0 (((((((((W.setCell ⟨ga, 0, none⟩ (.slice qa m1 qc)).setCell ⟨ga, 1, none⟩ (.slice pa m2 pc)).setCell ⟨ga, 2, none⟩ (.int .i64 fy)).setCell ⟨ga, 3, none⟩ (.bool oy)).setCell ⟨gb, 0, none⟩ (.int .i64 3)).setCell ⟨gb, 1, none⟩ (.int .i64 40)).setCell ⟨gb, 2, none⟩ (.int .i64 T0)).setCell ⟨gb, 3, none⟩ (.slice va' vn' vc')).setCell ⟨gb, 4, none⟩ (.int .i64 ux0)) px hp J R s turn u out va vn vc i R' sx ox va' vn' vc' ga gb #[.slice qa m1 qc, .slice pa m2 pc, .int .i64 fy, .bool oy] #[.int .i64 3, .int .i64 40, .int .i64 T0, .slice va' vn' vc', .int .i64 ux0]) := fun _ => T6
          clear T6 BA BB M' BW hnp hne
          refine stepL 16 ((((W.setCell ⟨ga, 0, none⟩ (.slice qa m1 qc)).setCell ⟨ga, 1, none⟩ (.slice pa m2 pc)).setCell ⟨ga, 2, none⟩ (.int .i64 fy)).setCell ⟨ga, 3, none⟩ (.bool oy)) rfl (by kernel_rfl) (by rfl) (by go_simp) hSA ?_
          try dsimp only [Act.put]
          try simp only [List.setIfInBounds_toArray, List.set_cons_zero, List.set_cons_succ]
          obtain ⟨W1, hW1⟩ : ∃ W1, W1 = ((((W.setCell ⟨ga, 0, none⟩ (.slice qa m1 qc)).setCell ⟨ga, 1, none⟩ (.slice pa m2 pc)).setCell ⟨ga, 2, none⟩ (.int .i64 fy)).setCell ⟨ga, 3, none⟩ (.bool oy)) := ⟨_, rfl⟩
          rw [← hW1] at HFF BX BB1 ⊢
          clear hW1 q0 q1 q2 q3 f0 f1 f2 f3 hSA
          have q0 := BB1.cell 0 (.int .i64 0) rfl
          have q1 := BB1.cell 1 (.int .i64 0) rfl
          have q2 := BB1.cell 2 (.int .i64 0) rfl
          have q3 := BB1.cell 3 (.slice none 0 0) rfl
          have q4 := BB1.cell 4 (.int .i64 0) rfl
          have f0 := BB1.frozen 0
          have f1 := BB1.frozen 1
          have f2 := BB1.frozen 2
          have f3 := BB1.frozen 3
          have f4 := BB1.frozen 4
          have hnp : px ≠ gb := fun e => by
            rw [e] at BX
            have := cells_type BX BB1
            simp at this
          have BX2 := other_five BX hnp (.int .i64 3) (.int .i64 40) (.int .i64 T0) (.slice va' vn' vc') (.int .i64 ux0)
          have hSB : (fun w' : World => w'.cell? ⟨px, 2, none⟩ = some (.slice sa n1 sc) ∧ w'.cell? ⟨px, 3, none⟩ = some (.slice wa n2 wc) ∧ w'.cell? ⟨px, 4, none⟩ = some (.int .i64 fz) ∧ w'.cell? ⟨px, 5, none⟩ = some (.bool of) ∧ w'.cell? ⟨px, 6, none⟩ = some (.int .i64 3) ∧ w'.cell? ⟨px, 7, none⟩ = some (.int .i64 40) ∧ w'.cell? ⟨px, 8, none⟩ = some (.int .i64 T0) ∧ w'.cell? ⟨px, 9, none⟩ = some (.slice va vn vc) ∧ w'.cell? ⟨px, 10, none⟩ = some (.int .i64 u0)) (((((W1.setCell ⟨gb, 0, none⟩ (.int .i64 3)).setCell ⟨gb, 1, none⟩ (.int .i64 40)).setCell ⟨gb, 2, none⟩ (.int .i64 T0)).setCell ⟨gb, 3, none⟩ (.slice va' vn' vc')).setCell ⟨gb, 4, none⟩ (.int .i64 ux0)) := ⟨BX2.cell 2 _ rfl, BX2.cell 3 _ rfl, BX2.cell 4 _ rfl, BX2.cell 5 _ rfl, BX2.cell 6 _ rfl, BX2.cell 7 _ rfl, BX2.cell 8 _ rfl, BX2.cell 9 _ rfl, BX2.cell 10 _ rfl⟩
          clear BX BB1 hnp BX2
          refine stepL 17 (((((W1.setCell ⟨gb, 0, none⟩ (.int .i64 3)).setCell ⟨gb, 1, none⟩ (.int .i64 40)).setCell ⟨gb, 2, none⟩ (.int .i64 T0)).setCell ⟨gb, 3, none⟩ (.slice va' vn' vc')).setCell ⟨gb, 4, none⟩ (.int .i64 ux0)) rfl (by kernel_rfl) (by rfl) (by go_simp) hSB ?_
          try dsimp only [Act.put]
          try simp only [List.setIfInBounds_toArray, List.set_cons_zero, List.set_cons_succ]
          obtain ⟨W6, hW6⟩ : ∃ W6, W6 = (((((W1.setCell ⟨gb, 0, none⟩ (.int .i64 3)).setCell ⟨gb, 1, none⟩ (.int .i64 40)).setCell ⟨gb, 2, none⟩ (.int .i64 T0)).setCell ⟨gb, 3, none⟩ (.slice va' vn' vc')).setCell ⟨gb, 4, none⟩ (.int .i64 ux0)) := ⟨_, rfl⟩
          rw [← hW6] at HFF ⊢
          clear hW6 q0 q1 q2 q3 q4 f0 f1 f2 f3 f4 hSB
          refine doneL (by kernel_rfl) ?_
          try dsimp only [Act.put]
          try simp only [List.setIfInBounds_toArray, List.set_cons_zero, List.set_cons_succ]
          unfold Oper.wp
          go_simp
          go_wp2_with fail
          go_meet
          exact ⟨ga, gb, R', va', vn', vc', qa, m1, qc, pa, m2, pc, fy, oy, W6, rfl, rfl, rfl, rfl, HQ.out, HFF.out ()⟩
        · try dsimp only [Act.put]
          try simp only [List.setIfInBounds_toArray, List.set_cons_zero, List.set_cons_succ]
          refine callL 9 (f := 20) (vs := #[.agg #[.slice sa n1 sc, .slice wa n2 wc, .int .i64 fz, .bool of], .agg #[.int .i64 3, .int .i64 40, .int .i64 T0, .slice va vn vc, .int .i64 u0], .string S2]) rfl (by kernel_rfl) (by rfl) (by go_simp) ?_
          refine Calls.mono (HREF.out ((w1.drew.alloc (.cells #[.slice none 0 0, .slice none 0 0, .int .i64 0, .bool false] 30)).alloc (.cells #[.int .i64 0, .int .i64 0, .int .i64 0, .slice none 0 0, .int .i64 0] 41)) (fun x => x = w1.heap.size ∨ x = w1.heap.size + 1) bDab (fun x hx => by have := HSZ.out; omega)) ?_
          rintro e w2 ⟨⟨R', va', vn', vc', qa, m1, qc, pa, m2, pc, fy, oy, hq, rfl, m⟩, b2⟩
          have HQ : Hid (rda R' sx = #[.slice qa m1 qc, .slice pa m2 pc, .int .i64 fy, .bool oy]) := hq
          clear hq
          have b12 : Below w1.heap.size w1 w2 := bDab.trans (b2.mono bDab.size)
          have hH2 := HS.out w2 b12
          refine ⟨_, rfl, hH2, ?_⟩
          try dsimp only [Act.put]
          try simp only [List.setIfInBounds_toArray, List.set_cons_zero, List.set_cons_succ]
          ((refine takeL 10 (v := ?_) rfl (by kernel_rfl) (by kernel_rfl) (by kernel_rfl) (fun _ _ _ h => h) (by rfl) hH2 ?_ ?_; rotate_left; focus (intro w hSw; (try dsimp only at hSw); go_simp <;> with_reducible rfl); (try simp only [Act.put, List.setIfInBounds_toArray, List.set_cons_zero, List.set_cons_succ])); (refine takeL 11 (v := ?_) rfl (by kernel_rfl) (by kernel_rfl) (by kernel_rfl) (fun _ _ _ h => h) (by rfl) hH2 ?_ ?_; rotate_left; focus (intro w hSw; (try dsimp only at hSw); go_simp <;> with_reducible rfl); (try simp only [Act.put, List.setIfInBounds_toArray, List.set_cons_zero, List.set_cons_succ])); (refine takeL 12 (v := ?_) rfl (by kernel_rfl) (by kernel_rfl) (by kernel_rfl) (fun _ _ _ h => h) (by rfl) hH2 ?_ ?_; rotate_left; focus (intro w hSw; (try dsimp only at hSw); go_simp <;> with_reducible rfl); (try simp only [Act.put, List.setIfInBounds_toArray, List.set_cons_zero, List.set_cons_succ])); (refine takeL 13 (v := ?_) rfl (by kernel_rfl) (by kernel_rfl) (by kernel_rfl) (fun _ _ _ h => h) (by rfl) hH2 ?_ ?_; rotate_left; focus (intro w hSw; (try dsimp only at hSw); go_simp <;> with_reducible rfl); (try simp only [Act.put, List.setIfInBounds_toArray, List.set_cons_zero, List.set_cons_succ])))
          try dsimp only [Act.put]
          try simp only [List.setIfInBounds_toArray, List.set_cons_zero, List.set_cons_succ]
          have M' : Mr w2 J px (fun x => x = w1.heap.size ∨ x = w1.heap.size + 1) R' sx ox va' vn' vc' := m
          have BW : Below w1.heap.size w1 w2 := b12
          have BA : Box w2 (w1.heap.size) 30 #[.slice none 0 0, .slice none 0 0, .int .i64 0, .bool false] := (box_old w1.drew #[.slice none 0 0, .slice none 0 0, .int .i64 0, .bool false] 30 (.cells #[.int .i64 0, .int .i64 0, .int .i64 0, .slice none 0 0, .int .i64 0] 41)).over b2
          have BB : Box w2 (w1.heap.size + 1) 41 #[.int .i64 0, .int .i64 0, .int .i64 0, .slice none 0 0, .int .i64 0] := (box_second w1.drew (.cells #[.slice none 0 0, .slice none 0 0, .int .i64 0, .bool false] 30) #[.int .i64 0, .int .i64 0, .int .i64 0, .slice none 0 0, .int .i64 0] 41).over b2
          have hsz := b12.size
          obtain ⟨ga, hga⟩ : ∃ ga, ga = w1.heap.size := ⟨_, rfl⟩
          obtain ⟨gb, hgb⟩ : ∃ gb, gb = w1.heap.size + 1 := ⟨_, rfl⟩
          obtain ⟨W, hW⟩ : ∃ W, W = w2 := ⟨_, rfl⟩
          have hla : w1.heap.size ≤ ga := by omega
          have hlb : w1.heap.size ≤ gb := by omega
          replace M' : Mr W J px (fun x => x = ga ∨ x = gb) R' sx ox va' vn' vc' := by rw [hW, hga, hgb]; exact M'
          replace BW : Below w1.heap.size w1 W := by rw [hW]; exact BW
          replace BA : Box W ga 30 #[.slice none 0 0, .slice none 0 0, .int .i64 0, .bool false] := by rw [hW, hga]; exact BA
          replace BB : Box W gb 41 #[.int .i64 0, .int .i64 0, .int .i64 0, .slice none 0 0, .int .i64 0] := by rw [hW, hgb]; exact BB
          rw [← hW]
          rw [show ((some ⟨w1.heap.size + 1, 0, none⟩) : Option Addr) = some ⟨gb, 0, none⟩ by rw [hgb]]
          rw [show ((some ⟨w1.heap.size, 0, none⟩) : Option Addr) = some ⟨ga, 0, none⟩ by rw [hga]]
          clear hga hgb hW hsz
          have q0 := BA.cell 0 (.slice none 0 0) rfl
          have q1 := BA.cell 1 (.slice none 0 0) rfl
          have q2 := BA.cell 2 (.int .i64 0) rfl
          have q3 := BA.cell 3 (.bool false) rfl
          have f0 := BA.frozen 0
          have f1 := BA.frozen 1
          have f2 := BA.frozen 2
          have f3 := BA.frozen 3
          have T6 := tail6 HO1.out.1 BW M' BA BB (.inl rfl) (.inr rfl) hla hlb (.slice qa m1 qc) (.slice pa m2 pc) (.int .i64 fy) (.bool oy) (.int .i64 3) (.int .i64 40) (.int .i64 T0) (.slice va' vn' vc') (.int .i64 ux0)
          have hnp : px ≠ ga := fun e => by have := HO1.out.1.box.lt; omega
          have hne : gb ≠ ga := fun e => by
            rw [e] at BB
            have := cells_type BB BA
            simp at this
          have BX := (((((HBX.out.over BW).other (a := ⟨ga, 0, none⟩) hnp (.slice qa m1 qc)).other (a := ⟨ga, 1, none⟩) hnp (.slice pa m2 pc)).other (a := ⟨ga, 2, none⟩) hnp (.int .i64 fy)).other (a := ⟨ga, 3, none⟩) hnp (.bool oy))
          have BB1 := ((((BB.other (a := ⟨ga, 0, none⟩) hne (.slice qa m1 qc)).other (a := ⟨ga, 1, none⟩) hne (.slice pa m2 pc)).other (a := ⟨ga, 2, none⟩) hne (.int .i64 fy)).other (a := ⟨ga, 3, none⟩) hne (.bool oy))
          have hSA : (fun w' : World => w'.cell? ⟨px, 2, none⟩ = some (.slice sa n1 sc) ∧ w'.cell? ⟨px, 3, none⟩ = some (.slice wa n2 wc) ∧ w'.cell? ⟨px, 4, none⟩ = some (.int .i64 fz) ∧ w'.cell? ⟨px, 5, none⟩ = some (.bool of) ∧ w'.cell? ⟨px, 6, none⟩ = some (.int .i64 3) ∧ w'.cell? ⟨px, 7, none⟩ = some (.int .i64 40) ∧ w'.cell? ⟨px, 8, none⟩ = some (.int .i64 T0) ∧ w'.cell? ⟨px, 9, none⟩ = some (.slice va vn vc) ∧ w'.cell? ⟨px, 10, none⟩ = some (.int .i64 u0)) ((((W.setCell ⟨ga, 0, none⟩ (.slice qa m1 qc)).setCell ⟨ga, 1, none⟩ (.slice pa m2 pc)).setCell ⟨ga, 2, none⟩ (.int .i64 fy)).setCell ⟨ga, 3, none⟩ (.bool oy)) := ⟨BX.cell 2 _ rfl, BX.cell 3 _ rfl, BX.cell 4 _ rfl, BX.cell 5 _ rfl, BX.cell 6 _ rfl, BX.cell 7 _ rfl, BX.cell 8 _ rfl, BX.cell 9 _ rfl, BX.cell 10 _ rfl⟩
          have HFF : Hid (Unit → M6 w0 (((((((((W.setCell ⟨ga, 0, none⟩ (.slice qa m1 qc)).setCell ⟨ga, 1, none⟩ (.slice pa m2 pc)).setCell ⟨ga, 2, none⟩ (.int .i64 fy)).setCell ⟨ga, 3, none⟩ (.bool oy)).setCell ⟨gb, 0, none⟩ (.int .i64 3)).setCell ⟨gb, 1, none⟩ (.int .i64 40)).setCell ⟨gb, 2, none⟩ (.int .i64 T0)).setCell ⟨gb, 3, none⟩ (.slice va' vn' vc')).setCell ⟨gb, 4, none⟩ (.int .i64 ux0)) px hp J R s turn u out va vn vc i R' sx ox va' vn' vc' ga gb #[.slice qa m1 qc, .slice pa m2 pc, .int .i64 fy, .bool oy] #[.int .i64 3, .int .i64 40, .int .i64 T0, .slice va' vn' vc', .int .i64 ux0]) := fun _ => T6
          clear T6 BA BB M' BW hnp hne
          refine stepL 16 ((((W.setCell ⟨ga, 0, none⟩ (.slice qa m1 qc)).setCell ⟨ga, 1, none⟩ (.slice pa m2 pc)).setCell ⟨ga, 2, none⟩ (.int .i64 fy)).setCell ⟨ga, 3, none⟩ (.bool oy)) rfl (by kernel_rfl) (by rfl) (by go_simp) hSA ?_
          try dsimp only [Act.put]
          try simp only [List.setIfInBounds_toArray, List.set_cons_zero, List.set_cons_succ]
          obtain ⟨W1, hW1⟩ : ∃ W1, W1 = ((((W.setCell ⟨ga, 0, none⟩ (.slice qa m1 qc)).setCell ⟨ga, 1, none⟩ (.slice pa m2 pc)).setCell ⟨ga, 2, none⟩ (.int .i64 fy)).setCell ⟨ga, 3, none⟩ (.bool oy)) := ⟨_, rfl⟩
          rw [← hW1] at HFF BX BB1 ⊢
          clear hW1 q0 q1 q2 q3 f0 f1 f2 f3 hSA
          have q0 := BB1.cell 0 (.int .i64 0) rfl
          have q1 := BB1.cell 1 (.int .i64 0) rfl
          have q2 := BB1.cell 2 (.int .i64 0) rfl
          have q3 := BB1.cell 3 (.slice none 0 0) rfl
          have q4 := BB1.cell 4 (.int .i64 0) rfl
          have f0 := BB1.frozen 0
          have f1 := BB1.frozen 1
          have f2 := BB1.frozen 2
          have f3 := BB1.frozen 3
          have f4 := BB1.frozen 4
          have hnp : px ≠ gb := fun e => by
            rw [e] at BX
            have := cells_type BX BB1
            simp at this
          have BX2 := other_five BX hnp (.int .i64 3) (.int .i64 40) (.int .i64 T0) (.slice va' vn' vc') (.int .i64 ux0)
          have hSB : (fun w' : World => w'.cell? ⟨px, 2, none⟩ = some (.slice sa n1 sc) ∧ w'.cell? ⟨px, 3, none⟩ = some (.slice wa n2 wc) ∧ w'.cell? ⟨px, 4, none⟩ = some (.int .i64 fz) ∧ w'.cell? ⟨px, 5, none⟩ = some (.bool of) ∧ w'.cell? ⟨px, 6, none⟩ = some (.int .i64 3) ∧ w'.cell? ⟨px, 7, none⟩ = some (.int .i64 40) ∧ w'.cell? ⟨px, 8, none⟩ = some (.int .i64 T0) ∧ w'.cell? ⟨px, 9, none⟩ = some (.slice va vn vc) ∧ w'.cell? ⟨px, 10, none⟩ = some (.int .i64 u0)) (((((W1.setCell ⟨gb, 0, none⟩ (.int .i64 3)).setCell ⟨gb, 1, none⟩ (.int .i64 40)).setCell ⟨gb, 2, none⟩ (.int .i64 T0)).setCell ⟨gb, 3, none⟩ (.slice va' vn' vc')).setCell ⟨gb, 4, none⟩ (.int .i64 ux0)) := ⟨BX2.cell 2 _ rfl, BX2.cell 3 _ rfl, BX2.cell 4 _ rfl, BX2.cell 5 _ rfl, BX2.cell 6 _ rfl, BX2.cell 7 _ rfl, BX2.cell 8 _ rfl, BX2.cell 9 _ rfl, BX2.cell 10 _ rfl⟩
          clear BX BB1 hnp BX2
          refine stepL 17 (((((W1.setCell ⟨gb, 0, none⟩ (.int .i64 3)).setCell ⟨gb, 1, none⟩ (.int .i64 40)).setCell ⟨gb, 2, none⟩ (.int .i64 T0)).setCell ⟨gb, 3, none⟩ (.slice va' vn' vc')).setCell ⟨gb, 4, none⟩ (.int .i64 ux0)) rfl (by kernel_rfl) (by rfl) (by go_simp) hSB ?_
          try dsimp only [Act.put]
          try simp only [List.setIfInBounds_toArray, List.set_cons_zero, List.set_cons_succ]
          obtain ⟨W6, hW6⟩ : ∃ W6, W6 = (((((W1.setCell ⟨gb, 0, none⟩ (.int .i64 3)).setCell ⟨gb, 1, none⟩ (.int .i64 40)).setCell ⟨gb, 2, none⟩ (.int .i64 T0)).setCell ⟨gb, 3, none⟩ (.slice va' vn' vc')).setCell ⟨gb, 4, none⟩ (.int .i64 ux0)) := ⟨_, rfl⟩
          rw [← hW6] at HFF ⊢
          clear hW6 q0 q1 q2 q3 q4 f0 f1 f2 f3 f4 hSB
          refine doneL (by kernel_rfl) ?_
          try dsimp only [Act.put]
          try simp only [List.setIfInBounds_toArray, List.set_cons_zero, List.set_cons_succ]
          unfold Oper.wp
          go_simp
          go_wp2_with fail
          go_meet
          exact ⟨ga, gb, R', va', vn', vc', qa, m1, qc, pa, m2, pc, fy, oy, W6, rfl, rfl, rfl, rfl, HQ.out, HFF.out ()⟩
      · try dsimp only [Act.put]
        try simp only [List.setIfInBounds_toArray, List.set_cons_zero, List.set_cons_succ]
        refine callNewL 9 14 (f := 20) (vs := #[.agg #[.slice sa n1 sc, .slice wa n2 wc, .int .i64 fz, .bool of], .agg #[.int .i64 3, .int .i64 40, .int .i64 T0, .slice va vn vc, .int .i64 u0], .string S2]) ((w1.drew.alloc (.cells #[.int .i64 0, .int .i64 0, .int .i64 0, .slice none 0 0, .int .i64 0] 41)).alloc (.cells #[.slice none 0 0, .slice none 0 0, .int .i64 0, .bool false] 30)) (.pointer (some ⟨w1.heap.size + 1, 0, none⟩)) rfl rfl (by kernel_rfl) (by rfl) (by rfl) (by go_simp) (by go_simp) (HS.out _ bDba) ?_ ?_
        · refine Calls.mono (HREF.out (w1.drew.alloc (.cells #[.int .i64 0, .int .i64 0, .int .i64 0, .slice none 0 0, .int .i64 0] 41)) (fun x => x = w1.heap.size) bDb (fun x hx => by have := HSZ.out; omega)) ?_
          rintro e w2 ⟨⟨R', va', vn', vc', qa, m1, qc, pa, m2, pc, fy, oy, hq, rfl, m⟩, b2⟩
          have HQ : Hid (rda R' sx = #[.slice qa m1 qc, .slice pa m2 pc, .int .i64 fy, .bool oy]) := hq
          clear hq
          have b12 : Below w1.heap.size w1 w2 := bDb.trans (b2.mono bDb.size)
          have hH2 := HS.out w2 b12
          refine ⟨_, rfl, hH2, ?_⟩
          try dsimp only [Act.put]
          try simp only [List.setIfInBounds_toArray, List.set_cons_zero, List.set_cons_succ]
          ((refine takeL 10 (v := ?_) rfl (by kernel_rfl) (by kernel_rfl) (by kernel_rfl) (fun _ _ _ h => h) (by rfl) hH2 ?_ ?_; rotate_left; focus (intro w hSw; (try dsimp only at hSw); go_simp <;> with_reducible rfl); (try simp only [Act.put, List.setIfInBounds_toArray, List.set_cons_zero, List.set_cons_succ])); (refine takeL 11 (v := ?_) rfl (by kernel_rfl) (by kernel_rfl) (by kernel_rfl) (fun _ _ _ h => h) (by rfl) hH2 ?_ ?_; rotate_left; focus (intro w hSw; (try dsimp only at hSw); go_simp <;> with_reducible rfl); (try simp only [Act.put, List.setIfInBounds_toArray, List.set_cons_zero, List.set_cons_succ])); (refine takeL 12 (v := ?_) rfl (by kernel_rfl) (by kernel_rfl) (by kernel_rfl) (fun _ _ _ h => h) (by rfl) hH2 ?_ ?_; rotate_left; focus (intro w hSw; (try dsimp only at hSw); go_simp <;> with_reducible rfl); (try simp only [Act.put, List.setIfInBounds_toArray, List.set_cons_zero, List.set_cons_succ])); (refine takeL 13 (v := ?_) rfl (by kernel_rfl) (by kernel_rfl) (by kernel_rfl) (fun _ _ _ h => h) (by rfl) hH2 ?_ ?_; rotate_left; focus (intro w hSw; (try dsimp only at hSw); go_simp <;> with_reducible rfl); (try simp only [Act.put, List.setIfInBounds_toArray, List.set_cons_zero, List.set_cons_succ])))
          try dsimp only [Act.put]
          try simp only [List.setIfInBounds_toArray, List.set_cons_zero, List.set_cons_succ]
          refine newL 14 (w2.alloc (.cells #[.slice none 0 0, .slice none 0 0, .int .i64 0, .bool false] 30)) (.pointer (some ⟨w2.heap.size, 0, none⟩)) rfl (by kernel_rfl) (by rfl) (by go_simp) (HS.out _ (b12.alloc b12.size _)) ?_
          try dsimp only [Act.put]
          try simp only [List.setIfInBounds_toArray, List.set_cons_zero, List.set_cons_succ]
          have M' : Mr (w2.alloc (.cells #[.slice none 0 0, .slice none 0 0, .int .i64 0, .bool false] 30)) J px (fun x => x = w2.heap.size ∨ x = w1.heap.size) R' sx ox va' vn' vc' := ((m.grow (E2 := fun x => x = w2.heap.size ∨ x = w1.heap.size) (fun x hx => (by rcases hx with hx | hx; right; omega; exact .inl hx))).over (below1 w2 (.cells #[.slice none 0 0, .slice none 0 0, .int .i64 0, .bool false] 30)))
          have BW : Below w1.heap.size w1 (w2.alloc (.cells #[.slice none 0 0, .slice none 0 0, .int .i64 0, .bool false] 30)) := b12.alloc b12.size _
          have BA : Box (w2.alloc (.cells #[.slice none 0 0, .slice none 0 0, .int .i64 0, .bool false] 30)) (w2.heap.size) 30 #[.slice none 0 0, .slice none 0 0, .int .i64 0, .bool false] := box_new w2 #[.slice none 0 0, .slice none 0 0, .int .i64 0, .bool false] 30
          have BB : Box (w2.alloc (.cells #[.slice none 0 0, .slice none 0 0, .int .i64 0, .bool false] 30)) (w1.heap.size) 41 #[.int .i64 0, .int .i64 0, .int .i64 0, .slice none 0 0, .int .i64 0] := ((box_new w1.drew #[.int .i64 0, .int .i64 0, .int .i64 0, .slice none 0 0, .int .i64 0] 41).over b2).alloc (.cells #[.slice none 0 0, .slice none 0 0, .int .i64 0, .bool false] 30)
          have hsz := b12.size
          obtain ⟨ga, hga⟩ : ∃ ga, ga = w2.heap.size := ⟨_, rfl⟩
          obtain ⟨gb, hgb⟩ : ∃ gb, gb = w1.heap.size := ⟨_, rfl⟩
          obtain ⟨W, hW⟩ : ∃ W, W = (w2.alloc (.cells #[.slice none 0 0, .slice none 0 0, .int .i64 0, .bool false] 30)) := ⟨_, rfl⟩
          have hla : w1.heap.size ≤ ga := by omega
          have hlb : w1.heap.size ≤ gb := by omega
          replace M' : Mr W J px (fun x => x = ga ∨ x = gb) R' sx ox va' vn' vc' := by rw [hW, hga, hgb]; exact M'
          replace BW : Below w1.heap.size w1 W := by rw [hW]; exact BW
          replace BA : Box W ga 30 #[.slice none 0 0, .slice none 0 0, .int .i64 0, .bool false] := by rw [hW, hga]; exact BA
          replace BB : Box W gb 41 #[.int .i64 0, .int .i64 0, .int .i64 0, .slice none 0 0, .int .i64 0] := by rw [hW, hgb]; exact BB
          rw [← hW]
          rw [show ((some ⟨w1.heap.size, 0, none⟩) : Option Addr) = some ⟨gb, 0, none⟩ by rw [hgb]]
          rw [show ((some ⟨w2.heap.size, 0, none⟩) : Option Addr) = some ⟨ga, 0, none⟩ by rw [hga]]
          clear hga hgb hW hsz
          have q0 := BA.cell 0 (.slice none 0 0) rfl
          have q1 := BA.cell 1 (.slice none 0 0) rfl
          have q2 := BA.cell 2 (.int .i64 0) rfl
          have q3 := BA.cell 3 (.bool false) rfl
          have f0 := BA.frozen 0
          have f1 := BA.frozen 1
          have f2 := BA.frozen 2
          have f3 := BA.frozen 3
          have T6 := tail6 HO1.out.1 BW M' BA BB (.inl rfl) (.inr rfl) hla hlb (.slice qa m1 qc) (.slice pa m2 pc) (.int .i64 fy) (.bool oy) (.int .i64 3) (.int .i64 40) (.int .i64 T0) (.slice va' vn' vc') (.int .i64 ux0)
          have hnp : px ≠ ga := fun e => by have := HO1.out.1.box.lt; omega
          have hne : gb ≠ ga := fun e => by
            rw [e] at BB
            have := cells_type BB BA
            simp at this
          have BX := (((((HBX.out.over BW).other (a := ⟨ga, 0, none⟩) hnp (.slice qa m1 qc)).other (a := ⟨ga, 1, none⟩) hnp (.slice pa m2 pc)).other (a := ⟨ga, 2, none⟩) hnp (.int .i64 fy)).other (a := ⟨ga, 3, none⟩) hnp (.bool oy))
          have BB1 := ((((BB.other (a := ⟨ga, 0, none⟩) hne (.slice qa m1 qc)).other (a := ⟨ga, 1, none⟩) hne (.slice pa m2 pc)).other (a := ⟨ga, 2, none⟩) hne (.int .i64 fy)).other (a := ⟨ga, 3, none⟩) hne (.bool oy))
          have hSA : (fun w' : World => w'.cell? ⟨px, 2, none⟩ = some (.slice sa n1 sc) ∧ w'.cell? ⟨px, 3, none⟩ = some (.slice wa n2 wc) ∧ w'.cell? ⟨px, 4, none⟩ = some (.int .i64 fz) ∧ w'.cell? ⟨px, 5, none⟩ = some (.bool of) ∧ w'.cell? ⟨px, 6, none⟩ = some (.int .i64 3) ∧ w'.cell? ⟨px, 7, none⟩ = some (.int .i64 40) ∧ w'.cell? ⟨px, 8, none⟩ = some (.int .i64 T0) ∧ w'.cell? ⟨px, 9, none⟩ = some (.slice va vn vc) ∧ w'.cell? ⟨px, 10, none⟩ = some (.int .i64 u0)) ((((W.setCell ⟨ga, 0, none⟩ (.slice qa m1 qc)).setCell ⟨ga, 1, none⟩ (.slice pa m2 pc)).setCell ⟨ga, 2, none⟩ (.int .i64 fy)).setCell ⟨ga, 3, none⟩ (.bool oy)) := ⟨BX.cell 2 _ rfl, BX.cell 3 _ rfl, BX.cell 4 _ rfl, BX.cell 5 _ rfl, BX.cell 6 _ rfl, BX.cell 7 _ rfl, BX.cell 8 _ rfl, BX.cell 9 _ rfl, BX.cell 10 _ rfl⟩
          have HFF : Hid (Unit → M6 w0 (((((((((W.setCell ⟨ga, 0, none⟩ (.slice qa m1 qc)).setCell ⟨ga, 1, none⟩ (.slice pa m2 pc)).setCell ⟨ga, 2, none⟩ (.int .i64 fy)).setCell ⟨ga, 3, none⟩ (.bool oy)).setCell ⟨gb, 0, none⟩ (.int .i64 3)).setCell ⟨gb, 1, none⟩ (.int .i64 40)).setCell ⟨gb, 2, none⟩ (.int .i64 T0)).setCell ⟨gb, 3, none⟩ (.slice va' vn' vc')).setCell ⟨gb, 4, none⟩ (.int .i64 ux0)) px hp J R s turn u out va vn vc i R' sx ox va' vn' vc' ga gb #[.slice qa m1 qc, .slice pa m2 pc, .int .i64 fy, .bool oy] #[.int .i64 3, .int .i64 40, .int .i64 T0, .slice va' vn' vc', .int .i64 ux0]) := fun _ => T6
          clear T6 BA BB M' BW hnp hne
          refine stepL 16 ((((W.setCell ⟨ga, 0, none⟩ (.slice qa m1 qc)).setCell ⟨ga, 1, none⟩ (.slice pa m2 pc)).setCell ⟨ga, 2, none⟩ (.int .i64 fy)).setCell ⟨ga, 3, none⟩ (.bool oy)) rfl (by kernel_rfl) (by rfl) (by go_simp) hSA ?_
          try dsimp only [Act.put]
          try simp only [List.setIfInBounds_toArray, List.set_cons_zero, List.set_cons_succ]
          obtain ⟨W1, hW1⟩ : ∃ W1, W1 = ((((W.setCell ⟨ga, 0, none⟩ (.slice qa m1 qc)).setCell ⟨ga, 1, none⟩ (.slice pa m2 pc)).setCell ⟨ga, 2, none⟩ (.int .i64 fy)).setCell ⟨ga, 3, none⟩ (.bool oy)) := ⟨_, rfl⟩
          rw [← hW1] at HFF BX BB1 ⊢
          clear hW1 q0 q1 q2 q3 f0 f1 f2 f3 hSA
          have q0 := BB1.cell 0 (.int .i64 0) rfl
          have q1 := BB1.cell 1 (.int .i64 0) rfl
          have q2 := BB1.cell 2 (.int .i64 0) rfl
          have q3 := BB1.cell 3 (.slice none 0 0) rfl
          have q4 := BB1.cell 4 (.int .i64 0) rfl
          have f0 := BB1.frozen 0
          have f1 := BB1.frozen 1
          have f2 := BB1.frozen 2
          have f3 := BB1.frozen 3
          have f4 := BB1.frozen 4
          have hnp : px ≠ gb := fun e => by
            rw [e] at BX
            have := cells_type BX BB1
            simp at this
          have BX2 := other_five BX hnp (.int .i64 3) (.int .i64 40) (.int .i64 T0) (.slice va' vn' vc') (.int .i64 ux0)
          have hSB : (fun w' : World => w'.cell? ⟨px, 2, none⟩ = some (.slice sa n1 sc) ∧ w'.cell? ⟨px, 3, none⟩ = some (.slice wa n2 wc) ∧ w'.cell? ⟨px, 4, none⟩ = some (.int .i64 fz) ∧ w'.cell? ⟨px, 5, none⟩ = some (.bool of) ∧ w'.cell? ⟨px, 6, none⟩ = some (.int .i64 3) ∧ w'.cell? ⟨px, 7, none⟩ = some (.int .i64 40) ∧ w'.cell? ⟨px, 8, none⟩ = some (.int .i64 T0) ∧ w'.cell? ⟨px, 9, none⟩ = some (.slice va vn vc) ∧ w'.cell? ⟨px, 10, none⟩ = some (.int .i64 u0)) (((((W1.setCell ⟨gb, 0, none⟩ (.int .i64 3)).setCell ⟨gb, 1, none⟩ (.int .i64 40)).setCell ⟨gb, 2, none⟩ (.int .i64 T0)).setCell ⟨gb, 3, none⟩ (.slice va' vn' vc')).setCell ⟨gb, 4, none⟩ (.int .i64 ux0)) := ⟨BX2.cell 2 _ rfl, BX2.cell 3 _ rfl, BX2.cell 4 _ rfl, BX2.cell 5 _ rfl, BX2.cell 6 _ rfl, BX2.cell 7 _ rfl, BX2.cell 8 _ rfl, BX2.cell 9 _ rfl, BX2.cell 10 _ rfl⟩
          clear BX BB1 hnp BX2
          refine stepL 17 (((((W1.setCell ⟨gb, 0, none⟩ (.int .i64 3)).setCell ⟨gb, 1, none⟩ (.int .i64 40)).setCell ⟨gb, 2, none⟩ (.int .i64 T0)).setCell ⟨gb, 3, none⟩ (.slice va' vn' vc')).setCell ⟨gb, 4, none⟩ (.int .i64 ux0)) rfl (by kernel_rfl) (by rfl) (by go_simp) hSB ?_
          try dsimp only [Act.put]
          try simp only [List.setIfInBounds_toArray, List.set_cons_zero, List.set_cons_succ]
          obtain ⟨W6, hW6⟩ : ∃ W6, W6 = (((((W1.setCell ⟨gb, 0, none⟩ (.int .i64 3)).setCell ⟨gb, 1, none⟩ (.int .i64 40)).setCell ⟨gb, 2, none⟩ (.int .i64 T0)).setCell ⟨gb, 3, none⟩ (.slice va' vn' vc')).setCell ⟨gb, 4, none⟩ (.int .i64 ux0)) := ⟨_, rfl⟩
          rw [← hW6] at HFF ⊢
          clear hW6 q0 q1 q2 q3 q4 f0 f1 f2 f3 f4 hSB
          refine doneL (by kernel_rfl) ?_
          try dsimp only [Act.put]
          try simp only [List.setIfInBounds_toArray, List.set_cons_zero, List.set_cons_succ]
          unfold Oper.wp
          go_simp
          go_wp2_with fail
          go_meet
          exact ⟨ga, gb, R', va', vn', vc', qa, m1, qc, pa, m2, pc, fy, oy, W6, rfl, rfl, rfl, rfl, HQ.out, HFF.out ()⟩
        · try dsimp only [Act.put]
          try simp only [List.setIfInBounds_toArray, List.set_cons_zero, List.set_cons_succ]
          refine callL 9 (f := 20) (vs := #[.agg #[.slice sa n1 sc, .slice wa n2 wc, .int .i64 fz, .bool of], .agg #[.int .i64 3, .int .i64 40, .int .i64 T0, .slice va vn vc, .int .i64 u0], .string S2]) rfl (by kernel_rfl) (by rfl) (by go_simp) ?_
          refine Calls.mono (HREF.out ((w1.drew.alloc (.cells #[.int .i64 0, .int .i64 0, .int .i64 0, .slice none 0 0, .int .i64 0] 41)).alloc (.cells #[.slice none 0 0, .slice none 0 0, .int .i64 0, .bool false] 30)) (fun x => x = w1.heap.size + 1 ∨ x = w1.heap.size) bDba (fun x hx => by have := HSZ.out; omega)) ?_
          rintro e w2 ⟨⟨R', va', vn', vc', qa, m1, qc, pa, m2, pc, fy, oy, hq, rfl, m⟩, b2⟩
          have HQ : Hid (rda R' sx = #[.slice qa m1 qc, .slice pa m2 pc, .int .i64 fy, .bool oy]) := hq
          clear hq
          have b12 : Below w1.heap.size w1 w2 := bDba.trans (b2.mono bDba.size)
          have hH2 := HS.out w2 b12
          refine ⟨_, rfl, hH2, ?_⟩
          try dsimp only [Act.put]
          try simp only [List.setIfInBounds_toArray, List.set_cons_zero, List.set_cons_succ]
          ((refine takeL 10 (v := ?_) rfl (by kernel_rfl) (by kernel_rfl) (by kernel_rfl) (fun _ _ _ h => h) (by rfl) hH2 ?_ ?_; rotate_left; focus (intro w hSw; (try dsimp only at hSw); go_simp <;> with_reducible rfl); (try simp only [Act.put, List.setIfInBounds_toArray, List.set_cons_zero, List.set_cons_succ])); (refine takeL 11 (v := ?_) rfl (by kernel_rfl) (by kernel_rfl) (by kernel_rfl) (fun _ _ _ h => h) (by rfl) hH2 ?_ ?_; rotate_left; focus (intro w hSw; (try dsimp only at hSw); go_simp <;> with_reducible rfl); (try simp only [Act.put, List.setIfInBounds_toArray, List.set_cons_zero, List.set_cons_succ])); (refine takeL 12 (v := ?_) rfl (by kernel_rfl) (by kernel_rfl) (by kernel_rfl) (fun _ _ _ h => h) (by rfl) hH2 ?_ ?_; rotate_left; focus (intro w hSw; (try dsimp only at hSw); go_simp <;> with_reducible rfl); (try simp only [Act.put, List.setIfInBounds_toArray, List.set_cons_zero, List.set_cons_succ])); (refine takeL 13 (v := ?_) rfl (by kernel_rfl) (by kernel_rfl) (by kernel_rfl) (fun _ _ _ h => h) (by rfl) hH2 ?_ ?_; rotate_left; focus (intro w hSw; (try dsimp only at hSw); go_simp <;> with_reducible rfl); (try simp only [Act.put, List.setIfInBounds_toArray, List.set_cons_zero, List.set_cons_succ])))
          try dsimp only [Act.put]
          try simp only [List.setIfInBounds_toArray, List.set_cons_zero, List.set_cons_succ]
          have M' : Mr w2 J px (fun x => x = w1.heap.size + 1 ∨ x = w1.heap.size) R' sx ox va' vn' vc' := m
          have BW : Below w1.heap.size w1 w2 := b12
          have BA : Box w2 (w1.heap.size + 1) 30 #[.slice none 0 0, .slice none 0 0, .int .i64 0, .bool false] := (box_second w1.drew (.cells #[.int .i64 0, .int .i64 0, .int .i64 0, .slice none 0 0, .int .i64 0] 41) #[.slice none 0 0, .slice none 0 0, .int .i64 0, .bool false] 30).over b2
          have BB : Box w2 (w1.heap.size) 41 #[.int .i64 0, .int .i64 0, .int .i64 0, .slice none 0 0, .int .i64 0] := (box_old w1.drew #[.int .i64 0, .int .i64 0, .int .i64 0, .slice none 0 0, .int .i64 0] 41 (.cells #[.slice none 0 0, .slice none 0 0, .int .i64 0, .bool false] 30)).over b2
          have hsz := b12.size
          obtain ⟨ga, hga⟩ : ∃ ga, ga = w1.heap.size + 1 := ⟨_, rfl⟩
          obtain ⟨gb, hgb⟩ : ∃ gb, gb = w1.heap.size := ⟨_, rfl⟩
          obtain ⟨W, hW⟩ : ∃ W, W = w2 := ⟨_, rfl⟩
          have hla : w1.heap.size ≤ ga := by omega
          have hlb : w1.heap.size ≤ gb := by omega
          replace M' : Mr W J px (fun x => x = ga ∨ x = gb) R' sx ox va' vn' vc' := by rw [hW, hga, hgb]; exact M'
          replace BW : Below w1.heap.size w1 W := by rw [hW]; exact BW
          replace BA : Box W ga 30 #[.slice none 0 0, .slice none 0 0, .int .i64 0, .bool false] := by rw [hW, hga]; exact BA
          replace BB : Box W gb 41 #[.int .i64 0, .int .i64 0, .int .i64 0, .slice none 0 0, .int .i64 0] := by rw [hW, hgb]; exact BB
          rw [← hW]
          rw [show ((some ⟨w1.heap.size, 0, none⟩) : Option Addr) = some ⟨gb, 0, none⟩ by rw [hgb]]
          rw [show ((some ⟨w1.heap.size + 1, 0, none⟩) : Option Addr) = some ⟨ga, 0, none⟩ by rw [hga]]
          clear hga hgb hW hsz
          have q0 := BA.cell 0 (.slice none 0 0) rfl
          have q1 := BA.cell 1 (.slice none 0 0) rfl
          have q2 := BA.cell 2 (.int .i64 0) rfl
          have q3 := BA.cell 3 (.bool false) rfl
          have f0 := BA.frozen 0
          have f1 := BA.frozen 1
          have f2 := BA.frozen 2
          have f3 := BA.frozen 3
          have T6 := tail6 HO1.out.1 BW M' BA BB (.inl rfl) (.inr rfl) hla hlb (.slice qa m1 qc) (.slice pa m2 pc) (.int .i64 fy) (.bool oy) (.int .i64 3) (.int .i64 40) (.int .i64 T0) (.slice va' vn' vc') (.int .i64 ux0)
          have hnp : px ≠ ga := fun e => by have := HO1.out.1.box.lt; omega
          have hne : gb ≠ ga := fun e => by
            rw [e] at BB
            have := cells_type BB BA
            simp at this
          have BX := (((((HBX.out.over BW).other (a := ⟨ga, 0, none⟩) hnp (.slice qa m1 qc)).other (a := ⟨ga, 1, none⟩) hnp (.slice pa m2 pc)).other (a := ⟨ga, 2, none⟩) hnp (.int .i64 fy)).other (a := ⟨ga, 3, none⟩) hnp (.bool oy))
          have BB1 := ((((BB.other (a := ⟨ga, 0, none⟩) hne (.slice qa m1 qc)).other (a := ⟨ga, 1, none⟩) hne (.slice pa m2 pc)).other (a := ⟨ga, 2, none⟩) hne (.int .i64 fy)).other (a := ⟨ga, 3, none⟩) hne (.bool oy))
          have hSA : (fun w' : World => w'.cell? ⟨px, 2, none⟩ = some (.slice sa n1 sc) ∧ w'.cell? ⟨px, 3, none⟩ = some (.slice wa n2 wc) ∧ w'.cell? ⟨px, 4, none⟩ = some (.int .i64 fz) ∧ w'.cell? ⟨px, 5, none⟩ = some (.bool of) ∧ w'.cell? ⟨px, 6, none⟩ = some (.int .i64 3) ∧ w'.cell? ⟨px, 7, none⟩ = some (.int .i64 40) ∧ w'.cell? ⟨px, 8, none⟩ = some (.int .i64 T0) ∧ w'.cell? ⟨px, 9, none⟩ = some (.slice va vn vc) ∧ w'.cell? ⟨px, 10, none⟩ = some (.int .i64 u0)) ((((W.setCell ⟨ga, 0, none⟩ (.slice qa m1 qc)).setCell ⟨ga, 1, none⟩ (.slice pa m2 pc)).setCell ⟨ga, 2, none⟩ (.int .i64 fy)).setCell ⟨ga, 3, none⟩ (.bool oy)) := ⟨BX.cell 2 _ rfl, BX.cell 3 _ rfl, BX.cell 4 _ rfl, BX.cell 5 _ rfl, BX.cell 6 _ rfl, BX.cell 7 _ rfl, BX.cell 8 _ rfl, BX.cell 9 _ rfl, BX.cell 10 _ rfl⟩
          have HFF : Hid (Unit → M6 w0 (((((((((W.setCell ⟨ga, 0, none⟩ (.slice qa m1 qc)).setCell ⟨ga, 1, none⟩ (.slice pa m2 pc)).setCell ⟨ga, 2, none⟩ (.int .i64 fy)).setCell ⟨ga, 3, none⟩ (.bool oy)).setCell ⟨gb, 0, none⟩ (.int .i64 3)).setCell ⟨gb, 1, none⟩ (.int .i64 40)).setCell ⟨gb, 2, none⟩ (.int .i64 T0)).setCell ⟨gb, 3, none⟩ (.slice va' vn' vc')).setCell ⟨gb, 4, none⟩ (.int .i64 ux0)) px hp J R s turn u out va vn vc i R' sx ox va' vn' vc' ga gb #[.slice qa m1 qc, .slice pa m2 pc, .int .i64 fy, .bool oy] #[.int .i64 3, .int .i64 40, .int .i64 T0, .slice va' vn' vc', .int .i64 ux0]) := fun _ => T6
          clear T6 BA BB M' BW hnp hne
          refine stepL 16 ((((W.setCell ⟨ga, 0, none⟩ (.slice qa m1 qc)).setCell ⟨ga, 1, none⟩ (.slice pa m2 pc)).setCell ⟨ga, 2, none⟩ (.int .i64 fy)).setCell ⟨ga, 3, none⟩ (.bool oy)) rfl (by kernel_rfl) (by rfl) (by go_simp) hSA ?_
          try dsimp only [Act.put]
          try simp only [List.setIfInBounds_toArray, List.set_cons_zero, List.set_cons_succ]
          obtain ⟨W1, hW1⟩ : ∃ W1, W1 = ((((W.setCell ⟨ga, 0, none⟩ (.slice qa m1 qc)).setCell ⟨ga, 1, none⟩ (.slice pa m2 pc)).setCell ⟨ga, 2, none⟩ (.int .i64 fy)).setCell ⟨ga, 3, none⟩ (.bool oy)) := ⟨_, rfl⟩
          rw [← hW1] at HFF BX BB1 ⊢
          clear hW1 q0 q1 q2 q3 f0 f1 f2 f3 hSA
          have q0 := BB1.cell 0 (.int .i64 0) rfl
          have q1 := BB1.cell 1 (.int .i64 0) rfl
          have q2 := BB1.cell 2 (.int .i64 0) rfl
          have q3 := BB1.cell 3 (.slice none 0 0) rfl
          have q4 := BB1.cell 4 (.int .i64 0) rfl
          have f0 := BB1.frozen 0
          have f1 := BB1.frozen 1
          have f2 := BB1.frozen 2
          have f3 := BB1.frozen 3
          have f4 := BB1.frozen 4
          have hnp : px ≠ gb := fun e => by
            rw [e] at BX
            have := cells_type BX BB1
            simp at this
          have BX2 := other_five BX hnp (.int .i64 3) (.int .i64 40) (.int .i64 T0) (.slice va' vn' vc') (.int .i64 ux0)
          have hSB : (fun w' : World => w'.cell? ⟨px, 2, none⟩ = some (.slice sa n1 sc) ∧ w'.cell? ⟨px, 3, none⟩ = some (.slice wa n2 wc) ∧ w'.cell? ⟨px, 4, none⟩ = some (.int .i64 fz) ∧ w'.cell? ⟨px, 5, none⟩ = some (.bool of) ∧ w'.cell? ⟨px, 6, none⟩ = some (.int .i64 3) ∧ w'.cell? ⟨px, 7, none⟩ = some (.int .i64 40) ∧ w'.cell? ⟨px, 8, none⟩ = some (.int .i64 T0) ∧ w'.cell? ⟨px, 9, none⟩ = some (.slice va vn vc) ∧ w'.cell? ⟨px, 10, none⟩ = some (.int .i64 u0)) (((((W1.setCell ⟨gb, 0, none⟩ (.int .i64 3)).setCell ⟨gb, 1, none⟩ (.int .i64 40)).setCell ⟨gb, 2, none⟩ (.int .i64 T0)).setCell ⟨gb, 3, none⟩ (.slice va' vn' vc')).setCell ⟨gb, 4, none⟩ (.int .i64 ux0)) := ⟨BX2.cell 2 _ rfl, BX2.cell 3 _ rfl, BX2.cell 4 _ rfl, BX2.cell 5 _ rfl, BX2.cell 6 _ rfl, BX2.cell 7 _ rfl, BX2.cell 8 _ rfl, BX2.cell 9 _ rfl, BX2.cell 10 _ rfl⟩
          clear BX BB1 hnp BX2
          refine stepL 17 (((((W1.setCell ⟨gb, 0, none⟩ (.int .i64 3)).setCell ⟨gb, 1, none⟩ (.int .i64 40)).setCell ⟨gb, 2, none⟩ (.int .i64 T0)).setCell ⟨gb, 3, none⟩ (.slice va' vn' vc')).setCell ⟨gb, 4, none⟩ (.int .i64 ux0)) rfl (by kernel_rfl) (by rfl) (by go_simp) hSB ?_
          try dsimp only [Act.put]
          try simp only [List.setIfInBounds_toArray, List.set_cons_zero, List.set_cons_succ]
          obtain ⟨W6, hW6⟩ : ∃ W6, W6 = (((((W1.setCell ⟨gb, 0, none⟩ (.int .i64 3)).setCell ⟨gb, 1, none⟩ (.int .i64 40)).setCell ⟨gb, 2, none⟩ (.int .i64 T0)).setCell ⟨gb, 3, none⟩ (.slice va' vn' vc')).setCell ⟨gb, 4, none⟩ (.int .i64 ux0)) := ⟨_, rfl⟩
          rw [← hW6] at HFF ⊢
          clear hW6 q0 q1 q2 q3 q4 f0 f1 f2 f3 f4 hSB
          refine doneL (by kernel_rfl) ?_
          try dsimp only [Act.put]
          try simp only [List.setIfInBounds_toArray, List.set_cons_zero, List.set_cons_succ]
          unfold Oper.wp
          go_simp
          go_wp2_with fail
          go_meet
          exact ⟨ga, gb, R', va', vn', vc', qa, m1, qc, pa, m2, pc, fy, oy, W6, rfl, rfl, rfl, rfl, HQ.out, HFF.out ()⟩
    case rest =>
      obtain ⟨ga, gb, R', va', vn', vc', qa, m1, qc, pa, m2, pc, fy, oy, W6, rfl, rfl, rfl, hwx, hq, hG⟩ := hcut
      replace hwx := hwx.symm
      subst hwx
      have HG : Hid (M6 w0 W6 px hp J R s turn u out va vn vc i R' sx ox va' vn' vc' ga gb #[.slice qa m1 qc, .slice pa m2 pc, .int .i64 fy, .bool oy] #[.int .i64 3, .int .i64 40, .int .i64 T0, .slice va' vn' vc', .int .i64 ux0]) := hG
      have HQ : Hid (rda R' sx = #[.slice qa m1 qc, .slice pa m2 pc, .int .i64 fy, .bool oy]) := hq
      have B0 : Box W6 px 43 #[.pointer (some ⟨hp, 0, none⟩), .pointer (some ⟨jp, 0, none⟩), .slice sa n1 sc, .slice wa n2 wc, .int .i64 fz, .bool of, .int .i64 3, .int .i64 40, .int .i64 T0, .slice va vn vc, .int .i64 u0] := HBX.out.of_block (hG.keep6 HO1.out.1)
      clear hq hG
      have hG := HG.out
      have a0 := hG.ba.cell 0 (.slice qa m1 qc) rfl
      have a1 := hG.ba.cell 1 (.slice pa m2 pc) rfl
      have a2 := hG.ba.cell 2 (.int .i64 fy) rfl
      have a3 := hG.ba.cell 3 (.bool oy) rfl
      have b0 := hG.bb.cell 0 (.int .i64 3) rfl
      have b1 := hG.bb.cell 1 (.int .i64 40) rfl
      have b2 := hG.bb.cell 2 (.int .i64 T0) rfl
      have b3 := hG.bb.cell 3 (.slice va' vn' vc') rfl
      have b4 := hG.bb.cell 4 (.int .i64 ux0) rfl
      have c2 := B0.cell 2 (.slice sa n1 sc) rfl
      have y2 := B0.frozen 2
      have c3 := B0.cell 3 (.slice wa n2 wc) rfl
      have y3 := B0.frozen 3
      have c4 := B0.cell 4 (.int .i64 fz) rfl
      have y4 := B0.frozen 4
      have c5 := B0.cell 5 (.bool of) rfl
      have y5 := B0.frozen 5
      have c6 := B0.cell 6 (.int .i64 3) rfl
      have y6 := B0.frozen 6
      have c7 := B0.cell 7 (.int .i64 40) rfl
      have y7 := B0.frozen 7
      have c8 := B0.cell 8 (.int .i64 T0) rfl
      have y8 := B0.frozen 8
      have c9 := B0.cell 9 (.slice va vn vc) rfl
      have y9 := B0.frozen 9
      have c10 := B0.cell 10 (.int .i64 u0) rfl
      have y10 := B0.frozen 10
      have c1 := B0.cell 1 (.pointer (some ⟨jp, 0, none⟩)) rfl
      have hgp : ga ≠ px := fun e => by
        have h1 := hG.ba
        rw [e] at h1
        have := cells_type h1 B0
        simp at this
      have hhp : gb ≠ px := fun e => by
        have h1 := hG.bb
        rw [e] at h1
        have := cells_type h1 B0
        simp at this
      have K8 := keptj (keptq (Kept.refl (fun x => x = px) W6) (z := px) (.inl rfl) (.slice qa m1 qc) (.slice pa m2 pc) (.int .i64 fy) (.bool oy)) (z := px) (.inl rfl) (.int .i64 3) (.int .i64 40) (.int .i64 T0) (.slice va' vn' vc') (.int .i64 ux0)
      have B8 := sd_j (T' := T0) (v' := .slice va' vn' vc') (u' := ux0) (sd_q (a' := (.slice qa m1 qc)) (b' := (.slice pa m2 pc)) (c' := (.int .i64 fy)) (d' := (.bool oy)) (show Box W6 px 43 (sdc hp jp #[.slice sa n1 sc, .slice wa n2 wc, .int .i64 fz, .bool of] T0 (.slice va vn vc) u0) from B0))
      have HM8 : Hid (Unit → M8 w0 (((((((((W6.setCell ⟨px, 2, none⟩ (.slice qa m1 qc)).setCell ⟨px, 3, none⟩ (.slice pa m2 pc)).setCell ⟨px, 4, none⟩ (.int .i64 fy)).setCell ⟨px, 5, none⟩ (.bool oy)).setCell ⟨px, 6, none⟩ (.int .i64 3)).setCell ⟨px, 7, none⟩ (.int .i64 40)).setCell ⟨px, 8, none⟩ (.int .i64 T0)).setCell ⟨px, 9, none⟩ (.slice va' vn' vc')).setCell ⟨px, 10, none⟩ (.int .i64 ux0)) px hp J s turn u out R' sx ux ox va' vn' vc') := fun _ => by
        refine hG.set K8 ?_
        have e1 : sdc hp J.p (rda R' sx) turn.toInt (.slice va' vn' vc') ux = sdc hp jp #[.slice qa m1 qc, .slice pa m2 pc, .int .i64 fy, .bool oy] T0 (.slice va' vn' vc') ux0 := by
          rw [HQ.out, ← HAD.out.2.1, ← HAD.out.2.2.1, ← HAD.out.2.2.2]
        rw [e1]
        exact B8
      clear hG K8 B8 B0
      go_wp2_with fail
      obtain ⟨W8, hW8⟩ : ∃ W8, W8 = (((((((((W6.setCell ⟨px, 2, none⟩ (.slice qa m1 qc)).setCell ⟨px, 3, none⟩ (.slice pa m2 pc)).setCell ⟨px, 4, none⟩ (.int .i64 fy)).setCell ⟨px, 5, none⟩ (.bool oy)).setCell ⟨px, 6, none⟩ (.int .i64 3)).setCell ⟨px, 7, none⟩ (.int .i64 40)).setCell ⟨px, 8, none⟩ (.int .i64 T0)).setCell ⟨px, 9, none⟩ (.slice va' vn' vc')).setCell ⟨px, 10, none⟩ (.int .i64 ux0)) := ⟨_, rfl⟩
      rw [← hW8] at HM8 ⊢
      clear hW8
      have cc := code_add (HM8.out ()).jnl HO1.out.1.pu HO1.out.2 t2
      rw [← HS2.out, HAD.out.1, ← HAD.out.2.2.2] at cc
      dsimp only at cc
      refine Calls.mono cc ?_
      rintro e w9 ⟨rfl, J', T9, j9⟩
      have HFI : Hid (Unit → Sy w0 w9 px hp J' R' sx turn ux ox va' vn' vc' (i + 1)) := fun _ => by
        have p := pu_add HO1.out.1.pu t2
        rw [HAD.out.1] at p
        exact (HM8.out ()).done T9 j9 p
      clear T9 j9 cc
      go_wp2_with fail
      go_ret
      refine ⟨?_, J', R', sx, turn, ux, ox, va', vn', vc', HFI.out ()⟩
      try rfl
  · obtain ⟨w1, hw1⟩ : ∃ w1, w1 = wx.alloc (.cells #[.int .i64 1, .int .i64 N.toInt, .string (strB t), kv] 46) := ⟨_, rfl⟩
    have hb1 := HB0.out
    rw [← hw1] at hb1 ⊢
    obtain ⟨t2, ht2⟩ : ∃ t2, t2 = t := ⟨_, rfl⟩
    rw [← ht2]
    clear ht2 hw1 HB0
    clear cl hF0 hFl
    obtain ⟨S2, hS2⟩ : ∃ S2, S2 = strB t2 := ⟨_, rfl⟩
    have HS2 : Hid (S2 = strB t2) := hS2
    rw [← hS2]
    clear hS2
    have HO1 : Hid (Sy w0 w1 px hp J R s turn u out va vn vc i ∧ i ≤ 100) := ⟨HO.out.1.over hb1, HO.out.2⟩
    clear HO hb1
    obtain ⟨jp, hjp⟩ : ∃ jp, jp = J.p := ⟨_, rfl⟩
    obtain ⟨T0, hT0⟩ : ∃ T, T = turn.toInt := ⟨_, rfl⟩
    obtain ⟨u0, hu0⟩ : ∃ x : Int, x = (u : Int) := ⟨_, rfl⟩
    obtain ⟨sx, ux, ox, nx, hadd⟩ : ∃ sx ux ox nx, addF s turn u out t2 = (sx, ux, ox, nx) := ⟨_, _, _, _, rfl⟩
    obtain ⟨ux0, hux0⟩ : ∃ x : Int, x = (ux : Int) := ⟨_, rfl⟩
    have HAD : Hid (addF s turn u out t2 = (sx, ux, ox, nx) ∧ ux0 = (ux : Int) ∧ T0 = turn.toInt ∧ jp = J.p) := ⟨hadd, hux0, hT0, hjp⟩
    have HQE : Hid (∃ sa n1 sc wa n2 wc fz of, rda R s = #[.slice sa n1 sc, .slice wa n2 wc, .int .i64 fz, .bool of]) := ⟨_, _, _, _, _, _, _, _, rfl⟩
    obtain ⟨sa, n1, sc, wa, n2, wc, fz, of, hQ0⟩ := HQE.out
    have HBX : Hid (Box w1 px 43 #[.pointer (some ⟨hp, 0, none⟩), .pointer (some ⟨jp, 0, none⟩), .slice sa n1 sc, .slice wa n2 wc, .int .i64 fz, .bool of, .int .i64 3, .int .i64 40, .int .i64 T0, .slice va vn vc, .int .i64 u0]) := by
      have := HO1.out.1.box
      rw [hQ0, ← hjp, ← hT0, ← hu0] at this
      exact this
    have HREF : Hid (∀ (W : World) (E : Nat → Prop), Below w1.heap.size w1 W → (∀ x, E x → w1.heap.size ≤ x ∧ x < W.heap.size) → Calls Try.prog 20 #[.agg #[.slice sa n1 sc, .slice wa n2 wc, .int .i64 fz, .bool of], .agg #[.int .i64 3, .int .i64 40, .int .i64 T0, .slice va vn vc, .int .i64 u0], .string S2] W fun e w' => (∃ R' va' vn' vc' qa m1 qc pa m2 pc fy oy, rda R' sx = #[.slice qa m1 qc, .slice pa m2 pc, .int .i64 fy, .bool oy] ∧ e = .returned (.tuple #[.agg #[.slice qa m1 qc, .slice pa m2 pc, .int .i64 fy, .bool oy], .agg #[.int .i64 3, .int .i64 40, .int .i64 T0, .slice va' vn' vc', .int .i64 ux0], .int .i64 nx]) ∧ Mr w' J px E R' sx ox va' vn' vc') ∧ Below W.heap.size W w') := by
      intro W E bW hE
      have h := ref_sy HO1.out.1 HO1.out.2 t2 bW E hE
      rw [hadd, hQ0, ← HS2.out, ← hT0, ← hu0] at h
      dsimp only at h
      rw [← hux0] at h
      exact h
    have HS : Hid (∀ W, Below w1.heap.size w1 W → (fun w' : World => w'.cell? ⟨px, 2, none⟩ = some (.slice sa n1 sc) ∧ w'.cell? ⟨px, 3, none⟩ = some (.slice wa n2 wc) ∧ w'.cell? ⟨px, 4, none⟩ = some (.int .i64 fz) ∧ w'.cell? ⟨px, 5, none⟩ = some (.bool of) ∧ w'.cell? ⟨px, 6, none⟩ = some (.int .i64 3) ∧ w'.cell? ⟨px, 7, none⟩ = some (.int .i64 40) ∧ w'.cell? ⟨px, 8, none⟩ = some (.int .i64 T0) ∧ w'.cell? ⟨px, 9, none⟩ = some (.slice va vn vc) ∧ w'.cell? ⟨px, 10, none⟩ = some (.int .i64 u0)) W) := fun W hW => by
      have b := HBX.out.over hW
      exact ⟨b.cell 2 _ rfl, b.cell 3 _ rfl, b.cell 4 _ rfl, b.cell 5 _ rfl, b.cell 6 _ rfl, b.cell 7 _ rfl, b.cell 8 _ rfl, b.cell 9 _ rfl, b.cell 10 _ rfl⟩
    clear hjp hT0 hu0 hadd hux0 HQE hQ0
    go_cut [6, 7, 8] (fun s6 s7 s8 wy => ∃ (ga gb : Nat) (R' : RH) (va' : Option Addr) (vn' vc' : Nat) (qa : Option Addr) (m1 qc : Nat) (pa : Option Addr) (m2 pc : Nat) (fy : Int) (oy : Bool) (W6 : World), s6 = .pointer (some ⟨ga, 0, none⟩) ∧ s7 = .pointer (some ⟨gb, 0, none⟩) ∧ s8 = .int .i64 nx ∧ wy = W6 ∧ rda R' sx = #[.slice qa m1 qc, .slice pa m2 pc, .int .i64 fy, .bool oy] ∧ M6 w0 W6 px hp J R s turn u out va vn vc i R' sx ox va' vn' vc' ga gb #[.slice qa m1 qc, .slice pa m2 pc, .int .i64 fy, .bool oy] #[.int .i64 3, .int .i64 40, .int .i64 T0, .slice va' vn' vc', .int .i64 ux0])
    case first =>
      refine wp_region_held_then (fun w' : World => w'.cell? ⟨px, 2, none⟩ = some (.slice sa n1 sc) ∧ w'.cell? ⟨px, 3, none⟩ = some (.slice wa n2 wc) ∧ w'.cell? ⟨px, 4, none⟩ = some (.int .i64 fz) ∧ w'.cell? ⟨px, 5, none⟩ = some (.bool of) ∧ w'.cell? ⟨px, 6, none⟩ = some (.int .i64 3) ∧ w'.cell? ⟨px, 7, none⟩ = some (.int .i64 40) ∧ w'.cell? ⟨px, 8, none⟩ = some (.int .i64 T0) ∧ w'.cell? ⟨px, 9, none⟩ = some (.slice va vn vc) ∧ w'.cell? ⟨px, 10, none⟩ = some (.int .i64 u0)) _ (by kernel_rfl) rfl (by kernel_rfl) ?_
      have bD : Below w1.heap.size w1 w1.drew := (Below.refl _ w1).drew
      have bDa : Below w1.heap.size w1 (w1.drew.alloc (.cells #[.slice none 0 0, .slice none 0 0, .int .i64 0, .bool false] 30)) := bD.alloc (Nat.le_refl _) _
      have bDb : Below w1.heap.size w1 (w1.drew.alloc (.cells #[.int .i64 0, .int .i64 0, .int .i64 0, .slice none 0 0, .int .i64 0] 41)) := bD.alloc (Nat.le_refl _) _
      have bDab : Below w1.heap.size w1 ((w1.drew.alloc (.cells #[.slice none 0 0, .slice none 0 0, .int .i64 0, .bool false] 30)).alloc (.cells #[.int .i64 0, .int .i64 0, .int .i64 0, .slice none 0 0, .int .i64 0] 41)) := bDa.alloc bDa.size _
      have bDba : Below w1.heap.size w1 ((w1.drew.alloc (.cells #[.int .i64 0, .int .i64 0, .int .i64 0, .slice none 0 0, .int .i64 0] 41)).alloc (.cells #[.slice none 0 0, .slice none 0 0, .int .i64 0, .bool false] 30)) := bDb.alloc bDb.size _
      have HSZ : Hid ((w1.drew.alloc (.cells #[.slice none 0 0, .slice none 0 0, .int .i64 0, .bool false] 30)).heap.size = w1.heap.size + 1 ∧ (w1.drew.alloc (.cells #[.int .i64 0, .int .i64 0, .int .i64 0, .slice none 0 0, .int .i64 0] 41)).heap.size = w1.heap.size + 1 ∧ ((w1.drew.alloc (.cells #[.slice none 0 0, .slice none 0 0, .int .i64 0, .bool false] 30)).alloc (.cells #[.int .i64 0, .int .i64 0, .int .i64 0, .slice none 0 0, .int .i64 0] 41)).heap.size = w1.heap.size + 1 + 1 ∧ ((w1.drew.alloc (.cells #[.int .i64 0, .int .i64 0, .int .i64 0, .slice none 0 0, .int .i64 0] 41)).alloc (.cells #[.slice none 0 0, .slice none 0 0, .int .i64 0, .bool false] 30)).heap.size = w1.heap.size + 1 + 1) := ⟨World.size_alloc _ _, World.size_alloc _ _, by rw [World.size_alloc, World.size_alloc]; rfl, by rw [World.size_alloc, World.size_alloc]; rfl⟩
      have hHeld := HS.out _ bD
      have hHa := HS.out _ bDa
      have hHb := HS.out _ bDb
      dsimp only [List.dropLast, List.length, List.getLast]
      ((refine takeL 0 (v := ?_) rfl (by kernel_rfl) (by kernel_rfl) (by kernel_rfl) (fun _ _ _ h => h) (by rfl) hHeld ?_ ?_; rotate_left; focus (intro w hSw; (try dsimp only at hSw); go_simp <;> with_reducible rfl); (try simp only [Act.put, List.setIfInBounds_toArray, List.set_cons_zero, List.set_cons_succ])); (refine takeL 1 (v := ?_) rfl (by kernel_rfl) (by kernel_rfl) (by kernel_rfl) (fun _ _ _ h => h) (by rfl) hHeld ?_ ?_; rotate_left; focus (intro w hSw; (try dsimp only at hSw); go_simp <;> with_reducible rfl); (try simp only [Act.put, List.setIfInBounds_toArray, List.set_cons_zero, List.set_cons_succ])); (refine takeL 2 (v := ?_) rfl (by kernel_rfl) (by kernel_rfl) (by kernel_rfl) (fun _ _ _ h => h) (by rfl) hHeld ?_ ?_; rotate_left; focus (intro w hSw; (try dsimp only at hSw); go_simp <;> with_reducible rfl); (try simp only [Act.put, List.setIfInBounds_toArray, List.set_cons_zero, List.set_cons_succ])); (refine takeL 3 (v := ?_) rfl (by kernel_rfl) (by kernel_rfl) (by kernel_rfl) (fun _ _ _ h => h) (by rfl) hHeld ?_ ?_; rotate_left; focus (intro w hSw; (try dsimp only at hSw); go_simp <;> with_reducible rfl); (try simp only [Act.put, List.setIfInBounds_toArray, List.set_cons_zero, List.set_cons_succ])))
      try dsimp only [Act.put]
      try simp only [List.setIfInBounds_toArray, List.set_cons_zero, List.set_cons_succ]
      ((refine takeL 4 (v := ?_) rfl (by kernel_rfl) (by kernel_rfl) (by kernel_rfl) (fun _ _ _ h => h) (by rfl) hHeld ?_ ?_; rotate_left; focus (intro w hSw; (try dsimp only at hSw); go_simp <;> with_reducible rfl); (try simp only [Act.put, List.setIfInBounds_toArray, List.set_cons_zero, List.set_cons_succ])); (refine takeL 5 (v := ?_) rfl (by kernel_rfl) (by kernel_rfl) (by kernel_rfl) (fun _ _ _ h => h) (by rfl) hHeld ?_ ?_; rotate_left; focus (intro w hSw; (try dsimp only at hSw); go_simp <;> with_reducible rfl); (try simp only [Act.put, List.setIfInBounds_toArray, List.set_cons_zero, List.set_cons_succ])); (refine takeL 6 (v := ?_) rfl (by kernel_rfl) (by kernel_rfl) (by kernel_rfl) (fun _ _ _ h => h) (by rfl) hHeld ?_ ?_; rotate_left; focus (intro w hSw; (try dsimp only at hSw); go_simp <;> with_reducible rfl); (try simp only [Act.put, List.setIfInBounds_toArray, List.set_cons_zero, List.set_cons_succ])); (refine takeL 7 (v := ?_) rfl (by kernel_rfl) (by kernel_rfl) (by kernel_rfl) (fun _ _ _ h => h) (by rfl) hHeld ?_ ?_; rotate_left; focus (intro w hSw; (try dsimp only at hSw); go_simp <;> with_reducible rfl); (try simp only [Act.put, List.setIfInBounds_toArray, List.set_cons_zero, List.set_cons_succ])); (refine takeL 8 (v := ?_) rfl (by kernel_rfl) (by kernel_rfl) (by kernel_rfl) (fun _ _ _ h => h) (by rfl) hHeld ?_ ?_; rotate_left; focus (intro w hSw; (try dsimp only at hSw); go_simp <;> with_reducible rfl); (try simp only [Act.put, List.setIfInBounds_toArray, List.set_cons_zero, List.set_cons_succ])))
      try dsimp only [Act.put]
      try simp only [List.setIfInBounds_toArray, List.set_cons_zero, List.set_cons_succ]
      refine callNewNewL 9 14 15 (f := 20) (vs := #[.agg #[.slice sa n1 sc, .slice wa n2 wc, .int .i64 fz, .bool of], .agg #[.int .i64 3, .int .i64 40, .int .i64 T0, .slice va vn vc, .int .i64 u0], .string S2]) (w1.drew.alloc (.cells #[.slice none 0 0, .slice none 0 0, .int .i64 0, .bool false] 30)) (.pointer (some ⟨w1.heap.size, 0, none⟩)) (w1.drew.alloc (.cells #[.int .i64 0, .int .i64 0, .int .i64 0, .slice none 0 0, .int .i64 0] 41)) (.pointer (some ⟨w1.heap.size, 0, none⟩)) rfl rfl rfl (by kernel_rfl) (by rfl) (by rfl) (by rfl) (by go_simp) (by go_simp) (by go_simp) hHa hHb ?_ ?_ ?_
      · refine Calls.mono (HREF.out _ (fun _ => False) bD (fun _ h => h.elim)) ?_
        rintro e w2 ⟨⟨R', va', vn', vc', qa, m1, qc, pa, m2, pc, fy, oy, hq, rfl, m⟩, b2⟩
        have HQ : Hid (rda R' sx = #[.slice qa m1 qc, .slice pa m2 pc, .int .i64 fy, .bool oy]) := hq
        clear hq
        have b12 : Below w1.heap.size w1 w2 := bD.trans (b2.mono bD.size)
        have hH2 := HS.out w2 b12
        refine ⟨_, rfl, hH2, ?_⟩
        try dsimp only [Act.put]
        try simp only [List.setIfInBounds_toArray, List.set_cons_zero, List.set_cons_succ]
        ((refine takeL 10 (v := ?_) rfl (by kernel_rfl) (by kernel_rfl) (by kernel_rfl) (fun _ _ _ h => h) (by rfl) hH2 ?_ ?_; rotate_left; focus (intro w hSw; (try dsimp only at hSw); go_simp <;> with_reducible rfl); (try simp only [Act.put, List.setIfInBounds_toArray, List.set_cons_zero, List.set_cons_succ])); (refine takeL 11 (v := ?_) rfl (by kernel_rfl) (by kernel_rfl) (by kernel_rfl) (fun _ _ _ h => h) (by rfl) hH2 ?_ ?_; rotate_left; focus (intro w hSw; (try dsimp only at hSw); go_simp <;> with_reducible rfl); (try simp only [Act.put, List.setIfInBounds_toArray, List.set_cons_zero, List.set_cons_succ])); (refine takeL 12 (v := ?_) rfl (by kernel_rfl) (by kernel_rfl) (by kernel_rfl) (fun _ _ _ h => h) (by rfl) hH2 ?_ ?_; rotate_left; focus (intro w hSw; (try dsimp only at hSw); go_simp <;> with_reducible rfl); (try simp only [Act.put, List.setIfInBounds_toArray, List.set_cons_zero, List.set_cons_succ])); (refine takeL 13 (v := ?_) rfl (by kernel_rfl) (by kernel_rfl) (by kernel_rfl) (fun _ _ _ h => h) (by rfl) hH2 ?_ ?_; rotate_left; focus (intro w hSw; (try dsimp only at hSw); go_simp <;> with_reducible rfl); (try simp only [Act.put, List.setIfInBounds_toArray, List.set_cons_zero, List.set_cons_succ])))
        try dsimp only [Act.put]
        try simp only [List.setIfInBounds_toArray, List.set_cons_zero, List.set_cons_succ]
        refine newNewL 14 15 (w2.alloc (.cells #[.slice none 0 0, .slice none 0 0, .int .i64 0, .bool false] 30)) (.pointer (some ⟨w2.heap.size, 0, none⟩)) (w2.alloc (.cells #[.int .i64 0, .int .i64 0, .int .i64 0, .slice none 0 0, .int .i64 0] 41)) (.pointer (some ⟨w2.heap.size, 0, none⟩)) rfl rfl (by kernel_rfl) (by rfl) (by rfl) (by go_simp) (by go_simp) (HS.out _ (b12.alloc b12.size _)) (HS.out _ (b12.alloc b12.size _)) ?_ ?_
        · try dsimp only [Act.put]
          try simp only [List.setIfInBounds_toArray, List.set_cons_zero, List.set_cons_succ]
          refine newL 15 ((w2.alloc (.cells #[.slice none 0 0, .slice none 0 0, .int .i64 0, .bool false] 30)).alloc (.cells #[.int .i64 0, .int .i64 0, .int .i64 0, .slice none 0 0, .int .i64 0] 41)) (.pointer (some ⟨w2.heap.size + 1, 0, none⟩)) rfl (by kernel_rfl) (by rfl) (by go_simp) (HS.out _ ((b12.alloc b12.size (.cells #[.slice none 0 0, .slice none 0 0, .int .i64 0, .bool false] 30)).alloc (by rw [World.size_alloc]; have := b12.size; omega) (.cells #[.int .i64 0, .int .i64 0, .int .i64 0, .slice none 0 0, .int .i64 0] 41))) ?_
          try dsimp only [Act.put]
          try simp only [List.setIfInBounds_toArray, List.set_cons_zero, List.set_cons_succ]
          have M' : Mr ((w2.alloc (.cells #[.slice none 0 0, .slice none 0 0, .int .i64 0, .bool false] 30)).alloc (.cells #[.int .i64 0, .int .i64 0, .int .i64 0, .slice none 0 0, .int .i64 0] 41)) J px (fun x => x = w2.heap.size ∨ x = w2.heap.size + 1) R' sx ox va' vn' vc' := ((m.grow (E2 := fun x => x = w2.heap.size ∨ x = w2.heap.size + 1) (fun x hx => (by rcases hx with hx | hx <;> (right; omega)))).over ((below1 w2 (.cells #[.slice none 0 0, .slice none 0 0, .int .i64 0, .bool false] 30)).trans ((below1 (w2.alloc (.cells #[.slice none 0 0, .slice none 0 0, .int .i64 0, .bool false] 30)) (.cells #[.int .i64 0, .int .i64 0, .int .i64 0, .slice none 0 0, .int .i64 0] 41)).mono (below1 w2 (.cells #[.slice none 0 0, .slice none 0 0, .int .i64 0, .bool false] 30)).size)))
          have BW : Below w1.heap.size w1 ((w2.alloc (.cells #[.slice none 0 0, .slice none 0 0, .int .i64 0, .bool false] 30)).alloc (.cells #[.int .i64 0, .int .i64 0, .int .i64 0, .slice none 0 0, .int .i64 0] 41)) := ((b12.alloc b12.size (.cells #[.slice none 0 0, .slice none 0 0, .int .i64 0, .bool false] 30)).alloc (by rw [World.size_alloc]; have := b12.size; omega) (.cells #[.int .i64 0, .int .i64 0, .int .i64 0, .slice none 0 0, .int .i64 0] 41))
          have BA : Box ((w2.alloc (.cells #[.slice none 0 0, .slice none 0 0, .int .i64 0, .bool false] 30)).alloc (.cells #[.int .i64 0, .int .i64 0, .int .i64 0, .slice none 0 0, .int .i64 0] 41)) (w2.heap.size) 30 #[.slice none 0 0, .slice none 0 0, .int .i64 0, .bool false] := box_old w2 #[.slice none 0 0, .slice none 0 0, .int .i64 0, .bool false] 30 (.cells #[.int .i64 0, .int .i64 0, .int .i64 0, .slice none 0 0, .int .i64 0] 41)
          have BB : Box ((w2.alloc (.cells #[.slice none 0 0, .slice none 0 0, .int .i64 0, .bool false] 30)).alloc (.cells #[.int .i64 0, .int .i64 0, .int .i64 0, .slice none 0 0, .int .i64 0] 41)) (w2.heap.size + 1) 41 #[.int .i64 0, .int .i64 0, .int .i64 0, .slice none 0 0, .int .i64 0] := box_second w2 (.cells #[.slice none 0 0, .slice none 0 0, .int .i64 0, .bool false] 30) #[.int .i64 0, .int .i64 0, .int .i64 0, .slice none 0 0, .int .i64 0] 41
          have hsz := b12.size
          obtain ⟨ga, hga⟩ : ∃ ga, ga = w2.heap.size := ⟨_, rfl⟩
          obtain ⟨gb, hgb⟩ : ∃ gb, gb = w2.heap.size + 1 := ⟨_, rfl⟩
          obtain ⟨W, hW⟩ : ∃ W, W = ((w2.alloc (.cells #[.slice none 0 0, .slice none 0 0, .int .i64 0, .bool false] 30)).alloc (.cells #[.int .i64 0, .int .i64 0, .int .i64 0, .slice none 0 0, .int .i64 0] 41)) := ⟨_, rfl⟩
          have hla : w1.heap.size ≤ ga := by omega
          have hlb : w1.heap.size ≤ gb := by omega
          replace M' : Mr W J px (fun x => x = ga ∨ x = gb) R' sx ox va' vn' vc' := by rw [hW, hga, hgb]; exact M'
          replace BW : Below w1.heap.size w1 W := by rw [hW]; exact BW
          replace BA : Box W ga 30 #[.slice none 0 0, .slice none 0 0, .int .i64 0, .bool false] := by rw [hW, hga]; exact BA
          replace BB : Box W gb 41 #[.int .i64 0, .int .i64 0, .int .i64 0, .slice none 0 0, .int .i64 0] := by rw [hW, hgb]; exact BB
          rw [← hW]
          rw [show ((some ⟨w2.heap.size + 1, 0, none⟩) : Option Addr) = some ⟨gb, 0, none⟩ by rw [hgb]]
          rw [show ((some ⟨w2.heap.size, 0, none⟩) : Option Addr) = some ⟨ga, 0, none⟩ by rw [hga]]
          clear hga hgb hW hsz
          have q0 := BA.cell 0 (.slice none 0 0) rfl
          have q1 := BA.cell 1 (.slice none 0 0) rfl
          have q2 := BA.cell 2 (.int .i64 0) rfl
          have q3 := BA.cell 3 (.bool false) rfl
          have f0 := BA.frozen 0
          have f1 := BA.frozen 1
          have f2 := BA.frozen 2
          have f3 := BA.frozen 3
          have T6 := tail6 HO1.out.1 BW M' BA BB (.inl rfl) (.inr rfl) hla hlb (.slice qa m1 qc) (.slice pa m2 pc) (.int .i64 fy) (.bool oy) (.int .i64 3) (.int .i64 40) (.int .i64 T0) (.slice va' vn' vc') (.int .i64 ux0)
          have hnp : px ≠ ga := fun e => by have := HO1.out.1.box.lt; omega
          have hne : gb ≠ ga := fun e => by
            rw [e] at BB
            have := cells_type BB BA
            simp at this
          have BX := (((((HBX.out.over BW).other (a := ⟨ga, 0, none⟩) hnp (.slice qa m1 qc)).other (a := ⟨ga, 1, none⟩) hnp (.slice pa m2 pc)).other (a := ⟨ga, 2, none⟩) hnp (.int .i64 fy)).other (a := ⟨ga, 3, none⟩) hnp (.bool oy))
          have BB1 := ((((BB.other (a := ⟨ga, 0, none⟩) hne (.slice qa m1 qc)).other (a := ⟨ga, 1, none⟩) hne (.slice pa m2 pc)).other (a := ⟨ga, 2, none⟩) hne (.int .i64 fy)).other (a := ⟨ga, 3, none⟩) hne (.bool oy))
          have hSA : (fun w' : World => w'.cell? ⟨px, 2, none⟩ = some (.slice sa n1 sc) ∧ w'.cell? ⟨px, 3, none⟩ = some (.slice wa n2 wc) ∧ w'.cell? ⟨px, 4, none⟩ = some (.int .i64 fz) ∧ w'.cell? ⟨px, 5, none⟩ = some (.bool of) ∧ w'.cell? ⟨px, 6, none⟩ = some (.int .i64 3) ∧ w'.cell? ⟨px, 7, none⟩ = some (.int .i64 40) ∧ w'.cell? ⟨px, 8, none⟩ = some (.int .i64 T0) ∧ w'.cell? ⟨px, 9, none⟩ = some (.slice va vn vc) ∧ w'.cell? ⟨px, 10, none⟩ = some (.int .i64 u0)) ((((W.setCell ⟨ga, 0, none⟩ (.slice qa m1 qc)).setCell ⟨ga, 1, none⟩ (.slice pa m2 pc)).setCell ⟨ga, 2, none⟩ (.int .i64 fy)).setCell ⟨ga, 3, none⟩ (.bool oy)) := ⟨BX.cell 2 _ rfl, BX.cell 3 _ rfl, BX.cell 4 _ rfl, BX.cell 5 _ rfl, BX.cell 6 _ rfl, BX.cell 7 _ rfl, BX.cell 8 _ rfl, BX.cell 9 _ rfl, BX.cell 10 _ rfl⟩
          have HFF : Hid (Unit → M6 w0 (((((((((W.setCell ⟨ga, 0, none⟩ (.slice qa m1 qc)).setCell ⟨ga, 1, none⟩ (.slice pa m2 pc)).setCell ⟨ga, 2, none⟩ (.int .i64 fy)).setCell ⟨ga, 3, none⟩ (.bool oy)).setCell ⟨gb, 0, none⟩ (.int .i64 3)).setCell ⟨gb, 1, none⟩ (.int .i64 40)).setCell ⟨gb, 2, none⟩ (.int .i64 T0)).setCell ⟨gb, 3, none⟩ (.slice va' vn' vc')).setCell ⟨gb, 4, none⟩ (.int .i64 ux0)) px hp J R s turn u out va vn vc i R' sx ox va' vn' vc' ga gb #[.slice qa m1 qc, .slice pa m2 pc, .int .i64 fy, .bool oy] #[.int .i64 3, .int .i64 40, .int .i64 T0, .slice va' vn' vc', .int .i64 ux0]) := fun _ => T6
          clear T6 BA BB M' BW hnp hne
          refine stepL 16 ((((W.setCell ⟨ga, 0, none⟩ (.slice qa m1 qc)).setCell ⟨ga, 1, none⟩ (.slice pa m2 pc)).setCell ⟨ga, 2, none⟩ (.int .i64 fy)).setCell ⟨ga, 3, none⟩ (.bool oy)) rfl (by kernel_rfl) (by rfl) (by go_simp) hSA ?_
          try dsimp only [Act.put]
          try simp only [List.setIfInBounds_toArray, List.set_cons_zero, List.set_cons_succ]
          obtain ⟨W1, hW1⟩ : ∃ W1, W1 = ((((W.setCell ⟨ga, 0, none⟩ (.slice qa m1 qc)).setCell ⟨ga, 1, none⟩ (.slice pa m2 pc)).setCell ⟨ga, 2, none⟩ (.int .i64 fy)).setCell ⟨ga, 3, none⟩ (.bool oy)) := ⟨_, rfl⟩
          rw [← hW1] at HFF BX BB1 ⊢
          clear hW1 q0 q1 q2 q3 f0 f1 f2 f3 hSA
          have q0 := BB1.cell 0 (.int .i64 0) rfl
          have q1 := BB1.cell 1 (.int .i64 0) rfl
          have q2 := BB1.cell 2 (.int .i64 0) rfl
          have q3 := BB1.cell 3 (.slice none 0 0) rfl
          have q4 := BB1.cell 4 (.int .i64 0) rfl
          have f0 := BB1.frozen 0
          have f1 := BB1.frozen 1
          have f2 := BB1.frozen 2
          have f3 := BB1.frozen 3
          have f4 := BB1.frozen 4
          have hnp : px ≠ gb := fun e => by
            rw [e] at BX
            have := cells_type BX BB1
            simp at this
          have BX2 := other_five BX hnp (.int .i64 3) (.int .i64 40) (.int .i64 T0) (.slice va' vn' vc') (.int .i64 ux0)
          have hSB : (fun w' : World => w'.cell? ⟨px, 2, none⟩ = some (.slice sa n1 sc) ∧ w'.cell? ⟨px, 3, none⟩ = some (.slice wa n2 wc) ∧ w'.cell? ⟨px, 4, none⟩ = some (.int .i64 fz) ∧ w'.cell? ⟨px, 5, none⟩ = some (.bool of) ∧ w'.cell? ⟨px, 6, none⟩ = some (.int .i64 3) ∧ w'.cell? ⟨px, 7, none⟩ = some (.int .i64 40) ∧ w'.cell? ⟨px, 8, none⟩ = some (.int .i64 T0) ∧ w'.cell? ⟨px, 9, none⟩ = some (.slice va vn vc) ∧ w'.cell? ⟨px, 10, none⟩ = some (.int .i64 u0)) (((((W1.setCell ⟨gb, 0, none⟩ (.int .i64 3)).setCell ⟨gb, 1, none⟩ (.int .i64 40)).setCell ⟨gb, 2, none⟩ (.int .i64 T0)).setCell ⟨gb, 3, none⟩ (.slice va' vn' vc')).setCell ⟨gb, 4, none⟩ (.int .i64 ux0)) := ⟨BX2.cell 2 _ rfl, BX2.cell 3 _ rfl, BX2.cell 4 _ rfl, BX2.cell 5 _ rfl, BX2.cell 6 _ rfl, BX2.cell 7 _ rfl, BX2.cell 8 _ rfl, BX2.cell 9 _ rfl, BX2.cell 10 _ rfl⟩
          clear BX BB1 hnp BX2
          refine stepL 17 (((((W1.setCell ⟨gb, 0, none⟩ (.int .i64 3)).setCell ⟨gb, 1, none⟩ (.int .i64 40)).setCell ⟨gb, 2, none⟩ (.int .i64 T0)).setCell ⟨gb, 3, none⟩ (.slice va' vn' vc')).setCell ⟨gb, 4, none⟩ (.int .i64 ux0)) rfl (by kernel_rfl) (by rfl) (by go_simp) hSB ?_
          try dsimp only [Act.put]
          try simp only [List.setIfInBounds_toArray, List.set_cons_zero, List.set_cons_succ]
          obtain ⟨W6, hW6⟩ : ∃ W6, W6 = (((((W1.setCell ⟨gb, 0, none⟩ (.int .i64 3)).setCell ⟨gb, 1, none⟩ (.int .i64 40)).setCell ⟨gb, 2, none⟩ (.int .i64 T0)).setCell ⟨gb, 3, none⟩ (.slice va' vn' vc')).setCell ⟨gb, 4, none⟩ (.int .i64 ux0)) := ⟨_, rfl⟩
          rw [← hW6] at HFF ⊢
          clear hW6 q0 q1 q2 q3 q4 f0 f1 f2 f3 f4 hSB
          refine doneL (by kernel_rfl) ?_
          try dsimp only [Act.put]
          try simp only [List.setIfInBounds_toArray, List.set_cons_zero, List.set_cons_succ]
          unfold Oper.wp
          go_simp
          go_wp2_with fail
          go_meet
          exact ⟨ga, gb, R', va', vn', vc', qa, m1, qc, pa, m2, pc, fy, oy, W6, rfl, rfl, rfl, rfl, HQ.out, HFF.out ()⟩
        · try dsimp only [Act.put]
          try simp only [List.setIfInBounds_toArray, List.set_cons_zero, List.set_cons_succ]
          refine newL 14 ((w2.alloc (.cells #[.int .i64 0, .int .i64 0, .int .i64 0, .slice none 0 0, .int .i64 0] 41)).alloc (.cells #[.slice none 0 0, .slice none 0 0, .int .i64 0, .bool false] 30)) (.pointer (some ⟨w2.heap.size + 1, 0, none⟩)) rfl (by kernel_rfl) (by rfl) (by go_simp) (HS.out _ ((b12.alloc b12.size (.cells #[.int .i64 0, .int .i64 0, .int .i64 0, .slice none 0 0, .int .i64 0] 41)).alloc (by rw [World.size_alloc]; have := b12.size; omega) (.cells #[.slice none 0 0, .slice none 0 0, .int .i64 0, .bool false] 30))) ?_
          try dsimp only [Act.put]
          try simp only [List.setIfInBounds_toArray, List.set_cons_zero, List.set_cons_succ]
          have M' : Mr ((w2.alloc (.cells #[.int .i64 0, .int .i64 0, .int .i64 0, .slice none 0 0, .int .i64 0] 41)).alloc (.cells #[.slice none 0 0, .slice none 0 0, .int .i64 0, .bool false] 30)) J px (fun x => x = w2.heap.size + 1 ∨ x = w2.heap.size) R' sx ox va' vn' vc' := ((m.grow (E2 := fun x => x = w2.heap.size + 1 ∨ x = w2.heap.size) (fun x hx => (by rcases hx with hx | hx <;> (right; omega)))).over ((below1 w2 (.cells #[.int .i64 0, .int .i64 0, .int .i64 0, .slice none 0 0, .int .i64 0] 41)).trans ((below1 (w2.alloc (.cells #[.int .i64 0, .int .i64 0, .int .i64 0, .slice none 0 0, .int .i64 0] 41)) (.cells #[.slice none 0 0, .slice none 0 0, .int .i64 0, .bool false] 30)).mono (below1 w2 (.cells #[.int .i64 0, .int .i64 0, .int .i64 0, .slice none 0 0, .int .i64 0] 41)).size)))
          have BW : Below w1.heap.size w1 ((w2.alloc (.cells #[.int .i64 0, .int .i64 0, .int .i64 0, .slice none 0 0, .int .i64 0] 41)).alloc (.cells #[.slice none 0 0, .slice none 0 0, .int .i64 0, .bool false] 30)) := ((b12.alloc b12.size (.cells #[.int .i64 0, .int .i64 0, .int .i64 0, .slice none 0 0, .int .i64 0] 41)).alloc (by rw [World.size_alloc]; have := b12.size; omega) (.cells #[.slice none 0 0, .slice none 0 0, .int .i64 0, .bool false] 30))
          have BA : Box ((w2.alloc (.cells #[.int .i64 0, .int .i64 0, .int .i64 0, .slice none 0 0, .int .i64 0] 41)).alloc (.cells #[.slice none 0 0, .slice none 0 0, .int .i64 0, .bool false] 30)) (w2.heap.size + 1) 30 #[.slice none 0 0, .slice none 0 0, .int .i64 0, .bool false] := box_second w2 (.cells #[.int .i64 0, .int .i64 0, .int .i64 0, .slice none 0 0, .int .i64 0] 41) #[.slice none 0 0, .slice none 0 0, .int .i64 0, .bool false] 30
          have BB : Box ((w2.alloc (.cells #[.int .i64 0, .int .i64 0, .int .i64 0, .slice none 0 0, .int .i64 0] 41)).alloc (.cells #[.slice none 0 0, .slice none 0 0, .int .i64 0, .bool false] 30)) (w2.heap.size) 41 #[.int .i64 0, .int .i64 0, .int .i64 0, .slice none 0 0, .int .i64 0] := box_old w2 #[.int .i64 0, .int .i64 0, .int .i64 0, .slice none 0 0, .int .i64 0] 41 (.cells #[.slice none 0 0, .slice none 0 0, .int .i64 0, .bool false] 30)
          have hsz := b12.size
          obtain ⟨ga, hga⟩ : ∃ ga, ga = w2.heap.size + 1 := ⟨_, rfl⟩
          obtain ⟨gb, hgb⟩ : ∃ gb, gb = w2.heap.size := ⟨_, rfl⟩
          obtain ⟨W, hW⟩ : ∃ W, W = ((w2.alloc (.cells #[.int .i64 0, .int .i64 0, .int .i64 0, .slice none 0 0, .int .i64 0] 41)).alloc (.cells #[.slice none 0 0, .slice none 0 0, .int .i64 0, .bool false] 30)) := ⟨_, rfl⟩
          have hla : w1.heap.size ≤ ga := by omega
          have hlb : w1.heap.size ≤ gb := by omega
          replace M' : Mr W J px (fun x => x = ga ∨ x = gb) R' sx ox va' vn' vc' := by rw [hW, hga, hgb]; exact M'
          replace BW : Below w1.heap.size w1 W := by rw [hW]; exact BW
          replace BA : Box W ga 30 #[.slice none 0 0, .slice none 0 0, .int .i64 0, .bool false] := by rw [hW, hga]; exact BA
          replace BB : Box W gb 41 #[.int .i64 0, .int .i64 0, .int .i64 0, .slice none 0 0, .int .i64 0] := by rw [hW, hgb]; exact BB
          rw [← hW]
          rw [show ((some ⟨w2.heap.size, 0, none⟩) : Option Addr) = some ⟨gb, 0, none⟩ by rw [hgb]]
          rw [show ((some ⟨w2.heap.size + 1, 0, none⟩) : Option Addr) = some ⟨ga, 0, none⟩ by rw [hga]]
          clear hga hgb hW hsz
          have q0 := BA.cell 0 (.slice none 0 0) rfl
          have q1 := BA.cell 1 (.slice none 0 0) rfl
          have q2 := BA.cell 2 (.int .i64 0) rfl
          have q3 := BA.cell 3 (.bool false) rfl
          have f0 := BA.frozen 0
          have f1 := BA.frozen 1
          have f2 := BA.frozen 2
          have f3 := BA.frozen 3
          have T6 := tail6 HO1.out.1 BW M' BA BB (.inl rfl) (.inr rfl) hla hlb (.slice qa m1 qc) (.slice pa m2 pc) (.int .i64 fy) (.bool oy) (.int .i64 3) (.int .i64 40) (.int .i64 T0) (.slice va' vn' vc') (.int .i64 ux0)
          have hnp : px ≠ ga := fun e => by have := HO1.out.1.box.lt; omega
          have hne : gb ≠ ga := fun e => by
            rw [e] at BB
            have := cells_type BB BA
            simp at this
          have BX := (((((HBX.out.over BW).other (a := ⟨ga, 0, none⟩) hnp (.slice qa m1 qc)).other (a := ⟨ga, 1, none⟩) hnp (.slice pa m2 pc)).other (a := ⟨ga, 2, none⟩) hnp (.int .i64 fy)).other (a := ⟨ga, 3, none⟩) hnp (.bool oy))
          have BB1 := ((((BB.other (a := ⟨ga, 0, none⟩) hne (.slice qa m1 qc)).other (a := ⟨ga, 1, none⟩) hne (.slice pa m2 pc)).other (a := ⟨ga, 2, none⟩) hne (.int .i64 fy)).other (a := ⟨ga, 3, none⟩) hne (.bool oy))
          have hSA : (fun w' : World => w'.cell? ⟨px, 2, none⟩ = some (.slice sa n1 sc) ∧ w'.cell? ⟨px, 3, none⟩ = some (.slice wa n2 wc) ∧ w'.cell? ⟨px, 4, none⟩ = some (.int .i64 fz) ∧ w'.cell? ⟨px, 5, none⟩ = some (.bool of) ∧ w'.cell? ⟨px, 6, none⟩ = some (.int .i64 3) ∧ w'.cell? ⟨px, 7, none⟩ = some (.int .i64 40) ∧ w'.cell? ⟨px, 8, none⟩ = some (.int .i64 T0) ∧ w'.cell? ⟨px, 9, none⟩ = some (.slice va vn vc) ∧ w'.cell? ⟨px, 10, none⟩ = some (.int .i64 u0)) ((((W.setCell ⟨ga, 0, none⟩ (.slice qa m1 qc)).setCell ⟨ga, 1, none⟩ (.slice pa m2 pc)).setCell ⟨ga, 2, none⟩ (.int .i64 fy)).setCell ⟨ga, 3, none⟩ (.bool oy)) := ⟨BX.cell 2 _ rfl, BX.cell 3 _ rfl, BX.cell 4 _ rfl, BX.cell 5 _ rfl, BX.cell 6 _ rfl, BX.cell 7 _ rfl, BX.cell 8 _ rfl, BX.cell 9 _ rfl, BX.cell 10 _ rfl⟩
          have HFF : Hid (Unit → M6 w0 (((((((((W.setCell ⟨ga, 0, none⟩ (.slice qa m1 qc)).setCell ⟨ga, 1, none⟩ (.slice pa m2 pc)).setCell ⟨ga, 2, none⟩ (.int .i64 fy)).setCell ⟨ga, 3, none⟩ (.bool oy)).setCell ⟨gb, 0, none⟩ (.int .i64 3)).setCell ⟨gb, 1, none⟩ (.int .i64 40)).setCell ⟨gb, 2, none⟩ (.int .i64 T0)).setCell ⟨gb, 3, none⟩ (.slice va' vn' vc')).setCell ⟨gb, 4, none⟩ (.int .i64 ux0)) px hp J R s turn u out va vn vc i R' sx ox va' vn' vc' ga gb #[.slice qa m1 qc, .slice pa m2 pc, .int .i64 fy, .bool oy] #[.int .i64 3, .int .i64 40, .int .i64 T0, .slice va' vn' vc', .int .i64 ux0]) := fun _ => T6
          clear T6 BA BB M' BW hnp hne
          refine stepL 16 ((((W.setCell ⟨ga, 0, none⟩ (.slice qa m1 qc)).setCell ⟨ga, 1, none⟩ (.slice pa m2 pc)).setCell ⟨ga, 2, none⟩ (.int .i64 fy)).setCell ⟨ga, 3, none⟩ (.bool oy)) rfl (by kernel_rfl) (by rfl) (by go_simp) hSA ?_
          try dsimp only [Act.put]
          try simp only [List.setIfInBounds_toArray, List.set_cons_zero, List.set_cons_succ]
          obtain ⟨W1, hW1⟩ : ∃ W1, W1 = ((((W.setCell ⟨ga, 0, none⟩ (.slice qa m1 qc)).setCell ⟨ga, 1, none⟩ (.slice pa m2 pc)).setCell ⟨ga, 2, none⟩ (.int .i64 fy)).setCell ⟨ga, 3, none⟩ (.bool oy)) := ⟨_, rfl⟩
          rw [← hW1] at HFF BX BB1 ⊢
          clear hW1 q0 q1 q2 q3 f0 f1 f2 f3 hSA
          have q0 := BB1.cell 0 (.int .i64 0) rfl
          have q1 := BB1.cell 1 (.int .i64 0) rfl
          have q2 := BB1.cell 2 (.int .i64 0) rfl
          have q3 := BB1.cell 3 (.slice none 0 0) rfl
          have q4 := BB1.cell 4 (.int .i64 0) rfl
          have f0 := BB1.frozen 0
          have f1 := BB1.frozen 1
          have f2 := BB1.frozen 2
          have f3 := BB1.frozen 3
          have f4 := BB1.frozen 4
          have hnp : px ≠ gb := fun e => by
            rw [e] at BX
            have := cells_type BX BB1
            simp at this
          have BX2 := other_five BX hnp (.int .i64 3) (.int .i64 40) (.int .i64 T0) (.slice va' vn' vc') (.int .i64 ux0)
          have hSB : (fun w' : World => w'.cell? ⟨px, 2, none⟩ = some (.slice sa n1 sc) ∧ w'.cell? ⟨px, 3, none⟩ = some (.slice wa n2 wc) ∧ w'.cell? ⟨px, 4, none⟩ = some (.int .i64 fz) ∧ w'.cell? ⟨px, 5, none⟩ = some (.bool of) ∧ w'.cell? ⟨px, 6, none⟩ = some (.int .i64 3) ∧ w'.cell? ⟨px, 7, none⟩ = some (.int .i64 40) ∧ w'.cell? ⟨px, 8, none⟩ = some (.int .i64 T0) ∧ w'.cell? ⟨px, 9, none⟩ = some (.slice va vn vc) ∧ w'.cell? ⟨px, 10, none⟩ = some (.int .i64 u0)) (((((W1.setCell ⟨gb, 0, none⟩ (.int .i64 3)).setCell ⟨gb, 1, none⟩ (.int .i64 40)).setCell ⟨gb, 2, none⟩ (.int .i64 T0)).setCell ⟨gb, 3, none⟩ (.slice va' vn' vc')).setCell ⟨gb, 4, none⟩ (.int .i64 ux0)) := ⟨BX2.cell 2 _ rfl, BX2.cell 3 _ rfl, BX2.cell 4 _ rfl, BX2.cell 5 _ rfl, BX2.cell 6 _ rfl, BX2.cell 7 _ rfl, BX2.cell 8 _ rfl, BX2.cell 9 _ rfl, BX2.cell 10 _ rfl⟩
          clear BX BB1 hnp BX2
          refine stepL 17 (((((W1.setCell ⟨gb, 0, none⟩ (.int .i64 3)).setCell ⟨gb, 1, none⟩ (.int .i64 40)).setCell ⟨gb, 2, none⟩ (.int .i64 T0)).setCell ⟨gb, 3, none⟩ (.slice va' vn' vc')).setCell ⟨gb, 4, none⟩ (.int .i64 ux0)) rfl (by kernel_rfl) (by rfl) (by go_simp) hSB ?_
          try dsimp only [Act.put]
          try simp only [List.setIfInBounds_toArray, List.set_cons_zero, List.set_cons_succ]
          obtain ⟨W6, hW6⟩ : ∃ W6, W6 = (((((W1.setCell ⟨gb, 0, none⟩ (.int .i64 3)).setCell ⟨gb, 1, none⟩ (.int .i64 40)).setCell ⟨gb, 2, none⟩ (.int .i64 T0)).setCell ⟨gb, 3, none⟩ (.slice va' vn' vc')).setCell ⟨gb, 4, none⟩ (.int .i64 ux0)) := ⟨_, rfl⟩
          rw [← hW6] at HFF ⊢
          clear hW6 q0 q1 q2 q3 q4 f0 f1 f2 f3 f4 hSB
          refine doneL (by kernel_rfl) ?_
          try dsimp only [Act.put]
          try simp only [List.setIfInBounds_toArray, List.set_cons_zero, List.set_cons_succ]
          unfold Oper.wp
          go_simp
          go_wp2_with fail
          go_meet
          exact ⟨ga, gb, R', va', vn', vc', qa, m1, qc, pa, m2, pc, fy, oy, W6, rfl, rfl, rfl, rfl, HQ.out, HFF.out ()⟩
      · try dsimp only [Act.put]
        try simp only [List.setIfInBounds_toArray, List.set_cons_zero, List.set_cons_succ]
        refine callNewL 9 15 (f := 20) (vs := #[.agg #[.slice sa n1 sc, .slice wa n2 wc, .int .i64 fz, .bool of], .agg #[.int .i64 3, .int .i64 40, .int .i64 T0, .slice va vn vc, .int .i64 u0], .string S2]) ((w1.drew.alloc (.cells #[.slice none 0 0, .slice none 0 0, .int .i64 0, .bool false] 30)).alloc (.cells #[.int .i64 0, .int .i64 0, .int .i64 0, .slice none 0 0, .int .i64 0] 41)) (.pointer (some ⟨w1.heap.size + 1, 0, none⟩)) rfl rfl (by kernel_rfl) (by rfl) (by rfl) (by go_simp) (by go_simp) (HS.out _ bDab) ?_ ?_
        · refine Calls.mono (HREF.out (w1.drew.alloc (.cells #[.slice none 0 0, .slice none 0 0, .int .i64 0, .bool false] 30)) (fun x => x = w1.heap.size) bDa (fun x hx => by have := HSZ.out; omega)) ?_
          rintro e w2 ⟨⟨R', va', vn', vc', qa, m1, qc, pa, m2, pc, fy, oy, hq, rfl, m⟩, b2⟩
          have HQ : Hid (rda R' sx = #[.slice qa m1 qc, .slice pa m2 pc, .int .i64 fy, .bool oy]) := hq
          clear hq
          have b12 : Below w1.heap.size w1 w2 := bDa.trans (b2.mono bDa.size)
          have hH2 := HS.out w2 b12
          refine ⟨_, rfl, hH2, ?_⟩
          try dsimp only [Act.put]
          try simp only [List.setIfInBounds_toArray, List.set_cons_zero, List.set_cons_succ]
          ((refine takeL 10 (v := ?_) rfl (by kernel_rfl) (by kernel_rfl) (by kernel_rfl) (fun _ _ _ h => h) (by rfl) hH2 ?_ ?_; rotate_left; focus (intro w hSw; (try dsimp only at hSw); go_simp <;> with_reducible rfl); (try simp only [Act.put, List.setIfInBounds_toArray, List.set_cons_zero, List.set_cons_succ])); (refine takeL 11 (v := ?_) rfl (by kernel_rfl) (by kernel_rfl) (by kernel_rfl) (fun _ _ _ h => h) (by rfl) hH2 ?_ ?_; rotate_left; focus (intro w hSw; (try dsimp only at hSw); go_simp <;> with_reducible rfl); (try simp only [Act.put, List.setIfInBounds_toArray, List.set_cons_zero, List.set_cons_succ])); (refine takeL 12 (v := ?_) rfl (by kernel_rfl) (by kernel_rfl) (by kernel_rfl) (fun _ _ _ h => h) (by rfl) hH2 ?_ ?_; rotate_left; focus (intro w hSw; (try dsimp only at hSw); go_simp <;> with_reducible rfl); (try simp only [Act.put, List.setIfInBounds_toArray, List.set_cons_zero, List.set_cons_succ])); (refine takeL 13 (v := ?_) rfl (by kernel_rfl) (by kernel_rfl) (by kernel_rfl) (fun _ _ _ h => h) (by rfl) hH2 ?_ ?_; rotate_left; focus (intro w hSw; (try dsimp only at hSw); go_simp <;> with_reducible rfl); (try simp only [Act.put, List.setIfInBounds_toArray, List.set_cons_zero, List.set_cons_succ])))
          try dsimp only [Act.put]
          try simp only [List.setIfInBounds_toArray, List.set_cons_zero, List.set_cons_succ]
          refine newL 15 (w2.alloc (.cells #[.int .i64 0, .int .i64 0, .int .i64 0, .slice none 0 0, .int .i64 0] 41)) (.pointer (some ⟨w2.heap.size, 0, none⟩)) rfl (by kernel_rfl) (by rfl) (by go_simp) (HS.out _ (b12.alloc b12.size _)) ?_
          try dsimp only [Act.put]
          try simp only [List.setIfInBounds_toArray, List.set_cons_zero, List.set_cons_succ]
          have M' : Mr (w2.alloc (.cells #[.int .i64 0, .int .i64 0, .int .i64 0, .slice none 0 0, .int .i64 0] 41)) J px (fun x => x = w1.heap.size ∨ x = w2.heap.size) R' sx ox va' vn' vc' := ((m.grow (E2 := fun x => x = w1.heap.size ∨ x = w2.heap.size) (fun x hx => (by rcases hx with hx | hx; exact .inl hx; right; omega))).over (below1 w2 (.cells #[.int .i64 0, .int .i64 0, .int .i64 0, .slice none 0 0, .int .i64 0] 41)))
          have BW : Below w1.heap.size w1 (w2.alloc (.cells #[.int .i64 0, .int .i64 0, .int .i64 0, .slice none 0 0, .int .i64 0] 41)) := b12.alloc b12.size _
          have BA : Box (w2.alloc (.cells #[.int .i64 0, .int .i64 0, .int .i64 0, .slice none 0 0, .int .i64 0] 41)) (w1.heap.size) 30 #[.slice none 0 0, .slice none 0 0, .int .i64 0, .bool false] := ((box_new w1.drew #[.slice none 0 0, .slice none 0 0, .int .i64 0, .bool false] 30).over b2).alloc (.cells #[.int .i64 0, .int .i64 0, .int .i64 0, .slice none 0 0, .int .i64 0] 41)
          have BB : Box (w2.alloc (.cells #[.int .i64 0, .int .i64 0, .int .i64 0, .slice none 0 0, .int .i64 0] 41)) (w2.heap.size) 41 #[.int .i64 0, .int .i64 0, .int .i64 0, .slice none 0 0, .int .i64 0] := box_new w2 #[.int .i64 0, .int .i64 0, .int .i64 0, .slice none 0 0, .int .i64 0] 41
          have hsz := b12.size
          obtain ⟨ga, hga⟩ : ∃ ga, ga = w1.heap.size := ⟨_, rfl⟩
          obtain ⟨gb, hgb⟩ : ∃ gb, gb = w2.heap.size := ⟨_, rfl⟩
          obtain ⟨W, hW⟩ : ∃ W, W = (w2.alloc (.cells #[.int .i64 0, .int .i64 0, .int .i64 0, .slice none 0 0, .int .i64 0] 41)) := ⟨_, rfl⟩
          have hla : w1.heap.size ≤ ga := by omega
          have hlb : w1.heap.size ≤ gb := by omega
          replace M' : Mr W J px (fun x => x = ga ∨ x = gb) R' sx ox va' vn' vc' := by rw [hW, hga, hgb]; exact M'
          replace BW : Below w1.heap.size w1 W := by rw [hW]; exact BW
          replace BA : Box W ga 30 #[.slice none 0 0, .slice none 0 0, .int .i64 0, .bool false] := by rw [hW, hga]; exact BA
          replace BB : Box W gb 41 #[.int .i64 0, .int .i64 0, .int .i64 0, .slice none 0 0, .int .i64 0] := by rw [hW, hgb]; exact BB
          rw [← hW]
          rw [show ((some ⟨w2.heap.size, 0, none⟩) : Option Addr) = some ⟨gb, 0, none⟩ by rw [hgb]]
          rw [show ((some ⟨w1.heap.size, 0, none⟩) : Option Addr) = some ⟨ga, 0, none⟩ by rw [hga]]
          clear hga hgb hW hsz
          have q0 := BA.cell 0 (.slice none 0 0) rfl
          have q1 := BA.cell 1 (.slice none 0 0) rfl
          have q2 := BA.cell 2 (.int .i64 0) rfl
          have q3 := BA.cell 3 (.bool false) rfl
          have f0 := BA.frozen 0
          have f1 := BA.frozen 1
          have f2 := BA.frozen 2
          have f3 := BA.frozen 3
          have T6 := tail6 HO1.out.1 BW M' BA BB (.inl rfl) (.inr rfl) hla hlb (.slice qa m1 qc) (.slice pa m2 pc) (.int .i64 fy) (.bool oy) (.int .i64 3) (.int .i64 40) (.int .i64 T0) (.slice va' vn' vc') (.int .i64 ux0)
          have hnp : px ≠ ga := fun e => by have := HO1.out.1.box.lt; omega
          have hne : gb ≠ ga := fun e => by
            rw [e] at BB
            have := cells_type BB BA
            simp at this
          have BX := (((((HBX.out.over BW).other (a := ⟨ga, 0, none⟩) hnp (.slice qa m1 qc)).other (a := ⟨ga, 1, none⟩) hnp (.slice pa m2 pc)).other (a := ⟨ga, 2, none⟩) hnp (.int .i64 fy)).other (a := ⟨ga, 3, none⟩) hnp (.bool oy))
          have BB1 := ((((BB.other (a := ⟨ga, 0, none⟩) hne (.slice qa m1 qc)).other (a := ⟨ga, 1, none⟩) hne (.slice pa m2 pc)).other (a := ⟨ga, 2, none⟩) hne (.int .i64 fy)).other (a := ⟨ga, 3, none⟩) hne (.bool oy))
          have hSA : (fun w' : World => w'.cell? ⟨px, 2, none⟩ = some (.slice sa n1 sc) ∧ w'.cell? ⟨px, 3, none⟩ = some (.slice wa n2 wc) ∧ w'.cell? ⟨px, 4, none⟩ = some (.int .i64 fz) ∧ w'.cell? ⟨px, 5, none⟩ = some (.bool of) ∧ w'.cell? ⟨px, 6, none⟩ = some (.int .i64 3) ∧ w'.cell? ⟨px, 7, none⟩ = some (.int .i64 40) ∧ w'.cell? ⟨px, 8, none⟩ = some (.int .i64 T0) ∧ w'.cell? ⟨px, 9, none⟩ = some (.slice va vn vc) ∧ w'.cell? ⟨px, 10, none⟩ = some (.int .i64 u0)) ((((W.setCell ⟨ga, 0, none⟩ (.slice qa m1 qc)).setCell ⟨ga, 1, none⟩ (.slice pa m2 pc)).setCell ⟨ga, 2, none⟩ (.int .i64 fy)).setCell ⟨ga, 3, none⟩ (.bool oy)) := ⟨BX.cell 2 _ rfl, BX.cell 3 _ rfl, BX.cell 4 _ rfl, BX.cell 5 _ rfl, BX.cell 6 _ rfl, BX.cell 7 _ rfl, BX.cell 8 _ rfl, BX.cell 9 _ rfl, BX.cell 10 _ rfl⟩
          have HFF : Hid (Unit → M6 w0 (((((((((W.setCell ⟨ga, 0, none⟩ (.slice qa m1 qc)).setCell ⟨ga, 1, none⟩ (.slice pa m2 pc)).setCell ⟨ga, 2, none⟩ (.int .i64 fy)).setCell ⟨ga, 3, none⟩ (.bool oy)).setCell ⟨gb, 0, none⟩ (.int .i64 3)).setCell ⟨gb, 1, none⟩ (.int .i64 40)).setCell ⟨gb, 2, none⟩ (.int .i64 T0)).setCell ⟨gb, 3, none⟩ (.slice va' vn' vc')).setCell ⟨gb, 4, none⟩ (.int .i64 ux0)) px hp J R s turn u out va vn vc i R' sx ox va' vn' vc' ga gb #[.slice qa m1 qc, .slice pa m2 pc, .int .i64 fy, .bool oy] #[.int .i64 3, .int .i64 40, .int .i64 T0, .slice va' vn' vc', .int .i64 ux0]) := fun _ => T6
          clear T6 BA BB M' BW hnp hne
          refine stepL 16 ((((W.setCell ⟨ga, 0, none⟩ (.slice qa m1 qc)).setCell ⟨ga, 1, none⟩ (.slice pa m2 pc)).setCell ⟨ga, 2, none⟩ (.int .i64 fy)).setCell ⟨ga, 3, none⟩ (.bool oy)) rfl (by kernel_rfl) (by rfl) (by go_simp) hSA ?_
          try dsimp only [Act.put]
          try simp only [List.setIfInBounds_toArray, List.set_cons_zero, List.set_cons_succ]
          obtain ⟨W1, hW1⟩ : ∃ W1, W1 = ((((W.setCell ⟨ga, 0, none⟩ (.slice qa m1 qc)).setCell ⟨ga, 1, none⟩ (.slice pa m2 pc)).setCell ⟨ga, 2, none⟩ (.int .i64 fy)).setCell ⟨ga, 3, none⟩ (.bool oy)) := ⟨_, rfl⟩
          rw [← hW1] at HFF BX BB1 ⊢
          clear hW1 q0 q1 q2 q3 f0 f1 f2 f3 hSA
          have q0 := BB1.cell 0 (.int .i64 0) rfl
          have q1 := BB1.cell 1 (.int .i64 0) rfl
          have q2 := BB1.cell 2 (.int .i64 0) rfl
          have q3 := BB1.cell 3 (.slice none 0 0) rfl
          have q4 := BB1.cell 4 (.int .i64 0) rfl
          have f0 := BB1.frozen 0
          have f1 := BB1.frozen 1
          have f2 := BB1.frozen 2
          have f3 := BB1.frozen 3
          have f4 := BB1.frozen 4
          have hnp : px ≠ gb := fun e => by
            rw [e] at BX
            have := cells_type BX BB1
            simp at this
          have BX2 := other_five BX hnp (.int .i64 3) (.int .i64 40) (.int .i64 T0) (.slice va' vn' vc') (.int .i64 ux0)
          have hSB : (fun w' : World => w'.cell? ⟨px, 2, none⟩ = some (.slice sa n1 sc) ∧ w'.cell? ⟨px, 3, none⟩ = some (.slice wa n2 wc) ∧ w'.cell? ⟨px, 4, none⟩ = some (.int .i64 fz) ∧ w'.cell? ⟨px, 5, none⟩ = some (.bool of) ∧ w'.cell? ⟨px, 6, none⟩ = some (.int .i64 3) ∧ w'.cell? ⟨px, 7, none⟩ = some (.int .i64 40) ∧ w'.cell? ⟨px, 8, none⟩ = some (.int .i64 T0) ∧ w'.cell? ⟨px, 9, none⟩ = some (.slice va vn vc) ∧ w'.cell? ⟨px, 10, none⟩ = some (.int .i64 u0)) (((((W1.setCell ⟨gb, 0, none⟩ (.int .i64 3)).setCell ⟨gb, 1, none⟩ (.int .i64 40)).setCell ⟨gb, 2, none⟩ (.int .i64 T0)).setCell ⟨gb, 3, none⟩ (.slice va' vn' vc')).setCell ⟨gb, 4, none⟩ (.int .i64 ux0)) := ⟨BX2.cell 2 _ rfl, BX2.cell 3 _ rfl, BX2.cell 4 _ rfl, BX2.cell 5 _ rfl, BX2.cell 6 _ rfl, BX2.cell 7 _ rfl, BX2.cell 8 _ rfl, BX2.cell 9 _ rfl, BX2.cell 10 _ rfl⟩
          clear BX BB1 hnp BX2
          refine stepL 17 (((((W1.setCell ⟨gb, 0, none⟩ (.int .i64 3)).setCell ⟨gb, 1, none⟩ (.int .i64 40)).setCell ⟨gb, 2, none⟩ (.int .i64 T0)).setCell ⟨gb, 3, none⟩ (.slice va' vn' vc')).setCell ⟨gb, 4, none⟩ (.int .i64 ux0)) rfl (by kernel_rfl) (by rfl) (by go_simp) hSB ?_
          try dsimp only [Act.put]
          try simp only [List.setIfInBounds_toArray, List.set_cons_zero, List.set_cons_succ]
          obtain ⟨W6, hW6⟩ : ∃ W6, W6 = (((((W1.setCell ⟨gb, 0, none⟩ (.int .i64 3)).setCell ⟨gb, 1, none⟩ (.int .i64 40)).setCell ⟨gb, 2, none⟩ (.int .i64 T0)).setCell ⟨gb, 3, none⟩ (.slice va' vn' vc')).setCell ⟨gb, 4, none⟩ (.int .i64 ux0)) := ⟨_, rfl⟩
          rw [← hW6] at HFF ⊢
          clear hW6 q0 q1 q2 q3 q4 f0 f1 f2 f3 f4 hSB
          refine doneL (by kernel_rfl) ?_
          try dsimp only [Act.put]
          try simp only [List.setIfInBounds_toArray, List.set_cons_zero, List.set_cons_succ]
          unfold Oper.wp
          go_simp
          go_wp2_with fail
          go_meet
          exact ⟨ga, gb, R', va', vn', vc', qa, m1, qc, pa, m2, pc, fy, oy, W6, rfl, rfl, rfl, rfl, HQ.out, HFF.out ()⟩
        · try dsimp only [Act.put]
          try simp only [List.setIfInBounds_toArray, List.set_cons_zero, List.set_cons_succ]
          refine callL 9 (f := 20) (vs := #[.agg #[.slice sa n1 sc, .slice wa n2 wc, .int .i64 fz, .bool of], .agg #[.int .i64 3, .int .i64 40, .int .i64 T0, .slice va vn vc, .int .i64 u0], .string S2]) rfl (by kernel_rfl) (by rfl) (by go_simp) ?_
          refine Calls.mono (HREF.out ((w1.drew.alloc (.cells #[.slice none 0 0, .slice none 0 0, .int .i64 0, .bool false] 30)).alloc (.cells #[.int .i64 0, .int .i64 0, .int .i64 0, .slice none 0 0, .int .i64 0] 41)) (fun x => x = w1.heap.size ∨ x = w1.heap.size + 1) bDab (fun x hx => by have := HSZ.out; omega)) ?_
          rintro e w2 ⟨⟨R', va', vn', vc', qa, m1, qc, pa, m2, pc, fy, oy, hq, rfl, m⟩, b2⟩
          have HQ : Hid (rda R' sx = #[.slice qa m1 qc, .slice pa m2 pc, .int .i64 fy, .bool oy]) := hq
          clear hq
          have b12 : Below w1.heap.size w1 w2 := bDab.trans (b2.mono bDab.size)
          have hH2 := HS.out w2 b12
          refine ⟨_, rfl, hH2, ?_⟩
          try dsimp only [Act.put]
          try simp only [List.setIfInBounds_toArray, List.set_cons_zero, List.set_cons_succ]
          ((refine takeL 10 (v := ?_) rfl (by kernel_rfl) (by kernel_rfl) (by kernel_rfl) (fun _ _ _ h => h) (by rfl) hH2 ?_ ?_; rotate_left; focus (intro w hSw; (try dsimp only at hSw); go_simp <;> with_reducible rfl); (try simp only [Act.put, List.setIfInBounds_toArray, List.set_cons_zero, List.set_cons_succ])); (refine takeL 11 (v := ?_) rfl (by kernel_rfl) (by kernel_rfl) (by kernel_rfl) (fun _ _ _ h => h) (by rfl) hH2 ?_ ?_; rotate_left; focus (intro w hSw; (try dsimp only at hSw); go_simp <;> with_reducible rfl); (try simp only [Act.put, List.setIfInBounds_toArray, List.set_cons_zero, List.set_cons_succ])); (refine takeL 12 (v := ?_) rfl (by kernel_rfl) (by kernel_rfl) (by kernel_rfl) (fun _ _ _ h => h) (by rfl) hH2 ?_ ?_; rotate_left; focus (intro w hSw; (try dsimp only at hSw); go_simp <;> with_reducible rfl); (try simp only [Act.put, List.setIfInBounds_toArray, List.set_cons_zero, List.set_cons_succ])); (refine takeL 13 (v := ?_) rfl (by kernel_rfl) (by kernel_rfl) (by kernel_rfl) (fun _ _ _ h => h) (by rfl) hH2 ?_ ?_; rotate_left; focus (intro w hSw; (try dsimp only at hSw); go_simp <;> with_reducible rfl); (try simp only [Act.put, List.setIfInBounds_toArray, List.set_cons_zero, List.set_cons_succ])))
          try dsimp only [Act.put]
          try simp only [List.setIfInBounds_toArray, List.set_cons_zero, List.set_cons_succ]
          have M' : Mr w2 J px (fun x => x = w1.heap.size ∨ x = w1.heap.size + 1) R' sx ox va' vn' vc' := m
          have BW : Below w1.heap.size w1 w2 := b12
          have BA : Box w2 (w1.heap.size) 30 #[.slice none 0 0, .slice none 0 0, .int .i64 0, .bool false] := (box_old w1.drew #[.slice none 0 0, .slice none 0 0, .int .i64 0, .bool false] 30 (.cells #[.int .i64 0, .int .i64 0, .int .i64 0, .slice none 0 0, .int .i64 0] 41)).over b2
          have BB : Box w2 (w1.heap.size + 1) 41 #[.int .i64 0, .int .i64 0, .int .i64 0, .slice none 0 0, .int .i64 0] := (box_second w1.drew (.cells #[.slice none 0 0, .slice none 0 0, .int .i64 0, .bool false] 30) #[.int .i64 0, .int .i64 0, .int .i64 0, .slice none 0 0, .int .i64 0] 41).over b2
          have hsz := b12.size
          obtain ⟨ga, hga⟩ : ∃ ga, ga = w1.heap.size := ⟨_, rfl⟩
          obtain ⟨gb, hgb⟩ : ∃ gb, gb = w1.heap.size + 1 := ⟨_, rfl⟩
          obtain ⟨W, hW⟩ : ∃ W, W = w2 := ⟨_, rfl⟩
          have hla : w1.heap.size ≤ ga := by omega
          have hlb : w1.heap.size ≤ gb := by omega
          replace M' : Mr W J px (fun x => x = ga ∨ x = gb) R' sx ox va' vn' vc' := by rw [hW, hga, hgb]; exact M'
          replace BW : Below w1.heap.size w1 W := by rw [hW]; exact BW
          replace BA : Box W ga 30 #[.slice none 0 0, .slice none 0 0, .int .i64 0, .bool false] := by rw [hW, hga]; exact BA
          replace BB : Box W gb 41 #[.int .i64 0, .int .i64 0, .int .i64 0, .slice none 0 0, .int .i64 0] := by rw [hW, hgb]; exact BB
          rw [← hW]
          rw [show ((some ⟨w1.heap.size + 1, 0, none⟩) : Option Addr) = some ⟨gb, 0, none⟩ by rw [hgb]]
          rw [show ((some ⟨w1.heap.size, 0, none⟩) : Option Addr) = some ⟨ga, 0, none⟩ by rw [hga]]
          clear hga hgb hW hsz
          have q0 := BA.cell 0 (.slice none 0 0) rfl
          have q1 := BA.cell 1 (.slice none 0 0) rfl
          have q2 := BA.cell 2 (.int .i64 0) rfl
          have q3 := BA.cell 3 (.bool false) rfl
          have f0 := BA.frozen 0
          have f1 := BA.frozen 1
          have f2 := BA.frozen 2
          have f3 := BA.frozen 3
          have T6 := tail6 HO1.out.1 BW M' BA BB (.inl rfl) (.inr rfl) hla hlb (.slice qa m1 qc) (.slice pa m2 pc) (.int .i64 fy) (.bool oy) (.int .i64 3) (.int .i64 40) (.int .i64 T0) (.slice va' vn' vc') (.int .i64 ux0)
          have hnp : px ≠ ga := fun e => by have := HO1.out.1.box.lt; omega
          have hne : gb ≠ ga := fun e => by
            rw [e] at BB
            have := cells_type BB BA
            simp at this
          have BX := (((((HBX.out.over BW).other (a := ⟨ga, 0, none⟩) hnp (.slice qa m1 qc)).other (a := ⟨ga, 1, none⟩) hnp (.slice pa m2 pc)).other (a := ⟨ga, 2, none⟩) hnp (.int .i64 fy)).other (a := ⟨ga, 3, none⟩) hnp (.bool oy))
          have BB1 := ((((BB.other (a := ⟨ga, 0, none⟩) hne (.slice qa m1 qc)).other (a := ⟨ga, 1, none⟩) hne (.slice pa m2 pc)).other (a := ⟨ga, 2, none⟩) hne (.int .i64 fy)).other (a := ⟨ga, 3, none⟩) hne (.bool oy))
          have hSA : (fun w' : World => w'.cell? ⟨px, 2, none⟩ = some (.slice sa n1 sc) ∧ w'.cell? ⟨px, 3, none⟩ = some (.slice wa n2 wc) ∧ w'.cell? ⟨px, 4, none⟩ = some (.int .i64 fz) ∧ w'.cell? ⟨px, 5, none⟩ = some (.bool of) ∧ w'.cell? ⟨px, 6, none⟩ = some (.int .i64 3) ∧ w'.cell? ⟨px, 7, none⟩ = some (.int .i64 40) ∧ w'.cell? ⟨px, 8, none⟩ = some (.int .i64 T0) ∧ w'.cell? ⟨px, 9, none⟩ = some (.slice va vn vc) ∧ w'.cell? ⟨px, 10, none⟩ = some (.int .i64 u0)) ((((W.setCell ⟨ga, 0, none⟩ (.slice qa m1 qc)).setCell ⟨ga, 1, none⟩ (.slice pa m2 pc)).setCell ⟨ga, 2, none⟩ (.int .i64 fy)).setCell ⟨ga, 3, none⟩ (.bool oy)) := ⟨BX.cell 2 _ rfl, BX.cell 3 _ rfl, BX.cell 4 _ rfl, BX.cell 5 _ rfl, BX.cell 6 _ rfl, BX.cell 7 _ rfl, BX.cell 8 _ rfl, BX.cell 9 _ rfl, BX.cell 10 _ rfl⟩
          have HFF : Hid (Unit → M6 w0 (((((((((W.setCell ⟨ga, 0, none⟩ (.slice qa m1 qc)).setCell ⟨ga, 1, none⟩ (.slice pa m2 pc)).setCell ⟨ga, 2, none⟩ (.int .i64 fy)).setCell ⟨ga, 3, none⟩ (.bool oy)).setCell ⟨gb, 0, none⟩ (.int .i64 3)).setCell ⟨gb, 1, none⟩ (.int .i64 40)).setCell ⟨gb, 2, none⟩ (.int .i64 T0)).setCell ⟨gb, 3, none⟩ (.slice va' vn' vc')).setCell ⟨gb, 4, none⟩ (.int .i64 ux0)) px hp J R s turn u out va vn vc i R' sx ox va' vn' vc' ga gb #[.slice qa m1 qc, .slice pa m2 pc, .int .i64 fy, .bool oy] #[.int .i64 3, .int .i64 40, .int .i64 T0, .slice va' vn' vc', .int .i64 ux0]) := fun _ => T6
          clear T6 BA BB M' BW hnp hne
          refine stepL 16 ((((W.setCell ⟨ga, 0, none⟩ (.slice qa m1 qc)).setCell ⟨ga, 1, none⟩ (.slice pa m2 pc)).setCell ⟨ga, 2, none⟩ (.int .i64 fy)).setCell ⟨ga, 3, none⟩ (.bool oy)) rfl (by kernel_rfl) (by rfl) (by go_simp) hSA ?_
          try dsimp only [Act.put]
          try simp only [List.setIfInBounds_toArray, List.set_cons_zero, List.set_cons_succ]
          obtain ⟨W1, hW1⟩ : ∃ W1, W1 = ((((W.setCell ⟨ga, 0, none⟩ (.slice qa m1 qc)).setCell ⟨ga, 1, none⟩ (.slice pa m2 pc)).setCell ⟨ga, 2, none⟩ (.int .i64 fy)).setCell ⟨ga, 3, none⟩ (.bool oy)) := ⟨_, rfl⟩
          rw [← hW1] at HFF BX BB1 ⊢
          clear hW1 q0 q1 q2 q3 f0 f1 f2 f3 hSA
          have q0 := BB1.cell 0 (.int .i64 0) rfl
          have q1 := BB1.cell 1 (.int .i64 0) rfl
          have q2 := BB1.cell 2 (.int .i64 0) rfl
          have q3 := BB1.cell 3 (.slice none 0 0) rfl
          have q4 := BB1.cell 4 (.int .i64 0) rfl
          have f0 := BB1.frozen 0
          have f1 := BB1.frozen 1
          have f2 := BB1.frozen 2
          have f3 := BB1.frozen 3
          have f4 := BB1.frozen 4
          have hnp : px ≠ gb := fun e => by
            rw [e] at BX
            have := cells_type BX BB1
            simp at this
          have BX2 := other_five BX hnp (.int .i64 3) (.int .i64 40) (.int .i64 T0) (.slice va' vn' vc') (.int .i64 ux0)
          have hSB : (fun w' : World => w'.cell? ⟨px, 2, none⟩ = some (.slice sa n1 sc) ∧ w'.cell? ⟨px, 3, none⟩ = some (.slice wa n2 wc) ∧ w'.cell? ⟨px, 4, none⟩ = some (.int .i64 fz) ∧ w'.cell? ⟨px, 5, none⟩ = some (.bool of) ∧ w'.cell? ⟨px, 6, none⟩ = some (.int .i64 3) ∧ w'.cell? ⟨px, 7, none⟩ = some (.int .i64 40) ∧ w'.cell? ⟨px, 8, none⟩ = some (.int .i64 T0) ∧ w'.cell? ⟨px, 9, none⟩ = some (.slice va vn vc) ∧ w'.cell? ⟨px, 10, none⟩ = some (.int .i64 u0)) (((((W1.setCell ⟨gb, 0, none⟩ (.int .i64 3)).setCell ⟨gb, 1, none⟩ (.int .i64 40)).setCell ⟨gb, 2, none⟩ (.int .i64 T0)).setCell ⟨gb, 3, none⟩ (.slice va' vn' vc')).setCell ⟨gb, 4, none⟩ (.int .i64 ux0)) := ⟨BX2.cell 2 _ rfl, BX2.cell 3 _ rfl, BX2.cell 4 _ rfl, BX2.cell 5 _ rfl, BX2.cell 6 _ rfl, BX2.cell 7 _ rfl, BX2.cell 8 _ rfl, BX2.cell 9 _ rfl, BX2.cell 10 _ rfl⟩
          clear BX BB1 hnp BX2
          refine stepL 17 (((((W1.setCell ⟨gb, 0, none⟩ (.int .i64 3)).setCell ⟨gb, 1, none⟩ (.int .i64 40)).setCell ⟨gb, 2, none⟩ (.int .i64 T0)).setCell ⟨gb, 3, none⟩ (.slice va' vn' vc')).setCell ⟨gb, 4, none⟩ (.int .i64 ux0)) rfl (by kernel_rfl) (by rfl) (by go_simp) hSB ?_
          try dsimp only [Act.put]
          try simp only [List.setIfInBounds_toArray, List.set_cons_zero, List.set_cons_succ]
          obtain ⟨W6, hW6⟩ : ∃ W6, W6 = (((((W1.setCell ⟨gb, 0, none⟩ (.int .i64 3)).setCell ⟨gb, 1, none⟩ (.int .i64 40)).setCell ⟨gb, 2, none⟩ (.int .i64 T0)).setCell ⟨gb, 3, none⟩ (.slice va' vn' vc')).setCell ⟨gb, 4, none⟩ (.int .i64 ux0)) := ⟨_, rfl⟩
          rw [← hW6] at HFF ⊢
          clear hW6 q0 q1 q2 q3 q4 f0 f1 f2 f3 f4 hSB
          refine doneL (by kernel_rfl) ?_
          try dsimp only [Act.put]
          try simp only [List.setIfInBounds_toArray, List.set_cons_zero, List.set_cons_succ]
          unfold Oper.wp
          go_simp
          go_wp2_with fail
          go_meet
          exact ⟨ga, gb, R', va', vn', vc', qa, m1, qc, pa, m2, pc, fy, oy, W6, rfl, rfl, rfl, rfl, HQ.out, HFF.out ()⟩
      · try dsimp only [Act.put]
        try simp only [List.setIfInBounds_toArray, List.set_cons_zero, List.set_cons_succ]
        refine callNewL 9 14 (f := 20) (vs := #[.agg #[.slice sa n1 sc, .slice wa n2 wc, .int .i64 fz, .bool of], .agg #[.int .i64 3, .int .i64 40, .int .i64 T0, .slice va vn vc, .int .i64 u0], .string S2]) ((w1.drew.alloc (.cells #[.int .i64 0, .int .i64 0, .int .i64 0, .slice none 0 0, .int .i64 0] 41)).alloc (.cells #[.slice none 0 0, .slice none 0 0, .int .i64 0, .bool false] 30)) (.pointer (some ⟨w1.heap.size + 1, 0, none⟩)) rfl rfl (by kernel_rfl) (by rfl) (by rfl) (by go_simp) (by go_simp) (HS.out _ bDba) ?_ ?_
        · refine Calls.mono (HREF.out (w1.drew.alloc (.cells #[.int .i64 0, .int .i64 0, .int .i64 0, .slice none 0 0, .int .i64 0] 41)) (fun x => x = w1.heap.size) bDb (fun x hx => by have := HSZ.out; omega)) ?_
          rintro e w2 ⟨⟨R', va', vn', vc', qa, m1, qc, pa, m2, pc, fy, oy, hq, rfl, m⟩, b2⟩
          have HQ : Hid (rda R' sx = #[.slice qa m1 qc, .slice pa m2 pc, .int .i64 fy, .bool oy]) := hq
          clear hq
          have b12 : Below w1.heap.size w1 w2 := bDb.trans (b2.mono bDb.size)
          have hH2 := HS.out w2 b12
          refine ⟨_, rfl, hH2, ?_⟩
          try dsimp only [Act.put]
          try simp only [List.setIfInBounds_toArray, List.set_cons_zero, List.set_cons_succ]
          ((refine takeL 10 (v := ?_) rfl (by kernel_rfl) (by kernel_rfl) (by kernel_rfl) (fun _ _ _ h => h) (by rfl) hH2 ?_ ?_; rotate_left; focus (intro w hSw; (try dsimp only at hSw); go_simp <;> with_reducible rfl); (try simp only [Act.put, List.setIfInBounds_toArray, List.set_cons_zero, List.set_cons_succ])); (refine takeL 11 (v := ?_) rfl (by kernel_rfl) (by kernel_rfl) (by kernel_rfl) (fun _ _ _ h => h) (by rfl) hH2 ?_ ?_; rotate_left; focus (intro w hSw; (try dsimp only at hSw); go_simp <;> with_reducible rfl); (try simp only [Act.put, List.setIfInBounds_toArray, List.set_cons_zero, List.set_cons_succ])); (refine takeL 12 (v := ?_) rfl (by kernel_rfl) (by kernel_rfl) (by kernel_rfl) (fun _ _ _ h => h) (by rfl) hH2 ?_ ?_; rotate_left; focus (intro w hSw; (try dsimp only at hSw); go_simp <;> with_reducible rfl); (try simp only [Act.put, List.setIfInBounds_toArray, List.set_cons_zero, List.set_cons_succ])); (refine takeL 13 (v := ?_) rfl (by kernel_rfl) (by kernel_rfl) (by kernel_rfl) (fun _ _ _ h => h) (by rfl) hH2 ?_ ?_; rotate_left; focus (intro w hSw; (try dsimp only at hSw); go_simp <;> with_reducible rfl); (try simp only [Act.put, List.setIfInBounds_toArray, List.set_cons_zero, List.set_cons_succ])))
          try dsimp only [Act.put]
          try simp only [List.setIfInBounds_toArray, List.set_cons_zero, List.set_cons_succ]
          refine newL 14 (w2.alloc (.cells #[.slice none 0 0, .slice none 0 0, .int .i64 0, .bool false] 30)) (.pointer (some ⟨w2.heap.size, 0, none⟩)) rfl (by kernel_rfl) (by rfl) (by go_simp) (HS.out _ (b12.alloc b12.size _)) ?_
          try dsimp only [Act.put]
          try simp only [List.setIfInBounds_toArray, List.set_cons_zero, List.set_cons_succ]
          have M' : Mr (w2.alloc (.cells #[.slice none 0 0, .slice none 0 0, .int .i64 0, .bool false] 30)) J px (fun x => x = w2.heap.size ∨ x = w1.heap.size) R' sx ox va' vn' vc' := ((m.grow (E2 := fun x => x = w2.heap.size ∨ x = w1.heap.size) (fun x hx => (by rcases hx with hx | hx; right; omega; exact .inl hx))).over (below1 w2 (.cells #[.slice none 0 0, .slice none 0 0, .int .i64 0, .bool false] 30)))
          have BW : Below w1.heap.size w1 (w2.alloc (.cells #[.slice none 0 0, .slice none 0 0, .int .i64 0, .bool false] 30)) := b12.alloc b12.size _
          have BA : Box (w2.alloc (.cells #[.slice none 0 0, .slice none 0 0, .int .i64 0, .bool false] 30)) (w2.heap.size) 30 #[.slice none 0 0, .slice none 0 0, .int .i64 0, .bool false] := box_new w2 #[.slice none 0 0, .slice none 0 0, .int .i64 0, .bool false] 30
          have BB : Box (w2.alloc (.cells #[.slice none 0 0, .slice none 0 0, .int .i64 0, .bool false] 30)) (w1.heap.size) 41 #[.int .i64 0, .int .i64 0, .int .i64 0, .slice none 0 0, .int .i64 0] := ((box_new w1.drew #[.int .i64 0, .int .i64 0, .int .i64 0, .slice none 0 0, .int .i64 0] 41).over b2).alloc (.cells #[.slice none 0 0, .slice none 0 0, .int .i64 0, .bool false] 30)
          have hsz := b12.size
          obtain ⟨ga, hga⟩ : ∃ ga, ga = w2.heap.size := ⟨_, rfl⟩
          obtain ⟨gb, hgb⟩ : ∃ gb, gb = w1.heap.size := ⟨_, rfl⟩
          obtain ⟨W, hW⟩ : ∃ W, W = (w2.alloc (.cells #[.slice none 0 0, .slice none 0 0, .int .i64 0, .bool false] 30)) := ⟨_, rfl⟩
          have hla : w1.heap.size ≤ ga := by omega
          have hlb : w1.heap.size ≤ gb := by omega
          replace M' : Mr W J px (fun x => x = ga ∨ x = gb) R' sx ox va' vn' vc' := by rw [hW, hga, hgb]; exact M'
          replace BW : Below w1.heap.size w1 W := by rw [hW]; exact BW
          replace BA : Box W ga 30 #[.slice none 0 0, .slice none 0 0, .int .i64 0, .bool false] := by rw [hW, hga]; exact BA
          replace BB : Box W gb 41 #[.int .i64 0, .int .i64 0, .int .i64 0, .slice none 0 0, .int .i64 0] := by rw [hW, hgb]; exact BB
          rw [← hW]
          rw [show ((some ⟨w1.heap.size, 0, none⟩) : Option Addr) = some ⟨gb, 0, none⟩ by rw [hgb]]
          rw [show ((some ⟨w2.heap.size, 0, none⟩) : Option Addr) = some ⟨ga, 0, none⟩ by rw [hga]]
          clear hga hgb hW hsz
          have q0 := BA.cell 0 (.slice none 0 0) rfl
          have q1 := BA.cell 1 (.slice none 0 0) rfl
          have q2 := BA.cell 2 (.int .i64 0) rfl
          have q3 := BA.cell 3 (.bool false) rfl
          have f0 := BA.frozen 0
          have f1 := BA.frozen 1
          have f2 := BA.frozen 2
          have f3 := BA.frozen 3
          have T6 := tail6 HO1.out.1 BW M' BA BB (.inl rfl) (.inr rfl) hla hlb (.slice qa m1 qc) (.slice pa m2 pc) (.int .i64 fy) (.bool oy) (.int .i64 3) (.int .i64 40) (.int .i64 T0) (.slice va' vn' vc') (.int .i64 ux0)
          have hnp : px ≠ ga := fun e => by have := HO1.out.1.box.lt; omega
          have hne : gb ≠ ga := fun e => by
            rw [e] at BB
            have := cells_type BB BA
            simp at this
          have BX := (((((HBX.out.over BW).other (a := ⟨ga, 0, none⟩) hnp (.slice qa m1 qc)).other (a := ⟨ga, 1, none⟩) hnp (.slice pa m2 pc)).other (a := ⟨ga, 2, none⟩) hnp (.int .i64 fy)).other (a := ⟨ga, 3, none⟩) hnp (.bool oy))
          have BB1 := ((((BB.other (a := ⟨ga, 0, none⟩) hne (.slice qa m1 qc)).other (a := ⟨ga, 1, none⟩) hne (.slice pa m2 pc)).other (a := ⟨ga, 2, none⟩) hne (.int .i64 fy)).other (a := ⟨ga, 3, none⟩) hne (.bool oy))
          have hSA : (fun w' : World => w'.cell? ⟨px, 2, none⟩ = some (.slice sa n1 sc) ∧ w'.cell? ⟨px, 3, none⟩ = some (.slice wa n2 wc) ∧ w'.cell? ⟨px, 4, none⟩ = some (.int .i64 fz) ∧ w'.cell? ⟨px, 5, none⟩ = some (.bool of) ∧ w'.cell? ⟨px, 6, none⟩ = some (.int .i64 3) ∧ w'.cell? ⟨px, 7, none⟩ = some (.int .i64 40) ∧ w'.cell? ⟨px, 8, none⟩ = some (.int .i64 T0) ∧ w'.cell? ⟨px, 9, none⟩ = some (.slice va vn vc) ∧ w'.cell? ⟨px, 10, none⟩ = some (.int .i64 u0)) ((((W.setCell ⟨ga, 0, none⟩ (.slice qa m1 qc)).setCell ⟨ga, 1, none⟩ (.slice pa m2 pc)).setCell ⟨ga, 2, none⟩ (.int .i64 fy)).setCell ⟨ga, 3, none⟩ (.bool oy)) := ⟨BX.cell 2 _ rfl, BX.cell 3 _ rfl, BX.cell 4 _ rfl, BX.cell 5 _ rfl, BX.cell 6 _ rfl, BX.cell 7 _ rfl, BX.cell 8 _ rfl, BX.cell 9 _ rfl, BX.cell 10 _ rfl⟩
          have HFF : Hid (Unit → M6 w0 (((((((((W.setCell ⟨ga, 0, none⟩ (.slice qa m1 qc)).setCell ⟨ga, 1, none⟩ (.slice pa m2 pc)).setCell ⟨ga, 2, none⟩ (.int .i64 fy)).setCell ⟨ga, 3, none⟩ (.bool oy)).setCell ⟨gb, 0, none⟩ (.int .i64 3)).setCell ⟨gb, 1, none⟩ (.int .i64 40)).setCell ⟨gb, 2, none⟩ (.int .i64 T0)).setCell ⟨gb, 3, none⟩ (.slice va' vn' vc')).setCell ⟨gb, 4, none⟩ (.int .i64 ux0)) px hp J R s turn u out va vn vc i R' sx ox va' vn' vc' ga gb #[.slice qa m1 qc, .slice pa m2 pc, .int .i64 fy, .bool oy] #[.int .i64 3, .int .i64 40, .int .i64 T0, .slice va' vn' vc', .int .i64 ux0]) := fun _ => T6
          clear T6 BA BB M' BW hnp hne
          refine stepL 16 ((((W.setCell ⟨ga, 0, none⟩ (.slice qa m1 qc)).setCell ⟨ga, 1, none⟩ (.slice pa m2 pc)).setCell ⟨ga, 2, none⟩ (.int .i64 fy)).setCell ⟨ga, 3, none⟩ (.bool oy)) rfl (by kernel_rfl) (by rfl) (by go_simp) hSA ?_
          try dsimp only [Act.put]
          try simp only [List.setIfInBounds_toArray, List.set_cons_zero, List.set_cons_succ]
          obtain ⟨W1, hW1⟩ : ∃ W1, W1 = ((((W.setCell ⟨ga, 0, none⟩ (.slice qa m1 qc)).setCell ⟨ga, 1, none⟩ (.slice pa m2 pc)).setCell ⟨ga, 2, none⟩ (.int .i64 fy)).setCell ⟨ga, 3, none⟩ (.bool oy)) := ⟨_, rfl⟩
          rw [← hW1] at HFF BX BB1 ⊢
          clear hW1 q0 q1 q2 q3 f0 f1 f2 f3 hSA
          have q0 := BB1.cell 0 (.int .i64 0) rfl
          have q1 := BB1.cell 1 (.int .i64 0) rfl
          have q2 := BB1.cell 2 (.int .i64 0) rfl
          have q3 := BB1.cell 3 (.slice none 0 0) rfl
          have q4 := BB1.cell 4 (.int .i64 0) rfl
          have f0 := BB1.frozen 0
          have f1 := BB1.frozen 1
          have f2 := BB1.frozen 2
          have f3 := BB1.frozen 3
          have f4 := BB1.frozen 4
          have hnp : px ≠ gb := fun e => by
            rw [e] at BX
            have := cells_type BX BB1
            simp at this
          have BX2 := other_five BX hnp (.int .i64 3) (.int .i64 40) (.int .i64 T0) (.slice va' vn' vc') (.int .i64 ux0)
          have hSB : (fun w' : World => w'.cell? ⟨px, 2, none⟩ = some (.slice sa n1 sc) ∧ w'.cell? ⟨px, 3, none⟩ = some (.slice wa n2 wc) ∧ w'.cell? ⟨px, 4, none⟩ = some (.int .i64 fz) ∧ w'.cell? ⟨px, 5, none⟩ = some (.bool of) ∧ w'.cell? ⟨px, 6, none⟩ = some (.int .i64 3) ∧ w'.cell? ⟨px, 7, none⟩ = some (.int .i64 40) ∧ w'.cell? ⟨px, 8, none⟩ = some (.int .i64 T0) ∧ w'.cell? ⟨px, 9, none⟩ = some (.slice va vn vc) ∧ w'.cell? ⟨px, 10, none⟩ = some (.int .i64 u0)) (((((W1.setCell ⟨gb, 0, none⟩ (.int .i64 3)).setCell ⟨gb, 1, none⟩ (.int .i64 40)).setCell ⟨gb, 2, none⟩ (.int .i64 T0)).setCell ⟨gb, 3, none⟩ (.slice va' vn' vc')).setCell ⟨gb, 4, none⟩ (.int .i64 ux0)) := ⟨BX2.cell 2 _ rfl, BX2.cell 3 _ rfl, BX2.cell 4 _ rfl, BX2.cell 5 _ rfl, BX2.cell 6 _ rfl, BX2.cell 7 _ rfl, BX2.cell 8 _ rfl, BX2.cell 9 _ rfl, BX2.cell 10 _ rfl⟩
          clear BX BB1 hnp BX2
          refine stepL 17 (((((W1.setCell ⟨gb, 0, none⟩ (.int .i64 3)).setCell ⟨gb, 1, none⟩ (.int .i64 40)).setCell ⟨gb, 2, none⟩ (.int .i64 T0)).setCell ⟨gb, 3, none⟩ (.slice va' vn' vc')).setCell ⟨gb, 4, none⟩ (.int .i64 ux0)) rfl (by kernel_rfl) (by rfl) (by go_simp) hSB ?_
          try dsimp only [Act.put]
          try simp only [List.setIfInBounds_toArray, List.set_cons_zero, List.set_cons_succ]
          obtain ⟨W6, hW6⟩ : ∃ W6, W6 = (((((W1.setCell ⟨gb, 0, none⟩ (.int .i64 3)).setCell ⟨gb, 1, none⟩ (.int .i64 40)).setCell ⟨gb, 2, none⟩ (.int .i64 T0)).setCell ⟨gb, 3, none⟩ (.slice va' vn' vc')).setCell ⟨gb, 4, none⟩ (.int .i64 ux0)) := ⟨_, rfl⟩
          rw [← hW6] at HFF ⊢
          clear hW6 q0 q1 q2 q3 q4 f0 f1 f2 f3 f4 hSB
          refine doneL (by kernel_rfl) ?_
          try dsimp only [Act.put]
          try simp only [List.setIfInBounds_toArray, List.set_cons_zero, List.set_cons_succ]
          unfold Oper.wp
          go_simp
          go_wp2_with fail
          go_meet
          exact ⟨ga, gb, R', va', vn', vc', qa, m1, qc, pa, m2, pc, fy, oy, W6, rfl, rfl, rfl, rfl, HQ.out, HFF.out ()⟩
        · try dsimp only [Act.put]
          try simp only [List.setIfInBounds_toArray, List.set_cons_zero, List.set_cons_succ]
          refine callL 9 (f := 20) (vs := #[.agg #[.slice sa n1 sc, .slice wa n2 wc, .int .i64 fz, .bool of], .agg #[.int .i64 3, .int .i64 40, .int .i64 T0, .slice va vn vc, .int .i64 u0], .string S2]) rfl (by kernel_rfl) (by rfl) (by go_simp) ?_
          refine Calls.mono (HREF.out ((w1.drew.alloc (.cells #[.int .i64 0, .int .i64 0, .int .i64 0, .slice none 0 0, .int .i64 0] 41)).alloc (.cells #[.slice none 0 0, .slice none 0 0, .int .i64 0, .bool false] 30)) (fun x => x = w1.heap.size + 1 ∨ x = w1.heap.size) bDba (fun x hx => by have := HSZ.out; omega)) ?_
          rintro e w2 ⟨⟨R', va', vn', vc', qa, m1, qc, pa, m2, pc, fy, oy, hq, rfl, m⟩, b2⟩
          have HQ : Hid (rda R' sx = #[.slice qa m1 qc, .slice pa m2 pc, .int .i64 fy, .bool oy]) := hq
          clear hq
          have b12 : Below w1.heap.size w1 w2 := bDba.trans (b2.mono bDba.size)
          have hH2 := HS.out w2 b12
          refine ⟨_, rfl, hH2, ?_⟩
          try dsimp only [Act.put]
          try simp only [List.setIfInBounds_toArray, List.set_cons_zero, List.set_cons_succ]
          ((refine takeL 10 (v := ?_) rfl (by kernel_rfl) (by kernel_rfl) (by kernel_rfl) (fun _ _ _ h => h) (by rfl) hH2 ?_ ?_; rotate_left; focus (intro w hSw; (try dsimp only at hSw); go_simp <;> with_reducible rfl); (try simp only [Act.put, List.setIfInBounds_toArray, List.set_cons_zero, List.set_cons_succ])); (refine takeL 11 (v := ?_) rfl (by kernel_rfl) (by kernel_rfl) (by kernel_rfl) (fun _ _ _ h => h) (by rfl) hH2 ?_ ?_; rotate_left; focus (intro w hSw; (try dsimp only at hSw); go_simp <;> with_reducible rfl); (try simp only [Act.put, List.setIfInBounds_toArray, List.set_cons_zero, List.set_cons_succ])); (refine takeL 12 (v := ?_) rfl (by kernel_rfl) (by kernel_rfl) (by kernel_rfl) (fun _ _ _ h => h) (by rfl) hH2 ?_ ?_; rotate_left; focus (intro w hSw; (try dsimp only at hSw); go_simp <;> with_reducible rfl); (try simp only [Act.put, List.setIfInBounds_toArray, List.set_cons_zero, List.set_cons_succ])); (refine takeL 13 (v := ?_) rfl (by kernel_rfl) (by kernel_rfl) (by kernel_rfl) (fun _ _ _ h => h) (by rfl) hH2 ?_ ?_; rotate_left; focus (intro w hSw; (try dsimp only at hSw); go_simp <;> with_reducible rfl); (try simp only [Act.put, List.setIfInBounds_toArray, List.set_cons_zero, List.set_cons_succ])))
          try dsimp only [Act.put]
          try simp only [List.setIfInBounds_toArray, List.set_cons_zero, List.set_cons_succ]
          have M' : Mr w2 J px (fun x => x = w1.heap.size + 1 ∨ x = w1.heap.size) R' sx ox va' vn' vc' := m
          have BW : Below w1.heap.size w1 w2 := b12
          have BA : Box w2 (w1.heap.size + 1) 30 #[.slice none 0 0, .slice none 0 0, .int .i64 0, .bool false] := (box_second w1.drew (.cells #[.int .i64 0, .int .i64 0, .int .i64 0, .slice none 0 0, .int .i64 0] 41) #[.slice none 0 0, .slice none 0 0, .int .i64 0, .bool false] 30).over b2
          have BB : Box w2 (w1.heap.size) 41 #[.int .i64 0, .int .i64 0, .int .i64 0, .slice none 0 0, .int .i64 0] := (box_old w1.drew #[.int .i64 0, .int .i64 0, .int .i64 0, .slice none 0 0, .int .i64 0] 41 (.cells #[.slice none 0 0, .slice none 0 0, .int .i64 0, .bool false] 30)).over b2
          have hsz := b12.size
          obtain ⟨ga, hga⟩ : ∃ ga, ga = w1.heap.size + 1 := ⟨_, rfl⟩
          obtain ⟨gb, hgb⟩ : ∃ gb, gb = w1.heap.size := ⟨_, rfl⟩
          obtain ⟨W, hW⟩ : ∃ W, W = w2 := ⟨_, rfl⟩
          have hla : w1.heap.size ≤ ga := by omega
          have hlb : w1.heap.size ≤ gb := by omega
          replace M' : Mr W J px (fun x => x = ga ∨ x = gb) R' sx ox va' vn' vc' := by rw [hW, hga, hgb]; exact M'
          replace BW : Below w1.heap.size w1 W := by rw [hW]; exact BW
          replace BA : Box W ga 30 #[.slice none 0 0, .slice none 0 0, .int .i64 0, .bool false] := by rw [hW, hga]; exact BA
          replace BB : Box W gb 41 #[.int .i64 0, .int .i64 0, .int .i64 0, .slice none 0 0, .int .i64 0] := by rw [hW, hgb]; exact BB
          rw [← hW]
          rw [show ((some ⟨w1.heap.size, 0, none⟩) : Option Addr) = some ⟨gb, 0, none⟩ by rw [hgb]]
          rw [show ((some ⟨w1.heap.size + 1, 0, none⟩) : Option Addr) = some ⟨ga, 0, none⟩ by rw [hga]]
          clear hga hgb hW hsz
          have q0 := BA.cell 0 (.slice none 0 0) rfl
          have q1 := BA.cell 1 (.slice none 0 0) rfl
          have q2 := BA.cell 2 (.int .i64 0) rfl
          have q3 := BA.cell 3 (.bool false) rfl
          have f0 := BA.frozen 0
          have f1 := BA.frozen 1
          have f2 := BA.frozen 2
          have f3 := BA.frozen 3
          have T6 := tail6 HO1.out.1 BW M' BA BB (.inl rfl) (.inr rfl) hla hlb (.slice qa m1 qc) (.slice pa m2 pc) (.int .i64 fy) (.bool oy) (.int .i64 3) (.int .i64 40) (.int .i64 T0) (.slice va' vn' vc') (.int .i64 ux0)
          have hnp : px ≠ ga := fun e => by have := HO1.out.1.box.lt; omega
          have hne : gb ≠ ga := fun e => by
            rw [e] at BB
            have := cells_type BB BA
            simp at this
          have BX := (((((HBX.out.over BW).other (a := ⟨ga, 0, none⟩) hnp (.slice qa m1 qc)).other (a := ⟨ga, 1, none⟩) hnp (.slice pa m2 pc)).other (a := ⟨ga, 2, none⟩) hnp (.int .i64 fy)).other (a := ⟨ga, 3, none⟩) hnp (.bool oy))
          have BB1 := ((((BB.other (a := ⟨ga, 0, none⟩) hne (.slice qa m1 qc)).other (a := ⟨ga, 1, none⟩) hne (.slice pa m2 pc)).other (a := ⟨ga, 2, none⟩) hne (.int .i64 fy)).other (a := ⟨ga, 3, none⟩) hne (.bool oy))
          have hSA : (fun w' : World => w'.cell? ⟨px, 2, none⟩ = some (.slice sa n1 sc) ∧ w'.cell? ⟨px, 3, none⟩ = some (.slice wa n2 wc) ∧ w'.cell? ⟨px, 4, none⟩ = some (.int .i64 fz) ∧ w'.cell? ⟨px, 5, none⟩ = some (.bool of) ∧ w'.cell? ⟨px, 6, none⟩ = some (.int .i64 3) ∧ w'.cell? ⟨px, 7, none⟩ = some (.int .i64 40) ∧ w'.cell? ⟨px, 8, none⟩ = some (.int .i64 T0) ∧ w'.cell? ⟨px, 9, none⟩ = some (.slice va vn vc) ∧ w'.cell? ⟨px, 10, none⟩ = some (.int .i64 u0)) ((((W.setCell ⟨ga, 0, none⟩ (.slice qa m1 qc)).setCell ⟨ga, 1, none⟩ (.slice pa m2 pc)).setCell ⟨ga, 2, none⟩ (.int .i64 fy)).setCell ⟨ga, 3, none⟩ (.bool oy)) := ⟨BX.cell 2 _ rfl, BX.cell 3 _ rfl, BX.cell 4 _ rfl, BX.cell 5 _ rfl, BX.cell 6 _ rfl, BX.cell 7 _ rfl, BX.cell 8 _ rfl, BX.cell 9 _ rfl, BX.cell 10 _ rfl⟩
          have HFF : Hid (Unit → M6 w0 (((((((((W.setCell ⟨ga, 0, none⟩ (.slice qa m1 qc)).setCell ⟨ga, 1, none⟩ (.slice pa m2 pc)).setCell ⟨ga, 2, none⟩ (.int .i64 fy)).setCell ⟨ga, 3, none⟩ (.bool oy)).setCell ⟨gb, 0, none⟩ (.int .i64 3)).setCell ⟨gb, 1, none⟩ (.int .i64 40)).setCell ⟨gb, 2, none⟩ (.int .i64 T0)).setCell ⟨gb, 3, none⟩ (.slice va' vn' vc')).setCell ⟨gb, 4, none⟩ (.int .i64 ux0)) px hp J R s turn u out va vn vc i R' sx ox va' vn' vc' ga gb #[.slice qa m1 qc, .slice pa m2 pc, .int .i64 fy, .bool oy] #[.int .i64 3, .int .i64 40, .int .i64 T0, .slice va' vn' vc', .int .i64 ux0]) := fun _ => T6
          clear T6 BA BB M' BW hnp hne
          refine stepL 16 ((((W.setCell ⟨ga, 0, none⟩ (.slice qa m1 qc)).setCell ⟨ga, 1, none⟩ (.slice pa m2 pc)).setCell ⟨ga, 2, none⟩ (.int .i64 fy)).setCell ⟨ga, 3, none⟩ (.bool oy)) rfl (by kernel_rfl) (by rfl) (by go_simp) hSA ?_
          try dsimp only [Act.put]
          try simp only [List.setIfInBounds_toArray, List.set_cons_zero, List.set_cons_succ]
          obtain ⟨W1, hW1⟩ : ∃ W1, W1 = ((((W.setCell ⟨ga, 0, none⟩ (.slice qa m1 qc)).setCell ⟨ga, 1, none⟩ (.slice pa m2 pc)).setCell ⟨ga, 2, none⟩ (.int .i64 fy)).setCell ⟨ga, 3, none⟩ (.bool oy)) := ⟨_, rfl⟩
          rw [← hW1] at HFF BX BB1 ⊢
          clear hW1 q0 q1 q2 q3 f0 f1 f2 f3 hSA
          have q0 := BB1.cell 0 (.int .i64 0) rfl
          have q1 := BB1.cell 1 (.int .i64 0) rfl
          have q2 := BB1.cell 2 (.int .i64 0) rfl
          have q3 := BB1.cell 3 (.slice none 0 0) rfl
          have q4 := BB1.cell 4 (.int .i64 0) rfl
          have f0 := BB1.frozen 0
          have f1 := BB1.frozen 1
          have f2 := BB1.frozen 2
          have f3 := BB1.frozen 3
          have f4 := BB1.frozen 4
          have hnp : px ≠ gb := fun e => by
            rw [e] at BX
            have := cells_type BX BB1
            simp at this
          have BX2 := other_five BX hnp (.int .i64 3) (.int .i64 40) (.int .i64 T0) (.slice va' vn' vc') (.int .i64 ux0)
          have hSB : (fun w' : World => w'.cell? ⟨px, 2, none⟩ = some (.slice sa n1 sc) ∧ w'.cell? ⟨px, 3, none⟩ = some (.slice wa n2 wc) ∧ w'.cell? ⟨px, 4, none⟩ = some (.int .i64 fz) ∧ w'.cell? ⟨px, 5, none⟩ = some (.bool of) ∧ w'.cell? ⟨px, 6, none⟩ = some (.int .i64 3) ∧ w'.cell? ⟨px, 7, none⟩ = some (.int .i64 40) ∧ w'.cell? ⟨px, 8, none⟩ = some (.int .i64 T0) ∧ w'.cell? ⟨px, 9, none⟩ = some (.slice va vn vc) ∧ w'.cell? ⟨px, 10, none⟩ = some (.int .i64 u0)) (((((W1.setCell ⟨gb, 0, none⟩ (.int .i64 3)).setCell ⟨gb, 1, none⟩ (.int .i64 40)).setCell ⟨gb, 2, none⟩ (.int .i64 T0)).setCell ⟨gb, 3, none⟩ (.slice va' vn' vc')).setCell ⟨gb, 4, none⟩ (.int .i64 ux0)) := ⟨BX2.cell 2 _ rfl, BX2.cell 3 _ rfl, BX2.cell 4 _ rfl, BX2.cell 5 _ rfl, BX2.cell 6 _ rfl, BX2.cell 7 _ rfl, BX2.cell 8 _ rfl, BX2.cell 9 _ rfl, BX2.cell 10 _ rfl⟩
          clear BX BB1 hnp BX2
          refine stepL 17 (((((W1.setCell ⟨gb, 0, none⟩ (.int .i64 3)).setCell ⟨gb, 1, none⟩ (.int .i64 40)).setCell ⟨gb, 2, none⟩ (.int .i64 T0)).setCell ⟨gb, 3, none⟩ (.slice va' vn' vc')).setCell ⟨gb, 4, none⟩ (.int .i64 ux0)) rfl (by kernel_rfl) (by rfl) (by go_simp) hSB ?_
          try dsimp only [Act.put]
          try simp only [List.setIfInBounds_toArray, List.set_cons_zero, List.set_cons_succ]
          obtain ⟨W6, hW6⟩ : ∃ W6, W6 = (((((W1.setCell ⟨gb, 0, none⟩ (.int .i64 3)).setCell ⟨gb, 1, none⟩ (.int .i64 40)).setCell ⟨gb, 2, none⟩ (.int .i64 T0)).setCell ⟨gb, 3, none⟩ (.slice va' vn' vc')).setCell ⟨gb, 4, none⟩ (.int .i64 ux0)) := ⟨_, rfl⟩
          rw [← hW6] at HFF ⊢
          clear hW6 q0 q1 q2 q3 q4 f0 f1 f2 f3 f4 hSB
          refine doneL (by kernel_rfl) ?_
          try dsimp only [Act.put]
          try simp only [List.setIfInBounds_toArray, List.set_cons_zero, List.set_cons_succ]
          unfold Oper.wp
          go_simp
          go_wp2_with fail
          go_meet
          exact ⟨ga, gb, R', va', vn', vc', qa, m1, qc, pa, m2, pc, fy, oy, W6, rfl, rfl, rfl, rfl, HQ.out, HFF.out ()⟩
    case rest =>
      obtain ⟨ga, gb, R', va', vn', vc', qa, m1, qc, pa, m2, pc, fy, oy, W6, rfl, rfl, rfl, hwx, hq, hG⟩ := hcut
      replace hwx := hwx.symm
      subst hwx
      have HG : Hid (M6 w0 W6 px hp J R s turn u out va vn vc i R' sx ox va' vn' vc' ga gb #[.slice qa m1 qc, .slice pa m2 pc, .int .i64 fy, .bool oy] #[.int .i64 3, .int .i64 40, .int .i64 T0, .slice va' vn' vc', .int .i64 ux0]) := hG
      have HQ : Hid (rda R' sx = #[.slice qa m1 qc, .slice pa m2 pc, .int .i64 fy, .bool oy]) := hq
      have B0 : Box W6 px 43 #[.pointer (some ⟨hp, 0, none⟩), .pointer (some ⟨jp, 0, none⟩), .slice sa n1 sc, .slice wa n2 wc, .int .i64 fz, .bool of, .int .i64 3, .int .i64 40, .int .i64 T0, .slice va vn vc, .int .i64 u0] := HBX.out.of_block (hG.keep6 HO1.out.1)
      clear hq hG
      have hG := HG.out
      have a0 := hG.ba.cell 0 (.slice qa m1 qc) rfl
      have a1 := hG.ba.cell 1 (.slice pa m2 pc) rfl
      have a2 := hG.ba.cell 2 (.int .i64 fy) rfl
      have a3 := hG.ba.cell 3 (.bool oy) rfl
      have b0 := hG.bb.cell 0 (.int .i64 3) rfl
      have b1 := hG.bb.cell 1 (.int .i64 40) rfl
      have b2 := hG.bb.cell 2 (.int .i64 T0) rfl
      have b3 := hG.bb.cell 3 (.slice va' vn' vc') rfl
      have b4 := hG.bb.cell 4 (.int .i64 ux0) rfl
      have c2 := B0.cell 2 (.slice sa n1 sc) rfl
      have y2 := B0.frozen 2
      have c3 := B0.cell 3 (.slice wa n2 wc) rfl
      have y3 := B0.frozen 3
      have c4 := B0.cell 4 (.int .i64 fz) rfl
      have y4 := B0.frozen 4
      have c5 := B0.cell 5 (.bool of) rfl
      have y5 := B0.frozen 5
      have c6 := B0.cell 6 (.int .i64 3) rfl
      have y6 := B0.frozen 6
      have c7 := B0.cell 7 (.int .i64 40) rfl
      have y7 := B0.frozen 7
      have c8 := B0.cell 8 (.int .i64 T0) rfl
      have y8 := B0.frozen 8
      have c9 := B0.cell 9 (.slice va vn vc) rfl
      have y9 := B0.frozen 9
      have c10 := B0.cell 10 (.int .i64 u0) rfl
      have y10 := B0.frozen 10
      have c1 := B0.cell 1 (.pointer (some ⟨jp, 0, none⟩)) rfl
      have hgp : ga ≠ px := fun e => by
        have h1 := hG.ba
        rw [e] at h1
        have := cells_type h1 B0
        simp at this
      have hhp : gb ≠ px := fun e => by
        have h1 := hG.bb
        rw [e] at h1
        have := cells_type h1 B0
        simp at this
      have K8 := keptj (keptq (Kept.refl (fun x => x = px) W6) (z := px) (.inl rfl) (.slice qa m1 qc) (.slice pa m2 pc) (.int .i64 fy) (.bool oy)) (z := px) (.inl rfl) (.int .i64 3) (.int .i64 40) (.int .i64 T0) (.slice va' vn' vc') (.int .i64 ux0)
      have B8 := sd_j (T' := T0) (v' := .slice va' vn' vc') (u' := ux0) (sd_q (a' := (.slice qa m1 qc)) (b' := (.slice pa m2 pc)) (c' := (.int .i64 fy)) (d' := (.bool oy)) (show Box W6 px 43 (sdc hp jp #[.slice sa n1 sc, .slice wa n2 wc, .int .i64 fz, .bool of] T0 (.slice va vn vc) u0) from B0))
      have HM8 : Hid (Unit → M8 w0 (((((((((W6.setCell ⟨px, 2, none⟩ (.slice qa m1 qc)).setCell ⟨px, 3, none⟩ (.slice pa m2 pc)).setCell ⟨px, 4, none⟩ (.int .i64 fy)).setCell ⟨px, 5, none⟩ (.bool oy)).setCell ⟨px, 6, none⟩ (.int .i64 3)).setCell ⟨px, 7, none⟩ (.int .i64 40)).setCell ⟨px, 8, none⟩ (.int .i64 T0)).setCell ⟨px, 9, none⟩ (.slice va' vn' vc')).setCell ⟨px, 10, none⟩ (.int .i64 ux0)) px hp J s turn u out R' sx ux ox va' vn' vc') := fun _ => by
        refine hG.set K8 ?_
        have e1 : sdc hp J.p (rda R' sx) turn.toInt (.slice va' vn' vc') ux = sdc hp jp #[.slice qa m1 qc, .slice pa m2 pc, .int .i64 fy, .bool oy] T0 (.slice va' vn' vc') ux0 := by
          rw [HQ.out, ← HAD.out.2.1, ← HAD.out.2.2.1, ← HAD.out.2.2.2]
        rw [e1]
        exact B8
      clear hG K8 B8 B0
      go_wp2_with fail
      obtain ⟨W8, hW8⟩ : ∃ W8, W8 = (((((((((W6.setCell ⟨px, 2, none⟩ (.slice qa m1 qc)).setCell ⟨px, 3, none⟩ (.slice pa m2 pc)).setCell ⟨px, 4, none⟩ (.int .i64 fy)).setCell ⟨px, 5, none⟩ (.bool oy)).setCell ⟨px, 6, none⟩ (.int .i64 3)).setCell ⟨px, 7, none⟩ (.int .i64 40)).setCell ⟨px, 8, none⟩ (.int .i64 T0)).setCell ⟨px, 9, none⟩ (.slice va' vn' vc')).setCell ⟨px, 10, none⟩ (.int .i64 ux0)) := ⟨_, rfl⟩
      rw [← hW8] at HM8 ⊢
      clear hW8
      have cc := code_add (HM8.out ()).jnl HO1.out.1.pu HO1.out.2 t2
      rw [← HS2.out, HAD.out.1, ← HAD.out.2.2.2] at cc
      dsimp only at cc
      refine Calls.mono cc ?_
      rintro e w9 ⟨rfl, J', T9, j9⟩
      have HFI : Hid (Unit → Sy w0 w9 px hp J' R' sx turn ux ox va' vn' vc' (i + 1)) := fun _ => by
        have p := pu_add HO1.out.1.pu t2
        rw [HAD.out.1] at p
        exact (HM8.out ()).done T9 j9 p
      clear T9 j9 cc
      go_wp2_with fail
      go_ret
      refine ⟨?_, J', R', sx, turn, ux, ox, va', vn', vc', HFI.out ()⟩
      try rfl
end Go.Proofs.Ytgffplfpoopolaa
