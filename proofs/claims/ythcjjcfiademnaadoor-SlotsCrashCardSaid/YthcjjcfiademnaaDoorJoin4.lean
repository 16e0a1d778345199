/-
  7 texts, one behind the other: QI, QJ, QK, QL, QS, QX, QOpen.
-/
import Derived.Test.YthcjjcfiademnaaDoorJoin3
import Derived.Shelf.Strings.BuilderF
import Derived.Lib.SmallJoins
/-
  The contract of package slots' read: the bytes that lie in the extent of a slot.
-/
namespace Go.Proofs.YthcjjcfiademnaaDoor
open Go.RowKit Leb

def IsBF (w : World) (B b : Nat) (l : List UInt8) : Prop := Lib.IsBuilderF 69 5 B b (Lib.byteCells l) w
theorem IsB.f {w : World} {B b : Nat} {l : List UInt8} (h : IsB w B b l) : IsBF w B b l := Lib.IsBuilderF.of h
theorem IsBF.drew {w : World} {B b : Nat} {l : List UInt8} (h : IsBF w B b l) : IsBF w.drew B b l := h.elim (fun x => .inl x.drew) (fun x => .inr x.drew)
theorem bld_string_f {w : World} {B b : Nat} {l : List UInt8} (h : IsBF w B b l) (hB : B ≤ w.heap.size) :
    Calls Tryd.prog 34 #[.pointer (some ⟨b, 0, none⟩)] w fun e w' => e = .returned (.string (strB l)) ∧ IsBF w' B b l ∧ Below B w w' :=
  Any.Builder_String_any_f Tryd.lays169 Tryd.Builder_Extra_169 B b l w h hB
theorem DevIs.belowB {w w' : World} {H : Hnd} {s : St} (D : DevIs w H s) {B : Nat} (b : Below B w w') (hF : ∀ k, H.foot k → k < B) : DevIs w' H s :=
  D.kept (F := fun k => B ≤ k) ⟨b.os, b.tape, b.output, b.size, fun x _ hx => b.block x (by omega)⟩ (fun x hx h => by have := hF x hx; omega)
set_option maxRecDepth 4000 in
set_option maxHeartbeats 2000000 in
theorem qread_good {w : World} {H : Hnd} {s : St} (D : DevIs w H s) (hoff : s.off = false) (d : Sd) (f c : Nat) (t : List UInt8) (L : Lies (lay s.sure s.wait) d f c t) :
    Calls Tryd.prog 22 #[.agg (sdv d), .pointer (some ⟨H.p, 0, none⟩)] w fun e w' => e = .returned (.tuple #[.string (strB t), .int .i64 0]) ∧ Below w.heap.size w w' := by
  obtain ⟨hf, hc, hn, hs, hfit, h4, hblk⟩ := L
  have hs32 : (Crc.sum t).toNat < 4294967296 := (Crc.sum t).isLt
  have ef : d.f.toInt = (f : Int) := by rw [hf, ofNat_toInt (by omega)]
  have ec : d.c.toInt = (c : Int) := by rw [hc, ofNat_toInt (by omega)]
  have en : d.n.toInt = (t.length : Int) := by rw [hn, ofNat_toInt (by omega)]
  have es : d.s.toInt = ((Crc.sum t).toNat : Int) := by rw [hs, ofNat_toInt (by omega)]
  show Calls _ _ #[.agg #[.int .i64 d.turn.toInt, .int .i64 d.f.toInt, .int .i64 d.c.toInt, .int .i64 d.n.toInt, .int .i64 d.s.toInt], _] w _
  rw [ef, ec, en, es]
  clear ef ec en es hf hc hn hs
  obtain ⟨x, hx⟩ : ∃ x, x = d.turn.toInt := ⟨_, rfl⟩
  rw [← hx]
  clear hx
  have csum := fun w => sum_any (strB t) (by rw [strB_size]; unfold maxLen; omega) w
  rw [strB_list] at csum
  have cbl := fun w => qblank_any (List.replicate (128 * c - t.length) 0) (by rw [List.length_replicate]; omega) w
  rw [blank_rep] at cbl
  have HR : Hid (∀ w' k, k < c → DevIs w' H s → Calls Tryd.prog 32 #[.pointer (some ⟨H.p, 0, none⟩), .int .i64 ((f : Int) + ((k : Nat) : Int))] w' fun e w'' => e = .returned (.tuple #[.string (strB (fillL (t.drop (128 * k)))), .int .i64 0]) ∧ w'' = w') := fun w' k hk D' => by
    have := read_on D' (f + k) _ (hblk k hk) hoff
    rw [show ((f + k : Nat) : Int) = (f : Int) + (k : Int) by omega] at this
    exact this
  have HFar : Hid (∀ k, H.foot k → k < w.heap.size) := fun k hk => D.lt hk
  obtain ⟨sm, hsm⟩ : ∃ m, m = (Crc.sum t).toNat := ⟨_, rfl⟩
  rw [← hsm] at csum ⊢
  obtain ⟨n, hn⟩ : ∃ n, n = t.length := ⟨_, rfl⟩
  obtain ⟨R, hR⟩ : ∃ R, R = strB (whole c t) := ⟨_, rfl⟩
  have hRz : R.size = 128 * c := by rw [hR, strB_size, whole_len hfit]
  have hR1 : R.extract 0 n = strB t := by rw [hR, head_cut, hn, whole_head]
  have hR2 : R.extract n R.size = strB (List.replicate (128 * c - t.length) 0) := by rw [hR, rest_cut, hn, whole_rest]
  obtain ⟨T, hT⟩ : ∃ T, T = strB t := ⟨_, rfl⟩
  obtain ⟨Z, hZ⟩ : ∃ Z, Z = strB (List.replicate (128 * c - t.length) 0) := ⟨_, rfl⟩
  rw [← hT] at csum hR1 ⊢
  rw [← hZ] at cbl hR2
  rw [← hn] at hfit ⊢
  have HW : Hid (R = strB (whole c t) ∧ n = t.length ∧ t.length ≤ 128 * c) := ⟨hR, hn, by omega⟩
  have hnI : 0 ≤ (n : Int) ∧ (n : Int) ≤ (R.size : Int) := by omega
  have hcI : (c : Int) ≤ 4096 := by omega
  have hfI : (f : Int) ≤ 4096 := by omega
  have B0 := box_old w #[.int .i64 x, .int .i64 f, .int .i64 c, .int .i64 n, .int .i64 sm] 55 (.cells #[.pointer none, .slice none 0 0] 69)
  have B1 := isB_new (w.alloc (.cells #[.int .i64 x, .int .i64 f, .int .i64 c, .int .i64 n, .int .i64 sm] 55))
  rw [World.size_alloc] at B1
  have b01 := below2 w (.cells #[.int .i64 x, .int .i64 f, .int .i64 c, .int .i64 n, .int .i64 sm] 55) (.cells #[.pointer none, .slice none 0 0] 69)
  have HB : Hid (Unit → Box _ w.heap.size 55 #[.int .i64 x, .int .i64 f, .int .i64 c, .int .i64 n, .int .i64 sm] ∧ IsB _ (w.heap.size + 1) (w.heap.size + 1) [] ∧ Below w.heap.size w _ ∧ DevIs _ H s) := fun _ => ⟨B0, B1, b01, D.below b01⟩
  obtain ⟨p, hp⟩ : ∃ p, p = H.p := ⟨_, rfl⟩
  rw [← hp] at HR ⊢
  clear B0 B1 b01 hp hn hR hT hZ hblk hs32 hsm h4 D hfit hRz
  go_enter Tryd.func22, Tryd.ntmps22
  go_wp2_with fail
  go_loopg [15] c (fun g s15 wx => ∃ k : Nat, k + g = c ∧ s15 = .int .i64 k ∧ Box wx w.heap.size 55 #[.int .i64 x, .int .i64 f, .int .i64 c, .int .i64 n, .int .i64 sm] ∧ IsB wx (w.heap.size + 1) (w.heap.size + 1) ((whole c t).take (128 * k)) ∧ Below w.heap.size w wx ∧ DevIs wx H s)
  case atStart => exact ⟨0, by omega, rfl, HB.out ()⟩
  case round =>
    obtain ⟨k, hkg, rfl, hB, hI, hb, hD⟩ := hrel
    by_cases hk : k < c
    · have hkI : (k : Int) < c := by omega
      have l1 := hB.cell 1 (.int .i64 f) rfl
      have cr := HR.out wr k hk hD
      have r1 : IntKind.i64.wrap ((f : Int) + (k : Int)) = (f : Int) + (k : Int) := by rw [IntKind.wrap_i64]; omega
      have hsz : w.heap.size + 1 ≤ wr.heap.size := by have := hB.lt; omega
      have hst := whole_step HW.out.2.2 hk
      have hlw : ((whole c t).take (128 * k)).length ≤ 128 * c := by rw [List.length_take, whole_len HW.out.2.2]; omega
      have cw := bld_write hI (fillL (t.drop (128 * k))) (by rw [fillL_len]; omega) hsz
      rw [← hst] at cw
      obtain ⟨F, hF⟩ : ∃ F, F = strB (fillL (t.drop (128 * k))) := ⟨_, rfl⟩
      obtain ⟨fl, hfl⟩ : ∃ fl, fl = (fillL (t.drop (128 * k))).length := ⟨_, rfl⟩
      rw [← hF] at cr cw
      rw [← hfl] at cw
      have HK : Hid (Box wr w.heap.size 55 #[.int .i64 x, .int .i64 f, .int .i64 c, .int .i64 n, .int .i64 sm] ∧ Below w.heap.size w wr ∧ DevIs wr H s) := ⟨hB, hb, hD⟩
      clear hB hI hb hD hF hst hlw hfl
      go_wp2_with fail
      refine cr.mono ?_
      rintro e w2 ⟨rfl, hw2⟩
      replace hw2 := hw2.symm
      subst hw2
      go_wp2_with fail
      refine cw.mono ?_
      rintro e w3 ⟨rfl, hI3, b3⟩
      have HK3 : Hid (Box w3 w.heap.size 55 #[.int .i64 x, .int .i64 f, .int .i64 c, .int .i64 n, .int .i64 sm] ∧ IsB w3 (w.heap.size + 1) (w.heap.size + 1) ((whole c t).take (128 * (k + 1))) ∧ Below w.heap.size w w3 ∧ DevIs w3 H s) := ⟨HK.out.1.below b3 (by omega), hI3, HK.out.2.1.trans (b3.mono (by omega)), HK.out.2.2.belowB b3 (fun k hk => by have := HFar.out k hk; omega)⟩
      clear hI3 b3 cw
      go_wp2_with fail
      go_roundg (c - (k + 1))
      case measure => omega
      case rel => exact ⟨k + 1, by omega, by go_num, HK3.out⟩
    · have hkI : ¬ (k : Int) < c := by omega
      have hk5 : k = c := by omega
      subst hk5
      rw [whole_all HW.out.2.2] at hI
      have hsz : w.heap.size + 1 ≤ wr.heap.size := by have := hB.lt; omega
      have HK : Hid (Box wr w.heap.size 55 #[.int .i64 x, .int .i64 f, .int .i64 k, .int .i64 n, .int .i64 sm] ∧ IsBF wr (w.heap.size + 1) (w.heap.size + 1) (whole k t) ∧ Below w.heap.size w wr ∧ w.heap.size + 1 ≤ wr.heap.size) := ⟨hB, hI.f, hb, hsz⟩
      have l3 : wr.cell? ⟨w.heap.size, 3, none⟩ = some (.int .i64 n) := hB.cell 3 _ rfl
      clear hB hI hb hD hsz
      go_wp2_with fail
      refine wp_region_held_then (fun w' : World => w'.cell? ⟨w.heap.size, 3, none⟩ = some (.int .i64 n)) _ (by kernel_rfl) rfl (by kernel_rfl) ?_
      have hHeld : (fun w' : World => w'.cell? ⟨w.heap.size, 3, none⟩ = some (.int .i64 n)) wr.drew := l3
      have c1 := bld_string_f HK.out.2.1.drew (show w.heap.size + 1 ≤ wr.drew.heap.size from HK.out.2.2.2)
      rw [← HW.out.1] at c1
      dsimp only [List.dropLast, List.length, List.getLast]
      ((refine takeL 1 (v := ?_) rfl (by kernel_rfl) (by kernel_rfl) (by kernel_rfl) (fun _ _ _ h => h) (by rfl) hHeld ?_ ?_; rotate_left; focus (intro w hSw; (try dsimp only at hSw); go_simp <;> with_reducible rfl); (try simp only [Act.put, List.setIfInBounds_toArray, List.set_cons_zero, List.set_cons_succ])); (refine takeL 2 (v := ?_) rfl (by kernel_rfl) (by kernel_rfl) (by kernel_rfl) (fun _ _ _ h => h) (by rfl) hHeld ?_ ?_; rotate_left; focus (intro w hSw; (try dsimp only at hSw); go_simp <;> with_reducible rfl); (try simp only [Act.put, List.setIfInBounds_toArray, List.set_cons_zero, List.set_cons_succ])); (refine takeL 5 (v := ?_) rfl (by kernel_rfl) (by kernel_rfl) (by kernel_rfl) (fun _ _ _ h => h) (by rfl) hHeld ?_ ?_; rotate_left; focus (intro w hSw; (try dsimp only at hSw); go_simp <;> with_reducible rfl); (try simp only [Act.put, List.setIfInBounds_toArray, List.set_cons_zero, List.set_cons_succ])); (refine takeL 6 (v := ?_) rfl (by kernel_rfl) (by kernel_rfl) (by kernel_rfl) (fun _ _ _ h => h) (by rfl) hHeld ?_ ?_; rotate_left; focus (intro w hSw; (try dsimp only at hSw); go_simp <;> with_reducible rfl); (try simp only [Act.put, List.setIfInBounds_toArray, List.set_cons_zero, List.set_cons_succ])))
      dsimp only [Act.put]
      simp only [List.setIfInBounds_toArray, List.set_cons_zero, List.set_cons_succ]
      refine callL 0 (f := 34) (vs := #[.pointer (some ⟨w.heap.size + 1, 0, none⟩)]) rfl (by kernel_rfl) (by rfl) (by go_simp) ?_
      refine c1.mono ?_
      rintro e w2 ⟨rfl, hI2, b2⟩
      have X2 := HK.out.1.drew.below b2 (by omega)
      have HK2 : Hid (Box w2 w.heap.size 55 #[.int .i64 x, .int .i64 f, .int .i64 k, .int .i64 n, .int .i64 sm] ∧ IsBF w2 (w.heap.size + 1) (w.heap.size + 1) (whole k t) ∧ Below w.heap.size w w2 ∧ w.heap.size + 1 ≤ w2.heap.size) := ⟨X2, hI2, HK.out.2.2.1.drew.trans (b2.mono (by omega)), Nat.le_trans HK.out.2.2.2 b2.size⟩
      have hHeld2 : (fun w' : World => w'.cell? ⟨w.heap.size, 3, none⟩ = some (.int .i64 n)) w2 := X2.cell 3 _ rfl
      have c2 := bld_string_f hI2 HK2.out.2.2.2
      rw [← HW.out.1] at c2
      clear hI2 b2 X2 c1 l3
      refine ⟨_, rfl, hHeld2, ?_⟩
      try dsimp only [Act.put]
      try simp only [List.setIfInBounds_toArray, List.set_cons_zero, List.set_cons_succ]
      ((refine takeL 3 (v := ?_) rfl (by kernel_rfl) (by kernel_rfl) (by kernel_rfl) (fun _ _ _ h => h) (by rfl) hHeld2 ?_ ?_; rotate_left; focus (intro w hSw; (try dsimp only at hSw); go_simp <;> with_reducible rfl); (try simp only [Act.put, List.setIfInBounds_toArray, List.set_cons_zero, List.set_cons_succ])))
      dsimp only [Act.put]
      simp only [List.setIfInBounds_toArray, List.set_cons_zero, List.set_cons_succ]
      refine callL 4 (f := 34) (vs := #[.pointer (some ⟨w.heap.size + 1, 0, none⟩)]) rfl (by kernel_rfl) (by rfl) (by go_simp) ?_
      refine c2.mono ?_
      rintro e w3 ⟨rfl, hI3, b3⟩
      have X3 := HK2.out.1.below b3 (by omega)
      have HK3 : Hid (Box w3 w.heap.size 55 #[.int .i64 x, .int .i64 f, .int .i64 k, .int .i64 n, .int .i64 sm] ∧ Below w.heap.size w w3) := ⟨X3, HK2.out.2.2.1.trans (b3.mono (by omega))⟩
      have hHeld3 : (fun w' : World => w'.cell? ⟨w.heap.size, 3, none⟩ = some (.int .i64 n)) w3 := X3.cell 3 _ rfl
      clear hI3 b3 X3 c2 hHeld hHeld2
      refine ⟨_, rfl, hHeld3, ?_⟩
      try dsimp only [Act.put]
      try simp only [List.setIfInBounds_toArray, List.set_cons_zero, List.set_cons_succ]
      ((refine takeL 7 (v := ?_) rfl (by kernel_rfl) (by kernel_rfl) (by kernel_rfl) (fun _ _ _ h => h) (by rfl) hHeld3 ?_ ?_; rotate_left; focus (intro w hSw; (try dsimp only at hSw); go_simp <;> with_reducible rfl); (try simp only [Act.put, List.setIfInBounds_toArray, List.set_cons_zero, List.set_cons_succ])))
      dsimp only [Act.put]
      simp only [List.setIfInBounds_toArray, List.set_cons_zero, List.set_cons_succ]
      refine newL 8 w3 (.string T) rfl (by kernel_rfl) (by rfl) (by go_simp) hHeld3 ?_
      refine doneL (by kernel_rfl) ?_
      try dsimp only [Act.put]
      unfold Oper.wp
      have k4 : ∀ q : Above w3, q.it.cell? ⟨w.heap.size, 4, none⟩ = some (.int .i64 sm) := fun q => (HK3.out.1.over q.is).cell 4 _ rfl
      clear hHeld3 HK2 HK
      go_simp
      go_wp2_with fail
      refine wp_region_above (by kernel_rfl) (by kernel_rfl) ?_
      intro hne
      repeat (go_big_quiet_step (first
        | (go_at_call 23; exact above_same (csum _))
        | (go_at_call 35; exact above_of (cbl _))))
      refine wpQuiet_nil ?_
      rintro _ ⟨kq, rfl⟩
      have hbq := kq.is
      replace hbq := HK3.out.2.trans (hbq.mono HK3.out.2.size)
      clear k4
      go_wp2
      go_ret2
      exact ⟨rfl, hbq⟩
end Go.Proofs.YthcjjcfiademnaaDoor
/-
  The contract of package slots' Read, of slots that belong there.
-/
namespace Go.Proofs.YthcjjcfiademnaaDoor
open Go.RowKit Leb

theorem size_extent : (Tryd.prog.info? 32).map (·.size) = some 2 := by kernel_rfl
theorem res_four {P : Program} {fn : Func} {a p b c : Tmp} {ty : TypeId} {w : World} {g : Nat} {t : TypeId} {cs : Array Value} {tmps : Array Value} (h : fn.results = #[.tmp a, .cell p ty, .tmp b, .tmp c]) (d : TypeDesc) (hp : tmps.getD p undef = .pointer (some ⟨g, 0, none⟩)) (hg : Box w g t cs)
    (hu : P.underlying ty = some d) (hd : (match d with | .struct _ | .array _ _ => true | _ => false) = true) (hi : (P.info? ty).map (·.size) = some cs.size) (va vb vc : Value) (ha : tmps.getD a undef = va) (hb : tmps.getD b undef = vb) (hc : tmps.getD c undef = vc) :
    (results fn tmps).run P w = .ok (.tuple #[va, .agg cs, vb, vc]) w := by
  have hp' : tmps[p]?.getD undef = .pointer (some ⟨g, 0, none⟩) := by simpa using hp
  have ha' : tmps[a]?.getD undef = va := by simpa using ha
  have hb' : tmps[b]?.getD undef = vb := by simpa using hb
  have hc' : tmps[c]?.getD undef = vc := by simpa using hc
  have hl := run_loadVar_row (P := P) w g t ty cs (0, 0) d hg hu hd hi
  simp [results, h, hp', ha', hb', hc', asAddr, hl]
theorem box_two {w : World} {p : Nat} {t : TypeId} {x0 x1 : Value} (B : Box w p t #[x0, x1]) (v0 v1 : Value) : Box ((w.setCell ⟨p, 0, none⟩ v0).setCell ⟨p, 1, none⟩ v1) p t #[v0, v1] := (B.set 0 v0).set 1 v1
theorem below_two {B : Nat} {a w : World} {p : Nat} (h : Below B a w) (hp : B ≤ p) (v0 v1 : Value) : Below B a ((w.setCell ⟨p, 0, none⟩ v0).setCell ⟨p, 1, none⟩ v1) :=
  (h.setCell (p := ⟨p, 0, none⟩) hp v0).setCell (p := ⟨p, 1, none⟩) hp v1
set_option maxRecDepth 4000 in
set_option maxHeartbeats 1600000 in
theorem qRead_none {w : World} {H : Hnd} {s : St} (D : DevIs w H s) (hoff : s.off = false) (o0 o1 : Option Sd) (hT : Two (lay s.sure s.wait) o0 o1) (hb : best o0 o1 = none) :
    Calls Tryd.prog 10 #[.pointer (some ⟨H.p, 0, none⟩)] w fun e w' => e = .returned (.tuple #[.string { data := #[] }, .agg #[.int .i64 0, .int .i64 0], .int .i64 0, .int .i64 3]) ∧ Below w.heap.size w w' := by
  have b1 := below1 w (.cells #[.int .i64 0, .int .i64 0] 32)
  have B1 := box_new w #[.int .i64 0, .int .i64 0] 32
  have cl : Calls Tryd.prog 21 #[.pointer (some ⟨H.p, 0, none⟩)] _ fun e w' => e = .returned (.tuple #[.agg (sdv noSd), .int .i64 3]) ∧ Below _ _ w' := (qlast_good (D.below b1) hoff o0 o1 hT).mono fun e w' h => by
    rcases h.1 with ⟨_, h1⟩ | ⟨d, h1, _⟩
    · exact ⟨h1, h.2⟩
    · rw [hb] at h1; cases h1
  have hsd : sdv noSd = #[.int .i64 0, .int .i64 0, .int .i64 0, .int .i64 0, .int .i64 0] := rfl
  rw [hsd] at cl
  have HB : Hid (Unit → Box _ w.heap.size 32 #[.int .i64 0, .int .i64 0] ∧ Below w.heap.size w _) := fun _ => ⟨B1, b1⟩
  obtain ⟨p, hp⟩ : ∃ p, p = H.p := ⟨_, rfl⟩
  rw [← hp] at cl ⊢
  clear B1 b1 hp D hT hb hoff hsd
  go_enter Tryd.func10, Tryd.ntmps10
  go_wp2_with fail
  refine cl.mono ?_
  rintro e w1 ⟨rfl, b1⟩
  have E0 := (HB.out ()).1.over b1
  have E1 := (HB.out ()).2.trans (b1.mono (HB.out ()).2.size)
  have hlt := E0.lt
  have z0 := E0.cell 0 (.int .i64 0) rfl
  have z1 := E0.cell 1 (.int .i64 0) rfl
  have y0 := E0.frozen 0
  have y1 := E0.frozen 1
  have HF : Hid (Unit → Box _ w.heap.size 32 #[.int .i64 0, .int .i64 0] ∧ Below w.heap.size w _) := fun _ => ⟨(box_two E0 (.int .i64 0) (.int .i64 0)).alloc (.cells #[.int .i64 0, .int .i64 0, .int .i64 0, .int .i64 0, .int .i64 0] 55), (below_two E1 (p := w.heap.size) (Nat.le_refl _) (.int .i64 0) (.int .i64 0)).alloc (Nat.le_trans E1.size (by simp)) (.cells #[.int .i64 0, .int .i64 0, .int .i64 0, .int .i64 0, .int .i64 0] 55)⟩
  clear E0 E1 b1 cl HB
  go_wp2_with fail
  exact bodyPost_ret (res_four Tryd.results10 _ rfl (HF.out ()).1 Tryd.underlying32 rfl size_extent _ _ _ rfl rfl rfl) rfl ⟨rfl, (HF.out ()).2⟩
set_option maxRecDepth 4000 in
set_option maxHeartbeats 1600000 in
theorem qRead_some {w : World} {H : Hnd} {s : St} (D : DevIs w H s) (hoff : s.off = false) (o0 o1 : Option Sd) (hT : Two (lay s.sure s.wait) o0 o1) (d : Sd) (hb : best o0 o1 = some d) (f c : Nat) (t : List UInt8) (L : Lies (lay s.sure s.wait) d f c t) :
    Calls Tryd.prog 10 #[.pointer (some ⟨H.p, 0, none⟩)] w fun e w' => e = .returned (.tuple #[.string (strB t), .agg #[.int .i64 f, .int .i64 c], .int .i64 d.turn.toInt, .int .i64 0]) ∧ Below w.heap.size w w' := by
  have b1 := below1 w (.cells #[.int .i64 0, .int .i64 0] 32)
  have B1 := box_new w #[.int .i64 0, .int .i64 0] 32
  have cl : Calls Tryd.prog 21 #[.pointer (some ⟨H.p, 0, none⟩)] _ fun e w' => e = .returned (.tuple #[.agg (sdv d), .int .i64 0]) ∧ Below _ _ w' := (qlast_good (D.below b1) hoff o0 o1 hT).mono fun e w' h => by
    rcases h.1 with ⟨h1, _⟩ | ⟨d', h1, h2⟩
    · rw [hb] at h1; cases h1
    · rw [hb] at h1
      cases h1
      exact ⟨h2, h.2⟩
  have HR : Hid (∀ w', DevIs w' H s → Calls Tryd.prog 22 #[.agg (sdv d), .pointer (some ⟨H.p, 0, none⟩)] w' fun e w'' => e = .returned (.tuple #[.string (strB t), .int .i64 0]) ∧ Below w'.heap.size w' w'') := fun w' D' => qread_good D' hoff d f c t L
  have ef : d.f.toInt = (f : Int) := by rw [L.hf, ofNat_toInt (by have := L.c4; omega)]
  have ec : d.c.toInt = (c : Int) := by rw [L.hc, ofNat_toInt (by have := L.c4; omega)]
  have hsd : sdv d = #[.int .i64 d.turn.toInt, .int .i64 f, .int .i64 c, .int .i64 d.n.toInt, .int .i64 d.s.toInt] := by rw [← ef, ← ec]; rfl
  rw [hsd] at cl HR
  obtain ⟨x, hx⟩ : ∃ x, x = d.turn.toInt := ⟨_, rfl⟩
  obtain ⟨n, hn⟩ : ∃ n, n = d.n.toInt := ⟨_, rfl⟩
  obtain ⟨m, hm⟩ : ∃ m, m = d.s.toInt := ⟨_, rfl⟩
  rw [← hx, ← hn, ← hm] at cl HR
  rw [← hx]
  have HB : Hid (Unit → Box _ w.heap.size 32 #[.int .i64 0, .int .i64 0] ∧ Below w.heap.size w _ ∧ DevIs _ H s) := fun _ => ⟨B1, b1, D.below b1⟩
  obtain ⟨p, hp⟩ : ∃ p, p = H.p := ⟨_, rfl⟩
  rw [← hp] at cl HR ⊢
  obtain ⟨T, hTT⟩ : ∃ T, T = strB t := ⟨_, rfl⟩
  rw [← hTT] at HR ⊢
  clear B1 b1 hp D hT hb hoff hsd ef ec hx hn hm L hTT
  go_enter Tryd.func10, Tryd.ntmps10
  go_wp2_with fail
  refine cl.mono ?_
  rintro e w1 ⟨rfl, b1⟩
  have E0 := (HB.out ()).1.over b1
  have E1 := (HB.out ()).2.1.trans (b1.mono (HB.out ()).2.1.size)
  have E2 := (HB.out ()).2.2.below b1
  have b2 := below1 w1 (.cells #[.int .i64 x, .int .i64 f, .int .i64 c, .int .i64 n, .int .i64 m] 55)
  have N0 := box_new w1 #[.int .i64 x, .int .i64 f, .int .i64 c, .int .i64 n, .int .i64 m] 55
  have cr := HR.out _ (E2.below b2)
  have hlt := E0.lt
  have HN : Hid (Unit → Box _ w.heap.size 32 #[.int .i64 0, .int .i64 0] ∧ Below w.heap.size w _ ∧ Box _ w1.heap.size 55 #[.int .i64 x, .int .i64 f, .int .i64 c, .int .i64 n, .int .i64 m] ∧ w.heap.size < w1.heap.size) := fun _ => ⟨E0.over b2, E1.trans (b2.mono E1.size), N0, hlt⟩
  clear E0 E1 E2 b1 b2 N0 cl HB hlt
  go_wp2_with fail
  refine cr.mono ?_
  rintro e w3 ⟨rfl, b3⟩
  have hn := HN.out ()
  have E0 := hn.1.over b3
  have E1 := hn.2.1.trans (b3.mono hn.2.1.size)
  have E3 := hn.2.2.1.over b3
  have hlt := hn.2.2.2
  have z0 := E0.cell 0 (.int .i64 0) rfl
  have z1 := E0.cell 1 (.int .i64 0) rfl
  have y0 := E0.frozen 0
  have y1 := E0.frozen 1
  have l0 := E3.cell 0 (.int .i64 x) rfl
  have l1 := E3.cell 1 (.int .i64 f) rfl
  have l2 := E3.cell 2 (.int .i64 c) rfl
  have HF : Hid (Unit → Box _ w.heap.size 32 #[.int .i64 f, .int .i64 c] ∧ Below w.heap.size w _) := fun _ => ⟨box_two E0.drew (.int .i64 f) (.int .i64 c), below_two E1.drew (p := w.heap.size) (Nat.le_refl _) (.int .i64 f) (.int .i64 c)⟩
  have HE : Hid (Unit → Box w3 w.heap.size 32 #[.int .i64 0, .int .i64 0] ∧ Box w3 w1.heap.size 55 #[.int .i64 x, .int .i64 f, .int .i64 c, .int .i64 n, .int .i64 m]) := fun _ => ⟨E0, E3⟩
  clear E0 E1 E3 b3 cr HN hn
  go_wp2_with fail
  refine wp_region_held_then (fun w' : World => w'.cell? ⟨w1.heap.size, 0, none⟩ = some (.int .i64 x) ∧ w'.cell? ⟨w1.heap.size, 1, none⟩ = some (.int .i64 f) ∧ w'.cell? ⟨w1.heap.size, 2, none⟩ = some (.int .i64 c)) _ (by kernel_rfl) rfl (by kernel_rfl) ?_
  have hHeld : (fun w' : World => w'.cell? ⟨w1.heap.size, 0, none⟩ = some (.int .i64 x) ∧ w'.cell? ⟨w1.heap.size, 1, none⟩ = some (.int .i64 f) ∧ w'.cell? ⟨w1.heap.size, 2, none⟩ = some (.int .i64 c)) w3.drew := ⟨l0, l1, l2⟩
  have hHeld2 : (fun w' : World => w'.cell? ⟨w1.heap.size, 0, none⟩ = some (.int .i64 x) ∧ w'.cell? ⟨w1.heap.size, 1, none⟩ = some (.int .i64 f) ∧ w'.cell? ⟨w1.heap.size, 2, none⟩ = some (.int .i64 c)) ((w3.drew.setCell ⟨w.heap.size, 0, none⟩ (.int .i64 f)).setCell ⟨w.heap.size, 1, none⟩ (.int .i64 c)) := by
    have B := ((HE.out ()).2.drew.other (a := ⟨w.heap.size, 0, none⟩) (by simp; omega) (.int .i64 f)).other (a := ⟨w.heap.size, 1, none⟩) (by simp; omega) (.int .i64 c)
    exact ⟨B.cell 0 _ rfl, B.cell 1 _ rfl, B.cell 2 _ rfl⟩
  dsimp only [List.dropLast, List.length, List.getLast]
  ((refine takeL 0 (v := ?_) rfl (by kernel_rfl) (by kernel_rfl) (by kernel_rfl) (fun _ _ _ h => h) (by rfl) hHeld ?_ ?_; rotate_left; focus (intro w hSw; (try dsimp only at hSw); go_simp <;> with_reducible rfl); (try simp only [Act.put, List.setIfInBounds_toArray, List.set_cons_zero, List.set_cons_succ])); (refine takeL 1 (v := ?_) rfl (by kernel_rfl) (by kernel_rfl) (by kernel_rfl) (fun _ _ _ h => h) (by rfl) hHeld ?_ ?_; rotate_left; focus (intro w hSw; (try dsimp only at hSw); go_simp <;> with_reducible rfl); (try simp only [Act.put, List.setIfInBounds_toArray, List.set_cons_zero, List.set_cons_succ])); (refine takeL 2 (v := ?_) rfl (by kernel_rfl) (by kernel_rfl) (by kernel_rfl) (fun _ _ _ h => h) (by rfl) hHeld ?_ ?_; rotate_left; focus (intro w hSw; (try dsimp only at hSw); go_simp <;> with_reducible rfl); (try simp only [Act.put, List.setIfInBounds_toArray, List.set_cons_zero, List.set_cons_succ])); (refine takeL 3 (v := ?_) rfl (by kernel_rfl) (by kernel_rfl) (by kernel_rfl) (fun _ _ _ h => h) (by rfl) hHeld ?_ ?_; rotate_left; focus (intro w hSw; (try dsimp only at hSw); go_simp <;> with_reducible rfl); (try simp only [Act.put, List.setIfInBounds_toArray, List.set_cons_zero, List.set_cons_succ])); (refine takeL 4 (v := ?_) rfl (by kernel_rfl) (by kernel_rfl) (by kernel_rfl) (fun _ _ _ h => h) (by rfl) hHeld ?_ ?_; rotate_left; focus (intro w hSw; (try dsimp only at hSw); go_simp <;> with_reducible rfl); (try simp only [Act.put, List.setIfInBounds_toArray, List.set_cons_zero, List.set_cons_succ])))
  dsimp only [Act.put]
  simp only [List.setIfInBounds_toArray, List.set_cons_zero, List.set_cons_succ]
  refine newL 5 w3.drew (.string T) rfl (by kernel_rfl) (by rfl) (by go_simp) hHeld ?_
  try dsimp only [Act.put]
  try simp only [List.setIfInBounds_toArray, List.set_cons_zero, List.set_cons_succ]
  refine stepL 6 ((w3.drew.setCell ⟨w.heap.size, 0, none⟩ (.int .i64 f)).setCell ⟨w.heap.size, 1, none⟩ (.int .i64 c)) rfl (by kernel_rfl) (by rfl) (by go_simp) hHeld2 ?_
  try dsimp only [Act.put]
  try simp only [List.setIfInBounds_toArray, List.set_cons_zero, List.set_cons_succ]
  refine newL 7 ((w3.drew.setCell ⟨w.heap.size, 0, none⟩ (.int .i64 f)).setCell ⟨w.heap.size, 1, none⟩ (.int .i64 c)) (.int .i64 x) rfl (by kernel_rfl) (by rfl) (by go_simp) hHeld2 ?_
  refine doneL (by kernel_rfl) ?_
  try dsimp only [Act.put]
  try simp only [List.setIfInBounds_toArray, List.set_cons_zero, List.set_cons_succ]
  unfold Oper.wp
  clear hHeld hHeld2 l0 l1 l2 z0 z1 y0 y1
  go_simp
  go_wp2_with fail
  exact bodyPost_ret (res_four Tryd.results10 _ rfl (HF.out ()).1 Tryd.underlying32 rfl size_extent _ _ _ rfl rfl rfl) rfl ⟨rfl, (HF.out ()).2⟩
end Go.Proofs.YthcjjcfiademnaaDoor
/-
  The contracts of package slots' write and of the closures that it is given.
-/
namespace Go.Proofs.YthcjjcfiademnaaDoor
open Go.RowKit Leb

/-- A write, done or not. -/
def PutAns (H : Hnd) (r : St × Int) (w : World) (e : Ending) (w' : World) : Prop :=
  ∃ H', e = .returned (.int .i64 r.2) ∧ DevIs w' H' r.1 ∧ Turned H H' w w'
theorem qdw_any {w : World} {H : Hnd} {s : St} (D : DevIs w H s) (k : Nat) (b : List UInt8) (hk : k < s.sure.length) (hl : b.length = 128) (hfew : s.wait.length < 1000000) :
    Calls Tryd.prog 29 #[.pointer (some ⟨H.p, 0, none⟩), .int .i64 k, .string (strB b)] w (PutAns H (if s.goes then (s.write k b, 0) else (s.burnt, 40)) w) := by
  cases hg : s.goes with
  | true =>
    refine (write_on D k (strB b) hk (by rw [strB_size]; exact hl) hg hfew).mono ?_
    rintro e w' ⟨rfl, H', D', T⟩
    rw [strB_list] at D'
    exact ⟨H', rfl, D', T⟩
  | false =>
    refine (write_off D k (strB b) hk (by rw [strB_size]; exact hl) hg).mono ?_
    rintro e w' ⟨rfl, D', T⟩
    exact ⟨H, rfl, D', T⟩
theorem qds_any {w : World} {H : Hnd} {s : St} (D : DevIs w H s) :
    Calls Tryd.prog 30 #[.pointer (some ⟨H.p, 0, none⟩)] w (PutAns H (if s.goes then (s.synced, 0) else (s.burnt, 40)) w) := by
  cases hg : s.goes with
  | true =>
    refine (sync_on D hg).mono ?_
    rintro e w' ⟨rfl, H', D', T⟩
    exact ⟨H', rfl, D', T⟩
  | false =>
    refine (sync_off D hg).mono ?_
    rintro e w' ⟨rfl, D', T⟩
    exact ⟨H, rfl, D', T⟩
theorem putAll_nil (s : St) (a : Nat) : putAll s a [] = if s.goes then (s.synced, 0) else (s.burnt, 40) := rfl
theorem putAll_cons (s : St) (a : Nat) (b : List UInt8) (r : List (List UInt8)) : putAll s a (b :: r) = if s.goes then putAll (s.write a b) (a + 1) r else (s.burnt, 40) := rfl
theorem burnt_sure (s : St) : s.burnt.sure = s.sure := rfl
theorem write_sure (s : St) (k : Nat) (b : List UInt8) : (s.write k b).sure = s.sure ∧ (s.write k b).wait = s.wait ++ [(k, b)] := ⟨rfl, rfl⟩
/-- What is so while blocks are written. -/
structure Wrg (H H' : Hnd) (s s' : St) (a : Nat) (bl : List (List UInt8)) (k : Nat) (w wx : World) : Prop where
  dev : DevIs wx H' s'
  trn : Turned H H' w wx
  put : putAll s' (a + k) (bl.drop k) = putAll s a bl
  sure : s'.sure.length = s.sure.length
  wait : s'.wait.length ≤ s.wait.length + k
set_option maxRecDepth 4000 in
set_option maxHeartbeats 2000000 in
theorem qwrite_any {w : World} {H : Hnd} {s : St} (D : DevIs w H s) (a c : Nat) (bl : List (List UInt8)) (hbl : bl.length = c) (hb8 : ∀ b ∈ bl, b.length = 128) (hac : a + c ≤ s.sure.length) (hwl : s.wait.length ≤ 800000)
    (g : Nat) (caps : Array Value) (eg : ∀ args w, (callFunc g args).run Tryd.prog w = .ok (.enter g args) w)
    (hcl : ∀ k b w', bl[k]? = some b → Kept H.foot w w' → Calls Tryd.prog g (#[.int .i64 (k : Nat)] ++ caps) w' fun e w'' => e = .returned (.string (strB b)) ∧ Below w'.heap.size w' w'') :
    Calls Tryd.prog 17 #[.pointer (some ⟨H.p, 0, none⟩), .agg #[.int .i64 a, .int .i64 c], .func (.func g) #[] caps] w (PutAns H (putAll s a bl) w) := by
  have hn := D.top
  have b1 := below1 w (.cells #[.int .i64 a, .int .i64 c] 32)
  have B1 := box_new w #[.int .i64 a, .int .i64 c] 32
  have HX : Hid (bl.length = c ∧ (∀ b ∈ bl, b.length = 128) ∧ a + c ≤ s.sure.length ∧ s.wait.length ≤ 800000 ∧ s.sure.length ≤ 4096) := ⟨hbl, hb8, hac, hwl, hn⟩
  have HCL : Hid (∀ k b w', bl[k]? = some b → Kept H.foot w w' → Calls Tryd.prog g (#[.int .i64 (k : Nat)] ++ caps) w' fun e w'' => e = .returned (.string (strB b)) ∧ Below w'.heap.size w' w'') := hcl
  obtain ⟨wA, hwA⟩ : ∃ wA, wA = w.alloc (.cells #[.int .i64 a, .int .i64 c] 32) := ⟨_, rfl⟩
  have HB : Hid (Unit → Box _ w.heap.size 32 #[.int .i64 a, .int .i64 c] ∧ Wrg H H s s a bl 0 wA _) := fun _ => ⟨B1, D.below b1, by rw [hwA]; exact Turned.refl H _, rfl, rfl, by omega⟩
  have HA : Hid (Below w.heap.size w wA ∧ wA.heap.size = w.heap.size + 1 ∧ Turned H H w wA) := by
    rw [hwA]
    exact ⟨b1, by simp, (Turned.refl H w).of_below b1⟩
  have HFar : Hid (∀ k, H.foot k → k < w.heap.size) := fun k hk => D.lt hk
  obtain ⟨p, hp⟩ : ∃ p, p = H.p := ⟨_, rfl⟩
  have HP : Hid (p = H.p) := hp
  rw [← hp]
  have hcI : (c : Int) ≤ 4096 := by omega
  have haI : (a : Int) ≤ 4096 := by omega
  clear D hn b1 B1 hbl hb8 hac hwl hcl hp hwA
  go_enter Tryd.func17, Tryd.ntmps17
  go_wp2_with fail
  go_loopg [11] c (fun g s11 wx => ∃ (k : Nat) (H' : Hnd) (s' : St), k + g = c ∧ s11 = .int .i64 k ∧ Box wx w.heap.size 32 #[.int .i64 a, .int .i64 c] ∧ Wrg H H' s s' a bl k wA wx)
  case atStart => exact ⟨0, H, s, by omega, rfl, HB.out ()⟩
  case round =>
    obtain ⟨k, H', s', hkg, rfl, hB, hW⟩ := hrel
    have hp2 : H'.p = p := by rw [HP.out]; exact hW.trn.p
    by_cases hk : k < c
    · have hkI : (k : Int) < c := by omega
      obtain ⟨b, hb⟩ : ∃ b, bl[k]? = some b := ⟨bl[k]'(by have := HX.out.1; omega), List.getElem?_eq_getElem _⟩
      have HBB : Hid (bl[k]? = some b ∧ b.length = 128) := ⟨hb, HX.out.2.1 b (List.mem_of_getElem? hb)⟩
      have cc := HCL.out k b wr.drew hb ((kept_of_below H.foot HA.out.1).trans hW.trn.kept fun x hx => .inl hx).drew
      have l0 : wr.cell? ⟨w.heap.size, 0, none⟩ = some (.int .i64 a) := hB.cell 0 _ rfl
      have r1 : IntKind.i64.wrap ((a : Int) + (k : Int)) = (a : Int) + (k : Int) := by rw [IntKind.wrap_i64]; omega
      have HK : Hid (Box wr w.heap.size 32 #[.int .i64 a, .int .i64 c] ∧ Wrg H H' s s' a bl k wA wr) := ⟨hB, hW⟩
      have HP2 : Hid (H'.p = p) := hp2
      clear hB hW hb hp2
      go_wp2_with fail
      refine wp_region_held_then (fun w' : World => w'.cell? ⟨w.heap.size, 0, none⟩ = some (.int .i64 a)) _ (by kernel_rfl) rfl (by kernel_rfl) ?_
      have hHeld : (fun w' : World => w'.cell? ⟨w.heap.size, 0, none⟩ = some (.int .i64 a)) wr.drew := l0
      dsimp only [List.dropLast, List.length, List.getLast]
      ((refine takeL 0 (v := ?_) rfl (by kernel_rfl) (by kernel_rfl) (by kernel_rfl) (fun _ _ _ h => h) (by rfl) hHeld ?_ ?_; rotate_left; focus (intro w hSw; (try dsimp only at hSw); go_simp <;> with_reducible rfl); (try simp only [Act.put, List.setIfInBounds_toArray, List.set_cons_zero, List.set_cons_succ])); (refine takeL 1 (v := ?_) rfl (by kernel_rfl) (by kernel_rfl) (by kernel_rfl) (fun _ _ _ h => h) (by rfl) hHeld ?_ ?_; rotate_left; focus (intro w hSw; (try dsimp only at hSw); go_simp <;> with_reducible rfl); (try simp only [Act.put, List.setIfInBounds_toArray, List.set_cons_zero, List.set_cons_succ])); (refine takeL 2 (v := ?_) rfl (by kernel_rfl) (by kernel_rfl) (by kernel_rfl) (fun _ _ _ h => h) (by rfl) hHeld ?_ ?_; rotate_left; focus (intro w hSw; (try dsimp only at hSw); go_simp <;> with_reducible rfl); (try simp only [Act.put, List.setIfInBounds_toArray, List.set_cons_zero, List.set_cons_succ])); (refine takeL 3 (v := ?_) rfl (by kernel_rfl) (by kernel_rfl) (by kernel_rfl) (fun _ _ _ h => h) (by rfl) hHeld ?_ ?_; rotate_left; focus (intro w hSw; (try dsimp only at hSw); go_simp <;> with_reducible rfl); (try simp only [Act.put, List.setIfInBounds_toArray, List.set_cons_zero, List.set_cons_succ])))
      dsimp only [Act.put]
      simp only [List.setIfInBounds_toArray, List.set_cons_zero, List.set_cons_succ]
      ((refine takeL 4 (v := ?_) rfl (by kernel_rfl) (by kernel_rfl) (by kernel_rfl) (fun _ _ _ h => h) (by rfl) hHeld ?_ ?_; rotate_left; focus (intro w hSw; (try dsimp only at hSw); go_simp <;> with_reducible rfl); (try simp only [Act.put, List.setIfInBounds_toArray, List.set_cons_zero, List.set_cons_succ])); (refine takeL 5 (v := ?_) rfl (by kernel_rfl) (by kernel_rfl) (by kernel_rfl) (fun _ _ _ h => h) (by rfl) hHeld ?_ ?_; rotate_left; focus (intro w hSw; (try dsimp only at hSw); go_simp <;> with_reducible rfl); (try simp only [Act.put, List.setIfInBounds_toArray, List.set_cons_zero, List.set_cons_succ])); (refine takeL 6 (v := ?_) rfl (by kernel_rfl) (by kernel_rfl) (by kernel_rfl) (fun _ _ _ h => h) (by rfl) hHeld ?_ ?_; rotate_left; focus (intro w hSw; (try dsimp only at hSw); go_simp <;> with_reducible rfl); (try simp only [Act.put, List.setIfInBounds_toArray, List.set_cons_zero, List.set_cons_succ])))
      dsimp only [Act.put]
      simp only [List.setIfInBounds_toArray, List.set_cons_zero, List.set_cons_succ]
      refine callL 7 (f := g) (vs := #[.int .i64 k] ++ caps) rfl (by kernel_rfl) (by rfl) (by go_simp) ?_
      refine cc.mono ?_
      rintro e w2 ⟨rfl, b2⟩
      have b2' : Below wr.heap.size wr w2 := (Below.refl _ wr).drew.trans b2
      have D2 := HK.out.2.dev.below b2'
      have T2 := HK.out.2.trn.of_below b2'
      have X2 := HK.out.1.over b2'
      have hHeld2 : (fun w' : World => w'.cell? ⟨w.heap.size, 0, none⟩ = some (.int .i64 a)) w2 := X2.cell 0 _ rfl
      have hx := HX.out
      have cw := qdw_any D2 (a + k) b (by rw [HK.out.2.sure]; omega) HBB.out.2 (by have := HK.out.2.wait; omega)
      rw [show ((a + k : Nat) : Int) = (a : Int) + (k : Int) by omega, HP2.out] at cw
      have HK2 : Hid (Box w2 w.heap.size 32 #[.int .i64 a, .int .i64 c] ∧ Turned H H' wA w2) := ⟨X2, T2⟩
      have hno : ¬ H'.foot w.heap.size := fun h => by
        rcases T2.foot _ h with h1 | h1
        · have := HFar.out _ h1; omega
        · have := HA.out.2.1; omega
      have HNO : Hid (¬ H'.foot w.heap.size) := hno
      have hpd : putAll s' (a + k) (bl.drop k) = if s'.goes then putAll (s'.write (a + k) b) (a + (k + 1)) (bl.drop (k + 1)) else (s'.burnt, 40) := by
        rw [List.drop_eq_getElem_cons (by omega), putAll_cons]
        have e1 : bl[k]'(by omega) = b := by
          have := HBB.out.1
          rw [List.getElem?_eq_getElem (by omega)] at this
          exact Option.some.inj this
        rw [e1, show a + k + 1 = a + (k + 1) by omega]
      rw [HK.out.2.put] at hpd
      obtain ⟨S, hS⟩ : ∃ S, S = strB b := ⟨_, rfl⟩
      rw [← hS] at cw ⊢
      cases hg : s'.goes with
      | true =>
        rw [hg] at cw hpd
        simp only [if_true] at cw hpd
        have HPD : Hid (putAll s a bl = putAll (s'.write (a + k) b) (a + (k + 1)) (bl.drop (k + 1))) := hpd
        clear hpd hno hx b2 b2' D2 T2 X2 hS cc l0 hHeld hg
        refine ⟨_, rfl, hHeld2, ?_⟩
        try dsimp only [Act.put]
        try simp only [List.setIfInBounds_toArray, List.set_cons_zero, List.set_cons_succ]
        refine callL 8 (f := 29) (vs := #[.pointer (some ⟨p, 0, none⟩), .int .i64 ((a : Int) + (k : Int)), .string S]) rfl (by kernel_rfl) (by rfl) (by go_simp) ?_
        refine Calls.mono cw ?_
        rintro e w3 ⟨H3, rfl, D3, T3⟩
        have X3 := HK2.out.1.kept T3.kept HNO.out
        have hHeld3 : (fun w' : World => w'.cell? ⟨w.heap.size, 0, none⟩ = some (.int .i64 a)) w3 := X3.cell 0 _ rfl
        have HK3 : Hid (Box w3 w.heap.size 32 #[.int .i64 a, .int .i64 c] ∧ Wrg H H3 s (s'.write (a + k) b) a bl (k + 1) wA w3) := ⟨X3, D3, HK2.out.2.trans T3, HPD.out.symm, HK.out.2.sure, by
          show (s'.wait ++ [(a + k, b)]).length ≤ _
          rw [List.length_append]
          have := HK.out.2.wait
          simp
          omega⟩
        clear X3 D3 T3 cw hHeld2 HK2
        refine ⟨_, rfl, hHeld3, ?_⟩
        refine doneL (by kernel_rfl) ?_
        try dsimp only [Act.put]
        unfold Oper.wp
        clear hHeld3
        go_simp
        go_wp2_with fail
        go_roundg (c - (k + 1))
        case measure => omega
        case rel => exact ⟨k + 1, H3, _, by omega, by go_num, HK3.out⟩
      | false =>
        rw [hg] at cw hpd
        simp only [Bool.false_eq_true, if_false] at cw hpd
        have HPD : Hid (putAll s a bl = (s'.burnt, 40)) := hpd
        clear hpd hno hx b2 b2' D2 T2 X2 hS cc l0 hHeld hg
        refine ⟨_, rfl, hHeld2, ?_⟩
        try dsimp only [Act.put]
        try simp only [List.setIfInBounds_toArray, List.set_cons_zero, List.set_cons_succ]
        refine callL 8 (f := 29) (vs := #[.pointer (some ⟨p, 0, none⟩), .int .i64 ((a : Int) + (k : Int)), .string S]) rfl (by kernel_rfl) (by rfl) (by go_simp) ?_
        refine Calls.mono cw ?_
        rintro e w3 ⟨H3, rfl, D3, T3⟩
        have X3 := HK2.out.1.kept T3.kept HNO.out
        have hHeld3 : (fun w' : World => w'.cell? ⟨w.heap.size, 0, none⟩ = some (.int .i64 a)) w3 := X3.cell 0 _ rfl
        have HK3 : Hid (DevIs w3 H3 s'.burnt ∧ Turned H H3 w w3) := ⟨D3, HA.out.2.2.trans (HK2.out.2.trans T3)⟩
        clear X3 D3 T3 cw hHeld2 HK2
        refine ⟨_, rfl, hHeld3, ?_⟩
        refine doneL (by kernel_rfl) ?_
        try dsimp only [Act.put]
        unfold Oper.wp
        clear hHeld3
        go_simp
        go_wp2_with fail
        go_ret
        exact ⟨H3, by rw [HPD.out]; rfl, by rw [HPD.out]; exact HK3.out.1, HK3.out.2⟩
    · have hkI : ¬ (k : Int) < c := by omega
      have hk5 : k = c := by omega
      subst hk5
      have cs := qds_any hW.dev
      have hpd := hW.put
      rw [List.drop_of_length_le (by have := HX.out.1; omega), putAll_nil] at hpd
      rw [hpd, hp2] at cs
      have HK : Hid (Turned H H' wA wr) := hW.trn
      obtain ⟨R, hR⟩ : ∃ R, R = putAll s a bl := ⟨_, rfl⟩
      rw [← hR] at cs ⊢
      obtain ⟨R1, R2⟩ := R
      have HRR : Hid (putAll s a bl = (R1, R2)) := hR.symm
      clear hW hB hp2 hpd hR
      go_wp2_with fail
      refine Calls.mono cs ?_
      rintro e w2 ⟨H2, rfl, D2, T2⟩
      have HK2 : Hid (DevIs w2 H2 R1 ∧ Turned H H2 w w2) := ⟨D2, HA.out.2.2.trans (HK.out.trans T2)⟩
      clear D2 T2
      simp only
      go_wp2_with fail
      go_ret
      exact ⟨H2, by rw [HRR.out]; rfl, by rw [HRR.out]; exact HK2.out.1, HK2.out.2⟩
end Go.Proofs.YthcjjcfiademnaaDoor
/-
  The contract of package slots' Lay.
-/
namespace Go.Proofs.YthcjjcfiademnaaDoor
open Go.RowKit Leb

theorem drop_min (t : List UInt8) (k m : Nat) (hm : m = min k t.length) : t.drop m = t.drop k := by
  rcases Nat.le_total k t.length with h | h
  · rw [hm, Nat.min_eq_left h]
  · rw [hm, Nat.min_eq_right h, List.drop_of_length_le (Nat.le_refl _), List.drop_of_length_le h]
set_option maxRecDepth 4000 in
set_option maxHeartbeats 1000000 in
theorem lay1_any (b : Nat) (t : List UInt8) (k : Nat) (hk : k ≤ 4096) (w : World) (hc : w.cell? ⟨b, 0, none⟩ = some (.string (strB t))) :
    Calls Tryd.prog 18 #[.int .i64 k, .pointer (some ⟨b, 0, none⟩)] w fun e w' => e = .returned (.string (strB (fillL (t.drop (128 * k))))) ∧ Below w.heap.size w w' := by
  obtain ⟨m, hm⟩ : ∃ m, m = min (128 * k) t.length := ⟨_, rfl⟩
  have hdm := drop_min t (128 * k) m hm
  have cf := fun w => qfilled_any (t.drop (128 * k)) w
  have hex : (strB t).extract m (strB t).size = strB (t.drop (128 * k)) := by rw [rest_cut, hdm]
  have hz : (strB t).size = t.length := rfl
  obtain ⟨F, hF⟩ : ∃ F, F = strB (fillL (t.drop (128 * k))) := ⟨_, rfl⟩
  rw [← hF] at cf ⊢
  obtain ⟨E, hE⟩ : ∃ E, E = strB (t.drop (128 * k)) := ⟨_, rfl⟩
  rw [← hE] at cf hex
  obtain ⟨S, hS⟩ : ∃ S, S = strB t := ⟨_, rfl⟩
  rw [← hS] at hex hz hc
  obtain ⟨n, hn⟩ : ∃ n, n = t.length := ⟨_, rfl⟩
  rw [← hn] at hm hz
  have r1 : IntKind.i64.wrap ((k : Int) * 128) = (k : Int) * 128 := by rw [IntKind.wrap_i64]; omega
  have hmin : min ((k : Int) * 128) (S.size : Int) = (m : Int) := by omega
  have hbd : 0 ≤ (m : Int) ∧ (m : Int) ≤ (S.size : Int) := by omega
  have hkI : (k : Int) ≤ 4096 := by omega
  clear hF hE hS hn hm hdm hz
  go_enter Tryd.func18, Tryd.ntmps18
  go_wp2_with fail
  refine (cf _).mono ?_
  rintro e w1 ⟨rfl, b1⟩
  go_wp2_with fail
  go_ret
  exact ⟨rfl, b1⟩
set_option maxRecDepth 4000 in
set_option maxHeartbeats 1000000 in
theorem lay2_any (a b c : Nat) (f n turn : BitVec 64) (t : List UInt8) (ht : t.length ≤ 1000000) (k : Int) (w : World) (ha0 : w.cell? ⟨a, 0, none⟩ = some (.int .i64 f.toInt)) (ha1 : w.cell? ⟨a, 1, none⟩ = some (.int .i64 n.toInt)) (hb : w.cell? ⟨b, 0, none⟩ = some (.int .i64 turn.toInt)) (hc : w.cell? ⟨c, 0, none⟩ = some (.string (strB t))) :
    Calls Tryd.prog 20 #[.int .i64 k, .pointer (some ⟨a, 0, none⟩), .pointer (some ⟨b, 0, none⟩), .pointer (some ⟨c, 0, none⟩)] w fun e w' => e = .returned (.string (strB (slotB ⟨turn, f, n, BitVec.ofNat 64 t.length, BitVec.ofNat 64 (Crc.sum t).toNat⟩))) ∧ Below w.heap.size w w' := by
  have cs := fun w => qslot_any f n turn t ht w
  obtain ⟨R, hR⟩ : ∃ R, R = strB (slotB ⟨turn, f, n, BitVec.ofNat 64 t.length, BitVec.ofNat 64 (Crc.sum t).toNat⟩) := ⟨_, rfl⟩
  rw [← hR] at cs ⊢
  obtain ⟨x, hx⟩ : ∃ x, x = f.toInt := ⟨_, rfl⟩
  obtain ⟨y, hy⟩ : ∃ y, y = n.toInt := ⟨_, rfl⟩
  obtain ⟨z, hz⟩ : ∃ z, z = turn.toInt := ⟨_, rfl⟩
  obtain ⟨S, hS⟩ : ∃ S, S = strB t := ⟨_, rfl⟩
  rw [← hx, ← hy, ← hz, ← hS] at cs
  rw [← hx] at ha0
  rw [← hy] at ha1
  rw [← hz] at hb
  rw [← hS] at hc
  clear hR hx hy hz hS ht
  go_enter Tryd.func20, Tryd.ntmps20
  go_wp2_with fail
  refine (cs _).mono ?_
  rintro e w1 ⟨rfl, b1⟩
  go_wp2_with fail
  go_ret
  exact ⟨rfl, b1⟩

/-- What Lay does. -/
def layS (s : St) (f c : Nat) (d : Sd) (tp : Nat) (t : List UInt8) : St × Int :=
  if (putAll s f (exts c t)).2 = 0 then putAll (putAll s f (exts c t)).1 tp [slotB d] else putAll s f (exts c t)
def sdOf (f c turn : BitVec 64) (t : List UInt8) : Sd := ⟨turn, f, c, BitVec.ofNat 64 t.length, BitVec.ofNat 64 (Crc.sum t).toNat⟩
theorem eg1 : ∀ args w, (callFunc 18 args).run Tryd.prog w = .ok (.enter 18 args) w := enters_of Tryd.func18 (by kernel_rfl) rfl
theorem eg2 : ∀ args w, (callFunc 20 args).run Tryd.prog w = .ok (.enter 20 args) w := enters_of Tryd.func20 (by kernel_rfl) rfl
/-- The boxes that Lay's closures look into. -/
structure Cap (w : World) (a : Nat) (f c z : Int) (S : ByteArray) : Prop where
  e : Box w a 32 #[.int .i64 f, .int .i64 c]
  t : Box w (a + 1) 3 #[.int .i64 z]
  s : Box w (a + 2) 9 #[.string S]
theorem Cap.kept {w w' : World} {a : Nat} {f c z : Int} {S : ByteArray} (h : Cap w a f c z S) {F : Nat → Prop} (k : Kept F w w') (hF : ∀ x, F x → x < a ∨ a + 3 ≤ x) : Cap w' a f c z S :=
  ⟨h.e.kept k (fun h => by have := hF _ h; omega), h.t.kept k (fun h => by have := hF _ h; omega), h.s.kept k (fun h => by have := hF _ h; omega)⟩
theorem Cap.over {w w' : World} {a : Nat} {f c z : Int} {S : ByteArray} (h : Cap w a f c z S) (b : Below w.heap.size w w') : Cap w' a f c z S := ⟨h.e.over b, h.t.over b, h.s.over b⟩
theorem cap_new (w : World) (f c z : Int) (S : ByteArray) : Cap (((w.alloc (.cells #[.int .i64 f, .int .i64 c] 32)).alloc (.cells #[.int .i64 z] 3)).alloc (.cells #[.string S] 9)) w.heap.size f c z S ∧ Below w.heap.size w (((w.alloc (.cells #[.int .i64 f, .int .i64 c] 32)).alloc (.cells #[.int .i64 z] 3)).alloc (.cells #[.string S] 9)) := by
  have h1 := box_new (w.alloc (.cells #[.int .i64 f, .int .i64 c] 32)) #[.int .i64 z] 3
  have h2 := box_new ((w.alloc (.cells #[.int .i64 f, .int .i64 c] 32)).alloc (.cells #[.int .i64 z] 3)) #[.string S] 9
  rw [World.size_alloc] at h1 h2
  rw [World.size_alloc] at h2
  exact ⟨⟨(box_old w _ _ _).alloc _, h1.alloc _, h2⟩, (below2 w _ _).alloc (by simp; omega) _⟩
set_option maxRecDepth 4000 in
set_option maxHeartbeats 2000000 in
theorem qlay_any {w : World} {H : Hnd} {s : St} (D : DevIs w H s) (f c : Nat) (h2 : 2 ≤ f) (hc1 : 1 ≤ c) (hfc : f + c ≤ s.sure.length) (turn : BitVec 64) (t1 : 1 ≤ turn.toInt) (t2 : turn.toInt ≤ 4294967296) (tp : Nat) (htp : turn.toInt % 2 = (tp : Int)) (t : List UInt8) (ht : t.length ≤ 128 * c) (hwl : s.wait.length ≤ 700000) :
    Calls Tryd.prog 8 #[.pointer (some ⟨H.p, 0, none⟩), .agg #[.int .i64 f, .int .i64 c], .int .i64 turn.toInt, .string (strB t)] w (PutAns H (layS s f c (sdOf (BitVec.ofNat 64 f) (BitVec.ofNat 64 c) turn t) tp t) w) := by
  have hn := D.top
  have hpos := D.pos
  have htl : t.length ≤ 1000000 := by omega
  obtain ⟨hcap, bcap⟩ := cap_new w f c turn.toInt (strB t)
  have D1 := D.below bcap
  have ef : (BitVec.ofNat 64 f).toInt = (f : Int) := ofNat_toInt (by omega)
  have ec : (BitVec.ofNat 64 c).toInt = (c : Int) := ofNat_toInt (by omega)
  obtain ⟨d, hd⟩ : ∃ d, d = sdOf (BitVec.ofNat 64 f) (BitVec.ofNat 64 c) turn t := ⟨_, rfl⟩
  rw [← hd]
  have hfoot : ∀ x, H.foot x → x < w.heap.size := fun x hx => D.lt hx
  have hw1 : ∀ (w' : World), Cap w' w.heap.size f c turn.toInt (strB t) → DevIs w' H s → Calls Tryd.prog 17 #[.pointer (some ⟨H.p, 0, none⟩), .agg #[.int .i64 f, .int .i64 c], .func (.func 18) #[] #[.pointer (some ⟨w.heap.size + 2, 0, none⟩)]] w' (PutAns H (putAll s f (exts c t)) w') := by
    intro w' C' D'
    refine qwrite_any D' f c (exts c t) (exts_len c t) exts_mem hfc (by omega) _ _ eg1 ?_
    intro k b w'' hb hk
    have hkc : k < c := by
      have := (List.getElem?_eq_some_iff.1 hb).1
      rwa [exts_len] at this
    rw [exts_get t hkc] at hb
    cases hb
    exact lay1_any (w.heap.size + 2) t k (by omega) w'' ((C'.kept hk (fun x hx => .inl (hfoot x hx))).s.cell 0 _ rfl)
  have hw2 : ∀ (w' : World) (H' : Hnd) (s' : St), H'.p = H.p → (∀ x, H'.foot x → x < w.heap.size ∨ w.heap.size + 3 ≤ x) → s'.sure.length = s.sure.length → s'.wait = [] → Cap w' w.heap.size f c turn.toInt (strB t) → DevIs w' H' s' → Calls Tryd.prog 17 #[.pointer (some ⟨H.p, 0, none⟩), .agg #[.int .i64 tp, .int .i64 1], .func (.func 20) #[] #[.pointer (some ⟨w.heap.size, 0, none⟩), .pointer (some ⟨w.heap.size + 1, 0, none⟩), .pointer (some ⟨w.heap.size + 2, 0, none⟩)]] w' (PutAns H' (putAll s' tp [slotB d]) w') := by
    intro w' H' s' hp hF hs hwt C' D'
    rw [← hp]
    refine qwrite_any D' tp 1 [slotB d] rfl (by intro b hb; simp at hb; subst hb; exact slotB_len d) (by rw [hs]; omega) (by rw [hwt]; simp) _ _ eg2 ?_
    intro k b w'' hb hk
    have hk0 : k = 0 := by
      have := (List.getElem?_eq_some_iff.1 hb).1
      simpa using this
    subst hk0
    simp at hb
    subst hb
    have C2 := C'.kept hk hF
    rw [hd]
    exact lay2_any _ _ _ (BitVec.ofNat 64 f) (BitVec.ofNat 64 c) turn t htl _ w'' (by rw [ef]; exact C2.e.cell 0 _ rfl) (by rw [ec]; exact C2.e.cell 1 _ rfl) (C2.t.cell 0 _ rfl) (C2.s.cell 0 _ rfl)
  have HW1 : Hid (∀ (w' : World), Cap w' w.heap.size f c turn.toInt (strB t) → DevIs w' H s → Calls Tryd.prog 17 #[.pointer (some ⟨H.p, 0, none⟩), .agg #[.int .i64 f, .int .i64 c], .func (.func 18) #[] #[.pointer (some ⟨w.heap.size + 2, 0, none⟩)]] w' (PutAns H (putAll s f (exts c t)) w')) := hw1
  have HW2 : Hid (∀ (w' : World) (H' : Hnd) (s' : St), H'.p = H.p → (∀ x, H'.foot x → x < w.heap.size ∨ w.heap.size + 3 ≤ x) → s'.sure.length = s.sure.length → s'.wait = [] → Cap w' w.heap.size f c turn.toInt (strB t) → DevIs w' H' s' → Calls Tryd.prog 17 #[.pointer (some ⟨H.p, 0, none⟩), .agg #[.int .i64 tp, .int .i64 1], .func (.func 20) #[] #[.pointer (some ⟨w.heap.size, 0, none⟩), .pointer (some ⟨w.heap.size + 1, 0, none⟩), .pointer (some ⟨w.heap.size + 2, 0, none⟩)]] w' (PutAns H' (putAll s' tp [slotB d]) w')) := hw2
  clear hw1 hw2
  have hsp := putAll_spec (exts c t) s f
  obtain ⟨R, hR⟩ : ∃ R, R = putAll s f (exts c t) := ⟨_, rfl⟩
  rw [← hR] at hsp HW1
  have HR : Hid (layS s f c d tp t = if R.2 = 0 then putAll R.1 tp [slotB d] else R) := by
    show _ = _
    rw [hR]
    rfl
  have hsp2 : (R.2 = 0 ∧ R.1.sure.length = s.sure.length ∧ R.1.wait = []) ∨ R.2 = 40 := by
    rcases hsp with ⟨e1, e2, e3, _⟩ | ⟨e1, _⟩
    · left
      refine ⟨e1, ?_, e3⟩
      rw [e2, lay_len]
    · exact .inr e1
  clear hsp hR
  obtain ⟨R1, R2⟩ := R
  simp only at hsp2 HR
  have hz : (strB t).size = t.length := rfl
  obtain ⟨z, hzz⟩ : ∃ z, z = turn.toInt := ⟨_, rfl⟩
  obtain ⟨S, hS⟩ : ∃ S, S = strB t := ⟨_, rfl⟩
  rw [← hzz] at t1 t2 htp hcap D1 bcap HW1 HW2 ⊢
  rw [← hS] at hz hcap D1 bcap HW1 HW2 ⊢
  obtain ⟨p, hp⟩ : ∃ p, p = H.p := ⟨_, rfl⟩
  have HP : Hid (p = H.p) := hp
  have ct : ∀ k : Above (((w.alloc (.cells #[.int .i64 f, .int .i64 c] 32)).alloc (.cells #[.int .i64 z] 3)).alloc (.cells #[.string S] 9)), Calls Tryd.prog 14 #[.int .i64 z] k.it fun e w' => e = .returned (.bool true) ∧ w' = k.it := fun k => qturn_yes z t1 t2 _
  have ch : ∀ k : Above (((w.alloc (.cells #[.int .i64 f, .int .i64 c] 32)).alloc (.cells #[.int .i64 z] 3)).alloc (.cells #[.string S] 9)), Calls Tryd.prog 15 #[.pointer (some ⟨H.p, 0, none⟩), .agg #[.int .i64 f, .int .i64 c]] k.it fun e w' => e = .returned (.bool true) ∧ Below k.it.heap.size k.it w' := fun k => qhas_yes (D1.below k.is) f c (by omega) (by omega) (by omega)
  have cr : ∀ k : Above (((w.alloc (.cells #[.int .i64 f, .int .i64 c] 32)).alloc (.cells #[.int .i64 z] 3)).alloc (.cells #[.string S] 9)), Calls Tryd.prog 16 #[.agg #[.int .i64 f, .int .i64 c]] k.it fun e w' => e = .returned (.int .i64 ((c : Int) * 128)) ∧ Below k.it.heap.size k.it w' := fun k => qroom_any f c (by omega) (by omega) _
  have k0 : ∀ k : Above (((w.alloc (.cells #[.int .i64 f, .int .i64 c] 32)).alloc (.cells #[.int .i64 z] 3)).alloc (.cells #[.string S] 9)), k.it.cell? ⟨w.heap.size, 0, none⟩ = some (.int .i64 f) := fun k => (hcap.e.over k.is).cell 0 _ rfl
  have k1 : ∀ k : Above (((w.alloc (.cells #[.int .i64 f, .int .i64 c] 32)).alloc (.cells #[.int .i64 z] 3)).alloc (.cells #[.string S] 9)), k.it.cell? ⟨w.heap.size, 1, none⟩ = some (.int .i64 c) := fun k => (hcap.e.over k.is).cell 1 _ rfl
  have k2 : ∀ k : Above (((w.alloc (.cells #[.int .i64 f, .int .i64 c] 32)).alloc (.cells #[.int .i64 z] 3)).alloc (.cells #[.string S] 9)), k.it.cell? ⟨w.heap.size + 1, 0, none⟩ = some (.int .i64 z) := fun k => (hcap.t.over k.is).cell 0 _ rfl
  have k3 : ∀ k : Above (((w.alloc (.cells #[.int .i64 f, .int .i64 c] 32)).alloc (.cells #[.int .i64 z] 3)).alloc (.cells #[.string S] 9)), k.it.cell? ⟨w.heap.size + 1 + 1, 0, none⟩ = some (.string S) := fun k => (hcap.s.over k.is).cell 0 _ rfl
  rw [← hp] at ch HW1 HW2 ⊢
  have g1 : decide ((c : Int) * 128 < (S.size : Int)) = false := by simp; omega
  have r2 : Int.tmod z 2 = (tp : Int) := by rw [Int.tmod_eq_emod_of_nonneg (by omega), htp]
  have HC : Hid (Unit → Cap _ w.heap.size f c z S ∧ Below w.heap.size w _ ∧ DevIs _ H s) := fun _ => ⟨hcap, bcap, D1⟩
  have HFT : Hid (∀ x, H.foot x → x < w.heap.size) := hfoot
  clear D D1 hcap bcap hp hS hzz hfoot hd ef ec htp t1 t2 hn hpos htl hz hwl
  go_enter Tryd.func8, Tryd.ntmps8
  go_wp2_with fail
  refine wp_region_above (by kernel_rfl) (by kernel_rfl) ?_
  intro hne
  repeat (go_big_quiet_step (first
    | (go_at_call 14; exact above_same (ct _))
    | (go_at_call 15; exact above_of (ch _))
    | (go_at_call 16; exact above_of (cr _))))
  refine wpQuiet_nil ?_
  rintro _ ⟨kq, rfl⟩
  obtain ⟨W, hW⟩ : ∃ W, W = kq.it := ⟨_, rfl⟩
  have C1 : Cap W w.heap.size f c z S ∧ Below w.heap.size w W ∧ DevIs W H s := by
    rw [hW]
    have h := HC.out ()
    exact ⟨h.1.over kq.is, h.2.1.trans (kq.is.mono h.2.1.size), h.2.2.below kq.is⟩
  rw [← hW]
  clear hW k0 k1 k2 k3 ct ch cr HC
  have l0 := C1.1.e.cell 0 (.int .i64 f) rfl
  have l1 := C1.1.e.cell 1 (.int .i64 c) rfl
  have cw := HW1.out W C1.1 C1.2.2
  have H1 : Hid (Cap W w.heap.size f c z S ∧ Below w.heap.size w W ∧ w.heap.size + 3 ≤ W.heap.size) := ⟨C1.1, C1.2.1, by have := C1.1.s.lt; omega⟩
  clear C1
  go_wp2_with fail
  refine Calls.mono cw ?_
  rintro e w2 ⟨H2, rfl, D2, T2⟩
  have hF2 : ∀ x, H2.foot x → x < w.heap.size ∨ w.heap.size + 3 ≤ x := fun x hx => by
    rcases T2.foot x hx with h | h
    · exact .inl (HFT.out x h)
    · have := H1.out.2.2; right; omega
  have C2 := H1.out.1.kept T2.kept (fun x hx => .inl (HFT.out x hx))
  have T0 : Turned H H2 w w2 := ((Turned.refl H w).of_below H1.out.2.1).trans T2
  simp only
  rcases hsp2 with ⟨e1, e2, e3⟩ | e1
  · subst e1
    have cw2 := HW2.out w2 H2 R1 (by rw [HP.out]; exact T2.p) hF2 e2 e3 C2 D2
    have m0 := C2.t.cell 0 (.int .i64 z) rfl
    have HT : Hid (Turned H H2 w w2 ∧ layS s f c d tp t = putAll R1 tp [slotB d]) := ⟨T0, by have := HR.out; simpa using this⟩
    obtain ⟨Q, hQ⟩ : ∃ Q, Q = putAll R1 tp [slotB d] := ⟨_, rfl⟩
    rw [← hQ] at cw2 HT
    obtain ⟨Q1, Q2⟩ := Q
    clear C2 D2 T2 T0 hF2 e2 e3 cw l0 l1 hQ HR
    go_wp2_with fail
    refine Calls.mono cw2 ?_
    rintro e w3 ⟨H3, rfl, D3, T3⟩
    have HD : Hid (DevIs w3 H3 Q1 ∧ Turned H H3 w w3) := ⟨D3, HT.out.1.trans T3⟩
    clear D3 T3 cw2
    simp only
    go_wp2_with fail
    go_ret
    exact ⟨H3, by rw [HT.out.2]; rfl, by rw [HT.out.2]; exact HD.out.1, HD.out.2⟩
  · subst e1
    have HT : Hid (DevIs w2 H2 R1 ∧ Turned H H2 w w2 ∧ layS s f c d tp t = (R1, 40)) := ⟨D2, T0, by have := HR.out; simpa using this⟩
    clear C2 D2 T2 T0 hF2 cw l0 l1 HR
    go_wp2_with fail
    go_ret
    exact ⟨H2, by rw [HT.out.2.2]; rfl, by rw [HT.out.2.2]; exact HT.out.1, HT.out.2.1⟩
end Go.Proofs.YthcjjcfiademnaaDoor
/-
  What laying leaves of the blocks, whether done or broken off, and which slot is read then: pure mathematics. And law 24's sequence of texts, laid in two extents in turn.
-/
namespace Go.Proofs.YthcjjcfiademnaaDoor
open Leb

theorem sum_small (t : List UInt8) : (BitVec.ofNat 64 (Crc.sum t).toNat).toInt = ((Crc.sum t).toNat : Int) ∧ (Crc.sum t).toNat < 4294967296 :=
  ⟨ofNat_toInt (by have := (Crc.sum t).isLt; omega), (Crc.sum t).isLt⟩
theorem bel_of {n place f c k : Nat} {t : List UInt8} (hk : 1 ≤ k) (hk2 : k ≤ 4294967296) (hp : k % 2 = place) (hf : 2 ≤ f) (hc : 1 ≤ c) (hfc : f + c ≤ n) (hn : n ≤ 4096) (ht : t.length ≤ 128 * c) : Bel n place (sdOf (BitVec.ofNat 64 f) (BitVec.ofNat 64 c) (BitVec.ofNat 64 k) t) := by
  obtain ⟨h1, h2⟩ := sum_small t
  have ek : (BitVec.ofNat 64 k).toInt = (k : Int) := ofNat_toInt (by omega)
  have ef : (BitVec.ofNat 64 f).toInt = (f : Int) := ofNat_toInt (by omega)
  have ec : (BitVec.ofNat 64 c).toInt = (c : Int) := ofNat_toInt (by omega)
  have et : (BitVec.ofNat 64 t.length).toInt = (t.length : Int) := ofNat_toInt (by omega)
  refine ⟨?_, ?_, ?_, ?_, ?_, ?_, ?_, ?_, ?_, ?_⟩ <;> simp only [sdOf, ek, ef, ec, et, h1] <;> omega
theorem lies_of {S : List (List UInt8)} {f c : Nat} {turn : BitVec 64} {t : List UInt8} (hfit : t.length ≤ 128 * c) (h4 : f + c ≤ 4096) (hb : ∀ k, k < c → S[f + k]? = some (fillL (t.drop (128 * k)))) : Lies S (sdOf (BitVec.ofNat 64 f) (BitVec.ofNat 64 c) turn t) f c t :=
  ⟨rfl, rfl, rfl, rfl, hfit, h4, hb⟩
/-- Writes in an extent: blocks beside it stay. -/
theorem ext_other {S : List (List UInt8)} {f c : Nat} {t : List UInt8} (ws : List (Nat × List UInt8)) (hw : ∀ x ∈ ws, x ∈ wrs f (exts c t)) {k : Nat} (hk : k < f ∨ f + c ≤ k) : (lay S ws)[k]? = S[k]? := by
  apply lay_other
  intro x hx
  obtain ⟨i, h1, h2⟩ := wrs_mem _ _ x (hw x hx)
  have := (List.getElem?_eq_some_iff.1 h2).1
  rw [exts_len] at this
  omega
theorem ext_at {S : List (List UInt8)} {f c : Nat} {t : List UInt8} (h : f + c ≤ S.length) {k : Nat} (hk : k < c) : (lay S (wrs f (exts c t)))[f + k]? = some (fillL (t.drop (128 * k))) :=
  lay_wrs _ _ _ _ _ (exts_get t hk) (by rw [exts_len]; exact h)
theorem one_other {S : List (List UInt8)} {tp : Nat} {b : List UInt8} (ws : List (Nat × List UInt8)) (hw : ∀ x ∈ ws, x = (tp, b)) {k : Nat} (hk : k ≠ tp) : (lay S ws)[k]? = S[k]? := by
  apply lay_other
  intro x hx
  rw [hw x hx]
  exact fun e => hk e.symm
theorem one_at {tp : Nat} {b : List UInt8} : ∀ (ws : List (Nat × List UInt8)) {S : List (List UInt8)}, (∀ x ∈ ws, x = (tp, b)) → ws ≠ [] → tp < S.length → (lay S ws)[tp]? = some b
  | [], _, _, h, _ => absurd rfl h
  | x :: r, S, hw, _, hl => by
    rw [lay_cons]
    by_cases hr : r = []
    · subst hr
      rw [hw x (by simp)]
      show (S.set tp b)[tp]? = some b
      rw [List.getElem?_set_self hl]
    · exact one_at r (fun y hy => hw y (by simp [hy])) hr (by simpa using hl)

/-! ### Law 24's texts -/
def fI (i : Nat) : Nat := 2 + i % 2 * 8
def slI (l : List (List UInt8)) : Nat → Option Sd
  | 0 => none
  | j + 1 => some (sdOf (BitVec.ofNat 64 (fI j)) (BitVec.ofNat 64 8) (BitVec.ofNat 64 (j + 1)) (l.getD j []))
/-- Behind i of them. -/
structure Inv (S : List (List UInt8)) (l : List (List UInt8)) (i : Nat) : Prop where
  len : S.length = 20
  a : S[i % 2]? = some (blkO (slI l i))
  b : S[(i + 1) % 2]? = some (blkO (slI l (i - 1)))
  e : ∀ j, i = j + 1 → ∀ k, k < 8 → S[fI j + k]? = some (fillL ((l.getD j []).drop (128 * k)))
theorem inv_new (l : List (List UInt8)) : Inv (List.replicate 20 zeros) l 0 :=
  ⟨rfl, rfl, rfl, fun j h => by omega⟩
/-- Which slots these are. -/
def oEven (l : List (List UInt8)) (i : Nat) : Option Sd := if i % 2 = 0 then slI l i else slI l (i - 1)
def oOdd (l : List (List UInt8)) (i : Nat) : Option Sd := if i % 2 = 0 then slI l (i - 1) else slI l i
section
variable {S : List (List UInt8)} {l : List (List UInt8)} {i : Nat}
theorem slI_bel (hl : ∀ j, j < i → (l.getD j []).length ≤ 512) (hi : i ≤ 100) : BelO 20 (i % 2) (slI l i) := by
  cases i with
  | zero => trivial
  | succ j =>
    have ht : (l.getD j []).length ≤ 512 := hl j (by omega)
    exact bel_of (by omega) (by omega) rfl (by unfold fI; omega) (by omega) (by unfold fI; omega) (by omega) (by omega)
theorem slI_prev (hl : ∀ j, j < i → (l.getD j []).length ≤ 512) (hi : i ≤ 100) : BelO 20 ((i + 1) % 2) (slI l (i - 1)) := by
  cases i with
  | zero => trivial
  | succ j =>
    have := slI_bel (i := j) (fun k hk => hl k (by omega)) (by omega)
    rw [show (j + 1 + 1) % 2 = j % 2 by omega]
    exact this
theorem Inv.two (h : Inv S l i) (hl : ∀ j, j < i → (l.getD j []).length ≤ 512) (hi : i ≤ 100) : Two S (oEven l i) (oOdd l i) := by
  have ha := h.a
  have hb := h.b
  have b1 := slI_bel hl hi
  have b2 := slI_prev hl hi
  have hlen := h.len
  by_cases he : i % 2 = 0
  · have e1 : (i + 1) % 2 = 1 := by omega
    rw [he] at ha b1
    rw [e1] at hb b2
    exact ⟨by rw [oEven, if_pos he]; exact ha, by rw [oOdd, if_pos he]; exact hb, by rw [hlen, oEven, if_pos he]; exact b1, by rw [hlen, oOdd, if_pos he]; exact b2, by omega⟩
  · have e0 : i % 2 = 1 := by omega
    have e1 : (i + 1) % 2 = 0 := by omega
    rw [e0] at ha b1
    rw [e1] at hb b2
    exact ⟨by rw [oEven, if_neg he]; exact hb, by rw [oOdd, if_neg he]; exact ha, by rw [hlen, oEven, if_neg he]; exact b2, by rw [hlen, oOdd, if_neg he]; exact b1, by omega⟩
theorem slI_turn (hi : i ≤ 100) : (sdO (slI l i)).turn.toInt = (i : Int) := by
  cases i with
  | zero => rfl
  | succ j => exact ofNat_toInt (by omega)
theorem best_is (hi : i ≤ 100) : best (oEven l i) (oOdd l i) = slI l i := by
  have t1 := slI_turn (l := l) hi
  have t2 := slI_turn (l := l) (i := i - 1) (by omega)
  unfold best oEven oOdd
  by_cases he : i % 2 = 0
  · rw [if_pos he, if_pos he, if_neg (by rw [t1, t2]; omega)]
  · rw [if_neg he, if_neg he, if_pos (by rw [t1, t2]; omega)]
theorem Inv.lies {j : Nat} (h : Inv S l (j + 1)) (ht : (l.getD j []).length ≤ 512) : Lies S (sdOf (BitVec.ofNat 64 (fI j)) (BitVec.ofNat 64 8) (BitVec.ofNat 64 (j + 1)) (l.getD j [])) (fI j) 8 (l.getD j []) := by
  exact lies_of (by omega) (by unfold fI; omega) (h.e j rfl)
/-- Writes in the extent of the next one take nothing. -/
theorem Inv.ext (h : Inv S l i) (ws : List (Nat × List UInt8)) (t : List UInt8) (hw : ∀ x ∈ ws, x ∈ wrs (fI i) (exts 8 t)) : Inv (lay S ws) l i := by
  refine ⟨by rw [lay_len]; exact h.len, ?_, ?_, ?_⟩
  · rw [ext_other ws hw (by unfold fI; omega)]; exact h.a
  · rw [ext_other ws hw (by unfold fI; omega)]; exact h.b
  · intro j hj k hk
    rw [ext_other ws hw (by unfold fI; omega)]
    exact h.e j hj k hk
/-- The slot of the next one: laid, or not. -/
theorem Inv.slot (h : Inv S l i) (he : ∀ k, k < 8 → S[fI i + k]? = some (fillL ((l.getD i []).drop (128 * k)))) (ws : List (Nat × List UInt8)) (hw : ∀ x ∈ ws, x = ((i + 1) % 2, blkO (slI l (i + 1)))) (hne : ws ≠ []) : Inv (lay S ws) l (i + 1) := by
  refine ⟨by rw [lay_len]; exact h.len, one_at ws hw hne (by rw [h.len]; omega), ?_, ?_⟩
  · rw [one_other ws hw (by omega), show (i + 1 + 1) % 2 = i % 2 by omega]
    exact h.a
  · intro j hj k hk
    obtain rfl : j = i := by omega
    rw [one_other ws hw (by unfold fI; omega)]
    exact he k hk
end
theorem keep_one {g : Nat → Bool} {k : Nat} {x : Nat × List UInt8} {l : List (Nat × List UInt8)} (hl : l = ([x] : List (Nat × List UInt8)).take k) : ∀ y ∈ keepW g 0 l, y = x := by
  intro y hy
  have h1 := keepW_mem g _ _ y hy
  rw [hl] at h1
  have h2 := List.mem_of_mem_take h1
  simpa using h2
/-- What laying the next one leaves. -/
theorem lay_spec {s : St} {l : List (List UInt8)} {i : Nat} (h : Inv s.sure l i) (hwt : s.wait = []) :
    ((layS s (fI i) 8 (sdO (slI l (i + 1))) ((i + 1) % 2) (l.getD i [])).2 = 0 ∧ Inv (layS s (fI i) 8 (sdO (slI l (i + 1))) ((i + 1) % 2) (l.getD i [])).1.sure l (i + 1) ∧ (layS s (fI i) 8 (sdO (slI l (i + 1))) ((i + 1) % 2) (l.getD i [])).1.wait = [] ∧ (layS s (fI i) 8 (sdO (slI l (i + 1))) ((i + 1) % 2) (l.getD i [])).1.off = false) ∨
    ((layS s (fI i) 8 (sdO (slI l (i + 1))) ((i + 1) % 2) (l.getD i [])).2 = 40 ∧ ∀ g, Inv ((layS s (fI i) 8 (sdO (slI l (i + 1))) ((i + 1) % 2) (l.getD i [])).1.crashed g).sure l i ∨ Inv ((layS s (fI i) 8 (sdO (slI l (i + 1))) ((i + 1) % 2) (l.getD i [])).1.crashed g).sure l (i + 1)) := by
  have h1 := putAll_spec (exts 8 (l.getD i [])) s (fI i)
  rw [hwt] at h1
  simp only [List.nil_append] at h1
  have hsb : slotB (sdO (slI l (i + 1))) = blkO (slI l (i + 1)) := rfl
  rcases h1 with ⟨e1, e2, e3, e4⟩ | ⟨e1, e2, k, e3⟩
  · have hl : layS s (fI i) 8 (sdO (slI l (i + 1))) ((i + 1) % 2) (l.getD i []) = putAll (putAll s (fI i) (exts 8 (l.getD i []))).1 ((i + 1) % 2) [slotB (sdO (slI l (i + 1)))] := by unfold layS; rw [if_pos e1]
    rw [hl]
    have hI : Inv (putAll s (fI i) (exts 8 (l.getD i []))).1.sure l i := by rw [e2]; exact h.ext _ _ (fun x hx => hx)
    have hE : ∀ k, k < 8 → (putAll s (fI i) (exts 8 (l.getD i []))).1.sure[fI i + k]? = some (fillL ((l.getD i []).drop (128 * k))) := fun k hk => by rw [e2]; exact ext_at (by rw [h.len]; unfold fI; omega) hk
    have h2 := putAll_spec [slotB (sdO (slI l (i + 1)))] (putAll s (fI i) (exts 8 (l.getD i []))).1 ((i + 1) % 2)
    rw [e3] at h2
    simp only [List.nil_append] at h2
    have hw1 : wrs ((i + 1) % 2) [slotB (sdO (slI l (i + 1)))] = [((i + 1) % 2, blkO (slI l (i + 1)))] := rfl
    rw [hw1] at h2
    rcases h2 with ⟨f1, f2, f3, f4⟩ | ⟨f1, f2, k, f3⟩
    · refine .inl ⟨f1, ?_, f3, f4⟩
      rw [f2]
      exact hI.slot hE _ (by intro x hx; simpa using hx) (by simp)
    · refine .inr ⟨f1, fun g => ?_⟩
      show Inv (lay _ (keepW g 0 _)) l i ∨ Inv (lay _ (keepW g 0 _)) l (i + 1)
      rw [f2]
      have hk := keep_one (g := g) f3
      by_cases hn : keepW g 0 (putAll (putAll s (fI i) (exts 8 (l.getD i []))).1 ((i + 1) % 2) [slotB (sdO (slI l (i + 1)))]).1.wait = []
      · left
        rw [hn, lay_nil]
        exact hI
      · right
        exact hI.slot hE _ hk hn
  · have hl : layS s (fI i) 8 (sdO (slI l (i + 1))) ((i + 1) % 2) (l.getD i []) = putAll s (fI i) (exts 8 (l.getD i [])) := by unfold layS; rw [if_neg (by rw [e1]; decide)]
    rw [hl]
    refine .inr ⟨e1, fun g => .inl ?_⟩
    show Inv (lay _ (keepW g 0 _)) l i
    rw [e2]
    refine h.ext _ (l.getD i []) (fun x hx => ?_)
    have h3 := keepW_mem g _ _ x hx
    rw [e3] at h3
    exact List.mem_of_mem_take h3

/-! ### Without a fuse -/
theorem free_goes {s : St} (ho : s.off = false) (hf : s.fuse < 0) : s.goes = true := by
  unfold St.goes
  rw [ho]
  simp
  omega
theorem free_burnt {s : St} (ho : s.off = false) (hf : s.fuse < 0) : s.burnt.off = false ∧ s.burnt.fuse < 0 := by
  unfold St.burnt
  simp [ho]
  omega
theorem putAll_free : ∀ (bl : List (List UInt8)) (s : St) (a : Nat), s.off = false → s.fuse < 0 → (putAll s a bl).2 = 0 ∧ (putAll s a bl).1.fuse < 0
  | [], s, a, ho, hf => by
    rw [putAll_nil, if_pos (free_goes ho hf)]
    exact ⟨rfl, (free_burnt ho hf).2⟩
  | b :: r, s, a, ho, hf => by
    rw [putAll_cons, if_pos (free_goes ho hf)]
    exact putAll_free r (s.write a b) (a + 1) (free_burnt ho hf).1 (free_burnt ho hf).2
theorem layS_free {s : St} {f c tp : Nat} {d : Sd} {t : List UInt8} (ho : s.off = false) (hf : s.fuse < 0) (hwt : s.wait = []) :
    (layS s f c d tp t).2 = 0 ∧ (layS s f c d tp t).1.fuse < 0 ∧ (layS s f c d tp t).1.off = false ∧ (layS s f c d tp t).1.wait = [] ∧ (layS s f c d tp t).1.sure = lay (lay s.sure (wrs f (exts c t))) [(tp, slotB d)] := by
  have h1 := putAll_free (exts c t) s f ho hf
  have h2 := putAll_spec (exts c t) s f
  rw [hwt] at h2
  simp only [List.nil_append] at h2
  rcases h2 with ⟨_, e2, e3, e4⟩ | ⟨e1, _⟩
  · have hl : layS s f c d tp t = putAll (putAll s f (exts c t)).1 tp [slotB d] := by unfold layS; rw [if_pos h1.1]
    rw [hl]
    have h3 := putAll_free [slotB d] (putAll s f (exts c t)).1 tp e4 h1.2
    have h4 := putAll_spec [slotB d] (putAll s f (exts c t)).1 tp
    rw [e3] at h4
    simp only [List.nil_append] at h4
    rcases h4 with ⟨_, g2, g3, g4⟩ | ⟨g1, _⟩
    · exact ⟨h3.1, h3.2, g4, g3, by rw [g2, e2]; rfl⟩
    · rw [h3.1] at g1; cases g1
  · rw [h1.1] at e1; cases e1
end Go.Proofs.YthcjjcfiademnaaDoor
/-
  Law 24's awake.
-/
namespace Go.Proofs.YthcjjcfiademnaaDoor
open Go.RowKit Leb

def one3 : List UInt8 := [111, 110, 101]
def two3 : List UInt8 := [116, 119, 111]
def sd1 : Sd := sdOf (BitVec.ofNat 64 2) (BitVec.ofNat 64 2) (BitVec.ofNat 64 1) one3
def sd2 : Sd := sdOf (BitVec.ofNat 64 5) (BitVec.ofNat 64 1) (BitVec.ofNat 64 2) two3
theorem two_new (n : Nat) (h : 2 ≤ n) : Two (List.replicate n zeros) none none := by
  refine ⟨?_, ?_, trivial, trivial, by simpa using h⟩
  · rw [List.getElem?_replicate, if_pos (by omega)]; rfl
  · rw [List.getElem?_replicate, if_pos (by omega)]; rfl
/-- A Lay that nothing breaks off. -/
theorem own_lay {w0 w : World} {p : Nat} {H : Hnd} {s : St} (o : Own w0 w p H s) (ho : s.off = false) (hf : s.fuse < 0) (hwt : s.wait = []) (f c : Nat) (h2 : 2 ≤ f) (hc1 : 1 ≤ c) (hfc : f + c ≤ s.sure.length) (turn : BitVec 64) (t1 : 1 ≤ turn.toInt) (t2 : turn.toInt ≤ 4294967296) (tp : Nat) (htp : turn.toInt % 2 = (tp : Int)) (t : List UInt8) (ht : t.length ≤ 128 * c) :
    Calls Tryd.prog 8 #[.pointer (some ⟨p, 0, none⟩), .agg #[.int .i64 f, .int .i64 c], .int .i64 turn.toInt, .string (strB t)] w fun e w' => ∃ H' s', e = .returned (.int .i64 0) ∧ Own w0 w' p H' s' ∧ s'.off = false ∧ s'.fuse < 0 ∧ s'.wait = [] ∧ s'.sure = lay (lay s.sure (wrs f (exts c t))) [(tp, slotB (sdOf (BitVec.ofNat 64 f) (BitVec.ofNat 64 c) turn t))] := by
  have c0 := qlay_any o.dev f c h2 hc1 hfc turn t1 t2 tp htp t ht (by rw [hwt]; simp)
  rw [o.at_] at c0
  refine Calls.mono c0 ?_
  rintro e w' ⟨H', rfl, D', T'⟩
  obtain ⟨e1, e2, e3, e4, e5⟩ := layS_free (f := f) (c := c) (d := sdOf (BitVec.ofNat 64 f) (BitVec.ofNat 64 c) turn t) (tp := tp) (t := t) ho hf hwt
  exact ⟨H', _, by rw [e1], o.turned D' T', e3, e2, e4, e5⟩
/-- The blocks behind both. -/
def S1 : List (List UInt8) := lay (lay (List.replicate 10 zeros) (wrs 2 (exts 2 one3))) [(1, slotB sd1)]
def S2 : List (List UInt8) := lay (lay S1 (wrs 5 (exts 1 two3))) [(0, slotB sd2)]
theorem S1_len : S1.length = 10 := by unfold S1; rw [lay_len, lay_len]; rfl
theorem S2_len : S2.length = 10 := by unfold S2; rw [lay_len, lay_len]; exact S1_len
theorem S2_two : Two S2 (some sd2) (some sd1) := by
  have h1 : S1[1]? = some (slotB sd1) := one_at _ (by intro x hx; simpa using hx) (by simp) (by rw [lay_len]; decide)
  refine ⟨?_, ?_, ?_, ?_, by rw [S2_len]; omega⟩
  · exact one_at (tp := 0) (b := slotB sd2) _ (by intro x hx; simpa using hx) (by simp) (by rw [lay_len, S1_len]; omega)
  · show S2[1]? = _
    unfold S2
    rw [one_other (tp := 0) (b := slotB sd2) _ (by intro x hx; simpa using hx) (by omega), ext_other (f := 5) (c := 1) (t := two3) _ (fun x hx => hx) (by omega)]
    exact h1
  · rw [S2_len]; exact bel_of (by omega) (by omega) (by omega) (by omega) (by omega) (by omega) (by omega) (by decide)
  · rw [S2_len]; exact bel_of (by omega) (by omega) (by omega) (by omega) (by omega) (by omega) (by omega) (by decide)
theorem S2_best : best (some sd2) (some sd1) = some sd2 := by
  unfold best
  exact if_neg (by decide)
theorem S2_lies : Lies S2 sd2 5 1 two3 := by
  refine lies_of (by decide) (by omega) (fun k hk => ?_)
  unfold S2
  rw [one_other (tp := 0) (b := slotB sd2) _ (by intro x hx; simpa using hx) (by omega)]
  exact ext_at (by rw [S1_len]; omega) hk
set_option maxRecDepth 4000 in
set_option maxHeartbeats 2000000 in
theorem awake24 (w : World) : Calls Tryd.prog 6 #[] w fun e w' => e = .returned (.bool true) ∧ Below w.heap.size w w' := by
  have cnew := new_any 10 (by omega) (by omega) w
  rw [show ((10 : Nat) : Int) = 10 from rfl] at cnew
  have hone : strB one3 = { data := #[111, 110, 101] } := rfl
  have htwo : strB two3 = { data := #[116, 119, 111] } := rfl
  go_enter Tryd.func6, Tryd.ntmps6
  go_wp2_with fail
  refine cnew.mono ?_
  rintro e w1 ⟨H, rfl, D1, b1, hF⟩
  have HO : Hid (Own w w1 H.p H (St.new 10)) := own_new D1 b1 hF
  obtain ⟨p, hp⟩ : ∃ p, p = H.p := ⟨_, rfl⟩
  rw [← hp] at HO ⊢
  have cr := qRead_none D1 rfl none none (two_new 10 (by omega)) rfl
  rw [← hp] at cr
  clear D1 b1 hF cnew hp
  go_wp2_with fail
  refine cr.mono ?_
  rintro e w2 ⟨rfl, b2⟩
  have o3 := (HO.out.below b2).alloc (.cells #[.int .i64 0, .int .i64 0] 32)
  have cl := own_lay o3 rfl (by decide) rfl 2 2 (by omega) (by omega) (by decide) 1#64 (by decide) (by decide) 1 (by decide) one3 (by decide)
  rw [hone, show (1#64).toInt = 1 from rfl, show ((2 : Nat) : Int) = 2 from rfl] at cl
  clear b2 cr o3
  go_wp2_with fail
  refine cl.mono ?_
  rintro e w4 ⟨H4, s4, rfl, o4, ho4, hf4, hw4, hs4⟩
  have hl4 : s4.sure.length = 10 := by rw [hs4, lay_len, lay_len]; rfl
  have cl2 := own_lay o4 ho4 hf4 hw4 5 1 (by omega) (by omega) (by rw [hl4]; omega) 2#64 (by decide) (by decide) 0 (by decide) two3 (by decide)
  rw [htwo, show (2#64).toInt = 2 from rfl, show ((5 : Nat) : Int) = 5 from rfl, show ((1 : Nat) : Int) = 1 from rfl] at cl2
  have HS4 : Hid (s4.sure = S1) := hs4
  clear o4 ho4 hf4 hw4 hs4 hl4 cl
  go_wp2_with fail
  refine cl2.mono ?_
  rintro e w5 ⟨H5, s5, rfl, o5, ho5, hf5, hw5, hs5⟩
  have hs5' : lay s5.sure s5.wait = S2 := by rw [hw5, lay_nil, hs5, HS4.out]; rfl
  have cr2 := qRead_some o5.dev ho5 (some sd2) (some sd1) (by rw [hs5']; exact S2_two) sd2 S2_best 5 1 two3 (by rw [hs5']; exact S2_lies)
  rw [o5.at_, htwo, show sd2.turn.toInt = 2 from rfl, show ((5 : Nat) : Int) = 5 from rfl, show ((1 : Nat) : Int) = 1 from rfl] at cr2
  have HB5 : Hid (Below w.heap.size w w5) := o5.bel
  clear o5 ho5 hf5 hw5 hs5 hs5' cl2
  go_wp2_with fail
  refine cr2.mono ?_
  rintro e w6 ⟨rfl, b6⟩
  have HB6 : Hid (Below w.heap.size w (w6.alloc (.cells #[.int .i64 5, .int .i64 1] 32))) := (HB5.out.trans (b6.mono HB5.out.size)).alloc (Nat.le_trans HB5.out.size b6.size) _
  clear b6 cr2
  go_wp2_with fail
  go_ret
  exact ⟨rfl, HB6.out⟩
end Go.Proofs.YthcjjcfiademnaaDoor
/-
  What came in: an extent, a list of texts.
-/
namespace Go.Proofs.YthcjjcfiademnaaDoor
open Go.RowKit

set_option maxRecDepth 100000 in
theorem ext_of {H : Type} {enc : TypeId × Value → H} {W : World} {base b0 : Nat} {sp : Nat → Bool} {hd : Bool} {r : Reach} {v : Value} {d : DataW H} {p : List MemPlace}
    (hv : Value.okWide Tryd.prog W r b0 32 v) (h : DataW.Trod enc Tryd.prog W base sp hd 32 v d p) :
    ∃ a c, v = .agg #[.int .i64 a, .int .i64 c] ∧ (Lit.int .i64 a).wf = true ∧ (Lit.int .i64 c).wf = true := by
  obtain ⟨v0, v1, y0, y1, n, rfl, _, _, h0, h1⟩ := Go.Joins.open_agg2 Tryd.underlying32 (by kernel_rfl) (by kernel_rfl) hv h
  obtain ⟨a, e0, _, w0⟩ := DataW.trod_int Tryd.underlying3 h0
  obtain ⟨c, e1, _, w1⟩ := DataW.trod_int Tryd.underlying3 h1
  simp only [List.cons.injEq, and_true] at e0 e1
  subst e0 e1
  exact ⟨a, c, rfl, w0, w1⟩
def StrsAre (w : World) (a : Option Addr) (len : Nat) : Prop := ∃ l : List ByteArray, l.length = len ∧ len ≤ maxLen ∧ ∀ cap, ReadsS w (.slice a len cap) l
theorem strsAre_of {H : Type} {enc : TypeId × Value → H} {W : World} {base : Nat} {sp : Nat → Bool} {hd : Bool} {fuel : Nat} {a : Option Addr} {len cap : Nat} {x : DataW H × List MemPlace}
    (h : DataW.trod enc Tryd.prog W base sp hd fuel 22 [.slice a len cap] = some x) : StrsAre W a len := by
  obtain ⟨l, h1, h2, h3⟩ := strs_of h
  refine ⟨l, h1, by omega, fun c => ?_⟩
  rcases h2 with ⟨rfl, a', c', hv⟩ | ⟨b, off, c', hv, hne, hb, hc⟩
  · refine .inl ⟨rfl, a, c, ?_⟩
    simp only [List.length_nil] at h1
    rw [← h1]
  · simp only [Value.slice.injEq] at hv
    exact .inr ⟨b, off, c, by rw [hv.1, hv.2.1], hne, hb, hc⟩
end Go.Proofs.YthcjjcfiademnaaDoor
