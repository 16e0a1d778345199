/-
  The contracts of package span's where, of the three functions that tell which places are wanted, and of And, Or and Less.
-/
import Derived.Test.YteijhnfciiblmaaSIter
import Derived.Test.YteijhnfciiblmaaSMay
import Derived.RangeFuncBox
namespace Go.Proofs.Yteijhnfciiblmaa
open Go.RowKit Go.Shelf
attribute [local go_sem] Oper.semAt_some

/-- A function value of sides that tells f. -/
def Wants (g : Nat) (f : Bool → Bool → Bool) : Prop := ∀ (W : World) (p q : Bool), Calls Try.prog g #[.agg #[.bool p, .bool q]] W fun e w' => e = .returned (.bool (f p q)) ∧ w' = W.alloc (.cells #[.bool p, .bool q] 46)
set_option maxHeartbeats 1000000 in
theorem wants_and : Wants 31 (fun p q => p && q) := by
  intro W p q
  cases p <;> cases q <;> (go_enter Try.func31, Try.ntmps31; go_wp2_with fail; go_ret; exact ⟨rfl, rfl⟩)
set_option maxHeartbeats 1000000 in
theorem wants_or : Wants 32 (fun p q => p || q) := by
  intro W p q
  cases p <;> cases q <;> (go_enter Try.func32, Try.ntmps32; go_wp2_with fail; go_ret; exact ⟨rfl, rfl⟩)
set_option maxHeartbeats 1000000 in
theorem wants_less : Wants 33 (fun p q => p && !q) := by
  intro W p q
  cases p <;> cases q <;> (go_enter Try.func33, Try.ntmps33; go_wp2_with fail; go_ret; exact ⟨rfl, rfl⟩)

/-- What where answers. -/
def WhereAns (w : World) (P : Int → Prop) (e : Ending) (w' : World) : Prop := (∃ v R, e = .returned (.tuple #[v, .int .i64 0]) ∧ SpansIs w' v R ∧ IsSet R P) ∧ Below w.heap.size w w'

/-- The two boxes behind an append to the row that one of them holds. -/
theorem app_boxes {W w1 : World} {tmp : Obj} {s N : Nat} {t1 t2 : TypeId} {v u : Value} (hg : (W.alloc tmp).grownBy w1 v.ownBlock) (h1 : Boxed W s t1 v) (h2 : Boxed W (s + 1) t2 u) (hv : ∀ k, v.ownBlock = some k → N ≤ k) (hN : N = s + 4) : Boxed w1 s t1 v ∧ Boxed w1 (s + 1) t2 u :=
  ⟨(h1.alloc tmp).kept hg (fun e => by have := hv s e.symm; omega), (h2.alloc tmp).kept hg (fun e => by have := hv (s + 1) e.symm; omega)⟩
/-- What is so when a span has come, or the last one ends. -/
theorem row_other {W : World} {N n : Nat} {t : TypeId} {size : Nat} {v u : Value} {xs : List Value} {b : Nat} (h : W.ownsRow N t size v n xs) (hb : b < N) : (W.setCell ⟨b, 0, none⟩ u).ownsRow N t size v n xs :=
  h.kept (grownBy_setCell' W b u) (by
    cases e : v.ownBlock with
    | none => left; rfl
    | some k => right; intro e2; cases e2; have := (h.lt b e).1; omega)

theorem app_keeps {W w1 : World} {tmp : Obj} {N n : Nat} {t : TypeId} {size : Nat} {v : Value} {xs : List Value} (hrow : W.ownsRow N t size v n xs) (hgrow : (W.alloc tmp).grownBy w1 v.ownBlock) : KeepsOthers W w1 := by
  refine (KeepsOthers.alloc W tmp).trans (KeepsOthers.of_grownBy hgrow fun j o ej hj => ?_)
  rcases (hrow.alloc tmp).2 with ⟨rfl, _⟩ | ⟨g, cap, cur, rfl, _, hgb, _⟩
  · simp [Value.ownBlock] at ej
  · obtain rfl : g = j := by simpa [Value.ownBlock] using ej
    rw [hgb] at hj; cases hj; rfl
theorem flat_snoc (out : List Sn) (t u : Int) : ((out ++ [(⟨t, u⟩ : Sn)]).map sc).flatten = (out.map sc).flatten ++ [.int .i64 t, .int .i64 u] := by simp

set_option maxRecDepth 100000 in
set_option maxHeartbeats 4000000 in
theorem where_yes {w : World} {va vb : Value} {a b : List Sn} (sa : SpansIs w va a) (sb : SpansIs w vb b) (ma : mayS a = true) (mb : mayS b = true) (g : Nat) (f : Bool → Bool → Bool) (hf : f false false = false) (hg : Wants g f) (eg : ∀ args w, (callFunc g args).run Try.prog w = .ok (.enter g args) w) :
    Calls Try.prog 30 #[va, vb, .func (.func g) #[] #[]] w (WhereAns w (Wn f a b)) := by
  obtain ⟨pa, na, ca, rfl, hna, hca⟩ := sa.slice
  obtain ⟨pb, nb, cb, rfl, hnb, hcb⟩ := sb.slice
  have lna := may_len ma
  have lnb := may_len mb
  have HS : Hid (SpansIs w (.slice pa na ca) a ∧ SpansIs w (.slice pb nb cb) b ∧ mayS a = true ∧ mayS b = true) := ⟨sa, sb, ma, mb⟩
  have HG : Hid (f false false = false ∧ Wants g f) := ⟨hf, hg⟩
  obtain ⟨i0, hi0, hz0, hz1, hz2⟩ := info_parts info_span
  have HI : Hid (Try.prog.info? 43 = some i0 ∧ i0.zero = some (.agg #[.int .i64 0, .int .i64 0]) ∧ i0.size = 2 ∧ i0.bytes = 16) := ⟨hi0, hz0, hz1, hz2⟩
  have hm1 : ∀ W, Below w.heap.size w W → Calls Try.prog 15 #[.slice pa na ca] W fun e w' => e = .returned (.bool true) ∧ Below W.heap.size W w' := fun W hW => by
    have := may_any (HS.out.1.below hW) (by omega)
    rwa [HS.out.2.2.1] at this
  have hm2 : ∀ W, Below w.heap.size w W → Calls Try.prog 15 #[.slice pb nb cb] W fun e w' => e = .returned (.bool true) ∧ Below W.heap.size W w' := fun W hW => by
    have := may_any (HS.out.2.1.below hW) (by omega)
    rwa [HS.out.2.2.2] at this
  clear sa sb ma mb hf hg hna hnb hi0 hz0 hz1 hz2
  refine (callsIn_wide (n := 6)).1 ?_
  refine callsIn_of_wp_marks Try.func30 rfl trivial ?_ rfl
  simp only [Try.ntmps30, List.size_toArray, List.length_cons, List.length_nil, Nat.reduceAdd, Nat.reduceSub, Array.replicate_succ, Array.replicate_zero, List.push_toArray, List.append_toArray, List.nil_append, List.cons_append]
  gi_wp2_with fail
  have bw0 := Boxed.new w 47 (.func (.func g) #[] #[])
  have hb0 := below1 w (.cells #[.func (.func g) #[] #[]] 47)
  refine ⟨trivial, ?_⟩
  refine (callsIn_wide.2 (hm1 _ hb0)).mono ?_
  rintro e w1 ⟨rfl, hb1⟩
  have bw1 : Boxed w1 w.heap.size 47 (.func (.func g) #[] #[]) := (hb1.block _ bw0.lt).trans bw0
  have hw1 : Below w.heap.size w w1 := hb0.trans (hb1.mono hb0.size)
  clear bw0 hb0 hb1 hm1
  have H1 : Hid (Boxed w1 w.heap.size 47 (.func (.func g) #[] #[]) ∧ Below w.heap.size w w1) := ⟨bw1, hw1⟩
  clear bw1 hw1
  gi_wp2_with fail
  refine ⟨trivial, ?_⟩
  refine (callsIn_wide.2 (hm2 _ H1.out.2)).mono ?_
  rintro e w2 ⟨rfl, hb2⟩
  have H2 : Hid (Boxed w2 w.heap.size 47 (.func (.func g) #[] #[]) ∧ Below w.heap.size w w2) := ⟨(hb2.block _ H1.out.1.lt).trans H1.out.1, H1.out.2.trans (hb2.mono H1.out.2.size)⟩
  clear hb2 hm2 H1
  gi_wp2_with fail
  refine ⟨trivial, ?_⟩
  refine (edges_in _ pa pb na nb ca cb _).mono ?_
  rintro e w3 ⟨rfl, rfl⟩
  gi_wp2_with fail
  have bS := Boxed.new w2 22 (.slice none 0 0)
  have bI := Boxed.new (w2.alloc (.cells #[.slice none 0 0] 22)) 4 (.bool false)
  have bA := Boxed.new ((w2.alloc (.cells #[.slice none 0 0] 22)).alloc (.cells #[.bool false] 4)) 22 (.slice pa na ca)
  have bB := Boxed.new (((w2.alloc (.cells #[.slice none 0 0] 22)).alloc (.cells #[.bool false] 4)).alloc (.cells #[.slice pa na ca] 22)) 22 (.slice pb nb cb)
  have bS := ((bS.alloc (.cells #[.bool false] 4)).alloc (.cells #[.slice pa na ca] 22)).alloc (.cells #[.slice pb nb cb] 22)
  have bI := (bI.alloc (.cells #[.slice pa na ca] 22)).alloc (.cells #[.slice pb nb cb] 22)
  have bA := bA.alloc (.cells #[.slice pb nb cb] 22)
  have hW0 : Below w2.heap.size w2 ((((w2.alloc (.cells #[.slice none 0 0] 22)).alloc (.cells #[.bool false] 4)).alloc (.cells #[.slice pa na ca] 22)).alloc (.cells #[.slice pb nb cb] 22)) :=
    ((((Below.refl _ w2).alloc (Nat.le_refl _) _).alloc (by simp) _).alloc (by simp; omega) _).alloc (by simp; omega) _
  have hsz : ((((w2.alloc (.cells #[.slice none 0 0] 22)).alloc (.cells #[.bool false] 4)).alloc (.cells #[.slice pa na ca] 22)).alloc (.cells #[.slice pb nb cb] 22)).heap.size = w2.heap.size + 4 := by simp
  simp only [World.size_alloc] at bS bI bA bB
  generalize ((((w2.alloc (.cells #[.slice none 0 0] 22)).alloc (.cells #[.bool false] 4)).alloc (.cells #[.slice pa na ca] 22)).alloc (.cells #[.slice pb nb cb] 22)) = W0 at *
  obtain ⟨s2, hs2⟩ : ∃ s2, s2 = w2.heap.size := ⟨_, rfl⟩
  rw [← hs2] at bS bI bA bB hsz
  rw [← hs2]
  have HZ : Hid (s2 = w2.heap.size ∧ W0.heap.size = s2 + 4 ∧ w.heap.size < s2) := ⟨hs2, hsz, by rw [hs2]; exact H2.out.1.lt⟩
  have hseq := edges_stops 5 (by omega) (s2 + 1 + 1) (s2 + 1 + 1 + 1) (fun k => k = s2 ∨ k = s2 + 1 ∨ W0.heap.size ≤ k) w2 (HS.out.1.below H2.out.2) (HS.out.2.1.below H2.out.2) HS.out.2.2.1 HS.out.2.2.2
    (fun k hk => by omega) (by omega) (by omega) W0 hW0 bA.cell bB.cell
  clear hs2 hsz bA bB
  refine wpIn_rangeFunc_ownH rfl (by omega) (gf := 48) (lb := #[.pointer (some ⟨s2 + 1 + 1, 0, none⟩), .pointer (some ⟨s2 + 1 + 1 + 1, 0, none⟩)]) rfl trivial (enters_of Try.func48 (by kernel_rfl) rfl)
    hseq (fun h k => h.trans k fun _ h => .inl h) (fun W l o o' hl hw _ _ => (Kept.refl _ W).grown (grownBy_putObj' W l o') (fun k e => by cases e; exact .inl (.inr (.inr hl)))) (Below.refl _ _) (fun _ => rfl)
    (fun pre W => (∃ v, Boxed W s2 22 v ∧ W.ownsRow W0.heap.size 43 2 v (wk f pre).1.length ((wk f pre).1.map sc).flatten ∧ True) ∧ (Boxed W (s2 + 1) 4 (.bool (wk f pre).2) ∧ Kept (fun k => k = s2 ∨ k = s2 + 1 ∨ W0.heap.size ≤ k) W0 W))
    (fun _ _ _ => False)
    (OwnFrom.and (Own.from (holdsRow_own W0.heap.size s2 22 43 2 (fun pre => (wk f pre).1.length) (fun pre => ((wk f pre).1.map sc).flatten) (fun _ _ => True)) _) (OwnFrom.and (Own.from (boxed_own (s2 + 1) 4 (fun pre => .bool (wk f pre).2)) _) (fun _ X Y row hs hg hr => hs.grown hg (fun k e => .inl (.inr (.inr (hr k e).1))))))
    (fun _ _ _ _ _ hs _ _ => hs)
    ⟨⟨_, bS, World.ownsRow_nil _ _ _ _, trivial⟩, bI, Kept.refl _ _⟩
    (fun x a' W => ∃ Bx, W0.heap.size ≤ Bx ∧ Box W Bx 46 #[.bool x.2.1, .bool x.2.2] ∧ a' = { tmps := #[.slice pa na ca, .slice pb nb cb, .func (.func g) #[] #[], undef, undef, .pointer (some ⟨w.heap.size, 0, none⟩), .slice none 0 0, .int .i64 0, .pointer (some ⟨s2, 0, none⟩), .pointer (some ⟨s2 + 1, 0, none⟩), .int .i64 x.1, .pointer (some ⟨Bx, 0, none⟩), undef, .slice pa na ca, .bool true, .bool false, .bool false, .slice pb nb cb, .bool true, .bool false, .bool false, .slice pa na ca, .slice pb nb cb, .func (.func 48) #[] #[.pointer (some ⟨s2 + 1 + 1, 0, none⟩), .pointer (some ⟨s2 + 1 + 1 + 1, 0, none⟩)], .int .i64 x.1, .agg #[.bool x.2.1, .bool x.2.2], undef, undef, undef, undef, undef, undef, undef, undef, undef, undef, undef, undef, undef, undef, undef, undef, undef, undef, undef, undef, undef, undef, undef, undef, undef, undef, undef, undef], defers := [] })
    (fun x a' _ X Y row hs hg hr => by
      obtain ⟨Bx, h1, h2, h3⟩ := hs
      refine ⟨Bx, h1, h2.of_block (hg.block Bx h2.lt fun e => ?_), h3⟩
      obtain ⟨o, ho, hc⟩ := (hr Bx e.symm).2
      rw [show X.heap[Bx]? = _ from h2] at ho
      cases ho
      cases hc)
    ?assign ?body ?done ?stop
  case assign =>
    rintro l pre x W K ⟨⟨v, hv, hrow, _⟩, hI, hB⟩ hK
    have hsz := hB.size
    gi_wp2
    exact hK _ _ ((KeepsOthers.alloc _ _).from _) ((Kept.refl _ W).alloc _) ⟨⟨v, hv.alloc _, hrow.alloc _, trivial⟩, hI.alloc _, hB.alloc _⟩ ⟨W.heap.size, hsz, box_new W _ _, rfl⟩
  case body =>
    rintro l pre x a' W hl _ ⟨⟨v, hv, hrow, _⟩, hI, hB⟩ ⟨Bx, hBx, bX, rfl⟩ hlt
    obtain ⟨t, p, q⟩ := x
    have hsz := hB.size
    have bWn : Boxed W w.heap.size 47 (.func (.func g) #[] #[]) := by
      have h1 := (hW0.block _ H2.out.1.lt).trans H2.out.1
      refine (hB.block _ (by have := HZ.out; omega) (by have := HZ.out; omega)).trans h1
    have cW := bWn.cell
    have x0 := bX.cell 0 _ rfl
    have x1 := bX.cell 1 _ rfl
    have HW : Hid (∀ W, CallsIn (Fence.wide.inRound l) 3 Try.prog g #[.agg #[.bool p, .bool q]] W fun e w' => e = .returned (.bool (f p q)) ∧ w' = W.alloc (.cells #[.bool p, .bool q] 46)) := fun W => CallsIn.inRound l (callsIn_wide.2 (HG.out.2 W p q))
    dsimp only at x0 x1
    clear bWn bX
    gi_wp2_with fail
    refine ⟨trivial, ?_⟩
    refine (HW.out W).mono ?_
    rintro e w' ⟨rfl, rfl⟩
    clear x0 x1 cW HW
    have hv := hv.alloc (.cells #[.bool p, .bool q] 46)
    have hI := hI.alloc (.cells #[.bool p, .bool q] 46)
    have hrow := hrow.alloc (.cells #[.bool p, .bool q] 46)
    have hk1 : KeepsOthers W (W.alloc (.cells #[.bool p, .bool q] 46)) := KeepsOthers.alloc _ _
    have hkp : Kept (fun k => k = s2 ∨ k = s2 + 1 ∨ W0.heap.size ≤ k) W (W.alloc (.cells #[.bool p, .bool q] 46)) := (Kept.refl _ W).alloc _
    have hsz1 : W0.heap.size ≤ (W.alloc (.cells #[.bool p, .bool q] 46)).heap.size := by simp; omega
    generalize W.alloc (.cells #[.bool p, .bool q] 46) = W1 at *
    have hwl := wk_len f pre
    have hsn := wk_snoc f pre (t, p, q)
    rw [stepE] at hsn
    simp only at hsn
    obtain ⟨out, ins, ho⟩ : ∃ out ins, wk f pre = (out, ins) := ⟨_, _, rfl⟩
    rw [ho] at hsn hwl hrow hI
    simp only at hsn hwl hrow hI
    obtain ⟨now, hnow⟩ : ∃ now, now = f p q := ⟨_, rfl⟩
    rw [← hnow] at hsn
    rw [← hnow]
    clear ho hnow
    have hlen : out.length + 1 ≤ 1000000 := by omega
    have cI := hI.cell
    have fI := hI.frozen
    have cS := hv.cell
    have fS := hv.frozen
    cases now <;> cases ins
    · -- not wanted, not inside
      have HE : Hid (wk f (pre ++ [(t, p, q)]) = (out, false)) := by unfold Hid; rw [hsn]; simp
      clear hsn
      gi_wp2_with fail
      refine ⟨hk1.from _, hkp, ⟨v, hv, ?_, trivial⟩, ?_, hB.trans hkp (fun _ h => .inl h)⟩
      · rw [HE.out]; exact hrow
      · rw [HE.out]; exact hI
    · -- not wanted, inside: the last one ends
      obtain ⟨o', s, rfl⟩ : ∃ o' s, out = o' ++ [s] := by
        rcases List.eq_nil_or_concat out with h | ⟨o', s, e⟩
        · exact absurd h (hwl.2 rfl)
        · exact ⟨o', s, by rw [e, List.concat_eq_append]⟩
      have HE : Hid (wk f (pre ++ [(t, p, q)]) = (o' ++ [⟨s.lo, t⟩], false)) := by unfold Hid; rw [hsn]; simp [setHi_snoc]
      have hne : ∀ k, v.ownBlock = some k → W0.heap.size ≤ k := fun k hk => (hrow.lt k hk).1
      have hsr : SRows W1 v 43 2 ((o' ++ [s]).map sc) := srows_of_own hrow rfl (by intro r hr; rw [List.mem_map] at hr; obtain ⟨y, _, rfl⟩ := hr; rfl) (by decide) (by simp)
      obtain ⟨va, vc, rfl⟩ := srows_slice hsr
      rw [List.length_map, List.length_append, List.length_singleton] at hsr hne hrow hv cS
      rw [List.length_append, List.length_singleton] at hlen
      obtain ⟨gg, rfl, hgl, g1, g2, g3⟩ := hi_at hsr rfl rfl
      have HG3 : Hid (∀ u : Int, SRows (W1.setCell ⟨gg, o'.length * 2 + 1, none⟩ (.int .i64 u)) (.slice (some ⟨gg, 0, none⟩) (o'.length + 1) vc) 43 2 ((o' ++ [(⟨s.lo, u⟩ : Sn)]).map sc)) := g3
      have HO : Hid (W0.heap.size ≤ gg) := hne gg rfl
      have hgs : (gg = s2 + 1) = False := by have := HO.out; have := HZ.out; simp; omega
      have hln : (o'.length : Int) ≤ 1000000 := by omega
      clear hsn hwl g3 hsr hne hlt
      have HR : Hid (Boxed W1 s2 22 (.slice (some ⟨gg, 0, none⟩) (o'.length + 1) vc) ∧ Boxed W1 (s2 + 1) 4 (.bool true)) := ⟨hv, hI⟩
      clear hrow hv hI
      gi_wp2_with fail
      have hz := HZ.out
      have ho := HO.out
      have hsr := HG3.out t
      have hsr2 : SRows ((W1.setCell ⟨gg, o'.length * 2 + 1, none⟩ (.int .i64 t)).setCell ⟨s2 + 1, 0, none⟩ (.bool false)) (.slice (some ⟨gg, 0, none⟩) (o'.length + 1) vc) 43 2 ((o' ++ [(⟨s.lo, t⟩ : Sn)]).map sc) :=
        hsr.of_block fun k hk => heap_setCell_other _ _ k _ (by simp [Value.ownBlock] at hk; simp only; omega)
      have hown := srows_own_base hsr2 (by decide) (B := W0.heap.size) (fun k hk => by simp [Value.ownBlock] at hk; omega)
      have k2 : Kept (fun k => k = s2 ∨ k = s2 + 1 ∨ W0.heap.size ≤ k) W ((W1.setCell ⟨gg, o'.length * 2 + 1, none⟩ (.int .i64 t)).setCell ⟨s2 + 1, 0, none⟩ (.bool false)) := (hkp.setCell (p := ⟨gg, o'.length * 2 + 1, none⟩) (.inl (.inr (.inr ho))) _).setCell (p := ⟨s2 + 1, 0, none⟩) (.inl (.inr (.inl rfl))) _
      refine ⟨((hk1.trans (KeepsOthers.setCell _ _ _)).trans (KeepsOthers.setCell _ _ _)).from _, k2, ⟨.slice (some ⟨gg, 0, none⟩) (o'.length + 1) vc, ?_, ?_, trivial⟩, ?_, hB.trans k2 (fun _ h => .inl h)⟩
      · exact Box.other (Box.other (w := W1) (t := 22) (c := #[_]) HR.out.1 (a := ⟨gg, o'.length * 2 + 1, none⟩) (by simp only; omega) _) (a := ⟨s2 + 1, 0, none⟩) (by simp only; omega) _
      · rw [HE.out]
        simpa using hown
      · rw [HE.out]
        exact Boxed.set _ (Box.other (w := W1) (t := 4) (c := #[_]) HR.out.2 (a := ⟨gg, o'.length * 2 + 1, none⟩) (by simp only; omega) _)
    · -- wanted, not inside: a new one
      have HE : Hid (wk f (pre ++ [(t, p, q)]) = (out ++ [⟨t, 0⟩], true)) := by unfold Hid; rw [hsn]; simp
      have HN : Hid (∀ k, v.ownBlock = some k → W0.heap.size ≤ k) := fun k hk => (hrow.lt k hk).1
      have HC : Hid (∀ j u, [Value.int .i64 t, Value.int .i64 0][j]? = some u → (W1.alloc (.cells #[.int .i64 t, .int .i64 0] 43)).cell? ((⟨W1.heap.size, 0, none⟩ : Addr).add j) = some u) := by
        intro j u hu
        rw [add0]
        have hb := box_new W1 #[.int .i64 t, .int .i64 0] 43
        exact hb.cell j u (by rw [← hu]; simp)
      have hln : (out.length : Int) ≤ 1000000 := by omega
      have HL : Hid (out.length + 1 ≤ maxLen ∧ (out.length + 1) * 16 ≤ 140737488355328 ∧ W0.heap.size ≤ (W1.alloc (.cells #[.int .i64 t, .int .i64 0] 43)).heap.size) := ⟨by unfold maxLen; omega, by omega, by simp; omega⟩
      clear hsn hwl hlt hlen
      gi_wp2_with (gi_at_builtin; refine wpListIn_append_own _ rfl _ _ 22 rfl W0.heap.size 43 i0 (.agg #[.int .i64 0, .int .i64 0]) 2 16 Try.underlying22 HI.out.1 HI.out.2.1 HI.out.2.2.1 HI.out.2.2.2 rfl (by decide) _ _ _ rfl (hrow.alloc _) ⟨W1.heap.size, 0, none⟩ 1 1 [.int .i64 t, .int .i64 0] rfl rfl HC.out (by simp [Value.oneCell']) HL.out.1 HL.out.2.1 HL.out.2.2 ?_; intro v' w1 hown' hgrow _; obtain ⟨g', cap', rfl⟩ := ownsRow_succ hown'; obtain ⟨bS1, bI1⟩ := app_boxes hgrow hv hI HN.out HZ.out.2.1; have cS1 := bS1.cell; have fS1 := bS1.frozen; have cI1 := bI1.cell; have fI1 := bI1.frozen)
      have HK : Hid (Kept (fun k => k = s2 ∨ k = s2 + 1 ∨ W0.heap.size ≤ k) W1 w1) := ((Kept.refl _ W1).alloc _).grown hgrow fun k hk => .inl (.inr (.inr (HN.out k hk)))
      have k2 : Kept (fun k => k = s2 ∨ k = s2 + 1 ∨ W0.heap.size ≤ k) W ((w1.setCell ⟨s2, 0, none⟩ (.slice (some ⟨g', 0, none⟩) (out.length + 1) cap')).setCell ⟨s2 + 1, 0, none⟩ (.bool true)) := ((hkp.trans HK.out (fun _ h => .inl h)).setCell (p := ⟨s2, 0, none⟩) (.inl (.inl rfl)) _).setCell (p := ⟨s2 + 1, 0, none⟩) (.inl (.inr (.inl rfl))) _
      have hz := HZ.out
      refine ⟨(((hk1.trans (app_keeps hrow hgrow)).trans (KeepsOthers.setCell _ _ _)).trans (KeepsOthers.setCell _ _ _)).from _, k2, ⟨_, (bS1.set _).other (by omega) _, ?_, trivial⟩, ?_, hB.trans k2 (fun _ h => .inl h)⟩
      · rw [HE.out, flat_snoc]
        have := row_other (u := .bool true) (row_other (u := .slice (some ⟨g', 0, none⟩) (out.length + 1) cap') hown' (b := s2) (by omega)) (b := s2 + 1) (by omega)
        simpa using this
      · rw [HE.out]
        exact (bI1.other (by omega) _).set _
    · -- wanted, inside
      have HE : Hid (wk f (pre ++ [(t, p, q)]) = (out, true)) := by unfold Hid; rw [hsn]; simp
      clear hsn
      gi_wp2_with fail
      refine ⟨hk1.from _, hkp, ⟨v, hv, ?_, trivial⟩, ?_, hB.trans hkp (fun _ h => .inl h)⟩
      · rw [HE.out]; exact hrow
      · rw [HE.out]; exact hI
  case done =>
    rintro D xs W hD ⟨k, rfl, hlv, hend⟩ ⟨⟨v, hv, hrow, _⟩, hI, hB⟩ hK
    have hset := mid_end HG.out.1 HS.out.2.2.1 HS.out.2.2.2 (mid_at HG.out.1 HS.out.2.2.1 HS.out.2.2.2 k hlv) hend
    have hc := hv.cell
    gi_wp2_with fail
    refine ⟨by simp, .inl ⟨_, _, rfl, run_takeDeferred hK, ?_⟩⟩
    have hz := HZ.out
    have hbW : Below w2.heap.size w2 W := hW0.trans (hB.below (fun k hk => by omega) (by omega))
    have hbW2 := H2.out.2.trans (hbW.mono H2.out.2.size)
    have hrow2 := ownsRow_putObj hrow (.deferred none) hK rfl
    refine ⟨_, results_tmp2 rfl _ _ _, ⟨v, _, rfl, spans_of_srows (srows_of_own hrow2 rfl (by intro r hr; rw [List.mem_map] at hr; obtain ⟨y, _, rfl⟩ := hr; rfl) (by decide) (by simp)), hset⟩, ?_⟩
    exact hbW2.trans (belowK_b (w := w) (Nat.le_refl _) W D _ _ (by have := H2.out.2.size; omega) hK rfl rfl)
  case stop =>
    rintro D c pre W _ _ h _
    exact h.elim
set_option maxRecDepth 100000 in
set_option maxHeartbeats 4000000 in
theorem where_no {w : World} {va vb : Value} {a b : List Sn} (sa : SpansIs w va a) (sb : SpansIs w vb b) (la : a.length ≤ 1000000) (lb : b.length ≤ 1000000) (hm : (mayS a && mayS b) = false) (g : Nat) :
    Calls Try.prog 30 #[va, vb, .func (.func g) #[] #[]] w fun e w' => e = .returned (.tuple #[.slice none 0 0, .int .i64 1]) ∧ Below w.heap.size w w' := by
  obtain ⟨pa, na, ca, rfl, hna, hca⟩ := sa.slice
  obtain ⟨pb, nb, cb, rfl, hnb, hcb⟩ := sb.slice
  have hb0 := below1 w (.cells #[.func (.func g) #[] #[]] 47)
  have hm1 := may_any (sa.below hb0) la
  have HS : Hid (SpansIs w (.slice pb nb cb) b ∧ b.length ≤ 1000000) := ⟨sb, lb⟩
  clear sa sb la lb hna hnb
  cases ea : mayS a with
  | false =>
    rw [ea] at hm1
    clear hm ea
    go_enter Try.func30, Try.ntmps30
    go_wp2_with fail
    refine hm1.mono ?_
    rintro e w1 ⟨rfl, hb1⟩
    go_wp2_with fail
    go_ret2
    exact ⟨rfl, hb0.trans (hb1.mono hb0.size)⟩
  | true =>
    rw [ea] at hm1 hm
    rw [Bool.true_and] at hm
    have HM : Hid (mayS b = false) := hm
    clear hm ea
    go_enter Try.func30, Try.ntmps30
    go_wp2_with fail
    refine hm1.mono ?_
    rintro e w1 ⟨rfl, hb1⟩
    have hw1 := hb0.trans (hb1.mono hb0.size)
    have hm2 := may_any (HS.out.1.below hw1) HS.out.2
    rw [HM.out] at hm2
    clear hm1 hb0 hb1
    go_wp2_with fail
    refine hm2.mono ?_
    rintro e w2 ⟨rfl, hb2⟩
    go_wp2_with fail
    go_ret2
    exact ⟨rfl, hw1.trans (hb2.mono hw1.size)⟩

/-- What And, Or and Less answer. -/
def BothAns (w : World) (f : Bool → Bool → Bool) (a b : List Sn) (e : Ending) (w' : World) : Prop :=
  (((mayS a && mayS b) = true ∧ ∃ v R, e = .returned (.tuple #[v, .int .i64 0]) ∧ SpansIs w' v R ∧ IsSet R (Wn f a b)) ∨ ((mayS a && mayS b) = false ∧ e = .returned (.tuple #[.slice none 0 0, .int .i64 1]))) ∧ Below w.heap.size w w'
theorem where_any {w : World} {va vb : Value} {a b : List Sn} (sa : SpansIs w va a) (sb : SpansIs w vb b) (la : a.length ≤ 1000000) (lb : b.length ≤ 1000000) (g : Nat) (f : Bool → Bool → Bool) (hf : f false false = false) (hg : Wants g f) (eg : ∀ args w, (callFunc g args).run Try.prog w = .ok (.enter g args) w) :
    Calls Try.prog 30 #[va, vb, .func (.func g) #[] #[]] w (BothAns w f a b) := by
  cases hm : mayS a && mayS b with
  | false => exact (where_no sa sb la lb hm g).mono fun e w' ⟨h1, h2⟩ => ⟨.inr ⟨hm, h1⟩, h2⟩
  | true =>
    have hm' := hm
    rw [Bool.and_eq_true] at hm'
    exact (where_yes sa sb hm'.1 hm'.2 g f hf hg eg).mono fun e w' ⟨h1, h2⟩ => ⟨.inl ⟨hm, h1⟩, h2⟩
theorem BothAns.shape {w : World} {f : Bool → Bool → Bool} {a b : List Sn} {e : Ending} {w' : World} (h : BothAns w f a b e w') : ∃ v k, e = .returned (.tuple #[v, .int .i64 k]) := by
  rcases h.1 with ⟨_, v, R, h, _⟩ | ⟨_, h⟩
  · exact ⟨_, _, h⟩
  · exact ⟨_, _, h⟩
set_option maxHeartbeats 1000000 in
theorem and_any {w : World} {va vb : Value} {a b : List Sn} (sa : SpansIs w va a) (sb : SpansIs w vb b) (la : a.length ≤ 1000000) (lb : b.length ≤ 1000000) :
    Calls Try.prog 10 #[va, vb] w (BothAns w (fun p q => p && q) a b) := by
  have h := where_any sa sb la lb 31 _ rfl wants_and (enters_of Try.func31 (by kernel_rfl) rfl)
  go_enter Try.func10, Try.ntmps10
  go_wp2_with fail
  refine h.mono ?_
  intro e w1 h1
  obtain ⟨v, k, rfl⟩ := h1.shape
  go_wp2_with fail
  go_ret2
  exact h1
set_option maxHeartbeats 1000000 in
theorem or_any {w : World} {va vb : Value} {a b : List Sn} (sa : SpansIs w va a) (sb : SpansIs w vb b) (la : a.length ≤ 1000000) (lb : b.length ≤ 1000000) :
    Calls Try.prog 11 #[va, vb] w (BothAns w (fun p q => p || q) a b) := by
  have h := where_any sa sb la lb 32 _ rfl wants_or (enters_of Try.func32 (by kernel_rfl) rfl)
  go_enter Try.func11, Try.ntmps11
  go_wp2_with fail
  refine h.mono ?_
  intro e w1 h1
  obtain ⟨v, k, rfl⟩ := h1.shape
  go_wp2_with fail
  go_ret2
  exact h1
set_option maxHeartbeats 1000000 in
theorem less_any {w : World} {va vb : Value} {a b : List Sn} (sa : SpansIs w va a) (sb : SpansIs w vb b) (la : a.length ≤ 1000000) (lb : b.length ≤ 1000000) :
    Calls Try.prog 12 #[va, vb] w (BothAns w (fun p q => p && !q) a b) := by
  have h := where_any sa sb la lb 33 _ rfl wants_less (enters_of Try.func33 (by kernel_rfl) rfl)
  go_enter Try.func12, Try.ntmps12
  go_wp2_with fail
  refine h.mono ?_
  intro e w1 h1
  obtain ⟨v, k, rfl⟩ := h1.shape
  go_wp2_with fail
  go_ret2
  exact h1
end Go.Proofs.Yteijhnfciiblmaa
