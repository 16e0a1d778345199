/-
  2 texts, one behind the other: JSd, JSe.
-/
import Derived.Test.YtgffplfpoopolaaJournalPlaysPart1
import Derived.Deep.DeepCutAuto
import Derived.Deep.CutBlock
/-
  Law 23's side: the code's journal on its device, and the document's beside it; the contract of its crash.
-/
namespace Go.Proofs.Ytgffplfpoopolaa
open Go.RowKit Leb

/-- A side's cells. -/
def sdc (hp jp : Nat) (q : Array Value) (T : Int) (v : Value) (u : Int) : Array Value := #[.pointer (some ⟨hp, 0, none⟩), .pointer (some ⟨jp, 0, none⟩), q.getD 0 undef, q.getD 1 undef, q.getD 2 undef, q.getD 3 undef, .int .i64 3, .int .i64 40, .int .i64 T, v, .int .i64 u]
/-- What is so of the state, without memory. -/
structure Pu (s : St) (turn : BitVec 64) (u : Nat) (out : List (List UInt8)) (i : Nat) : Prop where
  n50 : s.sure.length = 50
  ok1 : ∀ b ∈ s.sure, okB b = true
  ok2 : ∀ x ∈ s.wait, okB x.2 = true
  t1 : 1 ≤ turn.toInt
  t2 : turn.toInt ≤ 1 + i
  wl : s.wait.length ≤ 100 * i
  ul : u ≤ 40
  ol : out.length ≤ u
/-- Both sides, in memory. -/
structure Sy (w0 wx : World) (px hp : Nat) (J : Jh) (R : RH) (s : St) (turn : BitVec 64) (u : Nat) (out : List (List UInt8)) (va : Option Addr) (vn vc : Nat) (i : Nat) : Prop where
  jnl : Jnl wx J s 3 40 turn u out
  hpe : J.H.p = hp
  box : Box wx px 43 (sdc hp J.p (rda R s) turn.toInt (.slice va vn vc) u)
  ref : RefIs wx (fun x => J.foot x ∨ x = px) R s.sure s.wait
  list : SRows wx (.slice va vn vc) 9 1 (out.map s1)
  lav : ∀ x, (Value.slice va vn vc).ownBlock = some x → ¬ J.foot x ∧ x ≠ px
  np : ¬ J.foot px
  own : ∀ x, J.foot x → w0.heap.size ≤ x
  pw : w0.heap.size ≤ px
  bel : Below w0.heap.size w0 wx
  vl : vn = out.length
  pu : Pu s turn u out i
theorem Sy.over {w0 w1 w2 : World} {px hp : Nat} {J : Jh} {R : RH} {s : St} {turn : BitVec 64} {u : Nat} {out : List (List UInt8)} {va : Option Addr} {vn vc i : Nat} (o : Sy w0 w1 px hp J R s turn u out va vn vc i) (b : Below w1.heap.size w1 w2) : Sy w0 w2 px hp J R s turn u out va vn vc i :=
  ⟨o.jnl.over b, o.hpe, o.box.over b, o.ref.below b, o.list.over b, o.lav, o.np, o.own, o.pw, o.bel.trans (b.mono o.bel.size), o.vl, o.pu⟩
def SyAns (w0 : World) (px hp : Nat) (s : St) (turn : BitVec 64) (i : Nat) (e : Ending) (w' : World) : Prop :=
  e = .returned (.bool true) ∧ ∃ J R u out va vn vc, Sy w0 w' px hp J R s turn u out va vn vc i
theorem rcrash_ok {w : World} {G : Nat → Prop} {R : RH} {s : St} (r0 : RefIs w G R s.sure s.wait) (hG : ∀ k, G k → k < w.heap.size) (ok : StOk s) (v : Value) (l : List (BitVec 64)) (hv : ReadsI w v l) (hll : l.length ≤ maxLen) :
    Calls Try.prog 42 #[.agg (rda R s), v] w fun e w' => (∃ R', e = .returned (.agg (rda R' (s.crashed (among l)))) ∧ RefIs w' G R' (s.crashed (among l)).sure (s.crashed (among l)).wait) ∧ Below w.heap.size w w' := by
  refine (rcrash_any r0 hG s.fz s.off v l hv hll ok.ats ok.top (by have := ok.few; omega)).mono ?_
  rintro e w' ⟨⟨R', rfl, r, hwa, hwc⟩, b⟩
  refine ⟨⟨R', ?_, r⟩, b⟩
  show Ending.returned (.agg #[.slice R'.sa s.sure.length R'.sc, .slice none 0 0, .int .i64 (-1), .bool false]) = .returned (.agg #[.slice R'.sa (lay s.sure (keepW (among l) 0 s.wait)).length R'.sc, .slice R'.wa 0 R'.wc, .int .i64 (-1), .bool false])
  rw [lay_len, hwa, hwc]
theorem sd_q {w : World} {px hp jp : Nat} {a b c d a' b' c' d' : Value} {T u : Int} {v : Value} (B : Box w px 43 (sdc hp jp #[a, b, c, d] T v u)) : Box ((((w.setCell ⟨px, 2, none⟩ a').setCell ⟨px, 3, none⟩ b').setCell ⟨px, 4, none⟩ c').setCell ⟨px, 5, none⟩ d') px 43 (sdc hp jp #[a', b', c', d'] T v u) :=
  (((B.set 2 a').set 3 b').set 4 c').set 5 d'
theorem keptq {F : Nat → Prop} {a w : World} (h : Kept F a w) {z : Nat} (hz : F z ∨ a.heap.size ≤ z) (x y u v : Value) : Kept F a ((((w.setCell ⟨z, 2, none⟩ x).setCell ⟨z, 3, none⟩ y).setCell ⟨z, 4, none⟩ u).setCell ⟨z, 5, none⟩ v) :=
  (((h.setCell (p := ⟨z, 2, none⟩) hz x).setCell (p := ⟨z, 3, none⟩) hz y).setCell (p := ⟨z, 4, none⟩) hz u).setCell (p := ⟨z, 5, none⟩) hz v
theorem sd_k {w : World} {px hp jp jp' : Nat} {q : Array Value} {T u T' u' : Int} {v v' : Value} (B : Box w px 43 (sdc hp jp q T v u)) : Box ((((((w.setCell ⟨px, 1, none⟩ (.pointer (some ⟨jp', 0, none⟩))).setCell ⟨px, 6, none⟩ (.int .i64 3)).setCell ⟨px, 7, none⟩ (.int .i64 40)).setCell ⟨px, 8, none⟩ (.int .i64 T')).setCell ⟨px, 9, none⟩ v').setCell ⟨px, 10, none⟩ (.int .i64 u')) px 43 (sdc hp jp' q T' v' u') :=
  (((((B.set 1 _).set 6 _).set 7 _).set 8 _).set 9 _).set 10 _
theorem keptk {F : Nat → Prop} {a w : World} (h : Kept F a w) {z : Nat} (hz : F z ∨ a.heap.size ≤ z) (x y u v s t : Value) : Kept F a ((((((w.setCell ⟨z, 1, none⟩ x).setCell ⟨z, 6, none⟩ y).setCell ⟨z, 7, none⟩ u).setCell ⟨z, 8, none⟩ v).setCell ⟨z, 9, none⟩ s).setCell ⟨z, 10, none⟩ t) :=
  (((((h.setCell (p := ⟨z, 1, none⟩) hz x).setCell (p := ⟨z, 6, none⟩) hz y).setCell (p := ⟨z, 7, none⟩) hz u).setCell (p := ⟨z, 8, none⟩) hz v).setCell (p := ⟨z, 9, none⟩) hz s).setCell (p := ⟨z, 10, none⟩) hz t
theorem flat_s1 : ∀ (out : List (List UInt8)), sv (bks out) = (out.map s1).flatten
  | [] => rfl
  | a :: r => by
    have := flat_s1 r
    simp only [sv, bks, List.map_cons, List.flatten_cons] at this ⊢
    rw [this]
    rfl
theorem owns_srows {w : World} {B : Nat} {v : Value} {out : List (List UInt8)} (h : OwnsS w B v (bks out)) : SRows w v 9 1 (out.map s1) :=
  srows_of_own (n := (bks out).length) h (flat_s1 out) (by intro r hr; simp only [List.mem_map] at hr; obtain ⟨b, _, rfl⟩ := hr; rfl) (by decide) (by simp [bks])
theorem ownsS_len {w : World} {B : Nat} {a : Option Addr} {n c : Nat} {l : List ByteArray} (h : OwnsS w B (.slice a n c) l) : n = l.length := by
  rcases h.reads with ⟨h1, a', c', h2⟩ | ⟨b, off, c', h2, _⟩
  · simp only [Value.slice.injEq] at h2; rw [h1]; exact h2.2.1
  · simp only [Value.slice.injEq] at h2; exact h2.2.1
set_option maxRecDepth 4000 in
set_option maxHeartbeats 4000000 in
theorem crash_side {w0 wx : World} {px hp : Nat} {J : Jh} {R : RH} {s : St} {turn : BitVec 64} {u : Nat} {out : List (List UInt8)} {va : Option Addr} {vn vc i : Nat} (o : Sy w0 wx px hp J R s turn u out va vn vc i) (hi : i ≤ 100) (av : Option Addr) (len cap : Nat) (l : List (BitVec 64)) (hv : ReadsI w0 (.slice av len cap) l) (hll : l.length ≤ maxLen) (tn : BitVec 64) (h1 : 1 ≤ tn.toInt) (h2 : tn.toInt ≤ 2 + i) :
    Calls Try.prog 23 #[.pointer (some ⟨px, 0, none⟩), .slice av len cap, .int .i64 tn.toInt] wx (SyAns w0 px hp (s.crashed (among l)) tn (i + 1)) := by
  have cc := crash_any o.jnl.dev (.slice av len cap) l (hv.below o.bel) hll
  rw [o.hpe] at cc
  have HO : Hid (Sy w0 wx px hp J R s turn u out va vn vc i) := o
  have HV : Hid (ReadsI w0 (.slice av len cap) l ∧ l.length ≤ maxLen ∧ 1 ≤ tn.toInt ∧ tn.toInt ≤ 2 + i ∧ i ≤ 100) := ⟨hv, hll, h1, h2, hi⟩
  obtain ⟨sx, hsx⟩ : ∃ sx, sx = s.crashed (among l) := ⟨_, rfl⟩
  have HSX : Hid (sx = s.crashed (among l)) := hsx
  have HSP : Hid (sx.sure.length = 50 ∧ sx.wait = [] ∧ sx.off = false ∧ (∀ b ∈ sx.sure, okB b = true) ∧ lay sx.sure sx.wait = sx.sure) := by
    rw [hsx]
    refine ⟨by show (lay _ _).length = 50; rw [lay_len]; exact o.pu.n50, rfl, rfl, ?_, rfl⟩
    exact lay_mem (p := fun b => okB b = true) _ _ o.pu.ok1 (fun x hx => o.pu.ok2 x (keepW_mem _ _ _ x hx))
  rw [← hsx] at cc ⊢
  have HST : Hid (StOk s) := ⟨o.jnl.dev.fz, fun x hx => (o.jnl.dev.ats x hx).1, o.jnl.dev.top, by have := o.pu.wl; omega⟩
  obtain ⟨jp, hjp⟩ : ∃ jp, jp = J.p := ⟨_, rfl⟩
  obtain ⟨T0, hT0⟩ : ∃ T, T = turn.toInt := ⟨_, rfl⟩
  obtain ⟨TN, hTN⟩ : ∃ T, T = tn.toInt := ⟨_, rfl⟩
  obtain ⟨u0, hu0⟩ : ∃ x : Int, x = (u : Int) := ⟨_, rfl⟩
  have HQE : Hid (∃ sa n1 sc wa n2 wc fz of, rda R s = #[.slice sa n1 sc, .slice wa n2 wc, .int .i64 fz, .bool of]) := ⟨_, _, _, _, _, _, _, _, rfl⟩
  obtain ⟨sa, n1, sc, wa, n2, wc, fz, of, hQ0⟩ := HQE.out
  have HQ0 : Hid (rda R s = #[.slice sa n1 sc, .slice wa n2 wc, .int .i64 fz, .bool of]) := hQ0
  have HBX : Hid (Box wx px 43 (sdc hp jp #[.slice sa n1 sc, .slice wa n2 wc, .int .i64 fz, .bool of] T0 (.slice va vn vc) u0)) := by
    have := o.box
    rw [hQ0, ← hjp, ← hT0, ← hu0] at this
    exact this
  have HTN : Hid (TN = tn.toInt) := hTN
  rw [← hTN]
  have c0 : wx.cell? ⟨px, 0, none⟩ = some (.pointer (some ⟨hp, 0, none⟩)) := HBX.out.cell 0 _ rfl
  clear o hv hll h1 h2 hi hsx hjp hT0 hTN hu0 hQ0 HQE
  go_enter Try.func23, Try.ntmps23
  go_wp2_with fail
  refine Calls.mono cc ?_
  rintro e w1 ⟨rfl, H1, D1, T1⟩
  have B1 := HBX.out.kept T1.kept (fun h => HO.out.np (.inl h))
  have HM1 : Hid (DevIs w1 H1 sx ∧ Box w1 px 43 (sdc hp jp #[.slice sa n1 sc, .slice wa n2 wc, .int .i64 fz, .bool of] T0 (.slice va vn vc) u0) ∧ RefIs w1 (fun x => H1.foot x ∨ x = px) R s.sure s.wait ∧ Below w0.heap.size w0 w1 ∧ H1.p = hp ∧ (∀ x, H1.foot x → w0.heap.size ≤ x) ∧ ¬ H1.foot px) := by
    have o := HO.out
    have hold : ∀ x, x < wx.heap.size → H1.foot x → J.H.foot x := fun x hx h => by
      rcases T1.foot x h with h | h
      · exact h
      · omega
    refine ⟨D1, B1, ?_, o.bel.trans (T1.below (fun x hx => o.own x (.inl hx)) o.bel.size), T1.p.trans o.hpe, T1.above (fun x hx => o.own x (.inl hx)) o.bel.size, fun h => o.np (.inl (hold px o.box.lt h))⟩
    have r1 : RefIs wx (fun x => (J.foot x ∨ H1.foot x) ∨ x = px) R s.sure s.wait := o.ref.grow (fun x hx hn h => by
      rcases h with (h | h) | h
      · exact hn (.inl h)
      · exact hn (.inl (.inl (hold x hx h)))
      · exact hn (.inr h))
    exact (r1.kept T1.kept (fun x hx h => hx (.inl (.inl (.inl h))))).grow (fun x _ hn h => by
      rcases h with h | h
      · exact hn (.inl (.inr h))
      · exact hn (.inr h))
  clear D1 T1 B1 cc c0
  have e0 : w1.cell? ⟨px, 0, none⟩ = some (.pointer (some ⟨hp, 0, none⟩)) := HM1.out.2.1.cell 0 _ rfl
  go_wp2_with fail
  refine wp_region_held_then (fun w' : World => w'.cell? ⟨px, 0, none⟩ = some (.pointer (some ⟨hp, 0, none⟩))) _ (by kernel_rfl) rfl (by kernel_rfl) ?_
  have HS3 : Hid (∀ W, Below w1.heap.size w1 W → (fun w' : World => w'.cell? ⟨px, 0, none⟩ = some (.pointer (some ⟨hp, 0, none⟩))) W) := fun W hW => (HM1.out.2.1.over hW).cell 0 _ rfl
  have hHeld := HS3.out w1.drew (Below.refl _ w1).drew
  dsimp only [List.dropLast, List.length, List.getLast]
  ((refine takeL 0 (v := ?_) rfl (by kernel_rfl) (by kernel_rfl) (by kernel_rfl) (fun _ _ _ h => h) (by rfl) hHeld ?_ ?_; rotate_left; focus (intro w hSw; (try dsimp only at hSw); go_simp <;> with_reducible rfl); (try simp only [Act.put, List.setIfInBounds_toArray, List.set_cons_zero, List.set_cons_succ])); (refine takeL 1 (v := ?_) rfl (by kernel_rfl) (by kernel_rfl) (by kernel_rfl) (fun _ _ _ h => h) (by rfl) hHeld ?_ ?_; rotate_left; focus (intro w hSw; (try dsimp only at hSw); go_simp <;> with_reducible rfl); (try simp only [Act.put, List.setIfInBounds_toArray, List.set_cons_zero, List.set_cons_succ])); (refine takeL 2 (v := ?_) rfl (by kernel_rfl) (by kernel_rfl) (by kernel_rfl) (fun _ _ _ h => h) (by rfl) hHeld ?_ ?_; rotate_left; focus (intro w hSw; (try dsimp only at hSw); go_simp <;> with_reducible rfl); (try simp only [Act.put, List.setIfInBounds_toArray, List.set_cons_zero, List.set_cons_succ])); (refine takeL 3 (v := ?_) rfl (by kernel_rfl) (by kernel_rfl) (by kernel_rfl) (fun _ _ _ h => h) (by rfl) hHeld ?_ ?_; rotate_left; focus (intro w hSw; (try dsimp only at hSw); go_simp <;> with_reducible rfl); (try simp only [Act.put, List.setIfInBounds_toArray, List.set_cons_zero, List.set_cons_succ])); (refine takeL 5 (v := ?_) rfl (by kernel_rfl) (by kernel_rfl) (by kernel_rfl) (fun _ _ _ h => h) (by rfl) hHeld ?_ ?_; rotate_left; focus (intro w hSw; (try dsimp only at hSw); go_simp <;> with_reducible rfl); (try simp only [Act.put, List.setIfInBounds_toArray, List.set_cons_zero, List.set_cons_succ])))
  dsimp only [Act.put]
  simp only [List.setIfInBounds_toArray, List.set_cons_zero, List.set_cons_succ]
  refine callL 4 (f := 7) (vs := #[]) rfl (by kernel_rfl) (by rfl) (by go_simp) ?_
  refine (lat_any _).mono ?_
  rintro e w2 ⟨rfl, b2⟩
  replace b2 := (Below.refl w1.heap.size w1).drew.trans b2
  have hH2 := HS3.out w2 b2
  have co := js_open (turn := tn) (HM1.out.1.below b2) HSP.out.2.2.1 HSP.out.1 HV.out.2.2.1 (by have := HV.out; omega) (by
    rw [HSP.out.2.2.2.2]
    intro b hb
    exact HSP.out.2.2.2.1 b (List.mem_of_mem_drop (List.mem_of_mem_take hb)))
  rw [HM1.out.2.2.2.2.1, ← HTN.out] at co
  refine ⟨_, rfl, hH2, ?_⟩
  try dsimp only [Act.put]
  try simp only [List.setIfInBounds_toArray, List.set_cons_zero, List.set_cons_succ]
  refine callL 6 (f := 18) (vs := #[.pointer (some ⟨hp, 0, none⟩), .agg #[.int .i64 3, .int .i64 40], .int .i64 TN]) rfl (by kernel_rfl) (by rfl) (by go_simp) ?_
  refine Calls.mono co ?_
  rintro e w3 ⟨⟨K, u1, out1, rfl, hKH, jk, hrk, hu1, hKp, hKr⟩, b3⟩
  have b13 := b2.trans (b3.mono b2.size)
  have hH3 := HS3.out w3 b13
  rw [HSP.out.2.2.2.2] at hrk
  obtain ⟨kp, hkp⟩ : ∃ kp, kp = K.p := ⟨_, rfl⟩
  rw [← hkp]
  have hnew : ∀ x, K.foot x → H1.foot x ∨ w1.heap.size ≤ x := fun x hx => by
    have := b2.size
    rcases hx with hx | hx | hx
    · rw [hKH] at hx; exact .inl hx
    · right; omega
    · right; have := hKr x hx; omega
  have HM3 : Hid (Jnl w3 K sx 3 40 tn u1 out1 ∧ Box w3 px 43 (sdc hp jp #[.slice sa n1 sc, .slice wa n2 wc, .int .i64 fz, .bool of] T0 (.slice va vn vc) u0) ∧ RefIs w3 (fun x => K.foot x ∨ x = px) R s.sure s.wait ∧ Below w0.heap.size w0 w3 ∧ kp = K.p ∧ K.H.p = hp ∧ (∀ x, K.foot x → w0.heap.size ≤ x) ∧ ¬ K.foot px ∧ Recs (extL sx.sure 3 40) tn out1 u1 ∧ u1 ≤ 40) := by
    have m := HM1.out
    refine ⟨jk, m.2.1.over b13, ?_, m.2.2.2.1.trans (b13.mono m.2.2.2.1.size), hkp, by rw [hKH]; exact m.2.2.2.2.1, fun x hx => ?_, fun h => ?_, hrk, hu1⟩
    · exact (m.2.2.1.grow (fun x hx hn h => by
        rcases h with h | h
        · rcases hnew x h with h | h
          · exact hn (.inl h)
          · omega
        · exact hn (.inr h))).below b13
    · rcases hnew x hx with h | h
      · exact m.2.2.2.2.2.1 x h
      · have := m.2.2.2.1.size; omega
    · rcases hnew px h with h | h
      · exact m.2.2.2.2.2.2 h
      · have := m.2.1.lt; omega
  clear jk hrk hu1 hKp hKr hKH hnew b13 b2 b3 co hkp e0
  refine ⟨_, rfl, hH3, ?_⟩
  try dsimp only [Act.put]
  try simp only [List.setIfInBounds_toArray, List.set_cons_zero, List.set_cons_succ]
  ((refine takeL 7 (v := ?_) rfl (by kernel_rfl) (by kernel_rfl) (by kernel_rfl) (fun _ _ _ h => h) (by rfl) hH3 ?_ ?_; rotate_left; focus (intro w hSw; (try dsimp only at hSw); go_simp <;> with_reducible rfl); (try simp only [Act.put, List.setIfInBounds_toArray, List.set_cons_zero, List.set_cons_succ])); (refine takeL 8 (v := ?_) rfl (by kernel_rfl) (by kernel_rfl) (by kernel_rfl) (fun _ _ _ h => h) (by rfl) hH3 ?_ ?_; rotate_left; focus (intro w hSw; (try dsimp only at hSw); go_simp <;> with_reducible rfl); (try simp only [Act.put, List.setIfInBounds_toArray, List.set_cons_zero, List.set_cons_succ])); (refine takeL 9 (v := ?_) rfl (by kernel_rfl) (by kernel_rfl) (by kernel_rfl) (fun _ _ _ h => h) (by rfl) hH3 ?_ ?_; rotate_left; focus (intro w hSw; (try dsimp only at hSw); go_simp <;> with_reducible rfl); (try simp only [Act.put, List.setIfInBounds_toArray, List.set_cons_zero, List.set_cons_succ])))
  dsimp only [Act.put]
  simp only [List.setIfInBounds_toArray, List.set_cons_zero, List.set_cons_succ]
  refine newL 10 w3 (.pointer (some ⟨kp, 0, none⟩)) rfl (by kernel_rfl) (by rfl) (by go_simp) hH3 ?_
  refine doneL (by kernel_rfl) ?_
  try dsimp only [Act.put]
  unfold Oper.wp
  clear hHeld hH2 hH3 HS3
  have g2 : w3.cell? ⟨px, 2, none⟩ = some (.slice sa n1 sc) := HM3.out.2.1.cell 2 _ rfl
  have g3 : w3.cell? ⟨px, 3, none⟩ = some (.slice wa n2 wc) := HM3.out.2.1.cell 3 _ rfl
  have g4 : w3.cell? ⟨px, 4, none⟩ = some (.int .i64 fz) := HM3.out.2.1.cell 4 _ rfl
  have g5 : w3.cell? ⟨px, 5, none⟩ = some (.bool of) := HM3.out.2.1.cell 5 _ rfl
  have rc := rcrash_ok HM3.out.2.2.1 (fun x hx => by
    rcases hx with hx | hx
    · exact HM3.out.1.lt hx
    · rw [hx]; exact HM3.out.2.1.lt) HST.out (.slice av len cap) l (HV.out.1.below HM3.out.2.2.2.1) HV.out.2.1
  rw [HQ0.out, ← HSX.out] at rc
  go_simp
  go_wp2_with fail
  refine Calls.mono rc ?_
  rintro e w4 ⟨⟨R4, rfl, r4⟩, b4⟩
  have HQF : Hid (∃ qa m1 qc pa m2 pc fy oy, rda R4 sx = #[.slice qa m1 qc, .slice pa m2 pc, .int .i64 fy, .bool oy]) := ⟨_, _, _, _, _, _, _, _, rfl⟩
  obtain ⟨qa, m1, qc, pa, m2, pc, fy, oy, hQ4⟩ := HQF.out
  have HQ4 : Hid (rda R4 sx = #[.slice qa m1 qc, .slice pa m2 pc, .int .i64 fy, .bool oy]) := hQ4
  rw [hQ4]
  have B4 := HM3.out.2.1.over b4
  have t2 := B4.cell 2 (.slice sa n1 sc) rfl
  have t3 := B4.cell 3 (.slice wa n2 wc) rfl
  have t4 := B4.cell 4 (.int .i64 fz) rfl
  have t5 := B4.cell 5 (.bool of) rfl
  have y2 := B4.frozen 2
  have y3 := B4.frozen 3
  have y4 := B4.frozen 4
  have y5 := B4.frozen 5
  have K4 := keptq (Kept.refl (fun x => x = px) w4) (.inl rfl) (.slice qa m1 qc) (.slice pa m2 pc) (.int .i64 fy) (.bool oy)
  have HM4 : Hid (Unit → Jnl ((((w4.setCell ⟨px, 2, none⟩ (.slice qa m1 qc)).setCell ⟨px, 3, none⟩ (.slice pa m2 pc)).setCell ⟨px, 4, none⟩ (.int .i64 fy)).setCell ⟨px, 5, none⟩ (.bool oy)) K sx 3 40 tn u1 out1 ∧ Box ((((w4.setCell ⟨px, 2, none⟩ (.slice qa m1 qc)).setCell ⟨px, 3, none⟩ (.slice pa m2 pc)).setCell ⟨px, 4, none⟩ (.int .i64 fy)).setCell ⟨px, 5, none⟩ (.bool oy)) px 43 (sdc hp jp #[.slice qa m1 qc, .slice pa m2 pc, .int .i64 fy, .bool oy] T0 (.slice va vn vc) u0) ∧ RefIs ((((w4.setCell ⟨px, 2, none⟩ (.slice qa m1 qc)).setCell ⟨px, 3, none⟩ (.slice pa m2 pc)).setCell ⟨px, 4, none⟩ (.int .i64 fy)).setCell ⟨px, 5, none⟩ (.bool oy)) (fun x => K.foot x ∨ x = px) R4 sx.sure sx.wait ∧ Below w0.heap.size w0 ((((w4.setCell ⟨px, 2, none⟩ (.slice qa m1 qc)).setCell ⟨px, 3, none⟩ (.slice pa m2 pc)).setCell ⟨px, 4, none⟩ (.int .i64 fy)).setCell ⟨px, 5, none⟩ (.bool oy))) := fun _ => by
    have m := HM3.out
    have bb := m.2.2.2.1.trans (b4.mono m.2.2.2.1.size)
    exact ⟨(m.1.over b4).keptF K4 (fun x hx e => m.2.2.2.2.2.2.2.1 (by rw [← e]; exact hx)), sd_q B4, r4.kept K4 (fun x hx e => hx (.inr e)), bb.trans (K4.below (fun x hx => by rw [hx]; exact HO.out.pw) bb.size)⟩
  clear hQ4 HQF B4 r4 b4 rc g2 g3 g4 g5 K4
  go_wp2_with fail
  obtain ⟨W5, hW5⟩ : ∃ W5, W5 = ((((w4.setCell ⟨px, 2, none⟩ (.slice qa m1 qc)).setCell ⟨px, 3, none⟩ (.slice pa m2 pc)).setCell ⟨px, 4, none⟩ (.int .i64 fy)).setCell ⟨px, 5, none⟩ (.bool oy)) := ⟨_, rfl⟩
  rw [← hW5] at HM4 ⊢
  have HM5 : Hid (Jnl W5 K sx 3 40 tn u1 out1 ∧ Box W5 px 43 (sdc hp jp #[.slice qa m1 qc, .slice pa m2 pc, .int .i64 fy, .bool oy] T0 (.slice va vn vc) u0) ∧ RefIs W5 (fun x => K.foot x ∨ x = px) R4 sx.sure sx.wait ∧ Below w0.heap.size w0 W5) := HM4.out ()
  clear hW5 HM4 t2 t3 t4 t5 y2 y3 y4 y5
  have HS5 : Hid (∀ W, Below W5.heap.size W5 W → (fun w' : World => w'.cell? ⟨px, 2, none⟩ = some (.slice qa m1 qc) ∧ w'.cell? ⟨px, 3, none⟩ = some (.slice pa m2 pc) ∧ w'.cell? ⟨px, 4, none⟩ = some (.int .i64 fy) ∧ w'.cell? ⟨px, 5, none⟩ = some (.bool oy)) W) := fun W hW => by
    have b := HM5.out.2.1.over hW
    exact ⟨b.cell 2 _ rfl, b.cell 3 _ rfl, b.cell 4 _ rfl, b.cell 5 _ rfl⟩
  have HREF : Hid (∀ W, Below W5.heap.size W5 W → Calls Try.prog 43 #[.agg #[.slice qa m1 qc, .slice pa m2 pc, .int .i64 fy, .bool oy], .agg #[.int .i64 3, .int .i64 40], .int .i64 TN] W fun e w' => (∃ va1 vn1 vc1, e = .returned (.tuple #[.agg #[.int .i64 3, .int .i64 40, .int .i64 TN, .slice va1 vn1 vc1, .int .i64 u1], .int .i64 0]) ∧ SRows w' (.slice va1 vn1 vc1) 9 1 (out1.map s1) ∧ (∀ x, (Value.slice va1 vn1 vc1).ownBlock = some x → W.heap.size ≤ x) ∧ vn1 = out1.length) ∧ Below W.heap.size W w') := fun W hW => by
    have r := HM5.out.2.2.1.below hW
    have hsp := HSP.out
    have c9 := refOpen_on (w := W) r.sure r.wait (by omega) (by rw [hsp.2.1]; simp) (by rw [hsp.2.2.2.2]; exact fun b hb => (HM5.out.1.dev.blk b hb)) sx.fz 3 40 (by omega) (by omega) tn (by rw [hsp.1]; exact may_at HV.out.2.2.1 (by have := HV.out; omega))
    have e9 : (#[.slice R4.sa sx.sure.length R4.sc, .slice R4.wa sx.wait.length R4.wc, .int .i64 sx.fz, .bool false] : Array Value) = #[.slice qa m1 qc, .slice pa m2 pc, .int .i64 fy, .bool oy] := by
      rw [← HQ4.out, rda, hsp.2.2.1]
    rw [e9, ← HTN.out] at c9
    refine Calls.mono c9 ?_
    intro e w' h
    rw [hsp.2.2.2.2] at h
    obtain ⟨⟨va1, vn1, vc1, h3, h4⟩, h5⟩ := refOpen_same (fun b hb => hsp.2.2.2.1 b (List.mem_of_mem_drop (List.mem_of_mem_take hb))) HM3.out.2.2.2.2.2.2.2.2.1 h
    refine ⟨⟨va1, vn1, vc1, ?_, owns_srows h4, fun x hx => (h4.lt x hx).1, ?_⟩, h5⟩
    · rw [h3, ← HTN.out]
      rfl
    · have := ownsS_len h4
      simpa [bks] using this
  go_cut [9, 10] (fun s9 s10 wy => ∃ (ga : Nat) (va1 : Option Addr) (vn1 vc1 : Nat) (W6 : World), s9 = .pointer (some ⟨ga, 0, none⟩) ∧ s10 = .int .i64 0 ∧ wy = W6 ∧ Jnl W6 K sx 3 40 tn u1 out1 ∧ Box W6 px 43 #[.pointer (some ⟨hp, 0, none⟩), .pointer (some ⟨jp, 0, none⟩), .slice qa m1 qc, .slice pa m2 pc, .int .i64 fy, .bool oy, .int .i64 3, .int .i64 40, .int .i64 T0, .slice va vn vc, .int .i64 u0] ∧ RefIs W6 (fun x => K.foot x ∨ x = px) R4 sx.sure sx.wait ∧ SRows W6 (.slice va1 vn1 vc1) 9 1 (out1.map s1) ∧ (∀ x, (Value.slice va1 vn1 vc1).ownBlock = some x → ¬ K.foot x ∧ x ≠ px) ∧ Box W6 ga 41 #[.int .i64 3, .int .i64 40, .int .i64 TN, .slice va1 vn1 vc1, .int .i64 u1] ∧ Below w0.heap.size w0 W6 ∧ vn1 = out1.length)
  case first =>
    refine wp_region_held_then (fun w' : World => w'.cell? ⟨px, 2, none⟩ = some (.slice qa m1 qc) ∧ w'.cell? ⟨px, 3, none⟩ = some (.slice pa m2 pc) ∧ w'.cell? ⟨px, 4, none⟩ = some (.int .i64 fy) ∧ w'.cell? ⟨px, 5, none⟩ = some (.bool oy)) _ (by kernel_rfl) rfl (by kernel_rfl) ?_
    have hHeld := HS5.out W5.drew (Below.refl _ W5).drew
    have hHeldA := HS5.out (W5.drew.alloc (.cells #[.int .i64 0, .int .i64 0, .int .i64 0, .slice none 0 0, .int .i64 0] 41)) ((Below.refl W5.heap.size W5).drew.alloc (Nat.le_refl _) _)
    dsimp only [List.dropLast, List.length, List.getLast]
    ((refine takeL 0 (v := ?_) rfl (by kernel_rfl) (by kernel_rfl) (by kernel_rfl) (fun _ _ _ h => h) (by rfl) hHeld ?_ ?_; rotate_left; focus (intro w hSw; (try dsimp only at hSw); go_simp <;> with_reducible rfl); (try simp only [Act.put, List.setIfInBounds_toArray, List.set_cons_zero, List.set_cons_succ])); (refine takeL 1 (v := ?_) rfl (by kernel_rfl) (by kernel_rfl) (by kernel_rfl) (fun _ _ _ h => h) (by rfl) hHeld ?_ ?_; rotate_left; focus (intro w hSw; (try dsimp only at hSw); go_simp <;> with_reducible rfl); (try simp only [Act.put, List.setIfInBounds_toArray, List.set_cons_zero, List.set_cons_succ])); (refine takeL 2 (v := ?_) rfl (by kernel_rfl) (by kernel_rfl) (by kernel_rfl) (fun _ _ _ h => h) (by rfl) hHeld ?_ ?_; rotate_left; focus (intro w hSw; (try dsimp only at hSw); go_simp <;> with_reducible rfl); (try simp only [Act.put, List.setIfInBounds_toArray, List.set_cons_zero, List.set_cons_succ])); (refine takeL 3 (v := ?_) rfl (by kernel_rfl) (by kernel_rfl) (by kernel_rfl) (fun _ _ _ h => h) (by rfl) hHeld ?_ ?_; rotate_left; focus (intro w hSw; (try dsimp only at hSw); go_simp <;> with_reducible rfl); (try simp only [Act.put, List.setIfInBounds_toArray, List.set_cons_zero, List.set_cons_succ])); (refine takeL 5 (v := ?_) rfl (by kernel_rfl) (by kernel_rfl) (by kernel_rfl) (fun _ _ _ h => h) (by rfl) hHeld ?_ ?_; rotate_left; focus (intro w hSw; (try dsimp only at hSw); go_simp <;> with_reducible rfl); (try simp only [Act.put, List.setIfInBounds_toArray, List.set_cons_zero, List.set_cons_succ])))
    dsimp only [Act.put]
    simp only [List.setIfInBounds_toArray, List.set_cons_zero, List.set_cons_succ]
    refine callNewL 4 10 (f := 7) (vs := #[]) (W5.drew.alloc (.cells #[.int .i64 0, .int .i64 0, .int .i64 0, .slice none 0 0, .int .i64 0] 41)) (.pointer (some ⟨W5.heap.size, 0, none⟩)) rfl rfl (by kernel_rfl) (by rfl) (by rfl) (by go_simp) (by go_simp) hHeldA ?_ ?_
    · refine (lat_any _).mono ?_
      rintro e w7 ⟨rfl, b7⟩
      replace b7 := (Below.refl W5.heap.size W5).drew.trans b7
      have hH7 := HS5.out w7 b7
      refine ⟨_, rfl, hH7, ?_⟩
      try dsimp only [Act.put]
      try simp only [List.setIfInBounds_toArray, List.set_cons_zero, List.set_cons_succ]
      refine callNewL 6 10 (f := 43) (vs := #[.agg #[.slice qa m1 qc, .slice pa m2 pc, .int .i64 fy, .bool oy], .agg #[.int .i64 3, .int .i64 40], .int .i64 TN]) (w7.alloc (.cells #[.int .i64 0, .int .i64 0, .int .i64 0, .slice none 0 0, .int .i64 0] 41)) (.pointer (some ⟨w7.heap.size, 0, none⟩)) rfl rfl (by kernel_rfl) (by rfl) (by rfl) (by go_simp) (by go_simp) (HS5.out _ (b7.trans (((Below.refl w7.heap.size w7).alloc (Nat.le_refl _) _).mono b7.size))) ?_ ?_
      · refine Calls.mono (HREF.out w7 b7) ?_
        rintro e w8 ⟨⟨va1, vn1, vc1, rfl, hls, hown1, hvn1⟩, b8⟩
        have b58 := b7.trans (b8.mono b7.size)
        have hH8 := HS5.out w8 b58
        refine ⟨_, rfl, hH8, ?_⟩
        try dsimp only [Act.put]
        try simp only [List.setIfInBounds_toArray, List.set_cons_zero, List.set_cons_succ]
        ((refine takeL 7 (v := ?_) rfl (by kernel_rfl) (by kernel_rfl) (by kernel_rfl) (fun _ _ _ h => h) (by rfl) hH8 ?_ ?_; rotate_left; focus (intro w hSw; (try dsimp only at hSw); go_simp <;> with_reducible rfl); (try simp only [Act.put, List.setIfInBounds_toArray, List.set_cons_zero, List.set_cons_succ])); (refine takeL 8 (v := ?_) rfl (by kernel_rfl) (by kernel_rfl) (by kernel_rfl) (fun _ _ _ h => h) (by rfl) hH8 ?_ ?_; rotate_left; focus (intro w hSw; (try dsimp only at hSw); go_simp <;> with_reducible rfl); (try simp only [Act.put, List.setIfInBounds_toArray, List.set_cons_zero, List.set_cons_succ])); (refine takeL 9 (v := ?_) rfl (by kernel_rfl) (by kernel_rfl) (by kernel_rfl) (fun _ _ _ h => h) (by rfl) hH8 ?_ ?_; rotate_left; focus (intro w hSw; (try dsimp only at hSw); go_simp <;> with_reducible rfl); (try simp only [Act.put, List.setIfInBounds_toArray, List.set_cons_zero, List.set_cons_succ])))
        dsimp only [Act.put]
        simp only [List.setIfInBounds_toArray, List.set_cons_zero, List.set_cons_succ]
        have bl := below1 w8 (.cells #[.int .i64 0, .int .i64 0, .int .i64 0, .slice none 0 0, .int .i64 0] 41)
        have bW := b58.trans (bl.mono b58.size)
        refine newL 10 (w8.alloc (.cells #[.int .i64 0, .int .i64 0, .int .i64 0, .slice none 0 0, .int .i64 0] 41)) (.pointer (some ⟨w8.heap.size, 0, none⟩)) rfl (by kernel_rfl) (by rfl) (by go_simp) (HS5.out _ bW) ?_
        try dsimp only [Act.put]
        try simp only [List.setIfInBounds_toArray, List.set_cons_zero, List.set_cons_succ]
        have GA := box_new w8 #[.int .i64 0, .int .i64 0, .int .i64 0, .slice none 0 0, .int .i64 0] 41
        have LS := hls.over bl
        have hga : W5.heap.size ≤ w8.heap.size := b58.size
        have lo : ∀ x, (Value.slice va1 vn1 vc1).ownBlock = some x → W5.heap.size ≤ x ∧ x ≠ w8.heap.size := fun x hx => ⟨Nat.le_trans b7.size (hown1 x hx), fun e => by have := hls.lt hx; omega⟩
        obtain ⟨ga, hgaa⟩ : ∃ ga, ga = w8.heap.size := ⟨_, rfl⟩
        obtain ⟨W, hWW⟩ : ∃ W, W = w8.alloc (.cells #[.int .i64 0, .int .i64 0, .int .i64 0, .slice none 0 0, .int .i64 0] 41) := ⟨_, rfl⟩
        rw [← hgaa] at GA hga lo ⊢
        rw [← hWW] at GA LS bW ⊢
        clear hgaa hWW bl hls hown1 b58 b8 hH8
        have h5 := HM5.out
        have q0 := GA.cell 0 (.int .i64 0) rfl
        have q1 := GA.cell 1 (.int .i64 0) rfl
        have q2 := GA.cell 2 (.int .i64 0) rfl
        have q3 := GA.cell 3 (.slice none 0 0) rfl
        have q4 := GA.cell 4 (.int .i64 0) rfl
        have f0 := GA.frozen 0
        have f1 := GA.frozen 1
        have f2 := GA.frozen 2
        have f3 := GA.frozen 3
        have f4 := GA.frozen 4
        have X5 := box_five GA (.int .i64 3) (.int .i64 40) (.int .i64 TN) (.slice va1 vn1 vc1) (.int .i64 u1)
        have K5 := kept_five (F := fun x => x = ga) (Kept.refl _ W) (.inl rfl) (.int .i64 3) (.int .i64 40) (.int .i64 TN) (.slice va1 vn1 vc1) (.int .i64 u1)
        have BP := (h5.2.1.over bW).kept K5 (fun e => by have := h5.2.1.lt; omega)
        have hsF : (fun w' : World => w'.cell? ⟨px, 2, none⟩ = some (.slice qa m1 qc) ∧ w'.cell? ⟨px, 3, none⟩ = some (.slice pa m2 pc) ∧ w'.cell? ⟨px, 4, none⟩ = some (.int .i64 fy) ∧ w'.cell? ⟨px, 5, none⟩ = some (.bool oy)) (((((W.setCell ⟨ga, 0, none⟩ (.int .i64 3)).setCell ⟨ga, 1, none⟩ (.int .i64 40)).setCell ⟨ga, 2, none⟩ (.int .i64 TN)).setCell ⟨ga, 3, none⟩ (.slice va1 vn1 vc1)).setCell ⟨ga, 4, none⟩ (.int .i64 u1)) := ⟨BP.cell 2 _ rfl, BP.cell 3 _ rfl, BP.cell 4 _ rfl, BP.cell 5 _ rfl⟩
        have HFF : Hid (Unit → Jnl (((((W.setCell ⟨ga, 0, none⟩ (.int .i64 3)).setCell ⟨ga, 1, none⟩ (.int .i64 40)).setCell ⟨ga, 2, none⟩ (.int .i64 TN)).setCell ⟨ga, 3, none⟩ (.slice va1 vn1 vc1)).setCell ⟨ga, 4, none⟩ (.int .i64 u1)) K sx 3 40 tn u1 out1 ∧ Box (((((W.setCell ⟨ga, 0, none⟩ (.int .i64 3)).setCell ⟨ga, 1, none⟩ (.int .i64 40)).setCell ⟨ga, 2, none⟩ (.int .i64 TN)).setCell ⟨ga, 3, none⟩ (.slice va1 vn1 vc1)).setCell ⟨ga, 4, none⟩ (.int .i64 u1)) px 43 #[.pointer (some ⟨hp, 0, none⟩), .pointer (some ⟨jp, 0, none⟩), .slice qa m1 qc, .slice pa m2 pc, .int .i64 fy, .bool oy, .int .i64 3, .int .i64 40, .int .i64 T0, .slice va vn vc, .int .i64 u0] ∧ RefIs (((((W.setCell ⟨ga, 0, none⟩ (.int .i64 3)).setCell ⟨ga, 1, none⟩ (.int .i64 40)).setCell ⟨ga, 2, none⟩ (.int .i64 TN)).setCell ⟨ga, 3, none⟩ (.slice va1 vn1 vc1)).setCell ⟨ga, 4, none⟩ (.int .i64 u1)) (fun x => K.foot x ∨ x = px) R4 sx.sure sx.wait ∧ SRows (((((W.setCell ⟨ga, 0, none⟩ (.int .i64 3)).setCell ⟨ga, 1, none⟩ (.int .i64 40)).setCell ⟨ga, 2, none⟩ (.int .i64 TN)).setCell ⟨ga, 3, none⟩ (.slice va1 vn1 vc1)).setCell ⟨ga, 4, none⟩ (.int .i64 u1)) (.slice va1 vn1 vc1) 9 1 (out1.map s1) ∧ (∀ x, (Value.slice va1 vn1 vc1).ownBlock = some x → ¬ K.foot x ∧ x ≠ px) ∧ Box (((((W.setCell ⟨ga, 0, none⟩ (.int .i64 3)).setCell ⟨ga, 1, none⟩ (.int .i64 40)).setCell ⟨ga, 2, none⟩ (.int .i64 TN)).setCell ⟨ga, 3, none⟩ (.slice va1 vn1 vc1)).setCell ⟨ga, 4, none⟩ (.int .i64 u1)) ga 41 #[.int .i64 3, .int .i64 40, .int .i64 TN, .slice va1 vn1 vc1, .int .i64 u1] ∧ Below w0.heap.size w0 (((((W.setCell ⟨ga, 0, none⟩ (.int .i64 3)).setCell ⟨ga, 1, none⟩ (.int .i64 40)).setCell ⟨ga, 2, none⟩ (.int .i64 TN)).setCell ⟨ga, 3, none⟩ (.slice va1 vn1 vc1)).setCell ⟨ga, 4, none⟩ (.int .i64 u1)) ∧ vn1 = out1.length) := fun _ =>
          ⟨(h5.1.over bW).keptF K5 (fun x hx e => by have := h5.1.lt hx; omega), BP, (h5.2.2.1.below bW).keptL K5 (fun x hx e => by have := h5.2.2.1.sure.lt hx; omega) (fun x hx e => by have := h5.2.2.1.wait.lt hx; omega), LS.kept K5 (fun x hx e => (lo x hx).2 e), fun x hx => ⟨fun h => by have := h5.1.lt h; have := (lo x hx).1; omega, fun e => by have := h5.2.1.lt; have := (lo x hx).1; omega⟩, X5, (h5.2.2.2.trans (bW.mono h5.2.2.2.size)).trans (K5.below (fun x hx => by rw [hx]; have := h5.2.2.2.size; omega) (Nat.le_trans h5.2.2.2.size bW.size)), hvn1⟩
        clear h5 GA X5 K5 BP LS lo bW
        refine stepL 11 (((((W.setCell ⟨ga, 0, none⟩ (.int .i64 3)).setCell ⟨ga, 1, none⟩ (.int .i64 40)).setCell ⟨ga, 2, none⟩ (.int .i64 TN)).setCell ⟨ga, 3, none⟩ (.slice va1 vn1 vc1)).setCell ⟨ga, 4, none⟩ (.int .i64 u1)) rfl (by kernel_rfl) (by rfl) (by go_simp) hsF ?_
        try dsimp only [Act.put]
        try simp only [List.setIfInBounds_toArray, List.set_cons_zero, List.set_cons_succ]
        obtain ⟨W6, hW6⟩ : ∃ W6, W6 = (((((W.setCell ⟨ga, 0, none⟩ (.int .i64 3)).setCell ⟨ga, 1, none⟩ (.int .i64 40)).setCell ⟨ga, 2, none⟩ (.int .i64 TN)).setCell ⟨ga, 3, none⟩ (.slice va1 vn1 vc1)).setCell ⟨ga, 4, none⟩ (.int .i64 u1)) := ⟨_, rfl⟩
        rw [← hW6] at HFF ⊢
        clear hW6 q0 q1 q2 q3 q4 f0 f1 f2 f3 f4 hsF
        refine doneL (by kernel_rfl) ?_
        try dsimp only [Act.put]
        try simp only [List.setIfInBounds_toArray, List.set_cons_zero, List.set_cons_succ]
        unfold Oper.wp
        go_simp
        go_wp2_with fail
        go_meet
        exact ⟨ga, va1, vn1, vc1, W6, rfl, rfl, rfl, HFF.out ()⟩
      · try dsimp only [Act.put]
        try simp only [List.setIfInBounds_toArray, List.set_cons_zero, List.set_cons_succ]
        have bl := (Below.refl w7.heap.size w7).alloc (Nat.le_refl _) (.cells #[.int .i64 0, .int .i64 0, .int .i64 0, .slice none 0 0, .int .i64 0] 41)
        have b77 := b7.trans (bl.mono b7.size)
        refine callL 6 (f := 43) (vs := #[.agg #[.slice qa m1 qc, .slice pa m2 pc, .int .i64 fy, .bool oy], .agg #[.int .i64 3, .int .i64 40], .int .i64 TN]) rfl (by kernel_rfl) (by rfl) (by go_simp) ?_
        refine Calls.mono (HREF.out _ b77) ?_
        rintro e w8 ⟨⟨va1, vn1, vc1, rfl, hls, hown1, hvn1⟩, b8⟩
        have bW := b77.trans (b8.mono b77.size)
        have hH8 := HS5.out w8 bW
        refine ⟨_, rfl, hH8, ?_⟩
        try dsimp only [Act.put]
        try simp only [List.setIfInBounds_toArray, List.set_cons_zero, List.set_cons_succ]
        ((refine takeL 7 (v := ?_) rfl (by kernel_rfl) (by kernel_rfl) (by kernel_rfl) (fun _ _ _ h => h) (by rfl) hH8 ?_ ?_; rotate_left; focus (intro w hSw; (try dsimp only at hSw); go_simp <;> with_reducible rfl); (try simp only [Act.put, List.setIfInBounds_toArray, List.set_cons_zero, List.set_cons_succ])); (refine takeL 8 (v := ?_) rfl (by kernel_rfl) (by kernel_rfl) (by kernel_rfl) (fun _ _ _ h => h) (by rfl) hH8 ?_ ?_; rotate_left; focus (intro w hSw; (try dsimp only at hSw); go_simp <;> with_reducible rfl); (try simp only [Act.put, List.setIfInBounds_toArray, List.set_cons_zero, List.set_cons_succ])); (refine takeL 9 (v := ?_) rfl (by kernel_rfl) (by kernel_rfl) (by kernel_rfl) (fun _ _ _ h => h) (by rfl) hH8 ?_ ?_; rotate_left; focus (intro w hSw; (try dsimp only at hSw); go_simp <;> with_reducible rfl); (try simp only [Act.put, List.setIfInBounds_toArray, List.set_cons_zero, List.set_cons_succ])))
        dsimp only [Act.put]
        simp only [List.setIfInBounds_toArray, List.set_cons_zero, List.set_cons_succ]
        have GA := (box_new w7 #[.int .i64 0, .int .i64 0, .int .i64 0, .slice none 0 0, .int .i64 0] 41).over b8
        have LS := hls
        have hga : W5.heap.size ≤ w7.heap.size := b7.size
        have lo : ∀ x, (Value.slice va1 vn1 vc1).ownBlock = some x → W5.heap.size ≤ x ∧ x ≠ w7.heap.size := fun x hx => by
          have := hown1 x hx
          simp at this
          have := b7.size
          exact ⟨by omega, by omega⟩
        obtain ⟨ga, hgaa⟩ : ∃ ga, ga = w7.heap.size := ⟨_, rfl⟩
        obtain ⟨W, hWW⟩ : ∃ W, W = w8 := ⟨_, rfl⟩
        replace GA : Box W ga 41 #[.int .i64 0, .int .i64 0, .int .i64 0, .slice none 0 0, .int .i64 0] := by rw [hWW, hgaa]; exact GA
        replace LS : SRows W (.slice va1 vn1 vc1) 9 1 (out1.map s1) := by rw [hWW]; exact LS
        replace bW : Below W5.heap.size W5 W := by rw [hWW]; exact bW
        rw [← hgaa] at hga lo ⊢
        rw [← hWW]
        clear hgaa hWW bl hls hown1 b77 b8 hH8
        have h5 := HM5.out
        have q0 := GA.cell 0 (.int .i64 0) rfl
        have q1 := GA.cell 1 (.int .i64 0) rfl
        have q2 := GA.cell 2 (.int .i64 0) rfl
        have q3 := GA.cell 3 (.slice none 0 0) rfl
        have q4 := GA.cell 4 (.int .i64 0) rfl
        have f0 := GA.frozen 0
        have f1 := GA.frozen 1
        have f2 := GA.frozen 2
        have f3 := GA.frozen 3
        have f4 := GA.frozen 4
        have X5 := box_five GA (.int .i64 3) (.int .i64 40) (.int .i64 TN) (.slice va1 vn1 vc1) (.int .i64 u1)
        have K5 := kept_five (F := fun x => x = ga) (Kept.refl _ W) (.inl rfl) (.int .i64 3) (.int .i64 40) (.int .i64 TN) (.slice va1 vn1 vc1) (.int .i64 u1)
        have BP := (h5.2.1.over bW).kept K5 (fun e => by have := h5.2.1.lt; omega)
        have hsF : (fun w' : World => w'.cell? ⟨px, 2, none⟩ = some (.slice qa m1 qc) ∧ w'.cell? ⟨px, 3, none⟩ = some (.slice pa m2 pc) ∧ w'.cell? ⟨px, 4, none⟩ = some (.int .i64 fy) ∧ w'.cell? ⟨px, 5, none⟩ = some (.bool oy)) (((((W.setCell ⟨ga, 0, none⟩ (.int .i64 3)).setCell ⟨ga, 1, none⟩ (.int .i64 40)).setCell ⟨ga, 2, none⟩ (.int .i64 TN)).setCell ⟨ga, 3, none⟩ (.slice va1 vn1 vc1)).setCell ⟨ga, 4, none⟩ (.int .i64 u1)) := ⟨BP.cell 2 _ rfl, BP.cell 3 _ rfl, BP.cell 4 _ rfl, BP.cell 5 _ rfl⟩
        have HFF : Hid (Unit → Jnl (((((W.setCell ⟨ga, 0, none⟩ (.int .i64 3)).setCell ⟨ga, 1, none⟩ (.int .i64 40)).setCell ⟨ga, 2, none⟩ (.int .i64 TN)).setCell ⟨ga, 3, none⟩ (.slice va1 vn1 vc1)).setCell ⟨ga, 4, none⟩ (.int .i64 u1)) K sx 3 40 tn u1 out1 ∧ Box (((((W.setCell ⟨ga, 0, none⟩ (.int .i64 3)).setCell ⟨ga, 1, none⟩ (.int .i64 40)).setCell ⟨ga, 2, none⟩ (.int .i64 TN)).setCell ⟨ga, 3, none⟩ (.slice va1 vn1 vc1)).setCell ⟨ga, 4, none⟩ (.int .i64 u1)) px 43 #[.pointer (some ⟨hp, 0, none⟩), .pointer (some ⟨jp, 0, none⟩), .slice qa m1 qc, .slice pa m2 pc, .int .i64 fy, .bool oy, .int .i64 3, .int .i64 40, .int .i64 T0, .slice va vn vc, .int .i64 u0] ∧ RefIs (((((W.setCell ⟨ga, 0, none⟩ (.int .i64 3)).setCell ⟨ga, 1, none⟩ (.int .i64 40)).setCell ⟨ga, 2, none⟩ (.int .i64 TN)).setCell ⟨ga, 3, none⟩ (.slice va1 vn1 vc1)).setCell ⟨ga, 4, none⟩ (.int .i64 u1)) (fun x => K.foot x ∨ x = px) R4 sx.sure sx.wait ∧ SRows (((((W.setCell ⟨ga, 0, none⟩ (.int .i64 3)).setCell ⟨ga, 1, none⟩ (.int .i64 40)).setCell ⟨ga, 2, none⟩ (.int .i64 TN)).setCell ⟨ga, 3, none⟩ (.slice va1 vn1 vc1)).setCell ⟨ga, 4, none⟩ (.int .i64 u1)) (.slice va1 vn1 vc1) 9 1 (out1.map s1) ∧ (∀ x, (Value.slice va1 vn1 vc1).ownBlock = some x → ¬ K.foot x ∧ x ≠ px) ∧ Box (((((W.setCell ⟨ga, 0, none⟩ (.int .i64 3)).setCell ⟨ga, 1, none⟩ (.int .i64 40)).setCell ⟨ga, 2, none⟩ (.int .i64 TN)).setCell ⟨ga, 3, none⟩ (.slice va1 vn1 vc1)).setCell ⟨ga, 4, none⟩ (.int .i64 u1)) ga 41 #[.int .i64 3, .int .i64 40, .int .i64 TN, .slice va1 vn1 vc1, .int .i64 u1] ∧ Below w0.heap.size w0 (((((W.setCell ⟨ga, 0, none⟩ (.int .i64 3)).setCell ⟨ga, 1, none⟩ (.int .i64 40)).setCell ⟨ga, 2, none⟩ (.int .i64 TN)).setCell ⟨ga, 3, none⟩ (.slice va1 vn1 vc1)).setCell ⟨ga, 4, none⟩ (.int .i64 u1)) ∧ vn1 = out1.length) := fun _ =>
          ⟨(h5.1.over bW).keptF K5 (fun x hx e => by have := h5.1.lt hx; omega), BP, (h5.2.2.1.below bW).keptL K5 (fun x hx e => by have := h5.2.2.1.sure.lt hx; omega) (fun x hx e => by have := h5.2.2.1.wait.lt hx; omega), LS.kept K5 (fun x hx e => (lo x hx).2 e), fun x hx => ⟨fun h => by have := h5.1.lt h; have := (lo x hx).1; omega, fun e => by have := h5.2.1.lt; have := (lo x hx).1; omega⟩, X5, (h5.2.2.2.trans (bW.mono h5.2.2.2.size)).trans (K5.below (fun x hx => by rw [hx]; have := h5.2.2.2.size; omega) (Nat.le_trans h5.2.2.2.size bW.size)), hvn1⟩
        clear h5 GA X5 K5 BP LS lo bW
        refine stepL 11 (((((W.setCell ⟨ga, 0, none⟩ (.int .i64 3)).setCell ⟨ga, 1, none⟩ (.int .i64 40)).setCell ⟨ga, 2, none⟩ (.int .i64 TN)).setCell ⟨ga, 3, none⟩ (.slice va1 vn1 vc1)).setCell ⟨ga, 4, none⟩ (.int .i64 u1)) rfl (by kernel_rfl) (by rfl) (by go_simp) hsF ?_
        try dsimp only [Act.put]
        try simp only [List.setIfInBounds_toArray, List.set_cons_zero, List.set_cons_succ]
        obtain ⟨W6, hW6⟩ : ∃ W6, W6 = (((((W.setCell ⟨ga, 0, none⟩ (.int .i64 3)).setCell ⟨ga, 1, none⟩ (.int .i64 40)).setCell ⟨ga, 2, none⟩ (.int .i64 TN)).setCell ⟨ga, 3, none⟩ (.slice va1 vn1 vc1)).setCell ⟨ga, 4, none⟩ (.int .i64 u1)) := ⟨_, rfl⟩
        rw [← hW6] at HFF ⊢
        clear hW6 q0 q1 q2 q3 q4 f0 f1 f2 f3 f4 hsF
        refine doneL (by kernel_rfl) ?_
        try dsimp only [Act.put]
        try simp only [List.setIfInBounds_toArray, List.set_cons_zero, List.set_cons_succ]
        unfold Oper.wp
        go_simp
        go_wp2_with fail
        go_meet
        exact ⟨ga, va1, vn1, vc1, W6, rfl, rfl, rfl, HFF.out ()⟩
    · try dsimp only [Act.put]
      try simp only [List.setIfInBounds_toArray, List.set_cons_zero, List.set_cons_succ]
      have bl := (Below.refl W5.heap.size W5).drew.alloc (Nat.le_refl _) (.cells #[.int .i64 0, .int .i64 0, .int .i64 0, .slice none 0 0, .int .i64 0] 41)
      refine callL 4 (f := 7) (vs := #[]) rfl (by kernel_rfl) (by rfl) (by go_simp) ?_
      refine (lat_any _).mono ?_
      rintro e w7 ⟨rfl, b7'⟩
      have b7 := bl.trans (b7'.mono bl.size)
      have hH7 := HS5.out w7 b7
      refine ⟨_, rfl, hH7, ?_⟩
      try dsimp only [Act.put]
      try simp only [List.setIfInBounds_toArray, List.set_cons_zero, List.set_cons_succ]
      refine callL 6 (f := 43) (vs := #[.agg #[.slice qa m1 qc, .slice pa m2 pc, .int .i64 fy, .bool oy], .agg #[.int .i64 3, .int .i64 40], .int .i64 TN]) rfl (by kernel_rfl) (by rfl) (by go_simp) ?_
      refine Calls.mono (HREF.out w7 b7) ?_
      rintro e w8 ⟨⟨va1, vn1, vc1, rfl, hls, hown1, hvn1⟩, b8⟩
      have bW := b7.trans (b8.mono b7.size)
      have hH8 := HS5.out w8 bW
      refine ⟨_, rfl, hH8, ?_⟩
      try dsimp only [Act.put]
      try simp only [List.setIfInBounds_toArray, List.set_cons_zero, List.set_cons_succ]
      ((refine takeL 7 (v := ?_) rfl (by kernel_rfl) (by kernel_rfl) (by kernel_rfl) (fun _ _ _ h => h) (by rfl) hH8 ?_ ?_; rotate_left; focus (intro w hSw; (try dsimp only at hSw); go_simp <;> with_reducible rfl); (try simp only [Act.put, List.setIfInBounds_toArray, List.set_cons_zero, List.set_cons_succ])); (refine takeL 8 (v := ?_) rfl (by kernel_rfl) (by kernel_rfl) (by kernel_rfl) (fun _ _ _ h => h) (by rfl) hH8 ?_ ?_; rotate_left; focus (intro w hSw; (try dsimp only at hSw); go_simp <;> with_reducible rfl); (try simp only [Act.put, List.setIfInBounds_toArray, List.set_cons_zero, List.set_cons_succ])); (refine takeL 9 (v := ?_) rfl (by kernel_rfl) (by kernel_rfl) (by kernel_rfl) (fun _ _ _ h => h) (by rfl) hH8 ?_ ?_; rotate_left; focus (intro w hSw; (try dsimp only at hSw); go_simp <;> with_reducible rfl); (try simp only [Act.put, List.setIfInBounds_toArray, List.set_cons_zero, List.set_cons_succ])))
      dsimp only [Act.put]
      simp only [List.setIfInBounds_toArray, List.set_cons_zero, List.set_cons_succ]
      have GA := ((box_new W5.drew #[.int .i64 0, .int .i64 0, .int .i64 0, .slice none 0 0, .int .i64 0] 41).over b7').over b8
      have LS := hls
      have hga : W5.heap.size ≤ W5.heap.size := Nat.le_refl _
      have lo : ∀ x, (Value.slice va1 vn1 vc1).ownBlock = some x → W5.heap.size ≤ x ∧ x ≠ W5.heap.size := fun x hx => by
        have := hown1 x hx
        have := b7'.size
        simp at this
        exact ⟨by omega, by omega⟩
      obtain ⟨ga, hgaa⟩ : ∃ ga, ga = W5.heap.size := ⟨_, rfl⟩
      obtain ⟨W, hWW⟩ : ∃ W, W = w8 := ⟨_, rfl⟩
      replace GA : Box W ga 41 #[.int .i64 0, .int .i64 0, .int .i64 0, .slice none 0 0, .int .i64 0] := by rw [hWW, hgaa]; exact GA
      replace LS : SRows W (.slice va1 vn1 vc1) 9 1 (out1.map s1) := by rw [hWW]; exact LS
      replace bW : Below W5.heap.size W5 W := by rw [hWW]; exact bW
      replace hga : W5.heap.size ≤ ga := by omega
      replace lo : ∀ x, (Value.slice va1 vn1 vc1).ownBlock = some x → W5.heap.size ≤ x ∧ x ≠ ga := by rw [hgaa]; exact lo
      rw [show ((some ⟨W5.heap.size, 0, none⟩) : Option Addr) = some ⟨ga, 0, none⟩ by rw [hgaa]]
      rw [← hWW]
      clear hgaa hWW bl hls hown1 b7 b7' b8 hH8 hH7
      have h5 := HM5.out
      have q0 := GA.cell 0 (.int .i64 0) rfl
      have q1 := GA.cell 1 (.int .i64 0) rfl
      have q2 := GA.cell 2 (.int .i64 0) rfl
      have q3 := GA.cell 3 (.slice none 0 0) rfl
      have q4 := GA.cell 4 (.int .i64 0) rfl
      have f0 := GA.frozen 0
      have f1 := GA.frozen 1
      have f2 := GA.frozen 2
      have f3 := GA.frozen 3
      have f4 := GA.frozen 4
      have X5 := box_five GA (.int .i64 3) (.int .i64 40) (.int .i64 TN) (.slice va1 vn1 vc1) (.int .i64 u1)
      have K5 := kept_five (F := fun x => x = ga) (Kept.refl _ W) (.inl rfl) (.int .i64 3) (.int .i64 40) (.int .i64 TN) (.slice va1 vn1 vc1) (.int .i64 u1)
      have BP := (h5.2.1.over bW).kept K5 (fun e => by have := h5.2.1.lt; omega)
      have hsF : (fun w' : World => w'.cell? ⟨px, 2, none⟩ = some (.slice qa m1 qc) ∧ w'.cell? ⟨px, 3, none⟩ = some (.slice pa m2 pc) ∧ w'.cell? ⟨px, 4, none⟩ = some (.int .i64 fy) ∧ w'.cell? ⟨px, 5, none⟩ = some (.bool oy)) (((((W.setCell ⟨ga, 0, none⟩ (.int .i64 3)).setCell ⟨ga, 1, none⟩ (.int .i64 40)).setCell ⟨ga, 2, none⟩ (.int .i64 TN)).setCell ⟨ga, 3, none⟩ (.slice va1 vn1 vc1)).setCell ⟨ga, 4, none⟩ (.int .i64 u1)) := ⟨BP.cell 2 _ rfl, BP.cell 3 _ rfl, BP.cell 4 _ rfl, BP.cell 5 _ rfl⟩
      have HFF : Hid (Unit → Jnl (((((W.setCell ⟨ga, 0, none⟩ (.int .i64 3)).setCell ⟨ga, 1, none⟩ (.int .i64 40)).setCell ⟨ga, 2, none⟩ (.int .i64 TN)).setCell ⟨ga, 3, none⟩ (.slice va1 vn1 vc1)).setCell ⟨ga, 4, none⟩ (.int .i64 u1)) K sx 3 40 tn u1 out1 ∧ Box (((((W.setCell ⟨ga, 0, none⟩ (.int .i64 3)).setCell ⟨ga, 1, none⟩ (.int .i64 40)).setCell ⟨ga, 2, none⟩ (.int .i64 TN)).setCell ⟨ga, 3, none⟩ (.slice va1 vn1 vc1)).setCell ⟨ga, 4, none⟩ (.int .i64 u1)) px 43 #[.pointer (some ⟨hp, 0, none⟩), .pointer (some ⟨jp, 0, none⟩), .slice qa m1 qc, .slice pa m2 pc, .int .i64 fy, .bool oy, .int .i64 3, .int .i64 40, .int .i64 T0, .slice va vn vc, .int .i64 u0] ∧ RefIs (((((W.setCell ⟨ga, 0, none⟩ (.int .i64 3)).setCell ⟨ga, 1, none⟩ (.int .i64 40)).setCell ⟨ga, 2, none⟩ (.int .i64 TN)).setCell ⟨ga, 3, none⟩ (.slice va1 vn1 vc1)).setCell ⟨ga, 4, none⟩ (.int .i64 u1)) (fun x => K.foot x ∨ x = px) R4 sx.sure sx.wait ∧ SRows (((((W.setCell ⟨ga, 0, none⟩ (.int .i64 3)).setCell ⟨ga, 1, none⟩ (.int .i64 40)).setCell ⟨ga, 2, none⟩ (.int .i64 TN)).setCell ⟨ga, 3, none⟩ (.slice va1 vn1 vc1)).setCell ⟨ga, 4, none⟩ (.int .i64 u1)) (.slice va1 vn1 vc1) 9 1 (out1.map s1) ∧ (∀ x, (Value.slice va1 vn1 vc1).ownBlock = some x → ¬ K.foot x ∧ x ≠ px) ∧ Box (((((W.setCell ⟨ga, 0, none⟩ (.int .i64 3)).setCell ⟨ga, 1, none⟩ (.int .i64 40)).setCell ⟨ga, 2, none⟩ (.int .i64 TN)).setCell ⟨ga, 3, none⟩ (.slice va1 vn1 vc1)).setCell ⟨ga, 4, none⟩ (.int .i64 u1)) ga 41 #[.int .i64 3, .int .i64 40, .int .i64 TN, .slice va1 vn1 vc1, .int .i64 u1] ∧ Below w0.heap.size w0 (((((W.setCell ⟨ga, 0, none⟩ (.int .i64 3)).setCell ⟨ga, 1, none⟩ (.int .i64 40)).setCell ⟨ga, 2, none⟩ (.int .i64 TN)).setCell ⟨ga, 3, none⟩ (.slice va1 vn1 vc1)).setCell ⟨ga, 4, none⟩ (.int .i64 u1)) ∧ vn1 = out1.length) := fun _ =>
        ⟨(h5.1.over bW).keptF K5 (fun x hx e => by have := h5.1.lt hx; omega), BP, (h5.2.2.1.below bW).keptL K5 (fun x hx e => by have := h5.2.2.1.sure.lt hx; omega) (fun x hx e => by have := h5.2.2.1.wait.lt hx; omega), LS.kept K5 (fun x hx e => (lo x hx).2 e), fun x hx => ⟨fun h => by have := h5.1.lt h; have := (lo x hx).1; omega, fun e => by have := h5.2.1.lt; have := (lo x hx).1; omega⟩, X5, (h5.2.2.2.trans (bW.mono h5.2.2.2.size)).trans (K5.below (fun x hx => by rw [hx]; have := h5.2.2.2.size; omega) (Nat.le_trans h5.2.2.2.size bW.size)), hvn1⟩
      clear h5 GA X5 K5 BP LS lo bW
      refine stepL 11 (((((W.setCell ⟨ga, 0, none⟩ (.int .i64 3)).setCell ⟨ga, 1, none⟩ (.int .i64 40)).setCell ⟨ga, 2, none⟩ (.int .i64 TN)).setCell ⟨ga, 3, none⟩ (.slice va1 vn1 vc1)).setCell ⟨ga, 4, none⟩ (.int .i64 u1)) rfl (by kernel_rfl) (by rfl) (by go_simp) hsF ?_
      try dsimp only [Act.put]
      try simp only [List.setIfInBounds_toArray, List.set_cons_zero, List.set_cons_succ]
      obtain ⟨W6, hW6⟩ : ∃ W6, W6 = (((((W.setCell ⟨ga, 0, none⟩ (.int .i64 3)).setCell ⟨ga, 1, none⟩ (.int .i64 40)).setCell ⟨ga, 2, none⟩ (.int .i64 TN)).setCell ⟨ga, 3, none⟩ (.slice va1 vn1 vc1)).setCell ⟨ga, 4, none⟩ (.int .i64 u1)) := ⟨_, rfl⟩
      rw [← hW6] at HFF ⊢
      clear hW6 q0 q1 q2 q3 q4 f0 f1 f2 f3 f4 hsF
      refine doneL (by kernel_rfl) ?_
      try dsimp only [Act.put]
      try simp only [List.setIfInBounds_toArray, List.set_cons_zero, List.set_cons_succ]
      unfold Oper.wp
      go_simp
      go_wp2_with fail
      go_meet
      exact ⟨ga, va1, vn1, vc1, W6, rfl, rfl, rfl, HFF.out ()⟩
  case rest =>
    obtain ⟨ga, va1, vn1, vc1, W6, rfl, rfl, hwx, hG⟩ := hcut
    replace hwx := hwx.symm
    subst hwx
    have HG := (show Hid _ from hG)
    clear hG
    have hG := HG.out
    have a0 := hG.2.2.2.2.2.1.cell 0 (.int .i64 3) rfl
    have a1 := hG.2.2.2.2.2.1.cell 1 (.int .i64 40) rfl
    have a2 := hG.2.2.2.2.2.1.cell 2 (.int .i64 TN) rfl
    have a3 := hG.2.2.2.2.2.1.cell 3 (.slice va1 vn1 vc1) rfl
    have a4 := hG.2.2.2.2.2.1.cell 4 (.int .i64 u1) rfl
    have c1 := hG.2.1.cell 1 (.pointer (some ⟨jp, 0, none⟩)) rfl
    have c6 := hG.2.1.cell 6 (.int .i64 3) rfl
    have c7 := hG.2.1.cell 7 (.int .i64 40) rfl
    have c8 := hG.2.1.cell 8 (.int .i64 T0) rfl
    have c9 := hG.2.1.cell 9 (.slice va vn vc) rfl
    have c10 := hG.2.1.cell 10 (.int .i64 u0) rfl
    have y1 := hG.2.1.frozen 1
    have y6 := hG.2.1.frozen 6
    have y7 := hG.2.1.frozen 7
    have y8 := hG.2.1.frozen 8
    have y9 := hG.2.1.frozen 9
    have y10 := hG.2.1.frozen 10
    have hgp : ga ≠ px := fun e => by
      have h1 := hG.2.2.2.2.2.1
      rw [e] at h1
      have := cells_type h1 hG.2.1
      simp at this
    have K7 := keptk (Kept.refl (fun x => x = px) W6) (.inl rfl) (.pointer (some ⟨kp, 0, none⟩)) (.int .i64 3) (.int .i64 40) (.int .i64 TN) (.slice va1 vn1 vc1) (.int .i64 u1)
    have HFI : Hid (Unit → Sy w0 ((((((W6.setCell ⟨px, 1, none⟩ (.pointer (some ⟨kp, 0, none⟩))).setCell ⟨px, 6, none⟩ (.int .i64 3)).setCell ⟨px, 7, none⟩ (.int .i64 40)).setCell ⟨px, 8, none⟩ (.int .i64 TN)).setCell ⟨px, 9, none⟩ (.slice va1 vn1 vc1)).setCell ⟨px, 10, none⟩ (.int .i64 u1)) px hp K R4 sx tn u1 out1 va1 vn1 vc1 (i + 1)) := fun _ => by
      have m := HM3.out
      have hsp := HSP.out
      refine ⟨hG.1.keptF K7 (fun x hx e => m.2.2.2.2.2.2.2.1 (by rw [← e]; exact hx)), m.2.2.2.2.2.1, ?_, hG.2.2.1.kept K7 (fun x hx e => hx (.inr e)), hG.2.2.2.1.kept K7 (fun x hx e => (hG.2.2.2.2.1 x hx).2 e), hG.2.2.2.2.1, m.2.2.2.2.2.2.2.1, m.2.2.2.2.2.2.1, HO.out.pw, hG.2.2.2.2.2.2.1.trans (K7.below (fun x hx => by rw [hx]; exact HO.out.pw) hG.2.2.2.2.2.2.1.size), hG.2.2.2.2.2.2.2, ⟨hsp.1, hsp.2.2.2.1, by rw [hsp.2.1]; simp, HV.out.2.2.1, by have := HV.out.2.2.2.1; omega, by rw [hsp.2.1]; simp, m.2.2.2.2.2.2.2.2.2, ?_⟩⟩
      · rw [HQ4.out, ← HTN.out, ← m.2.2.2.2.1]
        exact sd_k hG.2.1
      · have h8 := line_count m.2.2.2.2.2.2.2.2.1.line
        have := m.2.2.2.2.2.2.2.2.2
        omega
    clear hG K7
    go_wp2_with fail
    go_ret
    refine ⟨?_, K, R4, u1, out1, va1, vn1, vc1, HFI.out ()⟩
    rfl
end Go.Proofs.Ytgffplfpoopolaa
/-
  Law 23's side: an Add on both sides, without memory and in it.
-/
namespace Go.Proofs.Ytgffplfpoopolaa
open Go.RowKit Leb

/-- An Add, without memory: the state, what is used, the records, the error. -/
def addF (s : St) (turn : BitVec 64) (u : Nat) (out : List (List UInt8)) (t : List UInt8) : St × Nat × List (List UInt8) × Int :=
  if 1 ≤ t.length ∧ t.length ≤ 8192 then
    if u + needs t.length ≤ 40 then
      if (putAll s (3 + u) (blkLs turn u t)).2 = 0 then ((putAll s (3 + u) (blkLs turn u t)).1, u + needs t.length, out ++ [t], 0)
      else ((putAll s (3 + u) (blkLs turn u t)).1, u, out, 40)
    else (s, u, out, 2)
  else (s, u, out, 1)
theorem wrs_in : ∀ (bl : List (List UInt8)) (a : Nat) (x : Nat × List UInt8), x ∈ wrs a bl → x.2 ∈ bl
  | [], _, _, h => by simp [wrs] at h
  | b :: r, a, x, h => by
    simp only [wrs, List.mem_cons] at h
    rcases h with rfl | h
    · simp
    · exact List.mem_cons_of_mem _ (wrs_in r _ x h)
theorem wrs_count : ∀ (bl : List (List UInt8)) (a : Nat), (wrs a bl).length = bl.length
  | [], _ => rfl
  | b :: r, a => by simp [wrs, wrs_count r]
theorem Pu.more {s : St} {turn : BitVec 64} {u : Nat} {out : List (List UInt8)} {i : Nat} (h : Pu s turn u out i) : Pu s turn u out (i + 1) :=
  ⟨h.n50, h.ok1, h.ok2, h.t1, by have := h.t2; omega, by have := h.wl; omega, h.ul, h.ol⟩
theorem pu_add {s : St} {turn : BitVec 64} {u : Nat} {out : List (List UInt8)} {i : Nat} (h : Pu s turn u out i) (t : List UInt8) : Pu (addF s turn u out t).1 turn (addF s turn u out t).2.1 (addF s turn u out t).2.2.1 (i + 1) := by
  unfold addF
  split
  · rename_i hl
    split
    · rename_i hn
      have hsp := putAll_spec (blkLs turn u t) s (3 + u)
      have hb : ∀ x ∈ wrs (3 + u) (blkLs turn u t), okB x.2 = true := fun x hx => by
        have := wrs_in _ _ x hx
        simp only [blkLs, List.mem_map, List.mem_range] at this
        obtain ⟨j, hj, e⟩ := this
        rw [← e]
        exact okB_blk turn u hl.1 hl.2 hj
      have hall : ∀ x ∈ s.wait ++ wrs (3 + u) (blkLs turn u t), okB x.2 = true := fun x hx => by
        rcases List.mem_append.1 hx with hx | hx
        · exact h.ok2 x hx
        · exact hb x hx
      have hc := wrs_count (blkLs turn u t) (3 + u)
      rw [blkLs_len] at hc
      have hnp := needs_pos hl.1
      split
      · rename_i h0
        rcases hsp with ⟨_, e1, e2, _⟩ | ⟨e, _⟩
        · refine ⟨?_, ?_, ?_, h.t1, by have := h.t2; omega, ?_, hn, ?_⟩
          · show (putAll s (3 + u) (blkLs turn u t)).1.sure.length = 50
            rw [e1, lay_len]; exact h.n50
          · show ∀ b ∈ (putAll s (3 + u) (blkLs turn u t)).1.sure, okB b = true
            rw [e1]
            exact lay_mem (p := fun b => okB b = true) _ _ h.ok1 hall
          · show ∀ x ∈ (putAll s (3 + u) (blkLs turn u t)).1.wait, okB x.2 = true
            rw [e2]; simp
          · show (putAll s (3 + u) (blkLs turn u t)).1.wait.length ≤ 100 * (i + 1)
            rw [e2]; simp
          · simp only [List.length_append, List.length_cons, List.length_nil]
            have := h.ol
            omega
        · rw [e] at h0; cases h0
      · rename_i h0
        rcases hsp with ⟨e, _⟩ | ⟨_, e1, k, e2⟩
        · exact absurd e h0
        · refine ⟨?_, ?_, ?_, h.t1, by have := h.t2; omega, ?_, h.ul, h.ol⟩
          · show (putAll s (3 + u) (blkLs turn u t)).1.sure.length = 50
            rw [e1]; exact h.n50
          · show ∀ b ∈ (putAll s (3 + u) (blkLs turn u t)).1.sure, okB b = true
            rw [e1]; exact h.ok1
          · show ∀ x ∈ (putAll s (3 + u) (blkLs turn u t)).1.wait, okB x.2 = true
            rw [e2]
            intro x hx
            rcases List.mem_append.1 hx with hx | hx
            · exact h.ok2 x hx
            · exact hb x (List.mem_of_mem_take hx)
          · show (putAll s (3 + u) (blkLs turn u t)).1.wait.length ≤ 100 * (i + 1)
            rw [e2]
            simp only [List.length_append, List.length_take]
            have := h.wl
            omega
    · exact h.more
  · exact h.more
/-- The code's Add. -/
theorem code_add {w : World} {J : Jh} {s : St} {turn : BitVec 64} {u : Nat} {out : List (List UInt8)} {i : Nat} (j : Jnl w J s 3 40 turn u out) (p : Pu s turn u out i) (hi : i ≤ 100) (t : List UInt8) :
    Calls Try.prog 16 #[.pointer (some ⟨J.p, 0, none⟩), .string (strB t)] w fun e w' => e = .returned (.int .i64 (addF s turn u out t).2.2.2) ∧ ∃ J', JTurned J J' w w' ∧ Jnl w' J' (addF s turn u out t).1 3 40 turn (addF s turn u out t).2.1 (addF s turn u out t).2.2.1 := by
  have hu := p.ul
  have ho := p.ol
  have hw := p.wl
  have hn := p.n50
  unfold addF
  split
  · rename_i hl
    split
    · rename_i hr
      refine (jadd_on j (by omega) (by omega) (by omega) (by omega) t hl.1 hl.2 hr).mono ?_
      rintro e w' ⟨J', s', n, hp, rfl, hT, hc⟩
      rw [hp]
      rcases hc with ⟨rfl, hj⟩ | ⟨rfl, hj⟩
      · exact ⟨rfl, J', hT, hj⟩
      · exact ⟨rfl, J', hT, hj⟩
    · rename_i hr
      refine (jadd_full j.box hu (by omega) t hl.1 hl.2 (by omega)).mono ?_
      rintro e w' ⟨rfl, hb⟩
      exact ⟨rfl, J, (JTurned.refl J w).of_below hb, j.over hb⟩
  · rename_i hl
    refine (jadd_arg j.box t (needsI_no (by omega))).mono ?_
    rintro e w' ⟨rfl, rfl⟩
    exact ⟨rfl, J, JTurned.refl J _, j⟩
/-- What the document's Add tells. -/
def RfAns (G : Nat → Prop) (w : World) (v : Value) (turn : BitVec 64) (r : St × Nat × List (List UInt8) × Int) (e : Ending) (w' : World) : Prop :=
  (∃ R' va' vn' vc', e = .returned (.tuple #[.agg (rda R' r.1), .agg (jv 3 40 turn.toInt (.slice va' vn' vc') r.2.1), .int .i64 r.2.2.2]) ∧ RefIs w' G R' r.1.sure r.1.wait ∧ SRows w' (.slice va' vn' vc') 9 1 (r.2.2.1.map s1) ∧ vn' = r.2.2.1.length ∧ ∀ x, (Value.slice va' vn' vc').ownBlock = some x → (v.ownBlock = some x ∨ w.heap.size ≤ x)) ∧ Below w.heap.size w w'
theorem ref_add {w : World} {G : Nat → Prop} {R : RH} {s : St} {turn : BitVec 64} {u : Nat} {out : List (List UInt8)} {i : Nat} (r0 : RefIs w G R s.sure s.wait) (hG : ∀ k, G k → k < w.heap.size) (ok : StOk s) (p : Pu s turn u out i) (hi : i ≤ 100) (va : Option Addr) (vn vc : Nat) (hv : SRows w (.slice va vn vc) 9 1 (out.map s1)) (hvn : vn = out.length) (t : List UInt8) :
    Calls Try.prog 20 #[.agg (rda R s), .agg (jv 3 40 turn.toInt (.slice va vn vc) u), .string (strB t)] w (RfAns G w (.slice va vn vc) turn (addF s turn u out t)) := by
  have hu := p.ul
  have ho := p.ol
  have hw := p.wl
  have hn := p.n50
  unfold addF
  split
  · rename_i hl
    split
    · rename_i hr
      refine (refAdd_on r0 hG ok (by omega) 3 40 turn u (by omega) va vn vc out hv hvn (by omega) t hl.1 hl.2 hr).mono ?_
      rintro e w' ⟨⟨R', s', n, hp, hR, hc⟩, hb⟩
      rw [hp]
      refine ⟨?_, hb⟩
      rcases hc with ⟨rfl, va', vc', rfl, h1, h2⟩ | ⟨rfl, rfl⟩
      · refine ⟨R', va', out.length + 1, vc', ?_, hR, h1, by simp, fun x hx => .inr (h2 x hx)⟩
        rfl
      · refine ⟨R', va, vn, vc, ?_, hR, hv.over hb, hvn, fun x hx => .inl hx⟩
        rfl
    · rename_i hr
      refine (refAdd_full _ _ _ _ _ _ _ _ 3 40 turn.toInt va vn vc u hu (by omega) t hl.1 hl.2 (by omega) w).mono ?_
      rintro e w' ⟨rfl, hb⟩
      exact ⟨⟨R, va, vn, vc, rfl, r0.below hb, hv.over hb, hvn, fun x hx => .inl hx⟩, hb⟩
  · rename_i hl
    refine (refAdd_arg _ _ _ _ _ _ _ _ 3 40 turn.toInt va vn vc u t (needsI_no (by omega)) w).mono ?_
    rintro e w' ⟨rfl, hb⟩
    exact ⟨⟨R, va, vn, vc, rfl, r0.below hb, hv.over hb, hvn, fun x hx => .inl hx⟩, hb⟩
section
variable {P : Program} {l : List Oper} {z : Oper} {Q : Exit → Act → World → Prop}
/-- Two variables that are made, whichever comes up first. -/
theorem newNewL {S : World → Prop} (i j : Nat) {oi oj : Oper} {fuel : Nat} {listed : Array Bool} {a : Act} {w : World} (wi : World) (vi : Value) (wj : World) (vj : Value) (hi : l[i]? = some oi) (hj : l[j]? = some oj) (hr : Region.ready .any l.toArray listed = [i, j])
    (hwi : Region.wanted oi (yielded l.toArray a.tmps) = true) (hwj : Region.wanted oj (yielded l.toArray a.tmps) = true) (hopi : (execOp a.eval oi).run P w = .ok (.value vi) wi) (hopj : (execOp a.eval oj).run P w = .ok (.value vj) wj) (hSi : S wi) (hSj : S wj)
    (h1 : wpAnyH P .any l.toArray (Then P z Q) S fuel (listed.setIfInBounds i true) (a.put oi.dst vi) wi)
    (h2 : wpAnyH P .any l.toArray (Then P z Q) S fuel (listed.setIfInBounds j true) (a.put oj.dst vj) wj) : wpAnyH P .any l.toArray (Then P z Q) S (fuel + 1) listed a w := by
  refine wpAnyH_all hr (by simp) ?_
  intro k hk
  simp only [List.mem_cons, List.not_mem_nil, or_false] at hk
  have hi' : l.toArray[i]? = some oi := by simpa using hi
  have hj' : l.toArray[j]? = some oj := by simpa using hj
  rcases hk with rfl | rfl
  · unfold wpOp
    simp only [hi', hwi, if_true]
    refine .inl ?_
    unfold Oper.wp
    rw [hopi]
    exact ⟨hSi, h1⟩
  · unfold wpOp
    simp only [hj', hwj, if_true]
    refine .inl ?_
    unfold Oper.wp
    rw [hopj]
    exact ⟨hSj, h2⟩
/-- A call of a Go function and two variables that are made, whichever comes up first. -/
theorem callNewNewL {S : World → Prop} (c i j : Nat) {oc oi oj : Oper} {f : FuncId} {vs : Array Value} {fuel : Nat} {listed : Array Bool} {a : Act} {w : World} (wi : World) (vi : Value) (wj : World) (vj : Value) (hc : l[c]? = some oc) (hi : l[i]? = some oi) (hj : l[j]? = some oj) (hr : Region.ready .any l.toArray listed = [c, i, j])
    (hwc : Region.wanted oc (yielded l.toArray a.tmps) = true) (hwi : Region.wanted oi (yielded l.toArray a.tmps) = true) (hwj : Region.wanted oj (yielded l.toArray a.tmps) = true) (hopc : (execOp a.eval oc).run P w = .ok (.enter f vs) w) (hopi : (execOp a.eval oi).run P w = .ok (.value vi) wi) (hopj : (execOp a.eval oj).run P w = .ok (.value vj) wj) (hSi : S wi) (hSj : S wj)
    (h0 : Calls P f vs w fun e w' => ∃ v, e = .returned v ∧ S w' ∧ wpAnyH P .any l.toArray (Then P z Q) S fuel (listed.setIfInBounds c true) (a.put oc.dst v) w')
    (h1 : wpAnyH P .any l.toArray (Then P z Q) S fuel (listed.setIfInBounds i true) (a.put oi.dst vi) wi)
    (h2 : wpAnyH P .any l.toArray (Then P z Q) S fuel (listed.setIfInBounds j true) (a.put oj.dst vj) wj) : wpAnyH P .any l.toArray (Then P z Q) S (fuel + 1) listed a w := by
  refine wpAnyH_all hr (by simp) ?_
  intro k hk
  simp only [List.mem_cons, List.not_mem_nil, or_false] at hk
  have hc' : l.toArray[c]? = some oc := by simpa using hc
  have hi' : l.toArray[i]? = some oi := by simpa using hi
  have hj' : l.toArray[j]? = some oj := by simpa using hj
  rcases hk with rfl | rfl | rfl
  · unfold wpOp
    simp only [hc', hwc, if_true]
    refine .inl ?_
    unfold Oper.wp
    rw [hopc]
    refine Calls.mono h0 fun e w' he => ?_
    obtain ⟨v, rfl, h⟩ := he
    exact h
  · unfold wpOp
    simp only [hi', hwi, if_true]
    refine .inl ?_
    unfold Oper.wp
    rw [hopi]
    exact ⟨hSi, h1⟩
  · unfold wpOp
    simp only [hj', hwj, if_true]
    refine .inl ?_
    unfold Oper.wp
    rw [hopj]
    exact ⟨hSj, h2⟩
end
/-- What the document's Add left, beside blocks E that were made meanwhile. -/
structure Mr (W : World) (J : Jh) (px : Nat) (E : Nat → Prop) (R' : RH) (s' : St) (out' : List (List UInt8)) (va' : Option Addr) (vn' vc' : Nat) : Prop where
  ref : RefIs W (fun x => (J.foot x ∨ x = px) ∨ E x) R' s'.sure s'.wait
  list : SRows W (.slice va' vn' vc') 9 1 (out'.map s1)
  lav : ∀ x, (Value.slice va' vn' vc').ownBlock = some x → ¬ J.foot x ∧ x ≠ px ∧ ¬ E x
  vl : vn' = out'.length
theorem Mr.over {W W2 : World} {J : Jh} {px : Nat} {E : Nat → Prop} {R' : RH} {s' : St} {out' : List (List UInt8)} {va' : Option Addr} {vn' vc' : Nat} (m : Mr W J px E R' s' out' va' vn' vc') (b : Below W.heap.size W W2) : Mr W2 J px E R' s' out' va' vn' vc' :=
  ⟨m.ref.below b, m.list.over b, m.lav, m.vl⟩
theorem Mr.grow {W : World} {J : Jh} {px : Nat} {E E2 : Nat → Prop} {R' : RH} {s' : St} {out' : List (List UInt8)} {va' : Option Addr} {vn' vc' : Nat} (m : Mr W J px E R' s' out' va' vn' vc') (h : ∀ x, E2 x → E x ∨ W.heap.size ≤ x) : Mr W J px E2 R' s' out' va' vn' vc' :=
  ⟨m.ref.grow (fun k hk hn h2 => by
    rcases h2 with h2 | h2
    · exact hn (.inl h2)
    · rcases h k h2 with h3 | h3
      · exact hn (.inr h3)
      · omega), m.list, fun x hx => ⟨(m.lav x hx).1, (m.lav x hx).2.1, fun h2 => by
    rcases h x h2 with h3 | h3
    · exact (m.lav x hx).2.2 h3
    · have := m.list.lt hx; omega⟩, m.vl⟩
theorem Mr.kept {W W2 : World} {J : Jh} {px : Nat} {E F : Nat → Prop} {R' : RH} {s' : St} {out' : List (List UInt8)} {va' : Option Addr} {vn' vc' : Nat} (m : Mr W J px E R' s' out' va' vn' vc') (k : Kept F W W2) (h : ∀ x, F x → (J.foot x ∨ x = px) ∨ E x) : Mr W2 J px E R' s' out' va' vn' vc' :=
  ⟨m.ref.kept k (fun x hx hf => hx (h x hf)), m.list.kept k (fun x hx hf => by
    have := m.lav x hx
    rcases h x hf with (h | h) | h
    · exact this.1 h
    · exact this.2.1 h
    · exact this.2.2 h), m.lav, m.vl⟩
/-- Both sides, behind the document's Add alone. -/
structure M6 (w0 W : World) (px hp : Nat) (J : Jh) (R : RH) (s : St) (turn : BitVec 64) (u : Nat) (out : List (List UInt8)) (va : Option Addr) (vn vc i : Nat) (R' : RH) (s' : St) (out' : List (List UInt8)) (va' : Option Addr) (vn' vc' : Nat) (ga gb : Nat) (dv jn : Array Value) : Prop where
  sy : Sy w0 W px hp J R s turn u out va vn vc i
  mr : Mr W J px (fun _ => False) R' s' out' va' vn' vc'
  ba : Box W ga 30 dv
  bb : Box W gb 41 jn
theorem tail6 {w0 wx W : World} {px hp : Nat} {J : Jh} {R : RH} {s : St} {turn : BitVec 64} {u : Nat} {out : List (List UInt8)} {va : Option Addr} {vn vc i : Nat} {E : Nat → Prop} {R' : RH} {s' : St} {out' : List (List UInt8)} {va' : Option Addr} {vn' vc' : Nat} (o : Sy w0 wx px hp J R s turn u out va vn vc i) (b0 : Below wx.heap.size wx W) (m : Mr W J px E R' s' out' va' vn' vc') {ga gb : Nat} {c0 c1 c2 c3 d0 d1 d2 d3 d4 : Value} (Ba : Box W ga 30 #[c0, c1, c2, c3]) (Bb : Box W gb 41 #[d0, d1, d2, d3, d4]) (ea : E ga) (eb : E gb) (ha : wx.heap.size ≤ ga) (hb : wx.heap.size ≤ gb) (a b c d e f g h j : Value) :
    M6 w0 (((((((((W.setCell ⟨ga, 0, none⟩ a).setCell ⟨ga, 1, none⟩ b).setCell ⟨ga, 2, none⟩ c).setCell ⟨ga, 3, none⟩ d).setCell ⟨gb, 0, none⟩ e).setCell ⟨gb, 1, none⟩ f).setCell ⟨gb, 2, none⟩ g).setCell ⟨gb, 3, none⟩ h).setCell ⟨gb, 4, none⟩ j) px hp J R s turn u out va vn vc i R' s' out' va' vn' vc' ga gb #[a, b, c, d] #[e, f, g, h, j] := by
  have hne : ga ≠ gb := fun e => by
    rw [e] at Ba
    have := cells_type Ba Bb
    simp at this
  have K1 : Kept (fun x => x = ga ∨ x = gb) W ((((W.setCell ⟨ga, 0, none⟩ a).setCell ⟨ga, 1, none⟩ b).setCell ⟨ga, 2, none⟩ c).setCell ⟨ga, 3, none⟩ d) := (((((Kept.refl _ W).setCell (p := ⟨ga, 0, none⟩) (.inl (.inl rfl)) a).setCell (p := ⟨ga, 1, none⟩) (.inl (.inl rfl)) b).setCell (p := ⟨ga, 2, none⟩) (.inl (.inl rfl)) c).setCell (p := ⟨ga, 3, none⟩) (.inl (.inl rfl)) d)
  have K2 := kept_five K1 (z := gb) (.inl (.inr rfl)) e f g h j
  have B1 : Box ((((W.setCell ⟨ga, 0, none⟩ a).setCell ⟨ga, 1, none⟩ b).setCell ⟨ga, 2, none⟩ c).setCell ⟨ga, 3, none⟩ d) ga 30 #[a, b, c, d] := (((Ba.set 0 a).set 1 b).set 2 c).set 3 d
  have B2 : Box ((((W.setCell ⟨ga, 0, none⟩ a).setCell ⟨ga, 1, none⟩ b).setCell ⟨ga, 2, none⟩ c).setCell ⟨ga, 3, none⟩ d) gb 41 #[d0, d1, d2, d3, d4] := (((Bb.other (a := ⟨ga, 0, none⟩) (Ne.symm hne) a).other (a := ⟨ga, 1, none⟩) (Ne.symm hne) b).other (a := ⟨ga, 2, none⟩) (Ne.symm hne) c).other (a := ⟨ga, 3, none⟩) (Ne.symm hne) d
  refine ⟨o.over (b0.trans (K2.below (fun x hx => by rcases hx with hx | hx <;> omega) b0.size)), ?_, other_five B1 hne e f g h j, box_five B2 e f g h j⟩
  refine (m.kept K2 (fun x hx => ?_)).grow (fun x hx => hx.elim)
  rcases hx with rfl | rfl
  · exact .inr ea
  · exact .inr eb
theorem M6.keep6 {w0 w1 W : World} {px hp : Nat} {J : Jh} {R : RH} {s : St} {turn : BitVec 64} {u : Nat} {out : List (List UInt8)} {va : Option Addr} {vn vc i : Nat} {R' : RH} {s' : St} {out' : List (List UInt8)} {va' : Option Addr} {vn' vc' : Nat} {ga gb : Nat} {dv jn : Array Value} (m : M6 w0 W px hp J R s turn u out va vn vc i R' s' out' va' vn' vc' ga gb dv jn) (o : Sy w0 w1 px hp J R s turn u out va vn vc i) : W.heap[px]? = w1.heap[px]? := m.sy.box.trans o.box.symm
/-- Both sides, the document's stored. -/
structure M8 (w0 W : World) (px hp : Nat) (J : Jh) (s : St) (turn : BitVec 64) (u : Nat) (out : List (List UInt8)) (R' : RH) (s' : St) (u' : Nat) (out' : List (List UInt8)) (va' : Option Addr) (vn' vc' : Nat) : Prop where
  jnl : Jnl W J s 3 40 turn u out
  hpe : J.H.p = hp
  box : Box W px 43 (sdc hp J.p (rda R' s') turn.toInt (.slice va' vn' vc') u')
  mr : Mr W J px (fun _ => False) R' s' out' va' vn' vc'
  np : ¬ J.foot px
  own : ∀ x, J.foot x → w0.heap.size ≤ x
  pw : w0.heap.size ≤ px
  bel : Below w0.heap.size w0 W
theorem M6.set {w0 W W8 : World} {px hp : Nat} {J : Jh} {R : RH} {s : St} {turn : BitVec 64} {u : Nat} {out : List (List UInt8)} {va : Option Addr} {vn vc i : Nat} {R' : RH} {s' : St} {u' : Nat} {out' : List (List UInt8)} {va' : Option Addr} {vn' vc' : Nat} {ga gb : Nat} {dv jn : Array Value} (m : M6 w0 W px hp J R s turn u out va vn vc i R' s' out' va' vn' vc' ga gb dv jn) (K : Kept (fun x => x = px) W W8) (B : Box W8 px 43 (sdc hp J.p (rda R' s') turn.toInt (.slice va' vn' vc') u')) : M8 w0 W8 px hp J s turn u out R' s' u' out' va' vn' vc' :=
  ⟨m.sy.jnl.keptF K (fun x hx e => m.sy.np (by rw [← e]; exact hx)), m.sy.hpe, B, m.mr.kept K (fun x hx => .inl (.inr hx)), m.sy.np, m.sy.own, m.sy.pw, m.sy.bel.trans (K.below (fun x hx => by rw [hx]; exact m.sy.pw) m.sy.bel.size)⟩
theorem M8.done {w0 W W9 : World} {px hp : Nat} {J J' : Jh} {s : St} {turn : BitVec 64} {u : Nat} {out : List (List UInt8)} {R' : RH} {s' : St} {u' : Nat} {out' : List (List UInt8)} {va' : Option Addr} {vn' vc' i : Nat} (m : M8 w0 W px hp J s turn u out R' s' u' out' va' vn' vc') (T : JTurned J J' W W9) (j : Jnl W9 J' s' 3 40 turn u' out') (p : Pu s' turn u' out' i) : Sy w0 W9 px hp J' R' s' turn u' out' va' vn' vc' i := by
  have hold : ∀ x, x < W.heap.size → J'.foot x → J.foot x := fun x hx h => by
    rcases T.foot x h with h | h
    · exact h
    · omega
  have mk := m.mr.kept T.kept (fun x hx => .inl (.inl hx))
  refine ⟨j, T.hp.trans m.hpe, ?_, ?_, mk.list, fun x hx => ⟨fun h => ?_, (mk.lav x hx).2.1⟩, fun h => m.np (hold px m.box.lt h), (T.low m.own m.bel.size).2, m.pw, m.bel.trans (T.low m.own m.bel.size).1, m.mr.vl, p⟩
  · have := m.box.kept T.kept m.np
    rw [T.p]
    exact this
  · refine ⟨mk.ref.sure, mk.ref.wait, fun x hx h => ?_, fun x hx h => ?_⟩
    · refine mk.ref.g1 x hx (.inl ?_)
      rcases h with h | h
      · exact .inl (hold x (m.mr.ref.sure.lt hx) h)
      · exact .inr h
    · refine mk.ref.g2 x hx (.inl ?_)
      rcases h with h | h
      · exact .inl (hold x (m.mr.ref.wait.lt hx) h)
      · exact .inr h
  · exact (mk.lav x hx).1 (hold x (m.mr.list.lt hx) h)
theorem Sy.stOk {w0 wx : World} {px hp : Nat} {J : Jh} {R : RH} {s : St} {turn : BitVec 64} {u : Nat} {out : List (List UInt8)} {va : Option Addr} {vn vc i : Nat} (o : Sy w0 wx px hp J R s turn u out va vn vc i) (hi : i ≤ 100) : StOk s := ⟨o.jnl.dev.fz, fun x hx => (o.jnl.dev.ats x hx).1, o.jnl.dev.top, by have := o.pu.wl; omega⟩
/-- The document's Add, in any world above, beside blocks E that were made meanwhile. -/
theorem ref_sy {w0 wx W : World} {px hp : Nat} {J : Jh} {R : RH} {s : St} {turn : BitVec 64} {u : Nat} {out : List (List UInt8)} {va : Option Addr} {vn vc i : Nat} (o : Sy w0 wx px hp J R s turn u out va vn vc i) (hi : i ≤ 100) (t : List UInt8) (b : Below wx.heap.size wx W) (E : Nat → Prop) (hE : ∀ x, E x → wx.heap.size ≤ x ∧ x < W.heap.size) :
    Calls Try.prog 20 #[.agg (rda R s), .agg (jv 3 40 turn.toInt (.slice va vn vc) u), .string (strB t)] W fun e w' => (∃ R' va' vn' vc' qa m1 qc pa m2 pc fy oy, rda R' (addF s turn u out t).1 = #[.slice qa m1 qc, .slice pa m2 pc, .int .i64 fy, .bool oy] ∧ e = .returned (.tuple #[.agg #[.slice qa m1 qc, .slice pa m2 pc, .int .i64 fy, .bool oy], .agg #[.int .i64 3, .int .i64 40, .int .i64 turn.toInt, .slice va' vn' vc', .int .i64 (addF s turn u out t).2.1], .int .i64 (addF s turn u out t).2.2.2]) ∧ Mr w' J px E R' (addF s turn u out t).1 (addF s turn u out t).2.2.1 va' vn' vc') ∧ Below W.heap.size W w' := by
  have r1 : RefIs wx (fun x => (J.foot x ∨ x = px) ∨ E x) R s.sure s.wait := o.ref.grow (fun k hk hn h => by
    rcases h with h | h
    · exact hn h
    · have := (hE k h).1; omega)
  refine (ref_add (r1.below b) (fun k hk => ?_) (o.stOk hi) o.pu hi va vn vc (o.list.over b) o.vl t).mono ?_
  · have := b.size
    rcases hk with (h | h) | h
    · have := o.jnl.lt h; omega
    · rw [h]; have := o.box.lt; omega
    · exact (hE k h).2
  · rintro e w' ⟨⟨R', va', vn', vc', rfl, h1, h2, h3, h4⟩, b2⟩
    refine ⟨⟨R', va', vn', vc', _, _, _, _, _, _, _, _, rfl, rfl, ⟨h1, h2, fun x hx => ?_, h3⟩⟩, b2⟩
    have hb := b.size
    rcases h4 x hx with h | h
    · have hl := o.list.lt h
      exact ⟨(o.lav x h).1, (o.lav x h).2, fun h5 => by have := (hE x h5).1; omega⟩
    · exact ⟨fun h5 => by have := o.jnl.lt h5; omega, fun h5 => by have := o.box.lt; omega, fun h5 => by have := (hE x h5).2; omega⟩
theorem box_second (w : World) (A : Obj) (c : Array Value) (t : TypeId) : Box ((w.alloc A).alloc (.cells c t)) (w.heap.size + 1) t c := by
  have := box_new (w.alloc A) c t
  rwa [World.size_alloc] at this
theorem sd_j {w : World} {px hp jp : Nat} {q : Array Value} {T u T' u' : Int} {v v' : Value} (B : Box w px 43 (sdc hp jp q T v u)) : Box (((((w.setCell ⟨px, 6, none⟩ (.int .i64 3)).setCell ⟨px, 7, none⟩ (.int .i64 40)).setCell ⟨px, 8, none⟩ (.int .i64 T')).setCell ⟨px, 9, none⟩ v').setCell ⟨px, 10, none⟩ (.int .i64 u')) px 43 (sdc hp jp q T' v' u') :=
  ((((B.set 6 _).set 7 _).set 8 _).set 9 _).set 10 _
theorem keptj {F : Nat → Prop} {a w : World} (h : Kept F a w) {z : Nat} (hz : F z ∨ a.heap.size ≤ z) (y u v s t : Value) : Kept F a (((((w.setCell ⟨z, 6, none⟩ y).setCell ⟨z, 7, none⟩ u).setCell ⟨z, 8, none⟩ v).setCell ⟨z, 9, none⟩ s).setCell ⟨z, 10, none⟩ t) :=
  ((((h.setCell (p := ⟨z, 6, none⟩) hz y).setCell (p := ⟨z, 7, none⟩) hz u).setCell (p := ⟨z, 8, none⟩) hz v).setCell (p := ⟨z, 9, none⟩) hz s).setCell (p := ⟨z, 10, none⟩) hz t
end Go.Proofs.Ytgffplfpoopolaa
