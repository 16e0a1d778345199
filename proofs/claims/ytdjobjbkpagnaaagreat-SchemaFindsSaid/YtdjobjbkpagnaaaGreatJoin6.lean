/-
  10 texts, one behind the other: XTake3, XRefMay, XRefMay2, XTake4, XPut, XPut2, XSame, XSame2, XAwakeP, XAwake.
-/
import Derived.Test.YtdjobjbkpagnaaaGreatJoin5
import Derived.Test.YtdjobjbkpagnaaaGreatJoin3
import Derived.Test.YtdjobjbkpagnaaaGreatJoin4
/-
  The contracts of schema's takeList of columns, projections and tables, and of takeTable.
-/
namespace Go.Proofs.YtdjobjbkpagnaaaGreat
open Go.RowKit Leb

/-- Blocks from before w, and the one that v lies in. -/
def Gv (w : World) (v : Value) (b : Nat) : Prop := b < w.heap.size ∨ v.ownBlock = some b
def G3 (w : World) (v u : Value) (b : Nat) : Prop := b < w.heap.size ∨ v.ownBlock = some b ∨ u.ownBlock = some b
theorem colX_kept {G : Nat → Prop} {w w' : World} {x : Col} {cs : List Value} (h : ColX G w x cs) (_ : Kept G w w') : ColX G w' x cs := h
theorem colX_other {G H : Nat → Prop} {w : World} {x : Col} {cs : List Value} (h : ColX G w x cs) (_ : ∀ b, b < w.heap.size → H b → G b) : ColX H w x cs := h
theorem pjX_kept {G : Nat → Prop} {w w' : World} {x : Pj} {cs : List Value} (h : PjX G w x cs) (k : Kept G w w') : PjX G w' x cs := h.kept k
theorem pjX_other {G H : Nat → Prop} {w : World} {x : Pj} {cs : List Value} (h : PjX G w x cs) (k : ∀ b, b < w.heap.size → H b → G b) : PjX H w x cs := h.other k
theorem tbX_kept {G : Nat → Prop} {w w' : World} {x : Tb} {cs : List Value} (h : TbX G w x cs) (k : Kept G w w') : TbX G w' x cs := h.kept k
theorem tbX_other {G H : Nat → Prop} {w : World} {x : Tb} {cs : List Value} (h : TbX G w x cs) (k : ∀ b, b < w.heap.size → H b → G b) : TbX H w x cs := h.other k
theorem colX_one {G : Nat → Prop} {w : World} {x : Col} {cs : List Value} (h : ColX G w x cs) : ∀ u ∈ cs, u.oneCell' = true := one_col (w := w) h
theorem pjX_one {G : Nat → Prop} {w : World} {x : Pj} {cs : List Value} (h : PjX G w x cs) : ∀ u ∈ cs, u.oneCell' = true := one_pj h.is
theorem tbX_one {G : Nat → Prop} {w : World} {x : Tb} {cs : List Value} (h : TbX G w x cs) : ∀ u ∈ cs, u.oneCell' = true := one_tb h.is
theorem rowsE_snoc {α : Type} {E : World → α → List Value → Prop} {w : World} {l : List α} {R : List (List Value)} {x : α} {r : List Value} (h : RowsE E w l R) (hx : E w x r) : RowsE E w (l ++ [x]) (R ++ [r]) := by
  refine ⟨by simp [h.1], fun i y s hy hs => ?_⟩
  by_cases hi : i < l.length
  · rw [List.getElem?_append_left hi] at hy
    rw [List.getElem?_append_left (by rw [h.1]; exact hi)] at hs
    exact h.2 i y s hy hs
  · have hi2 := (List.getElem?_eq_some_iff.1 hy).1
    rw [List.length_append, List.length_singleton] at hi2
    have hi3 : i = l.length := by omega
    subst hi3
    rw [List.getElem?_append_right (Nat.le_refl _)] at hy
    rw [List.getElem?_append_right (by rw [h.1]; exact Nat.le_refl _), h.1] at hs
    simp at hy hs
    subst hy hs
    exact hx
/-- What is so while columns are read. -/
structure LsC (w W : World) (B : Nat) (s : ByteArray) (f : Bool) (v : Value) (l : List Col) (R : List (List Value)) : Prop where
  rd : Rd W B s f
  kp : Kept (fun b => b = B) w W
  lt : B < w.heap.size
  sz : s.size ≤ 1000000
  rows : SRows W v 53 3 R
  all : RowsE (ColX (Gv w v)) W l R
  own : ∀ b, v.ownBlock = some b → w.heap.size ≤ b
theorem LsC.step {w W W2 : World} {B : Nat} {s s2 : ByteArray} {f f2 : Bool} {v : Value} {l : List Col} {R : List (List Value)} (h : LsC w W B s f v l R) (hr : Rd W2 B s2 f2) (hk : Kept (fun b => b = B) W W2) (hs : s2.size ≤ 1000000) : LsC w W2 B s2 f2 v l R := by
  have hm : Kept (Gv w v) W W2 := hk.mono fun b hb => .inl (by rw [hb]; exact h.lt)
  exact ⟨hr, h.kp.trans hk (fun _ h => .inl h), h.lt, hs, h.rows.kept hk (fun g hg => by have := h.own g hg; have := h.lt; omega), ⟨h.all.1, fun i x r hx hr => colX_kept (h.all.2 i x r hx hr) hm⟩, h.own⟩
theorem LsC.add {w W W3 : World} {B : Nat} {s : ByteArray} {f : Bool} {v v3 : Value} {l : List Col} {R : List (List Value)} {x : Col} {c0 c1 c2 : Value} (h : LsC w W B s f v l R) (hx : ColX (Gv w v) W x [c0, c1, c2])
    (hs : SRows W3 v3 53 3 (R ++ [[c0, c1, c2]])) (hwh : ∀ k, v3.ownBlock = some k → v.ownBlock = some k ∨ (W.alloc (.cells #[c0, c1, c2] 53)).heap.size ≤ k) (hk : Kept (fun b => v.ownBlock = some b) (W.alloc (.cells #[c0, c1, c2] 53)) W3) :
    LsC w W3 B s f v3 (l ++ [x]) (R ++ [[c0, c1, c2]]) := by
  have b1 := below1 W (.cells #[c0, c1, c2] 53)
  have ha : RowsE (ColX (Gv w v)) (W.alloc (.cells #[c0, c1, c2] 53)) (l ++ [x]) (R ++ [[c0, c1, c2]]) := rowsE_snoc ⟨h.all.1, fun i y r hy hr => colX_kept (h.all.2 i y r hy hr) (kept_of_below _ b1)⟩ (colX_kept hx (kept_of_below _ b1))
  have hks : Kept (fun b => b = B) (W.alloc (.cells #[c0, c1, c2] 53)) W3 ∨ True := .inr trivial
  have hB : ∀ b, v.ownBlock = some b → b ≠ B := fun b hb => by have := h.own b hb; have := h.lt; omega
  refine ⟨(Box.alloc h.rd _).kept hk (fun e => hB B e rfl), ?_, h.lt, h.sz, hs, ⟨ha.1, fun i y r hy hr => ?_⟩, fun b hb => ?_⟩
  · have h1 := h.kp.alloc (.cells #[c0, c1, c2] 53)
    exact h1.trans hk (fun b hb => .inr (h.own b hb))
  · have e1 := colX_other (H := G3 w v v3) (ha.2 i y r hy hr) (fun b hb hg => by
      rcases hg with hg | hg | hg
      · exact .inl hg
      · exact .inr hg
      · rcases hwh b hg with h1 | h1
        · exact .inr h1
        · omega)
    have e2 := colX_kept e1 (hk.mono (G := G3 w v v3) fun b hb => .inr (.inl hb))
    exact colX_other e2 (fun b _ hg => by
      rcases hg with hg | hg
      · exact .inl hg
      · exact .inr (.inr hg))
  · rcases hwh b hb with h1 | h1
    · exact h.own b h1
    · have := h.kp.size; have := b1.size; omega
set_option maxRecDepth 4000 in
set_option maxHeartbeats 4000000 in
theorem takeListC_any {w : World} {B : Nat} {s : ByteArray} {f : Bool} (h : Rd w B s f) (hs : s.size ≤ 1000000) (m : Nat) (hm : m ≤ 100) (g : Nat) (p : By → Option (Col × By)) (eg : ∀ args w, (callFunc g args).run Tryz.prog w = .ok (.enter g args) w)
    (hf : ∀ W s f, Rd W B s f → s.size ≤ 1000000 → Calls Tryz.prog g #[.pointer (some ⟨B, 0, none⟩)] W (RdAns B (rep3 ColX) p s f W)) :
    Calls Tryz.prog 92 #[.pointer (some ⟨B, 0, none⟩), .int .i64 (m : Int), .func (.func g) #[] #[]] w (RdAns B (repL ColX) (pList m p) s f w) := by
  have cu := upTo_any h hs m (by omega)
  have HF : Hid (∀ W s f, Rd W B s f → s.size ≤ 1000000 → Calls Tryz.prog g #[.pointer (some ⟨B, 0, none⟩)] W (RdAns B (rep3 ColX) p s f W)) := hf
  have HL : Hid (B < w.heap.size ∧ s.size ≤ 1000000) := ⟨Box.lt h, hs⟩
  obtain ⟨i0, hi, hz0, hz1, hz2⟩ := info_parts infos_col
  have HI : Hid (Tryz.prog.info? 53 = some i0 ∧ i0.zero = some (.agg #[.string ⟨#[]⟩, .int .i64 0, .bool false]) ∧ i0.size = 3 ∧ i0.bytes = 32) := ⟨hi, hz0, hz1, hz2⟩
  have hmI : (m : Int) ≤ 100 := by omega
  clear h hs hf hi hz0 hz1 hz2 hm
  go_enter Tryz.func92, Tryz.ntmps92
  go_wp2_with fail
  refine Calls.mono cu ?_
  rintro e w1 ⟨x, s1, f1, rfl, hr1, st1, k1, hx0, hxm⟩
  obtain ⟨n, hn⟩ : ∃ n : Nat, x.toInt = (n : Int) := ⟨x.toInt.toNat, by omega⟩
  have H1 : Hid (RdStep (pTo m) s.data.toList f x s1.data.toList f1 ∧ x.toInt = (n : Int) ∧ n ≤ 100) := ⟨st1, hn, by omega⟩
  have HS : Hid (LsC w w1 B s1 f1 (.slice none 0 0) [] []) := ⟨hr1, k1, HL.out.1, step_size st1 HL.out.2, srows_nil _ _ _, ⟨rfl, fun i x r hx => by simp at hx⟩, fun b hb => by simp [Value.ownBlock] at hb⟩
  have hnI : (n : Int) ≤ 100 := by omega
  rw [hn]
  clear cu hr1 st1 k1 hx0 hxm hn
  go_wp2_with fail
  go_loopg [7, 11] n (fun gg s7 s11 wx => ∃ (k : Nat) (s2 : ByteArray) (f2 : Bool) (a : Option Addr) (q : Nat) (l : List Col) (R : List (List Value)), k + gg = n ∧ s11 = .int .i64 k ∧ s7 = .slice a k q ∧ Hid (LsC w wx B s2 f2 (.slice a k q) l R ∧ RdStep (pRep p k) s1.data.toList f1 l s2.data.toList f2 ∧ R.length = k))
  case atStart => exact ⟨0, s1, f1, none, 0, [], [], by omega, rfl, rfl, HS.out, step_rep0 _ _ _, rfl⟩
  case round =>
    clear HS
    obtain ⟨k, s2, f2, a, q, l, R, hkg, rfl, rfl, HS⟩ := hrel
    by_cases hk : k < n
    · have hkI : (k : Int) < (n : Int) := by omega
      have hr2 : IntKind.i64.wrap ((k : Int) + 1) = (k : Int) + 1 := by rw [IntKind.wrap_i64]; omega
      have ct := HF.out wr s2 f2 HS.out.1.rd HS.out.1.sz
      go_wp2_with fail
      refine Calls.mono ct ?_
      rintro e w3 ⟨v3, x3, s3, f3, rfl, ⟨c0, c1, c2, rfl, hE⟩, hr3, st3, k3⟩
      have hL := HS.out.1.step hr3 k3 (step_size st3 HS.out.1.sz)
      have hE2 : ColX (Gv w (.slice a k q)) w3 x3 [c0, c1, c2] := colX_other hE (fun b _ hg => by
        rcases hg with hg | hg
        · have := HS.out.1.kp.size; omega
        · exact HS.out.1.rows.lt hg)
      have HN : Hid (LsC w w3 B s3 f3 (.slice a k q) l R ∧ ColX (Gv w (.slice a k q)) w3 x3 [c0, c1, c2] ∧ RdStep (pRep p (k + 1)) s1.data.toList f1 (l ++ [x3]) s3.data.toList f3 ∧ R.length = k) := ⟨hL, hE2, step_rep HS.out.2.1 st3, HS.out.2.2⟩
      have hone := colX_one hE2
      have HO : Hid (∀ r ∈ [[c0, c1, c2]], ∀ c ∈ r, c.oneCell' = true) := fun r hr => by simp only [List.mem_singleton] at hr; rw [hr]; exact hone
      have hSR := hL.rows
      have HV : Hid (SRows (w3.alloc (.cells #[c0, c1, c2] 53)) (.slice a k q) 53 3 R) := hSR.of_block fun g hg => Below.heap_alloc _ _ g (hSR.lt hg)
      have HC : Hid (∀ (j : Nat) (u : Value), [[c0, c1, c2]].flatten[j]? = some u → (w3.alloc (.cells #[c0, c1, c2] 53)).cell? ((⟨w3.heap.size, 0, none⟩ : Addr).add j) = some u) := fun j u hu => by
        rw [add_off, Nat.zero_add]
        exact (box_new w3 #[c0, c1, c2] 53).cell j u (by simpa using hu)
      have HM : Hid (R.length + 1 = k + 1) := by unfold Hid; rw [HS.out.2.2]
      clear ct hE hr3 st3 k3 hL hE2 hone hSR HS
      go_wp2_with (at_builtin; refine append_any rfl (.tmp 13) (.tmp 17) 23 53 i0 (.agg #[.string ⟨#[]⟩, .int .i64 0, .bool false]) 3 32 rfl Tryz.underlying23 HI.out.1 HI.out.2.1 HI.out.2.2.1 HI.out.2.2.2 rfl (by decide) (by decide) rfl rfl HV.out (R2 := [[c0, c1, c2]]) rfl (by simp) HC.out HO.out (k + 1) HM.out (R ++ [[c0, c1, c2]]) rfl (by omega) ?_; intro va vc w4 hsr hwh hkk)
      go_roundg (n - (k + 1))
      case measure => clear hr2; omega
      case rel => exact ⟨k + 1, s3, f3, va, vc, l ++ [x3], R ++ [[c0, c1, c2]], by clear hr2; omega, by go_num, rfl, HN.out.1.add HN.out.2.1 hsr.out hwh.out hkk.out, HN.out.2.2.1, by rw [List.length_append, HN.out.2.2.2]; rfl⟩
    · have hkI : ¬ (k : Int) < (n : Int) := by omega
      obtain rfl : k = n := by omega
      go_wp2_with fail
      go_ret
      have hh := HS.out
      refine ⟨_, l, s2, f2, rfl, ?_, hh.1.rd, step_list H1.out.1 (by rw [H1.out.2.1, Int.toNat_natCast]; exact hh.2.1), hh.1.kp⟩
      exact (slX_of_srows (G := fun b => b < w.heap.size) (E := ColX fun b => b < w.heap.size) hh.1.rows ⟨hh.1.all.1, fun i y r hy hr => colX_other (hh.1.all.2 i y r hy hr) (fun b _ hg => .inl hg)⟩ (fun b hb hg => by have := hh.1.own b hb; omega))
/-- What is so while projections are read. -/
structure LsP (w W : World) (B : Nat) (s : ByteArray) (f : Bool) (v : Value) (l : List Pj) (R : List (List Value)) : Prop where
  rd : Rd W B s f
  kp : Kept (fun b => b = B) w W
  lt : B < w.heap.size
  sz : s.size ≤ 1000000
  rows : SRows W v 26 3 R
  all : RowsE (PjX (Gv w v)) W l R
  own : ∀ b, v.ownBlock = some b → w.heap.size ≤ b
theorem LsP.step {w W W2 : World} {B : Nat} {s s2 : ByteArray} {f f2 : Bool} {v : Value} {l : List Pj} {R : List (List Value)} (h : LsP w W B s f v l R) (hr : Rd W2 B s2 f2) (hk : Kept (fun b => b = B) W W2) (hs : s2.size ≤ 1000000) : LsP w W2 B s2 f2 v l R := by
  have hm : Kept (Gv w v) W W2 := hk.mono fun b hb => .inl (by rw [hb]; exact h.lt)
  exact ⟨hr, h.kp.trans hk (fun _ h => .inl h), h.lt, hs, h.rows.kept hk (fun g hg => by have := h.own g hg; have := h.lt; omega), ⟨h.all.1, fun i x r hx hr => pjX_kept (h.all.2 i x r hx hr) hm⟩, h.own⟩
theorem LsP.add {w W W3 : World} {B : Nat} {s : ByteArray} {f : Bool} {v v3 : Value} {l : List Pj} {R : List (List Value)} {x : Pj} {c0 c1 c2 : Value} (h : LsP w W B s f v l R) (hx : PjX (Gv w v) W x [c0, c1, c2])
    (hs : SRows W3 v3 26 3 (R ++ [[c0, c1, c2]])) (hwh : ∀ k, v3.ownBlock = some k → v.ownBlock = some k ∨ (W.alloc (.cells #[c0, c1, c2] 26)).heap.size ≤ k) (hk : Kept (fun b => v.ownBlock = some b) (W.alloc (.cells #[c0, c1, c2] 26)) W3) :
    LsP w W3 B s f v3 (l ++ [x]) (R ++ [[c0, c1, c2]]) := by
  have b1 := below1 W (.cells #[c0, c1, c2] 26)
  have ha : RowsE (PjX (Gv w v)) (W.alloc (.cells #[c0, c1, c2] 26)) (l ++ [x]) (R ++ [[c0, c1, c2]]) := rowsE_snoc ⟨h.all.1, fun i y r hy hr => pjX_kept (h.all.2 i y r hy hr) (kept_of_below _ b1)⟩ (pjX_kept hx (kept_of_below _ b1))
  have hks : Kept (fun b => b = B) (W.alloc (.cells #[c0, c1, c2] 26)) W3 ∨ True := .inr trivial
  have hB : ∀ b, v.ownBlock = some b → b ≠ B := fun b hb => by have := h.own b hb; have := h.lt; omega
  refine ⟨(Box.alloc h.rd _).kept hk (fun e => hB B e rfl), ?_, h.lt, h.sz, hs, ⟨ha.1, fun i y r hy hr => ?_⟩, fun b hb => ?_⟩
  · have h1 := h.kp.alloc (.cells #[c0, c1, c2] 26)
    exact h1.trans hk (fun b hb => .inr (h.own b hb))
  · have e1 := pjX_other (H := G3 w v v3) (ha.2 i y r hy hr) (fun b hb hg => by
      rcases hg with hg | hg | hg
      · exact .inl hg
      · exact .inr hg
      · rcases hwh b hg with h1 | h1
        · exact .inr h1
        · omega)
    have e2 := pjX_kept e1 (hk.mono (G := G3 w v v3) fun b hb => .inr (.inl hb))
    exact pjX_other e2 (fun b _ hg => by
      rcases hg with hg | hg
      · exact .inl hg
      · exact .inr (.inr hg))
  · rcases hwh b hb with h1 | h1
    · exact h.own b h1
    · have := h.kp.size; have := b1.size; omega
set_option maxRecDepth 4000 in
set_option maxHeartbeats 4000000 in
theorem takeListP_any {w : World} {B : Nat} {s : ByteArray} {f : Bool} (h : Rd w B s f) (hs : s.size ≤ 1000000) (m : Nat) (hm : m ≤ 100) (g : Nat) (p : By → Option (Pj × By)) (eg : ∀ args w, (callFunc g args).run Tryz.prog w = .ok (.enter g args) w)
    (hf : ∀ W s f, Rd W B s f → s.size ≤ 1000000 → Calls Tryz.prog g #[.pointer (some ⟨B, 0, none⟩)] W (RdAns B (rep3 PjX) p s f W)) :
    Calls Tryz.prog 94 #[.pointer (some ⟨B, 0, none⟩), .int .i64 (m : Int), .func (.func g) #[] #[]] w (RdAns B (repL PjX) (pList m p) s f w) := by
  have cu := upTo_any h hs m (by omega)
  have HF : Hid (∀ W s f, Rd W B s f → s.size ≤ 1000000 → Calls Tryz.prog g #[.pointer (some ⟨B, 0, none⟩)] W (RdAns B (rep3 PjX) p s f W)) := hf
  have HL : Hid (B < w.heap.size ∧ s.size ≤ 1000000) := ⟨Box.lt h, hs⟩
  obtain ⟨i0, hi, hz0, hz1, hz2⟩ := info_parts infos_pj
  have HI : Hid (Tryz.prog.info? 26 = some i0 ∧ i0.zero = some (.agg #[.string ⟨#[]⟩, .slice none 0 0, .int .i64 0]) ∧ i0.size = 3 ∧ i0.bytes = 48) := ⟨hi, hz0, hz1, hz2⟩
  have hmI : (m : Int) ≤ 100 := by omega
  clear h hs hf hi hz0 hz1 hz2 hm
  go_enter Tryz.func94, Tryz.ntmps94
  go_wp2_with fail
  refine Calls.mono cu ?_
  rintro e w1 ⟨x, s1, f1, rfl, hr1, st1, k1, hx0, hxm⟩
  obtain ⟨n, hn⟩ : ∃ n : Nat, x.toInt = (n : Int) := ⟨x.toInt.toNat, by omega⟩
  have H1 : Hid (RdStep (pTo m) s.data.toList f x s1.data.toList f1 ∧ x.toInt = (n : Int) ∧ n ≤ 100) := ⟨st1, hn, by omega⟩
  have HS : Hid (LsP w w1 B s1 f1 (.slice none 0 0) [] []) := ⟨hr1, k1, HL.out.1, step_size st1 HL.out.2, srows_nil _ _ _, ⟨rfl, fun i x r hx => by simp at hx⟩, fun b hb => by simp [Value.ownBlock] at hb⟩
  have hnI : (n : Int) ≤ 100 := by omega
  rw [hn]
  clear cu hr1 st1 k1 hx0 hxm hn
  go_wp2_with fail
  go_loopg [7, 11] n (fun gg s7 s11 wx => ∃ (k : Nat) (s2 : ByteArray) (f2 : Bool) (a : Option Addr) (q : Nat) (l : List Pj) (R : List (List Value)), k + gg = n ∧ s11 = .int .i64 k ∧ s7 = .slice a k q ∧ Hid (LsP w wx B s2 f2 (.slice a k q) l R ∧ RdStep (pRep p k) s1.data.toList f1 l s2.data.toList f2 ∧ R.length = k))
  case atStart => exact ⟨0, s1, f1, none, 0, [], [], by omega, rfl, rfl, HS.out, step_rep0 _ _ _, rfl⟩
  case round =>
    clear HS
    obtain ⟨k, s2, f2, a, q, l, R, hkg, rfl, rfl, HS⟩ := hrel
    by_cases hk : k < n
    · have hkI : (k : Int) < (n : Int) := by omega
      have hr2 : IntKind.i64.wrap ((k : Int) + 1) = (k : Int) + 1 := by rw [IntKind.wrap_i64]; omega
      have ct := HF.out wr s2 f2 HS.out.1.rd HS.out.1.sz
      go_wp2_with fail
      refine Calls.mono ct ?_
      rintro e w3 ⟨v3, x3, s3, f3, rfl, ⟨c0, c1, c2, rfl, hE⟩, hr3, st3, k3⟩
      have hL := HS.out.1.step hr3 k3 (step_size st3 HS.out.1.sz)
      have hE2 : PjX (Gv w (.slice a k q)) w3 x3 [c0, c1, c2] := pjX_other hE (fun b _ hg => by
        rcases hg with hg | hg
        · have := HS.out.1.kp.size; omega
        · exact HS.out.1.rows.lt hg)
      have HN : Hid (LsP w w3 B s3 f3 (.slice a k q) l R ∧ PjX (Gv w (.slice a k q)) w3 x3 [c0, c1, c2] ∧ RdStep (pRep p (k + 1)) s1.data.toList f1 (l ++ [x3]) s3.data.toList f3 ∧ R.length = k) := ⟨hL, hE2, step_rep HS.out.2.1 st3, HS.out.2.2⟩
      have hone := pjX_one hE2
      have HO : Hid (∀ r ∈ [[c0, c1, c2]], ∀ c ∈ r, c.oneCell' = true) := fun r hr => by simp only [List.mem_singleton] at hr; rw [hr]; exact hone
      have hSR := hL.rows
      have HV : Hid (SRows (w3.alloc (.cells #[c0, c1, c2] 26)) (.slice a k q) 26 3 R) := hSR.of_block fun g hg => Below.heap_alloc _ _ g (hSR.lt hg)
      have HC : Hid (∀ (j : Nat) (u : Value), [[c0, c1, c2]].flatten[j]? = some u → (w3.alloc (.cells #[c0, c1, c2] 26)).cell? ((⟨w3.heap.size, 0, none⟩ : Addr).add j) = some u) := fun j u hu => by
        rw [add_off, Nat.zero_add]
        exact (box_new w3 #[c0, c1, c2] 26).cell j u (by simpa using hu)
      have HM : Hid (R.length + 1 = k + 1) := by unfold Hid; rw [HS.out.2.2]
      clear ct hE hr3 st3 k3 hL hE2 hone hSR HS
      go_wp2_with (at_builtin; refine append_any rfl (.tmp 13) (.tmp 17) 39 26 i0 (.agg #[.string ⟨#[]⟩, .slice none 0 0, .int .i64 0]) 3 48 rfl Tryz.underlying39 HI.out.1 HI.out.2.1 HI.out.2.2.1 HI.out.2.2.2 rfl (by decide) (by decide) rfl rfl HV.out (R2 := [[c0, c1, c2]]) rfl (by simp) HC.out HO.out (k + 1) HM.out (R ++ [[c0, c1, c2]]) rfl (by omega) ?_; intro va vc w4 hsr hwh hkk)
      go_roundg (n - (k + 1))
      case measure => clear hr2; omega
      case rel => exact ⟨k + 1, s3, f3, va, vc, l ++ [x3], R ++ [[c0, c1, c2]], by clear hr2; omega, by go_num, rfl, HN.out.1.add HN.out.2.1 hsr.out hwh.out hkk.out, HN.out.2.2.1, by rw [List.length_append, HN.out.2.2.2]; rfl⟩
    · have hkI : ¬ (k : Int) < (n : Int) := by omega
      obtain rfl : k = n := by omega
      go_wp2_with fail
      go_ret
      have hh := HS.out
      refine ⟨_, l, s2, f2, rfl, ?_, hh.1.rd, step_list H1.out.1 (by rw [H1.out.2.1, Int.toNat_natCast]; exact hh.2.1), hh.1.kp⟩
      exact (slX_of_srows (G := fun b => b < w.heap.size) (E := PjX fun b => b < w.heap.size) hh.1.rows ⟨hh.1.all.1, fun i y r hy hr => pjX_other (hh.1.all.2 i y r hy hr) (fun b _ hg => .inl hg)⟩ (fun b hb hg => by have := hh.1.own b hb; omega))
/-- What is so while tables are read. -/
structure LsT (w W : World) (B : Nat) (s : ByteArray) (f : Bool) (v : Value) (l : List Tb) (R : List (List Value)) : Prop where
  rd : Rd W B s f
  kp : Kept (fun b => b = B) w W
  lt : B < w.heap.size
  sz : s.size ≤ 1000000
  rows : SRows W v 41 3 R
  all : RowsE (TbX (Gv w v)) W l R
  own : ∀ b, v.ownBlock = some b → w.heap.size ≤ b
theorem LsT.step {w W W2 : World} {B : Nat} {s s2 : ByteArray} {f f2 : Bool} {v : Value} {l : List Tb} {R : List (List Value)} (h : LsT w W B s f v l R) (hr : Rd W2 B s2 f2) (hk : Kept (fun b => b = B) W W2) (hs : s2.size ≤ 1000000) : LsT w W2 B s2 f2 v l R := by
  have hm : Kept (Gv w v) W W2 := hk.mono fun b hb => .inl (by rw [hb]; exact h.lt)
  exact ⟨hr, h.kp.trans hk (fun _ h => .inl h), h.lt, hs, h.rows.kept hk (fun g hg => by have := h.own g hg; have := h.lt; omega), ⟨h.all.1, fun i x r hx hr => tbX_kept (h.all.2 i x r hx hr) hm⟩, h.own⟩
theorem LsT.add {w W W3 : World} {B : Nat} {s : ByteArray} {f : Bool} {v v3 : Value} {l : List Tb} {R : List (List Value)} {x : Tb} {c0 c1 c2 : Value} (h : LsT w W B s f v l R) (hx : TbX (Gv w v) W x [c0, c1, c2])
    (hs : SRows W3 v3 41 3 (R ++ [[c0, c1, c2]])) (hwh : ∀ k, v3.ownBlock = some k → v.ownBlock = some k ∨ (W.alloc (.cells #[c0, c1, c2] 41)).heap.size ≤ k) (hk : Kept (fun b => v.ownBlock = some b) (W.alloc (.cells #[c0, c1, c2] 41)) W3) :
    LsT w W3 B s f v3 (l ++ [x]) (R ++ [[c0, c1, c2]]) := by
  have b1 := below1 W (.cells #[c0, c1, c2] 41)
  have ha : RowsE (TbX (Gv w v)) (W.alloc (.cells #[c0, c1, c2] 41)) (l ++ [x]) (R ++ [[c0, c1, c2]]) := rowsE_snoc ⟨h.all.1, fun i y r hy hr => tbX_kept (h.all.2 i y r hy hr) (kept_of_below _ b1)⟩ (tbX_kept hx (kept_of_below _ b1))
  have hks : Kept (fun b => b = B) (W.alloc (.cells #[c0, c1, c2] 41)) W3 ∨ True := .inr trivial
  have hB : ∀ b, v.ownBlock = some b → b ≠ B := fun b hb => by have := h.own b hb; have := h.lt; omega
  refine ⟨(Box.alloc h.rd _).kept hk (fun e => hB B e rfl), ?_, h.lt, h.sz, hs, ⟨ha.1, fun i y r hy hr => ?_⟩, fun b hb => ?_⟩
  · have h1 := h.kp.alloc (.cells #[c0, c1, c2] 41)
    exact h1.trans hk (fun b hb => .inr (h.own b hb))
  · have e1 := tbX_other (H := G3 w v v3) (ha.2 i y r hy hr) (fun b hb hg => by
      rcases hg with hg | hg | hg
      · exact .inl hg
      · exact .inr hg
      · rcases hwh b hg with h1 | h1
        · exact .inr h1
        · omega)
    have e2 := tbX_kept e1 (hk.mono (G := G3 w v v3) fun b hb => .inr (.inl hb))
    exact tbX_other e2 (fun b _ hg => by
      rcases hg with hg | hg
      · exact .inl hg
      · exact .inr (.inr hg))
  · rcases hwh b hb with h1 | h1
    · exact h.own b h1
    · have := h.kp.size; have := b1.size; omega
set_option maxRecDepth 4000 in
set_option maxHeartbeats 4000000 in
theorem takeListT_any {w : World} {B : Nat} {s : ByteArray} {f : Bool} (h : Rd w B s f) (hs : s.size ≤ 1000000) (m : Nat) (hm : m ≤ 100) (g : Nat) (p : By → Option (Tb × By)) (eg : ∀ args w, (callFunc g args).run Tryz.prog w = .ok (.enter g args) w)
    (hf : ∀ W s f, Rd W B s f → s.size ≤ 1000000 → Calls Tryz.prog g #[.pointer (some ⟨B, 0, none⟩)] W (RdAns B (rep3 TbX) p s f W)) :
    Calls Tryz.prog 50 #[.pointer (some ⟨B, 0, none⟩), .int .i64 (m : Int), .func (.func g) #[] #[]] w (RdAns B (repL TbX) (pList m p) s f w) := by
  have cu := upTo_any h hs m (by omega)
  have HF : Hid (∀ W s f, Rd W B s f → s.size ≤ 1000000 → Calls Tryz.prog g #[.pointer (some ⟨B, 0, none⟩)] W (RdAns B (rep3 TbX) p s f W)) := hf
  have HL : Hid (B < w.heap.size ∧ s.size ≤ 1000000) := ⟨Box.lt h, hs⟩
  obtain ⟨i0, hi, hz0, hz1, hz2⟩ := info_parts infos_tb
  have HI : Hid (Tryz.prog.info? 41 = some i0 ∧ i0.zero = some (.agg #[.string ⟨#[]⟩, .slice none 0 0, .slice none 0 0]) ∧ i0.size = 3 ∧ i0.bytes = 64) := ⟨hi, hz0, hz1, hz2⟩
  have hmI : (m : Int) ≤ 100 := by omega
  clear h hs hf hi hz0 hz1 hz2 hm
  go_enter Tryz.func50, Tryz.ntmps50
  go_wp2_with fail
  refine Calls.mono cu ?_
  rintro e w1 ⟨x, s1, f1, rfl, hr1, st1, k1, hx0, hxm⟩
  obtain ⟨n, hn⟩ : ∃ n : Nat, x.toInt = (n : Int) := ⟨x.toInt.toNat, by omega⟩
  have H1 : Hid (RdStep (pTo m) s.data.toList f x s1.data.toList f1 ∧ x.toInt = (n : Int) ∧ n ≤ 100) := ⟨st1, hn, by omega⟩
  have HS : Hid (LsT w w1 B s1 f1 (.slice none 0 0) [] []) := ⟨hr1, k1, HL.out.1, step_size st1 HL.out.2, srows_nil _ _ _, ⟨rfl, fun i x r hx => by simp at hx⟩, fun b hb => by simp [Value.ownBlock] at hb⟩
  have hnI : (n : Int) ≤ 100 := by omega
  rw [hn]
  clear cu hr1 st1 k1 hx0 hxm hn
  go_wp2_with fail
  go_loopg [7, 11] n (fun gg s7 s11 wx => ∃ (k : Nat) (s2 : ByteArray) (f2 : Bool) (a : Option Addr) (q : Nat) (l : List Tb) (R : List (List Value)), k + gg = n ∧ s11 = .int .i64 k ∧ s7 = .slice a k q ∧ Hid (LsT w wx B s2 f2 (.slice a k q) l R ∧ RdStep (pRep p k) s1.data.toList f1 l s2.data.toList f2 ∧ R.length = k))
  case atStart => exact ⟨0, s1, f1, none, 0, [], [], by omega, rfl, rfl, HS.out, step_rep0 _ _ _, rfl⟩
  case round =>
    clear HS
    obtain ⟨k, s2, f2, a, q, l, R, hkg, rfl, rfl, HS⟩ := hrel
    by_cases hk : k < n
    · have hkI : (k : Int) < (n : Int) := by omega
      have hr2 : IntKind.i64.wrap ((k : Int) + 1) = (k : Int) + 1 := by rw [IntKind.wrap_i64]; omega
      have ct := HF.out wr s2 f2 HS.out.1.rd HS.out.1.sz
      go_wp2_with fail
      refine Calls.mono ct ?_
      rintro e w3 ⟨v3, x3, s3, f3, rfl, ⟨c0, c1, c2, rfl, hE⟩, hr3, st3, k3⟩
      have hL := HS.out.1.step hr3 k3 (step_size st3 HS.out.1.sz)
      have hE2 : TbX (Gv w (.slice a k q)) w3 x3 [c0, c1, c2] := tbX_other hE (fun b _ hg => by
        rcases hg with hg | hg
        · have := HS.out.1.kp.size; omega
        · exact HS.out.1.rows.lt hg)
      have HN : Hid (LsT w w3 B s3 f3 (.slice a k q) l R ∧ TbX (Gv w (.slice a k q)) w3 x3 [c0, c1, c2] ∧ RdStep (pRep p (k + 1)) s1.data.toList f1 (l ++ [x3]) s3.data.toList f3 ∧ R.length = k) := ⟨hL, hE2, step_rep HS.out.2.1 st3, HS.out.2.2⟩
      have hone := tbX_one hE2
      have HO : Hid (∀ r ∈ [[c0, c1, c2]], ∀ c ∈ r, c.oneCell' = true) := fun r hr => by simp only [List.mem_singleton] at hr; rw [hr]; exact hone
      have hSR := hL.rows
      have HV : Hid (SRows (w3.alloc (.cells #[c0, c1, c2] 41)) (.slice a k q) 41 3 R) := hSR.of_block fun g hg => Below.heap_alloc _ _ g (hSR.lt hg)
      have HC : Hid (∀ (j : Nat) (u : Value), [[c0, c1, c2]].flatten[j]? = some u → (w3.alloc (.cells #[c0, c1, c2] 41)).cell? ((⟨w3.heap.size, 0, none⟩ : Addr).add j) = some u) := fun j u hu => by
        rw [add_off, Nat.zero_add]
        exact (box_new w3 #[c0, c1, c2] 41).cell j u (by simpa using hu)
      have HM : Hid (R.length + 1 = k + 1) := by unfold Hid; rw [HS.out.2.2]
      clear ct hE hr3 st3 k3 hL hE2 hone hSR HS
      go_wp2_with (at_builtin; refine append_any rfl (.tmp 13) (.tmp 17) 22 41 i0 (.agg #[.string ⟨#[]⟩, .slice none 0 0, .slice none 0 0]) 3 64 rfl Tryz.underlying22 HI.out.1 HI.out.2.1 HI.out.2.2.1 HI.out.2.2.2 rfl (by decide) (by decide) rfl rfl HV.out (R2 := [[c0, c1, c2]]) rfl (by simp) HC.out HO.out (k + 1) HM.out (R ++ [[c0, c1, c2]]) rfl (by omega) ?_; intro va vc w4 hsr hwh hkk)
      go_roundg (n - (k + 1))
      case measure => clear hr2; omega
      case rel => exact ⟨k + 1, s3, f3, va, vc, l ++ [x3], R ++ [[c0, c1, c2]], by clear hr2; omega, by go_num, rfl, HN.out.1.add HN.out.2.1 hsr.out hwh.out hkk.out, HN.out.2.2.1, by rw [List.length_append, HN.out.2.2.2]; rfl⟩
    · have hkI : ¬ (k : Int) < (n : Int) := by omega
      obtain rfl : k = n := by omega
      go_wp2_with fail
      go_ret
      have hh := HS.out
      refine ⟨_, l, s2, f2, rfl, ?_, hh.1.rd, step_list H1.out.1 (by rw [H1.out.2.1, Int.toNat_natCast]; exact hh.2.1), hh.1.kp⟩
      exact (slX_of_srows (G := fun b => b < w.heap.size) (E := TbX fun b => b < w.heap.size) hh.1.rows ⟨hh.1.all.1, fun i y r hy hr => tbX_other (hh.1.all.2 i y r hy hr) (fun b _ hg => .inl hg)⟩ (fun b hb hg => by have := hh.1.own b hb; omega))
set_option maxHeartbeats 2000000 in
theorem takeTb_any {w : World} {B : Nat} {s : ByteArray} {f : Bool} (h : Rd w B s f) (hs : s.size ≤ 1000000) :
    Calls Tryz.prog 51 #[.pointer (some ⟨B, 0, none⟩)] w (RdAns B (rep3 TbX) pTbC s f w) := by
  have HT : Hid (Tk w (w.alloc (.cells #[.string ⟨#[]⟩, .slice none 0 0, .slice none 0 0] 41)) B 41 #[.string ⟨#[]⟩, .slice none 0 0, .slice none 0 0] s f) := tk_new h hs _ _
  clear h hs
  go_enter Tryz.func51, Tryz.ntmps51
  go_wp2_with fail
  refine Calls.mono (name_rd HT.out.rd HT.out.sz) ?_
  rintro e w1 ⟨v1, a, s1, f1, rfl, hv, hr1, st1, k1⟩
  have ev : v1 = .string a := hv
  subst ev
  have H1 : Hid (Tk w w1 B 41 #[.string ⟨#[]⟩, .slice none 0 0, .slice none 0 0] s1 f1 ∧ RdStep pName s.data.toList f a s1.data.toList f1) := ⟨HT.out.next hr1 k1 (step_size st1 HT.out.sz), st1⟩
  clear hv hr1 st1 k1
  go_wp2_with fail
  refine Calls.mono (takeListC_any H1.out.1.rd H1.out.1.sz 8 (by decide) 93 pColC (enters_of Tryz.func93 (by kernel_rfl) rfl) (fun W s f h hs => takeCol_any h hs)) ?_
  rintro e w2 ⟨v2, b, s2, f2, rfl, hv, hr2, st2, k2⟩
  have H2 : Hid (Tk w w2 B 41 #[.string ⟨#[]⟩, .slice none 0 0, .slice none 0 0] s2 f2 ∧ RdStep (pList 8 pColC) s1.data.toList f1 b s2.data.toList f2) := ⟨H1.out.1.next hr2 k2 (step_size st2 H1.out.1.sz), st2⟩
  have HV : Hid (SlX (fun x => x < w1.heap.size) ColE 3 w2 v2 b) := hv
  obtain ⟨aI, nI, capI, rfl, _⟩ := (HV.out.is (E' := ColE) fun _ _ h => h).slice
  clear hv hr2 st2 k2
  go_wp2_with fail
  refine Calls.mono (takeListP_any H2.out.1.rd H2.out.1.sz 6 (by decide) 95 pPjC (enters_of Tryz.func95 (by kernel_rfl) rfl) (fun W s f h hs => takePj_any h hs)) ?_
  rintro e w3 ⟨v3, c, s3, f3, rfl, hv, hr3, st3, k3⟩
  have HV3 : Hid (SlX (fun x => x < w2.heap.size) (PjX fun x => x < w2.heap.size) 3 w3 v3 c) := hv
  have H3 : Hid (Tk w w3 B 41 #[.string ⟨#[]⟩, .slice none 0 0, .slice none 0 0] s3 f3 ∧ RdStep (pList 6 pPjC) s2.data.toList f2 c s3.data.toList f3 ∧ SlX (fun x => x < w1.heap.size) ColE 3 w3 (.slice aI nI capI) b) := ⟨H2.out.1.next hr3 k3 (step_size st3 H2.out.1.sz), st3, HV.out.kept (k3.mono fun x hx => by rw [hx]; have := H1.out.1.lt; have := H1.out.1.up; omega) (fun _ _ h => h)⟩
  obtain ⟨aJ, nJ, capJ, rfl, _⟩ := (HV3.out.is (E' := PjE) fun _ _ h => h.is).slice
  clear hv hr3 st3 k3
  have hone : (#[.string a, .slice aI nI capI, .slice aJ nJ capJ] : Array Value).all (fun c => c.oneCell') = true := one_three (by intro u hu; simp only [List.mem_cons, List.not_mem_nil, or_false] at hu; rcases hu with rfl | rfl | rfl <;> rfl)
  go_wp2_with (refine wpList_store_row rfl 41 _ _ rfl w.heap.size _ rfl rfl 41 _ H3.out.1.box size_tb rfl hone ?_)
  have hF := H3.out.1.fill #[.string a, .slice aI nI capI, .slice aJ nJ capJ]
  have hX := (H3.out.2.2.kept (hF.2.2.2.mono fun x hx => by rw [hx]; exact H1.out.1.up) (fun _ _ h => h)).other (H := fun x => x < w.heap.size) (E' := ColE) (fun x _ hx => by have := H1.out.1.up; omega) (fun _ _ h => h)
  have hm2 : Kept (fun x => x < w2.heap.size) w3 (w3.setRow w.heap.size #[.string a, .slice aI nI capI, .slice aJ nJ capJ]) := hF.2.2.2.mono fun x hx => by rw [hx]; exact H2.out.1.up
  have hY := (HV3.out.kept hm2 (fun _ _ h => h.kept hm2)).other (H := fun x => x < w.heap.size) (E' := PjX fun x => x < w.heap.size) (fun x _ hx => by have := H2.out.1.up; omega) (fun _ _ h => h.other (fun x _ hx => by have := H2.out.1.up; omega))
  exact bodyPost_ret (res_box Tryz.results51 _ rfl hF.2.1 Tryz.underlying41 rfl size_tb) rfl ⟨_, ⟨a, b, c⟩, s3, f3, rfl, ⟨_, _, _, rfl, ⟨_, _, rfl, hX, hY⟩⟩, hF.1, tb_step H1.out.2 H2.out.2 H3.out.2.1, hF.2.2.1⟩
end Go.Proofs.YtdjobjbkpagnaaaGreat
/-
  The contracts of the document's Columns, Projection, table and May.
-/
namespace Go.Proofs.YtdjobjbkpagnaaaGreat
open Go.RowKit Go.Shelf

theorem tw_true_of {α : Type} {same : α → α → Bool} {l : List α} {i j : Nat} {x y : α} (hij : i < j) (hx : l[i]? = some x) (hy : l[j]? = some y) (h : same x y = true) : tw same l = true := by
  cases e : tw same l with
  | true => rfl
  | false => rw [tw_false_iff.1 e i j x y hij hx hy] at h; exact h
theorem all_false_of {α : Type} {p : α → Bool} {l : List α} {i : Nat} {x : α} (hx : l[i]? = some x) (h : p x = false) : l.all p = false := by
  rw [List.all_eq_false]
  exact ⟨x, List.mem_of_getElem? hx, by rw [h]; simp⟩
theorem cols_bad1 {l : List Col} {i : Nat} {x : Col} (hx : l[i]? = some x) (h : colOk x = false) : colsB l = false := by
  unfold colsB; rw [all_false_of hx h, Bool.and_false, Bool.false_and]
theorem cols_bad2 {l : List Col} {i j : Nat} {x y : Col} (hij : i < j) (hx : l[i]? = some x) (hy : l[j]? = some y) (h : sameC x y = true) : colsB l = false := by
  unfold colsB; rw [tw_true_of hij hx hy h, Bool.not_true, Bool.and_false]
theorem cols_end {l : List Col} (h1 : l.all colOk = true) (h2 : tw sameC l = false) : colsB l = (decide (1 ≤ l.length) && decide (l.length ≤ 8)) := by
  unfold colsB; rw [h1, h2, Bool.not_false, Bool.and_true, Bool.and_true]
theorem any_take_take {α : Type} {p : α → Bool} {l : List α} {i k : Nat} {y : α} (hk : k < i) (hy : l[k]? = some y) : ((l.take i).take (k + 1)).any p = (((l.take i).take k).any p || p y) :=
  any_take_succ (by rw [List.getElem?_take, if_pos hk]; exact hy)
theorem colOk_parts (x : Col) (q : Bool) (k : Int) (hq : q = nameB x.name) (hk : k = x.kind.toInt) : colOk x = (q && (decide (k = 1) || decide (k = 2))) := by
  unfold colOk; rw [hq, hk]

set_option maxRecDepth 4000 in
set_option maxHeartbeats 4000000 in
theorem refCols_any {w : World} {v : Value} {l : List Col} (h : ColsIs w v l) (hl : l.length ≤ 1000000) (hc : ∀ c ∈ l, litC c) :
    Calls Tryz.prog 67 #[v] w fun e w' => e = .returned (.bool (colsB l)) ∧ Below w.heap.size w w' := by
  obtain ⟨a, n, cap, rfl, hn, hcap⟩ := h.slice
  have hn1 : (n : Int) ≤ 1000000 := by omega
  have HH : Hid (ColsIs w (.slice a n cap) l ∧ l.length = n ∧ ∀ c ∈ l, litC c) := ⟨h, hn, hc⟩
  clear h hl hn hc
  go_enter Tryz.func67, Tryz.ntmps67
  go_wp2_with fail
  go_loopg [3] n (fun gg s3 wx => ∃ i : Nat, i + gg = n ∧ s3 = .int .i64 i ∧ Hid ((l.take i).all colOk = true ∧ tw sameC (l.take i) = false) ∧ Hid (Below w.heap.size w wx))
  case atStart => exact ⟨0, by omega, rfl, by unfold Hid; rw [List.take_zero]; exact ⟨rfl, rfl⟩, Below.refl _ _⟩
  case round =>
    obtain ⟨i, hig, rfl, HN, HB⟩ := hrel
    by_cases hi : i < n
    · have hiI : (i : Int) < (n : Int) := by omega
      obtain ⟨x, d0, d1, d2, b, off, hs, rfl, hE, c0, c1, c2⟩ := at3C (HH.out.1.over stays_col HB.out) hi
      have e : [d0, d1, d2] = colC x := hE
      simp only [colC, List.cons.injEq, and_true] at e
      obtain ⟨rfl, rfl, rfl⟩ := e
      have hr2 : IntKind.i64.wrap ((i : Int) + 1) = (i : Int) + 1 := by rw [IntKind.wrap_i64]; omega
      have hnm := fun W => refName_any x.name (by have := HH.out.2.2 x (List.mem_of_getElem? hs); unfold litC at this; unfold maxLen; omega) W
      obtain ⟨q, hq⟩ : ∃ q, q = nameB x.name := ⟨_, rfl⟩
      obtain ⟨k1, hk1⟩ : ∃ k1, k1 = x.kind.toInt := ⟨_, rfl⟩
      have HS : Hid (l[i]? = some x ∧ colOk x = (q && (decide (k1 = 1) || decide (k1 = 2)))) := ⟨hs, colOk_parts x q k1 hq hk1⟩
      rw [← hq] at hnm
      rw [← hk1] at c1
      clear hE hs hq hk1 c2
      cases q with
      | false =>
        go_wp2_with fail
        refine (hnm _).mono ?_
        rintro e w1 ⟨rfl, hw⟩
        replace hw := hw.symm
        subst hw
        go_wp2_with fail
        go_ret
        exact ⟨ret_bool (cols_bad1 HS.out.1 (by rw [HS.out.2]; rfl)).symm, HB.out⟩
      | true =>
        have hkk : (∃ q1 q2, (k1 != 1) = q1 ∧ (k1 != 2) = q2 ∧ colOk x = !(q1 && q2)) := ⟨_, _, rfl, rfl, by rw [HS.out.2, Bool.true_and, Bool.eq_iff_iff]; simp⟩
        obtain ⟨q1, q2, hq1, hq2, hok⟩ := hkk
        have HO : Hid (colOk x = !(q1 && q2)) := hok
        clear hok
        have hways : (q1 = true ∧ q2 = true) ∨ (q1 = true ∧ q2 = false) ∨ q1 = false := by cases q1 <;> cases q2 <;> simp
        rcases hways with ⟨rfl, rfl⟩ | ⟨rfl, rfl⟩ | rfl
        · go_wp2_with fail
          refine (hnm _).mono ?_
          rintro e w1 ⟨rfl, hw⟩
          replace hw := hw.symm
          subst hw
          go_wp2_with fail
          go_ret
          exact ⟨ret_bool (cols_bad1 HS.out.1 HO.out).symm, HB.out⟩
        all_goals
          go_wp2_with fail
          refine (hnm _).mono ?_
          rintro e w1 ⟨rfl, hw⟩
          replace hw := hw.symm
          subst hw
          clear hnm
          go_wp2_with fail
          go_loopg [4] i (fun gg s4 wx => ∃ k : Nat, k + gg = i ∧ s4 = .int .i64 k ∧ Hid (((l.take i).take k).any (fun y => sameC y x) = false) ∧ Hid (Below w.heap.size w wx))
          case atStart => exact ⟨0, by omega, rfl, by unfold Hid; rw [List.take_zero]; rfl, HB⟩
          case round =>
            clear c0 c1 HB
            obtain ⟨k, hkg, rfl, HK, HB⟩ := hrel
            by_cases hk : k < i
            · have hkI : (k : Int) < (i : Int) := by omega
              have hkn : (k : Int) < (n : Int) := by omega
              obtain ⟨y, f0, f1, f2, b2, off2, hy, eb, hE2, g0, g1, g2⟩ := at3C (HH.out.1.over stays_col HB.out) (k := k) (by omega)
              obtain ⟨x2, e0, e1, e2, b3, off3, hx2, eb2, hE3, g3, g4, g5⟩ := at3C (HH.out.1.over stays_col HB.out) (k := i) hi
              cases eb
              cases eb2
              have e : [f0, f1, f2] = colC y := hE2
              simp only [colC, List.cons.injEq, and_true] at e
              obtain ⟨rfl, rfl, rfl⟩ := e
              obtain rfl : x2 = x := Option.some.inj (hx2.symm.trans HS.out.1)
              have e : [e0, e1, e2] = colC x2 := hE3
              simp only [colC, List.cons.injEq, and_true] at e
              obtain ⟨rfl, rfl, rfl⟩ := e
              have hr3 : IntKind.i64.wrap ((k : Int) + 1) = (k : Int) + 1 := by rw [IntKind.wrap_i64]; omega
              obtain ⟨q, hq⟩ : ∃ q, (y.name.toList == x2.name.toList) = q := ⟨_, rfl⟩
              have HY : Hid (l[k]? = some y ∧ ((l.take i).take (k + 1)).any (fun y => sameC y x2) = (((l.take i).take k).any (fun y => sameC y x2) || sameC y x2) ∧ sameC y x2 = q) := ⟨hy, any_take_take hk hy, by rw [← hq, eqS_beq]; rfl⟩
              clear hE2 hE3 hy hx2 g1 g2 g4 g5
              cases q with
              | true =>
                go_wp2_with fail
                go_quiet (fail)
                go_wp2_with fail
                go_ret
                exact ⟨ret_bool (cols_bad2 hk HY.out.1 HS.out.1 HY.out.2.2).symm, ⟨HB.out.os, HB.out.tape, HB.out.output, HB.out.size, HB.out.block⟩⟩
              | false =>
                go_wp2_with fail
                go_quiet (fail)
                go_wp2_with fail
                go_roundg (i - (k + 1))
                case measure => clear hr2 hr3; omega
                case rel => exact ⟨k + 1, by clear hr2 hr3; omega, by go_num, by unfold Hid; rw [HY.out.2.1, HK.out, HY.out.2.2]; rfl, ⟨HB.out.os, HB.out.tape, HB.out.output, HB.out.size, HB.out.block⟩⟩
            · have hkI : ¬ (k : Int) < (i : Int) := by omega
              obtain rfl : k = i := by omega
              go_wp2_with fail
              go_roundg (n - (k + 1))
              case measure => clear hr2; omega
              case rel => exact ⟨k + 1, by clear hr2; omega, by go_num, ⟨by rw [all_take_succ HS.out.1, HN.out.1, HO.out]; rfl, by rw [tw_take HS.out.1, HN.out.2]; have := HK.out; rw [List.take_of_length_le (by rw [List.length_take]; omega)] at this; rw [this]; rfl⟩, HB⟩
    · have hiI : ¬ (i : Int) < (n : Int) := by omega
      obtain rfl : i = n := by omega
      have hend : Hid (colsB l = (decide (1 ≤ i) && decide (i ≤ 8))) := by
        have := HN.out
        rw [List.take_of_length_le (by rw [HH.out.2.1]; exact Nat.le_refl _)] at this
        unfold Hid
        rw [cols_end this.1 this.2, HH.out.2.1]
      by_cases h1 : 1 ≤ (i : Int)
      · have d1 : decide (1 ≤ i) = true := by simp; omega
        rw [d1] at hend
        obtain ⟨q, hq⟩ : ∃ q, decide ((i : Int) ≤ 8) = q := ⟨_, rfl⟩
        have HQ : Hid (decide (i ≤ 8) = q) := by unfold Hid; rw [← hq, Bool.eq_iff_iff]; simp; omega
        go_wp2_with fail
        go_ret
        exact ⟨ret_bool (by rw [hend.out, HQ.out]; simp), HB.out⟩
      · have d1 : decide (1 ≤ i) = false := by simp; omega
        rw [d1] at hend
        go_wp2_with fail
        go_ret
        exact ⟨ret_bool (by rw [hend.out]; simp), HB.out⟩
end Go.Proofs.YtdjobjbkpagnaaaGreat
/-
  The contracts of the document's Projection, table and May.
-/
namespace Go.Proofs.YtdjobjbkpagnaaaGreat
open Go.RowKit Go.Shelf

theorem drewN_below {w w' : World} (h : Below w.heap.size w w') (n : Nat) : Below w.heap.size w (w'.drewN n) := ⟨h.os, h.tape, h.output, h.size, h.block⟩
/-- What is asked of a projection ahead of its Cols. -/
def pjHead (n : Nat) (p : Pj) : Bool := nameB p.name && decide (1 ≤ p.cols.length) && decide (p.cols.length ≤ n) && decide (0 ≤ p.keys.toInt) && decide (p.keys.toInt ≤ (p.cols.length : Int))
theorem pj_head (n : Nat) (p : Pj) : pjB n p = (pjHead n p && p.cols.all (colIn n) && !tw sameI p.cols) := rfl
theorem pj_bad0 {n : Nat} {p : Pj} (h : pjHead n p = false) : pjB n p = false := by rw [pj_head, h]; rfl
theorem pj_bad1 {n : Nat} {p : Pj} {i : Nat} {x : BitVec 64} (hx : p.cols[i]? = some x) (h : colIn n x = false) : pjB n p = false := by
  rw [pj_head, all_false_of hx h, Bool.and_false, Bool.false_and]
theorem pj_bad2 {n : Nat} {p : Pj} {i j : Nat} {x y : BitVec 64} (hij : i < j) (hx : p.cols[i]? = some x) (hy : p.cols[j]? = some y) (h : sameI x y = true) : pjB n p = false := by
  rw [pj_head, tw_true_of hij hx hy h, Bool.not_true, Bool.and_false]
theorem pj_end {n : Nat} {p : Pj} (h0 : pjHead n p = true) (h1 : p.cols.all (colIn n) = true) (h2 : tw sameI p.cols = false) : pjB n p = true := by
  rw [pj_head, h0, h1, h2]; rfl
set_option maxRecDepth 4000 in
set_option maxHeartbeats 4000000 in
theorem refProj_any {w : World} {p : Pj} {d0 d1 d2 : Value} (hp : PjE w p [d0, d1, d2]) (n : Nat) (hn : n ≤ 1000000) (hm : litP p) :
    Calls Tryz.prog 69 #[.agg #[d0, d1, d2], .int .i64 (n : Int)] w fun e w' => e = .returned (.bool (pjB n p)) ∧ Below w.heap.size w w' := by
  obtain ⟨vi, ep, hI⟩ := hp
  simp only [List.cons.injEq, and_true] at ep
  obtain ⟨rfl, rfl, rfl⟩ := ep
  obtain ⟨a, m, cap, rfl, hma, hca⟩ := hI.slice
  have hm2 := hm.2
  rw [hma] at hm2
  have b1 := below1 w (.cells #[.string p.name, .slice a m cap, .int .i64 p.keys.toInt] 26)
  have B1 := box_new w #[.string p.name, .slice a m cap, .int .i64 p.keys.toInt] 26
  have hnm := fun W => refName_any p.name (by have := hm.1; unfold maxLen; omega) W
  have HE : Hid (pjHead n p = (nameB p.name && decide (1 ≤ m) && decide (m ≤ n) && decide (0 ≤ p.keys.toInt) && decide (p.keys.toInt ≤ (m : Int)))) := by unfold Hid pjHead; rw [hma]
  obtain ⟨pn, hpn⟩ : ∃ x, x = p.name := ⟨_, rfl⟩
  obtain ⟨pk, hpk⟩ : ∃ x, x = p.keys.toInt := ⟨_, rfl⟩
  rw [← hpn, ← hpk] at b1 B1 HE
  rw [← hpn] at hnm
  rw [← hpn, ← hpk]
  have HB0 : Hid (Below w.heap.size w _ ∧ Box _ w.heap.size 26 #[.string pn, .slice a m cap, .int .i64 pk]) := ⟨b1, B1⟩
  obtain ⟨q1, hq1⟩ : ∃ q, q = nameB pn := ⟨_, rfl⟩
  rw [← hq1] at HE hnm
  have HI : Hid (IntsIs w (.slice a m cap) p.cols ∧ p.cols.length = m) := ⟨hI, hma⟩
  have hnI : (n : Int) ≤ 1000000 := by omega
  have hmI : (m : Int) ≤ 1000000 := by omega
  clear hI hma hca b1 B1 hpn hpk hq1 hm hm2
  cases q1 with
  | false =>
    go_enter Tryz.func69, Tryz.ntmps69
    go_wp2_with fail
    refine (hnm _).mono ?_
    rintro e w1 ⟨rfl, hw⟩
    replace hw := hw.symm
    subst hw
    clear hnm
    go_wp2_with fail
    go_ret
    exact ⟨ret_bool (pj_bad0 (by rw [HE.out]; rfl)).symm, HB0.out.1⟩
  | true =>
    by_cases h1 : (m : Int) < 1
    · have e1 : decide (1 ≤ m) = false := by simp; omega
      rw [e1] at HE
      clear e1
      go_enter Tryz.func69, Tryz.ntmps69
      go_wp2_with fail
      refine (hnm _).mono ?_
      rintro e w1 ⟨rfl, hw⟩
      replace hw := hw.symm
      subst hw
      clear hnm
      go_wp2_with fail
      go_ret
      exact ⟨ret_bool (pj_bad0 (by rw [HE.out]; rfl)).symm, HB0.out.1⟩
    · have e1 : decide (1 ≤ m) = true := by simp; omega
      by_cases h2 : (n : Int) < (m : Int)
      · have e2 : decide (m ≤ n) = false := by simp; omega
        rw [e1, e2] at HE
        clear e1 e2
        go_enter Tryz.func69, Tryz.ntmps69
        go_wp2_with fail
        refine (hnm _).mono ?_
        rintro e w1 ⟨rfl, hw⟩
        replace hw := hw.symm
        subst hw
        clear hnm
        go_wp2_with fail
        go_ret
        exact ⟨ret_bool (pj_bad0 (by rw [HE.out]; rfl)).symm, HB0.out.1⟩
      · have e2 : decide (m ≤ n) = true := by simp; omega
        by_cases h3 : pk < 0
        · have e3 : decide (0 ≤ pk) = false := by simp; omega
          rw [e1, e2, e3] at HE
          clear e1 e2 e3
          go_enter Tryz.func69, Tryz.ntmps69
          go_wp2_with fail
          refine (hnm _).mono ?_
          rintro e w1 ⟨rfl, hw⟩
          replace hw := hw.symm
          subst hw
          clear hnm
          go_wp2_with fail
          go_ret
          exact ⟨ret_bool (pj_bad0 (by rw [HE.out]; rfl)).symm, HB0.out.1⟩
        · have e3 : decide (0 ≤ pk) = true := by simp; omega
          by_cases h4 : (m : Int) < pk
          · have e4 : decide (pk ≤ (m : Int)) = false := by simp; omega
            rw [e1, e2, e3, e4] at HE
            clear e1 e2 e3 e4
            go_enter Tryz.func69, Tryz.ntmps69
            go_wp2_with fail
            refine (hnm _).mono ?_
            rintro e w1 ⟨rfl, hw⟩
            replace hw := hw.symm
            subst hw
            clear hnm
            go_wp2_with fail
            go_ret
            exact ⟨ret_bool (pj_bad0 (by rw [HE.out]; rfl)).symm, HB0.out.1⟩
          · have e4 : decide (pk ≤ (m : Int)) = true := by simp; omega
            rw [e1, e2, e3, e4] at HE
            clear e1 e2 e3 e4
            have j1 : decide ((m : Int) < 1) = false := by simpa using h1
            have j2 : decide ((n : Int) < (m : Int)) = false := by simpa using h2
            have j2n : decide (n < m) = false := by simp; omega
            have j3 : decide (pk < 0) = false := by simpa using h3
            have j4 : decide ((m : Int) < pk) = false := by simpa using h4
            clear h1 h2 h3 h4
            go_enter Tryz.func69, Tryz.ntmps69
            go_wp2_with fail
            refine (hnm _).mono ?_
            rintro e w1 ⟨rfl, hw⟩
            replace hw := hw.symm
            subst hw
            clear hnm
            go_wp2_with fail
            go_loopg [5] m (fun gg s5 wx => ∃ i : Nat, i + gg = m ∧ s5 = .int .i64 i ∧ Hid ((p.cols.take i).all (colIn n) = true ∧ tw sameI (p.cols.take i) = false) ∧ Hid (Below w.heap.size w wx ∧ Box wx w.heap.size 26 #[.string pn, .slice a m cap, .int .i64 pk]))
            case atStart => exact ⟨0, by omega, rfl, by unfold Hid; rw [List.take_zero]; exact ⟨rfl, rfl⟩, HB0⟩
            case round =>
              obtain ⟨i, hig, rfl, HN, HB⟩ := hrel
              have f1 := HB.out.2.cell 1 _ rfl
              by_cases hi : i < m
              · have hiI : (i : Int) < (m : Int) := by omega
                obtain ⟨x, b, off, hs, rfl, c0⟩ := at1I (HI.out.1.over stays_int HB.out.1) hi
                have hr2 : IntKind.i64.wrap ((i : Int) + 1) = (i : Int) + 1 := by rw [IntKind.wrap_i64]; omega
                obtain ⟨z, hz⟩ : ∃ z, z = x.toInt := ⟨_, rfl⟩
                have HS : Hid (p.cols[i]? = some x ∧ colIn n x = (decide (0 ≤ z) && decide (z < (n : Int))) ∧ z = x.toInt) := ⟨hs, by unfold colIn; rw [hz], hz⟩
                rw [← hz] at c0
                clear hs hz
                by_cases z1 : z < 0
                · go_wp2_with fail
                  go_ret
                  exact ⟨ret_bool (pj_bad1 HS.out.1 (by rw [HS.out.2.1, decide_eq_false (by omega)]; rfl)).symm, HB.out.1⟩
                · by_cases z2 : (n : Int) ≤ z
                  · go_wp2_with fail
                    go_ret
                    exact ⟨ret_bool (pj_bad1 HS.out.1 (by rw [HS.out.2.1, decide_eq_false (p := z < (n : Int)) (by omega), Bool.and_false])).symm, HB.out.1⟩
                  · have HO : Hid (colIn n x = true) := by unfold Hid; rw [HS.out.2.1, decide_eq_true (p := 0 ≤ z) (by omega), decide_eq_true (p := z < (n : Int)) (by omega)]; rfl
                    go_wp2_with fail
                    go_loopg [6] i (fun gg s6 wx => ∃ k : Nat, k + gg = i ∧ s6 = .int .i64 k ∧ Hid (((p.cols.take i).take k).any (fun y => sameI y x) = false) ∧ Hid (Below w.heap.size w wx ∧ Box wx w.heap.size 26 #[.string pn, .slice (some ⟨b, off, none⟩) m cap, .int .i64 pk]))
                    case atStart => exact ⟨0, by omega, rfl, by unfold Hid; rw [List.take_zero]; rfl, HB⟩
                    case round =>
                      clear c0 f1 HB
                      obtain ⟨k, hkg, rfl, HK, HB⟩ := hrel
                      have f1 := HB.out.2.cell 1 _ rfl
                      by_cases hk : k < i
                      · have hkI : (k : Int) < (i : Int) := by omega
                        have hkn : (k : Int) < (m : Int) := by omega
                        obtain ⟨y, b2, off2, hy, eb, g0⟩ := at1I (HI.out.1.over stays_int HB.out.1) (k := k) (by omega)
                        obtain ⟨x2, b3, off3, hx2, eb2, g3⟩ := at1I (HI.out.1.over stays_int HB.out.1) (k := i) hi
                        cases eb
                        cases eb2
                        obtain rfl : x2 = x := Option.some.inj (hx2.symm.trans HS.out.1)
                        have hr3 : IntKind.i64.wrap ((k : Int) + 1) = (k : Int) + 1 := by rw [IntKind.wrap_i64]; omega
                        obtain ⟨q, hq⟩ : ∃ q, (y.toInt == x2.toInt) = q := ⟨_, rfl⟩
                        have HY : Hid (p.cols[k]? = some y ∧ ((p.cols.take i).take (k + 1)).any (fun y => sameI y x2) = (((p.cols.take i).take k).any (fun y => sameI y x2) || sameI y x2) ∧ sameI y x2 = q) := ⟨hy, any_take_take hk hy, by rw [← hq]; unfold sameI; rw [Bool.eq_iff_iff]; simp only [beq_iff_eq, decide_eq_true_eq]⟩
                        clear hy hx2
                        cases q with
                        | true =>
                          go_wp2_with fail
                          go_quiet (fail)
                          go_wp2_with fail
                          go_ret
                          exact ⟨ret_bool (pj_bad2 hk HY.out.1 HS.out.1 HY.out.2.2).symm, drewN_below HB.out.1 _⟩
                        | false =>
                          go_wp2_with fail
                          go_quiet (fail)
                          go_wp2_with fail
                          go_roundg (i - (k + 1))
                          case measure => clear hr2 hr3; omega
                          case rel => exact ⟨k + 1, by clear hr2 hr3; omega, by go_num, by unfold Hid; rw [HY.out.2.1, HK.out, HY.out.2.2]; rfl, ⟨drewN_below HB.out.1 _, HB.out.2⟩⟩
                      · have hkI : ¬ (k : Int) < (i : Int) := by omega
                        obtain rfl : k = i := by omega
                        go_wp2_with fail
                        go_roundg (m - (k + 1))
                        case measure => clear hr2; omega
                        case rel => exact ⟨k + 1, by clear hr2; omega, by go_num, ⟨by rw [all_take_succ HS.out.1, HN.out.1, HO.out]; rfl, by rw [tw_take HS.out.1, HN.out.2]; have := HK.out; rw [List.take_of_length_le (by rw [List.length_take]; omega)] at this; rw [this]; rfl⟩, HB⟩
              · have hiI : ¬ (i : Int) < (m : Int) := by omega
                obtain rfl : i = m := by omega
                go_wp2_with fail
                go_ret
                have hend := HN.out
                rw [List.take_of_length_le (by rw [HI.out.2]; exact Nat.le_refl _)] at hend
                exact ⟨ret_bool (pj_end (by rw [HE.out]; rfl) hend.1 hend.2).symm, HB.out.1⟩
end Go.Proofs.YtdjobjbkpagnaaaGreat
/-
  The contract of schema's Take.
-/
namespace Go.Proofs.YtdjobjbkpagnaaaGreat
open Go.RowKit Leb

theorem name_few {s : By} {n : ByteArray} {r : By} (h : pName s = some (n, r)) : n.size ≤ 16 := by
  unfold pName at h
  rw [Option.bind_eq_some_iff] at h
  obtain ⟨p, hp, h⟩ := h
  have h2 := to_range (x := p.1) (r := p.2) hp
  split at h
  · cases h
    rw [str_size, List.length_take]
    have : p.1.toInt ≤ 16 := h2.2
    omega
  · cases h
theorem rep_all {α : Type} {p : By → Option (α × By)} {Q : α → Prop} (hp : ∀ s x r, p s = some (x, r) → Q x) : ∀ (k : Nat) (s : By) (l : List α) (r : By), pRep p k s = some (l, r) → ∀ x ∈ l, Q x
  | 0, s, l, r, h => by
    simp only [pRep, Option.some.injEq, Prod.mk.injEq] at h
    rw [← h.1]
    simp
  | k + 1, s, l, r, h => by
    rw [pRep, Option.bind_eq_some_iff] at h
    obtain ⟨q, hq, h⟩ := h
    rw [Option.bind_eq_some_iff] at h
    obtain ⟨t, ht, h⟩ := h
    cases h
    intro x hx
    rcases List.mem_append.1 hx with hx | hx
    · exact rep_all hp k s q.1 q.2 hq x hx
    · simp at hx; rw [hx]; exact hp _ _ _ ht
theorem rep_len {α : Type} {p : By → Option (α × By)} : ∀ (k : Nat) (s : By) (l : List α) (r : By), pRep p k s = some (l, r) → l.length = k
  | 0, s, l, r, h => by
    simp only [pRep, Option.some.injEq, Prod.mk.injEq] at h
    rw [← h.1]; rfl
  | k + 1, s, l, r, h => by
    rw [pRep, Option.bind_eq_some_iff] at h
    obtain ⟨q, hq, h⟩ := h
    rw [Option.bind_eq_some_iff] at h
    obtain ⟨t, ht, h⟩ := h
    cases h
    rw [List.length_append, rep_len k s q.1 q.2 hq]; rfl
theorem list_few {α : Type} {p : By → Option (α × By)} {Q : α → Prop} {m : Nat} (hp : ∀ s x r, p s = some (x, r) → Q x) {s : By} {l : List α} {r : By} (h : pList m p s = some (l, r)) : l.length ≤ m ∧ ∀ x ∈ l, Q x := by
  unfold pList at h
  rw [Option.bind_eq_some_iff] at h
  obtain ⟨q, hq, h⟩ := h
  have h4 := to_range (x := q.1) (r := q.2) hq
  exact ⟨by rw [rep_len _ _ _ _ h]; omega, rep_all hp _ _ _ _ h⟩
theorem nums_few {s : By} {l : List (BitVec 64)} {r : By} (h : pNums s = some (l, r)) : l.length ≤ 65536 := by
  unfold pNums at h
  split at h
  · rename_i h0
    cases h
    rcases tk_cases s with ⟨z, hz, e⟩ | ⟨_, e⟩
    · by_cases hn : (zagW z).toInt < 0
      · rw [ta_neg e hn] at h0; simp at h0
      · by_cases hm : 65536 < (zagW z).toInt
        · rw [ta_many e hm] at h0; simp at h0
        · cases hf : tkF (zagW z).toInt.toNat s [] (lenW z) with
          | none => rw [ta_none e (zagW z).toInt.toNat (by omega) (by omega) hf] at h0; simp at h0
          | some p =>
            obtain ⟨d, u⟩ := p
            rw [ta_some e (zagW z).toInt.toNat (by omega) (by omega) hf]
            simp only
            unfold tkF at hf
            rw [Option.map_eq_some_iff] at hf
            obtain ⟨q, hq, hf⟩ := hf
            simp only [List.nil_append, Prod.mk.injEq] at hf
            obtain ⟨rfl, rfl⟩ := hf
            have := (tkN_sound _ _ q.1 q.2 hq).2
            omega
    · rw [ta_form e] at h0; simp at h0
  · cases h
theorem lit_parse {s : By} {l : List Tb} {r : By} (h : pTabsC s = some (l, r)) : litL l := by
  have h1 := list_few (Q := litT) (fun s x r hx => by
    unfold pTbC at hx
    simp only [Option.bind_eq_some_iff] at hx
    obtain ⟨a, ha, b, hb, c, hc, hx⟩ := hx
    cases hx
    have hn := name_few (n := a.1) (r := a.2) ha
    have hcs := list_few (Q := litC) (fun s x r hx => by
      unfold pColC at hx
      simp only [Option.bind_eq_some_iff] at hx
      obtain ⟨a, ha, b, hb, c, hc, hx⟩ := hx
      cases hx
      have := name_few (n := a.1) (r := a.2) ha
      unfold litC
      simp only
      omega) hb
    have hps := list_few (Q := litP) (fun s x r hx => by
      unfold pPjC at hx
      simp only [Option.bind_eq_some_iff] at hx
      obtain ⟨a, ha, b, hb, c, hc, hx⟩ := hx
      cases hx
      have := name_few (n := a.1) (r := a.2) ha
      have := nums_few (l := b.1) (r := b.2) hb
      exact ⟨by simp only; omega, by simp only; omega⟩) hc
    exact ⟨by simp only; omega, by simp only; omega, by simp only; omega, hcs.2, hps.2⟩) h
  exact ⟨by omega, h1.2⟩
/-- What Take answers. -/
def TakeAns (w : World) (r : List Tb × Nat × Int) (e : Ending) (w' : World) : Prop := (∃ v', e = .returned (.tuple #[v', .int .i64 (r.2.1 : Int), .int .i64 r.2.2]) ∧ TabsIs w' v' r.1) ∧ Below w.heap.size w w'
set_option maxHeartbeats 4000000 in
theorem takeTabs_any (s : ByteArray) (hs : s.size ≤ 1000000) (w : World) :
    Calls Tryz.prog 18 #[.string s] w (TakeAns w (takeWith pTabsC s.data.toList)) := by
  obtain ⟨W0, hW0⟩ : ∃ W0, W0 = w.alloc (.cells #[.string s, .bool false] 78) := ⟨_, rfl⟩
  have hrd : Rd W0 w.heap.size s false := by rw [hW0]; exact box_new _ _ _
  have hb0 : Below w.heap.size w W0 := by rw [hW0]; exact below1 _ _
  have ct := takeListT_any hrd hs 8 (by decide) 51 pTbC (enters_of Tryz.func51 (by kernel_rfl) rfl) (fun W s f h hs => takeTb_any h hs)
  have HW : Hid (W0 = w.alloc (.cells #[.string s, .bool false] 78) ∧ Below w.heap.size w W0 ∧ s.size ≤ 1000000) := ⟨hW0, hb0, hs⟩
  have hsI : (s.size : Int) ≤ 1000000 := by omega
  clear hW0 hrd hb0 hs
  go_enter Tryz.func18, Tryz.ntmps18
  go_wp2_with fail
  rw [← HW.out.1]
  refine Calls.mono ct ?_
  rintro e w1 ⟨v, l, s2, f2, rfl, hv, hr, st, hk⟩
  have hb1 : Below w.heap.size w w1 := HW.out.2.1.trans (hk.below (fun b hb => by rw [hb]; exact Nat.le_refl _) HW.out.2.1.size)
  have hT : TabsIs w1 v l := SlX.is hv fun _ _ h => h.is
  have hs2 : s2.size ≤ s.size := by have := st.1; rwa [size_list, size_list] at this
  have c0 := Box.cell hr 0 _ rfl
  have c1 := Box.cell hr 1 _ rfl
  obtain ⟨a, n, cap, rfl, _⟩ := hT.slice
  have HR : Hid (TabsIs w1 (.slice a n cap) l ∧ Below w.heap.size w w1 ∧ Rd w1 w.heap.size s2 f2 ∧ RdStep pTabsC s.data.toList false l s2.data.toList f2) := ⟨hT, hb1, hr, st⟩
  clear ct hv hr st hk hb1 hT
  cases f2 with
  | true =>
    have HE : Hid (takeWith pTabsC s.data.toList = ([], 0, 20)) := by
      unfold Hid takeWith
      cases e : pTabsC s.data.toList with
      | none => rfl
      | some q => have := ((HR.out.2.2.2.2.2 rfl).1 q.1 q.2 e).2.2; cases this
    go_wp2_with fail
    refine bodyPost_ret (v := .tuple #[.slice none 0 0, .int .i64 0, .int .i64 20]) (by simp [results, Tryz.results18, go_sem]) rfl ?_
    rw [HE.out]
    exact ⟨⟨_, rfl, slIs_nil _ _ _ _ _⟩, HR.out.2.1⟩
  | false =>
    obtain ⟨r, hp⟩ : ∃ r, pTabsC s.data.toList = some (l, r) := by
      cases e : pTabsC s.data.toList with
      | none => have := (HR.out.2.2.2.2.2 rfl).2 e; cases this
      | some q => have := (HR.out.2.2.2.2.2 rfl).1 q.1 q.2 e; rw [this.1]; exact ⟨q.2, rfl⟩
    have hr2 : s2.data.toList = r := ((HR.out.2.2.2.2.2 rfl).1 l r hp).2.1
    have cc := check_any HR.out.1 (lit_parse hp)
    have HP : Hid (takeWith pTabsC s.data.toList = if tabsB l then (l, s.size - s2.size, 0) else ([], 0, 20)) := by
      unfold Hid takeWith
      rw [hp]
      simp only
      rw [← hr2, size_list, size_list]
    clear hp hr2
    cases hq : tabsB l with
    | false =>
      rw [hq] at cc HP
      unfold errT at cc
      simp only [Bool.false_eq_true, if_false] at cc HP
      clear hq
      go_wp2_with fail
      refine cc.mono ?_
      rintro e w2 ⟨rfl, hb2⟩
      go_wp2_with fail
      refine bodyPost_ret (v := .tuple #[.slice none 0 0, .int .i64 0, .int .i64 20]) (by simp [results, Tryz.results18, go_sem]) rfl ?_
      rw [HP.out]
      exact ⟨⟨_, rfl, slIs_nil _ _ _ _ _⟩, HR.out.2.1.trans (hb2.mono HR.out.2.1.size)⟩
    | true =>
      rw [hq] at cc HP
      unfold errT at cc
      simp only [if_true] at cc HP
      clear hq
      go_wp2_with fail
      refine cc.mono ?_
      rintro e w2 ⟨rfl, hb2⟩
      have hr2 : Rd w2 w.heap.size s2 false := Box.over HR.out.2.2.1 hb2
      have d0 := Box.cell hr2 0 _ rfl
      have HF : Hid (TabsIs w2 (.slice a n cap) l ∧ Below w.heap.size w w2) := ⟨HR.out.1.over stays_tb hb2, HR.out.2.1.trans (hb2.mono HR.out.2.1.size)⟩
      have hsub : ((s.size - s2.size : Nat) : Int) = (s.size : Int) - (s2.size : Int) := by omega
      have HSUB : Hid (((s.size - s2.size : Nat) : Int) = (s.size : Int) - (s2.size : Int)) := hsub
      have hs2I : (s2.size : Int) ≤ (s.size : Int) := by omega
      clear hr2 hb2 c0 c1 cc hsub
      go_wp2_with fail
      go_quiet (fail)
      go_wp2_with fail
      refine bodyPost_ret (v := .tuple #[.slice a n cap, .int .i64 ((s.size : Int) - (s2.size : Int)), .int .i64 0]) (by simp [results, Tryz.results18, go_sem]) rfl ?_
      rw [HP.out]
      refine ⟨⟨_, by rw [← HSUB.out], HF.out.1.over stays_tb ⟨rfl, rfl, rfl, Nat.le_refl _, fun _ _ => rfl⟩⟩, drewN_below HF.out.2 _⟩
end Go.Proofs.YtdjobjbkpagnaaaGreat
/-
  The contracts of schema's putName, putColumn, putProjection, putList, putTable and Put.
-/
namespace Go.Proofs.YtdjobjbkpagnaaaGreat
open Go.RowKit Go.Shelf

theorem ret_str {a b : ByteArray} (h : a = b) : Ending.returned (.string a) = .returned (.string b) := by rw [h]
theorem put_len (n : Nat) (hn : n ≤ 1000000) (w : World) : Calls Tryz.prog 82 #[.int .i64 (n : Int)] w fun e w' => e = .returned (.string (str (enc1 (BitVec.ofNat 64 n)))) ∧ Below w.heap.size w w' := by
  have := put_any (BitVec.ofNat 64 n) w
  rw [Wd.toInt_of_small _ (by omega)] at this
  exact this
theorem above_cell {w : World} {a : Addr} {v : Value} (h : w.cell? a = some v) (k : Above w) : k.it.cell? a = some v := (k.is.cell (p := a) (World.block_lt_of_cell? w a h)).trans h
set_option maxHeartbeats 1000000 in
theorem putName_any (n : ByteArray) (hn : n.size ≤ 1000) (w : World) : Calls Tryz.prog 83 #[.string n] w fun e w' => e = .returned (.string (str (encName n))) ∧ Below w.heap.size w w' := by
  have cp := fun W => put_len n.size (by omega) W
  have hs1 : (str (enc1 (BitVec.ofNat 64 n.size))).size ≤ 10 := enc1_le _
  obtain ⟨S, hS⟩ : ∃ S, S = str (enc1 (BitVec.ofNat 64 n.size)) := ⟨_, rfl⟩
  have HE : Hid (S ++ n = str (encName n)) := by
    unfold Hid encName
    rw [hS, ← str_append, str_of]
  rw [← hS] at cp hs1
  clear hS
  go_enter Tryz.func83, Tryz.ntmps83
  go_wp2_with fail
  refine (cp _).mono ?_
  rintro e w1 ⟨rfl, hb⟩
  go_wp2_with fail
  go_ret
  exact ⟨ret_str HE.out, hb⟩
set_option maxHeartbeats 4000000 in
theorem putCol_any (c : Col) (hc : litC c) (w : World) : Calls Tryz.prog 85 #[.agg #[.string c.name, .int .i64 c.kind.toInt, .bool c.null]] w fun e w' => e = .returned (.string (str (encCol c))) ∧ Below w.heap.size w w' := by
  have b1 := below1 w (.cells #[.string c.name, .int .i64 c.kind.toInt, .bool c.null] 53)
  have B1 := box_new w #[.string c.name, .int .i64 c.kind.toInt, .bool c.null] 53
  obtain ⟨W0, hW0⟩ : ∃ W0, W0 = w.alloc (.cells #[.string c.name, .int .i64 c.kind.toInt, .bool c.null] 53) := ⟨_, rfl⟩
  rw [← hW0] at b1 B1
  have cn := fun (k : Above W0) => putName_any c.name hc k.it
  have ck := fun (k : Above W0) => put_any c.kind k.it
  have c0 : ∀ k : Above W0, k.it.cell? ⟨w.heap.size, 0, none⟩ = some (.string c.name) := fun k => above_cell (B1.cell 0 _ rfl) k
  have c1 : ∀ k : Above W0, k.it.cell? ⟨w.heap.size, 1, none⟩ = some (.int .i64 c.kind.toInt) := fun k => above_cell (B1.cell 1 _ rfl) k
  have hz1 : (str (encName c.name)).size ≤ 2000 := by have := encName_le c.name; unfold litC at hc; rw [str_size]; omega
  have hz2 : (str (enc1 c.kind)).size ≤ 10 := enc1_le _
  have HE : Hid (encCol c = encName c.name ++ enc1 c.kind ++ enc1 (nullW c.null)) := rfl
  obtain ⟨nm, kd, nu⟩ := c
  simp only at cn ck c0 c1 hz1 hz2 HE b1 hW0 ⊢
  obtain ⟨S1, hS1⟩ : ∃ S, S = str (encName nm) := ⟨_, rfl⟩
  obtain ⟨S2, hS2⟩ : ∃ S, S = str (enc1 kd) := ⟨_, rfl⟩
  obtain ⟨kx, hkx⟩ : ∃ x, x = kd.toInt := ⟨_, rfl⟩
  rw [← hS1] at cn hz1
  rw [← hS2] at ck hz2
  rw [← hkx] at ck c1 hW0 ⊢
  have HB : Hid (Below w.heap.size w W0) := b1
  have HW : Hid (W0 = w.alloc (.cells #[.string nm, .int .i64 kx, .bool nu] 53)) := hW0
  cases nu with
  | true =>
    have cz : ∀ k : Above W0, Calls Tryz.prog 82 #[.int .i64 1] k.it fun e w' => e = .returned (.string (str (enc1 (BitVec.ofNat 64 1)))) ∧ Below k.it.heap.size k.it w' := fun k => put_len 1 (by omega) k.it
    have hz3 : (str (enc1 (BitVec.ofNat 64 1))).size ≤ 10 := enc1_le _
    obtain ⟨S3, hS3⟩ : ∃ S, S = str (enc1 (BitVec.ofNat 64 1)) := ⟨_, rfl⟩
    rw [← hS3] at cz hz3
    have HF : Hid (S1 ++ S2 ++ S3 = str (encCol ⟨nm, kd, true⟩)) := by
      unfold Hid
      rw [HE.out, hS1, hS2, hS3, str_append, str_append]
      rfl
    have hz12 : (S1 ++ S2).size ≤ 3000 := by rw [ByteArray.size_append]; omega
    clear hS1 hS2 hS3 hkx hW0 b1 B1
    go_enter Tryz.func85, Tryz.ntmps85
    go_wp2_with fail
    rw [← HW.out]
    refine wp_region_above (by kernel_rfl) (by kernel_rfl) ?_
    intro hne
    repeat (go_big_quiet_step (fail))
    go_big_quiet_step (first | (go_at_call 83; exact above_of (cn _)))
    repeat (go_big_quiet_step (fail))
    go_big_quiet_step (first | (go_at_call 82; exact above_of (ck _)))
    repeat (go_big_quiet_step (fail))
    go_big_quiet_step (first | (go_at_call 82; exact above_of (cz _)))
    repeat (go_big_quiet_step (fail))
    refine wpQuiet_nil ?_
    rintro _ ⟨kq, rfl⟩
    have hbq := kq.is
    go_wp2_with fail
    go_ret
    exact ⟨ret_str HF.out, HB.out.trans (hbq.mono HB.out.size)⟩
  | false =>
    have cz : ∀ k : Above W0, Calls Tryz.prog 82 #[.int .i64 0] k.it fun e w' => e = .returned (.string (str (enc1 (BitVec.ofNat 64 0)))) ∧ Below k.it.heap.size k.it w' := fun k => put_len 0 (by omega) k.it
    have hz3 : (str (enc1 (BitVec.ofNat 64 0))).size ≤ 10 := enc1_le _
    obtain ⟨S3, hS3⟩ : ∃ S, S = str (enc1 (BitVec.ofNat 64 0)) := ⟨_, rfl⟩
    rw [← hS3] at cz hz3
    have HF : Hid (S1 ++ S2 ++ S3 = str (encCol ⟨nm, kd, false⟩)) := by
      unfold Hid
      rw [HE.out, hS1, hS2, hS3, str_append, str_append]
      rfl
    have hz12 : (S1 ++ S2).size ≤ 3000 := by rw [ByteArray.size_append]; omega
    clear hS1 hS2 hS3 hkx hW0 b1 B1
    go_enter Tryz.func85, Tryz.ntmps85
    go_wp2_with fail
    rw [← HW.out]
    refine wp_region_above (by kernel_rfl) (by kernel_rfl) ?_
    intro hne
    repeat (go_big_quiet_step (fail))
    go_big_quiet_step (first | (go_at_call 83; exact above_of (cn _)))
    repeat (go_big_quiet_step (fail))
    go_big_quiet_step (first | (go_at_call 82; exact above_of (ck _)))
    repeat (go_big_quiet_step (fail))
    go_big_quiet_step (first | (go_at_call 82; exact above_of (cz _)))
    repeat (go_big_quiet_step (fail))
    refine wpQuiet_nil ?_
    rintro _ ⟨kq, rfl⟩
    have hbq := kq.is
    go_wp2_with fail
    go_ret
    exact ⟨ret_str HF.out, HB.out.trans (hbq.mono HB.out.size)⟩
end Go.Proofs.YtdjobjbkpagnaaaGreat
/-
  The contracts of schema's putProjection, putList, putTable and Put.
-/
namespace Go.Proofs.YtdjobjbkpagnaaaGreat
open Go.RowKit Go.Shelf

/-- So few parts that all bytes of them are few. -/
def fewP (p : Pj) : Prop := p.name.size ≤ 1000 ∧ p.cols.length ≤ 1000
def fewT (t : Tb) : Prop := t.name.size ≤ 1000 ∧ t.cols.length ≤ 100 ∧ t.projs.length ≤ 100 ∧ (∀ c ∈ t.cols, litC c) ∧ (∀ p ∈ t.projs, fewP p)
theorem encCol_le {c : Col} (h : litC c) : (encCol c).length ≤ 1030 := by
  unfold encCol litC at *
  have := encName_le c.name
  have := enc1_le c.kind
  have := enc1_le (nullW c.null)
  rw [List.length_append, List.length_append]
  omega
theorem encPj_le {p : Pj} (h : fewP p) : (encPj p).length ≤ 11030 := by
  unfold encPj
  have := encName_le p.name
  have := enc1_le p.keys
  have := encAll_len p.cols
  have := h.1
  have := h.2
  rw [List.length_append, List.length_append]
  omega
theorem encL_le {α : Type} {enc : α → List UInt8} {l : List α} {B m : Nat} (h : ∀ x ∈ l, (enc x).length ≤ B) (hm : l.length ≤ m) : (encL enc l).length ≤ 10 + m * B := by
  unfold encL
  have h1 := enc1_le (BitVec.ofNat 64 l.length)
  have h2 := flat_le h
  have h3 : l.length * B ≤ m * B := Nat.mul_le_mul_right _ hm
  rw [List.length_append]
  omega
theorem encTb_le {t : Tb} (h : fewT t) : (encTb t).length ≤ 1300000 := by
  unfold encTb
  have h1 := encName_le t.name
  have h2 := encL_le (enc := encCol) (l := t.cols) (fun x hx => encCol_le (h.2.2.2.1 x hx)) h.2.1
  have h3 := encL_le (enc := encPj) (l := t.projs) (fun x hx => encPj_le (h.2.2.2.2 x hx)) h.2.2.1
  have := h.1
  rw [List.length_append, List.length_append]
  omega
set_option maxHeartbeats 4000000 in
theorem putPj_any {w : World} {p : Pj} {d0 d1 d2 : Value} (hp : PjE w p [d0, d1, d2]) (hl : fewP p) : Calls Tryz.prog 87 #[.agg #[d0, d1, d2]] w fun e w' => e = .returned (.string (str (encPj p))) ∧ Below w.heap.size w w' := by
  have hI : ∀ W, Below w.heap.size w W → ReadsI W d1 p.cols := fun W hW => by
    obtain ⟨v, e, h⟩ := hp
    simp only [List.cons.injEq, and_true] at e
    rw [e.2.1]
    exact IntsIs.reads (SlIs.over h stays_int hW)
  obtain ⟨rfl, aI, nI, capI, rfl, rfl⟩ := pj_cells hp
  have b1 := below1 w (.cells #[.string p.name, .slice aI nI capI, .int .i64 p.keys.toInt] 26)
  have B1 := box_new w #[.string p.name, .slice aI nI capI, .int .i64 p.keys.toInt] 26
  obtain ⟨W0, hW0⟩ : ∃ W0, W0 = w.alloc (.cells #[.string p.name, .slice aI nI capI, .int .i64 p.keys.toInt] 26) := ⟨_, rfl⟩
  rw [← hW0] at b1 B1
  have cn := fun (k : Above W0) => putName_any p.name hl.1 k.it
  have cl := fun (k : Above W0) => putAll_any (.slice aI nI capI) p.cols k.it hl.2 (hI k.it (b1.trans (k.is.mono b1.size)))
  have ck := fun (k : Above W0) => put_any p.keys k.it
  have c0 : ∀ k : Above W0, k.it.cell? ⟨w.heap.size, 0, none⟩ = some (.string p.name) := fun k => above_cell (B1.cell 0 _ rfl) k
  have c1 : ∀ k : Above W0, k.it.cell? ⟨w.heap.size, 1, none⟩ = some (.slice aI nI capI) := fun k => above_cell (B1.cell 1 _ rfl) k
  have c2 : ∀ k : Above W0, k.it.cell? ⟨w.heap.size, 2, none⟩ = some (.int .i64 p.keys.toInt) := fun k => above_cell (B1.cell 2 _ rfl) k
  have hz1 : (str (encName p.name)).size ≤ 2000 := by have := encName_le p.name; have := hl.1; rw [str_size]; omega
  have hz2 : (str (encAll p.cols)).size ≤ 20000 := by have := encAll_len p.cols; have := hl.2; rw [str_size]; omega
  have hz3 : (str (enc1 p.keys)).size ≤ 10 := enc1_le _
  obtain ⟨S1, hS1⟩ : ∃ S, S = str (encName p.name) := ⟨_, rfl⟩
  obtain ⟨S2, hS2⟩ : ∃ S, S = str (encAll p.cols) := ⟨_, rfl⟩
  obtain ⟨S3, hS3⟩ : ∃ S, S = str (enc1 p.keys) := ⟨_, rfl⟩
  have HF : Hid (S1 ++ S2 ++ S3 = str (encPj p)) := by unfold Hid encPj; rw [hS1, hS2, hS3, str_append, str_append]
  rw [← hS1] at cn hz1
  rw [← hS2] at cl hz2
  rw [← hS3] at ck hz3
  obtain ⟨kx, hkx⟩ : ∃ x, x = p.keys.toInt := ⟨_, rfl⟩
  rw [← hkx] at ck c2 hW0 ⊢
  have hz12 : (S1 ++ S2).size ≤ 30000 := by rw [ByteArray.size_append]; omega
  have HB : Hid (Below w.heap.size w W0) := b1
  have HW : Hid (W0 = w.alloc (.cells #[.string p.name, .slice aI nI capI, .int .i64 kx] 26)) := hW0
  clear hS1 hS2 hS3 hkx hW0 b1 B1 hI hp hl
  go_enter Tryz.func87, Tryz.ntmps87
  go_wp2_with fail
  rw [← HW.out]
  refine wp_region_above (by kernel_rfl) (by kernel_rfl) ?_
  intro hne
  repeat (go_big_quiet_step (fail))
  go_big_quiet_step (first | (go_at_call 83; exact above_of (cn _)))
  repeat (go_big_quiet_step (fail))
  go_big_quiet_step (first | (go_at_call 125; exact above_of (cl _)))
  repeat (go_big_quiet_step (fail))
  go_big_quiet_step (first | (go_at_call 82; exact above_of (ck _)))
  repeat (go_big_quiet_step (fail))
  refine wpQuiet_nil ?_
  rintro _ ⟨kq, rfl⟩
  have hbq := kq.is
  go_wp2_with fail
  go_ret
  exact ⟨ret_str HF.out, HB.out.trans (hbq.mono HB.out.size)⟩
/-- A function value that tells the bytes of each of l. -/
def FbC (g : Nat) (w : World) (l : List Col) (enc : Col → List UInt8) : Prop :=
  ∀ (W : World) (x : Col) (c0 c1 c2 : Value), Below w.heap.size w W → x ∈ l → ColE W x [c0, c1, c2] → Calls Tryz.prog g #[.agg #[c0, c1, c2]] W fun e w' => e = .returned (.string (str (enc x))) ∧ Below W.heap.size W w'
set_option maxRecDepth 4000 in
set_option maxHeartbeats 4000000 in
theorem putListC_any {w : World} {v : Value} {l : List Col} (h : SlIs ColE 3 w v l) (hl : l.length ≤ 100) (g : Nat) (enc : Col → List UInt8) (eg : ∀ args w, (callFunc g args).run Tryz.prog w = .ok (.enter g args) w) (hf : FbC g w l enc) (hb : ∀ x ∈ l, (enc x).length ≤ 1300000) :
    Calls Tryz.prog 84 #[v, .func (.func g) #[] #[]] w fun e w' => e = .returned (.string (str (encL enc l))) ∧ Below w.heap.size w w' := by
  obtain ⟨a, n, cap, rfl, hn, hcap⟩ := h.slice
  have hnI : (n : Int) ≤ 100 := by omega
  have cp := fun W => put_len n (by omega) W
  have hp1 : (enc1 (BitVec.ofNat 64 n)).length ≤ 10 := enc1_le _
  have HH : Hid (SlIs ColE 3 w (.slice a n cap) l ∧ l.length = n ∧ n ≤ 100 ∧ FbC g w l enc ∧ ∀ x ∈ l, (enc x).length ≤ 1300000) := ⟨h, hn, by omega, hf, hb⟩
  have HP : Hid ((enc1 (BitVec.ofNat 64 n)).length ≤ 10) := hp1
  have HE : Hid (encL enc l = enc1 (BitVec.ofNat 64 n) ++ l.flatMap enc) := by unfold Hid encL; rw [hn]
  clear h hl hn hcap hf hb hp1
  go_enter Tryz.func84, Tryz.ntmps84
  go_wp2_with fail
  refine (cp _).mono ?_
  rintro e w1 ⟨rfl, hb1⟩
  clear cp
  go_wp2_with fail
  go_loopg [5, 13] n (fun gg s5 s13 wx => ∃ (k : Nat) (S : ByteArray), k + gg = n ∧ s13 = .int .i64 k ∧ s5 = .string S ∧ Hid (S = str (enc1 (BitVec.ofNat 64 n) ++ (l.take k).flatMap enc)) ∧ Hid (Below w.heap.size w wx))
  case atStart => exact ⟨0, _, by omega, rfl, rfl, by unfold Hid; simp, hb1⟩
  case round =>
    clear hb1
    obtain ⟨k, S, hkg, rfl, rfl, HS, HB⟩ := hrel
    by_cases hk : k < n
    · have hkI : (k : Int) < (n : Int) := by omega
      obtain ⟨x, d0, d1, d2, b, off, hs, rfl, hE, c0, c1, c2⟩ := at3C (HH.out.1.over stays_col HB.out) hk
      have hr2 : IntKind.i64.wrap ((k : Int) + 1) = (k : Int) + 1 := by rw [IntKind.wrap_i64]; omega
      have hone := one_three (one_col hE)
      have HZ : Hid (∀ z, Box (wr.alloc (.cells z 53)) wr.heap.size 53 z) := fun z => box_new wr z _
      obtain ⟨W1, hW1⟩ : ∃ W1, W1 = (wr.alloc (.cells #[.string ⟨#[]⟩, .int .i64 0, .bool false] 53)).setRow wr.heap.size #[d0, d1, d2] := ⟨_, rfl⟩
      have bW : Below wr.heap.size wr W1 := by rw [hW1]; exact below_setRow (below1 wr _) (Nat.le_refl _) _
      have BW : Box W1 wr.heap.size 53 #[d0, d1, d2] := by rw [hW1]; exact (box_new wr _ _).setRow _
      have hw1 := HB.out.trans (bW.mono HB.out.size)
      have hcall := HH.out.2.2.2.1 W1 x d0 d1 d2 hw1 (List.mem_of_getElem? hs) (stays_col _ _ _ _ hE bW)
      have b0 := BW.cell 0 _ rfl
      have b1 := BW.cell 1 _ rfl
      have b2 := BW.cell 2 _ rfl
      obtain ⟨S2, hS2⟩ : ∃ S, S = str (enc x) := ⟨_, rfl⟩
      rw [← hS2] at hcall
      have hz2 : S2.size ≤ 1300000 := by rw [hS2, str_size]; exact HH.out.2.2.2.2 x (List.mem_of_getElem? hs)
      have hz1 : S.size ≤ 140000000 := by
        have h1 := flat_le (enc := enc) (l := l.take k) (fun y hy => HH.out.2.2.2.2 y (List.mem_of_mem_take hy))
        have h2 := HP.out
        have h3 : (l.take k).length * 1300000 ≤ 100 * 1300000 := Nat.mul_le_mul_right _ (by rw [List.length_take]; have := HH.out.2.2.1; omega)
        rw [HS.out, str_size, List.length_append]
        omega
      have HN : Hid (S ++ S2 = str (enc1 (BitVec.ofNat 64 n) ++ (l.take (k + 1)).flatMap enc)) := by
        unfold Hid
        rw [HS.out, hS2, str_append, flat_take hs, List.append_assoc]
      have HW : Hid (W1 = (wr.alloc (.cells #[.string ⟨#[]⟩, .int .i64 0, .bool false] 53)).setRow wr.heap.size #[d0, d1, d2] ∧ Below w.heap.size w W1) := ⟨hW1, hw1⟩
      clear hs hE hW1 bW BW hw1 hS2
      go_wp2_with (refine wpList_store_row rfl 53 _ _ rfl wr.heap.size #[d0, d1, d2] rfl rfl 53 _ (HZ.out _) size_col rfl hone ?_; rw [← HW.out.1]; clear c0 c1 c2)
      refine hcall.mono ?_
      rintro e w2 ⟨rfl, hb2⟩
      have HB2 : Hid (Below w.heap.size w w2) := HW.out.2.trans (hb2.mono HW.out.2.size)
      clear hcall hb2 b0 b1 b2
      go_wp2_with fail
      go_roundg (n - (k + 1))
      case measure => clear hr2; omega
      case rel => exact ⟨k + 1, _, by clear hr2; omega, by go_num, rfl, HN, HB2⟩
    · have hkI : ¬ (k : Int) < (n : Int) := by omega
      obtain rfl : k = n := by omega
      go_wp2_with fail
      go_ret
      exact ⟨ret_str (by rw [HS.out, HE.out, List.take_of_length_le (by rw [HH.out.2.1]; exact Nat.le_refl _)]), HB.out⟩
/-- A function value that tells the bytes of each of l. -/
def FbP (g : Nat) (w : World) (l : List Pj) (enc : Pj → List UInt8) : Prop :=
  ∀ (W : World) (x : Pj) (c0 c1 c2 : Value), Below w.heap.size w W → x ∈ l → PjE W x [c0, c1, c2] → Calls Tryz.prog g #[.agg #[c0, c1, c2]] W fun e w' => e = .returned (.string (str (enc x))) ∧ Below W.heap.size W w'
set_option maxRecDepth 4000 in
set_option maxHeartbeats 4000000 in
theorem putListP_any {w : World} {v : Value} {l : List Pj} (h : SlIs PjE 3 w v l) (hl : l.length ≤ 100) (g : Nat) (enc : Pj → List UInt8) (eg : ∀ args w, (callFunc g args).run Tryz.prog w = .ok (.enter g args) w) (hf : FbP g w l enc) (hb : ∀ x ∈ l, (enc x).length ≤ 1300000) :
    Calls Tryz.prog 86 #[v, .func (.func g) #[] #[]] w fun e w' => e = .returned (.string (str (encL enc l))) ∧ Below w.heap.size w w' := by
  obtain ⟨a, n, cap, rfl, hn, hcap⟩ := h.slice
  have hnI : (n : Int) ≤ 100 := by omega
  have cp := fun W => put_len n (by omega) W
  have hp1 : (enc1 (BitVec.ofNat 64 n)).length ≤ 10 := enc1_le _
  have HH : Hid (SlIs PjE 3 w (.slice a n cap) l ∧ l.length = n ∧ n ≤ 100 ∧ FbP g w l enc ∧ ∀ x ∈ l, (enc x).length ≤ 1300000) := ⟨h, hn, by omega, hf, hb⟩
  have HP : Hid ((enc1 (BitVec.ofNat 64 n)).length ≤ 10) := hp1
  have HE : Hid (encL enc l = enc1 (BitVec.ofNat 64 n) ++ l.flatMap enc) := by unfold Hid encL; rw [hn]
  clear h hl hn hcap hf hb hp1
  go_enter Tryz.func86, Tryz.ntmps86
  go_wp2_with fail
  refine (cp _).mono ?_
  rintro e w1 ⟨rfl, hb1⟩
  clear cp
  go_wp2_with fail
  go_loopg [5, 13] n (fun gg s5 s13 wx => ∃ (k : Nat) (S : ByteArray), k + gg = n ∧ s13 = .int .i64 k ∧ s5 = .string S ∧ Hid (S = str (enc1 (BitVec.ofNat 64 n) ++ (l.take k).flatMap enc)) ∧ Hid (Below w.heap.size w wx))
  case atStart => exact ⟨0, _, by omega, rfl, rfl, by unfold Hid; simp, hb1⟩
  case round =>
    clear hb1
    obtain ⟨k, S, hkg, rfl, rfl, HS, HB⟩ := hrel
    by_cases hk : k < n
    · have hkI : (k : Int) < (n : Int) := by omega
      obtain ⟨x, d0, d1, d2, b, off, hs, rfl, hE, c0, c1, c2⟩ := at3P (HH.out.1.over stays_pj HB.out) hk
      have hr2 : IntKind.i64.wrap ((k : Int) + 1) = (k : Int) + 1 := by rw [IntKind.wrap_i64]; omega
      have hone := one_three (one_pj hE)
      have HZ : Hid (∀ z, Box (wr.alloc (.cells z 26)) wr.heap.size 26 z) := fun z => box_new wr z _
      obtain ⟨W1, hW1⟩ : ∃ W1, W1 = (wr.alloc (.cells #[.string ⟨#[]⟩, .slice none 0 0, .int .i64 0] 26)).setRow wr.heap.size #[d0, d1, d2] := ⟨_, rfl⟩
      have bW : Below wr.heap.size wr W1 := by rw [hW1]; exact below_setRow (below1 wr _) (Nat.le_refl _) _
      have BW : Box W1 wr.heap.size 26 #[d0, d1, d2] := by rw [hW1]; exact (box_new wr _ _).setRow _
      have hw1 := HB.out.trans (bW.mono HB.out.size)
      have hcall := HH.out.2.2.2.1 W1 x d0 d1 d2 hw1 (List.mem_of_getElem? hs) (stays_pj _ _ _ _ hE bW)
      have b0 := BW.cell 0 _ rfl
      have b1 := BW.cell 1 _ rfl
      have b2 := BW.cell 2 _ rfl
      obtain ⟨S2, hS2⟩ : ∃ S, S = str (enc x) := ⟨_, rfl⟩
      rw [← hS2] at hcall
      have hz2 : S2.size ≤ 1300000 := by rw [hS2, str_size]; exact HH.out.2.2.2.2 x (List.mem_of_getElem? hs)
      have hz1 : S.size ≤ 140000000 := by
        have h1 := flat_le (enc := enc) (l := l.take k) (fun y hy => HH.out.2.2.2.2 y (List.mem_of_mem_take hy))
        have h2 := HP.out
        have h3 : (l.take k).length * 1300000 ≤ 100 * 1300000 := Nat.mul_le_mul_right _ (by rw [List.length_take]; have := HH.out.2.2.1; omega)
        rw [HS.out, str_size, List.length_append]
        omega
      have HN : Hid (S ++ S2 = str (enc1 (BitVec.ofNat 64 n) ++ (l.take (k + 1)).flatMap enc)) := by
        unfold Hid
        rw [HS.out, hS2, str_append, flat_take hs, List.append_assoc]
      have HW : Hid (W1 = (wr.alloc (.cells #[.string ⟨#[]⟩, .slice none 0 0, .int .i64 0] 26)).setRow wr.heap.size #[d0, d1, d2] ∧ Below w.heap.size w W1) := ⟨hW1, hw1⟩
      clear hs hE hW1 bW BW hw1 hS2
      go_wp2_with (refine wpList_store_row rfl 26 _ _ rfl wr.heap.size #[d0, d1, d2] rfl rfl 26 _ (HZ.out _) size_pj rfl hone ?_; rw [← HW.out.1]; clear c0 c1 c2)
      refine hcall.mono ?_
      rintro e w2 ⟨rfl, hb2⟩
      have HB2 : Hid (Below w.heap.size w w2) := HW.out.2.trans (hb2.mono HW.out.2.size)
      clear hcall hb2 b0 b1 b2
      go_wp2_with fail
      go_roundg (n - (k + 1))
      case measure => clear hr2; omega
      case rel => exact ⟨k + 1, _, by clear hr2; omega, by go_num, rfl, HN, HB2⟩
    · have hkI : ¬ (k : Int) < (n : Int) := by omega
      obtain rfl : k = n := by omega
      go_wp2_with fail
      go_ret
      exact ⟨ret_str (by rw [HS.out, HE.out, List.take_of_length_le (by rw [HH.out.2.1]; exact Nat.le_refl _)]), HB.out⟩
/-- A function value that tells the bytes of each of l. -/
def FbT (g : Nat) (w : World) (l : List Tb) (enc : Tb → List UInt8) : Prop :=
  ∀ (W : World) (x : Tb) (c0 c1 c2 : Value), Below w.heap.size w W → x ∈ l → TbE W x [c0, c1, c2] → Calls Tryz.prog g #[.agg #[c0, c1, c2]] W fun e w' => e = .returned (.string (str (enc x))) ∧ Below W.heap.size W w'
set_option maxRecDepth 4000 in
set_option maxHeartbeats 4000000 in
theorem putListT_any {w : World} {v : Value} {l : List Tb} (h : SlIs TbE 3 w v l) (hl : l.length ≤ 100) (g : Nat) (enc : Tb → List UInt8) (eg : ∀ args w, (callFunc g args).run Tryz.prog w = .ok (.enter g args) w) (hf : FbT g w l enc) (hb : ∀ x ∈ l, (enc x).length ≤ 1300000) :
    Calls Tryz.prog 45 #[v, .func (.func g) #[] #[]] w fun e w' => e = .returned (.string (str (encL enc l))) ∧ Below w.heap.size w w' := by
  obtain ⟨a, n, cap, rfl, hn, hcap⟩ := h.slice
  have hnI : (n : Int) ≤ 100 := by omega
  have cp := fun W => put_len n (by omega) W
  have hp1 : (enc1 (BitVec.ofNat 64 n)).length ≤ 10 := enc1_le _
  have HH : Hid (SlIs TbE 3 w (.slice a n cap) l ∧ l.length = n ∧ n ≤ 100 ∧ FbT g w l enc ∧ ∀ x ∈ l, (enc x).length ≤ 1300000) := ⟨h, hn, by omega, hf, hb⟩
  have HP : Hid ((enc1 (BitVec.ofNat 64 n)).length ≤ 10) := hp1
  have HE : Hid (encL enc l = enc1 (BitVec.ofNat 64 n) ++ l.flatMap enc) := by unfold Hid encL; rw [hn]
  clear h hl hn hcap hf hb hp1
  go_enter Tryz.func45, Tryz.ntmps45
  go_wp2_with fail
  refine (cp _).mono ?_
  rintro e w1 ⟨rfl, hb1⟩
  clear cp
  go_wp2_with fail
  go_loopg [5, 13] n (fun gg s5 s13 wx => ∃ (k : Nat) (S : ByteArray), k + gg = n ∧ s13 = .int .i64 k ∧ s5 = .string S ∧ Hid (S = str (enc1 (BitVec.ofNat 64 n) ++ (l.take k).flatMap enc)) ∧ Hid (Below w.heap.size w wx))
  case atStart => exact ⟨0, _, by omega, rfl, rfl, by unfold Hid; simp, hb1⟩
  case round =>
    clear hb1
    obtain ⟨k, S, hkg, rfl, rfl, HS, HB⟩ := hrel
    by_cases hk : k < n
    · have hkI : (k : Int) < (n : Int) := by omega
      obtain ⟨x, d0, d1, d2, b, off, hs, rfl, hE, c0, c1, c2⟩ := at3T (HH.out.1.over stays_tb HB.out) hk
      have hr2 : IntKind.i64.wrap ((k : Int) + 1) = (k : Int) + 1 := by rw [IntKind.wrap_i64]; omega
      have hone := one_three (one_tb hE)
      have HZ : Hid (∀ z, Box (wr.alloc (.cells z 41)) wr.heap.size 41 z) := fun z => box_new wr z _
      obtain ⟨W1, hW1⟩ : ∃ W1, W1 = (wr.alloc (.cells #[.string ⟨#[]⟩, .slice none 0 0, .slice none 0 0] 41)).setRow wr.heap.size #[d0, d1, d2] := ⟨_, rfl⟩
      have bW : Below wr.heap.size wr W1 := by rw [hW1]; exact below_setRow (below1 wr _) (Nat.le_refl _) _
      have BW : Box W1 wr.heap.size 41 #[d0, d1, d2] := by rw [hW1]; exact (box_new wr _ _).setRow _
      have hw1 := HB.out.trans (bW.mono HB.out.size)
      have hcall := HH.out.2.2.2.1 W1 x d0 d1 d2 hw1 (List.mem_of_getElem? hs) (stays_tb _ _ _ _ hE bW)
      have b0 := BW.cell 0 _ rfl
      have b1 := BW.cell 1 _ rfl
      have b2 := BW.cell 2 _ rfl
      obtain ⟨S2, hS2⟩ : ∃ S, S = str (enc x) := ⟨_, rfl⟩
      rw [← hS2] at hcall
      have hz2 : S2.size ≤ 1300000 := by rw [hS2, str_size]; exact HH.out.2.2.2.2 x (List.mem_of_getElem? hs)
      have hz1 : S.size ≤ 140000000 := by
        have h1 := flat_le (enc := enc) (l := l.take k) (fun y hy => HH.out.2.2.2.2 y (List.mem_of_mem_take hy))
        have h2 := HP.out
        have h3 : (l.take k).length * 1300000 ≤ 100 * 1300000 := Nat.mul_le_mul_right _ (by rw [List.length_take]; have := HH.out.2.2.1; omega)
        rw [HS.out, str_size, List.length_append]
        omega
      have HN : Hid (S ++ S2 = str (enc1 (BitVec.ofNat 64 n) ++ (l.take (k + 1)).flatMap enc)) := by
        unfold Hid
        rw [HS.out, hS2, str_append, flat_take hs, List.append_assoc]
      have HW : Hid (W1 = (wr.alloc (.cells #[.string ⟨#[]⟩, .slice none 0 0, .slice none 0 0] 41)).setRow wr.heap.size #[d0, d1, d2] ∧ Below w.heap.size w W1) := ⟨hW1, hw1⟩
      clear hs hE hW1 bW BW hw1 hS2
      go_wp2_with (refine wpList_store_row rfl 41 _ _ rfl wr.heap.size #[d0, d1, d2] rfl rfl 41 _ (HZ.out _) size_tb rfl hone ?_; rw [← HW.out.1]; clear c0 c1 c2)
      refine hcall.mono ?_
      rintro e w2 ⟨rfl, hb2⟩
      have HB2 : Hid (Below w.heap.size w w2) := HW.out.2.trans (hb2.mono HW.out.2.size)
      clear hcall hb2 b0 b1 b2
      go_wp2_with fail
      go_roundg (n - (k + 1))
      case measure => clear hr2; omega
      case rel => exact ⟨k + 1, _, by clear hr2; omega, by go_num, rfl, HN, HB2⟩
    · have hkI : ¬ (k : Int) < (n : Int) := by omega
      obtain rfl : k = n := by omega
      go_wp2_with fail
      go_ret
      exact ⟨ret_str (by rw [HS.out, HE.out, List.take_of_length_le (by rw [HH.out.2.1]; exact Nat.le_refl _)]), HB.out⟩
theorem fb_col {l : List Col} (hl : ∀ c ∈ l, litC c) (w : World) : FbC 85 w l encCol := fun W x c0 c1 c2 _ hx hE => by
  have e : [c0, c1, c2] = colC x := hE
  simp only [colC, List.cons.injEq, and_true] at e
  obtain ⟨rfl, rfl, rfl⟩ := e
  exact putCol_any x (hl x hx) W
theorem fb_pj {l : List Pj} (hl : ∀ c ∈ l, fewP c) (w : World) : FbP 87 w l encPj := fun _ x _ _ _ _ hx hE => putPj_any hE (hl x hx)
set_option maxHeartbeats 4000000 in
theorem putTb_any {w : World} {t : Tb} {c0 c1 c2 : Value} (ht : TbE w t [c0, c1, c2]) (hl : fewT t) : Calls Tryz.prog 46 #[.agg #[c0, c1, c2]] w fun e w' => e = .returned (.string (str (encTb t))) ∧ Below w.heap.size w w' := by
  obtain ⟨rfl, aC, nC, capC, aP, nP, capP, rfl, rfl, hnC, hnP, hC, hP⟩ := tb_cells ht
  have b1 := below1 w (.cells #[.string t.name, .slice aC nC capC, .slice aP nP capP] 41)
  have B1 := box_new w #[.string t.name, .slice aC nC capC, .slice aP nP capP] 41
  obtain ⟨W0, hW0⟩ : ∃ W0, W0 = w.alloc (.cells #[.string t.name, .slice aC nC capC, .slice aP nP capP] 41) := ⟨_, rfl⟩
  rw [← hW0] at b1 B1
  have cn := fun (k : Above W0) => putName_any t.name hl.1 k.it
  have cc := fun (k : Above W0) => putListC_any (w := k.it) (hC.over stays_col (b1.trans (k.is.mono b1.size))) hl.2.1 85 encCol (enters_of Tryz.func85 (by kernel_rfl) rfl) (fb_col hl.2.2.2.1 _) (fun x hx => by have := encCol_le (hl.2.2.2.1 x hx); omega)
  have cp := fun (k : Above W0) => putListP_any (w := k.it) (hP.over stays_pj (b1.trans (k.is.mono b1.size))) hl.2.2.1 87 encPj (enters_of Tryz.func87 (by kernel_rfl) rfl) (fb_pj hl.2.2.2.2 _) (fun x hx => by have := encPj_le (hl.2.2.2.2 x hx); omega)
  have d0 : ∀ k : Above W0, k.it.cell? ⟨w.heap.size, 0, none⟩ = some (.string t.name) := fun k => above_cell (B1.cell 0 _ rfl) k
  have d1 : ∀ k : Above W0, k.it.cell? ⟨w.heap.size, 1, none⟩ = some (.slice aC nC capC) := fun k => above_cell (B1.cell 1 _ rfl) k
  have d2 : ∀ k : Above W0, k.it.cell? ⟨w.heap.size, 2, none⟩ = some (.slice aP nP capP) := fun k => above_cell (B1.cell 2 _ rfl) k
  have hz1 : (str (encName t.name)).size ≤ 2000 := by have := encName_le t.name; have := hl.1; rw [str_size]; omega
  have hz2 : (str (encL encCol t.cols)).size ≤ 200000 := by have := encL_le (enc := encCol) (l := t.cols) (fun x hx => encCol_le (hl.2.2.2.1 x hx)) hl.2.1; rw [str_size]; omega
  have hz3 : (str (encL encPj t.projs)).size ≤ 2000000 := by have := encL_le (enc := encPj) (l := t.projs) (fun x hx => encPj_le (hl.2.2.2.2 x hx)) hl.2.2.1; rw [str_size]; omega
  obtain ⟨S1, hS1⟩ : ∃ S, S = str (encName t.name) := ⟨_, rfl⟩
  obtain ⟨S2, hS2⟩ : ∃ S, S = str (encL encCol t.cols) := ⟨_, rfl⟩
  obtain ⟨S3, hS3⟩ : ∃ S, S = str (encL encPj t.projs) := ⟨_, rfl⟩
  have HF : Hid (S1 ++ S2 ++ S3 = str (encTb t)) := by unfold Hid encTb; rw [hS1, hS2, hS3, str_append, str_append]
  rw [← hS1] at cn hz1
  rw [← hS2] at cc hz2
  rw [← hS3] at cp hz3
  have hz12 : (S1 ++ S2).size ≤ 300000 := by rw [ByteArray.size_append]; omega
  have HB : Hid (Below w.heap.size w W0) := b1
  have HW : Hid (W0 = w.alloc (.cells #[.string t.name, .slice aC nC capC, .slice aP nP capP] 41)) := hW0
  clear hS1 hS2 hS3 hW0 b1 B1 hC hP hnC hnP ht hl
  go_enter Tryz.func46, Tryz.ntmps46
  go_wp2_with fail
  rw [← HW.out]
  refine wp_region_above (by kernel_rfl) (by kernel_rfl) ?_
  intro hne
  repeat (go_big_quiet_step (fail))
  go_big_quiet_step (first | (go_at_call 83; exact above_of (cn _)))
  repeat (go_big_quiet_step (fail))
  go_big_quiet_step (first | (go_at_call 84; exact above_of (cc _)))
  repeat (go_big_quiet_step (fail))
  go_big_quiet_step (first | (go_at_call 86; exact above_of (cp _)))
  repeat (go_big_quiet_step (fail))
  refine wpQuiet_nil ?_
  rintro _ ⟨kq, rfl⟩
  have hbq := kq.is
  go_wp2_with fail
  go_ret
  exact ⟨ret_str HF.out, HB.out.trans (hbq.mono HB.out.size)⟩
theorem cols_few {l : List Col} (h : colsB l = true) : l.length ≤ 8 ∧ ∀ c ∈ l, litC c := by
  unfold colsB at h
  simp only [Bool.and_eq_true, decide_eq_true_eq] at h
  refine ⟨h.1.1.2, fun c hc => ?_⟩
  have := List.all_eq_true.1 h.1.2 c hc
  unfold colOk at this
  simp only [Bool.and_eq_true] at this
  unfold litC
  have := (name_len this.1).2
  omega
theorem pj_few {n : Nat} {p : Pj} (h : pjB n p = true) (hn : n ≤ 8) : p.name.size ≤ 16 ∧ p.cols.length ≤ 8 := by
  unfold pjB at h
  simp only [Bool.and_eq_true, decide_eq_true_eq] at h
  exact ⟨(name_len h.1.1.1.1.1.1).2, by have := h.1.1.1.1.2; omega⟩
theorem tb_fewT {t : Tb} (h : tbB t = true) : fewT t := by
  unfold tbB at h
  simp only [Bool.and_eq_true, decide_eq_true_eq] at h
  have hc := cols_few h.1.1.1.1.2
  refine ⟨by have := (name_len h.1.1.1.1.1).2; omega, by omega, by have := h.1.1.1.2; omega, hc.2, fun p hp => ?_⟩
  have := pj_few (List.all_eq_true.1 h.1.1.2 p hp) hc.1
  exact ⟨by omega, by omega⟩
theorem tabs_few {l : List Tb} (h : tabsB l = true) : l.length ≤ 8 ∧ ∀ t ∈ l, fewT t := by
  unfold tabsB at h
  simp only [Bool.and_eq_true, decide_eq_true_eq] at h
  exact ⟨h.1.1, fun t ht => tb_fewT (List.all_eq_true.1 h.1.2 t ht)⟩
/-- What Put answers. -/
def putF (l : List Tb) : List UInt8 × Int := if tabsB l then (encTabs l, 0) else ([], 1)
set_option maxHeartbeats 4000000 in
theorem putTabs_any {w : World} {v : Value} {l : List Tb} (h : TabsIs w v l) (hl : litL l) :
    Calls Tryz.prog 16 #[v] w fun e w' => e = .returned (.tuple #[.string (str (putF l).1), .int .i64 (putF l).2]) ∧ Below w.heap.size w w' := by
  have cc := check_any h hl
  obtain ⟨a, n, cap, rfl, hn, _⟩ := h.slice
  unfold putF
  cases hq : tabsB l with
  | false =>
    rw [hq] at cc
    unfold errT at cc
    simp only [Bool.false_eq_true, if_false] at cc ⊢
    clear h hl hn hq
    go_enter Tryz.func16, Tryz.ntmps16
    go_wp2_with fail
    refine cc.mono ?_
    rintro e w1 ⟨rfl, hb⟩
    go_wp2_with fail
    go_ret2
    exact ⟨rfl, hb⟩
  | true =>
    have hf := tabs_few hq
    have cp := fun W (hW : Below w.heap.size w W) => putListT_any (w := W) (h.over stays_tb hW) (by omega) 46 encTb (enters_of Tryz.func46 (by kernel_rfl) rfl) (fun _ x _ _ _ _ hx hE => putTb_any hE (hf.2 x hx)) (fun x hx => encTb_le (hf.2 x hx))
    rw [hq] at cc
    unfold errT at cc
    simp only [if_true] at cc ⊢
    have HE : Hid (encL encTb l = encTabs l) := rfl
    rw [HE.out] at cp
    generalize str (encTabs l) = S at *
    clear h hl hn hq hf HE
    go_enter Tryz.func16, Tryz.ntmps16
    go_wp2_with fail
    refine cc.mono ?_
    rintro e w1 ⟨rfl, hb⟩
    have cp1 := cp w1 hb
    clear cc cp
    go_wp2_with fail
    refine cp1.mono ?_
    rintro e w2 ⟨rfl, hb2⟩
    go_wp2_with fail
    go_ret2
    exact ⟨rfl, hb.trans (hb2.mono hb.size)⟩
end Go.Proofs.YtdjobjbkpagnaaaGreat
/-
  The contracts of the document's one and Same, where both are the same tables.
-/
namespace Go.Proofs.YtdjobjbkpagnaaaGreat
open Go.RowKit Go.Shelf

theorem exec_store_row {P : Program} {o : Oper} {ev : Operand → Value} {w : World} (ty : TypeId) (x y : Operand) (ho : o.op = .store ty x y) (g : Nat) (cells : Array Value) (hx : ev x = .pointer (some ⟨g, 0, none⟩)) (hy : ev y = .agg cells)
    (t : TypeId) (old : Array Value) (hg : w.heap[g]? = some (.cells old t (0, 0))) (hi : (P.info? ty).map (·.size) = some cells.size) (hold : old.size = cells.size) (h1 : cells.all (·.oneCell') = true) : (execOp ev o).run P w = .ok .skip (w.setRow g cells) := by
  unfold execOp
  simp only [ho, hx, hy, Instr.storeAt, Instr.sureAddr, Sem.run_bind, Sem.run_pure, Result.andThen_ok, run_storeVar_row w g t ty old cells hg hi hold h1]
section
variable {P : Program} {l : List Oper} {z : Oper} {Q : Exit → Act → World → Prop}
/-- Two variables that are made, whichever comes up first. -/
theorem newNewL {S : World → Prop} (i j : Nat) {oi oj : Oper} {fuel : Nat} {listed : Array Bool} {a : Act} {w : World} (wi : World) (vi : Value) (wj : World) (vj : Value) (hi : l[i]? = some oi) (hj : l[j]? = some oj) (hr : Region.ready .any l.toArray listed = [i, j])
    (hwi : Region.wanted oi (yielded l.toArray a.tmps) = true) (hwj : Region.wanted oj (yielded l.toArray a.tmps) = true) (hopi : (execOp a.eval oi).run P w = .ok (.value vi) wi) (hopj : (execOp a.eval oj).run P w = .ok (.value vj) wj) (hSi : S wi) (hSj : S wj)
    (h1 : wpAnyH P .any l.toArray (Then P z Q) S fuel (listed.setIfInBounds i true) (a.put oi.dst vi) wi)
    (h2 : wpAnyH P .any l.toArray (Then P z Q) S fuel (listed.setIfInBounds j true) (a.put oj.dst vj) wj) : wpAnyH P .any l.toArray (Then P z Q) S (fuel + 1) listed a w := by
  refine wpAnyH_all hr (by simp) ?_
  intro k hk
  simp only [List.mem_cons, List.not_mem_nil, or_false] at hk
  have hi' : l.toArray[i]? = some oi := by simpa using hi
  have hj' : l.toArray[j]? = some oj := by simpa using hj
  rcases hk with rfl | rfl
  · unfold wpOp
    simp only [hi', hwi, if_true]
    refine .inl ?_
    unfold Oper.wp
    rw [hopi]
    exact ⟨hSi, h1⟩
  · unfold wpOp
    simp only [hj', hwj, if_true]
    refine .inl ?_
    unfold Oper.wp
    rw [hopj]
    exact ⟨hSj, h2⟩
end
/-- Two tables in variables of their own, the same. -/
structure Sm (w W : World) (t : Tb) (a1 : Option Addr) (p1 : Nat) (a2 : Option Addr) (p2 : Nat) (b1 : Option Addr) (q1 : Nat) (b2 : Option Addr) (q2 : Nat) : Prop where
  bel : Below w.heap.size w W
  ba : Box W w.heap.size 41 #[.string t.name, .slice a1 t.cols.length p1, .slice a2 t.projs.length p2]
  bb : Box W (w.heap.size + 1) 41 #[.string t.name, .slice b1 t.cols.length q1, .slice b2 t.projs.length q2]
theorem Sm.over {w W W' : World} {t : Tb} {a1 : Option Addr} {p1 : Nat} {a2 : Option Addr} {p2 : Nat} {b1 : Option Addr} {q1 : Nat} {b2 : Option Addr} {q2 : Nat} (h : Sm w W t a1 p1 a2 p2 b1 q1 b2 q2) (b : Below W.heap.size W W') : Sm w W' t a1 p1 a2 p2 b1 q1 b2 q2 :=
  ⟨h.bel.trans (b.mono h.bel.size), h.ba.over b, h.bb.over b⟩
set_option maxRecDepth 4000 in
set_option maxHeartbeats 4000000 in
theorem sameOne_any {w : World} {t : Tb} {c0 c1 c2 d0 d1 d2 : Value} (h1 : TbE w t [c0, c1, c2]) (h2 : TbE w t [d0, d1, d2]) (hl : litT t) :
    Calls Tryz.prog 33 #[.agg #[c0, c1, c2], .agg #[d0, d1, d2]] w fun e w' => e = .returned (.bool true) ∧ Below w.heap.size w w' := by
  obtain ⟨rfl, a1, n1, p1, a2, n2, p2, rfl, rfl, hn1, hn2, hC1, hP1⟩ := tb_cells h1
  obtain ⟨rfl, b1, m1, q1, b2, m2, q2, rfl, rfl, hm1, hm2, hC2, hP2⟩ := tb_cells h2
  obtain rfl : m1 = n1 := hm1.symm.trans hn1
  obtain rfl : m2 = n2 := hm2.symm.trans hn2
  have hS : Sm w ((w.alloc (.cells #[.string t.name, .slice a1 m1 p1, .slice a2 m2 p2] 41)).alloc (.cells #[.string t.name, .slice b1 m1 q1, .slice b2 m2 q2] 41)) t a1 p1 a2 p2 b1 q1 b2 q2 := by
    refine ⟨below2 _ _ _, by rw [hn1, hn2]; exact box_old _ _ _ _, ?_⟩
    have := box_new (w.alloc (.cells #[.string t.name, .slice a1 m1 p1, .slice a2 m2 p2] 41)) #[.string t.name, .slice b1 m1 q1, .slice b2 m2 q2] 41
    rw [World.size_alloc] at this
    rw [hn1, hn2]
    exact this
  have HS0 : Hid (Sm w ((w.alloc (.cells #[.string t.name, .slice a1 m1 p1, .slice a2 m2 p2] 41)).alloc (.cells #[.string t.name, .slice b1 m1 q1, .slice b2 m2 q2] 41)) t a1 p1 a2 p2 b1 q1 b2 q2) := hS
  have HN : Hid (t.cols.length = m1 ∧ t.projs.length = m2 ∧ litT t) := ⟨hn1, hn2, hl⟩
  have HC : Hid (ColsIs w (.slice a1 m1 p1) t.cols ∧ ColsIs w (.slice b1 m1 q1) t.cols) := ⟨hC1, hC2⟩
  have HP : Hid (PjsIs w (.slice a2 m2 p2) t.projs ∧ PjsIs w (.slice b2 m2 q2) t.projs) := ⟨hP1, hP2⟩
  have hm1I : (m1 : Int) ≤ 1000 := by have := hl.2.1; omega
  have hm2I : (m2 : Int) ≤ 1000 := by have := hl.2.2.1; omega
  have hnn : (t.name.toList != t.name.toList) = false := by simp
  clear h1 h2 hl hn1 hn2 hm1 hm2 hC1 hC2 hP1 hP2 hS
  go_enter Tryz.func33, Tryz.ntmps33
  go_wp2_with fail
  go_loopg [5] m1 (fun gg s5 wx => ∃ i : Nat, i + gg = m1 ∧ s5 = .int .i64 i ∧ Hid (Sm w wx t a1 p1 a2 p2 b1 q1 b2 q2))
  case atStart => exact ⟨0, by omega, rfl, HS0⟩
  case round =>
    clear HS0
    obtain ⟨i, hig, rfl, HS⟩ := hrel
    have f1 := HS.out.ba.cell 1 _ rfl
    have f2 := HS.out.bb.cell 1 _ rfl
    rw [HN.out.1, HN.out.2.1] at f1 f2
    by_cases hi : i < m1
    · have hiI : (i : Int) < (m1 : Int) := by omega
      have hr2 : IntKind.i64.wrap ((i : Int) + 1) = (i : Int) + 1 := by rw [IntKind.wrap_i64]; omega
      obtain ⟨x, e0, e1, e2, b, off, hx, rfl, hE, g0, g1, g2⟩ := at3C (HC.out.1.over stays_col HS.out.bel) hi
      obtain ⟨y, e3, e4, e5, b', off', hy, rfl, hE', g3, g4, g5⟩ := at3C (HC.out.2.over stays_col HS.out.bel) hi
      obtain rfl : y = x := Option.some.inj (hy.symm.trans hx)
      have e : [e0, e1, e2] = colC y := hE
      have e' : [e3, e4, e5] = colC y := hE'
      simp only [colC, List.cons.injEq, and_true] at e e'
      obtain ⟨rfl, rfl, rfl⟩ := e
      obtain ⟨rfl, rfl, rfl⟩ := e'
      clear hx hy hE hE'
      go_wp2_with fail
      go_quiet (fail)
      go_wp2_with fail
      go_roundg (m1 - (i + 1))
      case measure => clear hr2; omega
      case rel => exact ⟨i + 1, by clear hr2; omega, by go_num, HS.out.over ⟨rfl, rfl, rfl, Nat.le_refl _, fun _ _ => rfl⟩⟩
    · have hiI : ¬ (i : Int) < (m1 : Int) := by omega
      go_wp2_with fail
      go_loopg [6] m2 (fun gg s6 wx => ∃ j : Nat, j + gg = m2 ∧ s6 = .int .i64 j ∧ Hid (Sm w wx t a1 p1 a2 p2 b1 q1 b2 q2))
      case atStart => exact ⟨0, by omega, rfl, HS⟩
      case round =>
        clear HS f1 f2
        obtain ⟨j, hjg, rfl, HS⟩ := hrel
        have f1 := HS.out.ba.cell 2 _ rfl
        have f2 := HS.out.bb.cell 2 _ rfl
        rw [HN.out.1, HN.out.2.1] at f1 f2
        by_cases hj : j < m2
        · have hjI : (j : Int) < (m2 : Int) := by omega
          have hr2 : IntKind.i64.wrap ((j : Int) + 1) = (j : Int) + 1 := by rw [IntKind.wrap_i64]; omega
          obtain ⟨x, e0, e1, e2, b, off, hx, rfl, hE, g0, g1, g2⟩ := at3P (HP.out.1.over stays_pj HS.out.bel) hj
          obtain ⟨y, e3, e4, e5, b', off', hy, rfl, hE', g3, g4, g5⟩ := at3P (HP.out.2.over stays_pj HS.out.bel) hj
          obtain rfl : y = x := Option.some.inj (hy.symm.trans hx)
          obtain ⟨x, rfl⟩ : ∃ x, x = y := ⟨_, rfl⟩
          obtain ⟨v1, ev1, hI1⟩ := hE
          obtain ⟨v2, ev2, hI2⟩ := hE'
          simp only [List.cons.injEq, and_true] at ev1 ev2
          obtain ⟨rfl, rfl, rfl⟩ := ev1
          obtain ⟨rfl, rfl, rfl⟩ := ev2
          obtain ⟨aI, nI, capI, rfl, hnI, _⟩ := hI1.slice
          obtain ⟨aJ, nJ, capJ, rfl, hnJ, _⟩ := hI2.slice
          obtain rfl : nJ = nI := hnJ.symm.trans hnI
          obtain ⟨nI, rfl⟩ : ∃ n, n = nJ := ⟨_, rfl⟩
          have hlx := HN.out.2.2.2.2.2.2 x (List.mem_of_getElem? hx)
          have hnII : (nI : Int) ≤ 1000000 := by have := hlx.2; omega
          have HX : Hid (IntsIs wr (.slice aI nI capI) x.cols ∧ IntsIs wr (.slice aJ nI capJ) x.cols) := ⟨hI1, hI2⟩
          have oneP : (#[.string x.name, .slice aI nI capI, .int .i64 x.keys.toInt] : Array Value).all (fun c => c.oneCell') = true := one_three (by intro u hu; simp only [List.mem_cons, List.not_mem_nil, or_false] at hu; rcases hu with rfl | rfl | rfl <;> rfl)
          have oneQ : (#[.string x.name, .slice aJ nI capJ, .int .i64 x.keys.toInt] : Array Value).all (fun c => c.oneCell') = true := one_three (by intro u hu; simp only [List.mem_cons, List.not_mem_nil, or_false] at hu; rcases hu with rfl | rfl | rfl <;> rfl)
          have hnx : (x.name.toList != x.name.toList) = false := by simp
          have hkx : (x.keys.toInt != x.keys.toInt) = false := by simp
          have hnn2 : ((nI : Int) != (nI : Int)) = false := by simp
          have HG : Hid (Unit → _ ∧ _ ∧ _ ∧ _ ∧ _ ∧ _ ∧ _ ∧ _) := fun _ => ⟨f1, f2, g0, g1, g2, g3, g4, g5⟩
          clear hx hy hI1 hI2 hnI hnJ hlx
          go_wp2_with fail
          refine wp_region_held_then (fun w' : World => w'.cell? ⟨w.heap.size, 2, none⟩ = some (.slice (some ⟨b, off, none⟩) m2 p2) ∧ w'.cell? ⟨w.heap.size + 1, 2, none⟩ = some (.slice (some ⟨b', off', none⟩) m2 q2) ∧ w'.cell? ⟨b, off + j * 3, none⟩ = some (.string x.name) ∧ w'.cell? ⟨b, off + j * 3 + 1, none⟩ = some (.slice aI nI capI) ∧ w'.cell? ⟨b, off + j * 3 + 2, none⟩ = some (.int .i64 x.keys.toInt) ∧ w'.cell? ⟨b', off' + j * 3, none⟩ = some (.string x.name) ∧ w'.cell? ⟨b', off' + j * 3 + 1, none⟩ = some (.slice aJ nI capJ) ∧ w'.cell? ⟨b', off' + j * 3 + 2, none⟩ = some (.int .i64 x.keys.toInt)) _ (by kernel_rfl) rfl (by kernel_rfl) ?_
          have hHeld : (fun w' : World => w'.cell? ⟨w.heap.size, 2, none⟩ = some (.slice (some ⟨b, off, none⟩) m2 p2) ∧ w'.cell? ⟨w.heap.size + 1, 2, none⟩ = some (.slice (some ⟨b', off', none⟩) m2 q2) ∧ w'.cell? ⟨b, off + j * 3, none⟩ = some (.string x.name) ∧ w'.cell? ⟨b, off + j * 3 + 1, none⟩ = some (.slice aI nI capI) ∧ w'.cell? ⟨b, off + j * 3 + 2, none⟩ = some (.int .i64 x.keys.toInt) ∧ w'.cell? ⟨b', off' + j * 3, none⟩ = some (.string x.name) ∧ w'.cell? ⟨b', off' + j * 3 + 1, none⟩ = some (.slice aJ nI capJ) ∧ w'.cell? ⟨b', off' + j * 3 + 2, none⟩ = some (.int .i64 x.keys.toInt)) wr.drew := ⟨f1, f2, g0, g1, g2, g3, g4, g5⟩
          have HUp : Hid (∀ W, Below wr.heap.size wr W → (fun w' : World => w'.cell? ⟨w.heap.size, 2, none⟩ = some (.slice (some ⟨b, off, none⟩) m2 p2) ∧ w'.cell? ⟨w.heap.size + 1, 2, none⟩ = some (.slice (some ⟨b', off', none⟩) m2 q2) ∧ w'.cell? ⟨b, off + j * 3, none⟩ = some (.string x.name) ∧ w'.cell? ⟨b, off + j * 3 + 1, none⟩ = some (.slice aI nI capI) ∧ w'.cell? ⟨b, off + j * 3 + 2, none⟩ = some (.int .i64 x.keys.toInt) ∧ w'.cell? ⟨b', off' + j * 3, none⟩ = some (.string x.name) ∧ w'.cell? ⟨b', off' + j * 3 + 1, none⟩ = some (.slice aJ nI capJ) ∧ w'.cell? ⟨b', off' + j * 3 + 2, none⟩ = some (.int .i64 x.keys.toInt)) W) := fun W hW => ⟨(hW.cell (p := ⟨w.heap.size, 2, none⟩) (World.block_lt_of_cell? wr _ f1)).trans f1, (hW.cell (p := ⟨w.heap.size + 1, 2, none⟩) (World.block_lt_of_cell? wr _ f2)).trans f2, (hW.cell (p := ⟨b, off + j * 3, none⟩) (World.block_lt_of_cell? wr _ g0)).trans g0, (hW.cell (p := ⟨b, off + j * 3 + 1, none⟩) (World.block_lt_of_cell? wr _ g1)).trans g1, (hW.cell (p := ⟨b, off + j * 3 + 2, none⟩) (World.block_lt_of_cell? wr _ g2)).trans g2, (hW.cell (p := ⟨b', off' + j * 3, none⟩) (World.block_lt_of_cell? wr _ g3)).trans g3, (hW.cell (p := ⟨b', off' + j * 3 + 1, none⟩) (World.block_lt_of_cell? wr _ g4)).trans g4, (hW.cell (p := ⟨b', off' + j * 3 + 2, none⟩) (World.block_lt_of_cell? wr _ g5)).trans g5⟩
          dsimp only [List.dropLast, List.length, List.getLast]
          ((refine takeL 0 (v := ?_) rfl (by kernel_rfl) (by kernel_rfl) (by kernel_rfl) (fun _ _ _ h => h) (by rfl) hHeld ?_ ?_; rotate_left; focus (intro w hSw; (try dsimp only at hSw); go_simp <;> with_reducible rfl); (try simp only [Act.put, List.setIfInBounds_toArray, List.set_cons_zero, List.set_cons_succ])); (refine takeL 1 (v := ?_) rfl (by kernel_rfl) (by kernel_rfl) (by kernel_rfl) (fun _ _ _ h => h) (by rfl) hHeld ?_ ?_; rotate_left; focus (intro w hSw; (try dsimp only at hSw); go_simp <;> with_reducible rfl); (try simp only [Act.put, List.setIfInBounds_toArray, List.set_cons_zero, List.set_cons_succ])); (refine takeL 2 (v := ?_) rfl (by kernel_rfl) (by kernel_rfl) (by kernel_rfl) (fun _ _ _ h => h) (by rfl) hHeld ?_ ?_; rotate_left; focus (intro w hSw; (try dsimp only at hSw); go_simp <;> with_reducible rfl); (try simp only [Act.put, List.setIfInBounds_toArray, List.set_cons_zero, List.set_cons_succ])); (refine takeL 3 (v := ?_) rfl (by kernel_rfl) (by kernel_rfl) (by kernel_rfl) (fun _ _ _ h => h) (by rfl) hHeld ?_ ?_; rotate_left; focus (intro w hSw; (try dsimp only at hSw); go_simp <;> with_reducible rfl); (try simp only [Act.put, List.setIfInBounds_toArray, List.set_cons_zero, List.set_cons_succ])); (refine takeL 4 (v := ?_) rfl (by kernel_rfl) (by kernel_rfl) (by kernel_rfl) (fun _ _ _ h => h) (by rfl) hHeld ?_ ?_; rotate_left; focus (intro w hSw; (try dsimp only at hSw); go_simp <;> with_reducible rfl); (try simp only [Act.put, List.setIfInBounds_toArray, List.set_cons_zero, List.set_cons_succ])))
          dsimp only [Act.put]
          simp only [List.setIfInBounds_toArray, List.set_cons_zero, List.set_cons_succ]
          ((refine takeL 5 (v := ?_) rfl (by kernel_rfl) (by kernel_rfl) (by kernel_rfl) (fun _ _ _ h => h) (by rfl) hHeld ?_ ?_; rotate_left; focus (intro w hSw; (try dsimp only at hSw); go_simp <;> with_reducible rfl); (try simp only [Act.put, List.setIfInBounds_toArray, List.set_cons_zero, List.set_cons_succ])); (refine takeL 6 (v := ?_) rfl (by kernel_rfl) (by kernel_rfl) (by kernel_rfl) (fun _ _ _ h => h) (by rfl) hHeld ?_ ?_; rotate_left; focus (intro w hSw; (try dsimp only at hSw); go_simp <;> with_reducible rfl); (try simp only [Act.put, List.setIfInBounds_toArray, List.set_cons_zero, List.set_cons_succ])); (refine takeL 7 (v := ?_) rfl (by kernel_rfl) (by kernel_rfl) (by kernel_rfl) (fun _ _ _ h => h) (by rfl) hHeld ?_ ?_; rotate_left; focus (intro w hSw; (try dsimp only at hSw); go_simp <;> with_reducible rfl); (try simp only [Act.put, List.setIfInBounds_toArray, List.set_cons_zero, List.set_cons_succ])); (refine takeL 8 (v := ?_) rfl (by kernel_rfl) (by kernel_rfl) (by kernel_rfl) (fun _ _ _ h => h) (by rfl) hHeld ?_ ?_; rotate_left; focus (intro w hSw; (try dsimp only at hSw); go_simp <;> with_reducible rfl); (try simp only [Act.put, List.setIfInBounds_toArray, List.set_cons_zero, List.set_cons_succ])); (refine takeL 9 (v := ?_) rfl (by kernel_rfl) (by kernel_rfl) (by kernel_rfl) (fun _ _ _ h => h) (by rfl) hHeld ?_ ?_; rotate_left; focus (intro w hSw; (try dsimp only at hSw); go_simp <;> with_reducible rfl); (try simp only [Act.put, List.setIfInBounds_toArray, List.set_cons_zero, List.set_cons_succ])))
          dsimp only [Act.put]
          simp only [List.setIfInBounds_toArray, List.set_cons_zero, List.set_cons_succ]
          obtain ⟨Wa, hWa⟩ : ∃ Wa, Wa = wr.drew.alloc (.cells #[.string ⟨#[]⟩, .slice none 0 0, .int .i64 0] 26) := ⟨_, rfl⟩
          obtain ⟨Wb, hWb⟩ : ∃ Wb, Wb = Wa.alloc (.cells #[.string ⟨#[]⟩, .slice none 0 0, .int .i64 0] 26) := ⟨_, rfl⟩
          have bWa : Below wr.heap.size wr Wa := by rw [hWa]; exact ((Below.refl _ wr).drew).alloc (Nat.le_refl _) _
          have bWb : Below wr.heap.size wr Wb := by rw [hWb]; exact bWa.alloc bWa.size _
          have hsz : Wa.heap.size = wr.heap.size + 1 := by rw [hWa, World.size_alloc]; rfl
          have Ba : Box Wb wr.heap.size 26 #[.string ⟨#[]⟩, .slice none 0 0, .int .i64 0] := by rw [hWb, hWa]; exact (box_new wr.drew _ _).alloc _
          have Bb : Box Wb (wr.heap.size + 1) 26 #[.string ⟨#[]⟩, .slice none 0 0, .int .i64 0] := by rw [hWb, ← hsz]; exact box_new Wa _ _
          refine newNewL 10 11 Wa (.pointer (some ⟨wr.heap.size, 0, none⟩)) Wa (.pointer (some ⟨wr.heap.size, 0, none⟩)) rfl rfl (by kernel_rfl) (by rfl) (by rfl) (by rw [hWa]; go_simp) (by rw [hWa]; go_simp) (HUp.out _ bWa) (HUp.out _ bWa) ?_ ?_
          case' refine_1 => refine newL 11 Wb (.pointer (some ⟨wr.heap.size + 1, 0, none⟩)) rfl (by kernel_rfl) (by rfl) (by rw [hWb, ← hsz]; go_simp) (HUp.out _ bWb) ?_
          case' refine_2 => refine newL 10 Wb (.pointer (some ⟨wr.heap.size + 1, 0, none⟩)) rfl (by kernel_rfl) (by rfl) (by rw [hWb, ← hsz]; go_simp) (HUp.out _ bWb) ?_
          · obtain ⟨gP, hgP⟩ : ∃ g, g = wr.heap.size + 1 := ⟨_, rfl⟩
            obtain ⟨gQ, hgQ⟩ : ∃ g, g = wr.heap.size := ⟨_, rfl⟩
            have hBP := Bb
            have hBQ := Ba
            have hPQ : gP ≠ gQ ∧ wr.heap.size ≤ gP ∧ wr.heap.size ≤ gQ := by omega
            rw [← hgP] at hBP
            rw [← hgQ] at hBQ
            dsimp only [Act.put]
            simp only [List.setIfInBounds_toArray, List.set_cons_zero, List.set_cons_succ]
            rw [← hgP]
            rw [← hgQ]
            clear hgP hgQ hWa hWb bWa hsz Ba Bb hHeld HG
            obtain ⟨Wc, hWc⟩ : ∃ Wc, Wc = Wb.setRow gP #[.string x.name, .slice aI nI capI, .int .i64 x.keys.toInt] := ⟨_, rfl⟩
            have bWc : Below wr.heap.size wr Wc := by rw [hWc]; exact below_setRow bWb (by omega) _
            have BP0 : Box Wc gP 26 #[.string x.name, .slice aI nI capI, .int .i64 x.keys.toInt] := by rw [hWc]; exact hBP.setRow _
            have BQ0 : Box Wc gQ 26 #[.string ⟨#[]⟩, .slice none 0 0, .int .i64 0] := by rw [hWc]; exact hBQ.rowOther (by omega) _
            try dsimp only [Act.put]
            try simp only [List.setIfInBounds_toArray, List.set_cons_zero, List.set_cons_succ]
            refine stepL 12 Wc rfl (by kernel_rfl) (by rfl) (by rw [hWc]; exact exec_store_row 26 (.tmp 7) (.tmp 76) rfl gP _ rfl rfl 26 _ hBP size_pj rfl oneP) (HUp.out _ bWc) ?_
            refine doneL (by kernel_rfl) ?_
            try dsimp only [Act.put]
            refine wp_store_row 26 (.tmp 8) (.tmp 81) rfl gQ #[.string x.name, .slice aJ nI capJ, .int .i64 x.keys.toInt] rfl rfl 26 _ BQ0 size_pj rfl oneQ ?_
            try dsimp only [Act.put]
            have hB6 : Below wr.heap.size wr (Wc.setRow gQ #[.string x.name, .slice aJ nI capJ, .int .i64 x.keys.toInt]) := below_setRow bWc (by omega) _
            have BP : Box (Wc.setRow gQ #[.string x.name, .slice aJ nI capJ, .int .i64 x.keys.toInt]) gP 26 #[.string x.name, .slice aI nI capI, .int .i64 x.keys.toInt] := Box.rowOther BP0 (by omega) _
            have BQ : Box (Wc.setRow gQ #[.string x.name, .slice aJ nI capJ, .int .i64 x.keys.toInt]) gQ 26 #[.string x.name, .slice aJ nI capJ, .int .i64 x.keys.toInt] := Box.setRow BQ0 _
            have HQ : Hid (Sm w (Wc.setRow gQ #[.string x.name, .slice aJ nI capJ, .int .i64 x.keys.toInt]) t a1 p1 (some ⟨b, off, none⟩) p2 b1 q1 (some ⟨b', off', none⟩) q2 ∧ Box (Wc.setRow gQ #[.string x.name, .slice aJ nI capJ, .int .i64 x.keys.toInt]) gP 26 #[.string x.name, .slice aI nI capI, .int .i64 x.keys.toInt] ∧ Box (Wc.setRow gQ #[.string x.name, .slice aJ nI capJ, .int .i64 x.keys.toInt]) gQ 26 #[.string x.name, .slice aJ nI capJ, .int .i64 x.keys.toInt] ∧ Below wr.heap.size wr (Wc.setRow gQ #[.string x.name, .slice aJ nI capJ, .int .i64 x.keys.toInt])) := ⟨HS.out.over hB6, BP, BQ, hB6⟩
            obtain ⟨W6, hW6⟩ : ∃ W6, W6 = Wc.setRow gQ #[.string x.name, .slice aJ nI capJ, .int .i64 x.keys.toInt] := ⟨_, rfl⟩
            rw [← hW6] at HQ ⊢
            clear hB6
            have z0 := HQ.out.2.1.cell 0 _ rfl
            have z1 := HQ.out.2.1.cell 1 _ rfl
            have z2 := HQ.out.2.1.cell 2 _ rfl
            have y0 := HQ.out.2.2.1.cell 0 _ rfl
            have y1 := HQ.out.2.2.1.cell 1 _ rfl
            have y2 := HQ.out.2.2.1.cell 2 _ rfl
            clear BP BQ hW6 BP0 BQ0 bWc hPQ HS f1 f2 g0 g1 g2 g3 g4 g5 hBP hBQ hWc bWb HUp
            go_wp2_with fail
            go_loopg [9] nI (fun gg s9 wx => ∃ k : Nat, k + gg = nI ∧ s9 = .int .i64 k ∧ Hid (Sm w wx t a1 p1 (some ⟨b, off, none⟩) p2 b1 q1 (some ⟨b', off', none⟩) q2 ∧ Box wx gP 26 #[.string x.name, .slice aI nI capI, .int .i64 x.keys.toInt] ∧ Box wx gQ 26 #[.string x.name, .slice aJ nI capJ, .int .i64 x.keys.toInt] ∧ Below wr.heap.size wr wx))
            case atStart => exact ⟨0, by omega, rfl, HQ⟩
            case round =>
              clear HQ z0 z1 z2 y0 y1 y2
              obtain ⟨k, hkg, rfl, HQ⟩ := hrel
              have z1 := HQ.out.2.1.cell 1 _ rfl
              have y1 := HQ.out.2.2.1.cell 1 _ rfl
              by_cases hk : k < nI
              · have hkI : (k : Int) < (nI : Int) := by omega
                have hr3 : IntKind.i64.wrap ((k : Int) + 1) = (k : Int) + 1 := by rw [IntKind.wrap_i64]; omega
                obtain ⟨u, b3, o3, hu, rfl, i0⟩ := at1I (HX.out.1.over stays_int HQ.out.2.2.2) hk
                obtain ⟨u', b4, o4, hu', rfl, i1⟩ := at1I (HX.out.2.over stays_int HQ.out.2.2.2) hk
                obtain rfl : u' = u := Option.some.inj (hu'.symm.trans hu)
                have huu : (u'.toInt != u'.toInt) = false := by simp
                clear hu hu'
                go_wp2_with fail
                go_quiet (fail)
                go_wp2_with fail
                go_roundg (nI - (k + 1))
                case measure => clear hr2 hr3; omega
                case rel => exact ⟨k + 1, by clear hr2 hr3; omega, by go_num, HQ.out.1.over ⟨rfl, rfl, rfl, Nat.le_refl _, fun _ _ => rfl⟩, HQ.out.2.1, HQ.out.2.2.1, ⟨HQ.out.2.2.2.os, HQ.out.2.2.2.tape, HQ.out.2.2.2.output, HQ.out.2.2.2.size, HQ.out.2.2.2.block⟩⟩
              · have hkI : ¬ (k : Int) < (nI : Int) := by omega
                go_wp2_with fail
                go_roundg (m2 - (j + 1))
                case measure => clear hr2; omega
                case rel => exact ⟨j + 1, by clear hr2; omega, by go_num, HQ.out.1⟩
          · obtain ⟨gP, hgP⟩ : ∃ g, g = wr.heap.size := ⟨_, rfl⟩
            obtain ⟨gQ, hgQ⟩ : ∃ g, g = wr.heap.size + 1 := ⟨_, rfl⟩
            have hBP := Ba
            have hBQ := Bb
            have hPQ : gP ≠ gQ ∧ wr.heap.size ≤ gP ∧ wr.heap.size ≤ gQ := by omega
            rw [← hgP] at hBP
            rw [← hgQ] at hBQ
            dsimp only [Act.put]
            simp only [List.setIfInBounds_toArray, List.set_cons_zero, List.set_cons_succ]
            rw [← hgQ]
            rw [← hgP]
            clear hgP hgQ hWa hWb bWa hsz Ba Bb hHeld HG
            obtain ⟨Wc, hWc⟩ : ∃ Wc, Wc = Wb.setRow gP #[.string x.name, .slice aI nI capI, .int .i64 x.keys.toInt] := ⟨_, rfl⟩
            have bWc : Below wr.heap.size wr Wc := by rw [hWc]; exact below_setRow bWb (by omega) _
            have BP0 : Box Wc gP 26 #[.string x.name, .slice aI nI capI, .int .i64 x.keys.toInt] := by rw [hWc]; exact hBP.setRow _
            have BQ0 : Box Wc gQ 26 #[.string ⟨#[]⟩, .slice none 0 0, .int .i64 0] := by rw [hWc]; exact hBQ.rowOther (by omega) _
            try dsimp only [Act.put]
            try simp only [List.setIfInBounds_toArray, List.set_cons_zero, List.set_cons_succ]
            refine stepL 12 Wc rfl (by kernel_rfl) (by rfl) (by rw [hWc]; exact exec_store_row 26 (.tmp 7) (.tmp 76) rfl gP _ rfl rfl 26 _ hBP size_pj rfl oneP) (HUp.out _ bWc) ?_
            refine doneL (by kernel_rfl) ?_
            try dsimp only [Act.put]
            refine wp_store_row 26 (.tmp 8) (.tmp 81) rfl gQ #[.string x.name, .slice aJ nI capJ, .int .i64 x.keys.toInt] rfl rfl 26 _ BQ0 size_pj rfl oneQ ?_
            try dsimp only [Act.put]
            have hB6 : Below wr.heap.size wr (Wc.setRow gQ #[.string x.name, .slice aJ nI capJ, .int .i64 x.keys.toInt]) := below_setRow bWc (by omega) _
            have BP : Box (Wc.setRow gQ #[.string x.name, .slice aJ nI capJ, .int .i64 x.keys.toInt]) gP 26 #[.string x.name, .slice aI nI capI, .int .i64 x.keys.toInt] := Box.rowOther BP0 (by omega) _
            have BQ : Box (Wc.setRow gQ #[.string x.name, .slice aJ nI capJ, .int .i64 x.keys.toInt]) gQ 26 #[.string x.name, .slice aJ nI capJ, .int .i64 x.keys.toInt] := Box.setRow BQ0 _
            have HQ : Hid (Sm w (Wc.setRow gQ #[.string x.name, .slice aJ nI capJ, .int .i64 x.keys.toInt]) t a1 p1 (some ⟨b, off, none⟩) p2 b1 q1 (some ⟨b', off', none⟩) q2 ∧ Box (Wc.setRow gQ #[.string x.name, .slice aJ nI capJ, .int .i64 x.keys.toInt]) gP 26 #[.string x.name, .slice aI nI capI, .int .i64 x.keys.toInt] ∧ Box (Wc.setRow gQ #[.string x.name, .slice aJ nI capJ, .int .i64 x.keys.toInt]) gQ 26 #[.string x.name, .slice aJ nI capJ, .int .i64 x.keys.toInt] ∧ Below wr.heap.size wr (Wc.setRow gQ #[.string x.name, .slice aJ nI capJ, .int .i64 x.keys.toInt])) := ⟨HS.out.over hB6, BP, BQ, hB6⟩
            obtain ⟨W6, hW6⟩ : ∃ W6, W6 = Wc.setRow gQ #[.string x.name, .slice aJ nI capJ, .int .i64 x.keys.toInt] := ⟨_, rfl⟩
            rw [← hW6] at HQ ⊢
            clear hB6
            have z0 := HQ.out.2.1.cell 0 _ rfl
            have z1 := HQ.out.2.1.cell 1 _ rfl
            have z2 := HQ.out.2.1.cell 2 _ rfl
            have y0 := HQ.out.2.2.1.cell 0 _ rfl
            have y1 := HQ.out.2.2.1.cell 1 _ rfl
            have y2 := HQ.out.2.2.1.cell 2 _ rfl
            clear BP BQ hW6 BP0 BQ0 bWc hPQ HS f1 f2 g0 g1 g2 g3 g4 g5 hBP hBQ hWc bWb HUp
            go_wp2_with fail
            go_loopg [9] nI (fun gg s9 wx => ∃ k : Nat, k + gg = nI ∧ s9 = .int .i64 k ∧ Hid (Sm w wx t a1 p1 (some ⟨b, off, none⟩) p2 b1 q1 (some ⟨b', off', none⟩) q2 ∧ Box wx gP 26 #[.string x.name, .slice aI nI capI, .int .i64 x.keys.toInt] ∧ Box wx gQ 26 #[.string x.name, .slice aJ nI capJ, .int .i64 x.keys.toInt] ∧ Below wr.heap.size wr wx))
            case atStart => exact ⟨0, by omega, rfl, HQ⟩
            case round =>
              clear HQ z0 z1 z2 y0 y1 y2
              obtain ⟨k, hkg, rfl, HQ⟩ := hrel
              have z1 := HQ.out.2.1.cell 1 _ rfl
              have y1 := HQ.out.2.2.1.cell 1 _ rfl
              by_cases hk : k < nI
              · have hkI : (k : Int) < (nI : Int) := by omega
                have hr3 : IntKind.i64.wrap ((k : Int) + 1) = (k : Int) + 1 := by rw [IntKind.wrap_i64]; omega
                obtain ⟨u, b3, o3, hu, rfl, i0⟩ := at1I (HX.out.1.over stays_int HQ.out.2.2.2) hk
                obtain ⟨u', b4, o4, hu', rfl, i1⟩ := at1I (HX.out.2.over stays_int HQ.out.2.2.2) hk
                obtain rfl : u' = u := Option.some.inj (hu'.symm.trans hu)
                have huu : (u'.toInt != u'.toInt) = false := by simp
                clear hu hu'
                go_wp2_with fail
                go_quiet (fail)
                go_wp2_with fail
                go_roundg (nI - (k + 1))
                case measure => clear hr2 hr3; omega
                case rel => exact ⟨k + 1, by clear hr2 hr3; omega, by go_num, HQ.out.1.over ⟨rfl, rfl, rfl, Nat.le_refl _, fun _ _ => rfl⟩, HQ.out.2.1, HQ.out.2.2.1, ⟨HQ.out.2.2.2.os, HQ.out.2.2.2.tape, HQ.out.2.2.2.output, HQ.out.2.2.2.size, HQ.out.2.2.2.block⟩⟩
              · have hkI : ¬ (k : Int) < (nI : Int) := by omega
                go_wp2_with fail
                go_roundg (m2 - (j + 1))
                case measure => clear hr2; omega
                case rel => exact ⟨j + 1, by clear hr2; omega, by go_num, HQ.out.1⟩
        · have hjI : ¬ (j : Int) < (m2 : Int) := by omega
          go_wp2_with fail
          go_ret
          exact ⟨rfl, HS.out.bel⟩
end Go.Proofs.YtdjobjbkpagnaaaGreat
/-
  The contract of the document's Same, where both are the same tables.
-/
namespace Go.Proofs.YtdjobjbkpagnaaaGreat
open Go.RowKit Go.Shelf

set_option maxRecDepth 4000 in
set_option maxHeartbeats 4000000 in
theorem sameTabs_any {w : World} {v1 v2 : Value} {l : List Tb} (h1 : TabsIs w v1 l) (h2 : TabsIs w v2 l) (hl : litL l) :
    Calls Tryz.prog 11 #[v1, v2] w fun e w' => e = .returned (.bool true) ∧ Below w.heap.size w w' := by
  obtain ⟨a1, n, p1, rfl, hn, _⟩ := h1.slice
  obtain ⟨a2, n2, p2, rfl, hn2, _⟩ := h2.slice
  obtain rfl : n2 = n := hn2.symm.trans hn
  have hnI : (n2 : Int) ≤ 1000 := by have := hl.1; omega
  have HH : Hid (TabsIs w (.slice a1 n2 p1) l ∧ TabsIs w (.slice a2 n2 p2) l ∧ ∀ t ∈ l, litT t) := ⟨h1, h2, hl.2⟩
  have hne : ((n2 : Int) != (n2 : Int)) = false := by simp
  clear h1 h2 hl hn hn2
  go_enter Tryz.func11, Tryz.ntmps11
  go_wp2_with fail
  go_loopg [5] n2 (fun gg s5 wx => ∃ i : Nat, i + gg = n2 ∧ s5 = .int .i64 i ∧ Hid (Below w.heap.size w wx))
  case atStart => exact ⟨0, by omega, rfl, Below.refl _ _⟩
  case round =>
    obtain ⟨i, hig, rfl, HB⟩ := hrel
    by_cases hi : i < n2
    · have hiI : (i : Int) < (n2 : Int) := by omega
      have hr2 : IntKind.i64.wrap ((i : Int) + 1) = (i : Int) + 1 := by rw [IntKind.wrap_i64]; omega
      obtain ⟨x, e0, e1, e2, b, off, hx, rfl, hE, g0, g1, g2⟩ := at3T (HH.out.1.over stays_tb HB.out) hi
      obtain ⟨y, e3, e4, e5, b', off', hy, rfl, hE', g3, g4, g5⟩ := at3T (HH.out.2.1.over stays_tb HB.out) hi
      obtain rfl : y = x := Option.some.inj (hy.symm.trans hx)
      have hlt := HH.out.2.2 y (List.mem_of_getElem? hx)
      have co := fun (k : Above wr) => sameOne_any (stays_tb _ _ _ _ hE k.is) (stays_tb _ _ _ _ hE' k.is) hlt
      have k0 := fun (k : Above wr) => above_cell g0 k
      have k1 := fun (k : Above wr) => above_cell g1 k
      have k2 := fun (k : Above wr) => above_cell g2 k
      have k3 := fun (k : Above wr) => above_cell g3 k
      have k4 := fun (k : Above wr) => above_cell g4 k
      have k5 := fun (k : Above wr) => above_cell g5 k
      clear hx hy hE hE' hlt g0 g1 g2 g3 g4 g5
      go_wp2_with fail
      refine wp_region_above (by kernel_rfl) (by kernel_rfl) ?_
      intro hne
      repeat (go_big_quiet_step (fail))
      go_big_quiet_step (first | (go_at_call 33; exact above_of (co _)))
      repeat (go_big_quiet_step (fail))
      refine wpQuiet_nil ?_
      rintro _ ⟨kq, rfl⟩
      have HQ : Hid (Below w.heap.size w kq.it) := HB.out.trans (kq.is.mono HB.out.size)
      clear co k0 k1 k2 k3 k4 k5 hne
      go_wp2_with fail
      go_roundg (n2 - (i + 1))
      case measure => clear hr2; omega
      case rel => exact ⟨i + 1, by clear hr2; omega, by go_num, HQ⟩
    · have hiI : ¬ (i : Int) < (n2 : Int) := by omega
      go_wp2_with fail
      go_ret
      exact ⟨rfl, HB.out⟩
end Go.Proofs.YtdjobjbkpagnaaaGreat
/-
  What awake asks, by numbers. Pure mathematics.
-/
namespace Go.Proofs.YtdjobjbkpagnaaaGreat
open Leb

def eqD (a b : ByteArray) : Bool := decide (a.data.toList = b.data.toList)
theorem eqS_eqD : eqS = eqD := by
  funext a b
  unfold eqS eqD
  rw [ByteArray.toList_eq, ByteArray.toList_eq]
def twoC : List Col := [⟨str [97], 1#64, false⟩, ⟨str [98], 2#64, true⟩]
def tb0 : Tb := ⟨str [116], twoC, [⟨superN, nums 2, 0#64⟩]⟩
def pj1 : Pj := ⟨str [98, 121, 95, 98], [1#64], 1#64⟩
def tb1 : Tb := ⟨str [116], twoC, [⟨superN, nums 2, 0#64⟩, pj1]⟩
theorem aw_cols : colsB twoC = true := by
  unfold colsB sameC
  rw [eqS_eqD]
  decide +kernel
theorem aw_tabs0 : tabsB [tb0] = true := by
  unfold tabsB sameT
  rw [eqS_eqD]
  have : tbB tb0 = true := by
    unfold tbB sameP
    rw [eqS_eqD, show tb0.cols = twoC from rfl, aw_cols]
    decide +kernel
  simp only [List.all_cons, List.all_nil, this]
  decide +kernel
theorem aw_tabs1 : tabsB [tb1] = true := by
  unfold tabsB sameT
  rw [eqS_eqD]
  have : tbB tb1 = true := by
    unfold tbB sameP
    rw [eqS_eqD, show tb1.cols = twoC from rfl, aw_cols]
    decide +kernel
  simp only [List.all_cons, List.all_nil, this]
  decide +kernel
theorem aw_find0 : findT [tb0] (str [116]) = 0 := by
  unfold findT
  rw [eqS_eqD]
  decide +kernel
theorem aw_find1 : findT [tb1] (str [116]) = 0 := by
  unfold findT
  rw [eqS_eqD]
  decide +kernel
theorem aw_col : findC twoC (str [98]) = 1 := by
  unfold findC
  rw [eqS_eqD]
  decide +kernel
theorem aw_pj : findP tb0.projs (str [98, 121, 95, 98]) = -1 := by
  unfold findP
  rw [eqS_eqD]
  decide +kernel
theorem aw_super : findP tb1.projs superN = 0 := by
  unfold findP
  rw [eqS_eqD]
  decide +kernel
theorem aw_pjB : pjB 2 pj1 = true := by decide +kernel
theorem aw_create : createF [] (str [116]) twoC = ([tb0], 0) := by
  unfold createF
  have h1 : (tabsB [] && nameB (str [116]) && colsB twoC) = true := by rw [aw_cols]; decide +kernel
  rw [h1, if_neg (by decide), show findT [] (str [116]) = -1 from rfl, if_neg (by decide), if_neg (by decide)]
  rfl
theorem aw_add : addF [tb0] (str [116]) pj1 = ([tb1], 0) := by
  unfold addF
  rw [aw_tabs0, if_neg (by decide), aw_find0]
  simp only [Int.toNat_zero, List.getElem?_cons_zero]
  rw [if_neg (by decide)]
  unfold addAt
  rw [show tb0.cols.length = 2 from rfl, aw_pjB, if_neg (by decide), show pj1.name = str [98, 121, 95, 98] from rfl, aw_pj, if_neg (by decide), if_neg (by decide)]
  rfl
theorem aw_rem : remF [tb1] (str [116]) superN = ([], 250) := by
  unfold remF
  rw [aw_tabs1, if_neg (by decide), aw_find1]
  simp only [Int.toNat_zero, List.getElem?_cons_zero]
  rw [if_neg (by decide)]
  unfold remAt
  rw [aw_super, if_neg (by decide)]
  have h : readB tb1.cols.length (remL tb1 superN) = false := by
    unfold remL
    rw [aw_super]
    decide +kernel
  rw [h, if_pos rfl]
theorem aw_len : (encTabs [tb1]).length ≤ 1000 := by decide +kernel
end Go.Proofs.YtdjobjbkpagnaaaGreat
/-
  The contracts of law 25's two and awake.
-/
namespace Go.Proofs.YtdjobjbkpagnaaaGreat
open Go.RowKit Go.Shelf Leb

/-- A slice laid as a block of rows. -/
theorem slIs_block {α : Type} {E : World → α → List Value → Prop} {sz : Nat} {w : World} {B : Nat} {t : TypeId} {cs : Array Value} {l : List α} (hb : Box w B t cs) (h : ∀ (i : Nat) (x : α), l[i]? = some x → ∃ r : List Value, r.length = sz ∧ E w x r ∧ ∀ (j : Nat) (u : Value), r[j]? = some u → cs[i * sz + j]? = some u) : SlIs E sz w (.slice (some ⟨B, 0, none⟩) l.length l.length) l := by
  refine ⟨_, _, rfl, Nat.le_refl _, fun _ => ⟨B, 0, rfl, hb.lt, fun i x hi => ?_⟩⟩
  obtain ⟨r, h1, h2, h3⟩ := h i x hi
  exact ⟨r, h1, h2, fun j u hu => by rw [Nat.zero_add]; exact hb.cell _ _ (h3 j u hu)⟩
theorem two_cells (w : World) : ∀ (i : Nat) (x : Col), twoC[i]? = some x → ∃ r : List Value, r.length = 3 ∧ ColE w x r ∧ ∀ (j : Nat) (u : Value), r[j]? = some u → (#[.string { data := #[97] }, .int .i64 1, .bool false, .string { data := #[98] }, .int .i64 2, .bool true] : Array Value)[i * 3 + j]? = some u := by
  intro i x hx
  match i with
  | 0 =>
    obtain rfl : _ = x := Option.some.inj hx
    refine ⟨_, rfl, rfl, fun j u hu => ?_⟩
    match j with
    | 0 => exact hu
    | 1 => exact hu
    | 2 => exact hu
    | j + 3 => simp at hu
  | 1 =>
    obtain rfl : _ = x := Option.some.inj hx
    refine ⟨_, rfl, rfl, fun j u hu => ?_⟩
    match j with
    | 0 => exact hu
    | 1 => exact hu
    | 2 => exact hu
    | j + 3 => simp at hu
  | i + 2 => simp [twoC] at hx
set_option maxRecDepth 4000 in
theorem two_any (w : World) : Calls Tryz.prog 25 #[] w fun e w' => (∃ v, e = .returned v ∧ ColsIs w' v twoC) ∧ Below w.heap.size w w' := by
  go_enter Tryz.func25, Tryz.ntmps25
  go_wp2_with fail
  go_ret
  exact ⟨⟨_, rfl, slIs_block (box_new w _ _) (two_cells _)⟩, below1 _ _⟩
theorem lit_two : ∀ c ∈ twoC, litC c := by
  intro c hc
  simp only [twoC, List.mem_cons, List.not_mem_nil, or_false] at hc
  rcases hc with rfl | rfl <;> (unfold litC; decide)
theorem lit_pj1 : litP pj1 := by unfold litP pj1; decide
theorem lit_super : litP ⟨superN, nums 2, 0#64⟩ := ⟨by show superN.size ≤ 1000; decide, by show (nums 2).length ≤ _; rw [nums_len]; omega⟩
theorem lit_tb0 : litL [tb0] := by
  refine ⟨by simp, fun t ht => ?_⟩
  simp only [List.mem_singleton] at ht
  subst ht
  refine ⟨by show (str [116]).size ≤ _; decide, by show twoC.length ≤ _; decide, by show 1 ≤ _; omega, lit_two, fun p hp => ?_⟩
  simp only [tb0, List.mem_singleton] at hp
  subst hp
  exact lit_super
theorem lit_tb1 : litL [tb1] := by
  refine ⟨by simp, fun t ht => ?_⟩
  simp only [List.mem_singleton] at ht
  subst ht
  refine ⟨by show (str [116]).size ≤ _; decide, by show twoC.length ≤ _; decide, by show 2 ≤ _; omega, lit_two, fun p hp => ?_⟩
  simp only [tb1, List.mem_cons, List.not_mem_nil, or_false] at hp
  rcases hp with rfl | rfl
  · exact lit_super
  · exact lit_pj1
theorem aw_put : putF [tb1] = (encTabs [tb1], 0) := by unfold putF; rw [aw_tabs1]; rfl
theorem aw_take : takeWith pTabsC (str (encTabs [tb1])).data.toList = ([tb1], (encTabs [tb1]).length, 0) := by
  have := take_put aw_tabs1 []
  rw [List.append_nil] at this
  exact this

set_option maxRecDepth 4000 in
set_option maxHeartbeats 4000000 in
theorem awake_any (w : World) : Calls Tryz.prog 9 #[] w fun e w' => e = .returned (.bool true) ∧ Below w.heap.size w w' := by
  go_enter Tryz.func9, Tryz.ntmps9
  go_wp2_with fail
  refine (two_any w).mono ?_
  rintro e w1 ⟨⟨v1, rfl, hv1⟩, hb1⟩
  have HB1 : Hid (Below w.heap.size w w1) := hb1
  have c2 := create_any (slIs_nil TbE 3 w1 none 0) ⟨by simp, by simp⟩ hv1 (by decide) lit_two (str [116]) (by decide)
  rw [aw_create] at c2
  obtain ⟨a1, n1, p1, rfl, _⟩ := hv1.slice
  clear hv1 hb1
  go_wp2_with fail
  refine Calls.mono c2 ?_
  rintro e w2 ⟨⟨v2, rfl, hv2⟩, hb2⟩
  have HB2 : Hid (Below w.heap.size w w2) := HB1.out.trans (hb2.mono HB1.out.size)
  obtain ⟨W3, hW3⟩ : ∃ W3, W3 = w2.alloc (.cells #[.int .i64 1] 3) := ⟨_, rfl⟩
  have hb23 : Below w2.heap.size w2 W3 := by rw [hW3]; exact below1 _ _
  have hB3 : Box W3 w2.heap.size 3 #[.int .i64 1] := by rw [hW3]; exact box_new _ _ _
  have hpj : PjE W3 pj1 [.string { data := #[98, 121, 95, 98] }, .slice (some ⟨w2.heap.size, 0, none⟩) 1 1, .int .i64 1] := ⟨_, rfl, slIs_block (l := [1#64]) hB3 (fun i x hx => by
    match i with
    | 0 =>
      obtain rfl : _ = x := Option.some.inj hx
      refine ⟨_, rfl, rfl, fun j u hu => ?_⟩
      match j with
      | 0 => exact hu
      | j + 1 => simp at hu
    | i + 1 => simp at hx)⟩
  have c3 := add_any (hv2.over stays_tb hb23) lit_tb0 (str [116]) hpj lit_pj1
  rw [aw_add] at c3
  have HW3 : Hid (W3 = w2.alloc (.cells #[.int .i64 1] 3) ∧ Below w.heap.size w W3) := ⟨hW3, HB2.out.trans (hb23.mono HB2.out.size)⟩
  obtain ⟨a2, n2, p2, rfl, _⟩ := hv2.slice
  clear c2 hv2 hb2 hb23 hB3 hpj hW3
  go_wp2_with fail
  rw [← HW3.out.1]
  refine Calls.mono c3 ?_
  rintro e w4 ⟨⟨v4, rfl, hv4⟩, hb4⟩
  have H4 : Hid (TabsIs w4 v4 [tb1] ∧ Below w.heap.size w w4) := ⟨hv4, HW3.out.2.trans (hb4.mono HW3.out.2.size)⟩
  have c4 := remove_any hv4 lit_tb1 (str [116]) superN
  rw [aw_rem] at c4
  obtain ⟨a4, n4, p4, rfl, hn4, _⟩ := hv4.slice
  obtain rfl : 1 = n4 := hn4
  clear c3 hv4 hb4
  go_wp2_with fail
  refine Calls.mono c4 ?_
  rintro e w5 ⟨⟨v5, rfl, hv5⟩, hb5⟩
  have c5 := putTabs_any (H4.out.1.over stays_tb hb5) lit_tb1
  rw [aw_put] at c5
  have HB5 : Hid (Below w4.heap.size w4 w5) := hb5
  clear c4 hv5 hb5
  go_wp2_with fail
  refine Calls.mono c5 ?_
  rintro e w6 ⟨rfl, hb6⟩
  have c6 := takeTabs_any (str (encTabs [tb1])) (by have := aw_len; rw [str_size]; omega) w6
  rw [aw_take] at c6
  have HB6 : Hid (Below w4.heap.size w4 w6) := HB5.out.trans (hb6.mono HB5.out.size)
  clear c5 hb6
  go_wp2_with fail
  refine Calls.mono c6 ?_
  rintro e w7 ⟨⟨v7, rfl, hv7⟩, hb7⟩
  have HB7 : Hid (Below w4.heap.size w4 w7) := HB6.out.trans (hb7.mono HB6.out.size)
  have c7 := sameTabs_any hv7 (H4.out.1.over stays_tb HB7.out) lit_tb1
  have hlen : ((str (encTabs [tb1])).size : Int) = ((encTabs [tb1]).length : Int) := by rw [str_size]
  have hlb : ((encTabs [tb1]).length : Int) ≤ 1000 := by have := aw_len; omega
  obtain ⟨nn, hnn⟩ : ∃ nn, nn = (encTabs [tb1]).length := ⟨_, rfl⟩
  obtain ⟨a7, n7, p7, rfl, _⟩ := hv7.slice
  clear c6 hv7 hb7
  go_wp2_with fail
  refine Calls.mono c7 ?_
  rintro e w8 ⟨rfl, hb8⟩
  have HB8 : Hid (Below w4.heap.size w4 w8) := HB7.out.trans (hb8.mono HB7.out.size)
  have hT8 := H4.out.1.over stays_tb HB8.out
  have c8 := find_any hT8 (by simp) (str [116])
  rw [aw_find1] at c8
  obtain ⟨x, e0, e1, e2, b, off, hx, rfl, hE, g0, g1, g2⟩ := at3T hT8 (k := 0) (by omega)
  obtain rfl : tb1 = x := Option.some.inj hx
  simp only [Nat.zero_mul, Nat.add_zero] at g0 g1 g2
  have HE : Hid (TbE w8 tb1 [e0, e1, e2]) := hE
  obtain ⟨rfl, ac, nc, pc, ap, np, pp, rfl, rfl, hlc, hlp, _, _⟩ := tb_cells hE
  have hnp : (2 : Nat) = np := hlp
  subst hnp
  clear c7 hb8 hT8 hx hE hlc
  go_wp2_with fail
  refine Calls.mono c8 ?_
  rintro e w9 ⟨rfl, hb9⟩
  have c9 := column_any (stays_tb _ _ _ _ HE.out hb9) (by show twoC.length ≤ _; decide) (str [98])
  rw [show tb1.cols = twoC from rfl, aw_col] at c9
  have k0 := above_cell g0 ⟨w9, hb9⟩
  have k1 := above_cell g1 ⟨w9, hb9⟩
  have k2 := above_cell g2 ⟨w9, hb9⟩
  have HB9 : Hid (Below w4.heap.size w4 w9) := HB8.out.trans (hb9.mono HB8.out.size)
  dsimp only at k0 k1 k2
  clear c8 hb9 g0 g1 g2
  go_wp2_with fail
  refine Calls.mono c9 ?_
  rintro e w10 ⟨rfl, hb10⟩
  have HB10 : Hid (Below w4.heap.size w4 w10) := HB9.out.trans (hb10.mono HB9.out.size)
  clear c9 hb10
  go_wp2_with fail
  go_ret
  exact ⟨rfl, H4.out.2.trans (HB10.out.mono H4.out.2.size)⟩
end Go.Proofs.YtdjobjbkpagnaaaGreat
