/-
  Slices of texts: what they own and how they read; slices of numbers and of texts that are made at once and stored into; the string of any bytes of the call's own; a slice of texts that came in.
-/
import Derived.Test.YtmhbpijefohopaaVRow
import Derived.Deep.Strs
import Derived.Laws.OwnMore
import Derived.Laws.BytesArg
namespace Go.Proofs.Ytmhbpijefohopaa
open Go.RowKit

def sv (l : List ByteArray) : List Value := l.map .string
def OwnsS (w : World) (B : Nat) (v : Value) (l : List ByteArray) : Prop := w.ownsRow B 9 1 v l.length (sv l)
theorem OwnsS.below {w w' : World} {B : Nat} {v : Value} {l : List ByteArray} (h : OwnsS w B v l) (hb : Below w.heap.size w w') : OwnsS w' B v l := ownsRow_below h hb
theorem OwnsS.base {w : World} {B B' : Nat} {v : Value} {l : List ByteArray} (h : OwnsS w B v l) (hb : B' ≤ B) : OwnsS w B' v l := ownsRow_base h hb
theorem ownsS_nil (w : World) (B : Nat) : OwnsS w B (.slice none 0 0) [] := World.ownsRow_nil w B _ _
theorem info_str : (Try.prog.info? 9).map (fun i => (i.zero, i.size, i.bytes)) = some (some (.string ByteArray.empty), 1, 16) := by kernel_rfl

/-- The slice v reads as the texts l in the world w. -/
def ReadsS (w : World) (v : Value) (l : List ByteArray) : Prop :=
  (l = [] ∧ ∃ a c, v = .slice a 0 c) ∨
  (∃ b off c, v = .slice (some ⟨b, off, none⟩) l.length c ∧ l ≠ [] ∧ b < w.heap.size ∧ ∀ i t, l[i]? = some t → w.cell? ⟨b, off + i, none⟩ = some (.string t))
theorem ReadsS.below {w w' : World} {v : Value} {l : List ByteArray} (h : ReadsS w v l) (hb : Below w.heap.size w w') : ReadsS w' v l := by
  rcases h with h | ⟨b, off, c, hv, hl, hbw, hc⟩
  · exact .inl h
  · exact .inr ⟨b, off, c, hv, hl, Nat.lt_of_lt_of_le hbw hb.size, fun i t hi => (hb.cell (p := ⟨b, off + i, none⟩) hbw).trans (hc i t hi)⟩
theorem add0 (g i : Nat) : (⟨g, 0, none⟩ : Addr).add i = ⟨g, i, none⟩ := by unfold Addr.add; split <;> simp_all
theorem OwnsS.reads {w : World} {B : Nat} {v : Value} {l : List ByteArray} (h : OwnsS w B v l) : ReadsS w v l := by
  have hc := @World.ownsRow.cells _ _ _ _ _ _ _ h
  have hlt := h.lt
  rcases h.2 with ⟨rfl, h0⟩ | ⟨g, cap, cur, rfl, hb, hg, hcap, _⟩
  · exact .inl ⟨List.eq_nil_of_length_eq_zero h0, _, _, rfl⟩
  · by_cases hl : l = []
    · subst hl; exact .inl ⟨rfl, _, _, rfl⟩
    · refine .inr ⟨g, 0, cap, rfl, hl, (hlt g rfl).2, fun i t hi => ?_⟩
      have hx := hc rfl i (.string t) (by simp [sv, hi])
      rw [add0] at hx
      rw [Nat.zero_add]
      exact hx

/-- 's = append(s, t)', s the call's own, of texts. -/
theorem append_s {ops : Array Oper} {rest : List Oper} {o : Oper} {a : Act} {Q : Exit → Act → World → Prop} (hgd : o.guard = none) (s x : Operand)
    (ho : o.op = .call { callee := .builtin .append, args := #[s, x], argTypes := #[30, 30] })
    {w : World} {B : Nat} {v : Value} {l : List ByteArray} {t : ByteArray} (hs : a.eval s = v) (hx : a.eval x = .slice (some ⟨w.heap.size, 0, none⟩) 1 1)
    (hown : OwnsS w B v l) (hB : B ≤ w.heap.size) (hl : l.length + 1 ≤ 1000000)
    (h : ∀ v' w', OwnsS w' B v' (l ++ [t]) → Below B w w' → wpList Try.prog ops Q rest (a.put o.dst v') w') :
    wpList Try.prog ops Q (o :: rest) a (w.alloc (.cells #[.string t] 9)) := by
  obtain ⟨i0, hi, hz0, hz1, hz2⟩ := info_parts info_str
  refine wpList_append_own _ hgd s x 30 ho B 9 i0 (.string ByteArray.empty) 1 16 Try.underlying30 hi hz0 hz1 hz2 rfl (by decide) v l.length (sv l) hs (World.ownsRow.alloc hown _) ⟨w.heap.size, 0, none⟩ 1 1 [.string t] hx rfl (cell_one_new _ _ _) ?_ ?_ ?_ ?_ ?_
  · intro u hu; simp at hu; subst hu; rfl
  · simp only [maxLen]; omega
  · omega
  · simp; omega
  · intro v' w' hown' hgrow _
    refine h v' w' ?_ ?_
    · simpa [OwnsS, sv] using hown'
    · refine ((Below.refl B w).alloc hB _).grown hgrow (by simp; omega) fun k hk => (hown.lt k hk).1

/-- 'make([]byte, 0, n)'. -/
theorem make_bytes {ops : Array Oper} {rest : List Oper} {o : Oper} {a : Act} {Q : Exit → Act → World → Prop} (hgd : o.guard = none) (l c : Operand) (hop : o.op = Op.makeSlice 39 l c)
    {w : World} {C : Int} {n B : Nat} (hl : a.eval l = .int .i64 0) (hc : a.eval c = .int .i64 C) (hC : C = (n : Int)) (hn : n ≤ 1000000) (hB : B ≤ w.heap.size)
    (h : ∀ v' w', OwnsB w' B v' [] → Below B w w' → wpList Try.prog ops Q rest (a.put o.dst v') w') : wpList Try.prog ops Q (o :: rest) a w := by
  obtain ⟨i0, hi, hz0, hz1, hz2⟩ := info_parts info_u8
  refine wpList_make_own w hgd l c 39 hop B 5 i0 (.int .u8 0) 1 Try.underlying39 hi hz0 hz1 _ _ C n hl hc hC ?_ ?_ hB ?_
  · rw [hz2]; omega
  · unfold maxLen; omega
  · intro w' hown hg
    exact h _ w' hown ((Below.refl B w).grown hg hB (fun k hk => by cases hk))
/-- 'make([]int, n)'. -/
theorem make_ints {ops : Array Oper} {rest : List Oper} {o : Oper} {a : Act} {Q : Exit → Act → World → Prop} (hgd : o.guard = none) (l c : Operand) (hop : o.op = Op.makeSlice 22 l c)
    {w : World} {C : Int} {n B : Nat} (hl : a.eval l = .int .i64 C) (hc : a.eval c = .int .i64 C) (hC : C = (n : Int)) (hn : n ≤ 1000000) (hB : B ≤ w.heap.size)
    (h : ∀ w', OwnsI w' B (.slice (some ⟨w.heap.size, 0, none⟩) n n) (List.replicate n 0#64) → Below B w w' → wpList Try.prog ops Q rest (a.put o.dst (.slice (some ⟨w.heap.size, 0, none⟩) n n)) w') : wpList Try.prog ops Q (o :: rest) a w := by
  obtain ⟨i0, hi, hz0, hz1, hz2⟩ := info_parts info_i64
  refine wpList_make_full w hgd l c 22 hop B 3 i0 (.int .i64 0) 1 Try.underlying22 hi hz0 hz1 _ _ C C n hl hc hC hC ?_ ?_ hB ?_
  · rw [hz2]; omega
  · unfold maxLen; omega
  · intro w' hown hg
    refine h w' ?_ ((Below.refl B w).grown hg hB (fun k hk => by cases hk))
    have e : (madeCells (Value.int IntKind.i64 0).cells (n * 1)).toList = iv (List.replicate n 0#64) := by
      rw [Nat.mul_one, show (Value.int IntKind.i64 0).cells = #[.int .i64 0] from rfl, toList_madeCells_one]
      simp [iv]
    rw [e] at hown
    unfold OwnsI
    rw [List.length_replicate]
    exact hown
/-- 'make([]string, n)'. -/
theorem make_strs {ops : Array Oper} {rest : List Oper} {o : Oper} {a : Act} {Q : Exit → Act → World → Prop} (hgd : o.guard = none) (l c : Operand) (hop : o.op = Op.makeSlice 30 l c)
    {w : World} {C : Int} {n B : Nat} (hl : a.eval l = .int .i64 C) (hc : a.eval c = .int .i64 C) (hC : C = (n : Int)) (hn : n ≤ 1000000) (hB : B ≤ w.heap.size)
    (h : ∀ w', OwnsS w' B (.slice (some ⟨w.heap.size, 0, none⟩) n n) (List.replicate n ByteArray.empty) → Below B w w' → wpList Try.prog ops Q rest (a.put o.dst (.slice (some ⟨w.heap.size, 0, none⟩) n n)) w') : wpList Try.prog ops Q (o :: rest) a w := by
  obtain ⟨i0, hi, hz0, hz1, hz2⟩ := info_parts info_str
  refine wpList_make_full w hgd l c 30 hop B 9 i0 (.string ByteArray.empty) 1 Try.underlying30 hi hz0 hz1 _ _ C C n hl hc hC hC ?_ ?_ hB ?_
  · rw [hz2]; omega
  · unfold maxLen; omega
  · intro w' hown hg
    refine h w' ?_ ((Below.refl B w).grown hg hB (fun k hk => by cases hk))
    have e : (madeCells (Value.string ByteArray.empty).cells (n * 1)).toList = sv (List.replicate n ByteArray.empty) := by
      rw [Nat.mul_one, show (Value.string ByteArray.empty).cells = #[.string ByteArray.empty] from rfl, toList_madeCells_one]
      simp [sv]
    rw [e] at hown
    unfold OwnsS
    rw [List.length_replicate]
    exact hown
/-- A store into such a slice. -/
theorem OwnsI.store {w : World} {B g n cap : Nat} {l : List (BitVec 64)} (h : OwnsI w B (.slice (some ⟨g, 0, none⟩) n cap) l) (hn : n = l.length) (k : Nat) (hk : k < l.length) (x : BitVec 64) :
    w.cell? ⟨g, k, none⟩ = some (.int .i64 (l.getD k 0#64).toInt) ∧ w.frozen? ⟨g, k, none⟩ = false ∧ OwnsI (w.setCell ⟨g, k, none⟩ (.int .i64 x.toInt)) B (.slice (some ⟨g, 0, none⟩) n cap) (l.set k x) ∧ B ≤ g := by
  subst hn
  refine ⟨?_, World.ownsRow.frozenAt h k, ?_, (h.lt g rfl).1⟩
  · rw [World.ownsRow.cellAt h k (by omega)]
    simp [iv, hk]
  · have := (World.ownsRow.stored h k (.int .i64 x.toInt)).1
    unfold OwnsI
    rw [List.length_set]
    have e : (iv l).set k (.int .i64 x.toInt) = iv (l.set k x) := by simp [iv, List.map_set]
    rw [e] at this
    exact this
theorem OwnsS.store {w : World} {B g n cap : Nat} {l : List ByteArray} (h : OwnsS w B (.slice (some ⟨g, 0, none⟩) n cap) l) (hn : n = l.length) (k : Nat) (hk : k < l.length) (x : ByteArray) :
    (∃ t, w.cell? ⟨g, k, none⟩ = some (.string t)) ∧ w.frozen? ⟨g, k, none⟩ = false ∧ OwnsS (w.setCell ⟨g, k, none⟩ (.string x)) B (.slice (some ⟨g, 0, none⟩) n cap) (l.set k x) ∧ B ≤ g := by
  subst hn
  refine ⟨⟨l[k], ?_⟩, World.ownsRow.frozenAt h k, ?_, (h.lt g rfl).1⟩
  · rw [World.ownsRow.cellAt h k (by omega)]
    simp [sv, hk]
  · have := (World.ownsRow.stored h k (.string x)).1
    unfold OwnsS
    rw [List.length_set]
    have e : (sv l).set k (.string x) = sv (l.set k x) := by simp [sv, List.map_set]
    rw [e] at this
    exact this
theorem set_mid {α : Type} (d : List α) (g : Nat) (z x : α) (k : Nat) (hk : d.length = k) : (d ++ List.replicate (g + 1) z).set k x = (d ++ [x]) ++ List.replicate g z := by
  subst hk
  rw [List.set_append_right _ _ (Nat.le_refl _), Nat.sub_self, List.replicate_succ, List.set_cons_zero, List.append_assoc]
  rfl
/-- 'string(s)', s the call's own, of bytes. -/
theorem convert_all {w : World} {B : Nat} {v : Value} {l : List UInt8} (hown : OwnsB w B v l) :
    (convert 39 9 v).run Try.prog w = .ok (.string ⟨l.toArray⟩) w := by
  rcases Nat.eq_zero_or_pos l.length with h0 | hp
  · have hl : l = [] := List.eq_nil_of_length_eq_zero h0
    subst hl
    rcases hown.2 with ⟨rfl, _⟩ | ⟨g, cap, cur, rfl, _, _, _⟩
    · exact run_convert_bytes_nil w 39 5 Try.underlying39 Try.underlying5 _ _ 9 Try.underlying9
    · rw [run_convert_bytes_string w _ _ 5 _ _ _ Try.underlying39 Try.underlying5 Try.underlying9]
      have hload : (loadCells ⟨g, 0, none⟩ 0).run Try.prog w = .ok (([] : List Int).map (Value.int .u8)).toArray w := by
        have := run_loadCells_list (P := Try.prog) w ⟨g, 0, none⟩ [] (by intro j u h; simp at h)
        simpa using this
      have := run_bytesToString (P := Try.prog) w ⟨g, 0, none⟩ 0 cap [] hload
      exact this
  · exact convert_own hown hp
/-- Texts that came in. -/
theorem strs_of {H : Type} {enc : TypeId × Value → H} {W : World} {base : Nat} {sp : Nat → Bool} {hd : Bool} {fuel : Nat} {a : Option Addr} {len cap : Nat} {x : DataW H × List MemPlace}
    (h : DataW.trod enc Try.prog W base sp hd fuel 30 [.slice a len cap] = some x) : ∃ l : List ByteArray, l.length = len ∧ ReadsS W (.slice a len cap) l ∧ l.length ≤ maxLen := by
  rcases Go.Deep.open_strs Try.underlying30 Try.underlying9 (by kernel_rfl) h with ⟨h0, _⟩ | ⟨ad, ln, cp, m, Sx, hv, _, hl, hm, hmm, _, hx⟩
  · simp at h0
    obtain ⟨rfl, rfl, rfl⟩ := h0
    exact ⟨[], rfl, .inl ⟨rfl, _, _, rfl⟩, Nat.zero_le _⟩
  · simp at hv
    obtain ⟨rfl, rfl, rfl⟩ := hv
    have hlm : len ≤ m := by rw [hmm]; split <;> omega
    refine ⟨(List.range len).map Sx, by simp, ?_, by simp; omega⟩
    rcases Nat.eq_zero_or_pos len with rfl | hpos
    · exact .inl ⟨rfl, _, _, rfl⟩
    · obtain ⟨b, off, spot⟩ := ad
      have hc0 := (hx 0 (by omega)).1
      have hspot : spot = none := by simpa [Addr.add] using World.cell?_spot hc0
      subst hspot
      have hbw : b < W.heap.size := by
        have := World.block_lt_of_cell? W _ hc0
        simpa [Addr.add] using this
      have hll : ((List.range len).map Sx).length = len := by simp
      refine .inr ⟨b, off, cap, by rw [hll], fun e => by rw [e] at hll; simp at hll; omega, hbw, fun i t hi => ?_⟩
      have hadd : (⟨b, off, none⟩ : Addr).add i = ⟨b, off + i, none⟩ := by unfold Addr.add; split <;> simp_all
      have hil : i < len := by
        have := (List.getElem?_eq_some_iff.1 hi).1
        rwa [hll] at this
      rw [List.getElem?_map, List.getElem?_range hil] at hi
      simp at hi
      subst hi
      rw [← hadd]
      exact (hx i (by omega)).1
end Go.Proofs.Ytmhbpijefohopaa
