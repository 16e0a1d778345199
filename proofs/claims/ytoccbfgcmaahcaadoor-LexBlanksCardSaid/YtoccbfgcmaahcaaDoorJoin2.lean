/-
  21 texts, one behind the other: KRow, KApp, KPut, KRefPut, KTake, KLib, KShow, KRead, KRefShow, KNum, KRefRead, KRefRd, YPure, YRefA, YRefB, YRefC, YKind, YRefD, YRefE, YRefF, YTok.
-/
import Derived.Test.YtoccbfgcmaahcaaDoorJoin1
import Derived.Deep.MidRow
import Derived.Deep.LoopGhost
import Derived.Lib.AppendStr
import Derived.Lib.Strings
import Derived.Test.YtoccbfgcmaahcaaDoorRows
import Derived.Test.YtoccbfgcmaahcaaDoorShelf
import Derived.Lib.AppendIntMem
import Derived.Lib.LaidTab
import Derived.LaidLaws
import Derived.Stop.LaidErr
import Derived.MakeChecks
import Derived.Lib.Replace
import Derived.Lib.AtoiAll
import Derived.Lib.ItoaNum
import Derived.Lib.ItoaMem
import Derived.Lib.ItoaLen
import Derived.Lib.AtoiAllCases
import Derived.Lib.AtoiBound
import Derived.Lib.BufferRead
import Derived.Deep.RegionWith
/-
  Rows of cells in memory; the contracts of at (package cell's and the document's), and of the document's Compare, Light and Same.
-/
namespace Go.Proofs.YtoccbfgcmaahcaaDoor
open Go.RowKit

/-- The cell c lies at b, from o on. -/
structure CellAt (w : World) (b o : Nat) (c : Cl) : Prop where
  c0 : w.cell? ⟨b, o, none⟩ = some (.int .i64 c.k)
  c1 : w.cell? ⟨b, o + 1, none⟩ = some (.int .i64 c.n)
  c2 : w.cell? ⟨b, o + 2, none⟩ = some (.string c.s)
theorem CellAt.below {w w' : World} {b o : Nat} {c : Cl} (h : CellAt w b o c) (hb : b < w.heap.size) (k : Below w.heap.size w w') : CellAt w' b o c :=
  ⟨(k.cell (p := ⟨b, o, none⟩) hb).trans h.c0, (k.cell (p := ⟨b, o + 1, none⟩) hb).trans h.c1, (k.cell (p := ⟨b, o + 2, none⟩) hb).trans h.c2⟩
/-- A slice of cells reads as r. -/
def RowIs (w : World) (v : Value) (r : List Cl) : Prop :=
  ∃ a cap, v = .slice a r.length cap ∧ (r ≠ [] → ∃ b off, a = some ⟨b, off, none⟩ ∧ b < w.heap.size ∧ ∀ i c, r[i]? = some c → CellAt w b (off + i * 3) c)
theorem RowIs.below {w w' : World} {v : Value} {r : List Cl} (h : RowIs w v r) (k : Below w.heap.size w w') : RowIs w' v r := by
  obtain ⟨a, cap, rfl, h⟩ := h
  refine ⟨a, cap, rfl, fun hr => ?_⟩
  obtain ⟨b, off, rfl, hb, hc⟩ := h hr
  exact ⟨b, off, rfl, Nat.lt_of_lt_of_le hb k.size, fun i c hi => (hc i c hi).below hb k⟩
/-- What stands in a column of a row. -/
def atC (r : List Cl) (k : Int) : Cl := if 0 ≤ k then r.getD k.toNat cl0 else cl0

/-- Few cells, of few bytes. -/
def lightC (r : List Cl) : Bool := decide (r.length ≤ 20) && r.all fun c => decide (c.s.size ≤ 100)
theorem light_no {r : List Cl} {i : Nat} {c : Cl} (hi : r[i]? = some c) (h : 100 < c.s.size) : lightC r = false := by
  unfold lightC
  have hm : c ∈ r := List.mem_of_getElem? hi
  have : (r.all fun c : Cl => decide (c.s.size ≤ 100)) = false := by
    rw [List.all_eq_false]
    exact ⟨c, hm, by simp; omega⟩
  rw [this, Bool.and_false]
theorem light_long {r : List Cl} (h : 20 < r.length) : lightC r = false := by
  unfold lightC
  rw [decide_eq_false (by omega), Bool.false_and]
theorem light_yes {r : List Cl} (h : r.length ≤ 20) (hc : ∀ (i : Nat) (c : Cl), r[i]? = some c → c.s.size ≤ 100) : lightC r = true := by
  unfold lightC
  rw [decide_eq_true h, Bool.true_and, List.all_eq_true]
  intro c hm
  obtain ⟨i, hi⟩ := List.getElem?_of_mem hm
  simpa using hc i c hi

end Go.Proofs.YtoccbfgcmaahcaaDoor
/-
  Bytes that a call makes by append: of one byte, and of a text; which block alone is turned. A row of bytes that is made at once.
-/
namespace Go.Proofs.YtoccbfgcmaahcaaDoor
open Go.RowKit

/-- A struct's block is not the one in which bytes are made. -/
theorem own_ne_box {w : World} {B : Nat} {e t : TypeId} {size : Nat} {v : Value} {n : Nat} {xs : List Value} {g : Nat} {c : Array Value} (h : w.ownsRow B e size v n xs) (hb : Box w g t c) (hne : e ≠ t) : ¬ v.ownBlock = some g := by
  intro hv
  rcases h.2 with ⟨rfl, _⟩ | ⟨g', cap, cur, rfl, _, hg, _⟩
  · simp [Value.ownBlock] at hv
  · simp only [Value.ownBlock, Option.some.injEq] at hv
    subst hv
    unfold Box at hb
    rw [hb] at hg
    simp only [Option.some.injEq, Obj.cells.injEq] at hg
    exact hne hg.2.1.symm
theorem own_lt {w : World} {B : Nat} {e : TypeId} {size : Nat} {v : Value} {n : Nat} {xs : List Value} (h : w.ownsRow B e size v n xs) {k : Nat} (hk : v.ownBlock = some k) : B ≤ k ∧ k < w.heap.size := h.lt k hk
/-- What was turned was the call's own. -/
theorem kept_own_below {w w' : World} {B : Nat} {v : Value} {l : List UInt8} (h : OwnsB w B v l) (hk : Kept (fun k => v.ownBlock = some k) w w') (hB : B ≤ w.heap.size) : Below B w w' :=
  hk.below (fun _ hk => (own_lt h hk).1) hB

/-- 's = append(s, c)', s the call's own, of bytes. -/
theorem append_u8k {ops : Array Oper} {rest : List Oper} {o : Oper} {a : Act} {Q : Exit → Act → World → Prop} (hgd : o.guard = none) (s x : Operand)
    (ho : o.op = .call { callee := .builtin .append, args := #[s, x], argTypes := #[51, 51] })
    {w : World} {B p : Nat} {v : Value} {l : List UInt8} {n : Int} {c : UInt8} (hs : a.eval s = v) (hx : a.eval x = .slice (some ⟨p, 0, none⟩) 1 1) (hp : p = w.heap.size)
    (hn : n = (c.toNat : Int)) (hown : OwnsB w B v l) (hB : B ≤ w.heap.size) (hl : l.length + 1 ≤ 1000000)
    (h : ∀ v' w', OwnsB w' B v' (l ++ [c]) → Kept (fun k => v.ownBlock = some k) w w' → wpList Tryd.prog ops Q rest (a.put o.dst v') w') :
    wpList Tryd.prog ops Q (o :: rest) a (w.alloc (.cells #[.int .u8 n] 5)) := by
  subst hp
  obtain ⟨i0, hi, hz0, hz1, hz2⟩ := info_parts info_u8
  refine wpList_append_own _ hgd s x 51 ho B 5 i0 (.int .u8 0) 1 1 Tryd.underlying51 hi hz0 hz1 hz2 rfl (by decide) v l.length (bv l) hs (World.ownsRow.alloc hown _) ⟨w.heap.size, 0, none⟩ 1 1 [.int .u8 n] hx rfl (cell_one_new _ _ _) ?_ ?_ ?_ ?_ ?_
  · intro u hu; simp at hu; subst hu; rfl
  · simp only [maxLen]; omega
  · omega
  · simp; omega
  · intro v' w' hown' hgrow _
    refine h v' w' ?_ ?_
    · subst hn
      simpa [OwnsB, bv] using hown'
    · exact ((Kept.refl _ w).alloc _).grown hgrow fun k hk => .inl hk
/-- 's = append(s, t...)', s the call's own, of bytes, t a text. -/
theorem append_strk {ops : Array Oper} {rest : List Oper} {o : Oper} {a : Act} {Q : Exit → Act → World → Prop} (hgd : o.guard = none) (s x : Operand)
    (ho : o.op = .call { callee := .builtin .append, args := #[s, x], argTypes := #[51, 9] })
    {w : World} {B : Nat} {v : Value} {l : List UInt8} (t : ByteArray) (hs : a.eval s = v) (hx : a.eval x = .string t)
    (hown : OwnsB w B v l) (hB : B ≤ w.heap.size) (hl : l.length + t.size ≤ 1000000)
    (h : ∀ v' w', OwnsB w' B v' (l ++ t.data.toList) → Kept (fun k => v.ownBlock = some k) w w' → wpList Tryd.prog ops Q rest (a.put o.dst v') w') :
    wpList Tryd.prog ops Q (o :: rest) a w := by
  obtain ⟨i0, hi, hz0, hz1, hz2⟩ := info_parts info_u8
  refine Lib.wpList_append_own_string (w := w) hgd s x 51 9 ho B 5 i0 Tryd.underlying51 Tryd.underlying9 hi hz0 hz1 hz2 v l.length (bv l) hs hown t hx ?_ ?_ hB ?_
  · simp only [maxLen]; omega
  · omega
  · intro v' w' hown' hgrow _
    refine h v' w' ?_ ?_
    · have hlen : t.size = t.data.toList.length := Lib.size_eq t
      rw [hlen] at hown'
      simpa [OwnsB, bv, Lib.strCells] using hown'
    · exact (Kept.refl _ w).grown hgrow fun k hk => .inl hk
/-- '[]byte{c}'. -/
theorem ownsB_new (w : World) {n : Int} {c : UInt8} (hn : n = (c.toNat : Int)) : OwnsB (w.alloc (.cells #[.int .u8 n] 5)) w.heap.size (.slice (some ⟨w.heap.size, 0, none⟩) 1 1) [c] := by
  subst hn
  exact ⟨by simp [bv], .inr ⟨w.heap.size, 1, #[.int .u8 (c.toNat : Int)], rfl, Nat.le_refl _, heap_alloc_last w _, by simp, by unfold maxLen; simp, by simp, by simp [bv]⟩⟩
end Go.Proofs.YtoccbfgcmaahcaaDoor
/-
  A cell's bytes, and a row's: the contracts of package cell's put and Put.
-/
namespace Go.Proofs.YtoccbfgcmaahcaaDoor
open Go.RowKit

/-- A cell's bytes. -/
def bytesC (c : Cl) : List UInt8 :=
  if c.k = 1 then 1 :: enc1 (BitVec.ofInt 64 c.n) else if c.k = 2 then 2 :: UInt8.ofNat c.s.size :: c.s.data.toList else [0]
/-- Its number is an int. -/
def okC (c : Cl) : Prop := -9223372036854775808 ≤ c.n ∧ c.n ≤ 9223372036854775807
theorem may_kind {c : Cl} (h : mayC c = true) : (c.k = 0 ∧ c.n = 0 ∧ c.s.size = 0) ∨ (c.k = 1 ∧ c.s.size = 0) ∨ (c.k = 2 ∧ c.n = 0 ∧ c.s.size ≤ 32) := by
  unfold mayC at h
  simp only [Bool.or_eq_true, Bool.and_eq_true, beq_iff_eq, decide_eq_true_eq] at h
  rcases h with (h | h) | h
  · exact .inl h
  · exact .inr (.inl h)
  · exact .inr (.inr h)
theorem bytesC_len {c : Cl} (h : mayC c = true) : 1 ≤ (bytesC c).length ∧ (bytesC c).length ≤ 34 := by
  have hs := Lib.size_eq c.s
  rcases may_kind h with ⟨h1, _⟩ | ⟨h1, _⟩ | ⟨h1, _, h3⟩
  · simp [bytesC, h1]
  · have := lenW_bd (zigW (BitVec.ofInt 64 c.n))
    simp only [bytesC, h1, if_true, List.length_cons, enc1_len]
    omega
  · simp only [bytesC, h1, if_true]
    rw [if_neg (by decide)]
    simp only [List.length_cons]
    omega
theorem small_u8 {n : Nat} (h : n ≤ 255) : (n : Int) = ((UInt8.ofNat n).toNat : Int) := by
  rw [UInt8.toNat_ofNat', Nat.mod_eq_of_lt (by omega)]

/-- A row's bytes, if it may be put. -/
def putL (r : List Cl) : List UInt8 := UInt8.ofNat r.length :: r.flatMap bytesC
def putOk (r : List Cl) : Bool := decide (r.length ≤ 255) && r.all mayC
/-- What Put answers. -/
def putA (r : List Cl) : ByteArray × Int := if putOk r = true then (str (putL r), 0) else (⟨#[]⟩, 1)
theorem flat_len {r : List Cl} (h : ∀ c ∈ r, mayC c = true) : (r.flatMap bytesC).length ≤ 34 * r.length := by
  induction r with
  | nil => simp
  | cons c r ih =>
    have h1 := (bytesC_len (h c (by simp))).2
    have h2 := ih fun x hx => h x (by simp [hx])
    simp only [List.flatMap_cons, List.length_append, List.length_cons]
    omega
theorem flat_snoc {r : List Cl} {i : Nat} {c : Cl} (h : r[i]? = some c) : (r.take (i + 1)).flatMap bytesC = (r.take i).flatMap bytesC ++ bytesC c := by
  rw [List.take_add_one, h]
  simp
theorem putA_long {r : List Cl} (h : 255 < r.length) : putA r = (⟨#[]⟩, 1) := by
  unfold putA putOk
  rw [decide_eq_false (by omega)]
  rfl
theorem putA_bad {r : List Cl} {i : Nat} {c : Cl} (h : r[i]? = some c) (hc : mayC c = false) : putA r = (⟨#[]⟩, 1) := by
  have : r.all mayC = false := by
    rw [List.all_eq_false]
    exact ⟨c, List.mem_of_getElem? h, by rw [hc]; simp⟩
  unfold putA putOk
  rw [this, Bool.and_false]
  rfl
theorem putA_ok {r : List Cl} (h : r.length ≤ 255) (hc : ∀ (i : Nat) (c : Cl), r[i]? = some c → mayC c = true) : putA r = (str (putL r), 0) := by
  have : r.all mayC = true := by
    rw [List.all_eq_true]
    intro c hm
    obtain ⟨i, hi⟩ := List.getElem?_of_mem hm
    exact hc i c hi
  unfold putA putOk
  rw [this, decide_eq_true h]
  rfl
theorem retT2 {a b : ByteArray} {x y : Int} (h : (b, y) = (a, x)) : Ending.returned (.tuple #[.string a, .int .i64 x]) = .returned (.tuple #[.string b, .int .i64 y]) := by
  obtain ⟨rfl, rfl⟩ := Prod.mk.inj h
  rfl

end Go.Proofs.YtoccbfgcmaahcaaDoor
/-
  The contracts of the document's bytes and Put.
-/
namespace Go.Proofs.YtoccbfgcmaahcaaDoor
open Go.RowKit

theorem retS {a b : ByteArray} (h : b = a) : Ending.returned (.string a) = .returned (.string b) := by rw [h]
theorem str_append (a b : List UInt8) : str a ++ str b = str (a ++ b) := by
  apply ByteArray.ext
  simp [str]
theorem str_data (s : ByteArray) : str s.data.toList = s := by
  apply ByteArray.ext
  simp [str]
theorem str_three (s : ByteArray) : str (2 :: UInt8.ofNat s.size :: s.data.toList) = ⟨#[2]⟩ ++ ⟨#[UInt8.ofNat s.size]⟩ ++ s := by
  apply ByteArray.ext
  simp [str]
theorem below3 (w : World) (A B C : Obj) : Below w.heap.size w (((w.alloc A).alloc B).alloc C) := (below2 w A B).alloc (by simp; omega) _

end Go.Proofs.YtoccbfgcmaahcaaDoor
/-
  The cell that bytes begin with: the contract of package cell's take.
-/
namespace Go.Proofs.YtoccbfgcmaahcaaDoor
open Go.RowKit Leb

/-- The cell that bytes begin with, and how many it has (0: none). -/
def tkC : List UInt8 → Cl × Nat
  | [] => (cl0, 0)
  | k :: r =>
    if k.toNat = 0 then (cl0, 1)
    else if k.toNat = 1 then (if (tk r).2.2 = 0 then (numC (zagW (tk r).1).toInt, 1 + (tk r).2.1) else (cl0, 0))
    else if k.toNat = 2 then (match r with
      | [] => (cl0, 0)
      | n :: q => if n.toNat ≤ 32 ∧ n.toNat ≤ q.length then (txtC (str (q.take n.toNat)), 2 + n.toNat) else (cl0, 0))
    else (cl0, 0)

theorem head_list (s : ByteArray) (h : 0 < s.size) : s.data.toList = s[0] :: s.data.toList.drop 1 := by
  have h1 := getD_data s 0 h
  have h2 := Lib.size_eq s
  cases h3 : s.data.toList with
  | nil => rw [h3, List.length_nil] at h2; omega
  | cons a b => rw [h3] at h1; simp at h1; rw [h1]; rfl
theorem drop_list (s : ByteArray) (h : 1 < s.size) : s.data.toList.drop 1 = s[1] :: s.data.toList.drop 2 := by
  have h1 := getD_data s 1 h
  rw [List.drop_eq_getElem_cons (by rw [← Lib.size_eq]; exact h)]
  rw [← h1]
  simp [h]
theorem extract_drop (s : ByteArray) (k : Nat) : (s.extract k s.size).data.toList = s.data.toList.drop k := by
  rw [Lib.extract_data]
  exact List.take_of_length_le (by rw [List.length_drop, ← Lib.size_eq]; omega)
theorem tkC_0 {s : ByteArray} (h : 0 < s.size) (k : s[0].toNat = 0) : tkC s.data.toList = (cl0, 1) := by
  rw [head_list s h]; simp [tkC, k]
theorem tkC_other {s : ByteArray} (h : 0 < s.size) (k0 : s[0].toNat ≠ 0) (k1 : s[0].toNat ≠ 1) (k2 : s[0].toNat ≠ 2) : tkC s.data.toList = (cl0, 0) := by
  rw [head_list s h]; simp [tkC, k0, k1, k2]
theorem tkC_1 {s : ByteArray} (h : 0 < s.size) (k : s[0].toNat = 1) {z : BitVec 64} {m : Nat} (e : tk (s.data.toList.drop 1) = (z, m, 0)) : tkC s.data.toList = (numC (zagW z).toInt, 1 + m) := by
  rw [head_list s h]; simp only [tkC, k, e]; rfl
theorem tkC_1n {s : ByteArray} (h : 0 < s.size) (k : s[0].toNat = 1) (e : tk (s.data.toList.drop 1) = (0#64, 0, 20)) : tkC s.data.toList = (cl0, 0) := by
  rw [head_list s h]; simp only [tkC, k, e]; rfl
theorem tkC_2s {s : ByteArray} (h : 0 < s.size) (k : s[0].toNat = 2) (h1 : s.size ≤ 1) : tkC s.data.toList = (cl0, 0) := by
  have e : s.data.toList.drop 1 = [] := List.drop_of_length_le (by rw [← Lib.size_eq]; exact h1)
  rw [head_list s h, e]; simp only [tkC, k]; rfl
theorem tkC_2 {s : ByteArray} (h : 1 < s.size) (k : s[0].toNat = 2) (hm : s[1].toNat ≤ 32) (hl : 2 + s[1].toNat ≤ s.size) : tkC s.data.toList = (txtC (s.extract 2 (2 + s[1].toNat)), 2 + s[1].toNat) := by
  rw [head_list s (by omega), drop_list s h]
  simp only [tkC, k]
  rw [if_neg (by decide), if_neg (by decide), if_pos trivial, if_pos ⟨hm, by rw [List.length_drop, ← Lib.size_eq]; omega⟩]
  have e : str ((s.data.toList.drop 2).take s[1].toNat) = s.extract 2 (2 + s[1].toNat) := by
    apply ByteArray.ext
    apply Array.ext'
    rw [Lib.extract_data, Nat.add_sub_cancel_left]
    simp [str]
  rw [e]
theorem tkC_2n {s : ByteArray} (h : 1 < s.size) (k : s[0].toNat = 2) (hm : ¬ (s[1].toNat ≤ 32 ∧ 2 + s[1].toNat ≤ s.size)) : tkC s.data.toList = (cl0, 0) := by
  rw [head_list s (by omega), drop_list s h]
  simp only [tkC, k]
  rw [if_neg (by decide), if_neg (by decide), if_pos trivial, if_neg]
  rintro ⟨h1, h2⟩
  rw [List.length_drop, ← Lib.size_eq] at h2
  omega

end Go.Proofs.YtoccbfgcmaahcaaDoor
/-
  What a walk needs of the library's variables, and the library's contracts (strconv.Itoa, strconv.Atoi, strings.HasPrefix, strings.ReplaceAll) in the form in which the walks meet them.
-/
namespace Go.Proofs.YtoccbfgcmaahcaaDoor
open Go.RowKit

/-- The name of the table that Itoa reads. -/
def tabName : String := ((Rows.lexTokensRow.laid.map (·.1)).getD 2 default)
/-- What a walk needs of the library's variables. -/
structure Env (w : World) : Prop where
  tab : Lib.TabIs Tryd.prog w tabName .u64 Lib.pow10Tab
  syn : ∃ te pe, w.cell? ⟨0, 0, none⟩ = some (.iface te pe)
  rng : ∃ te pe, w.cell? ⟨1, 0, none⟩ = some (.iface te pe)
  len : ∃ m, w.cell? ⟨2, 0, none⟩ = some (.int .i64 m)
theorem Env.below {w w' : World} (h : Env w) (hb : Below w.heap.size w w') : Env w' := by
  obtain ⟨te, pe, h1⟩ := h.syn
  obtain ⟨te2, pe2, h2⟩ := h.rng
  obtain ⟨m, h3⟩ := h.len
  exact ⟨((Lib.tabBelow_of_tabIs h.tab).on hb).here, ⟨te, pe, (hb.cell (World.block_lt_of_cell? w _ h1)).trans h1⟩, ⟨te2, pe2, (hb.cell (World.block_lt_of_cell? w _ h2)).trans h2⟩, ⟨m, (hb.cell (World.block_lt_of_cell? w _ h3)).trans h3⟩⟩

theorem iface_laid {n nm : String} {d : DataW Unit} {r : List (String × DataW Unit)} {W : World} {g : Nat} {ti : TypeId} {ms : Array (String × TypeId)} (h : laidMet Tryd.prog ((n, .iface nm d) :: r) W)
    (hg : Tryd.prog.globalNamed n = some g) (ht : (Tryd.prog.globals[g]?).map (·.type) = some ti) (hi : Tryd.prog.underlying ti = some (.interface ms)) : ∃ te pe, W.cell? ⟨g, 0, none⟩ = some (.iface te pe) := by
  obtain ⟨ps, ⟨g0, t0, cs0, f0, p0, q0, hg0, ht0, hv0, hd0, _, e0⟩, _, hrows⟩ := h
  obtain rfl := Option.some.inj (hg.symm.trans hg0)
  obtain rfl := Option.some.inj (ht.symm.trans ht0)
  obtain ⟨l0⟩ := cs0
  obtain ⟨f1, u, v, hl, _⟩ := iface_of_trod hi hd0
  simp only at hl
  subst hl
  exact ⟨u, v, by simpa using World.var?_cell hg0 hv0 0⟩

/-- What a row's list, and the world's shape, give. -/
theorem env_of {W : World} (h : laidMetH Tryd.prog Rows.lexTokensRow.laid W) (hs : W.ShapedOpen Tryd.prog) : Env W := by
  rw [MakeChecks.laidMetH_plain _ _ _ (by kernel_rfl)] at h
  have h2 := h.tail.tail
  have h4 := h2.tail.tail
  have h5 := h4.tail
  refine ⟨?_, ?_, ?_, Tryd.laysM138.s1_3 W hs⟩
  · exact Lib.tabIs_of_head (k := .u64) (zs := Lib.pow10Tab) (g := 5) (by kernel_rfl) (by kernel_rfl) Tryd.underlying111 Tryd.underlying85 (by kernel_rfl) (by kernel_rfl) h2
  · exact iface_laid h5 (by kernel_rfl) (by kernel_rfl) Tryd.underlying62
  · exact iface_laid h4 (by kernel_rfl) (by kernel_rfl) Tryd.underlying62

theorem itoa_any {n : Int} (h0 : -9223372036854775808 ≤ n) (h1 : n ≤ 9223372036854775807) {w : World} (hE : Env w) :
    Calls Tryd.prog 50 #[.int .i64 n] w fun e w' => e = .returned (.string (str (Lib.itoa n))) ∧ Below w.heap.size w w' := by
  refine (Any.strconv_Itoa Tryd.laysM171 n h0 h1 w hE.tab).mono ?_
  rintro e w' ⟨rfl, k, os, rfl⟩
  exact ⟨rfl, Lib.below_grow _ _ (Nat.le_refl _) _ _⟩
theorem hasPrefix_any (s p : ByteArray) (w : World) :
    Calls Tryd.prog 26 #[.string s, .string p] w fun e w' => e = .returned (.bool (Lib.hasPrefix s.data.toList p.data.toList)) ∧ w' = w := Any.strings_HasPrefix Tryd.lays99 s p w
theorem replaceAll_any (s old new : ByteArray) {w : World} (hE : Env w) (hs : s.size < 4294967281) (h1 : 1 ≤ old.size) (hlen : s.size + Lib.countB s old * new.size ≤ 140737488355328) :
    Calls Tryd.prog 48 #[.string s, .string old, .string new] w fun e w' => e = .returned (.string (str (Lib.replaceAll s.data.toList old.data.toList new.data.toList))) ∧ Below w.heap.size w w' := by
  obtain ⟨m, hm⟩ := hE.len
  exact Any.strings_ReplaceAll Tryd.lays155 Tryd.Builder_Extra_155 s old new m w hs hm h1 hlen
/-- Atoi: a number and no error, or some error. -/
theorem atoi_any (s : ByteArray) (hs : s.size ≤ 281474976710656) {w : World} (hE : Env w) :
    Calls Tryd.prog 45 #[.string s] w fun e w' => Below w.heap.size w w' ∧ ((∃ v, Lib.atoiAll s.data.toList = .ok v ∧ e = .returned (.tuple #[.int .i64 v, .nilIface])) ∨ ((∀ v, Lib.atoiAll s.data.toList ≠ .ok v) ∧ ∃ x t p, e = .returned (.tuple #[.int .i64 x, .iface t (.pointer (some p))]))) := by
  obtain ⟨te, pe, hsy⟩ := hE.syn
  obtain ⟨te2, pe2, hrg⟩ := hE.rng
  cases h : Lib.atoiAll s.data.toList with
  | ok v =>
    refine (Any.strconv_Atoi_ok Tryd.laysC172 s (by omega) v h w).mono ?_
    rintro e w' ⟨rfl, hw⟩
    refine ⟨?_, .inl ⟨v, rfl, rfl⟩⟩
    rcases hw with rfl | ⟨t, rfl⟩
    · exact Below.refl _ _
    · exact Lib.bytesWorld_below _ _ _
  | range =>
    refine (Any.strconv_Atoi_range Tryd.laysC172 s hs h _ w hrg (.inr ⟨te2, pe2, rfl⟩)).mono ?_
    rintro e w' ⟨N, rfl, _, _, hb⟩
    exact ⟨hb, .inr ⟨fun v h => (by cases h), _, _, _, rfl⟩⟩
  | _ =>
    refine (Any.strconv_Atoi_syntax Tryd.laysC172 s hs h _ w hsy (.inr ⟨te, pe, rfl⟩)).mono ?_
    rintro e w' ⟨N, rfl, _, _, hb⟩
    exact ⟨hb, .inr ⟨fun v h => (by cases h), _, _, _, rfl⟩⟩
end Go.Proofs.YtoccbfgcmaahcaaDoor
/-
  Cells as text: what is shown, and what is read: no program is spoken of.
-/
namespace Go.Proofs.YtoccbfgcmaahcaaDoor
open Go.RowKit Go.Lib

/-- Each quote twice. -/
def dbl (l : List UInt8) : List UInt8 := l.flatMap fun b => if b = 39 then [39, 39] else [b]
/-- A cell as it is written. -/
def showL (c : Cl) : List UInt8 := if c.k = 0 then [110, 117, 108, 108] else if c.k = 1 then itoa c.n else if c.k = 2 then 39 :: (dbl c.s.data.toList ++ [39]) else [63]

section
variable {old new : List UInt8}
theorem rep_nil (ho : old ≠ []) : replaceAll [] old new = [] := by
  have hi : index [] old = -1 := by
    unfold index
    rw [if_neg]
    simpa using ho
  unfold replaceAll replace replaceNum
  rw [count_miss hi]
  split
  · rfl
  · rfl
theorem rep_hit (ho : old ≠ []) (hn : old ≠ new) (l : List UInt8) : replaceAll (old ++ l) old new = new ++ replaceAll l old new := by
  have hi : index (old ++ l) old = (0 : Nat) := by
    have hp : old.isPrefixOf (old ++ l) = true := by rw [List.isPrefixOf_iff_prefix]; exact List.prefix_append _ _
    cases h : old ++ l with
    | nil => rw [List.append_eq_nil_iff] at h; exact absurd h.1 ho
    | cons a b => rw [h] at hp; unfold index; rw [if_pos hp]; rfl
  have hc := count_hit ho hi
  rw [Nat.zero_add, List.drop_left] at hc
  have hne : ¬ (old == new) = true := by simpa using hn
  have e1 : replaceAll (old ++ l) old new = replaceK old new (count (old ++ l) old) (old ++ l) := by
    unfold replaceAll replace replaceNum; rw [if_neg hne, if_pos (.inl (by decide))]
  have e2 : replaceAll l old new = replaceK old new (count l old) l := by
    unfold replaceAll replace replaceNum; rw [if_neg hne, if_pos (.inl (by decide))]
  rw [e1, e2, hc, Nat.add_comm 1, replaceK_hit old new _ _ 0 hi, Nat.zero_add, List.drop_left]
  simp
theorem rep_skip (ho : old ≠ []) (hn : old ≠ new) (b : UInt8) (l : List UInt8) (hp : old.isPrefixOf (b :: l) = false) : replaceAll (b :: l) old new = b :: replaceAll l old new := by
  have hne : ¬ (old == new) = true := by simpa using hn
  have e1 : replaceAll (b :: l) old new = replaceK old new (count (b :: l) old) (b :: l) := by
    unfold replaceAll replace replaceNum; rw [if_neg hne, if_pos (.inl (by decide))]
  have e2 : replaceAll l old new = replaceK old new (count l old) l := by
    unfold replaceAll replace replaceNum; rw [if_neg hne, if_pos (.inl (by decide))]
  have hi : index (b :: l) old = if index l old == -1 then -1 else index l old + 1 := by
    conv => lhs; unfold index
    rw [if_neg (by rw [hp]; simp)]
  rw [e1, e2]
  by_cases h : index l old = -1
  · have h' : index (b :: l) old = -1 := by rw [hi, h]; rfl
    rw [count_miss h, count_miss h']
    rfl
  · have hge := index_ge l old
    obtain ⟨i, hii⟩ : ∃ i : Nat, index l old = i := ⟨(index l old).toNat, by omega⟩
    have h' : index (b :: l) old = ((i + 1 : Nat) : Int) := by
      rw [hi, hii, if_neg]
      · omega
      · simp
    have c1 := count_hit ho hii
    have c2 := count_hit ho h'
    rw [show i + 1 + old.length = (i + old.length) + 1 by omega, List.drop_succ_cons] at c2
    rw [c1, c2, Nat.add_comm 1, replaceK_hit old new _ _ (i + 1) h', replaceK_hit old new _ _ i hii, show i + 1 + old.length = (i + old.length) + 1 by omega, List.drop_succ_cons]
    rfl
end
theorem rep_dbl : ∀ l : List UInt8, replaceAll l [39] [39, 39] = dbl l
  | [] => rep_nil (by simp)
  | b :: l => by
    have ih := rep_dbl l
    by_cases h : b = 39
    · subst h
      have := rep_hit (old := [39]) (new := [39, 39]) (by simp) (by simp) l
      rw [List.singleton_append] at this
      rw [this, ih]
      simp [dbl]
    · rw [rep_skip (by simp) (by simp) b l (by simp [List.isPrefixOf]; exact fun e => h e.symm), ih]
      simp [dbl, h]
theorem rep_back : ∀ l : List UInt8, replaceAll (dbl l) [39, 39] [39] = l
  | [] => rep_nil (by simp)
  | b :: l => by
    have ih := rep_back l
    by_cases h : b = 39
    · subst h
      have e : dbl (39 :: l) = [39, 39] ++ dbl l := by simp [dbl]
      rw [e, rep_hit (by simp) (by simp), ih]
      rfl
    · have e : dbl (b :: l) = b :: dbl l := by simp [dbl, h]
      rw [e, rep_skip (by simp) (by simp) b (dbl l) (by simp [List.isPrefixOf]; exact fun e => absurd e.symm h), ih]

theorem parse_append (r : List UInt8) : ∀ (l : List UInt8) (acc a : Nat), parseUint10 acc l = .ok a → parseUint10 acc (l ++ r) = parseUint10 a r
  | [], acc, a, h => by
    simp only [parseUint10] at h
    injection h with h
    subst h
    rfl
  | c :: l, acc, a, h => by
    simp only [parseUint10] at h
    rw [List.cons_append]
    simp only [parseUint10]
    split at h
    · rw [if_pos ‹_›]
      split at h
      · cases h
      · rw [if_neg ‹_›]
        split at h
        · cases h
        · rw [if_neg ‹_›]
          exact parse_append r l _ a h
    · cases h
theorem digit_nat {d : Nat} (h : d < 10) : (UInt8.ofNat (48 + d)).toNat = 48 + d := by
  rw [UInt8.toNat_ofNat', Nat.mod_eq_of_lt (by omega)]
theorem parse_digits (u : Nat) (h : u < 18446744073709551616) : parseUint10 0 (decDigits u) = .ok u := by
  induction u using Nat.strongRecOn with
  | _ u ih =>
    by_cases hs : u < 10
    · rw [decDigits_one hs]
      simp only [parseUint10]
      rw [digit_nat hs, if_pos (by omega), if_neg (by omega), if_neg (by omega)]
      congr 1
      omega
    · rw [decDigits, dif_neg hs, parse_append _ _ _ _ (ih (u / 10) (by omega) (by omega))]
      simp only [parseUint10]
      rw [digit_nat (Nat.mod_lt _ (by decide)), if_pos (by omega), if_neg (by omega), if_neg (by omega)]
      congr 1
      omega
theorem digits_head (u : Nat) : ∃ d r, d < 10 ∧ decDigits u = UInt8.ofNat (48 + d) :: r := by
  induction u using Nat.strongRecOn with
  | _ u ih =>
    by_cases hs : u < 10
    · exact ⟨u, [], hs, decDigits_one hs⟩
    · obtain ⟨d, r, hd, e⟩ := ih (u / 10) (by omega)
      refine ⟨d, r ++ [UInt8.ofNat (48 + u % 10)], hd, ?_⟩
      rw [decDigits, dif_neg hs, e]
      rfl
theorem atoi_itoa {n : Int} (h0 : -9223372036854775808 ≤ n) (h1 : n ≤ 9223372036854775807) : atoiAll (itoa n) = .ok n := by
  by_cases hneg : n < 0
  · obtain ⟨u, rfl⟩ : ∃ u : Nat, n = -(u : Int) := ⟨n.natAbs, by omega⟩
    obtain ⟨d, r, hd, e⟩ := digits_head u
    have hp := parse_digits u (by omega)
    rw [itoa_neg u (by omega)]
    have hm : parseMag (decDigits u) = .ok u := by
      unfold parseMag
      rw [if_neg (by rw [e]; simp), hp]
    simp only [atoiAll]
    rw [if_pos (.inr rfl), hm]
    simp only
    rw [if_neg (by simp), if_neg (by omega)]
    rfl
  · obtain ⟨u, rfl⟩ : ∃ u : Nat, n = (u : Int) := ⟨n.toNat, by omega⟩
    obtain ⟨d, r, hd, e⟩ := digits_head u
    have hp := parse_digits u (by omega)
    rw [itoa_nonneg]
    have hm : parseMag (decDigits u) = .ok u := by
      unfold parseMag
      rw [if_neg (by rw [e]; simp), hp]
    rw [e] at hm ⊢
    have hd' := digit_nat hd
    simp only [atoiAll]
    rw [if_neg (by omega), hm]
    simp only
    rw [if_neg (by omega), if_neg (by omega), if_neg (by omega)]
theorem atoi_quote (r : List UInt8) (v : Int) : atoiAll (39 :: r) ≠ .ok v := by
  simp only [atoiAll]
  rw [if_neg (by decide)]
  unfold parseMag
  rw [if_neg (by simp)]
  simp only [parseUint10]
  rw [if_neg (by decide)]
  intro h
  cases h

/-- The cell that is written, if any is. -/
def guessC (l : List UInt8) : Cl :=
  match atoiAll l with
  | .ok v => numC v
  | _ => if 2 ≤ l.length ∧ l.head? = some 39 then txtC (str (replaceAll ((l.drop 1).take (l.length - 2)) [39, 39] [39])) else cl0
theorem guess_ok {l : List UInt8} {v : Int} (h : atoiAll l = .ok v) : guessC l = numC v := by
  unfold guessC; rw [h]
theorem guess_txt {l : List UInt8} (h : ∀ v, atoiAll l ≠ .ok v) (h2 : 2 ≤ l.length) (h3 : l.head? = some 39) : guessC l = txtC (str (replaceAll ((l.drop 1).take (l.length - 2)) [39, 39] [39])) := by
  unfold guessC
  split
  · exact absurd ‹_› (h _)
  · rw [if_pos ⟨h2, h3⟩]
theorem guess_not {l : List UInt8} (h : ∀ v, atoiAll l ≠ .ok v) (h2 : ¬ (2 ≤ l.length ∧ l.head? = some 39)) : guessC l = cl0 := by
  unfold guessC
  split
  · exact absurd ‹_› (h _)
  · rw [if_neg h2]
theorem guess_range (l : List UInt8) : okC (guessC l) := by
  unfold guessC okC
  split
  · rename_i v h
    have := atoiAll_bounds h
    simp only [numC]
    omega
  · split
    · simp [txtC]
    · simp [cl0]
theorem empty_of {s : ByteArray} (h : s.size = 0) : s = ⟨#[]⟩ := by
  apply ByteArray.ext
  exact Array.eq_empty_of_size_eq_zero h
/-- What is shown is guessed as it was. -/
theorem guess_show {c : Cl} (hm : mayC c = true) (hok : okC c) : guessC (showL c) = c := by
  obtain ⟨k, n, s⟩ := c
  rcases may_kind hm with ⟨h1, h2, h3⟩ | ⟨h1, h2⟩ | ⟨h1, h2, h3⟩
  · simp only at h1 h2 h3
    subst h1 h2
    rw [empty_of h3]
    have e : showL ⟨0, 0, ⟨#[]⟩⟩ = [110, 117, 108, 108] := rfl
    rw [e, guess_not (fun v h => by simp [atoiAll, parseMag, parseUint10] at h) (by decide)]
    rfl
  · simp only at h1 h2
    subst h1
    rw [empty_of h2]
    have e : showL ⟨1, n, ⟨#[]⟩⟩ = itoa n := by simp [showL]
    rw [e, guess_ok (atoi_itoa hok.1 hok.2)]
    rfl
  · simp only at h1 h2 h3
    subst h1 h2
    have e : showL ⟨2, 0, s⟩ = 39 :: (dbl s.data.toList ++ [39]) := by simp [showL]
    rw [e, guess_txt (atoi_quote _) (by simp) rfl]
    have e2 : ((39 :: (dbl s.data.toList ++ [39])).drop 1).take ((39 :: (dbl s.data.toList ++ [39])).length - 2) = dbl s.data.toList := by
      simp
    rw [e2, rep_back]
    have e3 : str s.data.toList = s := by
      apply ByteArray.ext
      simp [str]
    rw [e3]
    rfl
/-- The cell of what is written. -/
def readC (l : List UInt8) : Option Cl := if (mayC (guessC l) && (showL (guessC l) == l)) = true then some (guessC l) else none
theorem read_iff (l : List UInt8) (c : Cl) : readC l = some c ↔ mayC c = true ∧ okC c ∧ showL c = l := by
  constructor
  · intro h
    unfold readC at h
    split at h
    · rename_i hx
      obtain rfl := Option.some.inj h
      simp only [Bool.and_eq_true, beq_iff_eq] at hx
      exact ⟨hx.1, guess_range l, hx.2⟩
    · cases h
  · rintro ⟨h1, h2, rfl⟩
    have e := guess_show h1 h2
    unfold readC
    rw [e, h1]
    simp
theorem read_none {l : List UInt8} (h : ∀ c, mayC c = true → okC c → showL c ≠ l) : readC l = none := by
  cases hx : readC l with
  | none => rfl
  | some c =>
    obtain ⟨h1, h2, h3⟩ := (read_iff l c).1 hx
    exact absurd h3 (h c h1 h2)
/-- What Read answers. -/
def readA (l : List UInt8) : Cl × Int := match readC l with
  | some c => (c, 0)
  | none => (cl0, 20)
theorem showL_len {c : Cl} (hok : okC c) : (showL c).length ≤ 2 * c.s.size + 21 := by
  have hd : ∀ l : List UInt8, (dbl l).length ≤ 2 * l.length := by
    intro l
    induction l with
    | nil => simp [dbl]
    | cons b l ih =>
      have e : dbl (b :: l) = (if b = 39 then [39, 39] else [b]) ++ dbl l := by simp [dbl]
      rw [e, List.length_append, List.length_cons]
      split <;> simp <;> omega
  unfold showL
  split
  · simp
  · split
    · have := itoa_length_le c.n hok.1 hok.2
      omega
    · split
      · have := hd c.s.data.toList
        have h2 := Lib.size_eq c.s
        simp only [List.length_cons, List.length_append, List.length_nil]
        omega
      · simp
end Go.Proofs.YtoccbfgcmaahcaaDoor
/-
  The contracts of package cell's Show, guess and Read.
-/
namespace Go.Proofs.YtoccbfgcmaahcaaDoor
open Go.RowKit

theorem dbl_len (l : List UInt8) : (dbl l).length ≤ 2 * l.length := by
  induction l with
  | nil => simp [dbl]
  | cons b l ih =>
    have e : dbl (b :: l) = (if b = 39 then [39, 39] else [b]) ++ dbl l := by simp [dbl]
    rw [e, List.length_append, List.length_cons]
    split <;> simp <;> omega
theorem dbl_any (s : ByteArray) {w : World} (hE : Env w) (hs : s.size ≤ 100000) :
    Calls Tryd.prog 48 #[.string s, .string ⟨#[39]⟩, .string ⟨#[39, 39]⟩] w fun e w' => e = .returned (.string (str (dbl s.data.toList))) ∧ Below w.heap.size w w' := by
  have hc := Lib.countB_le ⟨#[39]⟩ (by decide) s.size s (Nat.le_refl _)
  have h2 : (⟨#[39, 39]⟩ : ByteArray).size = 2 := rfl
  have := replaceAll_any s ⟨#[39]⟩ ⟨#[39, 39]⟩ hE (by omega) (by decide) (by rw [h2]; omega)
  rw [← rep_dbl]
  exact this
theorem back_any (s : ByteArray) {w : World} (hE : Env w) (hs : s.size ≤ 100000) :
    Calls Tryd.prog 48 #[.string s, .string ⟨#[39, 39]⟩, .string ⟨#[39]⟩] w fun e w' => e = .returned (.string (str (Lib.replaceAll s.data.toList [39, 39] [39]))) ∧ Below w.heap.size w w' := by
  have hc := Lib.countB_le ⟨#[39, 39]⟩ (by decide) s.size s (Nat.le_refl _)
  have h2 : (⟨#[39]⟩ : ByteArray).size = 1 := rfl
  exact replaceAll_any s ⟨#[39, 39]⟩ ⟨#[39]⟩ hE (by omega) (by decide) (by rw [h2]; omega)
theorem quote_str (t : List UInt8) : (⟨#[39]⟩ : ByteArray) ++ str t ++ ⟨#[39]⟩ = str (39 :: (t ++ [39])) := by
  apply ByteArray.ext
  simp [str]

set_option maxHeartbeats 1000000 in
set_option maxRecDepth 4000 in
theorem show_any (c : Cl) {w : World} (hE : Env w) (hok : okC c) (hs : c.s.size ≤ 100000) :
    Calls Tryd.prog 41 #[cv c] w fun e w' => e = .returned (.string (str (showL c))) ∧ Below w.heap.size w w' := by
  obtain ⟨k, n, s⟩ := c
  simp only [cv]
  simp only at hs
  have HE : Hid (Env (w.alloc (.cells #[.int .i64 k, .int .i64 n, .string s] 42))) := hE.below (below1 _ _)
  clear hE
  by_cases h0 : k = 0
  · subst h0
    have HR : Hid (showL ⟨0, n, s⟩ = [110, 117, 108, 108]) := by unfold Hid showL; rfl
    go_enter Tryd.func41, Tryd.ntmps41
    go_wp2_with fail
    go_ret
    exact ⟨retS (by rw [HR.out]; rfl), below1 _ _⟩
  · by_cases h1 : k = 1
    · subst h1
      have HR : Hid (showL ⟨1, n, s⟩ = Lib.itoa n) := by unfold Hid showL; rfl
      have HI : Hid (okC ⟨1, n, s⟩) := hok
      clear h0 hok
      go_enter Tryd.func41, Tryd.ntmps41
      go_wp2_with (go_at_call 50; refine (itoa_any HI.out.1 HI.out.2 HE.out).mono ?_; rintro e w1 ⟨rfl, hb1⟩)
      go_ret
      exact ⟨retS (by rw [HR.out]), (below1 _ _).trans (hb1.mono (by simp))⟩
    · by_cases h2 : k = 2
      · subst h2
        have HR : Hid (showL ⟨2, n, s⟩ = 39 :: (dbl s.data.toList ++ [39])) := by unfold Hid showL; rfl
        obtain ⟨t, ht⟩ : ∃ t, t = str (dbl s.data.toList) := ⟨_, rfl⟩
        have hrp := dbl_any s HE.out hs
        rw [← ht] at hrp
        have hts : (t.size : Int) ≤ 200000 := by
          rw [ht, str_size]
          have := dbl_len s.data.toList
          have h3 := Lib.size_eq s
          omega
        have HT : Hid (t = str (dbl s.data.toList)) := ht
        clear h0 h1 hok ht
        go_enter Tryd.func41, Tryd.ntmps41
        go_wp2_with (go_at_call 48; refine hrp.mono ?_; rintro e w1 ⟨rfl, hb1⟩)
        go_ret
        exact ⟨retS (by rw [HR.out, HT.out]; exact (quote_str _).symm), (below1 _ _).trans (hb1.mono (by simp))⟩
      · have HR : Hid (showL ⟨k, n, s⟩ = [63]) := by unfold Hid showL; simp [h0, h1, h2]
        have b0 : (k == 0) = false := by simpa using h0
        have b1 : (k == 1) = false := by simpa using h1
        have b2 : (k == 2) = false := by simpa using h2
        clear h0 h1 h2 hok
        go_enter Tryd.func41, Tryd.ntmps41
        go_wp2_with fail
        go_ret
        exact ⟨retS (by rw [HR.out]; rfl), below1 _ _⟩

theorem prefix_quote (l : List UInt8) : Lib.hasPrefix l [39] = decide (l.head? = some 39) := by
  cases l with
  | nil => rfl
  | cons a b =>
    rw [Bool.eq_iff_iff]
    simp [Lib.hasPrefix, List.isPrefixOf]
    exact eq_comm

set_option maxHeartbeats 1000000 in
set_option maxRecDepth 4000 in
theorem guess_any (s : ByteArray) {w : World} (hE : Env w) (hs : s.size ≤ 100000) :
    Calls Tryd.prog 39 #[.string s] w fun e w' => e = .returned (cv (guessC s.data.toList)) ∧ Below w.heap.size w w' := by
  have hsl := Lib.size_eq s
  have HE : Hid (Env (w.alloc (.cells #[.int .i64 0, .int .i64 0, .string ⟨#[]⟩] 42))) := hE.below (below1 _ _)
  have bx0 := box_new w #[.int .i64 0, .int .i64 0, .string ⟨#[]⟩] 42
  have HA : Hid (s.size ≤ 281474976710656) := by unfold Hid; omega
  have hpf : ∀ w, Calls Tryd.prog 26 #[.string s, .string ⟨#[39]⟩] w fun e w' => e = .returned (.bool (decide (s.data.toList.head? = some 39))) ∧ w' = w := fun w => by
    have := hasPrefix_any s ⟨#[39]⟩ w
    rw [prefix_quote] at this
    exact this
  obtain ⟨q, hq⟩ : ∃ q, q = decide (s.data.toList.head? = some 39) := ⟨_, rfl⟩
  rw [← hq] at hpf
  clear hE
  go_enter Tryd.func39, Tryd.ntmps39
  go_wp2_with fail
  refine (atoi_any s HA.out HE.out).mono ?_
  rintro e w1 ⟨hb1, ⟨v, hv, rfl⟩ | ⟨hv, x, t, p, rfl⟩⟩
  · have HR : Hid (guessC s.data.toList = numC v) := guess_ok hv
    have bx1 := bx0.over hb1
    have HB1 : Hid (Below w.heap.size w w1) := (below1 _ _).trans (hb1.mono (by simp))
    clear hb1 hv hsl
    go_wp2_with (first
      | (go_at_call 46; refine (number_any _ _).mono ?_; rintro e w2 ⟨rfl, hb2⟩; have bx2 := bx1.over hb2; have HB2 : Hid (Below w.heap.size w w2) := HB1.out.trans (hb2.mono HB1.out.size); clear hb2; have F2 := bx2.setRow (ca (numC v)); have hone := ca_one (numC v))
      | (refine wpList_store_row rfl 42 _ _ rfl w.heap.size (ca (numC v)) rfl rfl 42 _ bx2 size_cell rfl hone ?_))
    rw [HR.out]
    exact bodyPost_ret (res_box Tryd.results39 _ rfl F2 Tryd.underlying42 rfl size_cell) rfl ⟨rfl, below_setRow HB2.out (Nat.le_refl _) _⟩
  · have bx1 := bx0.over hb1
    have HB1 : Hid (Below w.heap.size w w1) := (below1 _ _).trans (hb1.mono (by simp))
    have HE1 : Hid (Env w1) := HE.out.below hb1
    clear hb1
    by_cases h2 : 2 ≤ s.size
    · have h2I : (2 : Int) ≤ (s.size : Int) := by omega
      cases q with
      | true =>
        have hq' : s.data.toList.head? = some 39 := by simpa using hq.symm
        have e1 : (s.extract 1 (s.size - 1)).data.toList = (s.data.toList.drop 1).take (s.data.toList.length - 2) := by
          rw [Lib.extract_data, ← hsl]
          congr 1
        have hrp := back_any (s.extract 1 (s.size - 1)) HE1.out (by rw [Lib.size_eq, e1, List.length_take]; omega)
        rw [e1] at hrp
        have HR : Hid (guessC s.data.toList = txtC (str (Lib.replaceAll ((s.data.toList.drop 1).take (s.data.toList.length - 2)) [39, 39] [39]))) := guess_txt hv (by omega) hq'
        obtain ⟨u, hu⟩ : ∃ u, u = str (Lib.replaceAll ((s.data.toList.drop 1).take (s.data.toList.length - 2)) [39, 39] [39]) := ⟨_, rfl⟩
        rw [← hu] at hrp HR
        have hw1 : wrap64 ((s.size : Int) - 1) = (s.size : Int) - 1 := by unfold wrap64; omega
        have hw2 : ((s.size : Int) - 1).toNat = s.size - 1 := by omega
        have o3 : (0 : Int) ≤ (s.size : Int) - 1 ∧ (s.size : Int) - 1 ≤ (s.size : Int) := by omega
        have o4 : (1 : Int) ≤ (s.size : Int) - 1 := by omega
        clear hq hq' hu e1 hv hsl h2
        go_wp2_with (first
          | (go_at_call 26; refine (hpf _).mono ?_; rintro e w2 ⟨rfl, hw⟩; replace hw := hw.symm; subst hw)
          | (go_at_call 48; refine hrp.mono ?_; rintro e w3 ⟨rfl, hb3⟩; have bx3 := bx1.over hb3; have HB3 : Hid (Below w.heap.size w w3) := HB1.out.trans (hb3.mono HB1.out.size); clear hb3)
          | (go_at_call 47; refine (text_any u _).mono ?_; rintro e w4 ⟨rfl, hb4⟩; have bx4 := bx3.over hb4; have HB4 : Hid (Below w.heap.size w w4) := HB3.out.trans (hb4.mono HB3.out.size); clear hb4; have F4 := bx4.setRow (ca (txtC u)); have hone := ca_one (txtC u))
          | (refine wpList_store_row rfl 42 _ _ rfl w.heap.size (ca (txtC u)) rfl rfl 42 _ bx4 size_cell rfl hone ?_))
        rw [HR.out]
        exact bodyPost_ret (res_box Tryd.results39 _ rfl F4 Tryd.underlying42 rfl size_cell) rfl ⟨rfl, below_setRow HB4.out (Nat.le_refl _) _⟩
      | false =>
        have hq' : ¬ s.data.toList.head? = some 39 := by simpa using hq.symm
        have HR : Hid (guessC s.data.toList = cl0) := guess_not hv fun h => hq' h.2
        have F4 := bx1.setRow (ca cl0)
        have hone := ca_one cl0
        clear hq hq' hv hsl h2
        go_wp2_with (first
          | (go_at_call 26; refine (hpf _).mono ?_; rintro e w2 ⟨rfl, hw⟩; replace hw := hw.symm; subst hw)
          | (refine wpList_store_row rfl 42 _ _ rfl w.heap.size (ca cl0) rfl rfl 42 _ bx1 size_cell rfl hone ?_))
        rw [HR.out]
        exact bodyPost_ret (res_box Tryd.results39 _ rfl F4 Tryd.underlying42 rfl size_cell) rfl ⟨rfl, below_setRow HB1.out (Nat.le_refl _) _⟩
    · have h2I : ¬ (2 : Int) ≤ (s.size : Int) := by omega
      have HR : Hid (guessC s.data.toList = cl0) := guess_not hv fun h => by omega
      have F4 := bx1.setRow (ca cl0)
      have hone := ca_one cl0
      clear hq hv hsl h2
      go_wp2_with (refine wpList_store_row rfl 42 _ _ rfl w.heap.size (ca cl0) rfl rfl 42 _ bx1 size_cell rfl hone ?_)
      rw [HR.out]
      exact bodyPost_ret (res_box Tryd.results39 _ rfl F4 Tryd.underlying42 rfl size_cell) rfl ⟨rfl, below_setRow HB1.out (Nat.le_refl _) _⟩

theorem readA_yes {l : List UInt8} (h1 : mayC (guessC l) = true) (h2 : showL (guessC l) = l) : readA l = (guessC l, 0) := by
  unfold readA readC
  rw [if_pos (by rw [h1, h2]; simp)]
theorem readA_no {l : List UInt8} (h : ¬ (mayC (guessC l) = true ∧ showL (guessC l) = l)) : readA l = (cl0, 20) := by
  unfold readA readC
  rw [if_neg (by simpa using h)]
theorem guess_size (l : List UInt8) (h : mayC (guessC l) = true) : (guessC l).s.size ≤ 32 := by
  rcases may_kind h with ⟨_, _, h3⟩ | ⟨_, h3⟩ | ⟨_, _, h3⟩ <;> omega

set_option maxHeartbeats 1000000 in
set_option maxRecDepth 4000 in
theorem read_any (s : ByteArray) {w : World} (hE : Env w) (hs : s.size ≤ 100000) :
    Calls Tryd.prog 34 #[.string s] w fun e w' => e = .returned (.tuple #[cv (readA s.data.toList).1, .int .i64 (readA s.data.toList).2]) ∧ Below w.heap.size w w' := by
  have HE : Hid (Env (w.alloc (.cells #[.int .i64 0, .int .i64 0, .string ⟨#[]⟩] 42))) := hE.below (below1 _ _)
  have bx0 := box_new w #[.int .i64 0, .int .i64 0, .string ⟨#[]⟩] 42
  have hgs := guess_any s HE.out hs
  obtain ⟨c, hc⟩ : ∃ c, c = guessC s.data.toList := ⟨_, rfl⟩
  rw [← hc] at hgs
  have hck : ∀ w, Calls Tryd.prog 40 #[cv c] w fun e w' => e = .returned (.int .i64 (errC c)) ∧ Below w.heap.size w w' := fun w => check_any c w
  clear hE
  cases hm : mayC c with
  | true =>
    have e0 : errC c = 0 := by unfold errC; rw [if_pos hm]
    rw [e0] at hck
    have hsh : ∀ w, Env w → Calls Tryd.prog 41 #[cv c] w fun e w' => e = .returned (.string (str (showL c))) ∧ Below w.heap.size w w' := fun w h => show_any c h (by rw [hc]; exact guess_range _) (by rw [hc] at hm ⊢; have := guess_size _ hm; omega)
    obtain ⟨t, ht⟩ : ∃ t, t = str (showL c) := ⟨_, rfl⟩
    rw [← ht] at hsh
    by_cases heq : showL c = s.data.toList
    · have hb : (t.toList == s.toList) = true := by rw [beq_iff_eq, ht, toList_str, heq, Lib.toList_data]
      have HR : Hid (readA s.data.toList = (c, 0)) := by
        unfold Hid
        rw [hc] at hm heq ⊢
        exact readA_yes hm heq
      clear hc hm e0 ht heq
      go_enter Tryd.func34, Tryd.ntmps34
      go_wp2_with (first
        | (go_at_call 39; refine hgs.mono ?_; rintro e w1 ⟨rfl, hb1⟩; have bx1 := bx0.over hb1; have hB1 : Below w.heap.size w w1 := (below1 _ _).trans (hb1.mono (by simp)); have HE1 : Hid (Env w1) := HE.out.below hb1; clear hb1)
        | (go_at_call 40; refine (hck _).mono ?_; rintro e w2 ⟨rfl, hb2⟩; have hb2' := (below1 w1 (.cells #[.int .i64 c.k, .int .i64 c.n, .string c.s] 42)).trans (hb2.mono (by simp)); have bx2 := bx1.over hb2'; have cx2 := (box_new w1 #[.int .i64 c.k, .int .i64 c.n, .string c.s] 42).over hb2; have q0 := cx2.cell 0 _ rfl; have q1 := cx2.cell 1 _ rfl; have q2 := cx2.cell 2 _ rfl; have HB2 : Hid (Below w.heap.size w w2) := hB1.trans (hb2'.mono hB1.size); have HE2 : Hid (Env w2) := HE1.out.below hb2'; clear hb2 hb2')
        | (go_at_call 41; refine (hsh _ HE2.out).mono ?_; rintro e w3 ⟨rfl, hb3⟩; have bx3 := bx2.over hb3; have cx3 := cx2.over hb3; have r0 := cx3.cell 0 _ rfl; have r1 := cx3.cell 1 _ rfl; have r2 := cx3.cell 2 _ rfl; have HB3 : Hid (Below w.heap.size w w3) := HB2.out.trans (hb3.mono HB2.out.size); clear hb3; have F3 := bx3.setRow (ca c); have hone := ca_one c)
        | (refine wpList_store_row rfl 42 _ _ rfl w.heap.size (ca c) rfl rfl 42 _ bx3 size_cell rfl hone ?_))
      rw [HR.out]
      exact bodyPost_ret (res_box_slot Tryd.results34 _ rfl F3 Tryd.underlying42 rfl size_cell (.int .i64 0) rfl) rfl ⟨rfl, below_setRow HB3.out (Nat.le_refl _) _⟩
    · have hb : (t.toList == s.toList) = false := by
        rw [beq_eq_false_iff_ne, ht, toList_str, Lib.toList_data]; exact heq
      have HR : Hid (readA s.data.toList = (cl0, 20)) := by
        unfold Hid
        rw [hc] at heq
        exact readA_no fun h => heq h.2
      clear hc hm e0 ht heq
      go_enter Tryd.func34, Tryd.ntmps34
      go_wp2_with (first
        | (go_at_call 39; refine hgs.mono ?_; rintro e w1 ⟨rfl, hb1⟩; have bx1 := bx0.over hb1; have hB1 : Below w.heap.size w w1 := (below1 _ _).trans (hb1.mono (by simp)); have HE1 : Hid (Env w1) := HE.out.below hb1; clear hb1)
        | (go_at_call 40; refine (hck _).mono ?_; rintro e w2 ⟨rfl, hb2⟩; have hb2' := (below1 w1 (.cells #[.int .i64 c.k, .int .i64 c.n, .string c.s] 42)).trans (hb2.mono (by simp)); have bx2 := bx1.over hb2'; have cx2 := (box_new w1 #[.int .i64 c.k, .int .i64 c.n, .string c.s] 42).over hb2; have q0 := cx2.cell 0 _ rfl; have q1 := cx2.cell 1 _ rfl; have q2 := cx2.cell 2 _ rfl; have HB2 : Hid (Below w.heap.size w w2) := hB1.trans (hb2'.mono hB1.size); have HE2 : Hid (Env w2) := HE1.out.below hb2'; clear hb2 hb2')
        | (go_at_call 41; refine (hsh _ HE2.out).mono ?_; rintro e w3 ⟨rfl, hb3⟩; have bx3 := bx2.over hb3; have cx3 := cx2.over hb3; have r0 := cx3.cell 0 _ rfl; have r1 := cx3.cell 1 _ rfl; have r2 := cx3.cell 2 _ rfl; have HB3 : Hid (Below w.heap.size w w3) := HB2.out.trans (hb3.mono HB2.out.size); clear hb3; have F3 := bx3.setRow (ca cl0); have hone := ca_one cl0)
        | (refine wpList_store_row rfl 42 _ _ rfl w.heap.size (ca cl0) rfl rfl 42 _ bx3 size_cell rfl hone ?_))
      rw [HR.out]
      exact bodyPost_ret (res_box_slot Tryd.results34 _ rfl F3 Tryd.underlying42 rfl size_cell (.int .i64 20) rfl) rfl ⟨rfl, below_setRow HB3.out (Nat.le_refl _) _⟩
  | false =>
    have e0 : errC c = 1 := by unfold errC; rw [if_neg (by rw [hm]; simp)]
    rw [e0] at hck
    have HR : Hid (readA s.data.toList = (cl0, 20)) := by
      unfold Hid
      rw [hc] at hm
      exact readA_no fun h => by rw [hm] at h; exact absurd h.1 (by simp)
    clear hc hm e0
    go_enter Tryd.func34, Tryd.ntmps34
    go_wp2_with (first
      | (go_at_call 39; refine hgs.mono ?_; rintro e w1 ⟨rfl, hb1⟩; have bx1 := bx0.over hb1; have hB1 : Below w.heap.size w w1 := (below1 _ _).trans (hb1.mono (by simp)); clear hb1)
      | (go_at_call 40; refine (hck _).mono ?_; rintro e w2 ⟨rfl, hb2⟩; have hb2' := (below1 w1 (.cells #[.int .i64 c.k, .int .i64 c.n, .string c.s] 42)).trans (hb2.mono (by simp)); have bx2 := bx1.over hb2'; have HB2 : Hid (Below w.heap.size w w2) := hB1.trans (hb2'.mono hB1.size); clear hb2 hb2'; have F2 := bx2.setRow (ca cl0); have hone := ca_one cl0)
      | (refine wpList_store_row rfl 42 _ _ rfl w.heap.size (ca cl0) rfl rfl 42 _ bx2 size_cell rfl hone ?_))
    rw [HR.out]
    exact bodyPost_ret (res_box_slot Tryd.results34 _ rfl F2 Tryd.underlying42 rfl size_cell (.int .i64 20) rfl) rfl ⟨rfl, below_setRow HB2.out (Nat.le_refl _) _⟩
end Go.Proofs.YtoccbfgcmaahcaaDoor
/-
  The contracts of the document's digits and Show.
-/
namespace Go.Proofs.YtoccbfgcmaahcaaDoor
open Go.RowKit

theorem rem_neg (v : Nat) : (-(v : Int)).tmod 10 = -((v % 10 : Nat) : Int) := by
  rw [Int.neg_tmod, Int.tmod_eq_emod_of_nonneg (by omega)]
  omega
theorem quo_neg (v : Nat) : (-(v : Int)).tdiv 10 = -((v / 10 : Nat) : Int) := by
  rw [Int.neg_tdiv, Int.tdiv_eq_ediv_of_nonneg (by omega)]
  omega
/-- How far digits has come: v is left, the digits t are there. -/
def DigSt (u v : Nat) (t : List UInt8) : Prop := (0 < v ∧ Lib.decDigits u = Lib.decDigits v ++ t) ∨ (v = 0 ∧ 0 < u ∧ t = Lib.decDigits u) ∨ (v = 0 ∧ u = 0 ∧ t = [])
theorem DigSt.step {u v : Nat} {t : List UInt8} (h : DigSt u v t) (hv : 0 < v) : DigSt u (v / 10) (UInt8.ofNat (48 + v % 10) :: t) := by
  rcases h with ⟨_, h⟩ | ⟨h, _⟩ | ⟨h, _⟩
  · by_cases hs : v < 10
    · rw [Lib.decDigits_one hs] at h
      have hu : 0 < u := by
        rcases Nat.eq_zero_or_pos u with rfl | hu
        · rw [Lib.decDigits_one (by decide)] at h
          have := congrArg List.length h
          simp at this
          subst this
          simp only [List.append_nil, List.cons.injEq, and_true] at h
          have := congrArg UInt8.toNat h
          rw [digit_nat hs, digit_nat (by decide)] at this
          omega
        · exact hu
      refine .inr (.inl ⟨by omega, hu, ?_⟩)
      rw [h, Nat.mod_eq_of_lt hs]
      rfl
    · refine .inl ⟨by omega, ?_⟩
      rw [h]
      conv => lhs; rw [Lib.decDigits, dif_neg hs]
      simp
  · omega
  · omega

theorem belowNew {w1 : World} (B : Nat) (h : B ≤ w1.heap.size) (A : Obj) : Below B w1 (w1.alloc A) := (Below.refl _ _).alloc h _
theorem digSt_start (u : Nat) : DigSt u u [] := by
  rcases Nat.eq_zero_or_pos u with rfl | h
  · exact .inr (.inr ⟨rfl, rfl, rfl⟩)
  · exact .inl ⟨h, by simp⟩
theorem DigSt.len {u v : Nat} {t : List UInt8} (h : DigSt u v t) (hu : u ≤ 9223372036854775808) : t.length ≤ 20 := by
  have h20 := Lib.nDigits_le20 u (by omega)
  rw [← Lib.decDigits_length] at h20
  rcases h with ⟨_, h⟩ | ⟨_, _, rfl⟩ | ⟨_, _, rfl⟩
  · rw [h, List.length_append] at h20
    omega
  · exact h20
  · simp
set_option maxHeartbeats 1000000 in
set_option maxRecDepth 4000 in
theorem digits_any (u : Nat) (hu : u ≤ 9223372036854775808) (w : World) :
    Calls Tryd.prog 33 #[.int .i64 (-(u : Int))] w fun e w' => e = .returned (.string (str (Lib.decDigits u))) ∧ Below w.heap.size w w' := by
  obtain ⟨x0, hx0⟩ : ∃ x : Int, x = -(u : Int) := ⟨_, rfl⟩
  rw [← hx0]
  have HX : Hid (x0 = -(u : Int)) := hx0
  clear hx0
  go_enter Tryd.func33, Tryd.ntmps33
  go_wp2_with fail
  go_loopg [0, 3] u (fun g s0 s3 wx => ∃ (x : Int) (t : ByteArray) (l : List UInt8), s0 = .int .i64 x ∧ s3 = .string t ∧ Hid (x = -(g : Int) ∧ t = str l ∧ DigSt u g l ∧ g ≤ u) ∧ Below w.heap.size w wx)
  case atStart => exact ⟨x0, _, [], rfl, rfl, ⟨HX.out, rfl, digSt_start u, Nat.le_refl _⟩, Below.refl _ _⟩
  case round =>
    obtain ⟨x, t, l, rfl, rfl, hH, hb⟩ := hrel
    have hts : (t.size : Int) ≤ 20 := by
      rw [hH.out.2.1, str_size]
      have := hH.out.2.2.1.len hu
      omega
    have HB : Hid (Below w.heap.size w wr) := hb
    have hsz := hb.size
    clear hb
    rcases Nat.eq_zero_or_pos gk with h0 | hpos
    · have hx0 : x = 0 := by have := hH.out.1; omega
      subst hx0
      have hd := hH.out.2.2.1
      rw [h0] at hd
      have ht := hH.out.2.1
      clear hH
      rcases hd with ⟨h, _⟩ | ⟨_, hu0, hl⟩ | ⟨_, hu0, hl⟩
      · omega
      · have hemp : t.toList.isEmpty = false := by
          rw [ht, toList_str, hl]
          obtain ⟨d, r, _, e⟩ := digits_head u
          rw [e]; rfl
        have HT : Hid (str (Lib.decDigits u) = t) := by rw [ht, hl]; rfl
        clear ht hl h0 hu0
        go_wp2_with fail
        go_ret
        exact ⟨retS HT.out, HB.out⟩
      · have hemp : t.toList.isEmpty = true := by rw [ht, toList_str, hl]; rfl
        have HT : Hid (str (Lib.decDigits u) = ⟨#[48]⟩) := by rw [hu0, Lib.decDigits_one (by decide)]; rfl
        clear ht hl h0 hu0
        go_wp2_with fail
        go_ret
        exact ⟨retS HT.out, HB.out⟩
    · have hneg : x < 0 := by rw [hH.out.1]; omega
      have hrem : x.tmod 10 = -((gk % 10 : Nat) : Int) := by rw [hH.out.1, rem_neg]
      have hquo : x.tdiv 10 = -((gk / 10 : Nat) : Int) := by rw [hH.out.1, quo_neg]
      obtain ⟨d, hd⟩ : ∃ d, d = gk % 10 := ⟨_, rfl⟩
      obtain ⟨y, hy⟩ : ∃ y, y = -((gk / 10 : Nat) : Int) := ⟨_, rfl⟩
      rw [← hd] at hrem
      rw [← hy] at hquo
      have hd10 : (d : Int) < 10 := by omega
      have hlow : -9223372036854775808 ≤ x := by have := hH.out; omega
      obtain ⟨c8, hc8⟩ : ∃ c8, c8 = UInt8.ofNat (48 + d) := ⟨_, rfl⟩
      have hn8 : 48 + (d : Int) = (c8.toNat : Int) := by rw [hc8, digit_nat (by omega)]; omega
      have hy1 : y ≤ 0 := by omega
      have hy2 : -9223372036854775808 ≤ y := by have := hH.out; omega
      have hwy : wrap64 y = y := by unfold wrap64; omega
      have hcv := convert_own (ownsB_new wr hn8) (by simp)
      have HH : Hid (c8 = UInt8.ofNat (48 + gk % 10) ∧ y = -((gk / 10 : Nat) : Int) ∧ (⟨#[c8]⟩ : ByteArray) ++ t = str (c8 :: l)) := ⟨by rw [hc8, hd], hy, by rw [hH.out.2.1]; exact str_append [_] l⟩
      clear hd hy hn8 hc8
      go_wp2_with fail
      go_roundg (gk / 10)
      case measure => omega
      case rel => exact ⟨y, _, c8 :: l, rfl, rfl, ⟨HH.out.2.1, HH.out.2.2, by rw [HH.out.1]; exact hH.out.2.2.1.step hpos, by have := hH.out.2.2.2; omega⟩, HB.out.trans (belowNew _ hsz _)⟩

theorem dbl_snoc (s : ByteArray) (k : Nat) (h : k < s.size) : dbl (s.data.toList.take (k + 1)) = dbl (s.data.toList.take k) ++ (if s[k] = 39 then [39, 39] else [s[k]]) := by
  have h1 : s.data.toList.take (k + 1) = s.data.toList.take k ++ [s[k]] := by
    rw [List.take_succ_eq_append_getElem (by rw [← Lib.size_eq]; exact h)]
    rfl
  rw [h1]
  simp [dbl]

set_option maxHeartbeats 2000000 in
set_option maxRecDepth 4000 in
theorem refShow_any (c : Cl) (w : World) (hok : okC c) (hs : c.s.size ≤ 100000) :
    Calls Tryd.prog 18 #[cv c] w fun e w' => e = .returned (.string (str (showL c))) ∧ Below w.heap.size w w' := by
  obtain ⟨k, n, s⟩ := c
  simp only [cv]
  simp only at hs
  by_cases h0 : k = 0
  · subst h0
    have HR : Hid (showL ⟨0, n, s⟩ = [110, 117, 108, 108]) := by unfold Hid showL; rfl
    go_enter Tryd.func18, Tryd.ntmps18
    go_wp2_with fail
    go_ret
    exact ⟨retS (by rw [HR.out]; rfl), below1 _ _⟩
  · by_cases h1 : k = 1
    · subst h1
      have HR : Hid (showL ⟨1, n, s⟩ = Lib.itoa n) := by unfold Hid showL; rfl
      clear h0
      by_cases hneg : n < 0
      · obtain ⟨u, rfl⟩ : ∃ u : Nat, n = -(u : Int) := ⟨n.natAbs, by omega⟩
        have hu : u ≤ 9223372036854775808 := by have := hok.1; simp only at this; omega
        obtain ⟨t, ht⟩ : ∃ t, t = str (Lib.decDigits u) := ⟨_, rfl⟩
        have hdg : ∀ w, Calls Tryd.prog 33 #[.int .i64 (-(u : Int))] w fun e w' => e = .returned (.string t) ∧ Below w.heap.size w w' := fun w => by rw [ht]; exact digits_any u hu w
        have hts : (t.size : Int) ≤ 20 := by
          rw [ht, str_size, Lib.decDigits_length]
          have := Lib.nDigits_le20 u (by omega)
          omega
        have HT : Hid (str (showL ⟨1, -(u : Int), s⟩) = ⟨#[45]⟩ ++ t) := by
          unfold Hid; rw [HR.out, ht, Lib.itoa_neg u (by omega)]; exact (str_append [45] _).symm
        obtain ⟨x, hx⟩ : ∃ x : Int, x = -(u : Int) := ⟨_, rfl⟩
        rw [← hx] at hdg hneg HT
        rw [← hx]
        clear ht hx HR hok
        go_enter Tryd.func18, Tryd.ntmps18
        go_wp2_with (go_at_call 33; refine (hdg _).mono ?_; rintro e w1 ⟨rfl, hb1⟩)
        go_ret
        exact ⟨retS HT.out, (below1 _ _).trans (hb1.mono (by simp))⟩
      · obtain ⟨u, rfl⟩ : ∃ u : Nat, n = (u : Int) := ⟨n.toNat, by omega⟩
        have hu : u ≤ 9223372036854775807 := by have := hok.2; simp only at this; omega
        have hdg : ∀ w, Calls Tryd.prog 33 #[.int .i64 (-(u : Int))] w fun e w' => e = .returned (.string (str (Lib.decDigits u))) ∧ Below w.heap.size w w' := fun w => digits_any u (by omega) w
        have HT : Hid (str (showL ⟨1, (u : Int), s⟩) = str (Lib.decDigits u)) := by unfold Hid; rw [HR.out, Lib.itoa_nonneg]
        have huI : (u : Int) ≤ 9223372036854775807 := by omega
        clear HR hok
        go_enter Tryd.func18, Tryd.ntmps18
        go_wp2_with (go_at_call 33; refine (hdg _).mono ?_; rintro e w1 ⟨rfl, hb1⟩)
        go_ret
        exact ⟨retS HT.out, (below1 _ _).trans (hb1.mono (by simp))⟩
    · by_cases h2 : k = 2
      · subst h2
        have HR : Hid (showL ⟨2, n, s⟩ = 39 :: (dbl s.data.toList ++ [39])) := by unfold Hid showL; rfl
        have own0 := ownsB_new (w.alloc (.cells #[.int .i64 2, .int .i64 n, .string s] 42)) (n := 39) (c := 39) rfl
        rw [World.size_alloc] at own0
        have HS : Hid (s.size = s.data.toList.length) := Lib.size_eq s
        have HO : Hid (OwnsB ((w.alloc (.cells #[.int .i64 2, .int .i64 n, .string s] 42)).alloc (.cells #[.int .u8 39] 5)) (w.heap.size + 1) (.slice (some ⟨w.heap.size + 1, 0, none⟩) 1 1) [39]) := own0
        have H39 : Hid ((39 : Int) = ((39 : UInt8).toNat : Int)) := rfl
        clear h0 h1 hok own0
        go_enter Tryd.func18, Tryd.ntmps18
        go_wp2_with fail
        go_loopg [3, 4] s.size (fun gg s3 s4 wx => ∃ i : Nat, i + gg = s.size ∧ s4 = .int .i64 i ∧ Hid (OwnsB wx (w.heap.size + 1) s3 (39 :: dbl (s.data.toList.take i))) ∧ Box wx w.heap.size 42 #[.int .i64 2, .int .i64 n, .string s] ∧ Below w.heap.size w wx ∧ w.heap.size + 1 ≤ wx.heap.size)
        case atStart => exact ⟨0, by omega, rfl, HO, box_old _ _ _ _, below2 _ _ _, by simp⟩
        case round =>
          obtain ⟨i, hig, rfl, hown, bx, hb, hsz⟩ := hrel
          have HB : Hid (Below w.heap.size w wr) := hb
          have HX : Hid (Box wr w.heap.size 42 #[.int .i64 2, .int .i64 n, .string s]) := bx
          have q2 := bx.cell 2 _ rfl
          clear hb bx
          by_cases hi : i < s.size
          · have hiI : (i : Int) < (s.size : Int) := by omega
            have hr2 : IntKind.i64.wrap ((i : Int) + 1) = (i : Int) + 1 := by rw [IntKind.wrap_i64]; omega
            have hsn := dbl_snoc s i hi
            have hlen : (39 :: dbl (s.data.toList.take i)).length ≤ 200001 := by
              have := dbl_len (s.data.toList.take i)
              rw [List.length_take] at this
              simp only [List.length_cons]
              omega
            obtain ⟨L, hL⟩ : ∃ L, L = 39 :: dbl (s.data.toList.take i) := ⟨_, rfl⟩
            rw [← hL] at hown hlen
            have HC : Hid ((s[i].toNat : Int) = (s[i].toNat : Int)) := rfl
            by_cases hq : s[i] = 39
            · have hq1 : ((s[i].toNat : Int) == 39) = true := by rw [hq]; rfl
              have HF : Hid (39 :: dbl (s.data.toList.take (i + 1)) = (L ++ [39]) ++ [s[i]]) := by
                unfold Hid; rw [hsn, if_pos hq, hL, hq]; simp
              clear hsn hL hq
              go_wp2_with (first
                | (at_builtin; refine append_u8 rfl (.tmp 37) (.tmp 38) rfl rfl rfl H39.out hown.out hsz ?hl ?_; (case hl => omega); intro v3 w3 hown3 hb3; have bx3 := HX.out.below hb3 (by omega); have r2 := bx3.cell 2 _ rfl; have HX3 : Hid (Box w3 w.heap.size 42 #[.int .i64 2, .int .i64 n, .string s]) := bx3; have HO3 : Hid (OwnsB w3 (w.heap.size + 1) v3 (L ++ [39])) := hown3; have HB3 : Hid (Below (w.heap.size + 1) wr w3) := hb3; have hsz3 : w.heap.size + 1 ≤ w3.heap.size := (by have := hb3.size; omega); clear hown3 hb3 bx3)
                | (at_builtin; refine append_u8 rfl (.tmp 40) (.tmp 45) rfl rfl rfl HC.out HO3.out hsz3 ?hl ?_; (case hl => simp; omega); intro v4 w4 hown4 hb4))
              go_roundg (s.size - (i + 1))
              case measure => clear hr2; omega
              case rel => exact ⟨i + 1, by clear hr2; omega, by go_num, by unfold Hid; rw [HF.out]; exact hown4, HX3.out.below hb4 (by omega), HB.out.trans ((HB3.out.mono (by omega)).trans (hb4.mono (by omega))), by have := hb4.size; omega⟩
            · have hq1 : ((s[i].toNat : Int) == 39) = false := by
                rw [beq_eq_false_iff_ne]
                intro e
                exact hq (UInt8.toNat_inj.1 (by have : s[i].toNat = 39 := by omega
                                                rw [this]; rfl))
              have HF : Hid (39 :: dbl (s.data.toList.take (i + 1)) = L ++ [s[i]]) := by
                unfold Hid; rw [hsn, if_neg hq, hL]; simp
              clear hsn hL hq
              go_wp2_with (at_builtin; refine append_u8 rfl (.tmp 40) (.tmp 45) rfl rfl rfl HC.out hown.out hsz ?hl ?_; (case hl => omega); intro v4 w4 hown4 hb4)
              go_roundg (s.size - (i + 1))
              case measure => clear hr2; omega
              case rel => exact ⟨i + 1, by clear hr2; omega, by go_num, by unfold Hid; rw [HF.out]; exact hown4, HX.out.below hb4 (by omega), HB.out.trans (hb4.mono (by omega)), by have := hb4.size; omega⟩
          · have hiI : ¬ (i : Int) < (s.size : Int) := by omega
            have htk : s.data.toList.take i = s.data.toList := List.take_of_length_le (by rw [← HS.out]; omega)
            rw [htk] at hown
            have hlen : (39 :: dbl s.data.toList).length ≤ 200001 := by
              have := dbl_len s.data.toList
              rw [← HS.out] at this
              simp only [List.length_cons]
              omega
            obtain ⟨L, hL⟩ : ∃ L, L = 39 :: dbl s.data.toList := ⟨_, rfl⟩
            rw [← hL] at hown hlen
            have HF : Hid (showL ⟨2, n, s⟩ = L ++ [39]) := by unfold Hid; rw [HR.out, hL]; simp
            clear htk hL
            go_wp2_with (at_builtin; refine append_u8 rfl (.tmp 47) (.tmp 48) rfl rfl rfl H39.out hown.out hsz ?hl ?_; (case hl => omega); intro v4 w4 hown4 hb4; have hcv := convert_own hown4 (by simp))
            go_ret
            exact ⟨retS (by rw [HF.out]; rfl), HB.out.trans (hb4.mono (by omega))⟩
      · have HR : Hid (showL ⟨k, n, s⟩ = [63]) := by unfold Hid showL; simp [h0, h1, h2]
        have b0 : (k == 0) = false := by simpa using h0
        have b1 : (k == 1) = false := by simpa using h1
        have b2 : (k == 2) = false := by simpa using h2
        clear h0 h1 h2 hok
        go_enter Tryd.func18, Tryd.ntmps18
        go_wp2_with fail
        go_ret
        exact ⟨retS (by rw [HR.out]; rfl), below1 _ _⟩
end Go.Proofs.YtoccbfgcmaahcaaDoor
/-
  The document's reading of numbers and texts, with no program: what number and Read come to.
-/
namespace Go.Proofs.YtoccbfgcmaahcaaDoor
open Go.RowKit Go.Lib

def minI : Int := -9223372036854775808
/-- The number of digits, below 0; none: no digit, or too great. -/
def pn : Int → List UInt8 → Option Int
  | acc, [] => some acc
  | acc, c :: r => if (c.toNat : Int) - 48 < 0 ∨ 9 < (c.toNat : Int) - 48 ∨ acc < (-9223372036854775808 + ((c.toNat : Int) - 48)).tdiv 10 then none else pn (10 * acc - ((c.toNat : Int) - 48)) r
theorem tdiv_min (d : Int) (h0 : 0 ≤ d) (h9 : d ≤ 9) : (-9223372036854775808 + d).tdiv 10 = -((9223372036854775808 - d) / 10) := by
  have e : -9223372036854775808 + d = -(9223372036854775808 - d) := by omega
  rw [e, Int.neg_tdiv, Int.tdiv_eq_ediv_of_nonneg (by omega)]
theorem pn_step {acc : Int} {c : UInt8} {r : List UInt8} (h0 : 0 ≤ (c.toNat : Int) - 48) (h9 : (c.toNat : Int) - 48 ≤ 9) (h : ¬ acc < (-9223372036854775808 + ((c.toNat : Int) - 48)).tdiv 10) : pn acc (c :: r) = pn (10 * acc - ((c.toNat : Int) - 48)) r := by
  simp only [pn]
  rw [if_neg]
  omega
theorem pn_append (r : List UInt8) : ∀ (l : List UInt8) (acc a : Int), pn acc l = some a → pn acc (l ++ r) = pn a r
  | [], acc, a, h => by
    simp only [pn] at h
    injection h with h
    subst h
    rfl
  | c :: l, acc, a, h => by
    simp only [pn] at h
    rw [List.cons_append]
    simp only [pn]
    split at h
    · cases h
    · rw [if_neg ‹_›]
      exact pn_append r l _ a h
theorem pn_digits (u : Nat) (h : u ≤ 9223372036854775808) : pn 0 (decDigits u) = some (-(u : Int)) := by
  induction u using Nat.strongRecOn with
  | _ u ih =>
    by_cases hs : u < 10
    · rw [decDigits_one hs]
      have hd := digit_nat hs
      rw [pn_step (by omega) (by omega) (by rw [tdiv_min _ (by omega) (by omega)]; omega)]
      simp only [pn]
      congr 1
      omega
    · rw [decDigits, dif_neg hs, pn_append _ _ _ _ (ih (u / 10) (by omega) (by omega))]
      have hd := digit_nat (Nat.mod_lt u (by decide : 0 < 10))
      rw [pn_step (by omega) (by omega) (by rw [tdiv_min _ (by omega) (by omega)]; omega)]
      simp only [pn]
      congr 1
      omega
theorem pn_range : ∀ (l : List UInt8) (acc a : Int), -9223372036854775808 ≤ acc → acc ≤ 0 → pn acc l = some a → -9223372036854775808 ≤ a ∧ a ≤ 0
  | [], acc, a, h1, h2, h => by
    simp only [pn] at h
    injection h with h
    omega
  | c :: l, acc, a, h1, h2, h => by
    simp only [pn] at h
    split at h
    · cases h
    · rename_i hn
      have hd : 0 ≤ (c.toNat : Int) - 48 ∧ (c.toNat : Int) - 48 ≤ 9 := by omega
      have ht := tdiv_min _ hd.1 hd.2
      exact pn_range l _ a (by omega) (by omega) h
/-- Is there a sign? -/
def downB (l : List UInt8) : Bool := l.head? == some 45
/-- What number answers. -/
def numA (l : List UInt8) : Int × Bool :=
  match pn 0 (if downB l = true then l.drop 1 else l) with
  | none => (0, false)
  | some a => if downB l = false ∧ a = -9223372036854775808 then (0, false) else if downB l = true then (a, itoa a == l) else (-a, itoa (-a) == l)
theorem numA_yes {l : List UInt8} (h : (numA l).2 = true) : -9223372036854775808 ≤ (numA l).1 ∧ (numA l).1 ≤ 9223372036854775807 ∧ itoa (numA l).1 = l := by
  unfold numA at h ⊢
  split
  · rename_i hx; rw [hx] at h; cases h
  · rename_i a hx
    rw [hx] at h
    have hr := pn_range _ _ _ (by omega) (by omega) hx
    simp only at h
    split at h
    · cases h
    · rename_i h1
      rw [if_neg h1]
      split at h
      · rename_i h2
        rw [if_pos h2]
        exact ⟨by simp only; omega, by simp only; omega, by simpa using h⟩
      · rename_i h2
        rw [if_neg h2]
        have hf : downB l = false := by simpa using h2
        have ha : a ≠ -9223372036854775808 := fun e => h1 ⟨hf, e⟩
        refine ⟨?_, ?_, by simpa using h⟩
        · show -9223372036854775808 ≤ -a
          omega
        · show -a ≤ 9223372036854775807
          omega
theorem numA_itoa {m : Int} (h0 : -9223372036854775808 ≤ m) (h1 : m ≤ 9223372036854775807) : numA (itoa m) = (m, true) := by
  by_cases hneg : m < 0
  · obtain ⟨u, rfl⟩ : ∃ u : Nat, m = -(u : Int) := ⟨m.natAbs, by omega⟩
    have e := itoa_neg u (by omega)
    have hd : downB (itoa (-(u : Int))) = true := by rw [e]; rfl
    unfold numA
    rw [hd, if_pos rfl]
    have e2 : (itoa (-(u : Int))).drop 1 = decDigits u := by rw [e]; rfl
    rw [e2, pn_digits u (by omega)]
    simp
  · obtain ⟨u, rfl⟩ : ∃ u : Nat, m = (u : Int) := ⟨m.toNat, by omega⟩
    have e := itoa_nonneg u
    obtain ⟨d, r, hd10, e2⟩ := digits_head u
    have hd : downB (itoa (u : Int)) = false := by
      rw [e, e2]
      unfold downB
      simp only [List.head?_cons]
      rw [beq_eq_false_iff_ne]
      intro hx
      have := congrArg UInt8.toNat (Option.some.inj hx)
      rw [digit_nat hd10] at this
      have h45 : (45 : UInt8).toNat = 45 := rfl
      omega
    unfold numA
    rw [hd]
    simp only [Bool.false_eq_true, if_false]
    rw [e, pn_digits u (by omega)]
    simp only
    rw [if_neg (by omega), Int.neg_neg, e]
    simp
/-- What is taken of a text between quotes. -/
def un : List UInt8 → List UInt8
  | [] => []
  | [b] => [b]
  | b :: c :: r => if b = 39 then b :: un r else b :: un (c :: r)
theorem un_dbl : ∀ l : List UInt8, un (dbl l) = l
  | [] => rfl
  | b :: l => by
    have ih := un_dbl l
    by_cases h : b = 39
    · subst h
      have e : dbl (39 :: l) = 39 :: 39 :: dbl l := by simp [dbl]
      rw [e]
      simp only [un, if_true, ih]
    · have e : dbl (b :: l) = b :: dbl l := by simp [dbl, h]
      rw [e]
      cases hd : dbl l with
      | nil =>
        rw [hd] at ih
        simp only [un] at ih ⊢
        rw [ih]
      | cons a r =>
        rw [hd] at ih
        simp only [un]
        rw [if_neg h, ih]
theorem un_step {l : List UInt8} {i : Nat} {b : UInt8} (h : l[i]? = some b) : un (l.drop i) = b :: un (l.drop (if b = 39 then i + 2 else i + 1)) := by
  obtain ⟨h1, h2⟩ := List.getElem?_eq_some_iff.1 h
  rw [List.drop_eq_getElem_cons h1, h2]
  cases hd : l.drop (i + 1) with
  | nil =>
    simp only [un]
    have e : l.drop (if b = 39 then i + 2 else i + 1) = [] := by
      rw [List.drop_eq_nil_iff] at hd ⊢
      split <;> omega
    rw [e]
    rfl
  | cons c r =>
    simp only [un]
    split
    · have e : l.drop (i + 2) = r := by
        have : l.drop (i + 2) = (l.drop (i + 1)).drop 1 := by rw [List.drop_drop]
        rw [this, hd]; rfl
      rw [e]
    · rw [hd]
/-- The text between the first sign and the last. -/
def midL (l : List UInt8) : List UInt8 := (l.drop 1).take (l.length - 2)
/-- What the document's Read answers. -/
def refA (l : List UInt8) : Cl × Int :=
  if l = [110, 117, 108, 108] then (cl0, 0)
  else if (numA l).2 = true then (numC (numA l).1, 0)
  else if 2 ≤ l.length ∧ l.head? = some 39 then (if (mayC (txtC (str (un (midL l)))) && (showL (txtC (str (un (midL l)))) == l)) = true then (txtC (str (un (midL l))), 0) else (cl0, 20))
  else (cl0, 20)
theorem readA_of {l : List UInt8} {c : Cl} (h : readC l = some c) : readA l = (c, 0) := by unfold readA; rw [h]
theorem readA_none {l : List UInt8} (h : readC l = none) : readA l = (cl0, 20) := by unfold readA; rw [h]
theorem mid_quote (t : List UInt8) : midL (39 :: (t ++ [39])) = t := by
  unfold midL
  simp
theorem refA_eq (l : List UInt8) : refA l = readA l := by
  unfold refA
  split
  · rename_i h
    exact (readA_of ((read_iff l cl0).2 ⟨by decide, by unfold okC cl0; decide, by rw [h]; rfl⟩)).symm
  · rename_i hnull
    split
    · rename_i hn
      obtain ⟨h1, h2, h3⟩ := numA_yes hn
      refine (readA_of ((read_iff l (numC (numA l).1)).2 ⟨?_, ⟨h1, h2⟩, ?_⟩)).symm
      · simp [mayC, numC]
        rfl
      · rw [← h3]
        simp [showL, numC, h3]
    · rename_i hn
      have key : ∀ c, mayC c = true → okC c → showL c = l → c.k = 2 ∧ l = 39 :: (dbl c.s.data.toList ++ [39]) ∧ c = txtC c.s := by
        rintro ⟨k, n, s⟩ hm hok hl
        rcases may_kind hm with ⟨h1, h2, h3⟩ | ⟨h1, h2⟩ | ⟨h1, h2, h3⟩
        · simp only at h1 h2 h3
          subst h1 h2
          exact absurd hl.symm hnull
        · simp only at h1 h2
          subst h1
          have e : showL ⟨1, n, s⟩ = itoa n := by simp [showL]
          rw [e] at hl
          rw [← hl, numA_itoa hok.1 hok.2] at hn
          exact absurd rfl hn
        · simp only at h1 h2 h3
          subst h1 h2
          have e : showL ⟨2, 0, s⟩ = 39 :: (dbl s.data.toList ++ [39]) := by simp [showL]
          exact ⟨rfl, by rw [← hl, e], rfl⟩
      split
      · rename_i hq
        split
        · rename_i hx
          simp only [Bool.and_eq_true, beq_iff_eq] at hx
          exact (readA_of ((read_iff l _).2 ⟨hx.1, by simp [okC, txtC], hx.2⟩)).symm
        · rename_i hx
          refine (readA_none (read_none fun c hm hok hl => hx ?_)).symm
          obtain ⟨hk, he, hc⟩ := key c hm hok hl
          have e1 : txtC (str (un (midL l))) = c := by
            rw [he, mid_quote, un_dbl]
            have e3 : str c.s.data.toList = c.s := by
              apply ByteArray.ext
              simp [str]
            rw [e3, ← hc]
          rw [e1, hm, hl]
          simp
      · rename_i hq
        refine (readA_none (read_none fun c hm hok hl => hq ?_)).symm
        obtain ⟨hk, he, hc⟩ := key c hm hok hl
        rw [he]
        exact ⟨by simp, rfl⟩
end Go.Proofs.YtoccbfgcmaahcaaDoor
/-
  The contracts of the document's number and Read.
-/
namespace Go.Proofs.YtoccbfgcmaahcaaDoor
open Go.RowKit

theorem num_no {l : List UInt8} (h : pn 0 (if downB l = true then l.drop 1 else l) = none) : numA l = (0, false) := by
  unfold numA; rw [h]
theorem down_head (s : ByteArray) (h : 0 < s.size) : downB s.data.toList = ((s[0].toNat : Int) == 45) := by
  rw [head_list s h]
  unfold downB
  simp only [List.head?_cons]
  rw [Bool.eq_iff_iff, beq_iff_eq, beq_iff_eq, Option.some.injEq]
  constructor
  · intro e; rw [e]; rfl
  · intro e
    apply UInt8.toNat_inj.1
    have : (45 : UInt8).toNat = 45 := rfl
    omega
theorem drop_at (s : ByteArray) (i : Nat) (h : i < s.size) : s.data.toList.drop i = s[i] :: s.data.toList.drop (i + 1) := by
  rw [List.drop_eq_getElem_cons (by rw [← Lib.size_eq]; exact h)]
  rfl
theorem retIB {a b : Int} {x y : Bool} (h : (b, y) = (a, x)) : Ending.returned (.tuple #[.int .i64 a, .bool x]) = .returned (.tuple #[.int .i64 b, .bool y]) := by
  obtain ⟨rfl, rfl⟩ := Prod.mk.inj h
  rfl

set_option maxHeartbeats 4000000 in
set_option maxRecDepth 4000 in
theorem number_ref (s : ByteArray) (hs : s.size ≤ 100000) (w : World) :
    Calls Tryd.prog 43 #[.string s] w fun e w' => e = .returned (.tuple #[.int .i64 (numA s.data.toList).1, .bool (numA s.data.toList).2]) ∧ Below w.heap.size w w' := by
  have hsl := Lib.size_eq s
  obtain ⟨down, fr, hdn, hfr, hcase⟩ : ∃ (down : Bool) (fr : Nat), downB s.data.toList = down ∧ (if down = true then s.data.toList.drop 1 else s.data.toList) = s.data.toList.drop fr ∧ ((s.size = 0 ∧ down = false ∧ fr = 0) ∨ (0 < s.size ∧ (∃ h : 0 < s.size, ((s[0].toNat : Int) == 45) = down) ∧ fr = (if down = true then 1 else 0))) := by
    by_cases h0 : s.size = 0
    · have : s.data.toList = [] := List.eq_nil_of_length_eq_zero (by omega)
      refine ⟨false, 0, by rw [this]; rfl, rfl, .inl ⟨h0, rfl, rfl⟩⟩
    · have hp : 0 < s.size := by omega
      refine ⟨downB s.data.toList, if downB s.data.toList = true then 1 else 0, rfl, ?_, .inr ⟨hp, ⟨hp, (down_head s hp).symm⟩, rfl⟩⟩
      split <;> simp
  have HD : Hid (numA s.data.toList = (match pn 0 (s.data.toList.drop fr) with
      | none => (0, false)
      | some a => if down = false ∧ a = -9223372036854775808 then (0, false) else if down = true then (a, Lib.itoa a == s.data.toList) else (-a, Lib.itoa (-a) == s.data.toList))) := by
    unfold Hid
    conv => lhs; unfold numA
    rw [hdn, hfr] <;> rfl
  have HS : Hid (s.size = s.data.toList.length) := hsl
  clear hsl hdn hfr
  rcases hcase with ⟨hz, rfl, rfl⟩ | ⟨hp, ⟨_, h45⟩, hfr⟩
  · have hpI : ¬ (0 : Int) < (s.size : Int) := by omega
    clear hz
    go_enter Tryd.func43, Tryd.ntmps43
    go_wp2_with fail
    go_loopg [6, 7] (s.size - 0) (fun gg s6 s7 wx => ∃ (i : Nat) (x : Int), i + gg = s.size ∧ s7 = .int .i64 i ∧ s6 = .int .i64 x ∧ Hid (pn 0 (s.data.toList.drop 0) = pn x (s.data.toList.drop i)) ∧ -9223372036854775808 ≤ x ∧ x ≤ 0 ∧ wx = w)
    case atStart => exact ⟨0, 0, by omega, rfl, rfl, rfl, by omega, by omega, rfl⟩
    case round =>
      obtain ⟨i, x, hig, rfl, rfl, hpn, hx1, hx2, rfl⟩ := hrel
      by_cases hi : i < s.size
      · have hiI : (i : Int) < (s.size : Int) := by omega
        have hb8 : (s[i].toNat : Int) < 256 := by have := s[i].toNat_lt; omega
        have hdrop := drop_at s i hi
        have hr2 : IntKind.i64.wrap ((i : Int) + 1) = (i : Int) + 1 := by rw [IntKind.wrap_i64]; omega
        by_cases h1 : (s[i].toNat : Int) - 48 < 0
        · have HE : Hid (numA s.data.toList = (0, false)) := by
            unfold Hid; rw [HD.out, hpn.out, hdrop]; simp only [pn]; rw [if_pos (.inl h1)]
          clear hdrop hpn HD
          go_wp2_with fail
          go_ret2
          exact ⟨retIB HE.out, Below.refl _ _⟩
        · by_cases h2 : (9 : Int) < (s[i].toNat : Int) - 48
          · have HE : Hid (numA s.data.toList = (0, false)) := by
              unfold Hid; rw [HD.out, hpn.out, hdrop]; simp only [pn]; rw [if_pos (.inr (.inl h2))]
            clear hdrop hpn HD
            go_wp2_with fail
            go_ret2
            exact ⟨retIB HE.out, Below.refl _ _⟩
          · by_cases h3 : x < (-9223372036854775808 + ((s[i].toNat : Int) - 48)).tdiv 10
            · have HE : Hid (numA s.data.toList = (0, false)) := by
                unfold Hid; rw [HD.out, hpn.out, hdrop]; simp only [pn]; rw [if_pos (.inr (.inr h3))]
              clear hdrop hpn HD
              go_wp2_with fail
              go_ret2
              exact ⟨retIB HE.out, Below.refl _ _⟩
            · have ht := tdiv_min ((s[i].toNat : Int) - 48) (by omega) (by omega)
              have hw : wrap64 (wrap64 (10 * x) - ((s[i].toNat : Int) - 48)) = 10 * x - ((s[i].toNat : Int) - 48) := by unfold wrap64; omega
              have HP : Hid (pn 0 (s.data.toList.drop 0) = pn (10 * x - ((s[i].toNat : Int) - 48)) (s.data.toList.drop (i + 1)) ∧ -9223372036854775808 ≤ 10 * x - ((s[i].toNat : Int) - 48) ∧ 10 * x - ((s[i].toNat : Int) - 48) ≤ 0) := by
                refine ⟨?_, by omega, by omega⟩
                rw [hpn.out, hdrop, pn_step (by omega) (by omega) h3]
              have HW : Hid (wrap64 (wrap64 (10 * x) - ((s[i].toNat : Int) - 48)) = 10 * x - ((s[i].toNat : Int) - 48)) := hw
              clear hdrop hpn ht hw
              go_wp2_with fail
              go_roundg (s.size - (i + 1))
              case measure => clear hr2; omega
              case rel => exact ⟨i + 1, 10 * x - ((s[i].toNat : Int) - 48), by clear hr2; omega, by go_num, by first | rfl | rw [HW.out], HP.out.1, HP.out.2.1, HP.out.2.2, rfl⟩
      · have hiI : ¬ (i : Int) < (s.size : Int) := by omega
        have hdn : s.data.toList.drop i = [] := List.drop_of_length_le (by rw [← HS.out]; omega)
        have hpx : pn 0 (s.data.toList.drop 0) = some x := by rw [hpn.out, hdn]; rfl
        by_cases hmin : x = -9223372036854775808
        · have HE : Hid (numA s.data.toList = (0, false)) := by
            unfold Hid; rw [HD.out, hpx]; simp only; rw [if_pos ⟨trivial, hmin⟩]
          have hmb : (x == -9223372036854775808) = true := by simpa using hmin
          clear hdn hpx hpn HD hmin
          go_wp2_with fail
          go_ret2
          exact ⟨retIB HE.out, Below.refl _ _⟩
        · have hmb : (x == -9223372036854775808) = false := by simpa using hmin
          have hx3 : -9223372036854775807 ≤ x := by omega
          obtain ⟨b, hb⟩ : ∃ b, b = (Lib.itoa (-x) == s.data.toList) := ⟨_, rfl⟩
          have HE : Hid (numA s.data.toList = (-x, b)) := by
            unfold Hid; rw [HD.out, hpx, hb]; simp only; rw [if_neg (by rintro ⟨_, h⟩; exact hmin h)]; rfl
          obtain ⟨t, ht⟩ : ∃ t, t = str (Lib.itoa (-x)) := ⟨_, rfl⟩
          have hsh : ∀ w, Calls Tryd.prog 18 #[.agg #[.int .i64 1, .int .i64 (-x), .string ⟨#[]⟩]] w fun e w' => e = .returned (.string t) ∧ Below w.heap.size w w' := fun w => by
            have := refShow_any ⟨1, -x, ⟨#[]⟩⟩ w ⟨by simp only; omega, by simp only; omega⟩ (by simp only [ByteArray.size]; decide)
            have e : showL ⟨1, -x, ⟨#[]⟩⟩ = Lib.itoa (-x) := by simp [showL]
            rw [e, ← ht] at this
            exact this
          have hb2 : (t.toList == s.toList) = b := by rw [hb, ht, toList_str, Lib.toList_data]
          clear hdn hpx hpn hb ht HD hmin
          go_wp2_with (go_at_call 18; refine (hsh _).mono ?_; rintro e w1 ⟨rfl, hb1⟩)
          go_ret2
          exact ⟨retIB HE.out, hb1⟩
  · cases down with
    | true =>
      obtain rfl : fr = 1 := hfr
      have hpI : (0 : Int) < (s.size : Int) := by omega
      go_enter Tryd.func43, Tryd.ntmps43
      go_wp2_with fail
      go_loopg [6, 7] (s.size - 1) (fun gg s6 s7 wx => ∃ (i : Nat) (x : Int), i + gg = s.size ∧ s7 = .int .i64 i ∧ s6 = .int .i64 x ∧ Hid (pn 0 (s.data.toList.drop 1) = pn x (s.data.toList.drop i)) ∧ -9223372036854775808 ≤ x ∧ x ≤ 0 ∧ wx = w)
      case atStart => exact ⟨1, 0, by omega, rfl, rfl, rfl, by omega, by omega, rfl⟩
      case round =>
        obtain ⟨i, x, hig, rfl, rfl, hpn, hx1, hx2, rfl⟩ := hrel
        by_cases hi : i < s.size
        · have hiI : (i : Int) < (s.size : Int) := by omega
          have hb8 : (s[i].toNat : Int) < 256 := by have := s[i].toNat_lt; omega
          have hdrop := drop_at s i hi
          have hr2 : IntKind.i64.wrap ((i : Int) + 1) = (i : Int) + 1 := by rw [IntKind.wrap_i64]; omega
          by_cases h1 : (s[i].toNat : Int) - 48 < 0
          · have HE : Hid (numA s.data.toList = (0, false)) := by
              unfold Hid; rw [HD.out, hpn.out, hdrop]; simp only [pn]; rw [if_pos (.inl h1)]
            clear hdrop hpn HD
            go_wp2_with fail
            go_ret2
            exact ⟨retIB HE.out, Below.refl _ _⟩
          · by_cases h2 : (9 : Int) < (s[i].toNat : Int) - 48
            · have HE : Hid (numA s.data.toList = (0, false)) := by
                unfold Hid; rw [HD.out, hpn.out, hdrop]; simp only [pn]; rw [if_pos (.inr (.inl h2))]
              clear hdrop hpn HD
              go_wp2_with fail
              go_ret2
              exact ⟨retIB HE.out, Below.refl _ _⟩
            · by_cases h3 : x < (-9223372036854775808 + ((s[i].toNat : Int) - 48)).tdiv 10
              · have HE : Hid (numA s.data.toList = (0, false)) := by
                  unfold Hid; rw [HD.out, hpn.out, hdrop]; simp only [pn]; rw [if_pos (.inr (.inr h3))]
                clear hdrop hpn HD
                go_wp2_with fail
                go_ret2
                exact ⟨retIB HE.out, Below.refl _ _⟩
              · have ht := tdiv_min ((s[i].toNat : Int) - 48) (by omega) (by omega)
                have hw : wrap64 (wrap64 (10 * x) - ((s[i].toNat : Int) - 48)) = 10 * x - ((s[i].toNat : Int) - 48) := by unfold wrap64; omega
                have HP : Hid (pn 0 (s.data.toList.drop 1) = pn (10 * x - ((s[i].toNat : Int) - 48)) (s.data.toList.drop (i + 1)) ∧ -9223372036854775808 ≤ 10 * x - ((s[i].toNat : Int) - 48) ∧ 10 * x - ((s[i].toNat : Int) - 48) ≤ 0) := by
                  refine ⟨?_, by omega, by omega⟩
                  rw [hpn.out, hdrop, pn_step (by omega) (by omega) h3]
                have HW : Hid (wrap64 (wrap64 (10 * x) - ((s[i].toNat : Int) - 48)) = 10 * x - ((s[i].toNat : Int) - 48)) := hw
                clear hdrop hpn ht hw
                go_wp2_with fail
                go_roundg (s.size - (i + 1))
                case measure => clear hr2; omega
                case rel => exact ⟨i + 1, 10 * x - ((s[i].toNat : Int) - 48), by clear hr2; omega, by go_num, by first | rfl | rw [HW.out], HP.out.1, HP.out.2.1, HP.out.2.2, rfl⟩
        · have hiI : ¬ (i : Int) < (s.size : Int) := by omega
          have hdn : s.data.toList.drop i = [] := List.drop_of_length_le (by rw [← HS.out]; omega)
          have hpx : pn 0 (s.data.toList.drop 1) = some x := by rw [hpn.out, hdn]; rfl
          obtain ⟨b, hb⟩ : ∃ b, b = (Lib.itoa x == s.data.toList) := ⟨_, rfl⟩
          have HE : Hid (numA s.data.toList = (x, b)) := by
            unfold Hid; rw [HD.out, hpx, hb]; rfl
          obtain ⟨t, ht⟩ : ∃ t, t = str (Lib.itoa x) := ⟨_, rfl⟩
          have hsh : ∀ w, Calls Tryd.prog 18 #[.agg #[.int .i64 1, .int .i64 x, .string ⟨#[]⟩]] w fun e w' => e = .returned (.string t) ∧ Below w.heap.size w w' := fun w => by
            have := refShow_any ⟨1, x, ⟨#[]⟩⟩ w ⟨hx1, by simp only; omega⟩ (by simp only [ByteArray.size]; decide)
            have e : showL ⟨1, x, ⟨#[]⟩⟩ = Lib.itoa x := by simp [showL]
            rw [e, ← ht] at this
            exact this
          have hb2 : (t.toList == s.toList) = b := by rw [hb, ht, toList_str, Lib.toList_data]
          clear hdn hpx hpn hb ht HD
          go_wp2_with (go_at_call 18; refine (hsh _).mono ?_; rintro e w1 ⟨rfl, hb1⟩)
          go_ret2
          exact ⟨retIB HE.out, hb1⟩
    | false =>
      obtain rfl : fr = 0 := hfr
      have hpI : (0 : Int) < (s.size : Int) := by omega
      go_enter Tryd.func43, Tryd.ntmps43
      go_wp2_with fail
      go_loopg [6, 7] (s.size - 0) (fun gg s6 s7 wx => ∃ (i : Nat) (x : Int), i + gg = s.size ∧ s7 = .int .i64 i ∧ s6 = .int .i64 x ∧ Hid (pn 0 (s.data.toList.drop 0) = pn x (s.data.toList.drop i)) ∧ -9223372036854775808 ≤ x ∧ x ≤ 0 ∧ wx = w)
      case atStart => exact ⟨0, 0, by omega, rfl, rfl, rfl, by omega, by omega, rfl⟩
      case round =>
        obtain ⟨i, x, hig, rfl, rfl, hpn, hx1, hx2, rfl⟩ := hrel
        by_cases hi : i < s.size
        · have hiI : (i : Int) < (s.size : Int) := by omega
          have hb8 : (s[i].toNat : Int) < 256 := by have := s[i].toNat_lt; omega
          have hdrop := drop_at s i hi
          have hr2 : IntKind.i64.wrap ((i : Int) + 1) = (i : Int) + 1 := by rw [IntKind.wrap_i64]; omega
          by_cases h1 : (s[i].toNat : Int) - 48 < 0
          · have HE : Hid (numA s.data.toList = (0, false)) := by
              unfold Hid; rw [HD.out, hpn.out, hdrop]; simp only [pn]; rw [if_pos (.inl h1)]
            clear hdrop hpn HD
            go_wp2_with fail
            go_ret2
            exact ⟨retIB HE.out, Below.refl _ _⟩
          · by_cases h2 : (9 : Int) < (s[i].toNat : Int) - 48
            · have HE : Hid (numA s.data.toList = (0, false)) := by
                unfold Hid; rw [HD.out, hpn.out, hdrop]; simp only [pn]; rw [if_pos (.inr (.inl h2))]
              clear hdrop hpn HD
              go_wp2_with fail
              go_ret2
              exact ⟨retIB HE.out, Below.refl _ _⟩
            · by_cases h3 : x < (-9223372036854775808 + ((s[i].toNat : Int) - 48)).tdiv 10
              · have HE : Hid (numA s.data.toList = (0, false)) := by
                  unfold Hid; rw [HD.out, hpn.out, hdrop]; simp only [pn]; rw [if_pos (.inr (.inr h3))]
                clear hdrop hpn HD
                go_wp2_with fail
                go_ret2
                exact ⟨retIB HE.out, Below.refl _ _⟩
              · have ht := tdiv_min ((s[i].toNat : Int) - 48) (by omega) (by omega)
                have hw : wrap64 (wrap64 (10 * x) - ((s[i].toNat : Int) - 48)) = 10 * x - ((s[i].toNat : Int) - 48) := by unfold wrap64; omega
                have HP : Hid (pn 0 (s.data.toList.drop 0) = pn (10 * x - ((s[i].toNat : Int) - 48)) (s.data.toList.drop (i + 1)) ∧ -9223372036854775808 ≤ 10 * x - ((s[i].toNat : Int) - 48) ∧ 10 * x - ((s[i].toNat : Int) - 48) ≤ 0) := by
                  refine ⟨?_, by omega, by omega⟩
                  rw [hpn.out, hdrop, pn_step (by omega) (by omega) h3]
                have HW : Hid (wrap64 (wrap64 (10 * x) - ((s[i].toNat : Int) - 48)) = 10 * x - ((s[i].toNat : Int) - 48)) := hw
                clear hdrop hpn ht hw
                go_wp2_with fail
                go_roundg (s.size - (i + 1))
                case measure => clear hr2; omega
                case rel => exact ⟨i + 1, 10 * x - ((s[i].toNat : Int) - 48), by clear hr2; omega, by go_num, by first | rfl | rw [HW.out], HP.out.1, HP.out.2.1, HP.out.2.2, rfl⟩
        · have hiI : ¬ (i : Int) < (s.size : Int) := by omega
          have hdn : s.data.toList.drop i = [] := List.drop_of_length_le (by rw [← HS.out]; omega)
          have hpx : pn 0 (s.data.toList.drop 0) = some x := by rw [hpn.out, hdn]; rfl
          by_cases hmin : x = -9223372036854775808
          · have HE : Hid (numA s.data.toList = (0, false)) := by
              unfold Hid; rw [HD.out, hpx]; simp only; rw [if_pos ⟨trivial, hmin⟩]
            have hmb : (x == -9223372036854775808) = true := by simpa using hmin
            clear hdn hpx hpn HD hmin
            go_wp2_with fail
            go_ret2
            exact ⟨retIB HE.out, Below.refl _ _⟩
          · have hmb : (x == -9223372036854775808) = false := by simpa using hmin
            have hx3 : -9223372036854775807 ≤ x := by omega
            obtain ⟨b, hb⟩ : ∃ b, b = (Lib.itoa (-x) == s.data.toList) := ⟨_, rfl⟩
            have HE : Hid (numA s.data.toList = (-x, b)) := by
              unfold Hid; rw [HD.out, hpx, hb]; simp only; rw [if_neg (by rintro ⟨_, h⟩; exact hmin h)]; rfl
            obtain ⟨t, ht⟩ : ∃ t, t = str (Lib.itoa (-x)) := ⟨_, rfl⟩
            have hsh : ∀ w, Calls Tryd.prog 18 #[.agg #[.int .i64 1, .int .i64 (-x), .string ⟨#[]⟩]] w fun e w' => e = .returned (.string t) ∧ Below w.heap.size w w' := fun w => by
              have := refShow_any ⟨1, -x, ⟨#[]⟩⟩ w ⟨by simp only; omega, by simp only; omega⟩ (by simp only [ByteArray.size]; decide)
              have e : showL ⟨1, -x, ⟨#[]⟩⟩ = Lib.itoa (-x) := by simp [showL]
              rw [e, ← ht] at this
              exact this
            have hb2 : (t.toList == s.toList) = b := by rw [hb, ht, toList_str, Lib.toList_data]
            clear hdn hpx hpn hb ht HD hmin
            go_wp2_with (go_at_call 18; refine (hsh _).mono ?_; rintro e w1 ⟨rfl, hb1⟩)
            go_ret2
            exact ⟨retIB HE.out, hb1⟩
end Go.Proofs.YtoccbfgcmaahcaaDoor
/-
  The contract of the document's Read.
-/
namespace Go.Proofs.YtoccbfgcmaahcaaDoor
open Go.RowKit

theorem convert_all {w : World} {B : Nat} {v : Value} {l : List UInt8} (hown : OwnsB w B v l) :
    (convert 51 9 v).run Tryd.prog w = .ok (.string (str l)) w := by
  rcases Nat.eq_zero_or_pos l.length with h0 | hp
  · have hl : l = [] := List.eq_nil_of_length_eq_zero h0
    subst hl
    rcases hown.2 with ⟨rfl, _⟩ | ⟨g, cap, cur, rfl, _, _, _⟩
    · exact Lib.run_convert_nil_bytes w 51 9 5 _ Tryd.underlying51 Tryd.underlying5 Tryd.underlying9
    · rw [run_convert_bytes_string w _ _ 5 _ _ _ Tryd.underlying51 Tryd.underlying5 Tryd.underlying9]
      have hload : (loadCells ⟨g, 0, none⟩ 0).run Tryd.prog w = .ok (([] : List Int).map (Value.int .u8)).toArray w := by
        have := run_loadCells_list (P := Tryd.prog) w ⟨g, 0, none⟩ [] (by intro j u h; simp at h)
        simpa using this
      have := run_bytesToString (P := Tryd.prog) w ⟨g, 0, none⟩ 0 cap [] hload
      exact this
  · exact convert_own hown hp
theorem mid_at (s : ByteArray) (i : Nat) (h1 : 1 ≤ i) (h2 : i + 1 < s.size) : (midL s.data.toList)[i - 1]? = some (s[i]'(by omega)) := by
  unfold midL
  rw [← Lib.size_eq, List.getElem?_take_of_lt (by omega), List.getElem?_drop, show 1 + (i - 1) = i by omega, List.getElem?_eq_getElem (by rw [← Lib.size_eq]; omega)]
  rfl
theorem mid_len (s : ByteArray) : (midL s.data.toList).length = s.size - 2 := by
  unfold midL
  rw [List.length_take, List.length_drop, ← Lib.size_eq]
  omega
theorem un_len : ∀ l : List UInt8, (un l).length ≤ l.length
  | [] => by simp [un]
  | [_] => by simp [un]
  | b :: c :: r => by
    have h1 := un_len r
    have h2 := un_len (c :: r)
    simp only [un]
    split
    · simp only [List.length_cons]; omega
    · simp only [List.length_cons] at h2 ⊢; omega
theorem refA_null {l : List UInt8} (h : l = [110, 117, 108, 108]) : refA l = (cl0, 0) := by unfold refA; rw [if_pos h]
theorem refA_num {l : List UInt8} (h : ¬ l = [110, 117, 108, 108]) (h2 : (numA l).2 = true) : refA l = (numC (numA l).1, 0) := by unfold refA; rw [if_neg h, if_pos h2]
theorem refA_not {l : List UInt8} (h : ¬ l = [110, 117, 108, 108]) (h2 : (numA l).2 = false) (h3 : ¬ (2 ≤ l.length ∧ l.head? = some 39)) : refA l = (cl0, 20) := by
  unfold refA; rw [if_neg h, if_neg (by rw [h2]; simp), if_neg h3]
theorem refA_txt {l : List UInt8} (h : ¬ l = [110, 117, 108, 108]) (h2 : (numA l).2 = false) (h3 : 2 ≤ l.length ∧ l.head? = some 39) (hm : mayC (txtC (str (un (midL l)))) = true) (hs : showL (txtC (str (un (midL l)))) = l) : refA l = (txtC (str (un (midL l))), 0) := by
  unfold refA; rw [if_neg h, if_neg (by rw [h2]; simp), if_pos h3, hm, hs]; simp
theorem refA_txtno {l : List UInt8} (h : ¬ l = [110, 117, 108, 108]) (h2 : (numA l).2 = false) (h3 : 2 ≤ l.length ∧ l.head? = some 39) (hm : ¬ (mayC (txtC (str (un (midL l)))) = true ∧ showL (txtC (str (un (midL l)))) = l)) : refA l = (cl0, 20) := by
  unfold refA; rw [if_neg h, if_neg (by rw [h2]; simp), if_pos h3, if_neg (by simpa using hm)]

set_option maxHeartbeats 4000000 in
set_option maxRecDepth 4000 in
theorem refRead_any (s : ByteArray) (hs : s.size ≤ 100000) (w : World) :
    Calls Tryd.prog 38 #[.string s] w fun e w' => e = .returned (.tuple #[cv (readA s.data.toList).1, .int .i64 (readA s.data.toList).2]) ∧ Below w.heap.size w w' := by
  rw [← refA_eq]
  have hsl := Lib.size_eq s
  have bx0 := box_new w #[.int .i64 0, .int .i64 0, .string ⟨#[]⟩] 42
  by_cases hnull : s.data.toList = [110, 117, 108, 108]
  · have HE : Hid (refA s.data.toList = (cl0, 0)) := refA_null hnull
    have hb : (s.toList == [110, 117, 108, 108]) = true := by rw [beq_iff_eq, Lib.toList_data]; exact hnull
    clear hnull hsl bx0
    go_enter Tryd.func38, Tryd.ntmps38
    go_wp2_with fail
    rw [HE.out]
    exact bodyPost_ret (v := .tuple #[cv cl0, .int .i64 0]) (by simp [results, Tryd.results38, go_sem, cl0]) rfl ⟨rfl, below1 _ _⟩
  · have hb : (s.toList == [110, 117, 108, 108]) = false := by rw [beq_eq_false_iff_ne, Lib.toList_data]; exact hnull
    have hnm := number_ref s hs (w.alloc (.cells #[.int .i64 0, .int .i64 0, .string ⟨#[]⟩] 42))
    cases hn2 : (numA s.data.toList).2 with
    | true =>
      have HE : Hid (refA s.data.toList = (numC (numA s.data.toList).1, 0)) := refA_num hnull hn2
      rw [hn2] at hnm
      obtain ⟨n, hn⟩ : ∃ n, n = (numA s.data.toList).1 := ⟨_, rfl⟩
      rw [← hn] at hnm HE
      clear hnull hsl hn2 hn
      go_enter Tryd.func38, Tryd.ntmps38
      go_wp2_with (first
        | (go_at_call 43; refine hnm.mono ?_; rintro e w1 ⟨rfl, hb1⟩; have bx1 := bx0.over hb1; have HB1 : Hid (Below w.heap.size w w1) := (below1 _ _).trans (hb1.mono (by simp)); clear hb1; have F1 := bx1.setRow (ca (numC n)); have hone := ca_one (numC n))
        | (refine wpList_store_row rfl 42 _ _ rfl w.heap.size (ca (numC n)) rfl rfl 42 _ bx1 size_cell rfl hone ?_))
      rw [HE.out]
      exact bodyPost_ret (res_box_slot Tryd.results38 _ rfl F1 Tryd.underlying42 rfl size_cell (.int .i64 0) rfl) rfl ⟨rfl, below_setRow HB1.out (Nat.le_refl _) _⟩
    | false =>
      rw [hn2] at hnm
      obtain ⟨n, hn⟩ : ∃ n, n = (numA s.data.toList).1 := ⟨_, rfl⟩
      rw [← hn] at hnm
      clear hn
      by_cases hq : 2 ≤ s.data.toList.length ∧ s.data.toList.head? = some 39
      · have hp : 0 < s.size := by omega
        have h39 : s[0].toNat = 39 := by
          have := hq.2
          rw [head_list s hp] at this
          simp only [List.head?_cons, Option.some.injEq] at this
          rw [this]; rfl
        have h4 : ((s[0].toNat : Int) != 39) = false := by rw [h39]; rfl
        have h2 : ¬ (s.size : Int) < 2 := by omega
        obtain ⟨M, hM⟩ : ∃ M, M = un (midL s.data.toList) := ⟨_, rfl⟩
        have hMl : M.length ≤ 100000 := by
          rw [hM]
          have h5 := un_len (midL s.data.toList)
          rw [mid_len] at h5
          omega
        have hck : ∀ w, Calls Tryd.prog 44 #[.agg #[.int .i64 2, .int .i64 0, .string (str M)]] w fun e w' => e = .returned (.bool (mayC (txtC (str M)))) ∧ Below w.heap.size w w' := fun w => may_any (txtC (str M)) w
        have hsh : ∀ w, Calls Tryd.prog 18 #[.agg #[.int .i64 2, .int .i64 0, .string (str M)]] w fun e w' => e = .returned (.string (str (showL (txtC (str M))))) ∧ Below w.heap.size w w' := fun w => refShow_any (txtC (str M)) w (by simp [okC, txtC]) (by show (str M).size ≤ 100000; rw [str_size]; exact hMl)
        obtain ⟨t, ht⟩ : ∃ t, t = str (showL (txtC (str M))) := ⟨_, rfl⟩
        rw [← ht] at hsh
        obtain ⟨tm, htm⟩ : ∃ tm, tm = str M := ⟨_, rfl⟩
        rw [← htm] at hck hsh
        have hcase : (mayC (txtC tm) = false ∧ refA s.data.toList = (cl0, 20)) ∨ (mayC (txtC tm) = true ∧ (t.toList == s.toList) = false ∧ refA s.data.toList = (cl0, 20)) ∨ (mayC (txtC tm) = true ∧ (t.toList == s.toList) = true ∧ refA s.data.toList = (txtC tm, 0)) := by
          rw [htm, hM]
          cases hm : mayC (txtC (str (un (midL s.data.toList)))) with
          | false => exact .inl ⟨rfl, refA_txtno hnull hn2 hq fun h => by rw [hm] at h; exact absurd h.1 (by simp)⟩
          | true =>
            by_cases hss : showL (txtC (str (un (midL s.data.toList)))) = s.data.toList
            · exact .inr (.inr ⟨rfl, by rw [beq_iff_eq, ht, toList_str, hM, hss, Lib.toList_data], refA_txt hnull hn2 hq hm hss⟩)
            · exact .inr (.inl ⟨rfl, by rw [beq_eq_false_iff_ne, ht, toList_str, hM, Lib.toList_data]; exact hss, refA_txtno hnull hn2 hq fun h => hss h.2⟩)
        have HM : Hid (M = un (midL s.data.toList) ∧ tm = str M ∧ s.size = s.data.toList.length) := ⟨hM, htm, hsl⟩
        have HC : Hid ((mayC (txtC tm) = false ∧ refA s.data.toList = (cl0, 20)) ∨ (mayC (txtC tm) = true ∧ (t.toList == s.toList) = false ∧ refA s.data.toList = (cl0, 20)) ∨ (mayC (txtC tm) = true ∧ (t.toList == s.toList) = true ∧ refA s.data.toList = (txtC tm, 0))) := hcase
        have hw1 : wrap64 ((s.size : Int) - 1) = (s.size : Int) - 1 := by unfold wrap64; omega
        clear hnull hn2 hq hM ht htm hcase hsl h39
        go_enter Tryd.func38, Tryd.ntmps38
        go_wp2_with (go_at_call 43; refine hnm.mono ?_; rintro e w1 ⟨rfl, hb1⟩; have bx1 := bx0.over hb1; have hB1 : Below w.heap.size w w1 := (below1 _ _).trans (hb1.mono (by simp)); have hs1 : w.heap.size + 1 ≤ w1.heap.size := (by have := hb1.size; simp at this; omega); clear hb1)
        clear hnm
        go_loopg [6, 7] (s.size - 1) (fun gg s6 s7 wx => ∃ (i : Nat) (done : List UInt8), i + gg = s.size ∧ 1 ≤ i ∧ s7 = .int .i64 i ∧ Hid (OwnsB wx (w.heap.size + 1) s6 done) ∧ Hid (M = done ++ un ((midL s.data.toList).drop (i - 1))) ∧ done.length ≤ i ∧ Box wx w.heap.size 42 #[.int .i64 0, .int .i64 0, .string ⟨#[]⟩] ∧ Below w.heap.size w wx ∧ w.heap.size + 1 ≤ wx.heap.size)
        case atStart => exact ⟨1, [], by omega, Nat.le_refl _, rfl, ownsB_nil _ _, HM.out.1, by simp, bx1, hB1, hs1⟩
        case round =>
          obtain ⟨i, done, hig, hi1, rfl, hown, hMd, hdl, bx, hb, hsz⟩ := hrel
          clear bx1 hB1 hs1
          have HB : Hid (Below w.heap.size w wr) := hb
          have HX : Hid (Box wr w.heap.size 42 #[.int .i64 0, .int .i64 0, .string ⟨#[]⟩]) := bx
          clear hb bx
          by_cases hi : i + 1 < s.size
          · have hiI : (i : Int) < (s.size : Int) - 1 := by omega
            have hi2 : (i : Int) < (s.size : Int) := by omega
            have hi3 : i < s.size := by omega
            have hst := un_step (mid_at s i hi1 hi)
            have hr2 : IntKind.i64.wrap ((i : Int) + 1) = (i : Int) + 1 := by rw [IntKind.wrap_i64]; omega
            have hr3 : IntKind.i64.wrap ((i : Int) + 1 + 1) = (i : Int) + 1 + 1 := by rw [IntKind.wrap_i64]; omega
            have HU : Hid ((s[i].toNat : Int) = (s[i].toNat : Int)) := rfl
            by_cases hq : s[i] = 39
            · have hq1 : ((s[i].toNat : Int) == 39) = true := by rw [hq]; rfl
              have HF : Hid (M = (done ++ [s[i]]) ++ un ((midL s.data.toList).drop (i + 2 - 1))) := by
                unfold Hid; rw [hMd.out, hst, if_pos hq, show i + 2 - 1 = i - 1 + 2 by omega]; simp
              clear hst hMd hq
              go_wp2_with (at_builtin; refine append_u8 rfl (.tmp 36) (.tmp 40) rfl rfl rfl HU.out hown.out hsz ?hl ?_; (case hl => omega); intro v4 w4 hown4 hb4)
              go_roundg (s.size - (i + 2))
              case measure => clear hr2 hr3; omega
              case rel => exact ⟨i + 2, done ++ [s[i]], by clear hr2 hr3; omega, by omega, by go_num, hown4, HF, by rw [List.length_append]; simp; omega, HX.out.below hb4 (by omega), HB.out.trans (hb4.mono (by omega)), by have := hb4.size; omega⟩
            · have hq1 : ((s[i].toNat : Int) == 39) = false := by
                rw [beq_eq_false_iff_ne]
                intro e
                exact hq (UInt8.toNat_inj.1 (by have : s[i].toNat = 39 := by omega
                                                rw [this]; rfl))
              have HF : Hid (M = (done ++ [s[i]]) ++ un ((midL s.data.toList).drop (i + 1 - 1))) := by
                unfold Hid; rw [hMd.out, hst, if_neg hq, show i + 1 - 1 = i - 1 + 1 by omega]; simp
              clear hst hMd hq
              go_wp2_with (at_builtin; refine append_u8 rfl (.tmp 36) (.tmp 40) rfl rfl rfl HU.out hown.out hsz ?hl ?_; (case hl => omega); intro v4 w4 hown4 hb4)
              go_roundg (s.size - (i + 1))
              case measure => clear hr2 hr3; omega
              case rel => exact ⟨i + 1, done ++ [s[i]], by clear hr2 hr3; omega, by omega, by go_num, hown4, HF, by rw [List.length_append]; simp; omega, HX.out.below hb4 (by omega), HB.out.trans (hb4.mono (by omega)), by have := hb4.size; omega⟩
          · have hiI : ¬ (i : Int) < (s.size : Int) - 1 := by omega
            have hdn : M = done := by
              have e : (midL s.data.toList).drop (i - 1) = [] := List.drop_of_length_le (by rw [mid_len]; omega)
              rw [hMd.out, e]
              simp [un]
            subst hdn
            have hcv := convert_all hown.out
            rw [← HM.out.2.1] at hcv
            clear hMd
            rcases HC.out with ⟨hm, hE⟩ | ⟨hm, hts, hE⟩ | ⟨hm, hts, hE⟩
            · have HE : Hid (refA s.data.toList = (cl0, 20)) := hE
              rw [hm] at hck
              clear hE hm HC
              go_wp2_with (first
                | (go_at_call 44; refine (hck _).mono ?_; rintro e w2 ⟨rfl, hb2⟩; have hb2' := (below1 wr (.cells #[.int .i64 2, .int .i64 0, .string tm] 42)).trans (hb2.mono (by simp)); have bx2 := HX.out.over hb2'; have cx2 := (box_new wr #[.int .i64 2, .int .i64 0, .string tm] 42).over hb2; have q0 := cx2.cell 0 _ rfl; have q1 := cx2.cell 1 _ rfl; have q2 := cx2.cell 2 _ rfl; have HB2 : Hid (Below w.heap.size w w2) := HB.out.trans (hb2'.mono HB.out.size); clear hb2 hb2'; have F2 := bx2.setRow (ca cl0); have hone := ca_one cl0)
                | (refine wpList_store_row rfl 42 _ _ rfl w.heap.size (ca cl0) rfl rfl 42 _ bx2 size_cell rfl hone ?_))
              rw [HE.out]
              exact bodyPost_ret (res_box_slot Tryd.results38 _ rfl F2 Tryd.underlying42 rfl size_cell (.int .i64 20) rfl) rfl ⟨rfl, below_setRow HB2.out (Nat.le_refl _) _⟩
            · have HE : Hid (refA s.data.toList = (cl0, 20)) := hE
              rw [hm] at hck
              clear hE hm HC
              go_wp2_with (first
                | (go_at_call 44; refine (hck _).mono ?_; rintro e w2 ⟨rfl, hb2⟩; have hb2' := (below1 wr (.cells #[.int .i64 2, .int .i64 0, .string tm] 42)).trans (hb2.mono (by simp)); have bx2 := HX.out.over hb2'; have cx2 := (box_new wr #[.int .i64 2, .int .i64 0, .string tm] 42).over hb2; have q0 := cx2.cell 0 _ rfl; have q1 := cx2.cell 1 _ rfl; have q2 := cx2.cell 2 _ rfl; have HB2 : Hid (Below w.heap.size w w2) := HB.out.trans (hb2'.mono HB.out.size); clear hb2 hb2')
                | (go_at_call 18; refine (hsh _).mono ?_; rintro e w3 ⟨rfl, hb3⟩; have bx3 := bx2.over hb3; have cx3 := cx2.over hb3; have r0 := cx3.cell 0 _ rfl; have r1 := cx3.cell 1 _ rfl; have r2 := cx3.cell 2 _ rfl; have HB3 : Hid (Below w.heap.size w w3) := HB2.out.trans (hb3.mono HB2.out.size); clear hb3; have F3 := bx3.setRow (ca cl0); have hone := ca_one cl0)
                | (refine wpList_store_row rfl 42 _ _ rfl w.heap.size (ca cl0) rfl rfl 42 _ bx3 size_cell rfl hone ?_))
              rw [HE.out]
              exact bodyPost_ret (res_box_slot Tryd.results38 _ rfl F3 Tryd.underlying42 rfl size_cell (.int .i64 20) rfl) rfl ⟨rfl, below_setRow HB3.out (Nat.le_refl _) _⟩
            · have HE : Hid (refA s.data.toList = (txtC tm, 0)) := hE
              rw [hm] at hck
              clear hE hm HC
              go_wp2_with (first
                | (go_at_call 44; refine (hck _).mono ?_; rintro e w2 ⟨rfl, hb2⟩; have hb2' := (below1 wr (.cells #[.int .i64 2, .int .i64 0, .string tm] 42)).trans (hb2.mono (by simp)); have bx2 := HX.out.over hb2'; have cx2 := (box_new wr #[.int .i64 2, .int .i64 0, .string tm] 42).over hb2; have q0 := cx2.cell 0 _ rfl; have q1 := cx2.cell 1 _ rfl; have q2 := cx2.cell 2 _ rfl; have HB2 : Hid (Below w.heap.size w w2) := HB.out.trans (hb2'.mono HB.out.size); clear hb2 hb2')
                | (go_at_call 18; refine (hsh _).mono ?_; rintro e w3 ⟨rfl, hb3⟩; have bx3 := bx2.over hb3; have cx3 := cx2.over hb3; have r0 := cx3.cell 0 _ rfl; have r1 := cx3.cell 1 _ rfl; have r2 := cx3.cell 2 _ rfl; have HB3 : Hid (Below w.heap.size w w3) := HB2.out.trans (hb3.mono HB2.out.size); clear hb3; have F3 := bx3.setRow (ca (txtC tm)); have hone := ca_one (txtC tm))
                | (refine wpList_store_row rfl 42 _ _ rfl w.heap.size (ca (txtC tm)) rfl rfl 42 _ bx3 size_cell rfl hone ?_))
              rw [HE.out]
              exact bodyPost_ret (res_box_slot Tryd.results38 _ rfl F3 Tryd.underlying42 rfl size_cell (.int .i64 0) rfl) rfl ⟨rfl, below_setRow HB3.out (Nat.le_refl _) _⟩
      · have HE : Hid (refA s.data.toList = (cl0, 20)) := refA_not hnull hn2 hq
        have hcase : ((s.size : Int) < 2) ∨ (¬ (s.size : Int) < 2 ∧ ∃ h : 0 < s.size, ((s[0].toNat : Int) == 39) = false ∧ ((s[0].toNat : Int) != 39) = true) := by
          by_cases h2 : (s.size : Int) < 2
          · exact .inl h2
          · refine .inr ⟨h2, by omega, ?_⟩
            have hp : 0 < s.size := by omega
            have hne : s[0].toNat ≠ 39 := fun e => hq ⟨by omega, by
              rw [head_list s hp]
              simp only [List.head?_cons]
              congr 1
              apply UInt8.toNat_inj.1
              rw [e]; rfl⟩
            constructor
            · simp; omega
            · simp; omega
        clear hnull hsl hn2 hq
        rcases hcase with h2 | ⟨h2, hp, h3, h4⟩
        all_goals
          go_enter Tryd.func38, Tryd.ntmps38
          go_wp2_with (first
            | (go_at_call 43; refine hnm.mono ?_; rintro e w1 ⟨rfl, hb1⟩; have bx1 := bx0.over hb1; have HB1 : Hid (Below w.heap.size w w1) := (below1 _ _).trans (hb1.mono (by simp)); clear hb1; have F1 := bx1.setRow (ca cl0); have hone := ca_one cl0)
            | (refine wpList_store_row rfl 42 _ _ rfl w.heap.size (ca cl0) rfl rfl 42 _ bx1 size_cell rfl hone ?_))
          rw [HE.out]
          exact bodyPost_ret (res_box_slot Tryd.results38 _ rfl F1 Tryd.underlying42 rfl size_cell (.int .i64 20) rfl) rfl ⟨rfl, below_setRow HB1.out (Nat.le_refl _) _⟩
end Go.Proofs.YtoccbfgcmaahcaaDoor
/-
  Tokens of bytes: words, numbers, texts and signs, one behind the other, or where one is none. No program is spoken of.
-/
namespace Go.Proofs.YtoccbfgcmaahcaaDoor
open Go.RowKit

/-- A token: 1 a word, 2 a number, 3 a text, 4 a sign, 0 the end. -/
structure Tk where
  k : Int
  s : List UInt8
  n : Int
  p : Nat
def dgB (c : UInt8) : Bool := decide (48 ≤ c.toNat) && decide (c.toNat ≤ 57)
def ltB (c : UInt8) : Bool := decide (97 ≤ c.toNat) && decide (c.toNat ≤ 122)
def wdB (c : UInt8) : Bool := dgB c || (ltB c || c == 95)
def bkB (c : UInt8) : Bool := c == 32 || (c == 9 || (c == 10 || c == 13))
/-- How many bytes ahead have a property. -/
def spn (q : UInt8 → Bool) : List UInt8 → Nat
  | [] => 0
  | c :: r => if q c = true then spn q r + 1 else 0
/-- Digits without noughts ahead, but for the last one. -/
def strip : List UInt8 → List UInt8
  | [] => []
  | c :: r => if c = 48 ∧ r ≠ [] then strip r else c :: r
/-- Whether - stands ahead (1 or 0), how many digits follow, and what is read as a number (so -0 is none: no cell is shown so). -/
def ngL (l : List UInt8) : Nat := if l.head? = some 45 then 1 else 0
def dgL (l : List UInt8) : Nat := spn dgB (l.drop (ngL l))
def stL (l : List UInt8) : List UInt8 := strip ((l.drop (ngL l)).take (dgL l))
def utL (l : List UInt8) : List UInt8 := if ngL l = 1 then 45 :: stL l else stL l
/-- The number that bytes begin with, and how many bytes it has. -/
def numL (l : List UInt8) : Option (Int × Nat) :=
  if dgL l = 0 then none else if (readA (utL l)).2 = 0 then some ((readA (utL l)).1.n, ngL l + dgL l) else none
/-- Behind a quote: what the text says, and how many bytes it has with the quote at its end. -/
def qtL : List UInt8 → Option (List UInt8 × Nat)
  | [] => none
  | [c] => if c = 39 then some ([], 1) else none
  | c :: d :: r =>
    if c = 39 then (if d = 39 then (qtL r).map fun x => (39 :: x.1, x.2 + 2) else some ([], 1))
    else (qtL (d :: r)).map fun x => (c :: x.1, x.2 + 1)
/-- How many bytes the sign has that bytes begin with; 0: none. -/
def sgL : List UInt8 → Nat
  | [] => 0
  | c :: r => if (c = 60 ∧ (r.head? = some 61 ∨ r.head? = some 62)) ∨ (c = 62 ∧ r.head? = some 61) then 2 else if c = 40 ∨ c = 41 ∨ c = 44 ∨ c = 46 ∨ c = 42 ∨ c = 61 ∨ c = 60 ∨ c = 62 then 1 else 0
/-- The token that bytes begin with, at a place, and how many bytes it has. -/
def oneL (l : List UInt8) (p : Nat) : Option (Tk × Nat) :=
  match l with
  | [] => none
  | c :: r =>
    if ltB c = true then some (⟨1, (c :: r).take (spn wdB (c :: r)), 0, p⟩, spn wdB (c :: r))
    else if dgB c = true ∨ c = 45 then (numL (c :: r)).map fun x => (⟨2, [], x.1, p⟩, x.2)
    else if c = 39 then (match qtL r with
      | some x => if x.1.length ≤ 32 then some (⟨3, x.1, 0, p⟩, x.2 + 1) else none
      | none => none)
    else if sgL (c :: r) = 0 then none else some (⟨4, (c :: r).take (sgL (c :: r)), 0, p⟩, sgL (c :: r))
/-- All tokens from a place on, or where one is none. -/
def toksF : Nat → List UInt8 → Nat → List Tk × Option Nat
  | 0, _, p => ([⟨0, [], 0, p⟩], none)
  | _ + 1, [], p => ([⟨0, [], 0, p⟩], none)
  | g + 1, c :: r, p =>
    if bkB c = true then toksF g r (p + 1)
    else match oneL (c :: r) p with
      | none => ([], some p)
      | some (t, n) => let x := toksF g ((c :: r).drop n) (p + n); (t :: x.1, x.2)
def toksL (l : List UInt8) : List Tk × Option Nat := toksF l.length l 0
/-- What Tokens answers: the tokens, where one is none, the error. -/
def tokensA (l : List UInt8) : List Tk × Int × Int :=
  if 1024 < l.length then ([], 0, 4) else match (toksL l).2 with
    | some p => ([], p, 300)
    | none => ((toksL l).1, 0, 0)

theorem spn_le (q : UInt8 → Bool) : ∀ l : List UInt8, spn q l ≤ l.length
  | [] => Nat.le_refl _
  | c :: r => by have := spn_le q r; simp only [spn]; split <;> simp <;> omega
theorem spn_at (q : UInt8 → Bool) : ∀ (l : List UInt8) (i : Nat), i < spn q l → ∃ c, l[i]? = some c ∧ q c = true
  | [], i, h => by simp [spn] at h
  | c :: r, i, h => by
    simp only [spn] at h
    split at h
    · rename_i hc
      cases i with
      | zero => exact ⟨c, rfl, hc⟩
      | succ i => obtain ⟨d, h1, h2⟩ := spn_at q r i (by omega); exact ⟨d, by simpa using h1, h2⟩
    · omega
/-- A span ends where the property ends. -/
theorem spn_is (q : UInt8 → Bool) : ∀ (l : List UInt8) (n : Nat), n ≤ l.length → (∀ i, i < n → ∃ c, l[i]? = some c ∧ q c = true) → (∀ c, l[n]? = some c → q c = false) → spn q l = n
  | [], n, h, _, _ => by simp at h; simp [spn, h]
  | c :: r, 0, _, _, h => by have := h c (by simp); simp [spn, this]
  | c :: r, n + 1, h, h1, h2 => by
    obtain ⟨d, hd, hq⟩ := h1 0 (by omega)
    simp at hd; subst hd
    simp only [spn]; rw [if_pos hq, spn_is q r n (by simpa using h) (fun i hi => by obtain ⟨d, hd, hq⟩ := h1 (i + 1) (by omega); exact ⟨d, by simpa using hd, hq⟩) (fun c hc => h2 c (by simpa using hc))]
theorem strip_ne : ∀ l : List UInt8, l ≠ [] → strip l ≠ []
  | [], h => absurd rfl h
  | c :: r, _ => by
    simp only [strip]; split
    · rename_i h; exact strip_ne r h.2
    · simp
theorem strip_len : ∀ l : List UInt8, (strip l).length ≤ l.length
  | [] => Nat.le_refl _
  | c :: r => by
    have := strip_len r
    simp only [strip]; split
    · simp; omega
    · exact Nat.le_refl _
theorem qtL_len : ∀ (k : Nat) (l : List UInt8), l.length ≤ k → ∀ x, qtL l = some x → x.1.length + 1 ≤ x.2 ∧ x.2 ≤ l.length
  | _, [], _, x, h => by simp [qtL] at h
  | _, [c], _, x, h => by
    simp only [qtL] at h; split at h
    · cases h; simp
    · cases h
  | 0, c :: d :: r, hk, x, h => by simp at hk
  | k + 1, c :: d :: r, hk, x, h => by
    simp at hk
    simp only [qtL] at h
    split at h
    · split at h
      · cases e : qtL r with
        | none => rw [e] at h; simp at h
        | some y =>
          rw [e] at h; simp at h; subst h
          have := qtL_len k r (by omega) y e
          simp; omega
      · cases h; simp
    · cases e : qtL (d :: r) with
      | none => rw [e] at h; simp at h
      | some y =>
        rw [e] at h; simp at h; subst h
        have := qtL_len k (d :: r) (by simp; omega) y e
        simp at this ⊢; omega
theorem sgL_le (l : List UInt8) : sgL l ≤ l.length := by
  cases l with
  | nil => exact Nat.le_refl _
  | cons c r =>
    simp only [sgL]; split
    · rename_i h
      cases r with
      | nil => simp at h
      | cons d r => simp
    · split <;> simp
theorem numL_len {l : List UInt8} {x : Int × Nat} (h : numL l = some x) : 1 ≤ x.2 ∧ x.2 ≤ l.length := by
  have h1 : dgL l ≤ (l.drop (ngL l)).length := spn_le _ _
  rw [List.length_drop] at h1
  unfold numL at h
  split at h
  · exact absurd h (by simp)
  · rename_i h0
    split at h
    · have e := Option.some.inj h
      subst e
      simp only
      omega
    · exact absurd h (by simp)
theorem oneL_len {l : List UInt8} {p : Nat} {t : Tk} {n : Nat} (h : oneL l p = some (t, n)) : 1 ≤ n ∧ n ≤ l.length := by
  cases l with
  | nil => simp [oneL] at h
  | cons c r =>
    simp only [oneL] at h
    split at h
    · rename_i hc
      cases h
      refine ⟨?_, spn_le _ _⟩
      simp only [spn]; rw [if_pos (by unfold wdB; rw [hc]; simp)]; omega
    · split at h
      · cases e : numL (c :: r) with
        | none => rw [e] at h; simp at h
        | some x => rw [e] at h; simp at h; obtain ⟨_, rfl⟩ := h; exact numL_len e
      · split at h
        · cases e : qtL r with
          | none => rw [e] at h; simp at h
          | some x =>
            rw [e] at h; simp only at h; split at h
            · cases h
              have := qtL_len r.length r (Nat.le_refl _) x e
              simp; omega
            · cases h
        · split at h
          · cases h
          · cases h; exact ⟨by omega, sgL_le _⟩
theorem toksF_nil (g p : Nat) : toksF g [] p = ([⟨0, [], 0, p⟩], none) := by cases g <;> rfl
/-- More room than bytes changes nothing. -/
theorem toksF_fix : ∀ (g : Nat) (l : List UInt8) (p g' : Nat), l.length ≤ g → l.length ≤ g' → toksF g l p = toksF g' l p := by
  intro g
  induction g with
  | zero => intro l p g' h _; have : l = [] := List.eq_nil_of_length_eq_zero (by omega); subst this; rw [toksF_nil, toksF_nil]
  | succ g ih =>
    intro l p g' h h'
    cases l with
    | nil => rw [toksF_nil, toksF_nil]
    | cons c r =>
      cases g' with
      | zero => simp at h'
      | succ g' =>
        simp only [List.length_cons] at h h'
        simp only [toksF]
        split
        · exact ih r (p + 1) g' (by omega) (by omega)
        · cases e : oneL (c :: r) p with
          | none => rfl
          | some x =>
            obtain ⟨t, n⟩ := x
            have hn := oneL_len e
            have hd : ((c :: r).drop n).length ≤ r.length := by rw [List.length_drop]; simp; omega
            simp only [ih ((c :: r).drop n) (p + n) g' (by omega) (by omega)]
/-- All tokens of what is left. -/
def toksP (l : List UInt8) (p : Nat) : List Tk × Option Nat := toksF l.length l p
theorem toksP_nil (p : Nat) : toksP [] p = ([⟨0, [], 0, p⟩], none) := rfl
theorem toksP_blank {c : UInt8} (h : bkB c = true) (r : List UInt8) (p : Nat) : toksP (c :: r) p = toksP r (p + 1) := by
  unfold toksP; simp only [List.length_cons, toksF]; rw [if_pos h]
theorem toksP_no {c : UInt8} (h : bkB c = false) {r : List UInt8} {p : Nat} (e : oneL (c :: r) p = none) : toksP (c :: r) p = ([], some p) := by
  unfold toksP; simp only [List.length_cons, toksF]; rw [if_neg (by rw [h]; simp), e]
theorem toksP_one {c : UInt8} (h : bkB c = false) {r : List UInt8} {p : Nat} {t : Tk} {n : Nat} (e : oneL (c :: r) p = some (t, n)) : toksP (c :: r) p = (t :: (toksP ((c :: r).drop n) (p + n)).1, (toksP ((c :: r).drop n) (p + n)).2) := by
  have hn := oneL_len e
  have hd : ((c :: r).drop n).length ≤ r.length := by rw [List.length_drop]; simp; omega
  unfold toksP; simp only [List.length_cons, toksF]; rw [if_neg (by rw [h]; simp), e]
  simp only [toksF_fix r.length ((c :: r).drop n) (p + n) _ hd (Nat.le_refl _)]
end Go.Proofs.YtoccbfgcmaahcaaDoor
/-
  The contracts of the document's digit, letter and span.
-/
namespace Go.Proofs.YtoccbfgcmaahcaaDoor
open Go.RowKit

theorem ret_bool2 {a b : Bool} (h : b = a) : Ending.returned (.bool a) = .returned (.bool b) := by rw [h]
theorem dg_yes {c : UInt8} (h1 : (48 : Int) ≤ (c.toNat : Int)) (h2 : (c.toNat : Int) ≤ 57) : dgB c = true := by
  unfold dgB; rw [decide_eq_true (by omega), decide_eq_true (by omega)]; rfl
theorem dg_no {c : UInt8} (h : ¬ ((48 : Int) ≤ (c.toNat : Int) ∧ (c.toNat : Int) ≤ 57)) : dgB c = false := by
  cases e : dgB c with
  | false => rfl
  | true => unfold dgB at e; simp at e; omega
theorem lt_yes {c : UInt8} (h1 : (97 : Int) ≤ (c.toNat : Int)) (h2 : (c.toNat : Int) ≤ 122) : ltB c = true := by
  unfold ltB; rw [decide_eq_true (by omega), decide_eq_true (by omega)]; rfl
theorem lt_no {c : UInt8} (h : ¬ ((97 : Int) ≤ (c.toNat : Int) ∧ (c.toNat : Int) ≤ 122)) : ltB c = false := by
  cases e : ltB c with
  | false => rfl
  | true => unfold ltB at e; simp at e; omega

end Go.Proofs.YtoccbfgcmaahcaaDoor
/-
  The contract of the document's span.
-/
namespace Go.Proofs.YtoccbfgcmaahcaaDoor
open Go.RowKit

def qW (b : Bool) (c : UInt8) : Bool := if b = true then wdB c else dgB c
theorem spn_stop {q : UInt8 → Bool} {l : List UInt8} {n : Nat} (hn : n ≤ spn q l) (h : ∀ c, l[n]? = some c → q c = false) : spn q l = n :=
  spn_is q l n (by have := spn_le q l; omega) (fun i hi => spn_at q l i (by omega)) h
theorem spn_more {q : UInt8 → Bool} {l : List UInt8} {n : Nat} {c : UInt8} (hn : n ≤ spn q l) (hc : l[n]? = some c) (hq : q c = true) : n + 1 ≤ spn q l := by
  by_cases e : n = spn q l
  · exfalso
    have h3 : spn q l < l.length := by have := (List.getElem?_eq_some_iff.1 hc).1; omega
    have h4 : ∀ (l : List UInt8) (c : UInt8), l[spn q l]? = some c → q c = false := by
      intro l
      induction l with
      | nil => intro c h; simp at h
      | cons d r ih =>
        intro c h
        simp only [spn] at h
        split at h
        · exact ih c (by simpa using h)
        · rename_i hd
          simp at h; subst h
          simpa using hd
    rw [e] at hc
    rw [h4 l c hc] at hq
    cases hq
  · omega
theorem at_drop (s : ByteArray) (a n : Nat) (h : a + n < s.size) : (s.data.toList.drop a)[n]? = some (s[a + n]'h) := by
  rw [List.getElem?_drop, List.getElem?_eq_getElem (by rw [← Lib.size_eq]; exact h)]
  rfl
theorem at_end (s : ByteArray) (a n : Nat) (h : ¬ a + n < s.size) : (s.data.toList.drop a)[n]? = none := by
  rw [List.getElem?_drop, List.getElem?_eq_none (by rw [← Lib.size_eq]; omega)]

theorem u8_beq (c d : UInt8) : (c == d) = ((c.toNat : Int) == (d.toNat : Int)) := by
  rw [Bool.eq_iff_iff]
  simp only [beq_iff_eq]
  constructor
  · intro e; rw [e]
  · intro e; exact UInt8.toNat_inj.1 (by omega)
end Go.Proofs.YtoccbfgcmaahcaaDoor
/-
  The contract of the document's number.
-/
namespace Go.Proofs.YtoccbfgcmaahcaaDoor
open Go.RowKit

def tv (t : Tk) : Value := .agg #[.int .i64 t.k, .string (str t.s), .int .i64 t.n, .int .i64 t.p]
def tk0 : Tk := ⟨0, [], 0, 0⟩
def ansT (x : Option (Tk × Nat)) : Value := match x with
  | some (t, n) => .tuple #[tv t, .int .i64 n]
  | none => .tuple #[tv tk0, .int .i64 0]
theorem size_tok : (Tryd.prog.info? 32).map (·.size) = some 4 := by kernel_rfl
theorem strip_step {l : List UInt8} {k n : Nat} (hn : k + 1 < n) (hl : n ≤ l.length) (h : l[k]? = some 48) : strip ((l.take n).drop k) = strip ((l.take n).drop (k + 1)) := by
  have hk : k < (l.take n).length := by rw [List.length_take]; omega
  have hk1 : k + 1 < (l.take n).length := by rw [List.length_take]; omega
  have e : (l.take n)[k] = 48 := by
    have := List.getElem?_eq_getElem hk
    rw [List.getElem?_take_of_lt (by omega), h] at this
    exact (Option.some.inj this).symm
  rw [List.drop_eq_getElem_cons hk]
  simp only [strip]
  rw [if_pos ⟨e, by rw [List.drop_eq_getElem_cons hk1]; simp⟩]
theorem strip_stop {l : List UInt8} {k n : Nat} (hk : k < n) (hl : n ≤ l.length) (h : k + 1 = n ∨ l[k]? ≠ some 48) : strip ((l.take n).drop k) = (l.take n).drop k := by
  have hk0 : k < (l.take n).length := by rw [List.length_take]; omega
  rw [List.drop_eq_getElem_cons hk0]
  simp only [strip]
  rw [if_neg]
  rintro ⟨e, h2⟩
  rcases h with h | h
  · apply h2
    rw [List.drop_eq_nil_iff, List.length_take]; omega
  · apply h
    have := List.getElem?_eq_getElem hk0
    rw [List.getElem?_take_of_lt (by omega)] at this
    rw [this, e]

theorem qW_no : qW false = dgB := by funext c; simp [qW]
theorem qW_yes : qW true = wdB := by funext c; simp [qW]
theorem head_at (s : ByteArray) (a : Nat) (h : a < s.size) : (s.data.toList.drop a).head? = some (s[a]'h) := by
  have := at_drop s a 0 h
  simpa [List.head?_eq_getElem?] using this
theorem ext_list (s : ByteArray) (p q : Nat) : (s.extract p q).data.toList = (s.data.toList.drop p).take (q - p) := by
  rw [Lib.extract_data]
theorem size_cellC : (Tryd.prog.info? 42).map (·.size) = some 3 := by kernel_rfl
theorem tok_one (a b c : Int) (s : ByteArray) : (#[Value.int .i64 a, .string s, .int .i64 b, .int .i64 c] : Array Value).all (·.oneCell') = true := by simp [Value.oneCell']
theorem ans_num {x : Option (Int × Nat)} {v : Int} {k a : Nat} {z : Int} (h : x = some (v, k)) (hz : z = (k : Int)) : Ending.returned (.tuple #[.agg #[.int .i64 2, .string ⟨#[]⟩, .int .i64 v, .int .i64 a], .int .i64 z]) = .returned (ansT (x.map fun x => (⟨2, [], x.1, a⟩, x.2))) := by
  subst h hz; rfl
theorem ans_no {x : Option (Int × Nat)} {a : Nat} (h : x = none) : Ending.returned (.tuple #[.agg #[.int .i64 0, .string ⟨#[]⟩, .int .i64 0, .int .i64 0], .int .i64 0]) = .returned (ansT (x.map fun x => (⟨2, [], x.1, a⟩, x.2))) := by
  subst h; rfl
theorem ext_size {s : ByteArray} {p q : Nat} : (s.extract p q).size ≤ s.size := by
  rw [Lib.size_eq, ext_list, List.length_take, List.length_drop, Lib.size_eq]; omega
theorem ext_size2 {s : ByteArray} {p q : Nat} : (s.extract p q).size ≤ q - p := by
  rw [Lib.size_eq, ext_list, List.length_take]; omega
theorem minus_list (t : ByteArray) : ((⟨#[45]⟩ : ByteArray) ++ t).data.toList = 45 :: t.data.toList := by simp
theorem drop_take_ext (s : ByteArray) (a f k n : Nat) (hk : k ≤ n) : (((s.data.toList.drop a).drop f).take n).drop k = (s.extract (a + f + k) (a + f + n)).data.toList := by
  rw [ext_list, List.drop_take, List.drop_drop, List.drop_drop, show a + f + n - (a + f + k) = n - k by omega, show a + (f + k) = a + f + k by omega]
end Go.Proofs.YtoccbfgcmaahcaaDoor
/-
  The kind of a byte, and how many bytes ahead are of kinds that a closure lets be: the contracts of package lex's kindOf, of its closures, and of run.
-/
namespace Go.Proofs.YtoccbfgcmaahcaaDoor
open Go.RowKit

/-- A byte's kind. -/
def kd0 (c : UInt8) : Int :=
  if bkB c = true then 1 else if c = 95 then 2 else if c = 45 then 5 else if c = 39 then 6 else if c = 40 ∨ c = 41 ∨ c = 44 ∨ c = 46 ∨ c = 42 ∨ c = 61 then 7 else if c = 62 then 8 else if c = 60 then 9 else if ltB c = true then 3 else if dgB c = true then 4 else 0
theorem kd_ways (c : UInt8) : ((c = 32 ∨ c = 9 ∨ c = 10 ∨ c = 13) ∨ c = 95 ∨ c = 45 ∨ c = 39) ∨ ((c = 40 ∨ c = 41 ∨ c = 44 ∨ c = 46 ∨ c = 42 ∨ c = 61) ∨ c = 62 ∨ c = 60) ∨
    (¬ c = 32 ∧ ¬ c = 9 ∧ ¬ c = 10 ∧ ¬ c = 13 ∧ ¬ c = 95 ∧ ¬ c = 45 ∧ ¬ c = 39 ∧ ¬ c = 40 ∧ ¬ c = 41 ∧ ¬ c = 44 ∧ ¬ c = 46 ∧ ¬ c = 42 ∧ ¬ c = 61 ∧ ¬ c = 62 ∧ ¬ c = 60) := by
  by_cases h1 : c = 32 ∨ c = 9 ∨ c = 10 ∨ c = 13
  · exact .inl (.inl h1)
  · by_cases h2 : c = 95 ∨ c = 45 ∨ c = 39
    · exact .inl (.inr h2)
    · by_cases h3 : c = 40 ∨ c = 41 ∨ c = 44 ∨ c = 46 ∨ c = 42 ∨ c = 61
      · exact .inr (.inl (.inl h3))
      · by_cases h4 : c = 62 ∨ c = 60
        · exact .inr (.inl (.inr h4))
        · right; right
          simp only [not_or] at h1 h2 h3 h4
          exact ⟨h1.1, h1.2.1, h1.2.2.1, h1.2.2.2, h2.1, h2.2.1, h2.2.2, h3.1, h3.2.1, h3.2.2.1, h3.2.2.2.1, h3.2.2.2.2.1, h3.2.2.2.2.2, h4.1, h4.2⟩
theorem u8_no {c d : UInt8} (h : ¬ c = d) : ((c.toNat : Int) == (d.toNat : Int)) = false := by
  rw [← u8_beq]; simpa using h
theorem ret_kd {a b : Int} (h : b = a) : Ending.returned (.int .i64 a) = .returned (.int .i64 b) := by rw [h]

set_option maxHeartbeats 4000000 in
set_option maxRecDepth 4000 in
theorem kindOf_any (c : UInt8) (w : World) :
    Calls Tryd.prog 14 #[.int .u8 c.toNat] w fun e w' => e = .returned (.int .i64 (kd0 c)) ∧ w' = w := by
  rcases kd_ways c with ((rfl | rfl | rfl | rfl) | rfl | rfl | rfl) | ((rfl | rfl | rfl | rfl | rfl | rfl) | rfl | rfl) | hn
  case inr.inr =>
    have hno : bkB c = false ∧ (c = 95) = False ∧ (c = 45) = False ∧ (c = 39) = False ∧ (c = 40 ∨ c = 41 ∨ c = 44 ∨ c = 46 ∨ c = 42 ∨ c = 61) = False ∧ (c = 62) = False ∧ (c = 60) = False := by
      obtain ⟨a1, a2, a3, a4, a5, a6, a7, a8, a9, a10, a11, a12, a13, a14, a15⟩ := hn
      refine ⟨?_, by simp [a5], by simp [a6], by simp [a7], by simp [a8, a9, a10, a11, a12, a13], by simp [a14], by simp [a15]⟩
      unfold bkB; simp [a1, a2, a3, a4]
    have hk : kd0 c = if ltB c = true then 3 else if dgB c = true then 4 else 0 := by
      unfold kd0
      rw [if_neg (by rw [hno.1]; simp), if_neg (by rw [hno.2.1]; exact id), if_neg (by rw [hno.2.2.1]; exact id), if_neg (by rw [hno.2.2.2.1]; exact id), if_neg (by rw [hno.2.2.2.2.1]; exact id), if_neg (by rw [hno.2.2.2.2.2.1]; exact id), if_neg (by rw [hno.2.2.2.2.2.2]; exact id)]
    obtain ⟨a1, a2, a3, a4, a5, a6, a7, a8, a9, a10, a11, a12, a13, a14, a15⟩ := hn
    replace a1 : ((c.toNat : Int) == 32) = false := u8_no a1
    replace a2 : ((c.toNat : Int) == 9) = false := u8_no a2
    replace a3 : ((c.toNat : Int) == 10) = false := u8_no a3
    replace a4 : ((c.toNat : Int) == 13) = false := u8_no a4
    replace a5 : ((c.toNat : Int) == 95) = false := u8_no a5
    replace a6 : ((c.toNat : Int) == 45) = false := u8_no a6
    replace a7 : ((c.toNat : Int) == 39) = false := u8_no a7
    replace a8 : ((c.toNat : Int) == 40) = false := u8_no a8
    replace a9 : ((c.toNat : Int) == 41) = false := u8_no a9
    replace a10 : ((c.toNat : Int) == 44) = false := u8_no a10
    replace a11 : ((c.toNat : Int) == 46) = false := u8_no a11
    replace a12 : ((c.toNat : Int) == 42) = false := u8_no a12
    replace a13 : ((c.toNat : Int) == 61) = false := u8_no a13
    replace a14 : ((c.toNat : Int) == 62) = false := u8_no a14
    replace a15 : ((c.toNat : Int) == 60) = false := u8_no a15
    clear hno
    by_cases h1 : (97 : Int) ≤ (c.toNat : Int)
    · by_cases h2 : (c.toNat : Int) ≤ 122
      · have HE : Hid (kd0 c = 3) := by unfold Hid; rw [hk, if_pos (lt_yes h1 h2)]
        clear hk
        go_enter Tryd.func14, Tryd.ntmps14
        go_wp2_with fail
        go_ret
        exact ⟨ret_kd HE.out, rfl⟩
      · have HE : Hid (kd0 c = 0) := by unfold Hid; rw [hk, if_neg (by rw [lt_no (by omega)]; simp), if_neg (by rw [dg_no (by omega)]; simp)]
        have h3 : ¬ (c.toNat : Int) ≤ 57 := by omega
        have h4 : (48 : Int) ≤ (c.toNat : Int) := by omega
        clear hk
        go_enter Tryd.func14, Tryd.ntmps14
        go_wp2_with fail
        go_ret
        exact ⟨ret_kd HE.out, rfl⟩
    · by_cases h2 : (48 : Int) ≤ (c.toNat : Int)
      · by_cases h3 : (c.toNat : Int) ≤ 57
        · have HE : Hid (kd0 c = 4) := by unfold Hid; rw [hk, if_neg (by rw [lt_no (by omega)]; simp), if_pos (dg_yes h2 h3)]
          clear hk
          go_enter Tryd.func14, Tryd.ntmps14
          go_wp2_with fail
          go_ret
          exact ⟨ret_kd HE.out, rfl⟩
        · have HE : Hid (kd0 c = 0) := by unfold Hid; rw [hk, if_neg (by rw [lt_no (by omega)]; simp), if_neg (by rw [dg_no (by omega)]; simp)]
          clear hk
          go_enter Tryd.func14, Tryd.ntmps14
          go_wp2_with fail
          go_ret
          exact ⟨ret_kd HE.out, rfl⟩
      · have HE : Hid (kd0 c = 0) := by unfold Hid; rw [hk, if_neg (by rw [lt_no (by omega)]; simp), if_neg (by rw [dg_no (by omega)]; simp)]
        clear hk
        go_enter Tryd.func14, Tryd.ntmps14
        go_wp2_with fail
        go_ret
        exact ⟨ret_kd HE.out, rfl⟩
  all_goals
    go_enter Tryd.func14, Tryd.ntmps14
    go_wp2_with fail
    go_ret
    exact ⟨ret_kd (by decide), rfl⟩

/-- The closures. -/
def isW (k : Int) : Bool := k == 3 || (k == 4 || k == 2)
def isD (k : Int) : Bool := k == 4
def isN (k : Int) : Bool := k != 6
set_option maxRecDepth 4000 in
theorem clW_any (k : Int) (w : World) : Calls Tryd.prog 21 #[.int .i64 k] w fun e w' => e = .returned (.bool (isW k)) ∧ w' = w := by
  obtain ⟨x, hx⟩ : ∃ x, (k == 3) = x := ⟨_, rfl⟩
  obtain ⟨y, hy⟩ : ∃ y, (k == 4) = y := ⟨_, rfl⟩
  obtain ⟨z, hz⟩ : ∃ z, (k == 2) = z := ⟨_, rfl⟩
  have HE : Hid (isW k = (x || (y || z))) := by unfold Hid isW; rw [hx, hy, hz]
  have hways : x = true ∨ (x = false ∧ y = true) ∨ (x = false ∧ y = false) := by cases x <;> cases y <;> simp
  rcases hways with rfl | ⟨rfl, rfl⟩ | ⟨rfl, rfl⟩
  all_goals
    go_enter Tryd.func21, Tryd.ntmps21
    go_wp2_with fail
    go_ret
    exact ⟨ret_bool2 (by rw [HE.out]; simp), rfl⟩
set_option maxRecDepth 4000 in
theorem clD_any (k : Int) (w : World) : Calls Tryd.prog 22 #[.int .i64 k] w fun e w' => e = .returned (.bool (isD k)) ∧ w' = w := by
  obtain ⟨x, hx⟩ : ∃ x, (k == 4) = x := ⟨_, rfl⟩
  have HE : Hid (isD k = x) := hx
  go_enter Tryd.func22, Tryd.ntmps22
  go_wp2_with fail
  go_ret
  exact ⟨ret_bool2 HE.out, rfl⟩
set_option maxRecDepth 4000 in
theorem clN_any (k : Int) (w : World) : Calls Tryd.prog 36 #[.int .i64 k] w fun e w' => e = .returned (.bool (isN k)) ∧ w' = w := by
  have HE : Hid (isN k = (k != 6)) := rfl
  go_enter Tryd.func36, Tryd.ntmps36
  go_wp2_with fail
  go_ret
  exact ⟨ret_bool2 HE.out, rfl⟩

theorem at_get (s : ByteArray) (n : Nat) (h : n < s.size) : s.data.toList[n]? = some (s[n]'h) := by
  have := at_drop s 0 n (by omega)
  simpa using this
set_option maxHeartbeats 4000000 in
set_option maxRecDepth 4000 in
theorem run_any (s : ByteArray) (hs : s.size ≤ 100000) (g : Nat) (q : Int → Bool) (eg : ∀ args w, (callFunc g args).run Tryd.prog w = .ok (.enter g args) w)
    (hcl : ∀ k w, Calls Tryd.prog g #[.int .i64 k] w fun e w' => e = .returned (.bool (q k)) ∧ w' = w) (w : World) :
    Calls Tryd.prog 20 #[.string s, .func (.func g) #[] #[]] w fun e w' => e = .returned (.int .i64 (spn (fun c => q (kd0 c)) s.data.toList)) ∧ w' = w := by
  obtain ⟨m, hm⟩ : ∃ m, m = spn (fun c => q (kd0 c)) s.data.toList := ⟨_, rfl⟩
  have HM : Hid (m = spn (fun c => q (kd0 c)) s.data.toList) := hm
  rw [← hm]
  have hml : m ≤ s.size := by have := spn_le (fun c => q (kd0 c)) s.data.toList; rw [← Lib.size_eq] at this; omega
  have HML : Hid (m ≤ s.size) := hml
  have HCL : Hid (∀ k w, Calls Tryd.prog g #[.int .i64 k] w fun e w' => e = .returned (.bool (q k)) ∧ w' = w) := hcl
  clear hm hcl hml
  go_enter Tryd.func20, Tryd.ntmps20
  go_wp2_with fail
  go_loopg [8] (s.size + 1) (fun gg s8 wx => ∃ n : Nat, n + gg = s.size + 1 ∧ s8 = .int .i64 n ∧ Hid (n ≤ m) ∧ wx = w)
  case atStart => exact ⟨0, by omega, rfl, Nat.zero_le _, rfl⟩
  case round =>
    obtain ⟨n, hng, rfl, HN, rfl⟩ := hrel
    have HG : Hid (n + gk = s.size + 1) := hng
    have hr2 : IntKind.i64.wrap ((n : Int) + 1) = (n : Int) + 1 := by rw [IntKind.wrap_i64]; have := HML.out; have := HN.out; omega
    by_cases hi : n < s.size
    · have hiI : (n : Int) < (s.size : Int) := by omega
      have hat : s.data.toList[n]? = some s[n] := at_get s n hi
      have hkd := fun W => kindOf_any s[n] W
      obtain ⟨k, hk⟩ : ∃ k, kd0 s[n] = k := ⟨_, rfl⟩
      rw [hk] at hkd
      have hc := fun W => HCL.out k W
      obtain ⟨t, ht⟩ : ∃ t, q k = t := ⟨_, rfl⟩
      rw [ht] at hc
      cases t with
      | true =>
        have HK : Hid (n + 1 ≤ m) := by
          have h := HN.out
          unfold Hid
          rw [HM.out] at h ⊢
          exact spn_more h hat (by show q (kd0 s[n]) = true; rw [hk, ht])
        clear hat hk ht hng
        go_wp2_with fail
        refine (hkd _).mono ?_
        rintro e w1 ⟨rfl, hw⟩
        replace hw := hw.symm
        subst hw
        go_wp2_with fail
        refine (hc _).mono ?_
        rintro e w1 ⟨rfl, hw⟩
        replace hw := hw.symm
        subst hw
        go_wp2_with fail
        go_roundg (s.size + 1 - (n + 1))
        case measure => clear hr2; have := HG.out; omega
        case rel => exact ⟨n + 1, by clear hr2; omega, by go_num, HK, rfl⟩
      | false =>
        have HK : Hid (m = n) := by
          have h := HN.out
          unfold Hid
          rw [HM.out] at h ⊢
          exact spn_stop h (fun c hc => by rw [hat] at hc; cases hc; show q (kd0 s[n]) = false; rw [hk, ht])
        clear hat hk ht hng
        go_wp2_with fail
        refine (hkd _).mono ?_
        rintro e w1 ⟨rfl, hw⟩
        replace hw := hw.symm
        subst hw
        go_wp2_with fail
        refine (hc _).mono ?_
        rintro e w1 ⟨rfl, hw⟩
        replace hw := hw.symm
        subst hw
        go_wp2_with fail
        go_ret
        exact ⟨retI (by rw [HK.out]), rfl⟩
    · have hiI : ¬ (n : Int) < (s.size : Int) := by omega
      have hmn : Hid (m = s.size) := by
        unfold Hid
        have h := HN.out
        have := HML.out
        omega
      clear hng
      go_wp2_with fail
      go_ret
      exact ⟨retI (by rw [hmn.out]), rfl⟩
end Go.Proofs.YtoccbfgcmaahcaaDoor
/-
  The contract of the document's text.
-/
namespace Go.Proofs.YtoccbfgcmaahcaaDoor
open Go.RowKit

theorem qt_one {c : UInt8} (h : ¬ c = 39) (r : List UInt8) : qtL (c :: r) = (qtL r).map fun x => (c :: x.1, x.2 + 1) := by
  cases r with
  | nil => simp [qtL, h]
  | cons d r => simp only [qtL]; rw [if_neg h]
theorem qt_two (r : List UInt8) : qtL (39 :: 39 :: r) = (qtL r).map fun x => (39 :: x.1, x.2 + 2) := by
  simp [qtL]
theorem qt_end {r : List UInt8} (h : r.head? ≠ some 39) : qtL (39 :: r) = some ([], 1) := by
  cases r with
  | nil => simp [qtL]
  | cons d r =>
    simp only [qtL]
    rw [if_pos trivial, if_neg]
    intro e; subst e; exact h rfl
/-- The text that bytes begin with behind its quote. -/
def txL (r : List UInt8) (p : Nat) : Option (Tk × Nat) := match qtL r with
  | some x => if x.1.length ≤ 32 then some (⟨3, x.1, 0, p⟩, x.2 + 1) else none
  | none => none
/-- How far a text was read. -/
def QtAt (R : List UInt8) (done : List UInt8) (k : Nat) (rest : List UInt8) : Prop := qtL R = (qtL rest).map fun x => (done ++ x.1, x.2 + k)
theorem qtAt_one {R done rest : List UInt8} {k : Nat} {c : UInt8} (h : QtAt R done k (c :: rest)) (hc : ¬ c = 39) : QtAt R (done ++ [c]) (k + 1) rest := by
  unfold QtAt at h ⊢
  rw [h, qt_one hc]
  cases qtL rest with
  | none => rfl
  | some x => simp; omega
theorem qtAt_two {R done rest : List UInt8} {k : Nat} (h : QtAt R done k (39 :: 39 :: rest)) : QtAt R (done ++ [39]) (k + 2) rest := by
  unfold QtAt at h ⊢
  rw [h, qt_two]
  cases qtL rest with
  | none => rfl
  | some x => simp; omega
theorem qtAt_end {R done rest : List UInt8} {k : Nat} (h : QtAt R done k (39 :: rest)) (hr : rest.head? ≠ some 39) : qtL R = some (done, k + 1) := by
  unfold QtAt at h
  rw [h, qt_end hr]
  simp; omega
theorem qtAt_none {R done : List UInt8} {k : Nat} (h : QtAt R done k []) : qtL R = none := by
  unfold QtAt at h; rw [h]; rfl
theorem ans_txt {x : Option (Tk × Nat)} {t : Tk} {k : Nat} {z : Int} {b : ByteArray} (h : x = some (t, k)) (hz : z = (k : Int)) (hb : b = str t.s) : Ending.returned (.tuple #[.agg #[.int .i64 t.k, .string b, .int .i64 t.n, .int .i64 t.p], .int .i64 z]) = .returned (ansT x) := by
  subst h hz hb; rfl
theorem ans_not {x : Option (Tk × Nat)} (h : x = none) : Ending.returned (.tuple #[.agg #[.int .i64 0, .string ⟨#[]⟩, .int .i64 0, .int .i64 0], .int .i64 0]) = .returned (ansT x) := by
  subst h; rfl

end Go.Proofs.YtoccbfgcmaahcaaDoor
/-
  The contract of the document's sign.
-/
namespace Go.Proofs.YtoccbfgcmaahcaaDoor
open Go.RowKit

def sgs : List (List UInt8) := [[60, 61], [62, 61], [60, 62], [40], [41], [44], [46], [42], [61], [60], [62]]
def preB (g l : List UInt8) : Bool := decide (g.length ≤ l.length) && (l.take g.length == g)
theorem pre1 (x c : UInt8) (r : List UInt8) : preB [x] (c :: r) = (c == x) := by
  unfold preB
  rw [Bool.eq_iff_iff]
  simp
theorem pre2 (x y c : UInt8) (r : List UInt8) : preB [x, y] (c :: r) = (c == x && r.head? == some y) := by
  unfold preB
  rw [Bool.eq_iff_iff]
  cases r with
  | nil => simp
  | cons d r => simp
theorem sg_first {l : List UInt8} {i : Nat} {g : List UInt8} (hg : sgs[i]? = some g) (hn : ∀ (j : Nat) (x : List UInt8), j < i → sgs[j]? = some x → preB x l = false) (hp : preB g l = true) : sgL l = g.length ∧ l.take (sgL l) = g := by
  have hl : l.take g.length = g := by unfold preB at hp; simp at hp; exact hp.2
  suffices h : sgL l = g.length by rw [h]; exact ⟨rfl, hl⟩
  have hi : i < 11 := by have := (List.getElem?_eq_some_iff.1 hg).1; simpa [sgs] using this
  cases l with
  | nil =>
    exfalso
    have : g ≠ [] := by
      have hm := List.mem_of_getElem? hg
      intro e; subst e; simp [sgs] at hm
    unfold preB at hp; simp at hp; exact this hp
  | cons c r =>
    have h0 := fun h : 0 < i => hn 0 _ h rfl
    have h1 := fun h : 1 < i => hn 1 _ h rfl
    have h2 := fun h : 2 < i => hn 2 _ h rfl
    clear hn hl
    have hk : i = 0 ∨ i = 1 ∨ i = 2 ∨ i = 3 ∨ i = 4 ∨ i = 5 ∨ i = 6 ∨ i = 7 ∨ i = 8 ∨ i = 9 ∨ i = 10 := by omega
    rcases hk with rfl | rfl | rfl | rfl | rfl | rfl | rfl | rfl | rfl | rfl | rfl
    · simp [sgs] at hg; subst hg
      rw [pre2] at hp; simp at hp
      simp [sgL, hp.1, hp.2]
    · simp [sgs] at hg; subst hg
      rw [pre2] at hp; simp at hp
      simp [sgL, hp.1, hp.2]
    · simp [sgs] at hg; subst hg
      rw [pre2] at hp; simp at hp
      simp [sgL, hp.1, hp.2]
    · simp [sgs] at hg; subst hg
      rw [pre1] at hp; simp at hp; subst hp
      simp [sgL]
    · simp [sgs] at hg; subst hg
      rw [pre1] at hp; simp at hp; subst hp
      simp [sgL]
    · simp [sgs] at hg; subst hg
      rw [pre1] at hp; simp at hp; subst hp
      simp [sgL]
    · simp [sgs] at hg; subst hg
      rw [pre1] at hp; simp at hp; subst hp
      simp [sgL]
    · simp [sgs] at hg; subst hg
      rw [pre1] at hp; simp at hp; subst hp
      simp [sgL]
    · simp [sgs] at hg; subst hg
      rw [pre1] at hp; simp at hp; subst hp
      simp [sgL]
    · simp [sgs] at hg; subst hg
      rw [pre1] at hp; simp at hp; subst hp
      have h0 := h0 (by omega); have h2 := h2 (by omega)
      rw [pre2] at h0 h2; simp at h0 h2
      simp [sgL, h0, h2]
    · simp [sgs] at hg; subst hg
      rw [pre1] at hp; simp at hp; subst hp
      have h1 := h1 (by omega)
      rw [pre2] at h1; simp at h1
      simp [sgL, h1]
theorem sg_none {l : List UInt8} (hn : ∀ (j : Nat) (x : List UInt8), sgs[j]? = some x → preB x l = false) : sgL l = 0 := by
  cases l with
  | nil => rfl
  | cons c r =>
    have h0 := hn 0 _ rfl
    have h1 := hn 1 _ rfl
    have h2 := hn 2 _ rfl
    have h3 := hn 3 _ rfl
    have h4 := hn 4 _ rfl
    have h5 := hn 5 _ rfl
    have h6 := hn 6 _ rfl
    have h7 := hn 7 _ rfl
    have h8 := hn 8 _ rfl
    have h9 := hn 9 _ rfl
    have h10 := hn 10 _ rfl
    rw [pre2] at h0 h1 h2
    rw [pre1] at h3 h4 h5 h6 h7 h8 h9 h10
    simp at h0 h1 h2 h3 h4 h5 h6 h7 h8 h9 h10
    simp [sgL, h3, h4, h5, h6, h7, h8, h9, h10]

/-- The sign that bytes begin with. -/
def sgT (l : List UInt8) (p : Nat) : Option (Tk × Nat) := if sgL l = 0 then none else some (⟨4, l.take (sgL l), 0, p⟩, sgL l)
def sgV : Array Value := (sgs.map fun g => Value.string (str g)).toArray
theorem sg_cell {W : World} {b : Nat} {t : TypeId} (h : Box W b t sgV) {i : Nat} {g : List UInt8} (hg : sgs[i]? = some g) : W.cell? ⟨b, i, none⟩ = some (.string (str g)) := by
  refine h.cell i _ ?_
  unfold sgV
  simp [hg]
theorem sgV_is : sgV = #[Value.string ⟨#[60, 61]⟩, Value.string ⟨#[62, 61]⟩, Value.string ⟨#[60, 62]⟩, Value.string ⟨#[40]⟩, Value.string ⟨#[41]⟩, Value.string ⟨#[44]⟩, Value.string ⟨#[46]⟩, Value.string ⟨#[42]⟩, Value.string ⟨#[61]⟩, Value.string ⟨#[60]⟩, Value.string ⟨#[62]⟩] := rfl

theorem below_drewN2 {B : Nat} {a w : World} (h : Below B a w) (n : Nat) : Below B a (w.drewN n) := ⟨h.os, h.tape, h.output, h.size, h.block⟩
end Go.Proofs.YtoccbfgcmaahcaaDoor
/-
  The contract of the document's one.
-/
namespace Go.Proofs.YtoccbfgcmaahcaaDoor
open Go.RowKit

theorem ans_shape (x : Option (Tk × Nat)) : ∃ (k : Int) (b : ByteArray) (n p m : Int), ansT x = .tuple #[.agg #[.int .i64 k, .string b, .int .i64 n, .int .i64 p], .int .i64 m] := by
  cases x with
  | none => exact ⟨_, _, _, _, _, rfl⟩
  | some x => exact ⟨_, _, _, _, _, rfl⟩
theorem one_word {c : UInt8} {r : List UInt8} (p : Nat) (h : ltB c = true) : oneL (c :: r) p = some (⟨1, (c :: r).take (spn wdB (c :: r)), 0, p⟩, spn wdB (c :: r)) := by
  simp only [oneL]; rw [if_pos h]
theorem one_num {c : UInt8} {r : List UInt8} (p : Nat) (h : ltB c = false) (h2 : dgB c = true ∨ c = 45) : oneL (c :: r) p = (numL (c :: r)).map fun x => (⟨2, [], x.1, p⟩, x.2) := by
  simp only [oneL]; rw [if_neg (by rw [h]; simp), if_pos h2]
theorem one_txt {c : UInt8} {r : List UInt8} (p : Nat) (h : ltB c = false) (h2 : ¬ (dgB c = true ∨ c = 45)) (h3 : c = 39) : oneL (c :: r) p = txL r p := by
  simp only [oneL]; rw [if_neg (by rw [h]; simp), if_neg h2, if_pos h3]; rfl
theorem one_sgn {c : UInt8} {r : List UInt8} (p : Nat) (h : ltB c = false) (h2 : ¬ (dgB c = true ∨ c = 45)) (h3 : ¬ c = 39) : oneL (c :: r) p = sgT (c :: r) p := by
  simp only [oneL]; rw [if_neg (by rw [h]; simp), if_neg h2, if_neg h3]; rfl
theorem str_of (t : ByteArray) : t = str t.data.toList := by
  apply ByteArray.ext; simp [str]
theorem ret_ans {v u : Value} (h : u = v) : Ending.returned v = .returned u := by rw [h]

end Go.Proofs.YtoccbfgcmaahcaaDoor
/-
  Tokens in memory: a slice of them, of one's own, and append of one more.
-/
namespace Go.Proofs.YtoccbfgcmaahcaaDoor
open Go.RowKit

def tkR (t : Tk) : List Value := [.int .i64 t.k, .string (str t.s), .int .i64 t.n, .int .i64 t.p]
def TkIs (w : World) (v : Value) (l : List Tk) : Prop := SRows w v 32 4 (l.map tkR)
def OwnT (w : World) (B : Nat) (v : Value) (l : List Tk) : Prop := TkIs w v l ∧ ∀ k, v.ownBlock = some k → B ≤ k
theorem ownT_nil (w : World) (B : Nat) : OwnT w B (.slice none 0 0) [] := ⟨.inl ⟨rfl, rfl⟩, noOwn B⟩
theorem TkIs.over {w w' : World} {v : Value} {l : List Tk} (h : TkIs w v l) (k : Below w.heap.size w w') : TkIs w' v l := SRows.of_block h (fun g hg => k.block g (SRows.lt h hg))
theorem OwnT.over {w w' : World} {B : Nat} {v : Value} {l : List Tk} (h : OwnT w B v l) (k : Below w.heap.size w w') : OwnT w' B v l := ⟨h.1.over k, h.2⟩
theorem info_tok : (Tryd.prog.info? 32).map (fun i => (i.zero, i.size, i.bytes)) = some (some (.agg #[.int .i64 0, .string ⟨#[]⟩, .int .i64 0, .int .i64 0]), 4, 40) := by kernel_rfl
theorem append_tok {ops : Array Oper} {rest : List Oper} {o : Oper} {a : Act} {Q : Exit → Act → World → Prop} (hgd : o.guard = none) (s x : Operand)
    (ho : o.op = .call { callee := .builtin .append, args := #[s, x], argTypes := #[23, 23] })
    {w : World} {B : Nat} {v : Value} {l : List Tk} {t : Tk} {cs : Array Value} (hcs : cs = (tkR t).toArray) (hs : a.eval s = v) {b : Nat} (hx : a.eval x = .slice (some ⟨b, 0, none⟩) 1 1) (hbz : b = w.heap.size)
    (hv : OwnT w B v l) (hB : B ≤ w.heap.size) (hl : l.length + 1 ≤ 1000000)
    (h : ∀ va vc w', Hid (OwnT w' B (.slice va (l.length + 1) vc) (l ++ [t])) → Below B w w' → wpList Tryd.prog ops Q rest (a.put o.dst (.slice va (l.length + 1) vc)) w') :
    wpList Tryd.prog ops Q (o :: rest) a (w.alloc (.cells cs 32)) := by
  subst hcs hbz
  obtain ⟨i0, hi, hz0, hz1, hz2⟩ := info_parts info_tok
  have k1 : Below w.heap.size w (w.alloc (.cells (tkR t).toArray 32)) := below1 _ _
  refine append_rows hgd s x 23 32 i0 _ 4 40 ho Tryd.underlying23 hi hz0 hz1 hz2 rfl (by decide) (by decide) hs hx (hv.1.over k1) (srows_new w (tkR t) _ rfl) hv.2 (Nat.le_trans hB k1.size) ?_ (l.length + 1) (by simp) ((l ++ [t]).map tkR) (by simp) hl ?_
  · intro r hr c hc
    simp only [List.mem_singleton] at hr
    subst hr
    simp only [tkR, List.mem_cons, List.not_mem_nil, or_false] at hc
    rcases hc with rfl | rfl | rfl | rfl <;> rfl
  · intro va vc w' h1 h2 h3
    exact h va vc w' ⟨h1, h2⟩ ((k1.mono hB).trans h3)
end Go.Proofs.YtoccbfgcmaahcaaDoor
