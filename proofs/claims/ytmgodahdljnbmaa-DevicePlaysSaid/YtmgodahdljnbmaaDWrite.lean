/-
  The contract of a device's Write.
-/
import Derived.Test.YtmgodahdljnbmaaDNew
import Derived.Deep.AppendLies
import Derived.Deep.RegionLaw
namespace Go.Proofs.Ytmgodahdljnbmaa
open Go.RowKit

theorem info_write : (Try.prog.info? 72).map (fun i => (i.zero, i.size, i.bytes)) = some (some (.agg (#[.int .i64 0] ++ Array.replicate 128 (.int .u8 0))), 129, 136) := by kernel_rfl
theorem size_block : (Try.prog.info? 70).map (·.size) = some 128 := by kernel_rfl
theorem size_write : (Try.prog.info? 72).map (·.size) = some 129 := by kernel_rfl
theorem size_byte : (Try.prog.info? 5).map (·.size) = some 1 := by kernel_rfl

theorem fill_one (off : Nat) : ∀ (vs : List Value) (k : Nat) (cs : Array Value), off + k + vs.length ≤ cs.size →
    ((vs.zipIdx k).foldl (fun (cs : Array Value) (x : Value × Nat) => cs.setIfInBounds (off + x.2) x.1) cs).toList = cs.toList.take (off + k) ++ vs ++ cs.toList.drop (off + k + vs.length)
  | [], k, cs, _ => by simp
  | v :: r, k, cs, h => by
    simp only [List.length_cons] at h
    rw [List.zipIdx_cons, List.foldl_cons, fill_one off r (k + 1) _ (by simp; omega)]
    simp only [Array.toList_setIfInBounds]
    have hl : off + k < cs.toList.length := by simp; omega
    rw [List.take_set, List.drop_set, if_pos (by omega)]
    have e1 : off + (k + 1) = off + k + 1 := by omega
    have e2 : off + (k + 1) + r.length = off + k + (v :: r).length := by simp; omega
    rw [e2, e1]
    have e3 : (cs.toList.take (off + k + 1)).set (off + k) v = cs.toList.take (off + k) ++ [v] := by
      rw [List.take_add_one, List.set_append_right _ _ (by simp; omega)]
      have : (cs.toList.take (off + k)).length = off + k := by simp; omega
      rw [this, Nat.sub_self, List.getElem?_eq_getElem hl]
      simp
    rw [e3]
    simp
def wr (v : Value) (c : Array Value) : Array Value := (v :: c.toList).toArray
theorem info_int : (Try.prog.info? 3).map (fun i => (i.zero, i.size, i.bytes)) = some (some (.int .i64 0), 1, 8) := by kernel_rfl
theorem fill_step (place : Nat → Option (Nat × Nat)) (X : Array Value) (i off size : Nat) (v : Value) (rest : List (Nat × Value)) (hp : place i = some (off, size)) (h1 : v.cells.size = size) (h2 : off + size ≤ X.size) :
    Instr.fill place X ((i, v) :: rest) = Instr.fill place (X.toList.take off ++ v.cells.toList ++ X.toList.drop (off + size)).toArray rest := by
  have e := fill_one off v.cells.toList 0 X (by simp; omega)
  have e2 : (v.cells.zipIdx.foldl (fun (cs : Array Value) (x : Value × Nat) => cs.setIfInBounds (off + x.2) x.1) X) = (X.toList.take off ++ v.cells.toList ++ X.toList.drop (off + size)).toArray := by
    apply Array.ext'
    rw [← Array.foldl_toList, Array.toList_zipIdx, e]
    simp [h1]
  have h3 : ¬ off + v.cells.size > X.size := by omega
  simp only [Instr.fill, hp, h1, ne_eq, not_true_eq_false, decide_false, Bool.false_or, decide_eq_true_eq]
  rw [if_neg (by omega)]
  congr 1
theorem cells_agg (c : Array Value) : (Value.agg c).cells = c := rfl
/-- 'write{at, bytes}'. -/
theorem build_write (v u : Value) (hv : v.cells = #[v]) (hu : u.cells.size = 128) (w : World) : (Instr.build 72 #[(0, v), (1, u)]).run Try.prog w = .ok (.agg (wr v u.cells)) w := by
  obtain ⟨i0, hi, hz0, hz1, hz2⟩ := info_parts info_write
  obtain ⟨i1, hj, hw0, hw1, hw2⟩ := info_parts info_int
  obtain ⟨i2, hk, hx0, hx1, hx2⟩ := info_parts info_block
  obtain ⟨Z, hZ⟩ : ∃ Z : Array Value, Z = #[Value.int .i64 0] ++ Array.replicate 128 (.int .u8 0) := ⟨_, rfl⟩
  have hZs : Z.size = 129 := by rw [hZ]; simp
  have hf : ∀ place : Nat → Option (Nat × Nat), place 0 = some (0, 1) → place 1 = some (1, 128) → Instr.fill place Z [(0, v), (1, u)] = some (wr v u.cells) := by
    intro place h0 h1
    rw [fill_step place Z 0 0 1 v _ h0 (by rw [hv]; rfl) (by omega), fill_step place _ 1 1 128 u _ h1 hu (by simp [hv]; omega), Instr.fill]
    congr 1
    apply Array.ext'
    have : (List.drop (1 + 128) (List.take 0 Z.toList ++ v.cells.toList ++ List.drop (0 + 1) Z.toList)) = [] := by
      apply List.drop_eq_nil_of_le
      simp [hv]
      omega
    show _ ++ _ ++ _ = _
    rw [this]
    simp [hv, wr]
  rw [← hZ] at hz0
  simp [Instr.build, zeroValue, typeInfo, hi, hz0, run_underlying Try.underlying72, sizeOf, hj, hk, hw1, hx1, cells_agg]
  rw [hf _ (by rfl) (by rfl)]
  rfl
/-- '[]write{x}'. -/
theorem slice_write (v : Value) (hl : v.cells.size = 129) (w : World) : (Instr.buildSlice 54 1 #[(0, v)]).run Try.prog w = .ok (.slice (some ⟨w.heap.size, 0, none⟩) 1 1) (w.alloc (.cells v.cells 72)) := by
  obtain ⟨i0, hi, hz0, hz1, hz2⟩ := info_parts info_write
  have hf : ∀ (place : Nat → Option (Nat × Nat)) (Z : Array Value), Z.size = 129 → place 0 = some (0, 129) → Instr.fill place Z [(0, v)] = some v.cells := by
    intro place Z hZ h0
    rw [fill_step place Z 0 0 129 v _ h0 hl (by omega), Instr.fill]
    congr 1
    apply Array.ext'
    have : List.drop (0 + 129) Z.toList = [] := by apply List.drop_eq_nil_of_le; simp; omega
    show _ ++ _ ++ _ = _
    rw [this]
    simp
  simp [Instr.buildSlice, zeroValue, typeInfo, hi, hz0, run_underlying Try.underlying54, sizeOf, hz1]
  rw [hf _ _ (by simp) (by rfl)]
  simp [newRow]
theorem exec_build (ρ : Operand → Value) (dst : Option Tmp) (ty : TypeId) (pos : String) (after : Array Edge) (guard : Option (Nat × Bool)) (x y : Operand) (w : World) (hv : (ρ x).cells = #[ρ x]) (hu : (ρ y).cells.size = 128) :
    (execOp ρ { dst, op := .build 72 #[(0, x), (1, y)], type := ty, pos, after, guard }).run Try.prog w = .ok (.value (.agg (wr (ρ x) (ρ y).cells))) w := by
  have := build_write (ρ x) (ρ y) hv hu w
  simp [execOp, this]
theorem exec_slice (ρ : Operand → Value) (dst : Option Tmp) (ty : TypeId) (pos : String) (after : Array Edge) (guard : Option (Nat × Bool)) (x : Operand) (w : World) (hv : (ρ x).cells.size = 129) :
    (execOp ρ { dst, op := .buildSlice 54 1 #[(0, x)], type := ty, pos, after, guard }).run Try.prog w = .ok (.value (.slice (some ⟨w.heap.size, 0, none⟩) 1 1)) (w.alloc (.cells (ρ x).cells 72)) := by
  have := slice_write (ρ x) hv w
  simp [execOp, this]
/-- A whole block's cells, where a pointer points. -/
def lrow (w : World) : Value → Array Value
  | .pointer (some a) => ((List.range 128).map fun j => (w.cell? (a.add j)).getD undef).toArray
  | _ => #[]
def okRow (w : World) (v : Value) : Prop := ∃ b o cs, v = .pointer (some ⟨b, o, none⟩) ∧ w.rangeAt b o cs ∧ cs.length = 128
theorem lrow_eq {w : World} {b o : Nat} {cs : List Value} (h : w.rangeAt b o cs) (hl : cs.length = 128) : lrow w (.pointer (some ⟨b, o, none⟩)) = cs.toArray := by
  show ((List.range 128).map fun j => (w.cell? ((⟨b, o, none⟩ : Addr).add j)).getD undef).toArray = cs.toArray
  refine congrArg List.toArray ?_
  apply List.ext_getElem
  · simp [hl]
  · intro j h1 h2
    simp only [List.getElem_map, List.getElem_range, Addr.add_mid]
    rw [h j cs[j] (List.getElem?_eq_getElem h2)]
    rfl
theorem exec_load (ρ : Operand → Value) (dst : Option Tmp) (ty : TypeId) (pos : String) (after : Array Edge) (guard : Option (Nat × Bool)) (x : Operand) (w : World) (h : okRow w (ρ x)) :
    (execOp ρ { dst, op := .load 70 x, type := ty, pos, after, guard }).run Try.prog w = .ok (.value (.agg (lrow w (ρ x)))) w := by
  obtain ⟨b, o, cs, hx, hr, hl⟩ := h
  have := run_loadAt_mid (P := Try.prog) w b o 70 cs _ hr Try.underlying70 rfl (by rw [hl]; exact size_block)
  rw [hx, lrow_eq hr hl]
  simp [execOp, hx, this]
attribute [local go_sem ↓] exec_build exec_slice exec_load

theorem write_bad (d : Value) (n : Nat) (at_ : Int) (str : ByteArray) (w : World) (hs : SizeIs d n w) (h : ¬ ((0 ≤ at_ ∧ at_ < n) ∧ str.size = 128)) :
    Calls Try.prog 12 #[d, .int .i64 at_, .string str] w fun e w' => e = .returned (.int .i64 1) ∧ w' = w := by
  have c := fits_any d n at_ str w hs
  have hd : decide ((0 ≤ at_ ∧ at_ < (n : Int)) ∧ str.size = 128) = false := by simpa using h
  rw [hd] at c
  clear h
  go_enter Try.func12, Try.ntmps12
  go_wp2_with (go_at_call 29; refine c.mono ?_; rintro e w1 ⟨rfl, hw1⟩; replace hw1 := hw1.symm; subst hw1)
  go_ret
  exact ⟨rfl, rfl⟩
theorem write_off {w : World} {H : Hnd} {s : St} (D : DevIs w H s) (k : Nat) (str : ByteArray) (hk : k < s.sure.length) (hl : str.size = 128) (hg : s.goes = false) :
    Calls Try.prog 12 #[.pointer (some ⟨H.p, 0, none⟩), .int .i64 k, .string str] w fun e w' => e = .returned (.int .i64 40) ∧ DevIs w' H s.burnt ∧ Turned H H w w' := by
  have c := fits_any _ _ (k : Int) str w D.size
  have hd : decide ((0 ≤ (k : Int) ∧ (k : Int) < (s.sure.length : Int)) ∧ str.size = 128) = true := by simp; omega
  rw [hd] at c
  have c2 := goesOn_any D
  rw [hg] at c2
  go_enter Try.func12, Try.ntmps12
  go_wp2_with (first
    | (go_at_call 29; refine c.mono ?_; rintro e w1 ⟨rfl, hw1⟩; replace hw1 := hw1.symm; subst hw1)
    | (go_at_call 30; refine c2.mono ?_; rintro e w1 ⟨rfl, D1, T1⟩))
  go_ret
  exact ⟨rfl, D1, T1⟩

theorem write_end {w1 w2 w3 : World} {H : Hnd} {s : St} (D : DevIs w1 H s) (k : Nat) (hk : k < s.sure.length) (b : List UInt8) (hb : b.length = 128) (hw2 : w2 = w1.setCells H.bn (k * 128) (bcells b)) (X : Obj)
    (hgrow : (w2.alloc X).drew.grownBy w3 H.wv.ownBlock) (g cap n1 : Nat) (hn1 : n1 = s.wait.length + 1) (xs : List Value) (hxs : xs = (s.wait.map wcells).flatten ++ wcells (k, b)) (hown : w3.ownsRow 0 72 129 (.slice (some ⟨g, 0, none⟩) n1 cap) n1 xs)
    (hat : H.wv.ownBlock = some g ∨ g = w2.heap.size + 1) (few : s.wait.length < 1000000) :
    DevIs (w3.setCell ⟨H.p, 2, none⟩ (.slice (some ⟨g, 0, none⟩) n1 cap)) { H with wv := .slice (some ⟨g, 0, none⟩) n1 cap } { s with wait := s.wait ++ [(k, b)] } ∧
      Turned H { H with wv := .slice (some ⟨g, 0, none⟩) n1 cap } w1 (w3.setCell ⟨H.p, 2, none⟩ (.slice (some ⟨g, 0, none⟩) n1 cap)) := by
  have K2 : Kept H.foot w1 w2 := by rw [hw2]; exact Kept.setCells (.inl (.inr (.inr (.inl rfl)))) _ _ _ (Kept.refl _ _)
  have K3 : Kept H.foot w1 w3 := (K2.alloc X).drew.grown hgrow fun x hx => .inl (.inr (.inr (.inr hx)))
  have hpn : ∀ x, x < w1.heap.size → H.wv.ownBlock ≠ some x → w3.heap[x]? = w2.heap[x]? := fun x hx hne => by
    rw [hgrow.block x (by have := K2.size; simp; omega) (fun e => hne e.symm)]
    exact heap_alloc_old _ _ (Nat.lt_of_lt_of_le hx K2.size)
  have far : ∀ x, x ≠ H.bn → w2.heap[x]? = w1.heap[x]? := fun x hx => by rw [hw2]; exact heap_setCells_far _ _ _ _ _ hx
  have np : H.wv.ownBlock ≠ some H.p := fun e => (D.d4 _ e).1 rfl
  have ns : H.wv.ownBlock ≠ some H.bs := fun e => (D.d4 _ e).2.1 rfl
  have nn : H.wv.ownBlock ≠ some H.bn := fun e => (D.d4 _ e).2.2 rfl
  have lp := D.lt (k := H.p) (.inl rfl)
  have ls := D.lt (k := H.bs) (.inr (.inl rfl))
  have ln := D.lt (k := H.bn) (.inr (.inr (.inl rfl)))
  have gne : g ≠ H.p ∧ g ≠ H.bs ∧ g ≠ H.bn := by
    rcases hat with h | h
    · exact D.d4 g h
    · have := K2.size; omega
  have dev3 : w3.heap[H.p]? = _ := ((hpn _ lp np).trans (far _ D.d2)).trans D.dev
  have sn2 : Rows w2 H.bn 70 (s.sure.length * 128) 128 (((lay s.sure s.wait).map bcells).set k (bcells b)) := by
    rw [hw2]
    exact D.seen.set (by rw [List.length_map, lay_len]; exact hk) (by rw [bcells_len, hb])
  refine ⟨?_, rfl, K3.setCell (.inl (.inl rfl)) _, ?_⟩
  · exact
      { dev := heap_setCell_same w3 H.p 2 _ _ _ dev3
        sure := (D.sure.of_block ((hpn _ ls ns).trans (far _ D.d3))).of_block (heap_setCell_other w3 _ _ _ (fun e => D.d1 e.symm))
        seen := by
          have := (sn2.of_block (hpn _ ln nn)).of_block (heap_setCell_other w3 ⟨H.p, 2, none⟩ _ (.slice (some ⟨g, 0, none⟩) n1 cap) (fun e => D.d2 e.symm))
          rw [lay_snoc, List.map_set]
          exact this
        wait := by
          have : SRows w3 (.slice (some ⟨g, 0, none⟩) n1 cap) 72 129 ((s.wait ++ [(k, b)]).map wcells) := by
            refine srows_of_own hown ?_ ?_ (by omega) ?_
            · rw [hxs]; simp
            · intro r hr
              rw [List.map_append, List.mem_append] at hr
              rcases hr with hr | hr
              · exact D.wait.rowlen r hr
              · simp at hr; rw [hr]; simp [wcells, bcells_len, hb]
            · simp [hn1]
          exact this.of_block fun x hx => heap_setCell_other w3 _ _ _ (by simp [Value.ownBlock] at hx; rw [← hx]; exact gne.1)
        d1 := D.d1, d2 := D.d2, d3 := D.d3
        d4 := by intro x hx; simp [Value.ownBlock] at hx; rw [← hx]; exact gne
        pos := D.pos, top := D.top
        ats := by
          intro x hx
          rcases List.mem_append.1 hx with hx | hx
          · exact D.ats x hx
          · simp at hx; rw [hx]; exact ⟨hk, hb⟩
        blk := D.blk, fz := D.fz
        few := by simp; omega }
  · intro x hx
    rcases hx with rfl | rfl | rfl | hx
    · exact .inl (.inl rfl)
    · exact .inl (.inr (.inl rfl))
    · exact .inl (.inr (.inr (.inl rfl)))
    · simp [Value.ownBlock] at hx
      subst hx
      rcases hat with h | h
      · exact .inl (.inr (.inr (.inr h)))
      · right; have := K2.size; omega

set_option maxRecDepth 4000 in
set_option maxHeartbeats 2000000 in
theorem write_on {w : World} {H : Hnd} {s : St} (D : DevIs w H s) (k : Nat) (str : ByteArray) (hk : k < s.sure.length) (hl : str.size = 128) (hg : s.goes = true) (hfew : s.wait.length < 1000000) :
    Calls Try.prog 12 #[.pointer (some ⟨H.p, 0, none⟩), .int .i64 k, .string str] w fun e w' => e = .returned (.int .i64 0) ∧ ∃ H', DevIs w' H' (s.write k str.data.toList) ∧ Turned H H' w w' := by
  have c := fits_any _ _ (k : Int) str w D.size
  have hd : decide ((0 ≤ (k : Int) ∧ (k : Int) < (s.sure.length : Int)) ∧ str.size = 128) = true := by simp; omega
  rw [hd] at c
  have c2 := goesOn_any D
  rw [hg] at c2
  have hkI : (k : Int) < (s.sure.length : Int) := by omega
  obtain ⟨cs, hcs⟩ : ∃ cs, cs = cellsS str := ⟨_, rfl⟩
  have hcl : cs.length = 128 := by rw [hcs, cellsS_len, hl]
  have hone : ∀ v ∈ cs, v.oneCell' = true := by
    rw [hcs]
    intro v hv
    simp only [cellsS, List.mem_map] at hv
    obtain ⟨x, _, rfl⟩ := hv
    rfl
  obtain ⟨A, hA⟩ : ∃ A, A = wr (.int .i64 (k : Int)) cs.toArray := ⟨_, rfl⟩
  have hA9 : A.size = 129 := by rw [hA]; simp [wr, hcl]
  have hAe : wr (.int .i64 (k : Int)) cs.toArray = A := hA.symm
  have hu := Try.underlying70
  have hi := size_block
  rw [← hcl] at hi
  go_enter Try.func12, Try.ntmps12
  go_wp2_with (first
    | (go_at_call 29; refine c.mono ?_; rintro e w1 ⟨rfl, hw1⟩; replace hw1 := hw1.symm; subst hw1)
    | (go_at_call 30; refine c2.mono ?_; rintro e w1 ⟨rfl, D1, T1⟩; have q1 := D1.c1; have q2 := D1.c2; have q5 := D1.fr 2; have qb := D1.seen.there (i := k) (by rw [List.length_map, lay_len]; exact hk))
    | (refine wpList_copy_str rfl _ _ _ _ 5 rfl H.bn (k * 128) 128 128 str rfl rfl hl Try.underlying60 size_byte qb ?_))
  obtain ⟨w2, hw2⟩ : ∃ w2, w2 = w1.setCells H.bn (k * 128) (cellsS str) := ⟨_, rfl⟩
  rw [← hw2]
  have K2 : Kept H.foot w1 w2 := by rw [hw2]; exact Kept.setCells (.inl (.inr (.inr (.inl rfl)))) _ _ _ (Kept.refl _ _)
  have far : ∀ x, x ≠ H.bn → w2.heap[x]? = w1.heap[x]? := fun x hx => by rw [hw2]; exact heap_setCells_far _ _ _ _ _ hx
  have p1 : w2.cell? ⟨H.p, 1, none⟩ = some (.slice (some ⟨H.bn, 0, none⟩) s.burnt.sure.length s.burnt.sure.length) := (World.cell?_of_block (far _ D1.d2)).trans q1
  have p2 : w2.cell? ⟨H.p, 2, none⟩ = some H.wv := (World.cell?_of_block (far _ D1.d2)).trans q2
  have sn2 : w2.rangeAt H.bn (k * 128) cs := by
    rw [hw2, hcs]
    refine World.rangeAt_setCells_same _ _ _ _ ?_
    rw [cellsS_len, hl]
    exact qb
  have lp : H.p < w2.heap.size := Nat.lt_of_lt_of_le (D1.lt (.inl rfl)) K2.size
  have p2a : (w2.alloc (.cells A 72)).cell? ⟨H.p, 2, none⟩ = some H.wv := (World.cell?_of_block (heap_alloc_old _ _ lp)).trans p2
  have hown : (w2.alloc (.cells A 72)).drew.ownsRow 0 72 129 H.wv s.wait.length (s.wait.map wcells).flatten := by
    have h0 : SRows w2 H.wv 72 129 (s.wait.map wcells) := D1.wait.of_block fun x hx => far x (D1.d4 x hx).2.2
    have h1 := (h0.of_block (w' := (w2.alloc (.cells A 72)).drew) fun x hx => heap_alloc_old _ _ (h0.lt hx)).own (by omega)
    rw [List.length_map] at h1
    exact h1
  have hnews : ∀ j u, A.toList[j]? = some u → (w2.alloc (.cells A 72)).drew.cell? ((⟨w2.heap.size, 0, none⟩ : Addr).add j) = some u := World.news_of_block (heap_alloc_last w2 _)
  have hAone : ∀ u ∈ A.toList, u.oneCell' = true := by
    rw [hA]
    intro u hu
    simp [wr] at hu
    rcases hu with rfl | hu
    · rfl
    · exact hone u hu
  have hAl : A.toList.length = 1 * 129 := by simp [hA9]
  obtain ⟨i0, z0, HI⟩ : ∃ (i0 : TypeInfo) (z0 : Value), Hid (Try.prog.info? 72 = some i0 ∧ i0.zero = some z0 ∧ i0.size = 129 ∧ i0.bytes = 136 ∧ z0.cells.size = 129) := by
    obtain ⟨i0, hi0, hz0, hz1, hz2⟩ := info_parts info_write
    exact ⟨i0, _, hi0, hz0, hz1, hz2, by simp [cells_agg]⟩
  have HX : Hid (DevIs w1 H s.burnt ∧ Turned H H w w1 ∧ w2 = w1.setCells H.bn (k * 128) (cellsS str) ∧ cs = cellsS str ∧ A = wr (.int .i64 (k : Int)) cs.toArray) := ⟨D1, T1, hw2, hcs, hA⟩
  have lp3 : H.p < (w2.alloc (.cells A 72)).drew.heap.size := by simp; omega
  have npw : some H.p ≠ H.wv.ownBlock := fun e => (D1.d4 _ e.symm).1 rfl
  have nnw : some H.bn ≠ H.wv.ownBlock := fun e => (D1.d4 _ e.symm).2.2 rfl
  have ln3 : H.bn < (w2.alloc (.cells A 72)).drew.heap.size := by
    have := Nat.lt_of_lt_of_le (D1.lt (.inr (.inr (.inl rfl)))) K2.size
    simp; omega
  have dnp : H.bn ≠ H.p := fun e => D1.d2 e.symm
  have p5 : w2.frozen? ⟨H.p, 2, none⟩ = false := (World.frozen?_of_block (far _ D1.d2)).trans q5
  have p5a : (w2.alloc (.cells A 72)).frozen? ⟨H.p, 2, none⟩ = false := (World.frozen?_of_block (heap_alloc_old _ _ lp)).trans p5
  have p1a : (w2.alloc (.cells A 72)).cell? ⟨H.p, 1, none⟩ = some (.slice (some ⟨H.bn, 0, none⟩) s.burnt.sure.length s.burnt.sure.length) := (World.cell?_of_block (heap_alloc_old _ _ lp)).trans p1
  have sn2a : (w2.alloc (.cells A 72)).rangeAt H.bn (k * 128) cs := World.rangeAt_alloc sn2 _
  clear D1 T1 hw2 hcs hA D far K2 q1 q2 q5 qb c c2 hg hd
  have hok : okRow w2.drew (.pointer (some ⟨H.bn, k * 128, none⟩)) := ⟨_, _, cs, rfl, sn2, hcl⟩
  have hlr : lrow w2.drew (.pointer (some ⟨H.bn, k * 128, none⟩)) = cs.toArray := lrow_eq sn2 hcl
  clear sn2 sn2a hu hi
  go_wp2_with fail
  go_region_law
    ((refine step_append_lies _ rfl (.tmp 28) (.tmp 38) 54 rfl 0 72 i0 z0 129 136 Try.underlying54 HI.out.1 HI.out.2.1 HI.out.2.2.1 HI.out.2.2.2.1 HI.out.2.2.2.2 (by decide) H.wv s.wait.length (s.wait.map wcells).flatten (by simp [Act.eval]) hown ⟨w2.heap.size, 0, none⟩ 1 1 A.toList (by simp [Act.eval]) hAl hnews hAone (by decide) (by simp only [maxLen]; omega) (by omega) (Nat.zero_le _) (w2.heap.size + 1) (by simp) ?_; intro g cap w3 hown3 hgrow hat hlt; have r3 := (hgrow.cell_far ⟨H.p, 2, none⟩ lp3 npw).trans p2a; have r4 := (hgrow.frozen_far ⟨H.p, 2, none⟩ lp3 npw).trans p5a))
  all_goals go_wp2
  all_goals go_ret
  all_goals
    obtain ⟨D1, T1, hw2, hcs, hA⟩ := HX.out
    have hx := write_end D1 k hk str.data.toList (by simpa using hl) (by rw [hw2]; rfl) _ hgrow g cap (s.wait.length + 1) rfl _ (by rw [hA, hcs]; simp [wr, wcells, cellsS, bcells]; rfl) hown3 hat hfew
    exact ⟨rfl, _, hx.1, T1.trans hx.2⟩
end Go.Proofs.Ytmgodahdljnbmaa
