/-
  The walk of law 5's ExtentOnce: no block is told twice.
-/
import Derived.Test.YtjnobdgigeejnaaEOnce
import Derived.Test.YtjnobdgigeejnaaEApp
import Derived.Test.YtjnobdgigeejnaaEExts
import Derived.Test.YtjnobdgigeejnaaArr
namespace Go.Proofs.Ytjnobdgigeejnaa
open Go.RowKit Arr

theorem isTaken : IsArr Try.prog 46 64 4 (brow fun _ => false) where
  hu := by kernel_rfl
  hz := fun w => by
    obtain ⟨i, hi⟩ : ∃ i, Try.prog.info? 46 = some i := ⟨_, rfl⟩
    have h0 : (Try.prog.info? 46).map (·.zero) = some (some (.agg (brow fun _ => false))) := by kernel_rfl
    rw [hi] at h0
    simp only [Option.map_some, Option.some.injEq] at h0
    simp [zeroValue, typeInfo, hi, h0]
  hi := by kernel_rfl
  hb := by kernel_rfl
  hs := brow_size _

/-- What the loop keeps. -/
structure Keeps (w0 w : World) (p g tb : Nat) (hs told : List (Nat × Nat)) (tk : Nat → Bool) (va : Option Addr) (q vc : Nat) : Prop where
  own : Own w0 w p g 64 hs
  has : Has 46 w tb tk
  rows : SRows w (.slice va q vc) 32 2 (told.map ec)
  len : told.length = q
  ab : w0.heap.size ≤ tb
  np : tb ≠ p
  ng : tb ≠ g
  foot : ∀ k, (Value.slice va q vc).ownBlock = some k → w0.heap.size ≤ k ∧ k ≠ p ∧ k ≠ g ∧ k ≠ tb
section
variable {w0 w w' : World} {p g g' tb : Nat} {hs hs' told told' : List (Nat × Nat)} {tk tk' : Nat → Bool} {va va' : Option Addr} {q q' vc vc' : Nat}
theorem Keeps.over (K : Keeps w0 w p g tb hs told tk va q vc) (b : Below w.heap.size w w') : Keeps w0 w' p g tb hs told tk va q vc :=
  { own := K.own.over b, has := K.has.below b K.has.lt, rows := K.rows.of_block (fun k hk => b.block k (K.rows.lt hk)), len := K.len, ab := K.ab, np := K.np, ng := K.ng, foot := K.foot }
/-- The map turned: all else is as it was. -/
theorem Keeps.step (K : Keeps w0 w p g tb hs told tk va q vc) (O : Own w0 w' p g' 64 hs') (S : Step w w' p g g') : Keeps w0 w' p g' tb hs' told tk va q vc where
  own := O
  has := by
    have := K.has
    unfold Has at this ⊢
    rw [S.2.block tb K.has.lt (fun e => by rcases e with e | e; exact K.np e; exact K.ng e)]
    exact this
  rows := K.rows.kept S.2 (fun k hk e => by have := K.foot k hk; rcases e with e | e; exact this.2.1 e; exact this.2.2.1 e)
  len := K.len
  ab := K.ab
  np := K.np
  ng := by
    have := K.ng
    have := K.has.lt
    rcases S.1 with e | e
    · rw [e]; exact K.ng
    · omega
  foot := by
    intro k hk
    have h1 := K.foot k hk
    have h2 := K.rows.lt hk
    refine ⟨h1.1, h1.2.1, ?_, h1.2.2.2⟩
    rcases S.1 with e | e
    · rw [e]; exact h1.2.2.1
    · omega
/-- A block of the table turned. -/
theorem Keeps.set (K : Keeps w0 w p g tb hs told tk va q vc) (b : Nat) (v : Bool) : Keeps w0 (w.setCell ⟨tb, b, none⟩ (.bool v)) p g tb hs told (fun i => if i = b then v else tk i) va q vc where
  own := by
    obtain ⟨cap, M, h1, h2, h3⟩ := K.own
    exact ⟨cap, M.of_block (heap_setCell_other w _ _ _ (Ne.symm K.np)) (heap_setCell_other w _ _ _ (Ne.symm K.ng)), h1, h2, h3.setCell (p := ⟨tb, b, none⟩) K.ab _⟩
  has := K.has.set b v
  rows := K.rows.of_block (fun k hk => heap_setCell_other w _ _ _ (K.foot k hk).2.2.2)
  len := K.len
  ab := K.ab
  np := K.np
  ng := K.ng
  foot := K.foot
/-- What was told lies elsewhere, or is longer. -/
theorem Keeps.retold (K : Keeps w0 w p g tb hs told tk va q vc) {F : Nat → Prop} (k : Kept F w w') (hF : ∀ x, F x → w0.heap.size ≤ x ∧ x ≠ p ∧ x ≠ g ∧ x ≠ tb) (hr : SRows w' (.slice va' q' vc') 32 2 (told'.map ec)) (hl : told'.length = q') (hw : ∀ x, (Value.slice va' q' vc').ownBlock = some x → F x ∨ w.heap.size ≤ x) : Keeps w0 w' p g tb hs told' tk va' q' vc' where
  own := by
    obtain ⟨cap, M, h1, h2, h3⟩ := K.own
    refine ⟨cap, M.kept k (fun h => (hF _ h).2.1 rfl) (fun h => (hF _ h).2.2.1 rfl), h1, h2, ?_⟩
    exact h3.trans (k.below (fun x hx => (hF x hx).1) h3.size)
  has := by
    have := K.has
    unfold Has at this ⊢
    rw [k.block tb K.has.lt (fun h => (hF _ h).2.2.2 rfl)]
    exact this
  rows := hr
  len := hl
  ab := K.ab
  np := K.np
  ng := K.ng
  foot := by
    intro x hx
    rcases hw x hx with h | h
    · exact hF x h
    · have h1 := K.own.lt
      have h2 := K.has.lt
      have h3 := K.own.bel.size
      omega
end

/-- The numbers of a round. -/
theorem round_nums (z : Int) (hz : (Lit.int .i64 z).wf = true) : ∃ y15 y1 y255 : Nat, y15 ≤ 15 ∧ y1 ≤ 1 ∧ y255 ≤ 255 ∧ bits .and .i64 (z / 2) 15 = (y15 : Int) ∧ bits .and .i64 z 1 = (y1 : Int) ∧ bits .and .i64 (z / 2) 255 = (y255 : Int) := by
  have hr := wf_range z hz
  have hh : (Lit.int .i64 (z / 2)).wf = true := wf_of (by omega)
  obtain ⟨a, a1, a2⟩ := and_low (z / 2) hh 15 (by omega)
  obtain ⟨b, b1, b2⟩ := and_low z hz 1 (by omega)
  obtain ⟨c, c1, c2⟩ := and_low (z / 2) hh 255 (by omega)
  exact ⟨a, b, c, a1, b1, c1, a2, b2, c2⟩

set_option maxRecDepth 4000 in
set_option maxHeartbeats 8000000 in
theorem walkExtentOnce (a0 : Option Addr) (len cap0 : Nat) (zs : List Int) (w : World) (hl : IsRow .i64 w a0 len cap0 zs) :
    Calls Try.prog 4 #[.slice a0 len cap0] w fun e w' => e = .returned (.bool true) ∧ Below w.heap.size w w' := by
  have cn := new_own 64 w (by decide) (by decide)
  have HL : Hid (IsRow .i64 w a0 len cap0 zs) := hl
  have hl63 : (len : Int) ≤ 9223372036854775807 := by have := row_len hl; unfold maxLen at this; omega
  clear hl
  go_enter Try.func4, Try.ntmps4
  go_wp2_with fail
  refine cn.mono ?_
  rintro e w1 ⟨p, rfl, g1, O1⟩
  have HO1 : Hid (Own w w1 p g1 64 [(0, 64)]) := O1
  clear cn O1
  go_wp2_with (first
    | (refine alloc_arr isTaken rfl rfl ?_)
    | (refine build_arr isTaken rfl rfl ?_)
    | (refine store_new isTaken _ _ _ _ _ _ rfl rfl rfl rfl rfl rfl (brow_size _) (brow_size _) (brow_one _) ?_))
  obtain ⟨tb, htb⟩ : ∃ tb, tb = w1.heap.size := ⟨_, rfl⟩
  have K0 : Keeps w (w1.alloc (.cells (brow fun _ => false) 46)) p g1 tb [(0, 64)] [] (fun _ => false) none 0 0 := by
    have hlt := HO1.out.lt
    have hbs := HO1.out.bel.size
    refine { own := HO1.out.over (below1 w1 _), has := by rw [htb]; exact has_new _ _, rows := srows_nil _ _ _, len := rfl, ab := by omega, np := by omega, ng := by omega, foot := fun k hk => by simp [Value.ownBlock] at hk }
  have HK0 : Hid (Keeps w (w1.alloc (.cells (brow fun _ => false) 46)) p g1 tb [(0, 64)] [] (fun _ => false) none 0 0) := K0
  rw [← htb]
  clear K0 htb
  go_loopg [5, 7] len (fun gg s5 s7 wx => ∃ (i g : Nat) (hs told : List (Nat × Nat)) (tk : Nat → Bool) (va : Option Addr) (q vc : Nat), i + gg = len ∧ s7 = .int .i64 i ∧ s5 = .slice va q vc ∧ Keeps w wx p g tb hs told tk va q vc ∧ Once hs told tk ∧ q ≤ i)
  case atStart => exact ⟨0, g1, _, [], _, none, 0, 0, by omega, rfl, rfl, HK0.out, once_start, Nat.le_refl _⟩
  case round =>
    obtain ⟨i, g, hs, told, tk, va, q, vc, hig, rfl, rfl, K, ON, hqi⟩ := hrel
    clear HK0
    by_cases hst : i < len ∧ i < 60
    · obtain ⟨hi, h60⟩ := hst
      have hiI : (i : Int) < (len : Int) := by omega
      have h60I : (i : Int) < 60 := by omega
      obtain ⟨b, off, z, rfl, hb, hz, hzw⟩ := row_at HL.out i hi
      have hz2 := (K.own.bel.cell (p := ⟨b, off + i, none⟩) hb).trans hz
      obtain ⟨y15, y1, y255, hy15, hy1, hy255, e15, e1, e255⟩ := round_nums z hzw
      obtain ⟨n, hn⟩ : ∃ n, n = 1 + y15 := ⟨_, rfl⟩
      have hwn : IntKind.i64.wrap (1 + (y15 : Int)) = (n : Int) := by rw [IntKind.wrap_i64]; omega
      have hr2 : IntKind.i64.wrap ((i : Int) + 1) = (i : Int) + 1 := by rw [IntKind.wrap_i64]; omega
      have HN : Hid (1 ≤ n ∧ n ≤ 16 ∧ y255 ≤ 255 ∧ i < 60 ∧ q ≤ i ∧ i < len ∧ len ≤ 9223372036854775807) := ⟨by omega, by omega, hy255, h60, hqi, hi, by omega⟩
      have HK : Hid (Keeps w wr p g tb hs told tk va q vc ∧ Once hs told tk) := ⟨K, ON⟩
      have HZ : Hid (wr.cell? ⟨b, off + i, none⟩ = some (.int .i64 z) ∧ b < w.heap.size) := ⟨hz2, hb⟩
      clear hb hz hzw hn hy15 hy255 K ON hi h60 hqi hl63
      by_cases hfree : y1 = 1 ∧ 0 < q
      · obtain ⟨hy, hq0⟩ := hfree
        subst hy
        obtain ⟨k, hk⟩ : ∃ k, k = y255 % q := ⟨_, rfl⟩
        have hkq : k < q := by rw [hk]; exact Nat.mod_lt _ hq0
        have hkI : (k : Int) < (q : Int) := by omega
        have hqI : (0 : Int) < (q : Int) := by omega
        have hqn : ¬ (q : Int) = 0 := by omega
        have hmod : Int.tmod (y255 : Int) (q : Int) = (k : Int) := by rw [hk, Int.tmod_eq_emod_of_nonneg (by omega)]; omega
        have hmod2 : y255 % q = k := hk.symm
        obtain ⟨x, hx⟩ : ∃ x, told[k]? = some x := ⟨_, List.getElem?_eq_getElem (by have := HK.out.1.len; omega)⟩
        have hpos : 0 < (told.map ec).length := by rw [List.length_map]; have := HK.out.1.len; omega
        obtain ⟨gt, rfl, _, _⟩ := (src_of HK.out.1.rows).2 hpos
        obtain ⟨r0, r1⟩ := row_cells HK.out.1.rows hx
        have bX := below1 wr (.cells #[.int .i64 (x.1 : Int), .int .i64 (x.2 : Int)] 32)
        have KX := HK.out.1.over bX
        have hev := HK.out.2.each x (List.mem_of_getElem? hx)
        have cf := free_own KX.own x.1 x.2 hev.1 hev.2.1
        have B0 := box_new wr #[.int .i64 (x.1 : Int), .int .i64 (x.2 : Int)] 32
        have hz2 := HZ.out.1
        have hXlt : wr.heap.size < (wr.alloc (.cells #[.int .i64 (x.1 : Int), .int .i64 (x.2 : Int)] 32)).heap.size := by simp
        have hKlt := HK.out.1.own.lt
        have hTlt := HK.out.1.has.lt
        have HX : Hid (told[k]? = some x ∧ k < q ∧ 1 ≤ x.2 ∧ x.1 + x.2 ≤ 64 ∧ Keeps w (wr.alloc (.cells #[.int .i64 (x.1 : Int), .int .i64 (x.2 : Int)] 32)) p g tb hs told tk (some ⟨gt, 0, none⟩) q vc ∧ Box (wr.alloc (.cells #[.int .i64 (x.1 : Int), .int .i64 (x.2 : Int)] 32)) wr.heap.size 32 #[.int .i64 (x.1 : Int), .int .i64 (x.2 : Int)] ∧ p < wr.heap.size ∧ g < wr.heap.size ∧ tb < wr.heap.size) := ⟨hx, hkq, hev.1, hev.2.1, KX, B0, hKlt.1, hKlt.2.1, hTlt⟩
        clear hk hx hpos bX KX hev B0 hXlt hKlt hTlt hkq hq0
        go_wp2_with fail
        refine cf.mono ?_
        rintro e w3 (⟨_, hno, _⟩ | ⟨rfl, _, hs', g', hfil, O3, S3⟩)
        · exact absurd (once_none HK.out.2 HX.out.1) hno
        have K3 := HX.out.2.2.2.2.1.step O3 S3
        have X3 := S3.box HX.out.2.2.2.2.2.1 (by have := HX.out; omega) (by have := HX.out; omega)
        obtain ⟨xb, hxb⟩ : ∃ xb, xb = wr.heap.size := ⟨_, rfl⟩
        rw [← hxb] at X3
        have HF : Hid (Filled hs hs' 64 x.1 x.2 ∧ xb ≠ tb ∧ xb = wr.heap.size) := ⟨hfil, by have := HX.out; omega, hxb⟩
        have HK3 : Hid (Keeps w w3 p g' tb hs' told tk (some ⟨gt, 0, none⟩) q vc ∧ Box w3 xb 32 #[.int .i64 (x.1 : Int), .int .i64 (x.2 : Int)]) := ⟨K3, X3⟩
        clear cf hfil O3 S3 K3 X3 r0 r1 hz2 hmod hmod2 e15 e1 e255
        go_wp2_with fail
        rw [← hxb]
        clear hxb
        go_loopg [11] x.2 (fun gg s11 wx => ∃ j : Nat, j + gg = x.2 ∧ s11 = .int .i64 j ∧ Keeps w wx p g' tb hs' told (setTo tk x.1 j false) (some ⟨gt, 0, none⟩) q vc ∧ Box wx xb 32 #[.int .i64 (x.1 : Int), .int .i64 (x.2 : Int)])
        case atStart => exact ⟨0, by omega, rfl, by rw [setTo_zero]; exact HK3.out.1, HK3.out.2⟩
        case round =>
          obtain ⟨j, hjg, rfl, K4, X4⟩ := hrel
          have q0 := X4.cell 0 _ rfl
          have q1 := X4.cell 1 _ rfl
          by_cases hj : j < x.2
          · have hjI : (j : Int) < (x.2 : Int) := by omega
            have hx64 := HX.out.2.2.2.1
            have hwa : IntKind.i64.wrap ((x.1 : Int) + (j : Int)) = (x.1 : Int) + (j : Int) := by rw [IntKind.wrap_i64]; omega
            have hb0 : (0 : Int) ≤ (x.1 : Int) + (j : Int) := by clear hwa; omega
            have hb1 : (x.1 : Int) + (j : Int) < 64 := by clear hwa; omega
            have htn : ((x.1 : Int) + (j : Int)).toNat = x.1 + j := by clear hwa; omega
            have hrj : IntKind.i64.wrap ((j : Int) + 1) = (j : Int) + 1 := by rw [IntKind.wrap_i64]; clear hwa; omega
            have t0 := K4.has.cell (x.1 + j) (by clear hwa hrj; omega)
            have t1 := K4.has.frozen (x.1 + j)
            have K5 := K4.set (x.1 + j) false
            rw [setTo_step] at K5
            have X5 := X4.other (a := ⟨tb, x.1 + j, none⟩) HF.out.2.1 (.bool false)
            have HK5 : Hid (Keeps w (wr.setCell ⟨tb, x.1 + j, none⟩ (.bool false)) p g' tb hs' told (setTo tk x.1 (j + 1) false) (some ⟨gt, 0, none⟩) q vc ∧ Box (wr.setCell ⟨tb, x.1 + j, none⟩ (.bool false)) xb 32 #[.int .i64 (x.1 : Int), .int .i64 (x.2 : Int)]) := ⟨K5, X5⟩
            clear K4 X4 K5 X5 hx64
            go_wp2_with fail
            go_roundg (x.2 - (j + 1))
            case measure => clear hwa hrj; omega
            case rel => exact ⟨j + 1, by clear hwa hrj; omega, by go_num, HK5.out.1, HK5.out.2⟩
          · have hjI : ¬ (j : Int) < (x.2 : Int) := by omega
            obtain rfl : j = x.2 := by omega
            obtain ⟨i0, hi0, hz0, hz1, hz2'⟩ := info_parts info_ext
            have HI : Hid (Try.prog.info? 32 = some i0 ∧ i0.zero = some (.agg #[.int .i64 0, .int .i64 0]) ∧ i0.size = 2 ∧ i0.bytes = 16) := ⟨hi0, hz0, hz1, hz2'⟩
            have hkq := HX.out.2.1
            have hqc := (srows_open K4.rows).2.1
            have hrows := (srows_open K4.rows).2.2.2
            have hlenq := K4.len
            have HN1 : Hid (∀ (j : Nat) u, ((told.take k).map ec).flatten[j]? = some u → wr.cell? ((⟨gt, 0, none⟩ : Addr).add j) = some u) := read_head hrows (fun kk r h => by
              rw [List.map_take, List.getElem?_take] at h
              split at h
              · exact h
              · cases h) (ecs_len _)
            have HA : Hid (((told.take k).map ec).length = k ∧ ([] : List (List Value)).length + k = k ∧ [] ++ (told.take k).map ec = (told.take k).map ec ∧ k ≤ 1000000 ∧ ((told.drop (k + 1)).map ec).length = q - (k + 1) ∧ ((told.take k).map ec).length + (q - (k + 1)) = q - 1 ∧ (told.take k).map ec ++ (told.drop (k + 1)).map ec = (told.take k ++ told.drop (k + 1)).map ec ∧ q - 1 ≤ 1000000 ∧ (told.take k ++ told.drop (k + 1)).length = q - 1) := by
              have hn := HN.out
              refine ⟨?_, ?_, rfl, ?_, ?_, ?_, ?_, ?_, ?_⟩
              · rw [List.length_map, List.length_take]; omega
              · simp
              · omega
              · rw [List.length_map, List.length_drop]; omega
              · rw [List.length_map, List.length_take]; omega
              · rw [List.map_append]
              · omega
              · rw [List.length_append, List.length_take, List.length_drop]; omega
            have hrk : IntKind.i64.wrap ((k : Int) + 1) = ((k + 1 : Nat) : Int) := by rw [IntKind.wrap_i64]; have := HN.out; omega
            have hk1 : (k : Int) ≤ (q : Int) := by omega
            have hk2 : (k : Int) + 1 ≤ (q : Int) := by omega
            have hk3 : (k : Int) ≤ (vc : Int) := by omega
            have hk4 : (0 : Int) ≤ (k : Int) + 1 := by omega
            have hk5 : ((k : Int) + 1).toNat = k + 1 := by omega
            have HK4 : Hid (Keeps w wr p g' tb hs' told (setTo tk x.1 x.2 false) (some ⟨gt, 0, none⟩) q vc ∧ Rows wr gt 32 (vc * 2) 2 (told.map ec) ∧ q ≤ vc) := ⟨K4, hrows, hqc⟩
            clear K4 X4 hi0 hz0 hz1 hz2' hrows hqc hlenq hkq
            have fin : ∀ (va1 : Option Addr) (vc1 : Nat) (w7 : World) (va2 : Option Addr) (vc2 : Nat) (w8 : World), (∀ y, (Value.slice va1 k vc1).ownBlock = some y → (Value.slice none 0 0).ownBlock = some y ∨ wr.heap.size ≤ y) → Kept (fun y => (Value.slice none 0 0).ownBlock = some y) wr w7 → SRows w8 (.slice va2 (q - 1) vc2) 32 2 ((told.take k ++ told.drop (k + 1)).map ec) → (∀ y, (Value.slice va2 (q - 1) vc2).ownBlock = some y → (Value.slice va1 k vc1).ownBlock = some y ∨ w7.heap.size ≤ y) → Kept (fun y => (Value.slice va1 k vc1).ownBlock = some y) w7 w8 →
                Keeps w w8 p g' tb hs' (told.take k ++ told.drop (k + 1)) (setTo tk x.1 x.2 false) va2 (q - 1) vc2 := by
              intro va1 vc1 w7 va2 vc2 w8 f1 f2 f3 f4 f5
              have hno : ∀ y, ¬ (Value.slice none 0 0).ownBlock = some y := fun y h => by simp [Value.ownBlock] at h
              have kk : Kept (fun _ => False) wr w8 := (f2.mono (fun y hy => hno y hy)).trans f5 (fun y hy => by
                rcases f1 y hy with h | h
                · exact absurd h (hno y)
                · exact .inr h)
              refine HK4.out.1.retold kk (fun _ h => h.elim) f3 HA.out.2.2.2.2.2.2.2.2 (fun y hy => .inr ?_)
              have hsz := f2.size
              rcases f4 y hy with h | h
              · rcases f1 y h with h' | h'
                · exact absurd h' (hno y)
                · exact h'
              · omega
            by_cases hvc : vc = k + 1
            case' pos =>
              have hadr : ∀ w7 : World, Kept (fun y => (Value.slice none 0 0).ownBlock = some y) wr w7 → ∀ (j : Nat) u, ((told.drop (k + 1)).map ec).flatten[j]? = some u → w7.cell? ((⟨gt, 0, none⟩ : Addr).add j) = some u := fun w7 _ j u hu => by
                have h1 := HA.out.2.2.2.2.1
                have h2 := HK4.out.2.2
                have h3 : ((told.drop (k + 1)).map ec) = [] := List.eq_nil_of_length_eq_zero (by rw [h1]; clear hrk; omega)
                rw [h3] at hu
                simp at hu
            case' neg =>
              have hadr : ∀ w7 : World, Kept (fun y => (Value.slice none 0 0).ownBlock = some y) wr w7 → ∀ (j : Nat) u, ((told.drop (k + 1)).map ec).flatten[j]? = some u → w7.cell? ((⟨gt, (k + 1) * 2, none⟩ : Addr).add j) = some u := fun w7 h7 => (HK4.out.2.1.kept h7 (fun h => by simp [Value.ownBlock] at h)).read (by decide) (fun kk r h => by
                rw [List.map_drop, List.getElem?_drop] at h
                exact h) (ecs_len _)
            all_goals
              have HAD := hadr
              have HNE : Hid (∀ r ∈ (told.drop (k + 1)).map ec, ∀ c ∈ r, c.oneCell' = true) := ecs_one _
              clear hadr
              go_wp2_with (at_builtin; first
                | (refine append_any rfl _ _ 45 32 i0 _ 2 16 rfl Try.underlying45 HI.out.1 HI.out.2.1 HI.out.2.2.1 HI.out.2.2.2 rfl (by decide) (by decide) rfl rfl (srows_nil wr 32 2) HA.out.1 (ecs_len _) HN1.out (ecs_one _) k HA.out.2.1 ((told.take k).map ec) HA.out.2.2.1 HA.out.2.2.2.1 ?_; intro va1 vc1 w7 s1 s2 s3)
                | (refine append_any rfl _ _ 45 32 i0 _ 2 16 rfl Try.underlying45 HI.out.1 HI.out.2.1 HI.out.2.2.1 HI.out.2.2.2 rfl (by decide) (by decide) rfl rfl s1.out HA.out.2.2.2.2.1 (ecs_len _) (HAD w7 s3.out) (ecs_one _) (q - 1) HA.out.2.2.2.2.2.1 ((told.take k ++ told.drop (k + 1)).map ec) HA.out.2.2.2.2.2.2.1 HA.out.2.2.2.2.2.2.2.1 ?_; intro va2 vc2 w8 s4 s5 s6))
              go_roundg (len - (i + 1))
              case measure => clear hrk hr2 hwn; have := HN.out; omega
              case rel => exact ⟨i + 1, g', hs', told.take k ++ told.drop (k + 1), setTo tk x.1 x.2 false, va2, q - 1, vc2, by clear hrk hr2 hwn; have := HN.out; omega, by go_num, rfl, fin va1 vc1 w7 va2 vc2 w8 s2.out s3.out s4.out s5.out s6.out, once_free HK.out.2 HX.out.1 HF.out.1, by clear hrk hr2 hwn; have := HN.out; omega⟩
      · have hz2 := HZ.out.1
        by_cases hy : y1 = 1
        case' pos =>
          subst hy
          have hq0 : ¬ (0 : Int) < (q : Int) := by omega
        case' neg =>
          have hyb : ((y1 : Int) == 1) = false := by simp; omega
        all_goals
          have cl := longest_own HK.out.1.own
          obtain ⟨lg, hlg⟩ : ∃ lg, lg = maxH hs := ⟨_, rfl⟩
          rw [← hlg] at cl
          have HLG : Hid (lg = maxH hs) := hlg
          clear hlg hfree
          go_wp2_with fail
          refine cl.mono ?_
          rintro e w2 ⟨rfl, b2⟩
          have K2 := HK.out.1.over b2
          have ca := alloc_own K2.own n (by have := HN.out; omega)
          have HK2 : Hid (Keeps w w2 p g tb hs told tk va q vc) := K2
          clear cl b2 K2 hz2 e15 e1 e255
          go_wp2_with fail
          refine ca.mono ?_
          rintro e w3 (⟨rfl, hno, b3⟩ | ⟨kk, x, d, hd, rfl, hfit, hs', g', hcut, O3, S3⟩)
          · have K3 := (HK2.out.over b3).over (below1 w3 (.cells #[.int .i64 0, .int .i64 0] 32))
            have hle : ¬ (n : Int) ≤ (lg : Int) := by rw [HLG.out]; exact nofit_max (by have := HN.out; clear hwn hr2; omega) hno
            have hle2 : decide ((n : Int) ≤ (lg : Int)) = false := decide_eq_false hle
            have hle3 : decide (n ≤ lg) = false := decide_eq_false (by clear hwn hr2; omega)
            have HK3 : Hid (Keeps w (w3.alloc (.cells #[.int .i64 0, .int .i64 0] 32)) p g tb hs told tk va q vc) := K3
            clear ca hno b3 K3
            go_wp2_with fail
            go_roundg (len - (i + 1))
            case measure => clear hr2 hwn; have := HN.out; omega
            case rel => exact ⟨i + 1, g, hs, told, tk, va, q, vc, by clear hr2 hwn; have := HN.out; omega, by go_num, rfl, HK3.out, HK.out.2, by clear hr2 hwn; have := HN.out; omega⟩
          · obtain rfl : n = d := by clear hwn hr2; omega
            have hxw := HK2.out.own.within x (List.mem_of_getElem? hfit.1)
            have hxd := hfit.2.1
            have bX := below1 w3 (.cells #[.int .i64 (x.1 : Int), .int .i64 (n : Int)] 32)
            have K3 := (HK2.out.step O3 S3).over bX
            have X3 := box_new w3 #[.int .i64 (x.1 : Int), .int .i64 (n : Int)] 32
            have hle : (n : Int) ≤ (lg : Int) := by rw [HLG.out]; exact fit_max hfit
            have hsub : IntKind.i64.wrap (64 - (n : Int)) = 64 - (n : Int) := by rw [IntKind.wrap_i64]; have := HN.out; clear hwn hr2; omega
            have hx64 : ¬ (64 - (n : Int)) < (x.1 : Int) := by clear hwn hr2 hsub; omega
            have hltb := K3.has.lt
            have hTlt := (HK2.out.step O3 S3).has.lt
            obtain ⟨xb, hxb⟩ : ∃ xb, xb = w3.heap.size := ⟨_, rfl⟩
            have q0 := X3.cell 0 _ rfl
            have q1 := X3.cell 1 _ rfl
            rw [← hxb] at X3
            have HX : Hid (FirstFit hs n kk x ∧ Cut hs hs' 64 x.1 n ∧ x.1 + n ≤ 64 ∧ xb ≠ tb ∧ Within 64 hs) := ⟨hfit, hcut, by clear hwn hr2 hsub; omega, by omega, HK2.out.own.within⟩
            have HK3 : Hid (Keeps w (w3.alloc (.cells #[.int .i64 (x.1 : Int), .int .i64 (n : Int)] 32)) p g' tb hs' told tk va q vc ∧ Box (w3.alloc (.cells #[.int .i64 (x.1 : Int), .int .i64 (n : Int)] 32)) xb 32 #[.int .i64 (x.1 : Int), .int .i64 (n : Int)]) := ⟨K3, X3⟩
            clear ca hd hfit hcut O3 S3 hxw hxd bX K3 X3 hltb hTlt
            go_wp2_with fail
            rw [← hxb]
            clear hxb q0 q1 hle hx64 hsub
            go_loopg [16] n (fun gg s16 wx => ∃ j : Nat, j + gg = n ∧ s16 = .int .i64 j ∧ Keeps w wx p g' tb hs' told (setTo tk x.1 j true) va q vc ∧ Box wx xb 32 #[.int .i64 (x.1 : Int), .int .i64 (n : Int)])
            case atStart => exact ⟨0, by omega, rfl, by rw [setTo_zero]; exact HK3.out.1, HK3.out.2⟩
            case round =>
              obtain ⟨j, hjg, rfl, K4, X4⟩ := hrel
              have q0 := X4.cell 0 _ rfl
              have q1 := X4.cell 1 _ rfl
              by_cases hj : j < n
              · have hjI : (j : Int) < (n : Int) := by omega
                have hx64 := HX.out.2.2.1
                have hwa : IntKind.i64.wrap ((x.1 : Int) + (j : Int)) = (x.1 : Int) + (j : Int) := by rw [IntKind.wrap_i64]; clear hwn hr2; omega
                have hb0 : (0 : Int) ≤ (x.1 : Int) + (j : Int) := by clear hwa hwn hr2; omega
                have hb1 : (x.1 : Int) + (j : Int) < 64 := by clear hwa hwn hr2; omega
                have htn : ((x.1 : Int) + (j : Int)).toNat = x.1 + j := by clear hwa hwn hr2; omega
                have hrj : IntKind.i64.wrap ((j : Int) + 1) = (j : Int) + 1 := by rw [IntKind.wrap_i64]; have := HN.out; clear hwa hwn hr2; omega
                have t0 := K4.has.cell (x.1 + j) (by clear hwa hrj hwn hr2; omega)
                have htk : setTo tk x.1 j true (x.1 + j) = false := by
                  unfold setTo
                  rw [if_neg (by clear hwa hrj hwn hr2; omega)]
                  exact once_open HK.out.2 HX.out.2.2.2.2 HX.out.1 rfl j hj
                rw [htk] at t0
                have t1 := K4.has.frozen (x.1 + j)
                have K5 := K4.set (x.1 + j) true
                rw [setTo_step] at K5
                have X5 := X4.other (a := ⟨tb, x.1 + j, none⟩) HX.out.2.2.2.1 (.bool true)
                have HK5 : Hid (Keeps w (wr.setCell ⟨tb, x.1 + j, none⟩ (.bool true)) p g' tb hs' told (setTo tk x.1 (j + 1) true) va q vc ∧ Box (wr.setCell ⟨tb, x.1 + j, none⟩ (.bool true)) xb 32 #[.int .i64 (x.1 : Int), .int .i64 (n : Int)]) := ⟨K5, X5⟩
                clear K4 X4 K5 X5 hx64 htk
                go_wp2_with fail
                go_roundg (n - (j + 1))
                case measure => clear hwa hrj hwn hr2; omega
                case rel => exact ⟨j + 1, by clear hwa hrj hwn hr2; omega, by go_num, HK5.out.1, HK5.out.2⟩
              · have hjI : ¬ (j : Int) < (n : Int) := by omega
                obtain rfl : j = n := by omega
                obtain ⟨i0, hi0, hz0, hz1, hz2'⟩ := info_parts info_ext
                have HI : Hid (Try.prog.info? 32 = some i0 ∧ i0.zero = some (.agg #[.int .i64 0, .int .i64 0]) ∧ i0.size = 2 ∧ i0.bytes = 16) := ⟨hi0, hz0, hz1, hz2'⟩
                have bB := below1 wr (.cells #[.int .i64 (x.1 : Int), .int .i64 (j : Int)] 32)
                have K6 := K4.over bB
                have HU := srows_new wr (ec (x.1, j)) 32 (ec_len _)
                have HN1 : Hid (∀ (jj : Nat) u, [ec (x.1, j)].flatten[jj]? = some u → (wr.alloc (.cells #[.int .i64 (x.1 : Int), .int .i64 (j : Int)] 32)).cell? ((⟨wr.heap.size, 0, none⟩ : Addr).add jj) = some u) := read_head (srows_open HU).2.2.2 (fun _ _ h => h) HU.rowlen
                have HA : Hid ((told.map ec).length + 1 = q + 1 ∧ told.map ec ++ [ec (x.1, j)] = (told ++ [(x.1, j)]).map ec ∧ q + 1 ≤ 1000000 ∧ (told ++ [(x.1, j)]).length = q + 1) := by
                  have hn := HN.out
                  have hl := K4.len
                  refine ⟨by rw [List.length_map]; omega, by rw [List.map_append]; rfl, by clear hwn hr2; omega, by rw [List.length_append, hl]; rfl⟩
                have HK6 : Hid (Keeps w (wr.alloc (.cells #[.int .i64 (x.1 : Int), .int .i64 (j : Int)] 32)) p g' tb hs' told (setTo tk x.1 j true) va q vc) := K6
                clear K4 X4 K6 HU bB hi0 hz0 hz1 hz2'
                go_wp2_with (at_builtin; refine append_any rfl _ _ 45 32 i0 _ 2 16 rfl Try.underlying45 HI.out.1 HI.out.2.1 HI.out.2.2.1 HI.out.2.2.2 rfl (by decide) (by decide) rfl rfl HK6.out.rows (R2 := [ec (x.1, j)]) rfl (ecs_len [(x.1, j)]) HN1.out (ecs_one [(x.1, j)]) (q + 1) HA.out.1 ((told ++ [(x.1, j)]).map ec) HA.out.2.1 HA.out.2.2.1 ?_; intro va2 vc2 w8 s4 s5 s6)
                have KF := HK6.out.retold s6.out (fun y hy => HK6.out.foot y hy) s4.out HA.out.2.2.2 s5.out
                go_roundg (len - (i + 1))
                case measure => clear hr2 hwn; have := HN.out; omega
                case rel => exact ⟨i + 1, g', hs', told ++ [(x.1, j)], setTo tk x.1 j true, va2, q + 1, vc2, by clear hr2 hwn; have := HN.out; omega, by go_num, rfl, KF, once_alloc HK.out.2 HX.out.2.2.2.2 HX.out.1 rfl HN.out.1 HX.out.2.1, by clear hr2 hwn; have := HN.out; omega⟩
    · by_cases hi : i < len
      case' pos =>
        have hiI : (i : Int) < (len : Int) := by omega
        have h60I : ¬ (i : Int) < 60 := by omega
      case' neg =>
        have hiI : ¬ (i : Int) < (len : Int) := by omega
      all_goals
        clear hst hi
        have HK : Hid (Keeps w wr p g tb hs told tk va q vc ∧ Once hs told tk) := ⟨K, ON⟩
        clear K ON
        go_wp2_with fail
        go_loopg [17, 18] 64 (fun gg s17 s18 wx => ∃ j : Nat, j + gg = 64 ∧ s18 = .int .i64 j ∧ s17 = .int .i64 (cnt (fun b => !tk b) j) ∧ wx = wr)
        case atStart => exact ⟨0, by omega, rfl, rfl, rfl⟩
        case round =>
          obtain ⟨j, hjg, rfl, rfl, rfl⟩ := hrel
          obtain ⟨c, hc⟩ : ∃ c, c = cnt (fun b => !tk b) j := ⟨_, rfl⟩
          rw [← hc]
          have hcj : c ≤ j := by rw [hc]; exact cnt_le _ _
          have HC : Hid (c = cnt (fun b => !tk b) j) := hc
          clear hc
          by_cases hj : j < 64
          · have hjI : (j : Int) < 64 := by omega
            have t0 := HK.out.1.has.cell j hj
            have hrj : IntKind.i64.wrap ((j : Int) + 1) = (j : Int) + 1 := by rw [IntKind.wrap_i64]; omega
            have hrc : IntKind.i64.wrap ((c : Int) + 1) = (c : Int) + 1 := by rw [IntKind.wrap_i64]; clear hrj; omega
            cases htk : tk j
            · rw [htk] at t0
              have HT : Hid (tk j = false) := htk
              clear htk
              go_wp2_with fail
              go_roundg (64 - (j + 1))
              case measure => clear hrj hrc; omega
              case rel =>
                refine ⟨j + 1, by clear hrj hrc; omega, by go_num, ?_, rfl⟩
                rw [cnt, HT.out, ← HC.out]
                go_num
            · rw [htk] at t0
              have HT : Hid (tk j = true) := htk
              clear htk
              go_wp2_with fail
              go_roundg (64 - (j + 1))
              case measure => clear hrj hrc; omega
              case rel =>
                refine ⟨j + 1, by clear hrj hrc; omega, by go_num, ?_, rfl⟩
                rw [cnt, HT.out, ← HC.out]
                rfl
          · have hjI : ¬ (j : Int) < 64 := by omega
            obtain rfl : j = 64 := by omega
            have cl := left_own HK.out.1.own
            rw [← cnt_taken HK.out.1.own.nice HK.out.1.own.within HK.out.2.free, ← HC.out] at cl
            have HB : Hid (Own w wr p g 64 hs) := HK.out.1.own
            clear hcj
            go_wp2_with fail
            refine cl.mono ?_
            rintro e w5 ⟨rfl, b5⟩
            have O5 := HB.out.over b5
            have ca := awake_any w5
            have HB5 : Hid (Below w.heap.size w w5) := O5.bel
            clear cl b5 O5
            go_wp2_with fail
            refine ca.mono ?_
            rintro e w6 ⟨rfl, b6⟩
            have HB6 : Hid (Below w.heap.size w w6) := HB5.out.trans (b6.mono HB5.out.size)
            clear ca b6
            go_wp2_with fail
            go_ret
            exact ⟨rfl, HB6.out⟩
end Go.Proofs.Ytjnobdgigeejnaa
