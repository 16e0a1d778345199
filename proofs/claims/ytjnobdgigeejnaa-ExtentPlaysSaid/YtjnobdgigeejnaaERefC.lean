/-
  The contracts of peristyleref05's Holes and Longest.
-/
import Derived.Test.YtjnobdgigeejnaaERefB
namespace Go.Proofs.Ytjnobdgigeejnaa
open Go.RowKit

/-- The holes among the first i blocks. -/
def Part (tk : Nat → Bool) (H : List (Nat × Nat)) (i : Nat) : Prop := Nice 0 H ∧ Within i H ∧ ∀ x, FreeAt H x ↔ x < i ∧ tk x = false
section
variable {tk : Nat → Bool} {H hs : List (Nat × Nat)} {i n : Nat}
theorem part_start : Part tk [] 0 := ⟨trivial, fun h hh => by simp at hh, fun x => by simp [free_nil]⟩
theorem part_skip (P : Part tk H i) (h : tk i = true) : Part tk H (i + 1) := by
  refine ⟨P.1, fun x hx => by have := P.2.1 x hx; omega, fun x => ?_⟩
  rw [P.2.2 x]
  constructor
  · rintro ⟨h1, h2⟩; exact ⟨by omega, h2⟩
  · rintro ⟨h1, h2⟩
    refine ⟨?_, h2⟩
    by_cases e : x = i
    · subst e; rw [h] at h2; cases h2
    · omega
theorem part_new (P : Part tk H i) (h : tk i = false) (hp : i = 0 ∨ tk (i - 1) = true) : Part tk (H ++ [(i, 1)]) (i + 1) := by
  have hends : ∀ x ∈ H, x.1 + x.2 + 1 ≤ i := by
    intro x hx
    have h1 := P.2.1 x hx
    have h2 := (P.1.mem_ge x hx).2
    by_cases e : x.1 + x.2 = i
    · have hf : FreeAt H (i - 1) := ⟨x, hx, by omega, by omega⟩
      have := ((P.2.2 (i - 1)).1 hf).2
      rcases hp with hp | hp
      · omega
      · rw [hp] at this; cases this
    · omega
  refine ⟨nice_put P.1 hends (by simp) trivial, ?_, fun x => ?_⟩
  · intro x hx
    rcases List.mem_append.1 hx with hx | hx
    · have := P.2.1 x hx; omega
    · simp at hx; subst hx; simp
  · rw [free_append, P.2.2 x, free_cons]
    simp only [free_nil, or_false]
    constructor
    · rintro (⟨h1, h2⟩ | h1)
      · exact ⟨by omega, h2⟩
      · obtain rfl : x = i := by omega
        exact ⟨by omega, h⟩
    · rintro ⟨h1, h2⟩
      by_cases e : x = i
      · exact .inr (by omega)
      · exact .inl ⟨by omega, h2⟩
theorem part_merge (P : Part tk H i) (h : tk i = false) (hi : 0 < i) (hp : tk (i - 1) = false) : ∃ H' l, H = H' ++ [l] ∧ l.1 + l.2 = i ∧ Part tk (H' ++ [(l.1, l.2 + 1)]) (i + 1) := by
  obtain ⟨y, hy, hy1, hy2⟩ := (P.2.2 (i - 1)).2 ⟨by omega, hp⟩
  have hyi := P.2.1 y hy
  rcases List.eq_nil_or_concat H with e | ⟨H', l, e⟩
  · rw [e] at hy; simp at hy
  · rw [List.concat_eq_append] at e
    have hn := P.1
    rw [e] at hn
    obtain ⟨k1, k2, k3, _⟩ := nice_mid hn
    have hl : l.1 + l.2 = i := by
      rw [e] at hy
      have hli := P.2.1 l (by rw [e]; simp)
      rcases List.mem_append.1 hy with hy | hy
      · have := k2 y hy; omega
      · simp at hy; subst hy; omega
    refine ⟨H', l, e, hl, nice_put k1 k2 (by simp) trivial, ?_, fun x => ?_⟩
    · intro x hx
      rcases List.mem_append.1 hx with hx | hx
      · have := P.2.1 x (by rw [e]; simp [hx]); omega
      · simp at hx; subst hx; simp only; omega
    · have hx := P.2.2 x
      rw [e, free_append, free_cons] at hx
      rw [free_append, free_cons]
      simp only [free_nil, or_false] at hx ⊢
      constructor
      · rintro (h1 | h1)
        · have := hx.1 (.inl h1); exact ⟨by omega, this.2⟩
        · by_cases e2 : x = i
          · subst e2; exact ⟨by omega, h⟩
          · have := hx.1 (.inr (by omega)); exact ⟨by omega, this.2⟩
      · rintro ⟨h1, h2⟩
        by_cases e2 : x = i
        · exact .inr (by omega)
        · rcases hx.2 ⟨by omega, h2⟩ with h3 | h3
          · exact .inl h3
          · exact .inr (by omega)
theorem part_done (P : Part tk H n) (hn : Nice 0 hs) (hw : Within n hs) (h : ∀ b, b < n → (tk b = false ↔ FreeAt hs b)) : H = hs := by
  refine nice_unique H hs 0 0 P.1 hn fun b => ?_
  rw [P.2.2 b]
  constructor
  · rintro ⟨h1, h2⟩; exact (h b h1).1 h2
  · intro hf
    obtain ⟨x, hx, h1, h2⟩ := hf
    have := hw x hx
    exact ⟨by omega, (h b (by omega)).2 ⟨x, hx, h1, h2⟩⟩
theorem part_len (P : Part tk H i) : H.length ≤ i := by
  have h1 := len_le H 0 P.1
  have h2 := sum_le H 0 i P.1 P.2.1 (Nat.zero_le _)
  omega
end
/-- The second cell of a row turned. -/
theorem rows_second {w : World} {b : Nat} {t : TypeId} {tot : Nat} {R : List (List Value)} (h : Rows w b t tot 2 R) {k : Nat} {x y : Value} (hk : R[k]? = some [x, y]) (z : Value) : Rows (w.setCell ⟨b, k * 2 + 1, none⟩ z) b t tot 2 (R.set k [x, z]) := by
  have hkl := (List.getElem?_eq_some_iff.1 hk).1
  have hft := h.fit hkl
  obtain ⟨cur, h1, h2, h3, h4, h5⟩ := h
  refine ⟨cur.setIfInBounds (k * 2 + 1) z, heap_setCell_same w b _ cur t z h1, by simpa using h2, by simpa using h3, ?_, ?_⟩
  · intro r hr
    rcases List.mem_or_eq_of_mem_set hr with hr | rfl
    · exact h4 r hr
    · rfl
  · intro i r hr j v hv
    rw [List.getElem?_set] at hr
    by_cases e : k = i
    · subst e
      simp [hkl] at hr
      subst hr
      match j, hv with
      | 0, hv =>
        simp at hv
        subst hv
        rw [Array.getElem?_setIfInBounds, if_neg (by omega)]
        exact h5 k _ hk 0 _ rfl
      | 1, hv =>
        simp at hv
        subst hv
        rw [Array.getElem?_setIfInBounds, if_pos rfl, if_pos (by omega)]
      | j + 2, hv => simp at hv
    · rw [if_neg e] at hr
      have hj : j < 2 := by
        have := h4 r (List.mem_of_getElem? hr)
        have := (List.getElem?_eq_some_iff.1 hv).1
        omega
      rw [Array.getElem?_setIfInBounds, if_neg (by omega)]
      exact h5 i r hr j v hv

set_option maxRecDepth 4000 in
set_option maxHeartbeats 4000000 in
theorem rholes_any {w : World} {b c n : Nat} {tk : Nat → Bool} (M : RefM w b c n tk) (hn : n ≤ 4096) {hs : List (Nat × Nat)} (hni : Nice 0 hs) (hwi : Within n hs) (hrel : ∀ x, x < n → (tk x = false ↔ FreeAt hs x)) :
    Calls Try.prog 38 #[.slice (some ⟨b, 0, none⟩) n c] w fun e w' => (∃ va vc, e = .returned (.slice va hs.length vc) ∧ SRows w' (.slice va hs.length vc) 32 2 (hs.map ec)) ∧ Below w.heap.size w w' := by
  obtain ⟨i0, hi0, hz0, hz1, hz2⟩ := info_parts info_ext
  have HI : Hid (Try.prog.info? 32 = some i0 ∧ i0.zero = some (.agg #[.int .i64 0, .int .i64 0]) ∧ i0.size = 2 ∧ i0.bytes = 16) := ⟨hi0, hz0, hz1, hz2⟩
  have HM : Hid (RefM w b c n tk ∧ Nice 0 hs ∧ Within n hs ∧ ∀ x, x < n → (tk x = false ↔ FreeAt hs x)) := ⟨M, hni, hwi, hrel⟩
  clear M hni hwi hrel hi0 hz0 hz1 hz2
  go_enter Try.func38, Try.ntmps38
  go_wp2_with fail
  go_loopg [3, 4] n (fun gg s3 s4 wx => ∃ (i : Nat) (H : List (Nat × Nat)) (va : Option Addr) (q vc : Nat), i + gg = n ∧ s4 = .int .i64 i ∧ s3 = .slice va q vc ∧ H.length = q ∧ Part tk H i ∧ SRows wx (.slice va q vc) 32 2 (H.map ec) ∧ (∀ x, (Value.slice va q vc).ownBlock = some x → w.heap.size ≤ x) ∧ Below w.heap.size w wx)
  case atStart => exact ⟨0, [], none, 0, 0, by omega, rfl, rfl, rfl, part_start, srows_nil _ _ _, noOwn _, Below.refl _ _⟩
  case round =>
    obtain ⟨i, H, va, q, vc, hig, rfl, rfl, hHq, hP, hsr, hown, hb⟩ := hrel
    have hqi : q ≤ i := by rw [← hHq]; exact part_len hP
    have HH : Hid (H.length = q ∧ Part tk H i ∧ SRows wr (.slice va q vc) 32 2 (H.map ec) ∧ (∀ x, (Value.slice va q vc).ownBlock = some x → w.heap.size ≤ x) ∧ Below w.heap.size w wr) := ⟨hHq, hP, hsr, hown, hb⟩
    clear hHq hP hsr hown hb
    by_cases hi : i < n
    · have hiI : (i : Int) < (n : Int) := by omega
      have t0 := (HM.out.1.over HH.out.2.2.2.2).cell i hi
      have hri : IntKind.i64.wrap ((i : Int) + 1) = (i : Int) + 1 := by rw [IntKind.wrap_i64]; omega
      cases htk : tk i
      · rw [htk] at t0
        have HT : Hid (tk i = false) := htk
        clear htk
        by_cases hmg : 0 < i ∧ tk (i - 1) = false
        · obtain ⟨hi1, hprev⟩ := hmg
          have hi1I : (0 : Int) < (i : Int) := by omega
          obtain ⟨ii, hii⟩ : ∃ ii, ii = i - 1 := ⟨_, rfl⟩
          have hwi1 : IntKind.i64.wrap ((i : Int) - 1) = (ii : Int) := by rw [IntKind.wrap_i64]; clear hri; omega
          have hiiI : (ii : Int) < (n : Int) := by clear hri hwi1; omega
          have t1 := (HM.out.1.over HH.out.2.2.2.2).cell ii (by clear hri hwi1; omega)
          rw [hii, hprev, ← hii] at t1
          obtain ⟨H', l, hHl, hli, hP2⟩ := part_merge HH.out.2.1 HT.out hi1 hprev
          have hqpos : q = H'.length + 1 := by rw [← HH.out.1, hHl]; simp
          obtain ⟨r, hr⟩ : ∃ r, r = H'.length := ⟨_, rfl⟩
          have hrq : q = r + 1 := by omega
          have hpos : 0 < (H.map ec).length := by rw [List.length_map, HH.out.1]; omega
          obtain ⟨gt, hva, hrows, _⟩ := (src_of HH.out.2.2.1).2 hpos
          subst hva
          have hl : H[r]? = some l := by rw [hHl, hr, List.getElem?_append_right (Nat.le_refl _)]; simp
          obtain ⟨y0, y1⟩ := row_cells HH.out.2.2.1 hl
          have hrow : (H.map ec)[r]? = some [.int .i64 (l.1 : Int), .int .i64 (l.2 : Int)] := by rw [List.getElem?_map, hl]; rfl
          have hR2 := rows_second hrows hrow (.int .i64 ((l.2 : Int) + 1))
          have hset : (H.map ec).set r [.int .i64 (l.1 : Int), .int .i64 ((l.2 : Int) + 1)] = (H' ++ [(l.1, l.2 + 1)]).map ec := by
            rw [hHl, hr, List.map_append, List.map_append, List.set_append_right _ _ (by simp)]
            simp [ec]
          rw [hset] at hR2
          have hfz := rows_frozen hrows (r * 2 + 1)
          have hcapq := (srows_open HH.out.2.2.1)
          have hgt := HH.out.2.2.2.1 gt rfl
          have hwq : IntKind.i64.wrap ((q : Int) - 1) = (r : Int) := by rw [IntKind.wrap_i64]; clear hri hwi1; omega
          have hrI : (r : Int) < (q : Int) := by clear hri hwi1 hwq; omega
          have hwl : IntKind.i64.wrap ((l.2 : Int) + 1) = (l.2 : Int) + 1 := by rw [IntKind.wrap_i64]; clear hri hwi1 hwq; omega
          have HE : Hid (Part tk (H' ++ [(l.1, l.2 + 1)]) (i + 1) ∧ SRows (wr.setCell ⟨gt, r * 2 + 1, none⟩ (.int .i64 ((l.2 : Int) + 1))) (.slice (some ⟨gt, 0, none⟩) q vc) 32 2 ((H' ++ [(l.1, l.2 + 1)]).map ec) ∧ Below w.heap.size w (wr.setCell ⟨gt, r * 2 + 1, none⟩ (.int .i64 ((l.2 : Int) + 1))) ∧ (H' ++ [(l.1, l.2 + 1)]).length = q ∧ w.heap.size ≤ gt) := ⟨hP2, srows_shut (by simp; omega) hcapq.2.1 hcapq.2.2.1 hR2, HH.out.2.2.2.2.setCell (p := ⟨gt, r * 2 + 1, none⟩) hgt _, by simp; omega, hgt⟩
          clear hii hprev hHl hP2 hqpos hr hrq hpos hrows hl hrow hR2 hset hcapq hgt hli
          go_wp2_with fail
          go_roundg (n - (i + 1))
          case measure => clear hri hwi1 hwq hwl; omega
          case rel => exact ⟨i + 1, _, some ⟨gt, 0, none⟩, q, vc, by clear hri hwi1 hwq hwl; omega, by go_num, rfl, HE.out.2.2.2.1, HE.out.1, HE.out.2.1, fun x hx => by simp [Value.ownBlock] at hx; subst hx; exact HE.out.2.2.2.2, HE.out.2.2.1⟩
        · have bB := below1 wr (.cells #[.int .i64 (i : Int), .int .i64 1] 32)
          have HU := srows_new wr (ec (i, 1)) 32 (ec_len _)
          have HN1 : Hid (∀ (jj : Nat) u, [ec (i, 1)].flatten[jj]? = some u → (wr.alloc (.cells #[.int .i64 (i : Int), .int .i64 1] 32)).cell? ((⟨wr.heap.size, 0, none⟩ : Addr).add jj) = some u) := read_head (srows_open HU).2.2.2 (fun _ _ h => h) HU.rowlen
          have HS2 : Hid (SRows (wr.alloc (.cells #[.int .i64 (i : Int), .int .i64 1] 32)) (.slice va q vc) 32 2 (H.map ec)) := HH.out.2.2.1.of_block (fun k hk => bB.block k (HH.out.2.2.1.lt hk))
          have HA : Hid ((H.map ec).length + 1 = q + 1 ∧ H.map ec ++ [ec (i, 1)] = (H ++ [(i, 1)]).map ec ∧ q + 1 ≤ 1000000 ∧ (H ++ [(i, 1)]).length = q + 1) := ⟨by rw [List.length_map, HH.out.1], by rw [List.map_append]; rfl, by clear hri; omega, by rw [List.length_append, HH.out.1]; rfl⟩
          have HB2 : Hid (Below w.heap.size w (wr.alloc (.cells #[.int .i64 (i : Int), .int .i64 1] 32))) := HH.out.2.2.2.2.trans (bB.mono HH.out.2.2.2.2.size)
          clear HU bB
          have fin : ∀ (va2 : Option Addr) (vc2 : Nat) (w8 : World), (∀ k, (Value.slice va2 (q + 1) vc2).ownBlock = some k → (Value.slice va q vc).ownBlock = some k ∨ (wr.alloc (.cells #[.int .i64 (i : Int), .int .i64 1] 32)).heap.size ≤ k) → Kept (fun x => (Value.slice va q vc).ownBlock = some x) (wr.alloc (.cells #[.int .i64 (i : Int), .int .i64 1] 32)) w8 → (∀ x, (Value.slice va2 (q + 1) vc2).ownBlock = some x → w.heap.size ≤ x) ∧ Below w.heap.size w w8 := by
            intro va2 vc2 w8 f1 f2
            refine ⟨fun x hx => ?_, HB2.out.trans (f2.below (fun x hx => HH.out.2.2.2.1 x hx) HB2.out.size)⟩
            rcases f1 x hx with h | h
            · exact HH.out.2.2.2.1 x h
            · have := HB2.out.size; omega
          by_cases hi1 : 0 < i
          case' pos =>
            have hi1I : (0 : Int) < (i : Int) := by omega
            obtain ⟨ii, hii⟩ : ∃ ii, ii = i - 1 := ⟨_, rfl⟩
            have hwi1 : IntKind.i64.wrap ((i : Int) - 1) = (ii : Int) := by rw [IntKind.wrap_i64]; clear hri; omega
            have hiiI : (ii : Int) < (n : Int) := by clear hri hwi1; omega
            have hprev : tk (i - 1) = true := by
              cases h : tk (i - 1) with
              | true => rfl
              | false => exact absurd ⟨hi1, h⟩ hmg
            have t1 := (HM.out.1.over HH.out.2.2.2.2).cell ii (by clear hri hwi1; omega)
            rw [hii, hprev, ← hii] at t1
            have HP2 : Hid (Part tk (H ++ [(i, 1)]) (i + 1)) := part_new HH.out.2.1 HT.out (.inr hprev)
            clear hii hprev hmg
          case' neg =>
            have hi1I : ¬ (0 : Int) < (i : Int) := by omega
            have HP2 : Hid (Part tk (H ++ [(i, 1)]) (i + 1)) := part_new HH.out.2.1 HT.out (.inl (by omega))
            clear hmg
          all_goals
            clear hi1
            go_wp2_with (at_builtin; refine append_any rfl _ _ 45 32 i0 _ 2 16 rfl Try.underlying45 HI.out.1 HI.out.2.1 HI.out.2.2.1 HI.out.2.2.2 rfl (by decide) (by decide) rfl rfl HS2.out (R2 := [ec (i, 1)]) rfl (ecs_len [(i, 1)]) HN1.out (ecs_one [(i, 1)]) (q + 1) HA.out.1 ((H ++ [(i, 1)]).map ec) HA.out.2.1 HA.out.2.2.1 ?_; intro va2 vc2 w8 s4 s5 s6)
            have hf := fin va2 vc2 w8 s5.out s6.out
            go_roundg (n - (i + 1))
            case measure => clear hri; omega
            case rel => exact ⟨i + 1, H ++ [(i, 1)], va2, q + 1, vc2, by clear hri; omega, by go_num, rfl, HA.out.2.2.2, HP2.out, s4.out, hf.1, hf.2⟩
      · rw [htk] at t0
        have HT : Hid (tk i = true) := htk
        clear htk
        go_wp2_with fail
        go_roundg (n - (i + 1))
        case measure => clear hri; omega
        case rel => exact ⟨i + 1, H, va, q, vc, by clear hri; omega, by go_num, rfl, HH.out.1, part_skip HH.out.2.1 HT.out, HH.out.2.2.1, HH.out.2.2.2.1, HH.out.2.2.2.2⟩
    · have hiI : ¬ (i : Int) < (n : Int) := by omega
      obtain rfl : i = n := by omega
      have e := part_done HH.out.2.1 HM.out.2.1 HM.out.2.2.1 HM.out.2.2.2
      subst e
      go_wp2_with fail
      go_ret
      have hh := HH.out
      rw [hh.1]
      exact ⟨⟨va, vc, rfl, hh.2.2.1⟩, hh.2.2.2.2⟩

set_option maxRecDepth 4000 in
set_option maxHeartbeats 4000000 in
theorem rlongest_any {w : World} {b c n : Nat} {tk : Nat → Bool} (M : RefM w b c n tk) (hn : n ≤ 4096) {hs : List (Nat × Nat)} (hni : Nice 0 hs) (hwi : Within n hs) (hrel : ∀ x, x < n → (tk x = false ↔ FreeAt hs x)) :
    Calls Try.prog 37 #[.slice (some ⟨b, 0, none⟩) n c] w fun e w' => e = .returned (.int .i64 (maxH hs)) ∧ Below w.heap.size w w' := by
  have ch := rholes_any M hn hni hwi hrel
  obtain ⟨q, hq⟩ : ∃ q, q = hs.length := ⟨_, rfl⟩
  have hq4 : q ≤ 4096 := by
    have h1 := len_le hs 0 hni
    have h2 := sum_le hs 0 n hni hwi (Nat.zero_le _)
    omega
  rw [← hq] at ch
  have HQ : Hid (q = hs.length) := hq
  clear M hni hwi hrel hq
  go_enter Try.func37, Try.ntmps37
  go_wp2_with fail
  refine ch.mono ?_
  rintro e w1 ⟨⟨va, vc, rfl, hsr⟩, b1⟩
  have HS : Hid (SRows w1 (.slice va q vc) 32 2 (hs.map ec) ∧ Below w.heap.size w w1) := ⟨hsr, b1⟩
  clear ch hsr b1
  go_wp2_with fail
  go_loopg [3, 5] q (fun gg s3 s5 wx => ∃ i : Nat, i + gg = q ∧ s3 = .int .i64 (maxH (hs.take i)) ∧ s5 = .int .i64 i ∧ wx = w1)
  case atStart => exact ⟨0, by omega, by simp [maxH], rfl, rfl⟩
  case round =>
    obtain ⟨i, hig, rfl, rfl, rfl⟩ := hrel
    obtain ⟨s, hs0⟩ : ∃ s, s = maxH (hs.take i) := ⟨_, rfl⟩
    rw [← hs0]
    have HS0 : Hid (s = maxH (hs.take i)) := hs0
    clear hs0
    by_cases hi : i < q
    · have hiI : (i : Int) < (q : Int) := by omega
      obtain ⟨x, hx⟩ : ∃ x, hs[i]? = some x := ⟨_, List.getElem?_eq_getElem (by have := HQ.out; omega)⟩
      have hpos : 0 < (hs.map ec).length := by rw [List.length_map]; have := HQ.out; omega
      obtain ⟨gt, rfl, _, _⟩ := (src_of HS.out.1).2 hpos
      obtain ⟨e0, e1⟩ := row_cells HS.out.1 hx
      have hst := max_take hs i x hx
      have hr2 : IntKind.i64.wrap ((i : Int) + 1) = (i : Int) + 1 := by rw [IntKind.wrap_i64]; omega
      have HX : Hid (maxH (hs.take (i + 1)) = max (maxH (hs.take i)) x.2) := hst
      clear hx hst hpos
      by_cases hsx : s < x.2
      case' pos =>
        have hs1 : (s : Int) < (x.2 : Int) := by omega
        have hs2 : ¬ (x.2 : Int) ≤ (s : Int) := by omega
      case' neg =>
        have hs1 : ¬ (s : Int) < (x.2 : Int) := by omega
        have hs2 : (x.2 : Int) ≤ (s : Int) := by omega
      all_goals
        go_wp2_with fail
        go_roundg (q - (i + 1))
        case measure => clear hr2; omega
        case rel =>
          refine ⟨i + 1, by clear hr2; omega, ?_, by go_num, rfl⟩
          rw [HX.out, ← HS0.out]
          congr 1
          clear hr2
          omega
    · have hiI : ¬ (i : Int) < (q : Int) := by omega
      go_wp2_with fail
      go_ret
      have e : hs.take i = hs := List.take_of_length_le (by have := HQ.out; omega)
      have := HS0.out
      rw [e] at this
      rw [this]
      exact ⟨rfl, HS.out.2⟩
end Go.Proofs.Ytjnobdgigeejnaa
