/-
  A map in memory; the contracts of extent's small functions.
-/
import Derived.Test.YtjnobdgigeejnaaERep
import Derived.Test.YtjnobdgigeejnaaCalm
import Derived.Deep.LoopGhost
namespace Go.Proofs.Ytjnobdgigeejnaa
open Go.RowKit

set_option maxHeartbeats 1000000 in
theorem between_any (lo hi x : Int) (w : World) (h : IntKind.i64.wrap (hi - lo) = x) :
    Calls Try.prog 24 #[.int .i64 lo, .int .i64 hi] w fun e w' => e = .returned (.agg #[.int .i64 lo, .int .i64 x]) ∧ Below w.heap.size w w' := by
  go_enter Try.func24, Try.ntmps24
  go_wp2_with fail
  exact bodyPost_ret (res_box Try.results24 _ rfl (box_new w _ _) Try.underlying32 rfl size_ext) rfl ⟨rfl, below1 w _⟩
set_option maxHeartbeats 1000000 in
theorem end_any (a c x : Int) (w : World) (h : IntKind.i64.wrap (a + c) = x) :
    Calls Try.prog 34 #[.agg #[.int .i64 a, .int .i64 c]] w fun e w' => e = .returned (.int .i64 x) ∧ Below w.heap.size w w' := by
  go_enter Try.func34, Try.ntmps34
  go_wp2_with fail
  go_ret
  exact ⟨rfl, below1 w _⟩
/-- How many blocks a map has that may be nil. -/
def SizeIs (v : Value) (n : Nat) (w : World) : Prop := (v = .pointer none ∧ n = 0) ∨ ∃ p, v = .pointer (some ⟨p, 0, none⟩) ∧ w.cell? ⟨p, 0, none⟩ = some (.int .i64 n)
theorem given_any (v : Value) (n : Nat) (w : World) (h : SizeIs v n w) :
    Calls Try.prog 25 #[v] w fun e w' => e = .returned (.bool (decide (0 < n))) ∧ w' = w := by
  rcases h with ⟨rfl, rfl⟩ | ⟨p, rfl, hc⟩
  · go_enter Try.func25, Try.ntmps25
    go_wp2_with fail
    go_ret
    exact ⟨rfl, rfl⟩
  · go_enter Try.func25, Try.ntmps25
    go_wp2_with fail
    go_ret
    exact ⟨rfl, rfl⟩

/-- The map at p has n blocks and the holes hs, which lie in the block g. -/
structure MapIs (w : World) (p g n cap : Nat) (hs : List (Nat × Nat)) : Prop where
  box : Box w p 57 #[.int .i64 n, .slice (some ⟨g, 0, none⟩) hs.length cap]
  rows : SRows w (.slice (some ⟨g, 0, none⟩) hs.length cap) 32 2 (hs.map ec)
  ne : p ≠ g
  nice : Nice 0 hs
  within : Within n hs
  n1 : 1 ≤ n
  n2 : n ≤ 4096
section
variable {w w' : World} {p g n cap : Nat} {hs : List (Nat × Nat)}
theorem MapIs.of_block (M : MapIs w p g n cap hs) (h1 : w'.heap[p]? = w.heap[p]?) (h2 : w'.heap[g]? = w.heap[g]?) : MapIs w' p g n cap hs :=
  { box := M.box.of_block h1
    rows := M.rows.of_block (fun k hk => by simp [Value.ownBlock] at hk; subst hk; exact h2)
    ne := M.ne, nice := M.nice, within := M.within, n1 := M.n1, n2 := M.n2 }
theorem MapIs.ltp (M : MapIs w p g n cap hs) : p < w.heap.size := M.box.lt
theorem MapIs.ltg (M : MapIs w p g n cap hs) : g < w.heap.size := M.rows.lt rfl
theorem MapIs.below (M : MapIs w p g n cap hs) {B : Nat} (k : Below B w w') (h1 : p < B) (h2 : g < B) : MapIs w' p g n cap hs := M.of_block (k.block p h1) (k.block g h2)
theorem MapIs.over (M : MapIs w p g n cap hs) (k : Below w.heap.size w w') : MapIs w' p g n cap hs := M.below k M.ltp M.ltg
theorem MapIs.kept (M : MapIs w p g n cap hs) {F : Nat → Prop} (k : Kept F w w') (h1 : ¬ F p) (h2 : ¬ F g) : MapIs w' p g n cap hs := M.of_block (k.block p M.ltp h1) (k.block g M.ltg h2)
theorem MapIs.few (M : MapIs w p g n cap hs) : hs.length ≤ n ∧ sumH hs ≤ n := by
  have h1 := len_le hs 0 M.nice
  have h2 := sum_le hs 0 n M.nice M.within (Nat.zero_le _)
  omega
theorem MapIs.size (M : MapIs w p g n cap hs) : SizeIs (.pointer (some ⟨p, 0, none⟩)) n w := .inr ⟨p, rfl, M.box.cell 0 _ rfl⟩
theorem MapIs.c1 (M : MapIs w p g n cap hs) : w.cell? ⟨p, 1, none⟩ = some (.slice (some ⟨g, 0, none⟩) hs.length cap) := M.box.cell 1 _ rfl
theorem MapIs.c0 (M : MapIs w p g n cap hs) : w.cell? ⟨p, 0, none⟩ = some (.int .i64 n) := M.box.cell 0 _ rfl
end
/-- The cells of one of the rows. -/
theorem row_cells {w : World} {g n cap : Nat} {t : TypeId} {hs : List (Nat × Nat)} (h : SRows w (.slice (some ⟨g, 0, none⟩) n cap) t 2 (hs.map ec)) {k : Nat} {x : Nat × Nat} (hx : hs[k]? = some x) : w.cell? ⟨g, k * 2, none⟩ = some (.int .i64 x.1) ∧ w.cell? ⟨g, k * 2 + 1, none⟩ = some (.int .i64 x.2) := by
  have hr := (srows_open h).2.2.2.range (i := k) (r := ec x) (by rw [List.getElem?_map, hx]; rfl)
  exact ⟨hr 0 _ rfl, hr 1 _ rfl⟩

theorem above_cell {w : World} {a : Addr} {v : Value} (h : w.cell? a = some v) (k : Above w) : k.it.cell? a = some v := (k.is.cell (p := a) (World.block_lt_of_cell? w a h)).trans h

set_option maxRecDepth 4000 in
set_option maxHeartbeats 1000000 in
/-- The closure of search: does the hole k end behind at? -/
theorem search1_any {w : World} {p g n cap : Nat} {hs : List (Nat × Nat)} (M : MapIs w p g n cap hs) (a : Int) (b1 b2 : Nat) (h1 : w.cell? ⟨b1, 0, none⟩ = some (.pointer (some ⟨p, 0, none⟩))) (h2 : w.cell? ⟨b2, 0, none⟩ = some (.int .i64 a)) {k : Nat} {x : Nat × Nat} (hx : hs[k]? = some x) :
    Calls Try.prog 42 #[.int .i64 k, .pointer (some ⟨b1, 0, none⟩), .pointer (some ⟨b2, 0, none⟩)] w fun e w' => e = .returned (.bool (decide (a < (x.1 : Int) + (x.2 : Int)))) ∧ Below w.heap.size w w' := by
  have hk : k < hs.length := (List.getElem?_eq_some_iff.1 hx).1
  obtain ⟨e0, e1⟩ := row_cells M.rows hx
  have c1 := M.c1
  obtain ⟨q, hq⟩ : ∃ q, q = hs.length := ⟨_, rfl⟩
  have hb := M.within x (List.mem_of_getElem? hx)
  have hn := M.n2
  have ce := fun W => end_any x.1 x.2 ((x.1 + x.2 : Nat) : Int) W (by rw [IntKind.wrap_i64]; omega)
  rw [← hq] at c1 hk
  have e0 := above_cell e0
  have e1 := above_cell e1
  have c1 := above_cell c1
  have h1 := above_cell h1
  have h2 := above_cell h2
  clear M hx hq hb hn
  have hkI : (k : Int) < (q : Int) := by omega
  go_enter Try.func42, Try.ntmps42
  go_wp2_with fail
  refine wp_region_above (by kernel_rfl) (by kernel_rfl) ?_
  intro hne
  repeat (go_big_quiet_step ((go_at_call 34; exact above_of (ce _))))
  refine wpQuiet_nil ?_
  rintro _ ⟨kq, rfl⟩
  have hbq := kq.is
  go_wp2
  go_ret
  exact ⟨rfl, hbq⟩

theorem nice_ends : ∀ (hs : List (Nat × Nat)) (lo : Nat), Nice lo hs → ∀ (i j : Nat) (x y : Nat × Nat), i ≤ j → hs[i]? = some x → hs[j]? = some y → x.1 + x.2 ≤ y.1 + y.2
  | [], _, _, i, _, _, _, _, hi, _ => by simp at hi
  | h :: t, lo, ⟨h1, h2, h3⟩, i, j, x, y, hij, hi, hj => by
    cases i with
    | zero =>
      simp at hi
      subst hi
      cases j with
      | zero => simp at hj; subst hj; exact Nat.le_refl _
      | succ j =>
        simp at hj
        have := h3.mem_ge y (List.mem_of_getElem? hj)
        omega
    | succ i =>
      cases j with
      | zero => omega
      | succ j => exact nice_ends t _ h3 i j x y (by omega) (by simpa using hi) (by simpa using hj)

/-- The first k holes end at a or ahead of it, the others behind it. -/
def Upto (hs : List (Nat × Nat)) (a : Int) (k : Nat) : Prop := k ≤ hs.length ∧ (∀ (j : Nat) x, j < k → hs[j]? = some x → (x.1 : Int) + x.2 ≤ a) ∧ ∀ (j : Nat) x, k ≤ j → hs[j]? = some x → a < (x.1 : Int) + x.2

set_option maxRecDepth 4000 in
set_option maxHeartbeats 4000000 in
theorem bsearch_any {w : World} {p g n cap : Nat} {hs : List (Nat × Nat)} (M : MapIs w p g n cap hs) (a : Int) (b1 b2 : Nat) (h1 : w.cell? ⟨b1, 0, none⟩ = some (.pointer (some ⟨p, 0, none⟩))) (h2 : w.cell? ⟨b2, 0, none⟩ = some (.int .i64 a)) :
    Calls Try.prog 41 #[.int .i64 hs.length, .func (.func 42) #[] #[.pointer (some ⟨b1, 0, none⟩), .pointer (some ⟨b2, 0, none⟩)]] w fun e w' => (∃ k : Nat, e = .returned (.int .i64 k) ∧ Upto hs a k) ∧ Below w.heap.size w w' := by
  have hb1 := World.block_lt_of_cell? w _ h1
  have hb2 := World.block_lt_of_cell? w _ h2
  simp only at hb1 hb2
  obtain ⟨q, hq⟩ : ∃ q, q = hs.length := ⟨_, rfl⟩
  rw [← hq]
  have hq4 : q ≤ 4096 := by
    have := M.few
    have := M.n2
    omega
  have HM : Hid (MapIs w p g n cap hs ∧ q = hs.length ∧ w.cell? ⟨b1, 0, none⟩ = some (.pointer (some ⟨p, 0, none⟩)) ∧ w.cell? ⟨b2, 0, none⟩ = some (.int .i64 a)) := ⟨M, hq, h1, h2⟩
  clear M hq h1 h2
  go_enter Try.func41, Try.ntmps41
  go_wp2_with fail
  go_loopg [5, 6] q (fun gg s5 s6 wx => ∃ (i j : Nat), j - i ≤ gg ∧ i ≤ j ∧ j ≤ q ∧ s5 = .int .i64 i ∧ s6 = .int .i64 j ∧ (∀ (k : Nat) x, k < i → hs[k]? = some x → (x.1 : Int) + x.2 ≤ a) ∧ (∀ (k : Nat) x, j ≤ k → hs[k]? = some x → a < (x.1 : Int) + x.2) ∧ Below w.heap.size w wx)
  case atStart =>
    refine ⟨0, q, by omega, by omega, by omega, rfl, rfl, fun k x hk => by omega, fun k x hk hx => ?_, Below.refl _ _⟩
    have := (List.getElem?_eq_some_iff.1 hx).1
    have := HM.out.2.1
    omega
  case round =>
    obtain ⟨i, j, hg, hij, hjq, rfl, rfl, hlo, hhi, hbel⟩ := hrel
    have HR : Hid ((∀ (k : Nat) x, k < i → hs[k]? = some x → (x.1 : Int) + x.2 ≤ a) ∧ (∀ (k : Nat) x, j ≤ k → hs[k]? = some x → a < (x.1 : Int) + x.2) ∧ Below w.heap.size w wr) := ⟨hlo, hhi, hbel⟩
    clear hlo hhi
    by_cases hlt : i < j
    · have hltI : (i : Int) < (j : Int) := by omega
      obtain ⟨h, hh⟩ : ∃ h, h = (i + j) / 2 := ⟨_, rfl⟩
      have hhj : h < j := by omega
      have hih : i ≤ h := by omega
      obtain ⟨x, hx⟩ : ∃ x, hs[h]? = some x := ⟨_, List.getElem?_eq_getElem (by have := HM.out.2.1; omega)⟩
      have cs := search1_any (HM.out.1.over hbel) a b1 b2 ((hbel.cell (p := ⟨b1, 0, none⟩) hb1).trans HM.out.2.2.1) ((hbel.cell (p := ⟨b2, 0, none⟩) hb2).trans HM.out.2.2.2) hx
      have HX : Hid (hs[h]? = some x ∧ h = (i + j) / 2) := ⟨hx, hh⟩
      clear hx hbel hh
      go_wp2_with fail
      rw [show ((i : Int) + (j : Int)) / 2 = (h : Int) by have := HX.out.2; omega]
      refine cs.mono ?_
      rintro e w1 ⟨rfl, hb⟩
      have HB : Hid (Below w.heap.size w w1) := HR.out.2.2.trans (hb.mono HR.out.2.2.size)
      clear cs hb
      by_cases hxa : a < (x.1 : Int) + (x.2 : Int)
      · rw [decide_eq_true hxa]
        have HA : Hid (a < (x.1 : Int) + (x.2 : Int)) := hxa
        clear hxa
        go_wp2_with fail
        go_roundg (h - i)
        case measure => omega
        case rel =>
          refine ⟨i, h, Nat.le_refl _, hih, by omega, rfl, rfl, HR.out.1, fun k y hk hy => ?_, HB.out⟩
          have := nice_ends hs 0 HM.out.1.nice h k x y hk HX.out.1 hy
          have := HA.out
          omega
      · rw [decide_eq_false hxa]
        have HA : Hid (¬ a < (x.1 : Int) + (x.2 : Int)) := hxa
        have hw1 : IntKind.i64.wrap ((h : Int) + 1) = (h : Int) + 1 := by rw [IntKind.wrap_i64]; omega
        clear hxa
        go_wp2_with fail
        go_roundg (j - (h + 1))
        case measure => clear hw1; omega
        case rel =>
          refine ⟨h + 1, j, Nat.le_refl _, by clear hw1; omega, hjq, by go_num, rfl, fun k y hk hy => ?_, HR.out.2.1, HB.out⟩
          have := nice_ends hs 0 HM.out.1.nice k h y x (by clear hw1; omega) hy HX.out.1
          have := HA.out
          clear hw1
          omega
    · have hltI : ¬ (i : Int) < (j : Int) := by omega
      obtain rfl : i = j := by omega
      clear hbel
      go_wp2_with fail
      go_ret
      exact ⟨⟨i, rfl, by have := HM.out.2.1; omega, HR.out.1, HR.out.2.1⟩, HR.out.2.2⟩

set_option maxRecDepth 4000 in
set_option maxHeartbeats 4000000 in
theorem search_any {w : World} {p g n cap : Nat} {hs : List (Nat × Nat)} (M : MapIs w p g n cap hs) (a : Int) :
    Calls Try.prog 33 #[.pointer (some ⟨p, 0, none⟩), .int .i64 a] w fun e w' => (∃ k : Nat, e = .returned (.int .i64 k) ∧ Upto hs a k) ∧ Below w.heap.size w w' := by
  obtain ⟨W, hW⟩ : ∃ W, W = (w.alloc (.cells #[.pointer (some ⟨p, 0, none⟩)] 23)).alloc (.cells #[.int .i64 a] 3) := ⟨_, rfl⟩
  have hb0 : Below w.heap.size w W := by rw [hW]; exact below2 w _ _
  have B0 : Box W w.heap.size 23 #[.pointer (some ⟨p, 0, none⟩)] := by rw [hW]; exact box_old w _ _ _
  have B1 : Box W (w.heap.size + 1) 3 #[.int .i64 a] := by
    rw [hW]
    have := box_new (w.alloc (.cells #[.pointer (some ⟨p, 0, none⟩)] 23)) #[.int .i64 a] 3
    rw [World.size_alloc] at this
    exact this
  have MW := M.over hb0
  have c := bsearch_any MW a w.heap.size (w.heap.size + 1) (B0.cell 0 _ rfl) (B1.cell 0 _ rfl)
  have c1 := MW.c1
  have HB0 : Hid (Below w.heap.size w W) := hb0
  have p0 := B0.cell 0 _ rfl
  clear M MW hb0 B0 B1
  obtain ⟨q, hq⟩ : ∃ q, q = hs.length := ⟨_, rfl⟩
  rw [← hq] at c1 c
  clear hq
  subst hW
  go_enter Try.func33, Try.ntmps33
  go_wp2_with fail
  refine c.mono ?_
  rintro e w1 ⟨⟨k, rfl, hk⟩, hb⟩
  have HK : Hid (Upto hs a k) := hk
  have HB : Hid (Below w.heap.size w w1) := HB0.out.trans (hb.mono (by simp; omega))
  clear c hk hb c1 p0
  go_wp2_with fail
  go_ret
  exact ⟨⟨k, rfl, HK.out⟩, HB.out⟩

set_option maxRecDepth 4000 in
set_option maxHeartbeats 4000000 in
theorem has_any (v : Value) (n : Nat) (w : World) (h : SizeIs v n w) (hn : n ≤ 4096) (a c : Int) (ha : -9223372036854775808 ≤ a ∧ a < 9223372036854775808) :
    Calls Try.prog 32 #[v, .agg #[.int .i64 a, .int .i64 c]] w fun e w' => e = .returned (.bool (decide (0 < n ∧ 0 ≤ a ∧ 1 ≤ c ∧ c ≤ n - a))) ∧ Below w.heap.size w w' := by
  have B0 := box_new w #[.int .i64 a, .int .i64 c] 32
  have hb := below1 w (.cells #[.int .i64 a, .int .i64 c] 32)
  have e0 := above_cell (B0.cell 0 _ rfl)
  have e1 := above_cell (B0.cell 1 _ rfl)
  have HB : Hid (Below w.heap.size w (w.alloc (.cells #[.int .i64 a, .int .i64 c] 32))) := hb
  have hsz : ∀ k : Above (w.alloc (.cells #[.int .i64 a, .int .i64 c] 32)), SizeIs v n k.it := fun k => by
    rcases h with h | ⟨p, rfl, h2⟩
    · exact .inl h
    · have hlt := World.block_lt_of_cell? w _ h2
      exact .inr ⟨p, rfl, above_cell ((hb.cell (p := ⟨p, 0, none⟩) hlt).trans h2) k⟩
  have cg := fun k : Above (w.alloc (.cells #[.int .i64 a, .int .i64 c] 32)) => given_any v n k.it (hsz k)
  clear B0 hb
  by_cases h0 : 0 < n
  · rw [decide_eq_true h0] at cg
    obtain ⟨p, rfl, hp⟩ : ∃ p, v = .pointer (some ⟨p, 0, none⟩) ∧ ∀ k : Above (w.alloc (.cells #[.int .i64 a, .int .i64 c] 32)), k.it.cell? ⟨p, 0, none⟩ = some (.int .i64 n) := by
      rcases h with ⟨_, h⟩ | ⟨p, rfl, h2⟩
      · omega
      · refine ⟨p, rfl, fun k => ?_⟩
        rcases hsz k with ⟨h3, _⟩ | ⟨p', h3, h4⟩
        · simp at h3
        · simp at h3
          subst h3
          exact h4
    clear hsz h
    by_cases h1 : 0 ≤ a
    · by_cases h2 : 1 ≤ c
      · have hw : IntKind.i64.wrap ((n : Int) - a) = (n : Int) - a := by rw [IntKind.wrap_i64]; omega
        have hfin : decide (0 < n ∧ 0 ≤ a ∧ 1 ≤ c ∧ c ≤ n - a) = decide (c ≤ n - a) := by simp [h0, h1, h2]
        rw [hfin]
        clear hfin
        go_enter Try.func32, Try.ntmps32
        go_wp2_with fail
        refine wp_region_above (by kernel_rfl) (by kernel_rfl) ?_
        intro hne
        repeat (go_big_quiet_step ((go_at_call 25; exact above_same (cg _))))
        refine wpQuiet_nil ?_
        rintro _ ⟨kq, rfl⟩
        have hbq := kq.is
        go_wp2
        go_ret
        exact ⟨rfl, HB.out.trans (hbq.mono (by simp))⟩
      · have hfin : decide (0 < n ∧ 0 ≤ a ∧ 1 ≤ c ∧ c ≤ n - a) = false := by simp; omega
        have hd2 : decide (1 ≤ c) = false := decide_eq_false h2
        rw [hfin]
        clear hfin
        go_enter Try.func32, Try.ntmps32
        go_wp2_with fail
        refine wp_region_above (by kernel_rfl) (by kernel_rfl) ?_
        intro hne
        repeat (go_big_quiet_step ((go_at_call 25; exact above_same (cg _))))
        refine wpQuiet_nil ?_
        rintro _ ⟨kq, rfl⟩
        have hbq := kq.is
        go_wp2
        go_ret
        exact ⟨rfl, HB.out.trans (hbq.mono (by simp))⟩
    · have hfin : decide (0 < n ∧ 0 ≤ a ∧ 1 ≤ c ∧ c ≤ n - a) = false := by simp; omega
      have hd1 : decide (0 ≤ a) = false := decide_eq_false h1
      rw [hfin]
      clear hfin
      go_enter Try.func32, Try.ntmps32
      go_wp2_with fail
      refine wp_region_above (by kernel_rfl) (by kernel_rfl) ?_
      intro hne
      repeat (go_big_quiet_step ((go_at_call 25; exact above_same (cg _))))
      refine wpQuiet_nil ?_
      rintro _ ⟨kq, rfl⟩
      have hbq := kq.is
      go_wp2
      go_ret
      exact ⟨rfl, HB.out.trans (hbq.mono (by simp))⟩
  · rw [decide_eq_false h0] at cg
    have hfin : decide (0 < n ∧ 0 ≤ a ∧ 1 ≤ c ∧ c ≤ n - a) = false := by simp; omega
    rw [hfin]
    clear hfin hsz h
    go_enter Try.func32, Try.ntmps32
    go_wp2_with fail
    refine wp_region_above (by kernel_rfl) (by kernel_rfl) ?_
    intro hne
    repeat (go_big_quiet_step ((go_at_call 25; exact above_same (cg _))))
    refine wpQuiet_nil ?_
    rintro _ ⟨kq, rfl⟩
    have hbq := kq.is
    go_wp2
    go_ret
    exact ⟨rfl, HB.out.trans (hbq.mono (by simp))⟩
end Go.Proofs.Ytjnobdgigeejnaa
