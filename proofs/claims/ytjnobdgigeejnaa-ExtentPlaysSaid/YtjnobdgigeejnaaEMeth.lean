/-
  The contracts of extent's New, Left, Longest, Holes, Copy and For.
-/
import Derived.Test.YtjnobdgigeejnaaECut
import Derived.Test.YtjnobdgigeejnaaLast
namespace Go.Proofs.Ytjnobdgigeejnaa
open Go.RowKit

set_option maxHeartbeats 1000000 in
theorem new_bad (n : Int) (w : World) (h : ¬ (1 ≤ n ∧ n ≤ 4096)) :
    Calls Try.prog 8 #[.int .i64 n] w fun e w' => e = .returned (.tuple #[.pointer none, .int .i64 1]) ∧ w' = w := by
  by_cases h1 : n < 1
  · go_enter Try.func8, Try.ntmps8
    go_wp2_with fail
    go_ret2
    exact ⟨rfl, rfl⟩
  · have h2 : 4096 < n := by omega
    clear h
    go_enter Try.func8, Try.ntmps8
    go_wp2_with fail
    go_ret2
    exact ⟨rfl, rfl⟩
set_option maxRecDepth 4000 in
set_option maxHeartbeats 1000000 in
theorem new_any (n : Nat) (w : World) (h1 : 1 ≤ n) (h2 : n ≤ 4096) :
    Calls Try.prog 8 #[.int .i64 n] w fun e w' => (∃ p g, e = .returned (.tuple #[.pointer (some ⟨p, 0, none⟩), .int .i64 0]) ∧ MapIs w' p g n 1 [(0, n)] ∧ w.heap.size ≤ p ∧ w.heap.size ≤ g) ∧ Below w.heap.size w w' := by
  have cb := between_any 0 n n w (by rw [IntKind.wrap_i64]; omega)
  have h1' : ¬ (n : Int) < 1 := by omega
  have h2' : ¬ (4096 : Int) < (n : Int) := by omega
  have HN : Hid (1 ≤ n ∧ n ≤ 4096) := ⟨h1, h2⟩
  clear h1 h2
  go_enter Try.func8, Try.ntmps8
  go_wp2_with fail
  refine cb.mono ?_
  rintro e w1 ⟨rfl, hb⟩
  have HB : Hid (Below w.heap.size w w1) := hb
  clear cb hb
  go_wp2_with fail
  go_ret2
  have hb2 := below2 w1 (.cells #[.int .i64 0, .int .i64 (n : Int)] 32) (.cells #[.int .i64 (n : Int), .slice (some ⟨w1.heap.size, 0, none⟩) 1 1] 57)
  have hbox := box_new (w1.alloc (.cells #[.int .i64 0, .int .i64 (n : Int)] 32)) #[.int .i64 (n : Int), .slice (some ⟨w1.heap.size, 0, none⟩) 1 1] 57
  rw [World.size_alloc] at hbox
  have hr := srows_new w1 (ec (0, n)) 32 (ec_len _)
  have hsz := HB.out.size
  have hn := HN.out
  refine ⟨⟨w1.heap.size + 1, w1.heap.size, rfl, { box := hbox, rows := hr.of_block (fun k hk => ?_), ne := by omega, nice := ⟨by simp, by simp only; omega, trivial⟩, within := ?_, n1 := hn.1, n2 := hn.2 }, by omega, by omega⟩, HB.out.trans (hb2.mono hsz)⟩
  · simp [Value.ownBlock] at hk
    subst hk
    exact Below.heap_alloc _ _ _ (by simp)
  · intro h hh
    simp at hh
    subst hh
    simp

set_option maxRecDepth 4000 in
set_option maxHeartbeats 4000000 in
theorem left_any {w : World} {p g n cap : Nat} {hs : List (Nat × Nat)} (M : MapIs w p g n cap hs) :
    Calls Try.prog 19 #[.pointer (some ⟨p, 0, none⟩)] w fun e w' => e = .returned (.int .i64 (sumH hs)) ∧ Below w.heap.size w w' := by
  have cg := given_any _ n w M.size
  have hd : decide (0 < n) = true := by have := M.n1; simp; omega
  rw [hd] at cg
  obtain ⟨q, hq⟩ : ∃ q, q = hs.length := ⟨_, rfl⟩
  have c1 := M.c1
  rw [← hq] at c1
  have hq4 : q ≤ 4096 := by
    have := M.few
    have := M.n2
    omega
  have HM : Hid (MapIs w p g n cap hs ∧ q = hs.length ∧ ∀ k, sumH (hs.take k) ≤ 4096) := ⟨M, hq, fun k => by
    have hn := nice_take (A := hs.take k) (B := hs.drop k) (lo := 0) (by rw [List.take_append_drop]; exact M.nice)
    have := sum_le (hs.take k) 0 n hn (fun h hh => M.within h (List.mem_of_mem_take hh)) (Nat.zero_le _)
    have := M.n2
    omega⟩
  clear M hq hd
  go_enter Try.func19, Try.ntmps19
  go_wp2_with fail
  refine cg.mono ?_
  rintro e w1 ⟨rfl, hw1⟩
  replace hw1 := hw1.symm
  subst hw1
  clear cg
  go_wp2_with fail
  clear c1
  go_loopg [3, 13] q (fun gg s3 s13 wx => ∃ i : Nat, i + gg = q ∧ s3 = .int .i64 (sumH (hs.take i)) ∧ s13 = .int .i64 i ∧ Below w.heap.size w wx)
  case atStart => exact ⟨0, by omega, by simp [sumH], rfl, Below.refl _ _⟩
  case round =>
    obtain ⟨i, hig, rfl, rfl, hbel⟩ := hrel
    obtain ⟨s, hs0⟩ : ∃ s, s = sumH (hs.take i) := ⟨_, rfl⟩
    rw [← hs0]
    have HS : Hid (s = sumH (hs.take i)) := hs0
    clear hs0
    by_cases hi : i < q
    · have hiI : (i : Int) < (q : Int) := by omega
      obtain ⟨x, hx⟩ : ∃ x, hs[i]? = some x := ⟨_, List.getElem?_eq_getElem (by have := HM.out.2.1; omega)⟩
      obtain ⟨e0, e1⟩ := row_cells (HM.out.1.over hbel).rows hx
      have hst := sum_take hs i x hx
      have hle := HM.out.2.2 (i + 1)
      have hr2 : IntKind.i64.wrap ((i : Int) + 1) = (i : Int) + 1 := by rw [IntKind.wrap_i64]; omega
      have hr3 : IntKind.i64.wrap ((s : Int) + (x.2 : Int)) = (s : Int) + (x.2 : Int) := by rw [IntKind.wrap_i64]; have := HS.out; omega
      have HX : Hid (sumH (hs.take (i + 1)) = sumH (hs.take i) + x.2) := hst
      have HB : Hid (Below w.heap.size w (wr.alloc (.cells #[.int .i64 (x.1 : Int), .int .i64 (x.2 : Int)] 32))) := hbel.trans ((below1 wr _).mono hbel.size)
      clear hx hst hle hbel
      go_wp2_with fail
      go_roundg (q - (i + 1))
      case measure => clear hr2 hr3; omega
      case rel =>
        refine ⟨i + 1, by clear hr2 hr3; omega, ?_, by go_num, HB.out⟩
        rw [HX.out, ← HS.out]
        go_num
    · have hiI : ¬ (i : Int) < (q : Int) := by omega
      have HB : Hid (Below w.heap.size w wr) := hbel
      clear hbel
      go_wp2_with fail
      go_ret
      have e : hs.take i = hs := List.take_of_length_le (by have := HM.out.2.1; omega)
      have := HS.out
      rw [e] at this
      rw [this]
      exact ⟨rfl, HB.out⟩
set_option maxRecDepth 4000 in
set_option maxHeartbeats 4000000 in
theorem longest_any {w : World} {p g n cap : Nat} {hs : List (Nat × Nat)} (M : MapIs w p g n cap hs) :
    Calls Try.prog 18 #[.pointer (some ⟨p, 0, none⟩)] w fun e w' => e = .returned (.int .i64 (maxH hs)) ∧ Below w.heap.size w w' := by
  have cg := given_any _ n w M.size
  have hd : decide (0 < n) = true := by have := M.n1; simp; omega
  rw [hd] at cg
  obtain ⟨q, hq⟩ : ∃ q, q = hs.length := ⟨_, rfl⟩
  have c1 := M.c1
  rw [← hq] at c1
  have hq4 : q ≤ 4096 := by
    have := M.few
    have := M.n2
    omega
  have HM : Hid (MapIs w p g n cap hs ∧ q = hs.length) := ⟨M, hq⟩
  clear M hq hd
  go_enter Try.func18, Try.ntmps18
  go_wp2_with fail
  refine cg.mono ?_
  rintro e w1 ⟨rfl, hw1⟩
  replace hw1 := hw1.symm
  subst hw1
  clear cg
  go_wp2_with fail
  clear c1
  go_loopg [3, 13] q (fun gg s3 s13 wx => ∃ i : Nat, i + gg = q ∧ s3 = .int .i64 (maxH (hs.take i)) ∧ s13 = .int .i64 i ∧ Below w.heap.size w wx)
  case atStart => exact ⟨0, by omega, by simp [maxH], rfl, Below.refl _ _⟩
  case round =>
    obtain ⟨i, hig, rfl, rfl, hbel⟩ := hrel
    obtain ⟨s, hs0⟩ : ∃ s, s = maxH (hs.take i) := ⟨_, rfl⟩
    rw [← hs0]
    have HS : Hid (s = maxH (hs.take i)) := hs0
    clear hs0
    by_cases hi : i < q
    · have hiI : (i : Int) < (q : Int) := by omega
      obtain ⟨x, hx⟩ : ∃ x, hs[i]? = some x := ⟨_, List.getElem?_eq_getElem (by have := HM.out.2; omega)⟩
      obtain ⟨e0, e1⟩ := row_cells (HM.out.1.over hbel).rows hx
      have hst := max_take hs i x hx
      have hr2 : IntKind.i64.wrap ((i : Int) + 1) = (i : Int) + 1 := by rw [IntKind.wrap_i64]; omega
      have HX : Hid (maxH (hs.take (i + 1)) = max (maxH (hs.take i)) x.2) := hst
      have HB : Hid (Below w.heap.size w (wr.alloc (.cells #[.int .i64 (x.1 : Int), .int .i64 (x.2 : Int)] 32))) := hbel.trans ((below1 wr _).mono hbel.size)
      clear hx hst hbel
      by_cases hsx : s < x.2
      case' pos =>
        have hs1 : (s : Int) < (x.2 : Int) := by omega
        have hs2 : ¬ (x.2 : Int) ≤ (s : Int) := by omega
      case' neg =>
        have hs1 : ¬ (s : Int) < (x.2 : Int) := by omega
        have hs2 : (x.2 : Int) ≤ (s : Int) := by omega
      all_goals
        go_wp2_with fail
        go_roundg (q - (i + 1))
        case measure => clear hr2; omega
        case rel =>
          refine ⟨i + 1, by clear hr2; omega, ?_, by go_num, HB.out⟩
          rw [HX.out, ← HS.out]
          congr 1
          clear hr2
          omega
    · have hiI : ¬ (i : Int) < (q : Int) := by omega
      have HB : Hid (Below w.heap.size w wr) := hbel
      clear hbel
      go_wp2_with fail
      go_ret
      have e : hs.take i = hs := List.take_of_length_le (by have := HM.out.2; omega)
      have := HS.out
      rw [e] at this
      rw [this]
      exact ⟨rfl, HB.out⟩

theorem holes_any {w : World} {p g n cap : Nat} {hs : List (Nat × Nat)} (M : MapIs w p g n cap hs) :
    Calls Try.prog 20 #[.pointer (some ⟨p, 0, none⟩)] w fun e w' => (∃ g' cap', e = .returned (.slice (some ⟨g', 0, none⟩) hs.length cap') ∧ SRows w' (.slice (some ⟨g', 0, none⟩) hs.length cap') 32 2 (hs.map ec) ∧ w.heap.size ≤ g') ∧ Below w.heap.size w w' := by
  have cg := given_any _ n w M.size
  have hd : decide (0 < n) = true := by have := M.n1; simp; omega
  rw [hd] at cg
  have cc := clone_any M.rows (ecs_one hs) (by have := M.few; have := M.n2; omega)
  have c1 := M.c1
  obtain ⟨q, hq⟩ : ∃ q, q = hs.length := ⟨_, rfl⟩
  rw [← hq] at c1 cc ⊢
  clear M hd hq
  go_enter Try.func20, Try.ntmps20
  go_wp2_with fail
  refine cg.mono ?_
  rintro e w1 ⟨rfl, hw1⟩
  replace hw1 := hw1.symm
  subst hw1
  clear cg
  go_wp2_with fail
  refine cc.mono ?_
  rintro e w1 ⟨⟨g', cap', rfl, h1, h2⟩, hb⟩
  have HE : Hid (SRows w1 (.slice (some ⟨g', 0, none⟩) q cap') 32 2 (hs.map ec) ∧ w.heap.size ≤ g' ∧ Below w.heap.size w w1) := ⟨h1, h2, hb⟩
  clear cc h1 h2 hb
  go_wp2_with fail
  go_ret
  exact ⟨⟨g', cap', rfl, HE.out.1, HE.out.2.1⟩, HE.out.2.2⟩
/-- Of a map that nobody made. -/
theorem holes_none (v : Value) (w : World) (h : SizeIs v 0 w) : Calls Try.prog 20 #[v] w fun e w' => e = .returned (.slice none 0 0) ∧ w' = w := by
  have cg := given_any v 0 w h
  rw [show decide (0 < 0) = false by simp] at cg
  go_enter Try.func20, Try.ntmps20
  go_wp2_with (go_at_call 25; refine cg.mono ?_; rintro e w1 ⟨rfl, hw1⟩; replace hw1 := hw1.symm; subst hw1)
  go_ret
  exact ⟨rfl, rfl⟩
theorem left_none (v : Value) (w : World) (h : SizeIs v 0 w) : Calls Try.prog 19 #[v] w fun e w' => e = .returned (.int .i64 0) ∧ w' = w := by
  have cg := given_any v 0 w h
  rw [show decide (0 < 0) = false by simp] at cg
  go_enter Try.func19, Try.ntmps19
  go_wp2_with (go_at_call 25; refine cg.mono ?_; rintro e w1 ⟨rfl, hw1⟩; replace hw1 := hw1.symm; subst hw1)
  go_ret
  exact ⟨rfl, rfl⟩
theorem longest_none (v : Value) (w : World) (h : SizeIs v 0 w) : Calls Try.prog 18 #[v] w fun e w' => e = .returned (.int .i64 0) ∧ w' = w := by
  have cg := given_any v 0 w h
  rw [show decide (0 < 0) = false by simp] at cg
  go_enter Try.func18, Try.ntmps18
  go_wp2_with (go_at_call 25; refine cg.mono ?_; rintro e w1 ⟨rfl, hw1⟩; replace hw1 := hw1.symm; subst hw1)
  go_ret
  exact ⟨rfl, rfl⟩
theorem copy_none (v : Value) (w : World) (h : SizeIs v 0 w) : Calls Try.prog 21 #[v] w fun e w' => e = .returned (.pointer none) ∧ w' = w := by
  have cg := given_any v 0 w h
  rw [show decide (0 < 0) = false by simp] at cg
  go_enter Try.func21, Try.ntmps21
  go_wp2_with (go_at_call 25; refine cg.mono ?_; rintro e w1 ⟨rfl, hw1⟩; replace hw1 := hw1.symm; subst hw1)
  go_ret
  exact ⟨rfl, rfl⟩
/-- How many blocks so many bytes need. -/
def forB (b : Int) : Int := if b < 1 then 0 else (b - 1) / 128 + 1
theorem for_any (b : Int) (hb : -9223372036854775808 ≤ b ∧ b < 9223372036854775808) (w : World) : Calls Try.prog 23 #[.int .i64 b] w fun e w' => e = .returned (.int .i64 (forB b)) ∧ w' = w := by
  by_cases h1 : b < 1
  · have hf : forB b = 0 := if_pos h1
    rw [hf]
    clear hf hb
    go_enter Try.func23, Try.ntmps23
    go_wp2_with fail
    go_ret
    exact ⟨rfl, rfl⟩
  · have hf : forB b = (b - 1) / 128 + 1 := if_neg h1
    rw [hf]
    obtain ⟨c, hc⟩ : ∃ c, c = b - 1 := ⟨_, rfl⟩
    have hw1 : IntKind.i64.wrap (b - 1) = c := by rw [IntKind.wrap_i64]; omega
    rw [← hc]
    have hc0 : 0 ≤ c := by omega
    obtain ⟨d, hd⟩ : ∃ d, d = c / 128 := ⟨_, rfl⟩
    have hw2 : IntKind.i64.wrap (d + 1) = d + 1 := by rw [IntKind.wrap_i64]; omega
    have hq : Int.tdiv c 128 = d := by rw [hd, Int.tdiv_eq_ediv_of_nonneg hc0]
    have hw3 : IntKind.i64.wrap d = d := by rw [IntKind.wrap_i64]; omega
    rw [← hd]
    clear hf hc hd
    go_enter Try.func23, Try.ntmps23
    go_wp2_with fail
    go_ret
    exact ⟨rfl, rfl⟩
end Go.Proofs.Ytjnobdgigeejnaa
