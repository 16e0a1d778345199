/-
  The contract of peristyleref04's Read.
-/
import Derived.Test.YtmgodahdljnbmaaDRefA
namespace Go.Proofs.Ytmgodahdljnbmaa
open Go.RowKit

theorem one_box {w w1 : World} {c0 : Array Value} {t0 : TypeId} (hb : Below (w.alloc (.cells c0 t0)).heap.size (w.alloc (.cells c0 t0)) w1) : Box w1 w.heap.size t0 c0 ∧ Below w.heap.size w w1 :=
  ⟨(box_new _ _ _).over hb, (below1 _ _).trans (hb.mono (by simp))⟩
theorem rread_bad (sa : Option Addr) (n sc : Nat) (wa : Option Addr) (m wc : Nat) (f : Int) (o : Bool) (at_ : Int) (w : World) (h : ¬ (0 ≤ at_ ∧ at_ < n)) :
    Calls Try.prog 27 #[.agg #[.slice sa n sc, .slice wa m wc, .int .i64 f, .bool o], .int .i64 at_] w fun e w' => e = .returned (.tuple #[.string { data := #[] }, .int .i64 1]) ∧ Below w.heap.size w w' := by
  have ci := fun W => in_any sa n sc wa m wc f o at_ W
  have hd : decide (0 ≤ at_ ∧ at_ < (n : Int)) = false := by simpa using h
  rw [hd] at ci
  clear h hd
  go_enter Try.func27, Try.ntmps27
  go_wp2_with fail
  refine (ci _).mono ?_
  rintro e w1 ⟨rfl, hb⟩
  obtain ⟨B0, hB⟩ := one_box hb
  go_wp2
  go_ret2
  exact ⟨rfl, hB⟩
theorem rread_off (sa : Option Addr) (n sc : Nat) (wa : Option Addr) (m wc : Nat) (f : Int) (k : Nat) (w : World) (h : k < n) :
    Calls Try.prog 27 #[.agg #[.slice sa n sc, .slice wa m wc, .int .i64 f, .bool true], .int .i64 k] w fun e w' => e = .returned (.tuple #[.string { data := #[] }, .int .i64 40]) ∧ Below w.heap.size w w' := by
  have ci := fun W => in_any sa n sc wa m wc f true k W
  have hd : decide (0 ≤ (k : Int) ∧ (k : Int) < (n : Int)) = true := by simp; omega
  rw [hd] at ci
  clear h hd
  go_enter Try.func27, Try.ntmps27
  go_wp2_with fail
  refine (ci _).mono ?_
  rintro e w1 ⟨rfl, hb⟩
  obtain ⟨B0, hB⟩ := one_box hb
  have q3 := B0.cell 3 _ rfl
  go_wp2
  go_ret2
  exact ⟨rfl, hB⟩
theorem w2_at {w : World} {wa : Option Addr} {wc : Nat} {wt : List (Nat × List UInt8)} (h : SRows w (.slice wa wt.length wc) 67 2 (wt.map w2)) {i : Nat} {x : Nat × List UInt8} (hx : wt[i]? = some x) :
    ∃ g, wa = some ⟨g, 0, none⟩ ∧ w.cell? ⟨g, i * 2, none⟩ = some (.int .i64 x.1) ∧ w.cell? ⟨g, i * 2 + 1, none⟩ = some (.string (strB x.2)) ∧ g < w.heap.size := by
  obtain ⟨g, rfl, _, hr⟩ := h.at_ (i := i) (r := w2 x) (by rw [List.getElem?_map, hx]; rfl)
  exact ⟨g, rfl, hr 0 _ rfl, hr 1 _ rfl, h.lt rfl⟩
theorem s1_at {w : World} {sa : Option Addr} {sc : Nat} {su : List (List UInt8)} (h : SRows w (.slice sa su.length sc) 9 1 (su.map s1)) {i : Nat} {x : List UInt8} (hx : su[i]? = some x) :
    ∃ g, sa = some ⟨g, 0, none⟩ ∧ w.cell? ⟨g, i, none⟩ = some (.string (strB x)) ∧ g < w.heap.size := by
  obtain ⟨g, rfl, _, hr⟩ := h.at_ (i := i) (r := s1 x) (by rw [List.getElem?_map, hx]; rfl)
  have := hr 0 _ rfl
  simp only [Nat.mul_one, Nat.add_zero] at this
  exact ⟨g, rfl, this, h.lt rfl⟩

set_option maxHeartbeats 2000000 in
theorem rread_on {w : World} {sa : Option Addr} {sc : Nat} {wa : Option Addr} {wc : Nat} {su : List (List UInt8)} {wt : List (Nat × List UInt8)} (hs : SRows w (.slice sa su.length sc) 9 1 (su.map s1)) (hw : SRows w (.slice wa wt.length wc) 67 2 (wt.map w2))
    (hl6 : wt.length ≤ 1000000) (f : Int) (k : Nat) (l : List UInt8) (hl : (lay su wt)[k]? = some l) :
    Calls Try.prog 27 #[.agg #[.slice sa su.length sc, .slice wa wt.length wc, .int .i64 f, .bool false], .int .i64 k] w fun e w' => e = .returned (.tuple #[.string (strB l), .int .i64 0]) ∧ Below w.heap.size w w' := by
  have hk : k < su.length := by
    have := (List.getElem?_eq_some_iff.1 hl).1
    rwa [lay_len] at this
  obtain ⟨n, hn⟩ : ∃ n, n = su.length := ⟨_, rfl⟩
  obtain ⟨m, hm⟩ : ∃ m, m = wt.length := ⟨_, rfl⟩
  have HS : Hid (∀ W, Below w.heap.size w W → SRows W (.slice sa su.length sc) 9 1 (su.map s1)) := fun W hb => hs.of_block fun k hk => hb.block k (hs.lt hk)
  have HW : Hid (∀ W, Below w.heap.size w W → SRows W (.slice wa wt.length wc) 67 2 (wt.map w2)) := fun W hb => hw.of_block fun k hk => hb.block k (hw.lt hk)
  rw [← hn, ← hm]
  rw [← hm] at hl6
  rw [← hn] at hk
  have ci := fun W => in_any sa n sc wa m wc f false k W
  have hd : decide (0 ≤ (k : Int) ∧ (k : Int) < (n : Int)) = true := by simp; omega
  rw [hd] at ci
  have hkI : (k : Int) < (n : Int) := by omega
  have HN : Hid (n = su.length ∧ m = wt.length ∧ (lay su wt)[k]? = some l) := ⟨hn, hm, hl⟩
  clear hd hs hw hn hm hl
  have hr1 : IntKind.i64.wrap ((m : Int) - 1) = (m : Int) - 1 := by rw [IntKind.wrap_i64]; omega
  have hr1' : wrap64 ((m : Int) - 1) = (m : Int) - 1 := by unfold wrap64; omega
  go_enter Try.func27, Try.ntmps27
  go_wp2_with fail
  refine (ci _).mono ?_
  rintro e w1 ⟨rfl, hb⟩
  obtain ⟨B0, hB⟩ := one_box hb
  have q0 := B0.cell 0 _ rfl
  have q1 := B0.cell 1 _ rfl
  have q3 := B0.cell 3 _ rfl
  have HW1 : Hid (SRows w1 (.slice wa wt.length wc) 67 2 (wt.map w2) ∧ SRows w1 (.slice sa su.length sc) 9 1 (su.map s1)) := ⟨HW.out _ hB, HS.out _ hB⟩
  clear ci hb B0 HW HS
  go_wp2_with fail
  clear hr1 hr1'
  go_loopg [4, 5, 6] m (fun g s4 s5 s6 wx => ∃ j : Nat, j = g ∧ j ≤ m ∧ s6 = .int .i64 ((j : Int) - 1) ∧ wx = w1 ∧ ∀ i x, j ≤ i → wt[i]? = some x → x.1 ≠ k)
  case atStart => exact ⟨m, rfl, Nat.le_refl _, rfl, rfl, fun i x hi hx => by have := (List.getElem?_eq_some_iff.1 hx).1; have := HN.out.2.1; omega⟩
  case round =>
    obtain ⟨j, rfl, hjm, rfl, rfl, hno⟩ := hrel
    cases j with
    | zero =>
      have e0 : ((0 : Nat) : Int) - 1 = -1 := by omega
      rw [e0]
      have hle : su[k]? = some l := by
        rw [← HN.out.2.2]
        refine (lay_other k wt su ?_).symm
        intro x hx
        obtain ⟨i, hi⟩ := List.mem_iff_getElem?.1 hx
        exact hno i x (Nat.zero_le _) hi
      obtain ⟨g, rfl, hc, _⟩ := s1_at HW1.out.2 hle
      clear hle hno e0
      go_wp2
      go_ret2
      exact ⟨rfl, hB⟩
    | succ i =>
      have e0 : ((i + 1 : Nat) : Int) - 1 = (i : Int) := by omega
      rw [e0]
      obtain ⟨x, hx⟩ : ∃ x, wt[i]? = some x := ⟨_, List.getElem?_eq_getElem (by have := HN.out.2.1; omega)⟩
      obtain ⟨g, rfl, hc0, hc1, _⟩ := w2_at HW1.out.1 hx
      have hiI : (i : Int) < (m : Int) := by omega
      have hr2 : IntKind.i64.wrap ((i : Int) - 1) = (i : Int) - 1 := by rw [IntKind.wrap_i64]; omega
      by_cases hxk : x.1 = k
      · have hle : x.2 = l := by
          have hsp : wt = wt.take i ++ x :: wt.drop (i + 1) := by
            have h1 := (List.take_append_drop i wt).symm
            rw [List.drop_eq_getElem_cons (List.getElem?_eq_some_iff.1 hx).1] at h1
            rwa [(List.getElem?_eq_some_iff.1 hx).2] at h1
          have h2 := lay_last su (wt.take i) x (wt.drop (i + 1)) (by
            intro y hy
            obtain ⟨p, hp⟩ := List.mem_iff_getElem?.1 hy
            rw [List.getElem?_drop] at hp
            rw [hxk]
            exact hno _ y (by omega) hp) (by rw [hxk, ← HN.out.1]; exact hk)
          rw [← hsp, hxk, HN.out.2.2] at h2
          exact (Option.some.inj h2).symm
        have hxb : ((x.1 : Int) == (k : Int)) = true := by simp [hxk]
        rw [hle] at hc1
        obtain ⟨x1, hx1⟩ : ∃ x1, x1 = x.1 := ⟨_, rfl⟩
        rw [← hx1] at hc0 hxb
        clear hxk hle hno hx hx1 e0
        go_wp2
        go_ret2
        exact ⟨rfl, hB⟩
      · have hxb : ((x.1 : Int) == (k : Int)) = false := by simp; omega
        have Hno : Hid (∀ i' x', i ≤ i' → wt[i']? = some x' → x'.1 ≠ k) := fun i' x' hi' hx' => by
          by_cases e : i' = i
          · subst e
            rw [hx] at hx'
            rw [← Option.some.inj hx']
            exact hxk
          · exact hno i' x' (by omega) hx'
        obtain ⟨x1, hx1⟩ : ∃ x1, x1 = x.1 := ⟨_, rfl⟩
        rw [← hx1] at hc0 hxb
        clear hxk hno hx hx1 e0
        go_wp2
        go_roundg i
        case measure => clear hr2; omega
        case rel => exact ⟨i, rfl, by clear hr2; omega, by go_num, rfl, Hno.out⟩
end Go.Proofs.Ytmgodahdljnbmaa
