/-
  The contract of the document's CompareRows.
-/
import Derived.Test.YtjkkkdehmgfmeaaDoorKRows
namespace Go.Proofs.YtjkkkdehmgfmeaaDoor
open Go.RowKit

theorem cmpC_wrap (a b : Cl) : IntKind.i64.wrap (- cmpC a b) = - cmpC a b := by
  have := cmpC_bd a b
  rw [IntKind.wrap_i64]
  omega

set_option maxRecDepth 4000 in
set_option maxHeartbeats 4000000 in
theorem refCompareRows_any {w : World} {v1 v2 v3 : Value} {r1 r2 : List Cl} {ks : List (Int × Bool)} (h1 : RowIs w v1 r1) (h2 : RowIs w v2 r2) (h3 : SortsIs w v3 ks) (hm : ks.length ≤ maxLen) :
    Calls Tryd.prog 16 #[v1, v2, v3] w fun e w' => e = .returned (.int .i64 (cmpR r1 r2 ks)) ∧ Below w.heap.size w w' := by
  unfold maxLen at hm
  obtain ⟨a3, cap3, rfl, h3⟩ := h3
  obtain ⟨n, hn⟩ : ∃ n, n = ks.length := ⟨_, rfl⟩
  rw [← hn] at hm
  rw [← hn]
  have HN : Hid (n = ks.length) := hn
  have H1 : Hid (RowIs w v1 r1 ∧ RowIs w v2 r2) := ⟨h1, h2⟩
  have H3 : Hid (ks ≠ [] → ∃ b off, a3 = some ⟨b, off, none⟩ ∧ b < w.heap.size ∧ ∀ i (x : Int × Bool), ks[i]? = some x → w.cell? ⟨b, off + i * 2, none⟩ = some (.int .i64 x.1) ∧ w.cell? ⟨b, off + i * 2 + 1, none⟩ = some (.bool x.2) ∧ x.1 < 9223372036854775808) := h3
  clear hn h1 h2 h3
  go_enter Tryd.func16, Tryd.ntmps16
  go_wp2_with fail
  go_loopg [7] n (fun gg s7 wx => ∃ i : Nat, i + gg = n ∧ s7 = .int .i64 i ∧ Hid (cmpR r1 r2 ks = cmpR r1 r2 (ks.drop i)) ∧ Below w.heap.size w wx)
  case atStart => exact ⟨0, by omega, rfl, by unfold Hid; rw [List.drop_zero], Below.refl _ _⟩
  case round =>
    obtain ⟨i, hig, rfl, hcmp, hb⟩ := hrel
    by_cases hi : i < n
    · have hiI : (i : Int) < (n : Int) := by omega
      have hrn := HN.out
      have hne : ks ≠ [] := by rintro rfl; simp at hrn; omega
      obtain ⟨b, off, rfl, hb3, hc3⟩ := H3.out hne
      obtain ⟨⟨k, d⟩, hic⟩ : ∃ x, ks[i]? = some x := ⟨_, List.getElem?_eq_getElem (by omega)⟩
      obtain ⟨x0, x1, x2⟩ := hc3 i _ hic
      have p0 := (hb.cell (p := ⟨b, off + i * 2, none⟩) hb3).trans x0
      have p1 := (hb.cell (p := ⟨b, off + i * 2 + 1, none⟩) hb3).trans x1
      simp only at p0 p1 x2
      have hbr : b < wr.heap.size := Nat.lt_of_lt_of_le hb3 hb.size
      have hr2 : IntKind.i64.wrap ((i : Int) + 1) = (i : Int) + 1 := by rw [IntKind.wrap_i64]; omega
      have HB : Hid (Below w.heap.size w wr) := hb
      have c1 : ∀ kq : Above wr, Calls Tryd.prog 32 #[v1, .int .i64 k] kq.it fun e w'' => e = .returned (cv (atC r1 k)) ∧ Below kq.it.heap.size kq.it w'' := fun kq => refAt_any kq.it v1 r1 ((H1.out.1.below hb).below kq.is) k x2
      have c2 : ∀ kq : Above wr, Calls Tryd.prog 32 #[v2, .int .i64 k] kq.it fun e w'' => e = .returned (cv (atC r2 k)) ∧ Below kq.it.heap.size kq.it w'' := fun kq => refAt_any kq.it v2 r2 ((H1.out.2.below hb).below kq.is) k x2
      have HE : Hid (cmpR r1 r2 ks = if cmpC (atC r1 k) (atC r2 k) = 0 then cmpR r1 r2 (ks.drop (i + 1)) else if d = true then - cmpC (atC r1 k) (atC r2 k) else cmpC (atC r1 k) (atC r2 k)) := by
        unfold Hid; rw [hcmp.out, drop_cons hic]; rfl
      obtain ⟨x, hx⟩ : ∃ x, x = atC r1 k := ⟨_, rfl⟩
      obtain ⟨y, hy⟩ : ∃ y, y = atC r2 k := ⟨_, rfl⟩
      rw [← hx] at HE c1
      rw [← hy] at HE c2
      have c3 : ∀ kq : Above wr, Calls Tryd.prog 11 #[cv x, cv y] kq.it fun e w'' => e = .returned (.int .i64 (cmpC x y)) ∧ Below kq.it.heap.size kq.it w'' := fun kq => refCompare_any x y kq.it
      obtain ⟨c, hc⟩ : ∃ c, c = cmpC x y := ⟨_, rfl⟩
      have hneg := cmpC_wrap x y
      rw [← hc] at HE c3 hneg
      clear hic hc3 hb hne hrn x0 x1 hx hy hcmp hc
      have P0 : ∀ kq : Above wr, kq.it.cell? ⟨b, off + i * 2, none⟩ = some (.int .i64 k) := fun kq => (kq.is.cell (p := ⟨b, off + i * 2, none⟩) hbr).trans p0
      go_wp2_with fail
      refine wp_region_above (by kernel_rfl) (by kernel_rfl) ?_
      intro hne
      repeat (go_big_quiet_step (first
        | (go_at_call_of 32 v1; exact above_of (c1 _))
        | (go_at_call_of 32 v2; exact above_of (c2 _))
        | (go_at_call 11; exact above_of (c3 _))))
      refine wpQuiet_nil ?_
      rintro _ ⟨kq, rfl⟩
      have P1 := (kq.is.cell (p := ⟨b, off + i * 2 + 1, none⟩) hbr).trans p1
      have HK : Hid (Below w.heap.size w kq.it) := HB.out.trans (kq.is.mono HB.out.size)
      generalize kq.it = w3 at *
      clear c1 c2 c3
      by_cases hz : c = 0
      · have HR : Hid (cmpR r1 r2 ks = cmpR r1 r2 (ks.drop (i + 1))) := by unfold Hid; rw [HE.out, if_pos hz]
        subst hz
        go_wp2_with fail
        go_roundg (n - (i + 1))
        case measure => clear hr2; omega
        case rel => exact ⟨i + 1, by clear hr2; omega, by go_num, HR, HK.out⟩
      · have hz' : (c != 0) = true := by simpa using hz
        have hz2 : (c == 0) = false := by simpa using hz
        cases d with
        | true =>
          have HR : Hid (cmpR r1 r2 ks = - c) := by unfold Hid; rw [HE.out, if_neg hz, if_pos rfl]
          clear hz HE
          go_wp2_with fail
          go_ret
          exact ⟨retI HR.out, HK.out⟩
        | false =>
          have HR : Hid (cmpR r1 r2 ks = c) := by unfold Hid; rw [HE.out, if_neg hz]; rfl
          clear hz HE
          go_wp2_with fail
          go_ret
          exact ⟨retI HR.out, HK.out⟩
    · have hiI : ¬ (i : Int) < (n : Int) := by omega
      have HB : Hid (Below w.heap.size w wr) := hb
      have HE : Hid (cmpR r1 r2 ks = 0) := by unfold Hid; rw [hcmp.out, List.drop_of_length_le (by rw [← HN.out]; omega)]; rfl
      clear hb hcmp
      go_wp2_with fail
      go_ret
      exact ⟨retI HE.out, HB.out⟩
end Go.Proofs.YtjkkkdehmgfmeaaDoor
