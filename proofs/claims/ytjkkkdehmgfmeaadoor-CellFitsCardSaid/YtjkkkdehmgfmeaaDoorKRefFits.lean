/-
  The contract of the document's Fits.
-/
import Derived.Test.YtjkkkdehmgfmeaaDoorKFits
namespace Go.Proofs.YtjkkkdehmgfmeaaDoor
open Go.RowKit

theorem above_col {w : World} {t : TypeId} {q : Col} : (∀ k : Above (w.alloc (.cells #[.string q.nm, .int .i64 q.kind, .bool q.nul] t)), k.it.cell? ⟨w.heap.size, 1, none⟩ = some (.int .i64 q.kind)) ∧ ∀ k : Above (w.alloc (.cells #[.string q.nm, .int .i64 q.kind, .bool q.nul] t)), k.it.cell? ⟨w.heap.size, 2, none⟩ = some (.bool q.nul) :=
  ⟨fun k => ((box_new _ _ _).over k.is).cell 1 _ rfl, fun k => ((box_new _ _ _).over k.is).cell 2 _ rfl⟩

set_option maxRecDepth 4000 in
set_option maxHeartbeats 8000000 in
theorem refFits_any {w : World} {v1 v2 : Value} {r : List Cl} {qs : List Col} (h1 : RowIs w v1 r) (h2 : ColsIs w v2 qs) (hm : r.length ≤ maxLen) :
    Calls Tryd.prog 23 #[v1, v2] w fun e w' => e = .returned (.bool (fitsR r qs)) ∧ Below w.heap.size w w' := by
  unfold maxLen at hm
  obtain ⟨a1, cap1, rfl, h1⟩ := h1
  obtain ⟨a2, cap2, rfl, h2⟩ := h2
  by_cases hlen : r.length = qs.length
  · rw [← hlen]
    obtain ⟨n, hn⟩ : ∃ n, n = r.length := ⟨_, rfl⟩
    rw [← hn] at hm hlen
    rw [← hn]
    have HN : Hid (n = r.length ∧ n = qs.length) := ⟨hn, hlen⟩
    have H1 : Hid (r ≠ [] → ∃ b off, a1 = some ⟨b, off, none⟩ ∧ b < w.heap.size ∧ ∀ i c, r[i]? = some c → CellAt w b (off + i * 3) c) := h1
    have H2 : Hid (qs ≠ [] → ∃ b off, a2 = some ⟨b, off, none⟩ ∧ b < w.heap.size ∧ ∀ i (q : Col), qs[i]? = some q → w.cell? ⟨b, off + i * 3, none⟩ = some (.string q.nm) ∧ w.cell? ⟨b, off + i * 3 + 1, none⟩ = some (.int .i64 q.kind) ∧ w.cell? ⟨b, off + i * 3 + 2, none⟩ = some (.bool q.nul)) := h2
    clear hn h1 h2 hlen
    go_enter Tryd.func23, Tryd.ntmps23
    go_wp2_with fail
    go_loopg [5] n (fun gg s5 wx => ∃ i : Nat, i + gg = n ∧ s5 = .int .i64 i ∧ Hid (fitsR r qs = fitsR (r.drop i) (qs.drop i)) ∧ Below w.heap.size w wx)
    case atStart => exact ⟨0, by omega, rfl, by unfold Hid; rw [List.drop_zero, List.drop_zero], Below.refl _ _⟩
    case round =>
      obtain ⟨i, hig, rfl, hfit, hb⟩ := hrel
      by_cases hi : i < n
      · have hiI : (i : Int) < (n : Int) := by omega
        have hrn := HN.out
        have hne : r ≠ [] := by rintro rfl; simp at hrn; omega
        have hne2 : qs ≠ [] := by rintro rfl; simp at hrn; omega
        obtain ⟨b1, off1, rfl, hb1, hc1⟩ := H1.out hne
        obtain ⟨b2, off2, rfl, hb2, hc2⟩ := H2.out hne2
        obtain ⟨c, hic⟩ : ∃ c, r[i]? = some c := ⟨_, List.getElem?_eq_getElem (by omega)⟩
        obtain ⟨⟨nm, kd, nl⟩, hiq⟩ : ∃ q, qs[i]? = some q := ⟨_, List.getElem?_eq_getElem (by omega)⟩
        have hb1r : b1 < wr.heap.size := Nat.lt_of_lt_of_le hb1 hb.size
        have hb2r : b2 < wr.heap.size := Nat.lt_of_lt_of_le hb2 hb.size
        have x1 := (hc1 i c hic).below hb1 hb
        obtain ⟨y0, y1, y2⟩ := hc2 i _ hiq
        simp only at y0 y1 y2
        have q0 := (hb.cell (p := ⟨b2, off2 + i * 3, none⟩) hb2).trans y0
        have q1 := (hb.cell (p := ⟨b2, off2 + i * 3 + 1, none⟩) hb2).trans y1
        have q2 := (hb.cell (p := ⟨b2, off2 + i * 3 + 2, none⟩) hb2).trans y2
        have hr2 : IntKind.i64.wrap ((i : Int) + 1) = (i : Int) + 1 := by rw [IntKind.wrap_i64]; omega
        have HB : Hid (Below w.heap.size w wr) := hb
        have HE : Hid (fitsR r qs = (fitC c ⟨nm, kd, nl⟩ && fitsR (r.drop (i + 1)) (qs.drop (i + 1)))) := by unfold Hid; rw [hfit.out, fitsR_step hic hiq]
        have n2 : b2 ≠ wr.heap.size := by omega
        have x2 : ∀ kq : Above (wr.alloc (.cells #[.string nm, .int .i64 kd, .bool nl] 62)), CellAt kq.it b1 (off1 + i * 3) c := fun kq => (x1.below hb1r (below1 _ _)).below (by simp; omega) kq.is
        have p0 : ∀ kq : Above (wr.alloc (.cells #[.string nm, .int .i64 kd, .bool nl] 62)), kq.it.cell? ⟨b1, off1 + i * 3, none⟩ = some (.int .i64 c.k) := fun kq => (x2 kq).c0
        have p1 : ∀ kq : Above (wr.alloc (.cells #[.string nm, .int .i64 kd, .bool nl] 62)), kq.it.cell? ⟨b1, off1 + i * 3 + 1, none⟩ = some (.int .i64 c.n) := fun kq => (x2 kq).c1
        have p2 : ∀ kq : Above (wr.alloc (.cells #[.string nm, .int .i64 kd, .bool nl] 62)), kq.it.cell? ⟨b1, off1 + i * 3 + 2, none⟩ = some (.string c.s) := fun kq => (x2 kq).c2
        obtain ⟨s1, s2⟩ := above_col (w := wr) (t := 62) (q := ⟨nm, kd, nl⟩)
        simp only at s1 s2
        have hck : ∀ w, Calls Tryd.prog 13 #[cv c] w fun e w' => e = .returned (.bool (mayC c)) ∧ Below w.heap.size w w' := fun w => may_any c w
        have hfc : fitC c ⟨nm, kd, nl⟩ = (mayC c && (if c.k = 0 then nl else c.k == kd)) := rfl
        rw [hfc] at HE
        clear hic hiq hc1 hc2 x1 x2 y0 y1 y2 hb hne hne2 hrn hfit hfc
        obtain ⟨m, hmm⟩ : ∃ m, m = mayC c := ⟨_, rfl⟩
        rw [← hmm] at HE hck
        clear hmm
        have hcase : (m = false) ∨ (m = true ∧ (c.k == 0) = true ∧ (c.k != 0) = false ∧ Hid (c.k = 0) ∧ ∃ f, (c.k == kd) = f ∧ (c.k != kd) = !f) ∨ (m = true ∧ (c.k == 0) = false ∧ (c.k != 0) = true ∧ Hid (c.k ≠ 0) ∧ ∃ f, (c.k == kd) = f ∧ (c.k != kd) = !f) := by
          cases m with
          | false => exact .inl rfl
          | true =>
            by_cases hk : c.k = 0
            · exact .inr (.inl ⟨rfl, by simpa using hk, by simpa using hk, hk, _, rfl, rfl⟩)
            · exact .inr (.inr ⟨rfl, by simpa using hk, by simpa using hk, hk, _, rfl, rfl⟩)
        rcases hcase with rfl | ⟨rfl, e0, e1, HK, f, e2, e3⟩ | ⟨rfl, e0, e1, HK, f, e2, e3⟩
        · have HR : Hid (fitsR r qs = false) := by unfold Hid; rw [HE.out]; rfl
          clear HE
          go_wp2_with fail
          refine wp_region_above (by kernel_rfl) (by kernel_rfl) ?_
          intro hne
          repeat (go_big_quiet_step ((go_at_call 13; exact above_of (hck _))))
          refine wpQuiet_nil ?_
          rintro _ ⟨kq, rfl⟩
          have hbq := kq.is
          have HQ : Hid (Below w.heap.size w kq.it) := HB.out.trans (((below1 _ _).trans (hbq.mono (by simp))).mono HB.out.size)
          clear hbq
          go_wp2_with fail
          go_ret
          exact ⟨retB HR.out, HQ.out⟩
        · cases nl with
          | true =>
            have HR : Hid (fitsR r qs = fitsR (r.drop (i + 1)) (qs.drop (i + 1))) := by unfold Hid; rw [HE.out, if_pos HK.out]; rfl
            clear HE
            cases f
            all_goals
              go_wp2_with fail
              refine wp_region_above (by kernel_rfl) (by kernel_rfl) ?_
              intro hne
              repeat (go_big_quiet_step ((go_at_call 13; exact above_of (hck _))))
              refine wpQuiet_nil ?_
              rintro _ ⟨kq, rfl⟩
              have hbq := kq.is
              have HQ : Hid (Below w.heap.size w kq.it) := HB.out.trans (((below1 _ _).trans (hbq.mono (by simp))).mono HB.out.size)
              clear hbq
              go_wp2_with fail
              go_roundg (n - (i + 1))
              case measure => clear hr2; omega
              case rel => exact ⟨i + 1, by clear hr2; omega, by go_num, HR, HQ.out⟩
          | false =>
            have HR : Hid (fitsR r qs = false) := by unfold Hid; rw [HE.out, if_pos HK.out]; rfl
            clear HE
            cases f
            all_goals
              go_wp2_with fail
              refine wp_region_above (by kernel_rfl) (by kernel_rfl) ?_
              intro hne
              repeat (go_big_quiet_step ((go_at_call 13; exact above_of (hck _))))
              refine wpQuiet_nil ?_
              rintro _ ⟨kq, rfl⟩
              have hbq := kq.is
              have HQ : Hid (Below w.heap.size w kq.it) := HB.out.trans (((below1 _ _).trans (hbq.mono (by simp))).mono HB.out.size)
              clear hbq
              go_wp2_with fail
              go_ret
              exact ⟨retB HR.out, HQ.out⟩
        · cases f with
          | true =>
            have HR : Hid (fitsR r qs = fitsR (r.drop (i + 1)) (qs.drop (i + 1))) := by unfold Hid; rw [HE.out, if_neg HK.out, e2]; rfl
            clear HE
            go_wp2_with fail
            refine wp_region_above (by kernel_rfl) (by kernel_rfl) ?_
            intro hne
            repeat (go_big_quiet_step ((go_at_call 13; exact above_of (hck _))))
            refine wpQuiet_nil ?_
            rintro _ ⟨kq, rfl⟩
            have hbq := kq.is
            have HQ : Hid (Below w.heap.size w kq.it) := HB.out.trans (((below1 _ _).trans (hbq.mono (by simp))).mono HB.out.size)
            clear hbq
            go_wp2_with fail
            go_roundg (n - (i + 1))
            case measure => clear hr2; omega
            case rel => exact ⟨i + 1, by clear hr2; omega, by go_num, HR, HQ.out⟩
          | false =>
            have HR : Hid (fitsR r qs = false) := by unfold Hid; rw [HE.out, if_neg HK.out, e2]; rfl
            clear HE
            go_wp2_with fail
            refine wp_region_above (by kernel_rfl) (by kernel_rfl) ?_
            intro hne
            repeat (go_big_quiet_step ((go_at_call 13; exact above_of (hck _))))
            refine wpQuiet_nil ?_
            rintro _ ⟨kq, rfl⟩
            have hbq := kq.is
            have HQ : Hid (Below w.heap.size w kq.it) := HB.out.trans (((below1 _ _).trans (hbq.mono (by simp))).mono HB.out.size)
            clear hbq
            go_wp2_with fail
            go_ret
            exact ⟨retB HR.out, HQ.out⟩
      · have hiI : ¬ (i : Int) < (n : Int) := by omega
        have HB : Hid (Below w.heap.size w wr) := hb
        have HR : Hid (fitsR r qs = true) := by
          have := HN.out
          unfold Hid; rw [hfit.out, List.drop_of_length_le (by omega), List.drop_of_length_le (by omega)]; rfl
        clear hb hfit
        go_wp2_with fail
        go_ret
        exact ⟨retB HR.out, HB.out⟩
  · have HR : Hid (fitsR r qs = false) := fitsR_len r qs hlen
    have hl : ((r.length : Int) == (qs.length : Int)) = false := by simp; omega
    have hl2 : ((r.length : Int) != (qs.length : Int)) = true := by simp; omega
    generalize r.length = m at *
    generalize qs.length = m2 at *
    clear h1 h2 hlen
    go_enter Tryd.func23, Tryd.ntmps23
    go_wp2_with fail
    go_ret
    exact ⟨retB HR.out, Below.refl _ _⟩
end Go.Proofs.YtjkkkdehmgfmeaaDoor
