/-
  The contract of slices.Replace, as a map's cut and fill call it.
-/
import Derived.Test.YtjnobdgigeejnaaEIns
import Derived.Deep.QuietTactic
import Derived.BigQuiet
namespace Go.Proofs.Ytjnobdgigeejnaa
open Go.RowKit

theorem ze_one : (#[.int .i64 0, .int .i64 0] : Array Value).all (·.oneCell') = true := by decide +kernel
/-- What is put lies elsewhere. -/
theorem src_of {w : World} {va : Option Addr} {m vc : Nat} {t : TypeId} {V : List (List Value)} (h : SRows w (.slice va m vc) t 2 V) : V.length = m ∧ (0 < V.length → ∃ g2, va = some ⟨g2, 0, none⟩ ∧ Rows w g2 t (vc * 2) 2 V ∧ 0 < vc) := by
  rcases h with ⟨hq, rfl⟩ | ⟨g', cap', hq, q1, q2, q3⟩
  · simp only [Value.slice.injEq] at hq
    exact ⟨hq.2.1.symm, fun h => absurd h (by simp)⟩
  · simp only [Value.slice.injEq] at hq
    obtain ⟨rfl, rfl, rfl⟩ := hq
    exact ⟨rfl, fun h => ⟨g', rfl, q3, by omega⟩⟩

set_option maxRecDepth 4000 in
set_option maxHeartbeats 4000000 in
/-- Up to the end. -/
theorem rep_end {w : World} {g n cap i m vc : Nat} {va : Option Addr} {R V Z : List (List Value)} (H : SRows w (.slice (some ⟨g, 0, none⟩) n cap) 32 2 R) (hV : SRows w (.slice va m vc) 32 2 V) (hone : ∀ x ∈ V, ∀ c ∈ x, c.oneCell' = true) (hl : n ≤ 5000) (hm2 : m ≤ 2) (hi : i < n) (hZ : R.take i ++ V = Z) :
    Calls Try.prog 40 #[.slice (some ⟨g, 0, none⟩) n cap, .int .i64 i, .int .i64 n, .slice va m vc] w (InsPost w g (i + m) Z) := by
  obtain ⟨i0, hi0, hz0, hz1, hz2⟩ := info_parts info_ext
  obtain ⟨q1, q2, q3, q4⟩ := srows_open H
  have q5 := srows_shut (g := g) (n := i) (R := R.take i) (by rw [List.length_take]; omega) (by omega) q3 (q4.take i)
  obtain ⟨t, ht⟩ : ∃ t, t = i + m := ⟨_, rfl⟩
  rw [← ht]
  have HH : Hid (SRows w (.slice (some ⟨g, 0, none⟩) i cap) 32 2 (R.take i) ∧ (R.take i).length = i ∧ R.take i ++ V = Z ∧ i + V.length = t ∧ t ≤ 1000000) := ⟨q5, by rw [List.length_take]; omega, hZ, by rw [(src_of hV).1, ht], by omega⟩
  have HV : Hid (SRows w (.slice va m vc) 32 2 V ∧ ∀ x ∈ V, ∀ c ∈ x, c.oneCell' = true) := ⟨hV, hone⟩
  have HI : Hid (Try.prog.info? 32 = some i0 ∧ i0.zero = some (.agg #[.int .i64 0, .int .i64 0]) ∧ i0.size = 2 ∧ i0.bytes = 16) := ⟨hi0, hz0, hz1, hz2⟩
  have HC : Hid (n ≤ cap ∧ cap ≤ maxLen) := ⟨q2, q3⟩
  have hcI : (n : Int) ≤ (cap : Int) := by omega
  have hiI : (i : Int) ≤ (n : Int) := by omega
  have hne : ¬ (i : Int) = (n : Int) := by omega
  have hci : ¬ cap = i := by omega
  clear H hV hone hi0 hz0 hz1 hz2 hZ q1 q2 q3 q4 q5 ht
  by_cases hlt : t < n
  · have hltI : (t : Int) < (n : Int) := by omega
    have htI : (t : Int) ≤ (n : Int) := by omega
    have hct : ¬ cap = t := by have := HC.out; omega
    go_enter Try.func40, Try.ntmps40
    go_wp2_with (first
      | (at_builtin; refine append_rowsK rfl _ _ 45 32 i0 _ 2 16 rfl Try.underlying45 HI.out.1 HI.out.2.1 HI.out.2.2.1 HI.out.2.2.2 rfl (by decide) (by decide) rfl rfl HH.out.1 HV.out.1 HH.out.2.1 HV.out.2 t HH.out.2.2.2.1 Z HH.out.2.2.1 HH.out.2.2.2.2 ?_; intro g' cap' w' h1 h2 h3; obtain ⟨rfl, rfl⟩ : g' = g ∧ cap' = cap := (by rcases h2.out with h | h; exact h; have := HC.out; omega); obtain ⟨F, f1, f2, f3⟩ := (srows_open h1.out).2.2.2.full (srows_open h1.out |>.1 |>.symm ▸ (srows_open h1.out).2.1); have HF : Hid (Rows w' g' 32 (cap' * 2) 2 F) := f2; have HL : Hid (t + (n - t) ≤ F.length ∧ F.take t = Z) := (⟨by rw [f1]; have := HC.out; omega, by rw [← f3, (srows_open h1.out).1]⟩); clear f1 f2 f3)
      | (refine clear_rows rfl _ 45 32 #[.int .i64 0, .int .i64 0] 2 rfl Try.underlying45 zero_ext rfl (by decide) ze_one (q := t) HF (some ⟨g', t * 2, none⟩) (n - t) (cap' - t) rfl (fun _ => rfl) HL.out.1 ?_; intro w4 k5 k6))
    go_ret
    have hF := k5.out
    rw [HL.out.2] at hF
    refine ⟨g', cap', rfl, srows_shut (srows_open h1.out).1 (srows_open h1.out).2.1 (srows_open h1.out).2.2.1 hF, .inl rfl, kept_new h3.out k6.out (.inl rfl)⟩
  · have hltI : ¬ (t : Int) < (n : Int) := by omega
    go_enter Try.func40, Try.ntmps40
    go_wp2_with (at_builtin; refine append_rowsK rfl _ _ 45 32 i0 _ 2 16 rfl Try.underlying45 HI.out.1 HI.out.2.1 HI.out.2.2.1 HI.out.2.2.2 rfl (by decide) (by decide) rfl rfl HH.out.1 HV.out.1 HH.out.2.1 HV.out.2 t HH.out.2.2.2.1 Z HH.out.2.2.1 HH.out.2.2.2.2 ?_; intro g' cap' w' h1 h2 h3)
    go_ret
    exact ⟨g', cap', rfl, h1.out, h2.out.imp (·.1) (·.1), h3.out⟩

/-- A part of what lies in a block, with what stands behind it. -/
theorem full_drop {j : Nat} {R F : List (List Value)} (f3 : F.take R.length = R) (k : Nat) (x : List Value) (hk : (R.drop j)[k]? = some x) : F[j + k]? = some x := by
  rw [List.getElem?_drop] at hk
  have hlt := (List.getElem?_eq_some_iff.1 hk).1
  have : (F.take R.length)[j + k]? = R[j + k]? := by rw [f3]
  rw [List.getElem?_take, if_pos (by omega)] at this
  rw [this]
  exact hk

set_option maxRecDepth 4000 in
set_option maxHeartbeats 4000000 in
/-- In the midst, not more than there was. -/
theorem rep_less {w : World} {g n cap i j m vc : Nat} {va : Option Addr} {R V Z : List (List Value)} (H : SRows w (.slice (some ⟨g, 0, none⟩) n cap) 32 2 R) (hV : SRows w (.slice va m vc) 32 2 V) (hone : ∀ x ∈ V, ∀ c ∈ x, c.oneCell' = true) (honeR : ∀ x ∈ R, ∀ c ∈ x, c.oneCell' = true) (hl : n ≤ 5000) (hij : i < j) (hjn : j < n) (hm : i + m ≤ j) (hZ : R.take i ++ (V ++ R.drop j) = Z) :
    Calls Try.prog 40 #[.slice (some ⟨g, 0, none⟩) n cap, .int .i64 i, .int .i64 j, .slice va m vc] w (InsPost w g (i + m + (n - j)) Z) := by
  obtain ⟨q1, q2, q3, q4⟩ := srows_open H
  obtain ⟨F, f1, f2, f3⟩ := q4.full (by omega)
  obtain ⟨v1, v2⟩ := src_of hV
  obtain ⟨d, hd⟩ : ∃ d, d = n - j := ⟨_, rfl⟩
  obtain ⟨u, hu⟩ : ∃ u, u = i + m := ⟨_, rfl⟩
  obtain ⟨t, ht⟩ : ∃ t, t = u + d := ⟨_, rfl⟩
  have hnj : n - j = d := hd.symm
  rw [hnj, ← hu, ← ht]
  have hXl : (R.drop j).length = d := by rw [List.length_drop]; omega
  have HH : Hid (R.take i ++ (V ++ R.drop j) = Z ∧ F.length = cap ∧ F.take i = R.take i ∧ cap ≤ maxLen ∧ V.length = m ∧ (R.drop j).length = d ∧ u = i + m ∧ t = u + d ∧ d = n - j ∧ t ≤ cap ∧ n ≤ cap) := ⟨hZ, f1, by
    rw [← f3, List.take_take, Nat.min_eq_left (by omega)], q3, v1, hXl, hu, ht, hd, by omega, q2⟩
  have HF0 : Hid (Rows w g 32 (cap * 2) 2 F) := f2
  have HV : Hid (∀ x ∈ V, x.length = 2) := hV.rowlen
  have HV1 : Hid (∀ x ∈ V, ∀ c ∈ x, c.oneCell' = true) := hone
  have HM1 : Hid (V.length = Nat.min m (t - i)) := by
    show _ = _
    rw [v1]
    exact Eq.symm (Nat.min_eq_left (by omega))
  have HM2 : Hid ((R.drop j).length = Nat.min d (t - u)) := by
    show _ = _
    rw [hXl]
    exact Eq.symm (Nat.min_eq_left (by omega))
  have HP1 : Hid (0 < V.length → ∃ ad, va = some ad ∧ ∀ (j : Nat) v, V.flatten[j]? = some v → w.cell? (ad.add j) = some v) := fun h => by
    obtain ⟨g2, e1, e2, _⟩ := v2 h
    exact ⟨_, e1, read_head e2 (fun _ _ h => h) hV.rowlen⟩
  have HX1 : Hid (∀ r ∈ R.drop j, r.length = 2) := fun r hr => q4.lens r (List.mem_of_mem_drop hr)
  have HX2 : Hid (∀ r ∈ R.drop j, ∀ c ∈ r, c.oneCell' = true) := fun r hr => honeR r (List.mem_of_mem_drop hr)
  have HD1 : Hid (i + V.length ≤ F.length) := by show _ ≤ _; omega
  have HD2 : Hid (u + (R.drop j).length ≤ (spl F i V).length) := by show _ ≤ _; rw [spl_len HD1.out]; omega
  have HRD : Hid (∀ (k : Nat) x, (R.drop j)[k]? = some x → (spl F i V)[j + k]? = some x) := fun k x hk => by
    rw [spl_at HD1.out, if_neg (by omega), if_neg (by omega)]
    exact full_drop f3 k x hk
  have hw1 : IntKind.i64.wrap ((i : Int) + (m : Int)) = (u : Int) := by rw [IntKind.wrap_i64]; omega
  have hw2 : IntKind.i64.wrap ((u : Int) + (d : Int)) = (t : Int) := by rw [IntKind.wrap_i64]; omega
  have hne : ¬ (i : Int) = (j : Int) := by omega
  have hjn' : ¬ (j : Int) = (n : Int) := by omega
  have hiI : (i : Int) ≤ (n : Int) := by omega
  have hijI : (i : Int) ≤ (j : Int) := by omega
  have hjI : (j : Int) ≤ (n : Int) := by omega
  have hjcI : (j : Int) ≤ (cap : Int) := by omega
  have hicI : (i : Int) ≤ (cap : Int) := by omega
  have htc : ¬ (cap : Int) < (t : Int) := by omega
  have htc2 : (t : Int) ≤ (cap : Int) := by omega
  have htn : (t : Int) ≤ (n : Int) := by omega
  have huj : (u : Int) ≤ (j : Int) := by omega
  have hut : (u : Int) ≤ (t : Int) := by omega
  have hit : (i : Int) ≤ (t : Int) := by omega
  have hc1 : ¬ cap = i := by omega
  have hc2 : ¬ cap = u := by omega
  have hc3 : ¬ cap = j := by omega
  have htn2 : ¬ (t > n) := by omega
  clear H hV hone honeR hZ q1 q2 q3 q4 f1 f2 f3 v1 v2 hd hu ht hXl hl hij hjn hm
  go_enter Try.func40, Try.ntmps40
  go_wp2_with fail
  go_quiet (fail)
  obtain ⟨W, hW⟩ : ∃ W, W = w.drewN nq := ⟨_, rfl⟩
  have HF : Hid (Rows W g 32 (cap * 2) 2 F) := by rw [hW]; exact HF0
  have HP : Hid (0 < V.length → ∃ ad, va = some ad ∧ ∀ (j : Nat) v, V.flatten[j]? = some v → W.cell? (ad.add j) = some v) := by rw [hW]; exact HP1
  have HK : Hid (Kept (fun x => x = g) w W) := by rw [hW]; exact (Kept.refl _ w).drewN nq
  rw [← hW]
  clear hW HP1 HF0
  go_wp2_with (refine copy_rows rfl _ _ 45 45 32 2 rfl Try.underlying45 size_ext (by decide) (p := i) V HF HD1.out (some ⟨g, i * 2, none⟩) va (t - i) (cap - i) m vc rfl rfl HM1.out HV.out HV1.out (fun h => ⟨rfl, HP.out h⟩) ?_; intro w2 k1 k2)
  have HP2 : Hid (∀ (j1 : Nat) v, (R.drop j).flatten[j1]? = some v → w2.drew.cell? ((⟨g, j * 2, none⟩ : Addr).add j1) = some v) := k1.out.read (by decide) HRD.out HX1.out
  go_region_law (refine step_copy_rows rfl _ _ 45 45 32 2 rfl Try.underlying45 size_ext (by decide) (p := u) (R.drop j) (show Hid (Rows w2.drew g 32 (cap * 2) 2 (spl F i V)) from k1) HD2.out (some ⟨g, u * 2, none⟩) (some ⟨g, j * 2, none⟩) (t - u) (cap - u) d (cap - j) (by simp [Act.eval, Act.put]) (by simp [Act.eval, Act.put]) HM2.out HX1.out HX2.out (fun _ => ⟨rfl, _, rfl, HP2.out⟩) ?_; intro w3 k3 k4)
  all_goals
    have k4' : Hid (Kept (fun x => x = g) w2 w3) := k4.out.undrew
    have HL : Hid (t + (n - t) ≤ (spl (spl F i V) u (R.drop j)).length) := by
      have hh := HH.out
      show _ ≤ _
      rw [spl_len HD2.out, spl_len HD1.out]
      clear hw1 hw2 hne hjn' hiI hijI hjI hjcI hicI htc htc2 htn huj hut hit
      omega
    by_cases hct : cap = t
    case' pos =>
      have HT : Hid (¬ 0 < n - t) := by
        have hh := HH.out
        show ¬ _
        clear hw1 hw2 hne hjn' hiI hijI hjI hjcI hicI htc htc2 huj hut hit
        omega
      go_wp2_with (refine clear_rows rfl _ 45 32 #[.int .i64 0, .int .i64 0] 2 rfl Try.underlying45 zero_ext rfl (by decide) ze_one (q := t) k3 (some ⟨g, 0, none⟩) (n - t) 0 rfl (fun h => absurd h HT.out) HL.out ?_; intro w4 k5 k6)
    case' neg =>
      go_wp2_with (refine clear_rows rfl _ 45 32 #[.int .i64 0, .int .i64 0] 2 rfl Try.underlying45 zero_ext rfl (by decide) ze_one (q := t) k3 (some ⟨g, t * 2, none⟩) (n - t) (cap - t) rfl (fun _ => rfl) HL.out ?_; intro w4 k5 k6)
    all_goals
      go_ret
      have hh := HH.out
      have hF := k5.out
      have e := spl_two (L := F) (i := i) (V := V) (X := R.drop j) (by have := HD2.out; rw [spl_len HD1.out] at this; omega)
      have e2 : (spl (spl F i V) u (R.drop j)).take t = Z := by
        rw [show t = i + V.length + (R.drop j).length by omega, show u = i + V.length by omega, e, hh.2.2.1]
        exact hh.1
      rw [e2] at hF
      refine ⟨g, cap, by first | rfl | (rw [hct]; rfl), srows_shut ?_ hh.2.2.2.2.2.2.2.2.2.1 hh.2.2.2.1 hF, .inl rfl, kept_new (kept_new (kept_new HK.out k2.out (.inl rfl)) k4'.out (.inl rfl)) k6.out (.inl rfl)⟩
      rw [← e2, List.length_take, spl_len HD2.out, spl_len HD1.out]
      omega

set_option maxRecDepth 4000 in
set_option maxHeartbeats 4000000 in
/-- Two in the place of one, with room. -/
theorem rep_room {w : World} {g n cap i g2 vc : Nat} {R V Z : List (List Value)} (H : SRows w (.slice (some ⟨g, 0, none⟩) n cap) 32 2 R) (hV : SRows w (.slice (some ⟨g2, 0, none⟩) 2 vc) 32 2 V) (hg : g2 ≠ g) (hone : ∀ x ∈ V, ∀ c ∈ x, c.oneCell' = true) (honeR : ∀ x ∈ R, ∀ c ∈ x, c.oneCell' = true) (hl : n ≤ 5000) (hin : i + 1 < n) (hc : n + 1 ≤ cap) (hZ : R.take i ++ (V ++ R.drop (i + 1)) = Z) :
    Calls Try.prog 40 #[.slice (some ⟨g, 0, none⟩) n cap, .int .i64 i, .int .i64 ((i + 1 : Nat) : Int), .slice (some ⟨g2, 0, none⟩) 2 vc] w (InsPost w g (n + 1) Z) := by
  obtain ⟨q1, q2, q3, q4⟩ := srows_open H
  obtain ⟨F, f1, f2, f3⟩ := q4.full (by omega)
  obtain ⟨v1, v2⟩ := src_of hV
  obtain ⟨j, hj⟩ : ∃ j, j = i + 1 := ⟨_, rfl⟩
  obtain ⟨d, hd⟩ : ∃ d, d = n - j := ⟨_, rfl⟩
  obtain ⟨u, hu⟩ : ∃ u, u = i + 2 := ⟨_, rfl⟩
  obtain ⟨t, ht⟩ : ∃ t, t = n + 1 := ⟨_, rfl⟩
  have hnj : n - j = d := hd.symm
  rw [← hj] at hZ ⊢
  rw [← ht]
  have hVr : Rows w g2 32 (vc * 2) 2 V := (srows_open hV).2.2.2
  have hvc : 2 ≤ vc := (srows_open hV).2.1
  have hov : ∀ W : World, W.heap = w.heap → ∀ (oa ob la ca lb cb : Nat), (callFunc 44 #[.slice (some ⟨g, oa, none⟩) la ca, .slice (some ⟨g2, ob, none⟩) lb cb]).run Try.prog W = .ok (.value (.bool false)) W := fun W hW oa ob la ca lb cb => overlaps_apart (q4.of_block (by rw [hW])) (hVr.of_block (by rw [hW])) (Ne.symm hg) (by omega)
  have hXl : (R.drop j).length = d := by rw [List.length_drop]; omega
  have HH : Hid (R.take i ++ (V ++ R.drop j) = Z ∧ F.length = cap ∧ F.take i = R.take i ∧ cap ≤ maxLen ∧ V.length = 2 ∧ (R.drop j).length = d ∧ u = i + 2 ∧ t = u + d ∧ d = n - j ∧ t ≤ cap ∧ n ≤ cap) := ⟨hZ, f1, by
    rw [← f3, List.take_take, Nat.min_eq_left (by omega)], q3, v1, hXl, hu, by omega, hd, by omega, q2⟩
  have HF0 : Hid (Rows w g 32 (cap * 2) 2 F) := f2
  have HV0 : Hid (Rows w g2 32 (vc * 2) 2 V) := hVr
  have HG : Hid (g2 ≠ g) := hg
  have HV : Hid (∀ x ∈ V, x.length = 2) := hV.rowlen
  have HV1 : Hid (∀ x ∈ V, ∀ c ∈ x, c.oneCell' = true) := hone
  have HM1 : Hid (V.length = Nat.min 2 (t - i)) := by
    show _ = _
    rw [v1]
    exact Eq.symm (Nat.min_eq_left (by omega))
  have HM2 : Hid ((R.drop j).length = Nat.min d (t - u)) := by
    show _ = _
    rw [hXl]
    exact Eq.symm (Nat.min_eq_left (by omega))
  have HX1 : Hid (∀ r ∈ R.drop j, r.length = 2) := fun r hr => q4.lens r (List.mem_of_mem_drop hr)
  have HX2 : Hid (∀ r ∈ R.drop j, ∀ c ∈ r, c.oneCell' = true) := fun r hr => honeR r (List.mem_of_mem_drop hr)
  have HD1 : Hid (u + (R.drop j).length ≤ F.length) := by show _ ≤ _; omega
  have HD2 : Hid (i + V.length ≤ (spl F u (R.drop j)).length) := by show _ ≤ _; rw [spl_len HD1.out]; omega
  have HRD : Hid (∀ (k : Nat) x, (R.drop j)[k]? = some x → F[j + k]? = some x) := fun k x hk => full_drop f3 k x hk
  have hw1 : IntKind.i64.wrap ((i : Int) + 2) = (u : Int) := by rw [IntKind.wrap_i64]; omega
  have hw2 : IntKind.i64.wrap ((u : Int) + (d : Int)) = (t : Int) := by rw [IntKind.wrap_i64]; omega
  have hne : ¬ (i : Int) = (j : Int) := by omega
  have hjn' : ¬ (j : Int) = (n : Int) := by omega
  have hiI : (i : Int) ≤ (n : Int) := by omega
  have hijI : (i : Int) ≤ (j : Int) := by omega
  have hjI : (j : Int) ≤ (n : Int) := by omega
  have hjcI : (j : Int) ≤ (cap : Int) := by omega
  have hicI : (i : Int) ≤ (cap : Int) := by omega
  have htc : ¬ (cap : Int) < (t : Int) := by omega
  have htc2 : (t : Int) ≤ (cap : Int) := by omega
  have huj : ¬ (u : Int) ≤ (j : Int) := by omega
  have hut : (u : Int) ≤ (t : Int) := by omega
  have hit : (i : Int) ≤ (t : Int) := by omega
  have hc1 : ¬ cap = i := by omega
  have hc2 : ¬ cap = u := by omega
  have hc3 : ¬ cap = j := by omega
  clear H hV hone honeR hZ q1 q2 q3 q4 f1 f2 f3 v1 v2 hd hu ht hj hXl hl hin hc hg hVr hvc
  go_enter Try.func40, Try.ntmps40
  go_wp2_with fail
  go_quiet (fail)
  obtain ⟨W, hW⟩ : ∃ W, W = w.drewN nq := ⟨_, rfl⟩
  have HF : Hid (Rows W g 32 (cap * 2) 2 F) := by rw [hW]; exact HF0
  have HVW : Hid (Rows W g2 32 (vc * 2) 2 V) := by rw [hW]; exact HV0
  have HK : Hid (Kept (fun x => x = g) w W) := by rw [hW]; exact (Kept.refl _ w).drewN nq
  have hov1 := hov W (by rw [hW]; rfl)
  rw [← hW]
  clear hW HF0 hov HV0
  go_wp2_with (simp only [hov1])
  clear hov1
  have HP2 : Hid (∀ (j1 : Nat) v, (R.drop j).flatten[j1]? = some v → W.drew.cell? ((⟨g, j * 2, none⟩ : Addr).add j1) = some v) := HF.out.read (by decide) HRD.out HX1.out
  go_region_law (refine step_copy_rows rfl _ _ 45 45 32 2 rfl Try.underlying45 size_ext (by decide) (p := u) (R.drop j) (show Hid (Rows W.drew g 32 (cap * 2) 2 F) from HF) HD1.out (some ⟨g, u * 2, none⟩) (some ⟨g, j * 2, none⟩) (t - u) (cap - u) d (cap - j) (by simp [Act.eval, Act.put]) (by simp [Act.eval, Act.put]) HM2.out HX1.out HX2.out (fun _ => ⟨rfl, _, rfl, HP2.out⟩) ?_; intro w3 k3 k4)
  all_goals
    have k4' : Hid (Kept (fun x => x = g) W w3) := k4.out.undrew
    have HVR : Hid (Rows w3 g2 32 (vc * 2) 2 V) := HVW.out.kept k4'.out HG.out
    go_wp2_with (refine copy_rows rfl _ _ 45 45 32 2 rfl Try.underlying45 size_ext (by decide) (p := i) V k3 HD2.out (some ⟨g, i * 2, none⟩) (some ⟨g2, 0, none⟩) (t - i) (cap - i) 2 vc rfl rfl HM1.out HV.out HV1.out (fun _ => ⟨rfl, _, rfl, read_head HVR.out (fun _ _ h => h) HV.out⟩) ?_; intro w4 k5 k6)
    go_ret
    have hh := HH.out
    have hb : i + V.length + (R.drop j).length ≤ F.length := by
      clear hw1 hw2 hne hjn' hiI hijI hjI hjcI hicI htc htc2 huj hut hit
      omega
    have hsw := spl_swap (L := F) (i := i) (V := V) (X := R.drop j) hb
    have k5' : Rows w4 g 32 (cap * 2) 2 (spl (spl F i V) u (R.drop j)) := by
      have := k5.out
      rw [show u = i + V.length by clear hw1 hw2 hne hjn' hiI hijI hjI hjcI hicI htc htc2 huj hut hit; omega, hsw] at this
      rw [show u = i + V.length by clear hw1 hw2 hne hjn' hiI hijI hjI hjcI hicI htc htc2 huj hut hit; omega]
      exact this
    clear hw1 hw2 hne hjn' hiI hijI hjI hjcI hicI htc htc2 huj hut hit
    refine ⟨g, cap, rfl, two_done k5' (by omega) hh.2.1 (by omega) (by omega) hh.2.2.2.1 (by rw [hh.2.2.1]; exact hh.1), .inl rfl, kept_new (kept_new HK.out k4'.out (.inl rfl)) k6.out (.inl rfl)⟩

set_option maxRecDepth 4000 in
set_option maxHeartbeats 4000000 in
/-- Two in the place of one, no room. -/
theorem rep_grow {w : World} {g n cap i g2 vc : Nat} {R V Z : List (List Value)} (H : SRows w (.slice (some ⟨g, 0, none⟩) n cap) 32 2 R) (hV : SRows w (.slice (some ⟨g2, 0, none⟩) 2 vc) 32 2 V) (hone : ∀ x ∈ V, ∀ c ∈ x, c.oneCell' = true) (honeR : ∀ x ∈ R, ∀ c ∈ x, c.oneCell' = true) (hl : n ≤ 5000) (hin : i + 1 < n) (hc : cap < n + 1) (hZ : R.take i ++ (V ++ R.drop (i + 1)) = Z) :
    Calls Try.prog 40 #[.slice (some ⟨g, 0, none⟩) n cap, .int .i64 i, .int .i64 ((i + 1 : Nat) : Int), .slice (some ⟨g2, 0, none⟩) 2 vc] w (InsPost w g (n + 1) Z) := by
  obtain ⟨i0, hi0, hz0, hz1, hz2⟩ := info_parts info_ext
  obtain ⟨q1, q2, q3, q4⟩ := srows_open H
  obtain ⟨v1, v2⟩ := src_of hV
  obtain ⟨j, hj⟩ : ∃ j, j = i + 1 := ⟨_, rfl⟩
  obtain ⟨d, hd⟩ : ∃ d, d = n - j := ⟨_, rfl⟩
  obtain ⟨u, hu⟩ : ∃ u, u = i + 2 := ⟨_, rfl⟩
  obtain ⟨t, ht⟩ : ∃ t, t = n + 1 := ⟨_, rfl⟩
  obtain ⟨k, hk⟩ : ∃ k, k = t - i := ⟨_, rfl⟩
  have hnj : n - j = d := hd.symm
  rw [← hj] at hZ ⊢
  rw [← ht]
  have hVr : Rows w g2 32 (vc * 2) 2 V := (srows_open hV).2.2.2
  have hXl : (R.drop j).length = d := by rw [List.length_drop]; omega
  have q5 := srows_shut (g := g) (n := i) (R := R.take i) (by rw [List.length_take]; omega) (by omega) q3 (q4.take i)
  have HH : Hid (R.take i ++ (V ++ R.drop j) = Z ∧ V.length = 2 ∧ (R.drop j).length = d ∧ u = i + 2 ∧ t = u + d ∧ d = n - j ∧ (R.take i).length = i ∧ i + k = t) := ⟨hZ, v1, hXl, hu, by omega, hd, by rw [List.length_take]; omega, by omega⟩
  have HS : Hid (SRows w (.slice (some ⟨g, 0, none⟩) i cap) 32 2 (R.take i)) := q5
  have HR0 : Hid (Rows w g 32 (cap * 2) 2 R) := q4
  have HV0 : Hid (Rows w g2 32 (vc * 2) 2 V) := hVr
  have HI : Hid (Try.prog.info? 32 = some i0 ∧ i0.zero = some (.agg #[.int .i64 0, .int .i64 0]) ∧ i0.size = 2 ∧ i0.bytes = 16) := ⟨hi0, hz0, hz1, hz2⟩
  have HV : Hid (∀ x ∈ V, x.length = 2) := hV.rowlen
  have HV1 : Hid (∀ x ∈ V, ∀ c ∈ x, c.oneCell' = true) := hone
  have HM1 : Hid (V.length = Nat.min 2 (t - i)) := by
    show _ = _
    rw [v1]
    exact Eq.symm (Nat.min_eq_left (by omega))
  have HM2 : Hid ((R.drop j).length = Nat.min d (t - u)) := by
    show _ = _
    rw [hXl]
    exact Eq.symm (Nat.min_eq_left (by omega))
  have HX1 : Hid (∀ r ∈ R.drop j, r.length = 2) := fun r hr => q4.lens r (List.mem_of_mem_drop hr)
  have HX2 : Hid (∀ r ∈ R.drop j, ∀ c ∈ r, c.oneCell' = true) := fun r hr => honeR r (List.mem_of_mem_drop hr)
  have HA : Hid (0 < k ∧ cap < i + k ∧ i + k = t ∧ t ≤ 1000000) := ⟨by omega, by omega, by omega, by omega⟩
  have hw1 : IntKind.i64.wrap ((i : Int) + 2) = (u : Int) := by rw [IntKind.wrap_i64]; omega
  have hw2 : IntKind.i64.wrap ((u : Int) + (d : Int)) = (t : Int) := by rw [IntKind.wrap_i64]; omega
  have hw3 : IntKind.i64.wrap ((t : Int) - (i : Int)) = (k : Int) := by rw [IntKind.wrap_i64]; omega
  have hne : ¬ (i : Int) = (j : Int) := by omega
  have hjn' : ¬ (j : Int) = (n : Int) := by omega
  have hiI : (i : Int) ≤ (n : Int) := by omega
  have hijI : (i : Int) ≤ (j : Int) := by omega
  have hjI : (j : Int) ≤ (n : Int) := by omega
  have hjcI : (j : Int) ≤ (cap : Int) := by omega
  have hicI : (i : Int) ≤ (cap : Int) := by omega
  have htc : (cap : Int) < (t : Int) := by omega
  have hut : (u : Int) ≤ (t : Int) := by omega
  have hit : (i : Int) ≤ (t : Int) := by omega
  have hc1 : ¬ cap = i := by omega
  have hc3 : ¬ cap = j := by omega
  have HN : Hid (i < u ∧ u < t) := ⟨by omega, by omega⟩
  clear H hV hone honeR hZ q1 q2 q3 q4 v1 v2 hd hu ht hj hk hXl hl hin hc hVr q5 hi0 hz0 hz1 hz2
  go_enter Try.func40, Try.ntmps40
  go_wp2_with fail
  go_quiet (fail)
  obtain ⟨W, hW⟩ : ∃ W, W = w.drewN nq := ⟨_, rfl⟩
  have HSW : Hid (SRows W (.slice (some ⟨g, 0, none⟩) i cap) 32 2 (R.take i)) := by rw [hW]; exact HS
  have HVW : Hid (Rows W g2 32 (vc * 2) 2 V) := by rw [hW]; exact HV0
  have HRW : Hid (Rows W g 32 (cap * 2) 2 R) := by rw [hW]; exact HR0
  have HK : Hid (Kept (fun x => x = g) w W ∧ w.heap.size ≤ W.heap.size) := by rw [hW]; exact ⟨(Kept.refl _ w).drewN nq, Nat.le_refl _⟩
  rw [← hW]
  clear hW HS HV0 HR0
  go_wp2_with (first
    | (at_builtin; refine append_zerosK rfl _ _ 45 3 32 i0 _ 2 16 rfl Try.underlying45 Try.underlying3 HI.out.1 HI.out.2.1 HI.out.2.2.1 HI.out.2.2.2 rfl (by decide) (by decide) rfl k rfl HSW.out HH.out.2.2.2.2.2.2.1 HA.out.1 HA.out.2.1 t HA.out.2.2.1 HA.out.2.2.2 ?_; intro cap' w' F h1 h2 h3; have hne1 : ¬ (cap' = i) := (by have := h2.out; have := HN.out; clear hw1 hw2 hw3; omega); have hne2 : ¬ (cap' = u) := (by have := h2.out; have := HN.out; clear hw1 hw2 hw3; omega); have HD1 : Hid (i + V.length ≤ F.length) := (by show _ ≤ _; have := h2.out; have := HH.out; clear hw1 hw2 hw3; omega))
    | (refine copy_rows rfl _ _ 45 45 32 2 rfl Try.underlying45 size_ext (by decide) (p := i) V h1 HD1.out (some ⟨W.heap.size, i * 2, none⟩) (some ⟨g2, 0, none⟩) (t - i) (cap' - i) 2 vc rfl rfl HM1.out HV.out HV1.out (fun _ => ⟨rfl, _, rfl, read_head (HVW.out.kept h3.out (fun h : False => h)) (fun _ _ h => h) HV.out⟩) ?_; intro w2 k1 k2))
  have HD2 : Hid (u + (R.drop j).length ≤ (spl F i V).length) := by
    show _ ≤ _
    rw [spl_len HD1.out]
    have := h2.out
    have := HH.out
    clear hw1 hw2 hw3 hne hjn' hiI hijI hjI hjcI hicI htc hut hit
    omega
  have K2 : Kept (fun _ => False) W w2 := kept_new h3.out k2.out (.inr (Nat.le_refl _))
  have HR2 : Rows w2.drew g 32 (cap * 2) 2 R := HRW.out.kept K2.drew (fun h : False => h)
  have HP : Hid (∀ (j1 : Nat) v, (R.drop j).flatten[j1]? = some v → w2.drew.cell? ((⟨g, j * 2, none⟩ : Addr).add j1) = some v) :=
    HR2.read (by decide) (fun k r hk => by rw [List.getElem?_drop] at hk; exact hk) HX1.out
  have HK2 : Hid (Kept (fun _ => False) W w2) := K2
  clear HR2 K2
  go_region_law (refine step_copy_rows rfl _ _ 45 45 32 2 rfl Try.underlying45 size_ext (by decide) (p := u) (R.drop j) (show Hid (Rows w2.drew W.heap.size 32 (cap' * 2) 2 (spl F i V)) from k1) HD2.out (some ⟨W.heap.size, u * 2, none⟩) (some ⟨g, j * 2, none⟩) (t - u) (cap' - u) d (cap - j) (by simp [Act.eval, Act.put]) (by simp [Act.eval, Act.put]) HM2.out HX1.out HX2.out (fun _ => ⟨rfl, _, rfl, HP.out⟩) ?_; intro w3 k3 k4)
  all_goals
    go_wp2_with fail
    go_ret
    have h2' := h2.out
    have hh := HH.out
    have k4' : Kept (fun x => x = W.heap.size) w2 w3 := k4.out.undrew
    clear hw1 hw2 hw3 hne hjn' hiI hijI hjI hjcI hicI htc hut hit
    refine ⟨W.heap.size, cap', rfl, two_done k3.out (by omega) h2'.1 (by omega) h2'.2.2.1 h2'.2.2.2 (by rw [h2'.2.1]; exact hh.1), .inr HK.out.2, HK.out.1.trans (kept_new HK2.out k4' (.inr (Nat.le_refl _))) (fun _ h => h.elim)⟩

theorem ins_any {w : World} {g n cap g2 i : Nat} {R Z : List (List Value)} {r : List Value} (H : SRows w (.slice (some ⟨g, 0, none⟩) n cap) 32 2 R) (V : SRows w (.slice (some ⟨g2, 0, none⟩) 1 1) 32 2 [r]) (hg : g2 ≠ g) (hr : ∀ c ∈ r, c.oneCell' = true) (hone : ∀ x ∈ R, ∀ c ∈ x, c.oneCell' = true) (hl : n ≤ 5000) (hi : i ≤ n) (hZ : R.take i ++ (r :: R.drop i) = Z) :
    Calls Try.prog 43 #[.slice (some ⟨g, 0, none⟩) n cap, .int .i64 i, .slice (some ⟨g2, 0, none⟩) 1 1] w (InsPost w g (n + 1) Z) := by
  by_cases h1 : i = n
  · subst h1
    have hlen := (srows_open H).1
    refine ins_end H V hr hl ?_
    rw [List.take_of_length_le (by omega), List.drop_eq_nil_of_le (by omega)] at hZ
    exact hZ
  · by_cases h2 : cap < n + 1
    · exact ins_grow H V hr hone hl (by omega) h2 hZ
    · exact ins_room H V hg hr hone hl (by omega) (by omega) hZ
set_option maxRecDepth 4000 in
set_option maxHeartbeats 4000000 in
/-- Nothing is replaced. -/
theorem rep_same {w : World} {g n cap g2 i : Nat} {R Z : List (List Value)} {r : List Value} (H : SRows w (.slice (some ⟨g, 0, none⟩) n cap) 32 2 R) (V : SRows w (.slice (some ⟨g2, 0, none⟩) 1 1) 32 2 [r]) (hg : g2 ≠ g) (hr : ∀ c ∈ r, c.oneCell' = true) (hone : ∀ x ∈ R, ∀ c ∈ x, c.oneCell' = true) (hl : n ≤ 5000) (hi : i ≤ n) (hZ : R.take i ++ (r :: R.drop i) = Z) :
    Calls Try.prog 40 #[.slice (some ⟨g, 0, none⟩) n cap, .int .i64 i, .int .i64 i, .slice (some ⟨g2, 0, none⟩) 1 1] w (InsPost w g (n + 1) Z) := by
  have c := ins_any H V hg hr hone hl hi hZ
  have hcap := (srows_open H).2.1
  have hiI : (i : Int) ≤ (n : Int) := by omega
  have hcI : (i : Int) ≤ (cap : Int) := by omega
  clear H V hr hone hZ hcap
  by_cases hci : cap = i
  case' pos => subst hci
  all_goals
    go_enter Try.func40, Try.ntmps40
    go_wp2_with fail
    refine c.mono ?_
    rintro e w1 ⟨g', cap', rfl, h1, h2, h3⟩
    have H1 : Hid (SRows w1 (.slice (some ⟨g', 0, none⟩) (n + 1) cap') 32 2 Z) := h1
    have H2 : Hid ((g' = g ∨ w.heap.size ≤ g') ∧ Kept (fun y => y = g) w w1) := ⟨h2, h3⟩
    clear h1 h2 h3 c
    go_wp2_with fail
    go_ret
    exact ⟨g', cap', rfl, H1.out, H2.out.1, H2.out.2⟩
/-- As a map's cut calls it. -/
theorem rep_cut {w : World} {g n cap i m vc : Nat} {va : Option Addr} {R V Z : List (List Value)} (H : SRows w (.slice (some ⟨g, 0, none⟩) n cap) 32 2 R) (hV : SRows w (.slice va m vc) 32 2 V) (hva : ∀ x, va = some x → x.block ≠ g) (hone : ∀ x ∈ V, ∀ c ∈ x, c.oneCell' = true) (honeR : ∀ x ∈ R, ∀ c ∈ x, c.oneCell' = true) (hl : n ≤ 5000) (hm : m ≤ 2) (hi : i < n) (hZ : R.take i ++ (V ++ R.drop (i + 1)) = Z) :
    Calls Try.prog 40 #[.slice (some ⟨g, 0, none⟩) n cap, .int .i64 i, .int .i64 ((i + 1 : Nat) : Int), .slice va m vc] w (InsPost w g Z.length Z) := by
  have hlen := (srows_open H).1
  have hvl := (src_of hV).1
  have hZl : Z.length = i + m + (n - (i + 1)) := by
    rw [← hZ, List.length_append, List.length_append, List.length_take, List.length_drop]
    omega
  by_cases h1 : i + 1 = n
  · have e := rep_end (i := i) (Z := Z) H hV hone hl hm hi (by rw [List.drop_eq_nil_of_le (by omega), List.append_nil] at hZ; exact hZ)
    rw [show Z.length = i + m by omega]
    rw [← h1] at e ⊢
    exact e
  · by_cases h2 : m = 2
    · subst h2
      obtain ⟨g2, rfl, _, _⟩ := (src_of hV).2 (by omega)
      rw [show Z.length = n + 1 by omega]
      by_cases h3 : cap < n + 1
      · exact rep_grow H hV hone honeR hl (by omega) h3 hZ
      · exact rep_room H hV (fun e => hva _ rfl e) hone honeR hl (by omega) (by omega) hZ
    · rw [hZl]
      exact rep_less H hV hone honeR hl (by omega) (by omega) (by omega) hZ
/-- As a map's fill calls it. -/
theorem rep_fill {w : World} {g n cap i j g2 : Nat} {R Z : List (List Value)} {r : List Value} (H : SRows w (.slice (some ⟨g, 0, none⟩) n cap) 32 2 R) (V : SRows w (.slice (some ⟨g2, 0, none⟩) 1 1) 32 2 [r]) (hg : g2 ≠ g) (hr : ∀ c ∈ r, c.oneCell' = true) (hone : ∀ x ∈ R, ∀ c ∈ x, c.oneCell' = true) (hl : n ≤ 5000) (hij : i ≤ j) (hjn : j ≤ n) (hZ : R.take i ++ (r :: R.drop j) = Z) :
    Calls Try.prog 40 #[.slice (some ⟨g, 0, none⟩) n cap, .int .i64 i, .int .i64 j, .slice (some ⟨g2, 0, none⟩) 1 1] w (InsPost w g Z.length Z) := by
  have hlen := (srows_open H).1
  have hZl : Z.length = i + 1 + (n - j) := by
    rw [← hZ, List.length_append, List.length_cons, List.length_take, List.length_drop]
    omega
  by_cases h0 : i = j
  · subst h0
    rw [show Z.length = n + 1 by omega]
    exact rep_same H V hg hr hone hl hjn hZ
  · by_cases h1 : j = n
    · subst h1
      rw [show Z.length = i + 1 by omega]
      exact rep_end H V (one_row hr rfl) hl (by omega) (by omega) (by rw [List.drop_eq_nil_of_le (by omega)] at hZ; exact hZ)
    · rw [hZl]
      exact rep_less H V (one_row hr rfl) hone hl (by omega) (by omega) (by omega) hZ
end Go.Proofs.Ytjnobdgigeejnaa
