/-
  Extents as rows of two cells; the contract of slices.Insert, as a map's fill calls it.
-/
import Derived.Test.YtjnobdgigeejnaaRows
import Derived.Test.YtjnobdgigeejnaaERow
import Derived.Test.YtjnobdgigeejnaaEPure
namespace Go.Proofs.Ytjnobdgigeejnaa
open Go.RowKit

/-- An extent's cells. -/
def ec (h : Nat × Nat) : List Value := [.int .i64 h.1, .int .i64 h.2]
theorem ec_len (h : Nat × Nat) : (ec h).length = 2 := rfl
theorem ecs_len (hs : List (Nat × Nat)) : ∀ r ∈ hs.map ec, r.length = 2 := by
  intro r hr
  obtain ⟨h, _, rfl⟩ := List.mem_map.1 hr
  rfl
theorem ecs_one (hs : List (Nat × Nat)) : ∀ r ∈ hs.map ec, ∀ c ∈ r, c.oneCell' = true := by
  intro r hr c hc
  obtain ⟨h, _, rfl⟩ := List.mem_map.1 hr
  simp only [ec, List.mem_cons, List.not_mem_nil, or_false] at hc
  rcases hc with rfl | rfl <;> rfl
theorem info_ext : (Try.prog.info? 32).map (fun i => (i.zero, i.size, i.bytes)) = some (some (.agg #[.int .i64 0, .int .i64 0]), 2, 16) := by kernel_rfl
theorem size_ext : (Try.prog.info? 32).map (·.size) = some 2 := by kernel_rfl
theorem sizeOf_ext (w : World) : (Go.sizeOf 32).run Try.prog w = .ok 2 w := by
  obtain ⟨i, hi, hz, hs, hb⟩ := info_parts info_ext
  simp [Go.sizeOf, typeInfo, hi, hs]
theorem zero_ext (w : World) : (zeroValue 32).run Try.prog w = .ok (.agg #[.int .i64 0, .int .i64 0]) w := by
  obtain ⟨i, hi, hz, hs, hb⟩ := info_parts info_ext
  simp [zeroValue, typeInfo, hi, hz]

theorem rows_shape {w : World} {b : Nat} {t : TypeId} {tot sz : Nat} {R : List (List Value)} (h : Rows w b t tot sz R) : w.shape? b = some (t, tot) := by
  obtain ⟨cur, h1, h2, _⟩ := h
  simp [World.shape?, h1, h2]
theorem rows_frozen {w : World} {b : Nat} {t : TypeId} {tot sz : Nat} {R : List (List Value)} (h : Rows w b t tot sz R) (k : Nat) : w.frozen? ⟨b, k, none⟩ = false := by
  obtain ⟨cur, h1, _⟩ := h
  exact frozen_of_row w b k cur t h1
theorem overlaps_apart {w : World} {a b la ca lb cb oa ob ta tb za zb : Nat} {tA tB : TypeId} {A B : List (List Value)} (hA : Rows w a tA ta za A) (hB : Rows w b tB tb zb B) (hn : a ≠ b) (h0 : tb ≠ 0) :
    (callFunc 44 #[.slice (some ⟨a, oa, none⟩) la ca, .slice (some ⟨b, ob, none⟩) lb cb]).run Try.prog w = .ok (.value (.bool false)) w := by
  rw [run_callFunc_extern Try.func44 (by kernel_rfl) (by kernel_rfl) (by kernel_rfl) (e := Extern.SlicesOverlaps.overlaps #[45, 45] #[4]) (by kernel_rfl),
    Lib.run_overlaps_apart w 45 4 32 Try.underlying45 2 sizeOf_ext ⟨a, oa, none⟩ ⟨b, ob, none⟩ la ca lb cb hn tA tB ta tb (rows_shape hA) (rows_shape hB) h0 (rows_frozen hA oa) (rows_frozen hA ta)]
  rfl

/-- What a slice of extents is whose block is known. -/
theorem srows_open {w : World} {g n cap : Nat} {t : TypeId} {R : List (List Value)} (h : SRows w (.slice (some ⟨g, 0, none⟩) n cap) t 2 R) : R.length = n ∧ n ≤ cap ∧ cap ≤ maxLen ∧ Rows w g t (cap * 2) 2 R := by
  rcases h with ⟨hq, _⟩ | ⟨g', cap', hq, q1, q2, q3⟩
  · simp at hq
  · simp only [Value.slice.injEq, Option.some.injEq, Addr.mk.injEq, and_true] at hq
    obtain ⟨rfl, rfl, rfl⟩ := hq
    exact ⟨rfl, q1, q2, q3⟩
theorem srows_shut {w : World} {g n cap : Nat} {t : TypeId} {R : List (List Value)} (h1 : R.length = n) (h2 : n ≤ cap) (h3 : cap ≤ maxLen) (h : Rows w g t (cap * 2) 2 R) : SRows w (.slice (some ⟨g, 0, none⟩) n cap) t 2 R := by
  subst h1
  exact .inr ⟨g, cap, rfl, h2, h3, h⟩

theorem two_done {w : World} {g cap i q n : Nat} {t : TypeId} {F V X Z : List (List Value)} (h : Rows w g t (cap * 2) 2 (spl (spl F i V) q X)) (hq : q = i + V.length) (hF : F.length = cap) (hn : q + X.length = n) (hc : n ≤ cap) (hm : cap ≤ maxLen) (hZ : F.take i ++ (V ++ X) = Z) : SRows w (.slice (some ⟨g, 0, none⟩) n cap) t 2 Z := by
  subst hq hn hF
  have e := spl_two (L := F) (i := i) (V := V) (X := X) hc
  rw [hZ] at e
  have := h.take (i + V.length + X.length)
  rw [e] at this
  refine srows_shut ?_ hc hm this
  rw [← e, List.length_take, spl_len (by rw [spl_len (by omega)]; exact hc), spl_len (by omega)]
  omega
theorem read_head {w : World} {b : Nat} {t : TypeId} {tot : Nat} {F X : List (List Value)} (h : Rows w b t tot 2 F) (hX : ∀ (k : Nat) r, X[k]? = some r → F[k]? = some r) (hl : ∀ r ∈ X, r.length = 2) : ∀ (j : Nat) v, X.flatten[j]? = some v → w.cell? ((⟨b, 0, none⟩ : Addr).add j) = some v := by
  have := h.read (p := 0) (X := X) (by decide) (fun k r hk => by rw [Nat.zero_add]; exact hX k r hk) hl
  simpa using this
theorem kept_new {F : Nat → Prop} {a b c : World} {g : Nat} (h : Kept F a b) (k : Kept (fun x => x = g) b c) (hg : F g ∨ a.heap.size ≤ g) : Kept F a c := h.trans k (fun x hx => by
  have e : x = g := hx
  rw [e]
  exact hg)
theorem Kept.undrew {F : Nat → Prop} {w w' : World} (h : Kept F w.drew w') : Kept F w w' := ⟨h.os, h.tape, h.output, h.size, h.block⟩
def InsPost (w : World) (g n : Nat) (Z : List (List Value)) (e : Ending) (w' : World) : Prop :=
  ∃ g' cap', e = .returned (.slice (some ⟨g', 0, none⟩) n cap') ∧ SRows w' (.slice (some ⟨g', 0, none⟩) n cap') 32 2 Z ∧ (g' = g ∨ w.heap.size ≤ g') ∧ Kept (fun y => y = g) w w'
theorem one_row {R : List (List Value)} {r : List Value} (h : ∀ c ∈ r, c.oneCell' = true) (hR : R = [r]) : ∀ x ∈ R, ∀ c ∈ x, c.oneCell' = true := by
  subst hR
  intro x hx
  simp at hx
  subst hx
  exact h

set_option maxRecDepth 4000 in
set_option maxHeartbeats 4000000 in
/-- At the end. -/
theorem ins_end {w : World} {g n cap g2 : Nat} {R Z : List (List Value)} {r : List Value} (H : SRows w (.slice (some ⟨g, 0, none⟩) n cap) 32 2 R) (V : SRows w (.slice (some ⟨g2, 0, none⟩) 1 1) 32 2 [r]) (hr : ∀ c ∈ r, c.oneCell' = true) (hl : n ≤ 5000) (hZ : R ++ [r] = Z) :
    Calls Try.prog 43 #[.slice (some ⟨g, 0, none⟩) n cap, .int .i64 n, .slice (some ⟨g2, 0, none⟩) 1 1] w (InsPost w g (n + 1) Z) := by
  obtain ⟨i0, hi0, hz0, hz1, hz2⟩ := info_parts info_ext
  have HH : Hid (SRows w (.slice (some ⟨g, 0, none⟩) n cap) 32 2 R ∧ R ++ [r] = Z) := ⟨H, hZ⟩
  have HV : Hid (SRows w (.slice (some ⟨g2, 0, none⟩) 1 1) 32 2 [r] ∧ ∀ c ∈ r, c.oneCell' = true) := ⟨V, hr⟩
  have HI : Hid (Try.prog.info? 32 = some i0 ∧ i0.zero = some (.agg #[.int .i64 0, .int .i64 0]) ∧ i0.size = 2 ∧ i0.bytes = 16) := ⟨hi0, hz0, hz1, hz2⟩
  have hcap := (srows_open H).2.1
  have HL : Hid (R.length = n) := (srows_open H).1
  clear H V hi0 hz0 hz1 hz2 hZ hr
  by_cases hc : cap = n
  case' pos => subst hc
  all_goals
    go_enter Try.func43, Try.ntmps43
    go_wp2_with (at_builtin; refine append_rowsK rfl _ _ 45 32 i0 _ 2 16 rfl Try.underlying45 HI.out.1 HI.out.2.1 HI.out.2.2.1 HI.out.2.2.2 rfl (by decide) (by decide) rfl rfl HH.out.1 HV.out.1 HL.out (one_row HV.out.2 rfl) _ rfl Z HH.out.2 (show _ ≤ _ by clear HH HV HI HL; simp only [List.length_singleton]; omega) ?_; intro g' cap' w' h1 h2 h3)
    go_ret
    exact ⟨g', cap', rfl, h1.out, h2.out.imp (·.1) (·.1), h3.out⟩

set_option maxRecDepth 4000 in
set_option maxHeartbeats 4000000 in
/-- In the midst, no room. -/
theorem ins_grow {w : World} {g n cap g2 i : Nat} {R Z : List (List Value)} {r : List Value} (H : SRows w (.slice (some ⟨g, 0, none⟩) n cap) 32 2 R) (V : SRows w (.slice (some ⟨g2, 0, none⟩) 1 1) 32 2 [r]) (hr : ∀ c ∈ r, c.oneCell' = true) (hone : ∀ x ∈ R, ∀ c ∈ x, c.oneCell' = true) (hl : n ≤ 5000) (hi : i < n) (hc : cap < n + 1) (hZ : R.take i ++ (r :: R.drop i) = Z) :
    Calls Try.prog 43 #[.slice (some ⟨g, 0, none⟩) n cap, .int .i64 i, .slice (some ⟨g2, 0, none⟩) 1 1] w (InsPost w g (n + 1) Z) := by
  obtain ⟨i0, hi0, hz0, hz1, hz2⟩ := info_parts info_ext
  obtain ⟨q1, q2, q3, q4⟩ := srows_open H
  obtain rfl : cap = n := by omega
  have q5 := srows_shut (g := g) (n := i) (R := R.take i) (by rw [List.length_take]; omega) (by omega) q3 (q4.take i)
  have HH : Hid (SRows w (.slice (some ⟨g, 0, none⟩) i cap) 32 2 (R.take i) ∧ R.take i ++ (r :: R.drop i) = Z ∧ (R.take i).length = i ∧ R.length = cap ∧ Rows w g 32 (cap * 2) 2 R ∧ ∀ x ∈ R, ∀ c ∈ x, c.oneCell' = true) := ⟨q5, hZ, by rw [List.length_take]; omega, q1, q4, hone⟩
  have HV : Hid (SRows w (.slice (some ⟨g2, 0, none⟩) 1 1) 32 2 [r] ∧ ∀ c ∈ r, c.oneCell' = true) := ⟨V, hr⟩
  have HI : Hid (Try.prog.info? 32 = some i0 ∧ i0.zero = some (.agg #[.int .i64 0, .int .i64 0]) ∧ i0.size = 2 ∧ i0.bytes = 16) := ⟨hi0, hz0, hz1, hz2⟩
  have hcap : cap ≤ 5000 := hl
  have HM1 : Hid (1 = Nat.min 1 (cap + 1 - i)) := Eq.symm (Nat.min_eq_left (by omega))
  have HM2 : Hid ((R.drop i).length = Nat.min (cap - i) (cap + 1 - (i + 1)) ∧ (R.drop i).length = cap - i) := ⟨by rw [List.length_drop, q1]; exact Eq.symm (Nat.min_eq_left (by omega)), by rw [List.length_drop, q1]⟩
  have hin : ¬ (i : Int) = (cap : Int) := by omega
  have hrm : (cap : Int) < (cap : Int) + 1 := by omega
  have hw1 : IntKind.i64.wrap ((cap : Int) + 1) = (cap : Int) + 1 := by rw [IntKind.wrap_i64]; omega
  have hw2 : IntKind.i64.wrap ((cap : Int) + 1 - (i : Int)) = ((cap + 1 - i : Nat) : Int) := by rw [IntKind.wrap_i64]; omega
  have hw3 : IntKind.i64.wrap ((i : Int) + 1) = (i : Int) + 1 := by rw [IntKind.wrap_i64]; omega
  have hb1 : (0 : Int) ≤ (i : Int) + 1 := by clear hw1 hw2 hw3; omega
  have hb2 : (i : Int) + 1 ≤ (cap : Int) + 1 := by clear hw1 hw2 hw3; omega
  have hb3 : (i : Int) ≤ (cap : Int) := by clear hw1 hw2 hw3; omega
  have hb4 : ¬ cap = i := by omega
  have htn : ((i : Int) + 1).toNat = i + 1 := by clear hw1 hw2 hw3; omega
  clear H V hi0 hz0 hz1 hz2 hZ hr q1 q2 q3 q4 q5 hone hc
  go_enter Try.func43, Try.ntmps43
  go_wp2_with (first
    | (at_builtin; refine append_zerosK rfl _ _ 45 3 32 i0 _ 2 16 rfl Try.underlying45 Try.underlying3 HI.out.1 HI.out.2.1 HI.out.2.2.1 HI.out.2.2.2 rfl (by decide) (by decide) rfl (cap + 1 - i) rfl HH.out.1 HH.out.2.2.1 (show _ < _ by clear hw1 hw2 hw3; omega) (show _ < _ by clear hw1 hw2 hw3; omega) (cap + 1) (show _ = _ by clear hw1 hw2 hw3; omega) (show _ ≤ _ by clear hw1 hw2 hw3; omega) ?_; intro cap' w' F h1 h2 h3; have hne1 : ¬ (cap' = i) := (by have := h2.out; clear hw1 hw2 hw3; omega); have hne2 : ¬ (cap' = i + 1) := (by have := h2.out; clear hw1 hw2 hw3; omega))
    | (refine copy_rows rfl _ _ 45 45 32 2 rfl Try.underlying45 size_ext (by decide) (p := i) [r] h1 (show _ ≤ _ by have := h2.out; simp only [List.length_singleton]; clear hw1 hw2 hw3; omega) _ _ _ _ _ _ rfl rfl HM1.out HV.out.1.rowlen (one_row HV.out.2 rfl) (fun _ => ⟨rfl, _, rfl, read_head (((srows_open HV.out.1).2.2.2).kept h3.out (fun h => h)) (fun _ _ h => h) HV.out.1.rowlen⟩) ?_; intro w2 k1 k2))
  have HD : Hid (i + 1 + (R.drop i).length ≤ (spl F i [r]).length) := by
    have := h2.out
    have := HM2.out
    show _ ≤ _
    rw [spl_len (by simp only [List.length_singleton]; clear hw1 hw2 hw3 hb1 hb2 hb3 htn; omega)]
    clear hw1 hw2 hw3 hb1 hb2 hb3 htn
    omega
  have K2 : Kept (fun _ => False) w w2 := kept_new h3.out k2.out (.inr (Nat.le_refl _))
  have HR2 : Rows w2.drew g 32 (cap * 2) 2 R := HH.out.2.2.2.2.1.kept K2.drew (fun h : False => h)
  have HP : Hid (∀ (j : Nat) v, (R.drop i).flatten[j]? = some v → w2.drew.cell? ((⟨g, i * 2, none⟩ : Addr).add j) = some v) :=
    HR2.read (by decide) (fun k r hk => by rw [List.getElem?_drop] at hk; exact hk) (fun r hr => HR2.lens r (List.mem_of_mem_drop hr))
  have HL : Hid (∀ r ∈ R.drop i, r.length = 2) := fun r hr => HR2.lens r (List.mem_of_mem_drop hr)
  have HO : Hid (∀ r ∈ R.drop i, ∀ c ∈ r, c.oneCell' = true) := fun r hr => HH.out.2.2.2.2.2 r (List.mem_of_mem_drop hr)
  clear HR2
  go_region_law (refine step_copy_rows rfl _ _ 45 45 32 2 rfl Try.underlying45 size_ext (by decide) (p := i + 1) (R.drop i) (show Hid (Rows w2.drew w.heap.size 32 (cap' * 2) 2 (spl F i [r])) from k1) HD.out (some ⟨w.heap.size, (i + 1) * 2, none⟩) (some ⟨g, i * 2, none⟩) (cap + 1 - (i + 1)) (cap' - (i + 1)) (cap - i) (cap - i) (by simp [Act.eval, Act.put]) (by simp [Act.eval, Act.put]) HM2.out.1 HL.out HO.out (fun _ => ⟨rfl, _, rfl, HP.out⟩) ?_; intro w3 k3 k4)
  all_goals
    go_wp2_with fail
    go_ret
    have h2' := h2.out
    have k4' : Kept (fun x => x = w.heap.size) w2 w3 := k4.out.undrew
    have := HM2.out.2
    refine ⟨w.heap.size, cap', rfl, two_done k3.out rfl h2'.1 (by clear hw1 hw2 hw3 hb1 hb2 hb3 htn; omega) h2'.2.2.1 h2'.2.2.2 (by rw [h2'.2.1]; exact HH.out.2.1), .inr (Nat.le_refl _), (kept_new K2 k4' (.inr (Nat.le_refl _))).mono (fun _ h => h.elim)⟩

set_option maxRecDepth 4000 in
set_option maxHeartbeats 4000000 in
/-- In the midst, with room. -/
theorem ins_room {w : World} {g n cap g2 i : Nat} {R Z : List (List Value)} {r : List Value} (H : SRows w (.slice (some ⟨g, 0, none⟩) n cap) 32 2 R) (V : SRows w (.slice (some ⟨g2, 0, none⟩) 1 1) 32 2 [r]) (hg : g2 ≠ g) (hr : ∀ c ∈ r, c.oneCell' = true) (hone : ∀ x ∈ R, ∀ c ∈ x, c.oneCell' = true) (hl : n ≤ 5000) (hi : i < n) (hc : n + 1 ≤ cap) (hZ : R.take i ++ (r :: R.drop i) = Z) :
    Calls Try.prog 43 #[.slice (some ⟨g, 0, none⟩) n cap, .int .i64 i, .slice (some ⟨g2, 0, none⟩) 1 1] w (InsPost w g (n + 1) Z) := by
  obtain ⟨q1, q2, q3, q4⟩ := srows_open H
  obtain ⟨F, f1, f2, f3⟩ := q4.full (by omega)
  have hov : ∀ (oa ob la ca lb cb : Nat), (callFunc 44 #[.slice (some ⟨g2, oa, none⟩) la ca, .slice (some ⟨g, ob, none⟩) lb cb]).run Try.prog w = .ok (.value (.bool false)) w := fun oa ob la ca lb cb => overlaps_apart (srows_open V).2.2.2 q4 hg (by omega)
  have hF : ∀ k, k < n → F[k]? = R[k]? := fun k hk => by
    have : (F.take R.length)[k]? = R[k]? := by rw [f3]
    rw [List.getElem?_take, if_pos (by omega)] at this
    exact this
  have hdr : ∀ (k : Nat) x, (R.drop i)[k]? = some x → F[i + k]? = some x := fun k x hk => by
    rw [List.getElem?_drop] at hk
    have hlt := (List.getElem?_eq_some_iff.1 hk).1
    rw [hF _ (by omega)]
    exact hk
  have HH : Hid (R.take i ++ (r :: R.drop i) = Z ∧ F.length = cap ∧ F.take i = R.take i ∧ cap ≤ maxLen) := ⟨hZ, f1, by
    rw [← f3, List.take_take, Nat.min_eq_left (by omega)], q3⟩
  have HF : Hid (Rows w g 32 (cap * 2) 2 F) := f2
  have HV : Hid (SRows w (.slice (some ⟨g2, 0, none⟩) 1 1) 32 2 [r] ∧ ∀ c ∈ r, c.oneCell' = true) := ⟨V, hr⟩
  have HG : Hid (g2 ≠ g) := hg
  have HM1 : Hid (1 = Nat.min 1 (n + 1 - i)) := Eq.symm (Nat.min_eq_left (by omega))
  have HM2 : Hid ((R.drop i).length = Nat.min (n + 1 - i) (n + 1 - (i + 1)) ∧ (R.drop i).length = n - i) := ⟨by rw [List.length_drop, q1]; exact Eq.symm ((Nat.min_eq_right (by omega)).trans (by omega)), by rw [List.length_drop, q1]⟩
  have HP : Hid (∀ (j : Nat) v, (R.drop i).flatten[j]? = some v → w.drew.cell? ((⟨g, i * 2, none⟩ : Addr).add j) = some v) :=
    f2.read (by decide) hdr (fun r hr => q4.lens r (List.mem_of_mem_drop hr))
  have HL : Hid (∀ r ∈ R.drop i, r.length = 2) := fun r hr => q4.lens r (List.mem_of_mem_drop hr)
  have HO : Hid (∀ r ∈ R.drop i, ∀ c ∈ r, c.oneCell' = true) := fun r hr => hone r (List.mem_of_mem_drop hr)
  have HD : Hid (i + 1 + (R.drop i).length ≤ F.length) := by
    show _ ≤ _
    rw [List.length_drop]
    omega
  have hin : ¬ (i : Int) = (n : Int) := by omega
  have hrm : ¬ (cap : Int) < (n : Int) + 1 := by omega
  have hrm2 : (n : Int) + 1 ≤ (cap : Int) := by omega
  have hn1 : ¬ cap = i := by omega
  have hn2 : ¬ cap = i + 1 := by omega
  have hb1 : (0 : Int) ≤ (i : Int) + 1 := by omega
  have hb2 : (i : Int) + 1 ≤ (n : Int) + 1 := by omega
  have hb3 : (i : Int) ≤ (n : Int) + 1 := by omega
  have hb4 : (0 : Int) ≤ (n : Int) + 1 := by omega
  have htn : ((i : Int) + 1).toNat = i + 1 := by omega
  have htn2 : ((n : Int) + 1).toNat = n + 1 := by omega
  have hw1 : IntKind.i64.wrap ((n : Int) + 1) = (n : Int) + 1 := by rw [IntKind.wrap_i64]; omega
  have hw3 : IntKind.i64.wrap ((i : Int) + 1) = (i : Int) + 1 := by rw [IntKind.wrap_i64]; omega
  clear H V hZ hr q1 q2 q3 q4 hone f1 f2 f3 hF hdr hg hc
  go_enter Try.func43, Try.ntmps43
  go_wp2_with (simp only [hov])
  clear hov
  go_region_law (refine step_copy_rows rfl _ _ 45 45 32 2 rfl Try.underlying45 size_ext (by decide) (p := i + 1) (R.drop i) (show Hid (Rows w.drew g 32 (cap * 2) 2 F) from HF) HD.out (some ⟨g, (i + 1) * 2, none⟩) (some ⟨g, i * 2, none⟩) (n + 1 - (i + 1)) (cap - (i + 1)) (n + 1 - i) (cap - i) (by simp [Act.eval, Act.put]) (by simp [Act.eval, Act.put]) HM2.out.1 HL.out HO.out (fun _ => ⟨rfl, _, rfl, HP.out⟩) ?_; intro w3 k3 k4)
  all_goals
    have k4' : Hid (Kept (fun x => x = g) w w3) := k4.out.undrew
    have HD2 : Hid (i + [r].length ≤ (spl F (i + 1) (R.drop i)).length) := by
      have := HD.out
      show _ ≤ _
      rw [spl_len HD.out]
      simp only [List.length_singleton]
      clear hw1 hw3 hb1 hb2 hb3 hb4 htn htn2 hrm hrm2 hin
      omega
    have HVR : Hid (Rows w3 g2 32 2 2 [r]) := ((srows_open HV.out.1).2.2.2).kept k4'.out HG.out
    go_wp2_with (refine copy_rows rfl _ _ 45 45 32 2 rfl Try.underlying45 size_ext (by decide) (p := i) [r] k3 HD2.out (some ⟨g, i * 2, none⟩) (some ⟨g2, 0, none⟩) (n + 1 - i) (cap - i) 1 1 rfl rfl HM1.out HV.out.1.rowlen (one_row HV.out.2 rfl) (fun _ => ⟨rfl, _, rfl, read_head HVR.out (fun _ _ h => h) HV.out.1.rowlen⟩) ?_; intro w4 k5 k6)
    go_ret
    have hh := HH.out
    have hd := HM2.out.2
    have hsw := spl_swap (L := F) (i := i) (V := [r]) (X := R.drop i) (HD.out)
    have k5' : Rows w4 g 32 (cap * 2) 2 (spl (spl F i [r]) (i + 1) (R.drop i)) := by
      rw [show i + 1 = i + [r].length from rfl, ← hsw]
      exact k5.out
    refine ⟨g, cap, rfl, two_done k5' rfl hh.2.1 (by clear hw1 hw3 hb1 hb2 hb3 hb4 htn htn2 hrm hrm2 hin; omega) (by clear hw1 hw3 hb1 hb2 hb3 hb4 htn htn2 hin; omega) hh.2.2.2 (by rw [hh.2.2.1]; exact hh.1), .inl rfl, kept_new k4'.out k6.out (.inl rfl)⟩
end Go.Proofs.Ytjnobdgigeejnaa
