/-
  The walk of law 6's CellBytes: the bytes of any row, and the row of any bytes; what is put is taken as it was.
-/
import Derived.Test.YtjkkkdehmgfmeaaDoorKAwake
import Derived.Test.YtjkkkdehmgfmeaaDoorKRefTakeRow
namespace Go.Proofs.YtjkkkdehmgfmeaaDoor
open Go.RowKit

theorem tkG_len : ∀ (g : Nat) (l : List UInt8) (u : Nat) (d : List Cl) (x : List Cl × Nat), tkG g l u d = some x → x.1.length = d.length + g
  | 0, _, _, d, x, h => by simp only [tkG, Option.some.injEq] at h; subst h; rfl
  | g + 1, l, u, d, x, h => by
    simp only [tkG] at h
    split at h
    · cases h
    · have := tkG_len g l _ _ x h
      simp at this
      omega
theorem takeR_len {l : List UInt8} {x : List Cl × Nat} (h : takeR l = some x) : x.1.length ≤ 255 := by
  cases l with
  | nil => cases h
  | cons k r =>
    have := tkG_len _ _ _ _ _ h
    have hk := k.toNat_lt
    simp at this
    omega
/-- What Take answers: the row, how many bytes, and the code. -/
def tk3 (l : List UInt8) : List Cl × Int × Int := match takeR l with
  | none => ([], 0, 20)
  | some x => (x.1, x.2, 0)
theorem tk3_len (l : List UInt8) : (tk3 l).1.length ≤ 255 := by
  unfold tk3
  cases h : takeR l with
  | none => simp
  | some x => exact takeR_len h
theorem take3 {w w' : World} {l : List UInt8} {e : Ending} (h : TakeAns w l e w') : Below w.heap.size w w' ∧ ∃ v, e = .returned (.tuple #[v, .int .i64 (tk3 l).2.1, .int .i64 (tk3 l).2.2]) ∧ RowIs w' v (tk3 l).1 := by
  unfold TakeAns at h
  unfold tk3
  refine ⟨h.1, ?_⟩
  have h2 := h.2
  cases ht : takeR l with
  | none =>
    rw [ht] at h2
    exact ⟨_, h2, none, 0, rfl, fun h => absurd rfl h⟩
  | some x =>
    rw [ht] at h2
    exact h2
/-- What stays between the calls of CellBytes. -/
structure By (w w' : World) (v : Value) (r : List Cl) : Prop where
  row : RowIs w' v r
  bel : Below w.heap.size w w'
  env : Env w'
theorem By.over {w w1 w2 : World} {v : Value} {r : List Cl} (h : By w w1 v r) (hb : Below w1.heap.size w1 w2) : By w w2 v r :=
  ⟨h.row.below hb, h.bel.trans (hb.mono h.bel.size), h.env.below hb⟩
theorem light_len {r : List Cl} (h : lightC r = true) : r.length ≤ 20 := by
  unfold lightC at h
  simp at h
  exact h.1
/-- What Put answers of a row of few cells, and what Take says of it and of what stands behind. -/
theorem put_take {r : List Cl} (hl : r.length ≤ 20) (hok : ∀ (i : Nat) (c : Cl), r[i]? = some c → okC c) (s : ByteArray) :
    (putA r).1.size ≤ 1000 ∧ ((putA r).2 = 1 ∨ ((putA r).2 = 0 ∧ tk3 ((putA r).1 ++ s).data.toList = (r, ((putA r).1.size : Int), 0))) := by
  cases hp : putOk r with
  | false =>
    have : putA r = (⟨#[]⟩, 1) := by unfold putA; rw [hp]; rfl
    rw [this]
    exact ⟨by decide, .inl rfl⟩
  | true =>
    have e : putA r = (str (putL r), 0) := by unfold putA; rw [hp]; rfl
    have hm : ∀ c ∈ r, mayC c = true := by
      unfold putOk at hp
      simp only [Bool.and_eq_true, List.all_eq_true] at hp
      exact hp.2
    have hok' : ∀ c ∈ r, mayC c = true ∧ okC c := fun c hc => by
      obtain ⟨i, hi⟩ := List.getElem?_of_mem hc
      exact ⟨hm c hc, hok i c hi⟩
    rw [e]
    refine ⟨?_, .inr ⟨rfl, ?_⟩⟩
    · rw [str_size]
      have := flat_len hm
      unfold putL
      simp only [List.length_cons]
      omega
    · have ha : (str (putL r) ++ s).data.toList = putL r ++ s.data.toList := by
        rw [ByteArray.data_append, Array.toList_append, str_list]
      show tk3 (str (putL r) ++ s).data.toList = (r, ((str (putL r)).size : Int), 0)
      rw [ha]
      unfold tk3
      rw [take_put (by omega) hok' s.data.toList, str_size]

set_option maxRecDepth 4000 in
set_option maxHeartbeats 4000000 in
theorem walkCellBytes {w : World} {v : Value} {r : List Cl} (h1 : RowIs w v r ∧ (∀ (i : Nat) (c : Cl), r[i]? = some c → okC c) ∧ r.length ≤ maxLen) (s : ByteArray) (_hs : s.size ≤ maxLen) (hE : Env w) :
    Calls Tryd.prog 6 #[v, .string s] w fun e w' => e = .returned (.bool true) ∧ Below w.heap.size w w' := by
  obtain ⟨h1, hok, m1⟩ := h1
  have A0 : By w w v r := ⟨h1, Below.refl _ _, hE⟩
  have l1 : ∀ w, RowIs w v r → Calls Tryd.prog 14 #[v] w fun e w' => e = .returned (.bool (lightC r)) ∧ Below w.heap.size w w' := fun w h => light_any w v r h m1
  clear hE h1
  cases e1 : lightC r with
  | false =>
    rw [e1] at l1
    clear e1
    go_enter Tryd.func6, Tryd.ntmps6
    go_wp2_with fail
    refine (l1 _ A0.row).mono ?_
    rintro e w2 ⟨rfl, hb2⟩
    have A2 := A0.over hb2
    clear A0 hb2 l1
    go_wp2_with fail
    refine (awake_any _ A2.env).mono ?_
    rintro e w3 ⟨rfl, hb3⟩
    have A3 := A2.over hb3
    go_wp2_with fail
    go_ret
    exact ⟨rfl, A3.bel⟩
  | true =>
    by_cases hl : (512 : Int) < (s.size : Int)
    · rw [e1] at l1
      clear e1
      go_enter Tryd.func6, Tryd.ntmps6
      go_wp2_with fail
      refine (l1 _ A0.row).mono ?_
      rintro e w2 ⟨rfl, hb2⟩
      have A2 := A0.over hb2
      clear A0 hb2 l1
      go_wp2_with fail
      refine (awake_any _ A2.env).mono ?_
      rintro e w3 ⟨rfl, hb3⟩
      have A3 := A2.over hb3
      go_wp2_with fail
      go_ret
      exact ⟨rfl, A3.bel⟩
    · have hlen := light_len e1
      rw [e1] at l1
      clear e1
      have p1 : ∀ w, RowIs w v r → Calls Tryd.prog 17 #[v] w fun e w' => e = .returned (.tuple #[.string (putA r).1, .int .i64 (putA r).2]) ∧ Below w.heap.size w w' := fun w h => putRow_any w v r h hok m1
      have p2 : ∀ w, RowIs w v r → Calls Tryd.prog 18 #[v] w fun e w' => e = .returned (.tuple #[.string (putA r).1, .int .i64 (putA r).2]) ∧ Below w.heap.size w w' := fun w h => refPutRow_any w v r h hok m1
      obtain ⟨hsz, hcase⟩ := put_take hlen hok s
      obtain ⟨p, hp⟩ : ∃ p, p = (putA r).1 := ⟨_, rfl⟩
      obtain ⟨q, hq⟩ : ∃ q, q = (putA r).2 := ⟨_, rfl⟩
      rw [← hp] at p1 p2 hsz hcase
      rw [← hq] at p1 p2 hcase
      have hps : (p.size : Int) ≤ 1000 := by omega
      have t1 : ∀ w, Calls Tryd.prog 19 #[.string s] w fun e w' => Below w.heap.size w w' ∧ ∃ v, e = .returned (.tuple #[v, .int .i64 (tk3 s.data.toList).2.1, .int .i64 (tk3 s.data.toList).2.2]) ∧ RowIs w' v (tk3 s.data.toList).1 := fun w => (takeRow_any s (by unfold maxLen; omega) w).mono fun _ _ h => take3 h
      have t2 : ∀ w, Calls Tryd.prog 20 #[.string s] w fun e w' => Below w.heap.size w w' ∧ ∃ v, e = .returned (.tuple #[v, .int .i64 (tk3 s.data.toList).2.1, .int .i64 (tk3 s.data.toList).2.2]) ∧ RowIs w' v (tk3 s.data.toList).1 := fun w => (refTakeRow_any s (by unfold maxLen; omega) w).mono fun _ _ h => take3 h
      have t3 : ∀ w, Calls Tryd.prog 19 #[.string (p ++ s)] w fun e w' => Below w.heap.size w w' ∧ ∃ v, e = .returned (.tuple #[v, .int .i64 (tk3 (p ++ s).data.toList).2.1, .int .i64 (tk3 (p ++ s).data.toList).2.2]) ∧ RowIs w' v (tk3 (p ++ s).data.toList).1 := fun w => (takeRow_any (p ++ s) (by rw [ByteArray.size_append]; unfold maxLen; omega) w).mono fun _ _ h => take3 h
      have hx := tk3_len s.data.toList
      obtain ⟨⟨rx, nx, gx⟩, ex⟩ : ∃ x, x = tk3 s.data.toList := ⟨_, rfl⟩
      obtain ⟨⟨rz, nz, gz⟩, ez⟩ : ∃ x, x = tk3 (p ++ s).data.toList := ⟨_, rfl⟩
      rw [← ex] at t1 t2 hx
      rw [← ez] at t3 hcase
      simp only at t1 t2 t3 hx
      have hsame : ∀ (w : World) (v1 v2 : Value), RowIs w v1 rx → RowIs w v2 rx → Calls Tryd.prog 21 #[v1, v2] w fun e w' => e = .returned (.bool true) ∧ Below w.heap.size w w' := fun w v1 v2 a b => same_yes a b (by unfold maxLen; omega)
      have hsame2 : ∀ (w : World) (v1 v2 : Value), RowIs w v1 r → RowIs w v2 r → Calls Tryd.prog 21 #[v1, v2] w fun e w' => e = .returned (.bool true) ∧ Below w.heap.size w w' := fun w v1 v2 a b => same_yes a b m1
      have HC : Hid (q = 1 ∨ q = 0 ∧ (rz, nz, gz) = (r, (p.size : Int), 0)) := hcase
      clear hcase hp hq ex ez hx hsz hok m1
      go_enter Tryd.func6, Tryd.ntmps6
      go_wp2_with fail
      refine (l1 _ A0.row).mono ?_
      rintro e w2 ⟨rfl, hb2⟩
      have A2 := A0.over hb2
      clear A0 hb2 l1
      go_wp2_with fail
      refine (p1 _ A2.row).mono ?_
      rintro e w3 ⟨rfl, hb3⟩
      have A3 := A2.over hb3
      clear A2 hb3 p1
      go_wp2_with fail
      refine (p2 _ A3.row).mono ?_
      rintro e w4 ⟨rfl, hb4⟩
      have A4 := A3.over hb4
      clear A3 hb4 p2
      go_wp2_with fail
      refine (t1 _).mono ?_
      rintro e w5 ⟨hb5, vx, rfl, hvx⟩
      have A5 := A4.over hb5
      clear A4 hb5 t1
      go_wp2_with fail
      refine (t2 _).mono ?_
      rintro e w6 ⟨hb6, vy, rfl, hvy⟩
      have A6 := A5.over hb6
      have hvx6 := hvx.below hb6
      clear A5 hb6 t2 hvx
      go_wp2_with fail
      refine (hsame _ _ _ hvx6 hvy).mono ?_
      rintro e w7 ⟨rfl, hb7⟩
      have A7 := A6.over hb7
      clear A6 hb7 hvx6 hvy hsame
      go_wp2_with fail
      refine (t3 _).mono ?_
      rintro e w8 ⟨hb8, vz, rfl, hvz⟩
      have A8 := A7.over hb8
      clear A7 hb8 t3
      rcases HC.out with rfl | ⟨rfl, hz⟩
      · clear HC hsame2 hvz
        go_wp2_with fail
        refine (awake_any _ A8.env).mono ?_
        rintro e w9 ⟨rfl, hb9⟩
        have A9 := A8.over hb9
        go_wp2_with fail
        go_ret
        exact ⟨rfl, A9.bel⟩
      · obtain ⟨rfl, hz2⟩ := Prod.mk.inj hz
        obtain ⟨rfl, rfl⟩ := Prod.mk.inj hz2
        clear HC hz hz2
        go_wp2_with fail
        refine (hsame2 _ _ _ hvz A8.row).mono ?_
        rintro e w9 ⟨rfl, hb9⟩
        have A9 := A8.over hb9
        clear A8 hb9 hvz hsame2
        go_wp2_with fail
        refine (awake_any _ A9.env).mono ?_
        rintro e w10 ⟨rfl, hb10⟩
        have A10 := A9.over hb10
        go_wp2_with fail
        go_ret
        exact ⟨rfl, A10.bel⟩
end Go.Proofs.YtjkkkdehmgfmeaaDoor
