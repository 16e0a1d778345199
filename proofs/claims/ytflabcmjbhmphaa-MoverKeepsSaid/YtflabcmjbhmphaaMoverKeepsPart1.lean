/-
  5 texts, one behind the other: MKRefPut, MWalk2, MSeen, MKeepP, WMoverKeeps.
-/
import Derived.Test.YtflabcmjbhmphaaJoin3
import Derived.Test.YtflabcmjbhmphaaJoin1
import Derived.Test.YtflabcmjbhmphaaJoin11
import Derived.Deep.QuietTactic
import Derived.BigQuiet
/-
  The contracts of the document's bytes and Put.
-/
namespace Go.Proofs.Ytflabcmjbhmphaa
open Go.RowKit

theorem retS {a b : ByteArray} (h : b = a) : Ending.returned (.string a) = .returned (.string b) := by rw [h]
theorem str_append (a b : List UInt8) : str a ++ str b = str (a ++ b) := by
  apply ByteArray.ext
  simp [str]
theorem str_data (s : ByteArray) : str s.data.toList = s := by
  apply ByteArray.ext
  simp [str]
theorem str_three (s : ByteArray) : str (2 :: UInt8.ofNat s.size :: s.data.toList) = ⟨#[2]⟩ ++ ⟨#[UInt8.ofNat s.size]⟩ ++ s := by
  apply ByteArray.ext
  simp [str]
theorem below3 (w : World) (A B C : Obj) : Below w.heap.size w (((w.alloc A).alloc B).alloc C) := (below2 w A B).alloc (by simp; omega) _

set_option maxHeartbeats 1000000 in
set_option maxRecDepth 4000 in
theorem refBytes_any (c : Cl) (w : World) (hm : mayC c = true) (hok : okC c) :
    Calls Try.prog 56 #[cv c] w fun e w' => e = .returned (.string (str (bytesC c))) ∧ Below w.heap.size w w' := by
  obtain ⟨k, n, s⟩ := c
  simp only [cv]
  rcases may_kind hm with ⟨h1, h2, h3⟩ | ⟨h1, h2⟩ | ⟨h1, h2, h3⟩
  · simp only at h1 h2 h3
    subst h1 h2
    have HE : Hid (bytesC ⟨0, 0, s⟩ = [0]) := by unfold Hid bytesC; simp
    have hcv := convert_own (ownsB_new (w.alloc (.cells #[.int .i64 0, .int .i64 0, .string s] 71)) (n := 0) (c := 0) rfl) (by simp)
    rw [World.size_alloc] at hcv
    clear hm hok h3
    go_enter Try.func56, Try.ntmps56
    go_wp2_with fail
    go_ret
    exact ⟨retS (by rw [HE.out]; rfl), below2 _ _ _⟩
  · simp only at h1 h2
    subst h1
    have hn := Wd.word_of_le n hok.1 hok.2
    obtain ⟨x, hx⟩ : ∃ x, x = BitVec.ofInt 64 n := ⟨_, rfl⟩
    rw [← hx] at hn
    have HE : Hid (bytesC ⟨1, n, s⟩ = 1 :: enc1 x) := by unfold Hid bytesC; rw [hx]; simp
    clear hx hm hok h2
    subst hn
    have hcv := convert_own (ownsB_new (w.alloc (.cells #[.int .i64 1, .int .i64 x.toInt, .string s] 71)) (n := 1) (c := 1) rfl) (by simp)
    rw [World.size_alloc] at hcv
    obtain ⟨t, ht⟩ : ∃ t, t = str (enc1 x) := ⟨_, rfl⟩
    have hpt : ∀ w, Calls Try.prog 62 #[.int .i64 x.toInt] w fun e w' => e = .returned (.string t) ∧ Below w.heap.size w w' := fun w => by rw [ht]; exact refPut_any x w
    have hts : (t.size : Int) ≤ 10 := by rw [ht, str_size, enc1_len]; have := lenW_bd (zigW x); omega
    have HT : Hid (t = str (enc1 x)) := ht
    clear ht
    go_enter Try.func56, Try.ntmps56
    go_wp2_with (go_at_call 62; refine (hpt _).mono ?_; rintro e w4 ⟨rfl, hb4⟩)
    go_ret
    exact ⟨retS (by rw [HE.out, HT.out]; exact (str_append [1] (enc1 x)).symm), (below2 _ _ _).trans (hb4.mono (by simp; omega))⟩
  · simp only at h1 h2 h3
    subst h1 h2
    have HE : Hid (bytesC ⟨2, 0, s⟩ = 2 :: UInt8.ofNat s.size :: s.data.toList) := by unfold Hid bytesC; simp
    have hs256 : (s.size : Int) < 256 := by omega
    have hr8 : IntKind.u8.wrap (s.size : Int) = (s.size : Int) := by rw [IntKind.wrap_u8]; omega
    have HM := small_u8 (n := s.size) (by omega)
    have hcv := convert_own (ownsB_new (w.alloc (.cells #[.int .i64 2, .int .i64 0, .string s] 71)) (n := 2) (c := 2) rfl) (by simp)
    have hcv2 := convert_own (ownsB_new ((w.alloc (.cells #[.int .i64 2, .int .i64 0, .string s] 71)).alloc (.cells #[.int .u8 2] 5)) HM) (by simp)
    rw [World.size_alloc] at hcv
    rw [World.size_alloc, World.size_alloc] at hcv2
    clear hm hok HM
    go_enter Try.func56, Try.ntmps56
    go_wp2_with fail
    go_ret
    exact ⟨retS (by rw [HE.out]; exact str_three s), below3 _ _ _ _⟩

set_option maxRecDepth 4000 in
set_option maxHeartbeats 4000000 in
theorem refPutRow_any (w : World) (v : Value) (r : List Cl) (h : RowIs w v r) (hok : ∀ (i : Nat) (c : Cl), r[i]? = some c → okC c) (hm : r.length ≤ maxLen) :
    Calls Try.prog 44 #[v] w fun e w' => e = .returned (.tuple #[.string (putA r).1, .int .i64 (putA r).2]) ∧ Below w.heap.size w w' := by
  unfold maxLen at hm
  obtain ⟨a, cap, rfl, h⟩ := h
  obtain ⟨n, hn⟩ : ∃ n, n = r.length := ⟨_, rfl⟩
  rw [← hn] at hm
  rw [← hn]
  by_cases hl : (255 : Int) < (n : Int)
  · have HE : Hid (((putA r).1, (putA r).2) = (⟨#[]⟩, 1)) := putA_long (by omega)
    clear h hok hn
    go_enter Try.func44, Try.ntmps44
    go_wp2_with fail
    go_ret2
    exact ⟨retT2 HE.out, Below.refl _ _⟩
  · have HN : Hid (n = r.length) := hn
    have HO : Hid (∀ (i : Nat) (c : Cl), r[i]? = some c → okC c) := hok
    have HH : Hid (r ≠ [] → ∃ b off, a = some ⟨b, off, none⟩ ∧ b < w.heap.size ∧ ∀ i c, r[i]? = some c → CellAt w b (off + i * 3) c) := h
    have hn256 : (n : Int) < 256 := by omega
    have hr8 : IntKind.u8.wrap (n : Int) = (n : Int) := by rw [IntKind.wrap_u8]; omega
    have HU := small_u8 (n := n) (by omega)
    have hcv := convert_own (ownsB_new w HU) (by simp)
    clear hn h hok HU
    go_enter Try.func44, Try.ntmps44
    go_wp2_with fail
    go_loopg [4, 5] n (fun gg s4 s5 wx => ∃ (i : Nat) (t : ByteArray), i + gg = n ∧ s5 = .int .i64 i ∧ s4 = .string t ∧ Hid (t = str (UInt8.ofNat n :: (r.take i).flatMap bytesC)) ∧ Below w.heap.size w wx ∧ Hid (∀ (j : Nat) (c : Cl), j < i → r[j]? = some c → mayC c = true))
    case atStart => exact ⟨0, _, by omega, rfl, rfl, rfl, below1 _ _, fun j c hj => by omega⟩
    case round =>
      obtain ⟨i, t, hig, rfl, rfl, ht, hb, hall⟩ := hrel
      clear hcv
      by_cases hi : i < n
      · have hiI : (i : Int) < (n : Int) := by omega
        have hrn := HN.out
        have hne : r ≠ [] := by rintro rfl; simp at hrn; omega
        obtain ⟨b, off, rfl, hb1, hc1⟩ := HH.out hne
        obtain ⟨c, hic⟩ : ∃ c, r[i]? = some c := ⟨_, List.getElem?_eq_getElem (by omega)⟩
        have hb1r : b < wr.heap.size := Nat.lt_of_lt_of_le hb1 hb.size
        have x1 := (hc1 i c hic).below hb1 hb
        have p0 := x1.c0
        have p1 := x1.c1
        have p2 := x1.c2
        have hr2 : IntKind.i64.wrap ((i : Int) + 1) = (i : Int) + 1 := by rw [IntKind.wrap_i64]; omega
        have hck : ∀ w, Calls Try.prog 55 #[cv c] w fun e w' => e = .returned (.bool (mayC c)) ∧ Below w.heap.size w w' := fun w => may_any c w
        have HB : Hid (Below w.heap.size w wr) := hb
        have HX : Hid (CellAt wr b (off + i * 3) c) := x1
        have hsz := hb.size
        cases hm2 : mayC c with
        | true =>
          rw [hm2] at hck
          obtain ⟨u, hu⟩ : ∃ u, u = str (bytesC c) := ⟨_, rfl⟩
          have hbt : ∀ w, Calls Try.prog 56 #[cv c] w fun e w' => e = .returned (.string u) ∧ Below w.heap.size w w' := fun w => by rw [hu]; exact refBytes_any c w hm2 (HO.out i c hic)
          have hus : (u.size : Int) ≤ 34 := by rw [hu, str_size]; have := (bytesC_len hm2).2; omega
          have hts : (t.size : Int) ≤ 900000 := by
            rw [ht.out, str_size]
            have := flatC_len (r := r.take i) fun x hx => by
              obtain ⟨j, hj⟩ := List.getElem?_of_mem hx
              have hj2 : j < i := by have := (List.getElem?_eq_some_iff.1 hj).1; rw [List.length_take] at this; omega
              rw [List.getElem?_take_of_lt hj2] at hj
              exact hall.out j x hj2 hj
            rw [List.length_take] at this
            simp only [List.length_cons]
            omega
          have HA : Hid (∀ (j : Nat) (x : Cl), j < i + 1 → r[j]? = some x → mayC x = true) := by
            intro j x hj hx
            by_cases e : j = i
            · subst e
              rw [hic] at hx
              obtain rfl := Option.some.inj hx
              exact hm2
            · exact hall.out j x (by omega) hx
          have HF : Hid (t ++ u = str (UInt8.ofNat n :: (r.take (i + 1)).flatMap bytesC)) := by
            unfold Hid; rw [ht.out, hu, str_append, flatC_snoc hic]; rfl
          clear hic hc1 x1 hb hne hrn hm2 hall hu ht
          go_wp2_with (first
            | (go_at_call 55; refine (hck _).mono ?_; rintro e w1 ⟨rfl, hb3⟩; have x3 := HX.out.below hb1r hb3; have q0 := x3.c0; have q1 := x3.c1; have q2 := x3.c2; have HB1 : Hid (Below w.heap.size w w1) := HB.out.trans (hb3.mono hsz); clear hb3 x3)
            | (go_at_call 56; refine (hbt _).mono ?_; rintro e w4 ⟨rfl, hb4⟩; have HB4 : Hid (Below w.heap.size w w4) := HB1.out.trans (hb4.mono HB1.out.size); clear hb4))
          go_roundg (n - (i + 1))
          case measure => clear hr2 hr8; omega
          case rel => exact ⟨i + 1, _, by clear hr2 hr8; omega, by go_num, rfl, HF, HB4.out, HA⟩
        | false =>
          rw [hm2] at hck
          have HE : Hid (((putA r).1, (putA r).2) = (⟨#[]⟩, 1)) := putA_bad hic hm2
          clear hic hc1 x1 hb hne hrn hm2 hall ht
          go_wp2_with (go_at_call 55; refine (hck _).mono ?_; rintro e w1 ⟨rfl, hb3⟩; have HB1 : Hid (Below w.heap.size w w1) := HB.out.trans (hb3.mono hsz); clear hb3)
          go_ret2
          exact ⟨retT2 HE.out, HB1.out⟩
      · have hiI : ¬ (i : Int) < (n : Int) := by omega
        have hrn := HN.out
        have htk : r.take i = r := List.take_of_length_le (by omega)
        have HE : Hid (((putA r).1, (putA r).2) = (t, 0)) := by
          unfold Hid
          have e := putA_ok (r := r) (by omega) (fun j c hj => hall.out j c (by have := (List.getElem?_eq_some_iff.1 hj).1; omega) hj)
          rw [e, ht.out, htk, hrn]; rfl
        have HB : Hid (Below w.heap.size w wr) := hb
        clear hb hall htk hrn ht
        go_wp2_with fail
        go_ret2
        exact ⟨retT2 HE.out, HB.out⟩
end Go.Proofs.Ytflabcmjbhmphaa
/-
  The answers of Project, Kinds and Lives, each told in one way.
-/
namespace Go.Proofs.Ytflabcmjbhmphaa
open Go.RowKit

def projL (rows : List (List Cl)) (cols : List (BitVec 64)) : List (List Cl) := if pokB rows cols then projA rows cols else []
def projE (rows : List (List Cl)) (cols : List (BitVec 64)) : Int := if pokB rows cols then 0 else 1
theorem proj_uni {w w' : World} {rows : List (List Cl)} {cols : List (BitVec 64)} {e : Ending} (h : ProjAns w rows cols e w') : ∃ v, e = .returned (.tuple #[v, .int .i64 (projE rows cols)]) ∧ RwsIs w' v (projL rows cols) := by
  unfold projE projL
  have h1 := h.1
  cases hp : pokB rows cols with
  | true =>
    rw [hp, if_pos rfl] at h1
    obtain ⟨v, rfl, hv⟩ := h1
    exact ⟨v, rfl, hv⟩
  | false =>
    rw [hp, if_neg (by simp)] at h1
    exact ⟨_, h1, slIs_nil _ _ _ _ _⟩
theorem projL_len {rows : List (List Cl)} {cols : List (BitVec 64)} (h1 : rows.length ≤ 30) (h2 : cols.length ≤ 10) : (projL rows cols).length ≤ 1000 ∧ ∀ r ∈ projL rows cols, r.length ≤ 1000 := by
  unfold projL
  split
  · refine ⟨by unfold projA; rw [List.length_map]; omega, fun r hr => ?_⟩
    unfold projA at hr
    obtain ⟨x, _, rfl⟩ := List.mem_map.1 hr
    unfold rowA
    rw [List.length_map]; omega
  · exact ⟨by simp, fun r hr => by simp at hr⟩
def kindL (t : List Col) (cols : List (BitVec 64)) : List (BitVec 64) := if kokB t cols then kindsA t cols else []
def kindE (t : List Col) (cols : List (BitVec 64)) : Int := if kokB t cols then 0 else 1
theorem kind_uni {w w' : World} {t : List Col} {cols : List (BitVec 64)} {e : Ending} (h : KindsAns w t cols e w') : ∃ v, e = .returned (.tuple #[v, .int .i64 (kindE t cols)]) ∧ IntsIs w' v (kindL t cols) := by
  unfold kindE kindL
  have h1 := h.1
  cases hp : kokB t cols with
  | true =>
    rw [hp, if_pos rfl] at h1
    obtain ⟨v, rfl, hv⟩ := h1
    exact ⟨v, rfl, hv⟩
  | false =>
    rw [hp, if_neg (by simp)] at h1
    exact ⟨_, h1, slIs_nil _ _ _ _ _⟩
theorem kindL_len {t : List Col} {cols : List (BitVec 64)} (h2 : cols.length ≤ 10) : (kindL t cols).length ≤ 1000 := by
  unfold kindL
  split
  · unfold kindsA; rw [List.length_map]; omega
  · simp
def liveL (b : Bool) (rows : List (List Cl)) (bs : List (BitVec 64)) (ms : List Mk) : List Lf := if lvB b rows bs ms then livesA rows bs ms else []
def liveE (b : Bool) (rows : List (List Cl)) (bs : List (BitVec 64)) (ms : List Mk) : Int := if lvB b rows bs ms then 0 else 1
theorem live_uni {w w' : World} {b : Bool} {rows : List (List Cl)} {bs : List (BitVec 64)} {ms : List Mk} {e : Ending} (h : LivesAns w b rows bs ms e w') : ∃ v, e = .returned (.tuple #[v, .int .i64 (liveE b rows bs ms)]) ∧ LfsIs w' v (liveL b rows bs ms) := by
  unfold liveE liveL
  have h1 := h.1
  cases hp : lvB b rows bs ms with
  | true =>
    rw [hp, if_pos rfl] at h1
    obtain ⟨v, rfl, hv⟩ := h1
    exact ⟨v, rfl, hv⟩
  | false =>
    rw [hp, if_neg (by simp)] at h1
    exact ⟨_, h1, slIs_nil _ _ _ _ _⟩
theorem getD_len {rows : List (List Cl)} (h : ∀ r ∈ rows, r.length ≤ 20) (i : Nat) : (rows.getD i []).length ≤ 20 := by
  rw [List.getD_eq_getElem?_getD]
  cases hi : rows[i]? with
  | none => simp
  | some r => exact h r (List.mem_of_getElem? hi)
theorem liveL_len {b : Bool} {rows : List (List Cl)} {bs : List (BitVec 64)} {ms : List Mk} (h1 : rows.length ≤ 60) (h2 : ∀ r ∈ rows, r.length ≤ 20) : (liveL b rows bs ms).length ≤ 1000 ∧ ∀ x ∈ liveL b rows bs ms, x.r.length ≤ 1000 := by
  unfold liveL
  split
  · refine ⟨by rw [livesA_len]; omega, fun x hx => ?_⟩
    unfold livesA at hx
    obtain ⟨i, _, rfl⟩ := List.mem_map.1 hx
    have := getD_len h2 i
    unfold lifeA
    simp only
    omega
  · exact ⟨by simp, fun x hx => by simp at hx⟩
theorem one_tbs {w : World} {t : Tb} {v0 v1 v2 : Value} (h : TbE w t [v0, v1, v2]) : TabsIs (w.alloc (.cells #[v0, v1, v2] 49)) (.slice (some ⟨w.heap.size, 0, none⟩) 1 1) [t] := by
  refine slIs_of_srows (srows_made (sz := 3) (n := 1) (R := [[v0, v1, v2]]) (by decide) rfl (by simp) rfl (by decide)) ⟨rfl, fun i z r hx hr => ?_⟩
  match i with
  | 0 => simp at hx hr; subst hx hr; exact stays_tb _ _ _ _ h (below1 _ _)
  | i + 1 => simp at hx
end Go.Proofs.Ytflabcmjbhmphaa
/-
  The contracts of the document's epoch, May of a life and Sees, and of law 27's seen.
-/
namespace Go.Proofs.Ytflabcmjbhmphaa
open Go.RowKit

set_option maxHeartbeats 1000000 in
theorem refEpoch_any (W : World) (g : Int) : Calls Try.prog 45 #[.int .i64 g] W fun e w' => e = .returned (.bool (decide (1 ≤ g) && decide (g ≤ 1099511627776))) ∧ Below W.heap.size W w' := by
  by_cases h1 : 1 ≤ g
  · by_cases h2 : g ≤ 1099511627776
    all_goals
      go_enter Try.func45, Try.ntmps45
      go_wp2_with fail
      go_ret
      exact ⟨ret_bool (by simp [h1] <;> omega), Below.refl _ _⟩
  · go_enter Try.func45, Try.ntmps45
    go_wp2_with fail
    go_ret
    exact ⟨ret_bool (by simp <;> omega), Below.refl _ _⟩
def seesB (b g e : Int) : Bool := decide (b ≤ e) && (decide (g = 0) || decide (e < g))
set_option maxHeartbeats 1000000 in
theorem refSees_any (W : World) (b g e : Int) : Calls Try.prog 46 #[.int .i64 b, .int .i64 g, .int .i64 e] W fun en w' => en = .returned (.bool (seesB b g e)) ∧ Below W.heap.size W w' := by
  by_cases h1 : b ≤ e
  · by_cases h2 : g = 0
    · subst h2
      go_enter Try.func46, Try.ntmps46
      go_wp2_with fail
      go_ret
      exact ⟨ret_bool (by unfold seesB; simp [h1]), Below.refl _ _⟩
    · have d2 : (g == 0) = false := by simpa using h2
      by_cases h3 : e < g
      all_goals
        go_enter Try.func46, Try.ntmps46
        go_wp2_with fail
        go_ret
        exact ⟨ret_bool (by unfold seesB; simp [h1, h2] <;> omega), Below.refl _ _⟩
  · go_enter Try.func46, Try.ntmps46
    go_wp2_with fail
    go_ret
    exact ⟨ret_bool (by unfold seesB; simp; intro _; omega), Below.refl _ _⟩
/-- The rows of the lives that are seen. -/
def seenA (l : List Lf) (e : Int) : List (List Cl) := (l.filter fun x => seesB x.b.toInt x.g e).map (·.r)
theorem seenA_step {l : List Lf} {k : Nat} {x : Lf} {e : Int} (hx : l[k]? = some x) : seenA (l.take (k + 1)) e = seenA (l.take k) e ++ if seesB x.b.toInt x.g e then [x.r] else [] := by
  unfold seenA
  rw [take_succ_of hx, List.filter_append, List.map_append]
  congr 1
  cases h : seesB x.b.toInt x.g e <;> simp [h]
theorem seenA_len (l : List Lf) (e : Int) : (seenA l e).length ≤ l.length := by
  unfold seenA
  rw [List.length_map]
  exact List.length_filter_le _ _
set_option maxRecDepth 4000 in
set_option maxHeartbeats 4000000 in
theorem seen_any {w0 w : World} {v : Value} {l : List Lf} (h : LfsIs w0 v l) (hb0 : Below w0.heap.size w0 w) (hl : l.length ≤ 1000) (e : Int) :
    Calls Try.prog 27 #[v, .int .i64 e] w fun en w' => ∃ v', en = .returned v' ∧ OwnS RwE 1 40 w0 w' v' (seenA l e) ∧ Below w.heap.size w w' := by
  obtain ⟨a, n, cap, rfl, hn, hcap⟩ := h.slice
  have hnI : (n : Int) ≤ 1000 := by omega
  have HH : Hid (LfsIs w0 (.slice a n cap) l ∧ l.length = n) := ⟨h, hn⟩
  have H0 : Hid (Below w0.heap.size w0 w) := hb0
  clear hb0 h hl hn hcap
  go_enter Try.func27, Try.ntmps27
  go_wp2_with fail
  go_loopg [5, 6] n (fun gg s5 s6 wx => ∃ (i : Nat) (a5 : Option Addr) (n5 c5 : Nat), i + gg = n ∧ s6 = .int .i64 i ∧ s5 = .slice a5 n5 c5 ∧ Hid (n5 ≤ i ∧ OwnS RwE 1 40 w0 wx (.slice a5 n5 c5) (seenA (l.take i) e) ∧ (∀ k, (Value.slice a5 n5 c5).ownBlock = some k → w.heap.size ≤ k) ∧ Below w.heap.size w wx))
  case atStart => exact ⟨0, none, 0, 0, by omega, rfl, rfl, Nat.le_refl _, by rw [List.take_zero]; exact ownS_nil _ _ _ H0.out, fun k hk => by simp [Value.ownBlock] at hk, Below.refl _ _⟩
  case round =>
    obtain ⟨i, a5, n5, c5, hig, rfl, rfl, HV⟩ := hrel
    have HB : Hid (Below w0.heap.size w0 wr) := HV.out.2.1.bel
    by_cases hi : i < n
    · have hiI : (i : Int) < (n : Int) := by omega
      have hr2 : IntKind.i64.wrap ((i : Int) + 1) = (i : Int) + 1 := by rw [IntKind.wrap_i64]; omega
      obtain ⟨x, b, off, a2, n2, c2, hx, rfl, hbx, c00, c10, c30, hv, hn2, _⟩ := at_lf HH.out.1 hi
      obtain ⟨z, hz⟩ : ∃ z, z = x.b.toInt := ⟨_, rfl⟩
      rw [← hz] at c10
      obtain ⟨g, hg⟩ : ∃ g, g = x.g := ⟨_, rfl⟩
      rw [← hg] at c30
      have HX : Hid (l[i]? = some x ∧ z = x.b.toInt ∧ g = x.g ∧ RwE w0 x.r [.slice a2 n2 c2]) := ⟨hx, hz, hg, _, rfl, hv⟩
      have HC : Hid (∀ W, Below w0.heap.size w0 W → W.cell? ⟨b, off + i * 3, none⟩ = some (.slice a2 n2 c2) ∧ W.cell? ⟨b, off + i * 3 + 1, none⟩ = some (.int .i64 z) ∧ W.cell? ⟨b, off + i * 3 + 2, none⟩ = some (.int .i64 g)) := fun W hW => ⟨(hW.cell (p := ⟨b, off + i * 3, none⟩) hbx).trans c00, (hW.cell (p := ⟨b, off + i * 3 + 1, none⟩) hbx).trans c10, (hW.cell (p := ⟨b, off + i * 3 + 2, none⟩) hbx).trans c30⟩
      clear hx hz hg hv hn2 hbx c00 c10 c30
      obtain ⟨q0, q1, q2⟩ := HC.out wr HB.out
      have e1 := above_cell q1
      have e2 := above_cell q2
      obtain ⟨s, hs⟩ : ∃ s, s = seesB z g e := ⟨_, rfl⟩
      have hce : ∀ q : Above wr, Calls Try.prog 46 #[.int .i64 z, .int .i64 g, .int .i64 e] q.it fun en w' => en = .returned (.bool s) ∧ Below q.it.heap.size q.it w' := fun q => by rw [hs]; exact refSees_any q.it z g e
      have HS : Hid (seenA (l.take (i + 1)) e = seenA (l.take i) e ++ if s then [x.r] else []) := by unfold Hid; rw [seenA_step HX.out.1, hs, HX.out.2.1, HX.out.2.2.1]
      clear hs q0 q1 q2
      go_wp2_with fail
      refine wp_region_above (by kernel_rfl) (by kernel_rfl) ?_
      intro hne
      repeat (go_big_quiet_step (first | (go_at_call 46; exact above_of (hce _))))
      refine wpQuiet_nil ?_
      rintro _ ⟨kq, rfl⟩
      have H2 : Hid (OwnS RwE 1 40 w0 kq.it (.slice a5 n5 c5) (seenA (l.take i) e)) := HV.out.2.1.over kq.is
      have HBK : Hid ((∀ k, (Value.slice a5 n5 c5).ownBlock = some k → w.heap.size ≤ k) ∧ Below w.heap.size w kq.it) := ⟨HV.out.2.2.1, HV.out.2.2.2.trans (kq.is.mono HV.out.2.2.2.size)⟩
      obtain ⟨q0, _, _⟩ := HC.out kq.it H2.out.bel
      have HM : Hid ((seenA (l.take i) e).length + 1 = n5 + 1) := by unfold Hid; rw [(H2.out.is stays_rw).len.1]
      have hn5 : n5 + 1 ≤ 1000000 := by have := HV.out.1; clear hr2; omega
      clear hne e1 e2 hce
      cases s with
      | false =>
        go_wp2_with fail
        go_roundg (n - (i + 1))
        case measure => clear hr2; omega
        case rel => exact ⟨i + 1, _, _, _, by clear hr2; omega, by go_num, rfl, by have := HV.out.1; clear hr2; omega, by rw [HS.out, if_neg (by simp), List.append_nil]; exact H2.out, HBK.out.1, HBK.out.2⟩
      | true =>
        go_wp2_with (at_builtin; refine append_one rfl (.tmp 25) (.tmp 31) 26 40 (.slice none 0 0) 1 24 rfl Try.underlying26 infos_rw rfl (by decide) (by decide) rfl rfl rfl (fun _ _ h => one_rw h) H2.out (y := x.r) (cs := #[.slice a2 n2 c2]) HX.out.2.2.2 (n5 + 1) HM.out hn5 ?_; intro va vc w7 HM7 HK7 HW7)
        go_roundg (n - (i + 1))
        case measure => clear hr2; omega
        case rel => exact ⟨i + 1, _, _, _, by clear hr2; omega, by go_num, rfl, by have := HV.out.1; clear hr2; omega, by rw [HS.out, if_pos trivial]; exact HM7.out, fun k hk => (HW7.out k hk).elim (HBK.out.1 k) (Nat.le_trans HBK.out.2.size), HBK.out.2.trans (HK7.out.below HBK.out.1 HBK.out.2.size)⟩
    · have hiI : ¬ (i : Int) < (n : Int) := by omega
      obtain rfl : i = n := by omega
      have e1 : l.take i = l := List.take_of_length_le (by rw [HH.out.2]; exact Nat.le_refl _)
      have HF : Hid (OwnS RwE 1 40 w0 wr (.slice a5 n5 c5) (seenA l e) ∧ Below w.heap.size w wr) := by have := HV.out.2.1; rw [e1] at this; exact ⟨this, HV.out.2.2.2⟩
      clear e1 HV
      go_wp2_with fail
      go_ret
      exact ⟨_, rfl, HF.out.1, HF.out.2⟩
/-- May a life be, as far as it is asked? -/
def mayE (x : Lf) : Prop := 1 ≤ x.b.toInt ∧ x.b.toInt ≤ 1099511627776 ∧ (x.g = 0 ∨ 1 ≤ x.g ∧ x.g ≤ 1099511627776)
set_option maxRecDepth 4000 in
set_option maxHeartbeats 4000000 in
theorem refMayL_any {w : World} {x : Lf} {v : Value} {b g : Int} (hv : SlIs CE 3 w v x.r) (hl : x.r.length ≤ 1000) (hb : b = x.b.toInt) (hg : g = x.g) :
    Calls Try.prog 26 #[.agg #[v, .int .i64 b, .int .i64 g]] w fun e w' => (∃ q, e = .returned (.bool q) ∧ (q = true → mayE x)) ∧ Below w.heap.size w w' := by
  obtain ⟨a, n, c, rfl, hn, hc⟩ := hv.slice
  have hbw := below1 w (.cells #[.slice a n c, .int .i64 b, .int .i64 g] 61)
  have hp := refPutRow_any (w.alloc (.cells #[.slice a n c, .int .i64 b, .int .i64 g] 61)) (.slice a n c) x.r (rowIs_of (hv.over stays_c hbw)).1 (rowIs_of hv).2 (by unfold maxLen; omega)
  have HB : Hid (Below w.heap.size w (w.alloc (.cells #[.slice a n c, .int .i64 b, .int .i64 g] 61)) ∧ Box (w.alloc (.cells #[.slice a n c, .int .i64 b, .int .i64 g] 61)) w.heap.size 61 #[.slice a n c, .int .i64 b, .int .i64 g]) := ⟨hbw, box_new _ _ _⟩
  have HX : Hid (b = x.b.toInt ∧ g = x.g) := ⟨hb, hg⟩
  obtain ⟨t1, ht1⟩ : ∃ t, t = (putA x.r).1 := ⟨_, rfl⟩
  obtain ⟨t2, ht2⟩ : ∃ t, t = (putA x.r).2 := ⟨_, rfl⟩
  rw [← ht1, ← ht2] at hp
  clear hv hl hb hg hn hc hbw ht1 ht2
  have HE : Hid (∀ (W : World) (z : Int), Calls Try.prog 45 #[.int .i64 z] W fun e w' => e = .returned (.bool (decide (1 ≤ z) && decide (z ≤ 1099511627776))) ∧ Below W.heap.size W w') := refEpoch_any
  have HFIN : Hid (∀ (W w' : World), Below w.heap.size w W → Below W.heap.size W w' → Below w.heap.size w w') := fun W w' h1 h2 => h1.trans (h2.mono h1.size)
  go_enter Try.func26, Try.ntmps26
  go_wp2_with fail
  refine hp.mono ?_
  rintro e w1 ⟨rfl, hb1⟩
  have H1 : Hid (Below w.heap.size w w1 ∧ Box w1 w.heap.size 61 #[.slice a n c, .int .i64 b, .int .i64 g]) := ⟨HFIN.out _ _ HB.out.1 hb1, HB.out.2.over hb1⟩
  clear hp hb1
  have b1 := H1.out.2.cell 1 _ rfl
  by_cases ht : t2 = 0
  · have dt : (t2 == 0) = true := by simpa using ht
    subst ht
    go_wp2_with fail
    refine (HE.out w1 b).mono ?_
    rintro e w2 ⟨rfl, hb2⟩
    obtain ⟨q, hq⟩ : ∃ q, q = (decide (1 ≤ b) && decide (b ≤ 1099511627776)) := ⟨_, rfl⟩
    rw [← hq]
    have H2 : Hid (Below w.heap.size w w2 ∧ Box w2 w.heap.size 61 #[.slice a n c, .int .i64 b, .int .i64 g] ∧ q = (decide (1 ≤ b) && decide (b ≤ 1099511627776))) := ⟨HFIN.out _ _ H1.out.1 hb2, H1.out.2.over hb2, hq⟩
    clear hb2 hq H1 b1
    have b2 := H2.out.2.1.cell 2 _ rfl
    cases q with
    | false =>
      go_wp2_with fail
      go_ret
      exact ⟨⟨_, rfl, by simp⟩, H2.out.1⟩
    | true =>
      have HQ : Hid (1 ≤ x.b.toInt ∧ x.b.toInt ≤ 1099511627776) := by
        have := H2.out.2.2
        rw [HX.out.1] at this
        unfold Hid
        simpa using this.symm
      by_cases h0 : g = 0
      · have d0 : (g == 0) = true := by simpa using h0
        have HG : Hid (x.g = 0) := by unfold Hid; rw [← HX.out.2]; exact h0
        subst h0
        go_wp2_with fail
        go_ret
        exact ⟨⟨_, rfl, fun _ => ⟨HQ.out.1, HQ.out.2, .inl HG.out⟩⟩, H2.out.1⟩
      · have d0 : (g == 0) = false := by simpa using h0
        clear h0
        go_wp2_with fail
        refine (HE.out w2 g).mono ?_
        rintro e w3 ⟨rfl, hb3⟩
        obtain ⟨q, hq⟩ : ∃ q, q = (decide (1 ≤ g) && decide (g ≤ 1099511627776)) := ⟨_, rfl⟩
        rw [← hq]
        have H3 : Hid (Below w.heap.size w w3 ∧ q = (decide (1 ≤ g) && decide (g ≤ 1099511627776))) := ⟨HFIN.out _ _ H2.out.1 hb3, hq⟩
        clear hb3 hq b2
        cases q with
        | false =>
          go_wp2_with fail
          go_ret
          exact ⟨⟨_, rfl, by simp⟩, H3.out.1⟩
        | true =>
          have HG : Hid (1 ≤ x.g ∧ x.g ≤ 1099511627776) := by
            have := H3.out.2
            rw [HX.out.2] at this
            unfold Hid
            simpa using this.symm
          go_wp2_with fail
          go_ret
          exact ⟨⟨_, rfl, fun _ => ⟨HQ.out.1, HQ.out.2, .inr HG.out⟩⟩, H3.out.1⟩
  · have dt : (t2 == 0) = false := by simpa using ht
    clear ht
    go_wp2_with fail
    go_ret
    exact ⟨⟨_, rfl, by simp⟩, H1.out.1⟩
end Go.Proofs.Ytflabcmjbhmphaa
/-
  What MoverKeeps says, without memory; and append of a list of one's own to another.
-/
namespace Go.Proofs.Ytflabcmjbhmphaa
open Go.RowKit

theorem seenA_append (a b : List Lf) (e : Int) : seenA (a ++ b) e = seenA a e ++ seenA b e := by
  unfold seenA; rw [List.filter_append, List.map_append]
/-- In each epoch from low on the same rows are seen of what was merged. -/
theorem seen_merge {a b : List Lf} {low e : Int} (h : low ≤ e) : seenA (mergeA a b low) e = seenA a e ++ seenA b e := by
  rw [← seenA_append]
  unfold seenA mergeA
  rw [List.filter_filter]
  congr 1
  apply List.filter_congr
  intro x _
  unfold seesB goesB
  by_cases h0 : x.g = 0
  · simp [h0]
  · by_cases h1 : x.g ≤ low
    · have : ¬ e < x.g := by omega
      simp [h0, h1, this]
    · simp [h0, h1]
theorem seenA_rows {l : List Lf} {e : Int} {n : Nat} (h : ∀ x ∈ l, x.r.length ≤ n) : ∀ r ∈ seenA l e, r.length ≤ n := fun r hr => by
  unfold seenA at hr
  obtain ⟨x, hx, rfl⟩ := List.mem_map.1 hr
  exact h x (List.mem_filter.1 hx).1
/-- The marks of lives: where they stand. -/
theorem mksP_mem {l : List Lf} : ∀ (k : Nat) (m : Mk), m ∈ mksP l k → ∃ (i : Nat) (x : Lf), i < k ∧ l[i]? = some x ∧ m = ⟨(i : Int), x.g⟩ ∧ x.g ≠ 0
  | 0, m, h => by simp [mksP] at h
  | k + 1, m, h => by
    rw [mksP] at h
    cases hx : l[k]? with
    | none =>
      rw [hx] at h
      obtain ⟨i, x, h1, h2⟩ := mksP_mem k m h
      exact ⟨i, x, by omega, h2⟩
    | some x =>
      rw [hx] at h
      simp only at h
      by_cases hg : x.g = 0
      · rw [if_pos hg] at h
        obtain ⟨i, y, h1, h2⟩ := mksP_mem k m h
        exact ⟨i, y, by omega, h2⟩
      · rw [if_neg hg] at h
        rcases List.mem_append.1 h with h | h
        · obtain ⟨i, y, h1, h2⟩ := mksP_mem k m h
          exact ⟨i, y, by omega, h2⟩
        · simp at h
          exact ⟨k, x, by omega, hx, h, hg⟩
theorem mayF_snoc {ms : List Mk} {m : Mk} : ∀ (x : Int), mayF x ms = true → (∀ y ∈ ms, y.a < m.a) → x < m.a → m.a < 4096 → 1 ≤ m.g → m.g ≤ 1099511627776 → mayF x (ms ++ [m]) = true := by
  induction ms with
  | nil => intro x _ _ h1 h2 h3 h4; simp [mayF]; omega
  | cons y r ih =>
    intro x h hall h1 h2 h3 h4
    simp only [mayF, Bool.and_eq_true] at h
    rw [List.cons_append]
    simp only [mayF, Bool.and_eq_true]
    exact ⟨h.1, ih y.a h.2 (fun z hz => hall z (by simp [hz])) (hall y (by simp)) h2 h3 h4⟩
/-- The marks of lives that may be may be. -/
theorem mksP_may {l : List Lf} (hl : l.length ≤ 4096) (hm : ∀ x ∈ l, mayE x) : ∀ k, k ≤ l.length → mayF (-1) (mksP l k) = true
  | 0, _ => rfl
  | k + 1, hk => by
    have ih := mksP_may hl hm k (by omega)
    obtain ⟨x, hx⟩ : ∃ x, l[k]? = some x := ⟨_, List.getElem?_eq_getElem (by omega)⟩
    by_cases hg : x.g = 0
    · rw [mksP_no hx hg]; exact ih
    · rw [mksP_yes hx hg]
      have hmx := (hm x (List.mem_of_getElem? hx)).2.2
      refine mayF_snoc (-1) ih (fun y hy => ?_) (by simp only; omega) (by simp only; omega) (by simp only; omega) (by simp only; omega)
      obtain ⟨i, z, h1, _, h3, _⟩ := mksP_mem k y hy
      rw [h3]
      simp only
      omega
theorem gone_mks {l : List Lf} : ∀ (k i : Nat) (x : Lf), k ≤ l.length → l[i]? = some x → goneA (mksP l k) (i : Int) = if i < k then x.g else 0
  | 0, i, x, _, _ => by simp [mksP, gone_nil]
  | k + 1, i, x, hk, hx => by
    have ih := gone_mks k i x (by omega) hx
    obtain ⟨y, hy⟩ : ∃ y, l[k]? = some y := ⟨_, List.getElem?_eq_getElem (by omega)⟩
    by_cases hg : y.g = 0
    · rw [mksP_no hy hg, ih]
      by_cases e : i = k
      · subst e
        obtain rfl := Option.some.inj (hx.symm.trans hy)
        rw [if_neg (by omega), if_pos (by omega), hg]
      · by_cases h : i < k
        · rw [if_pos h, if_pos (by omega)]
        · rw [if_neg h, if_neg (by omega)]
    · rw [mksP_yes hy hg]
      by_cases e : i = k
      · subst e
        obtain rfl := Option.some.inj (hx.symm.trans hy)
        rw [if_pos (by omega)]
        have := gone_snoc_same (p := mksP l i) (m := ⟨(i : Int), x.g⟩) (fun z hz => by
          obtain ⟨j, u, h1, _, h3, _⟩ := mksP_mem i z hz
          rw [h3]; simp only; omega)
        exact this
      · rw [gone_snoc_other (by simp only; omega), ih]
        by_cases h : i < k
        · rw [if_pos h, if_pos (by omega)]
        · rw [if_neg h, if_neg (by omega)]
/-- Vectors and Lives go there and back. -/
theorem back {l : List Lf} (hl : l.length ≤ 60) (hm : ∀ x ∈ l, mayE x) : May (ofP (l.map (·.b)) l.length) ∧ lvB true (l.map (·.r)) (flat (ofP (l.map (·.b)) l.length)) (mksP l l.length) = true ∧ livesA (l.map (·.r)) (flat (ofP (l.map (·.b)) l.length)) (mksP l l.length) = l := by
  have hi := of_is (l.map (·.b)) l.length (by rw [List.length_map]; exact Nat.le_refl _) (by omega)
  have hf : flat (ofP (l.map (·.b)) l.length) = l.map (·.b) := by rw [hi.flat, List.take_of_length_le (by rw [List.length_map]; exact Nat.le_refl _)]
  have hmay := mksP_may (by omega) hm l.length (Nat.le_refl _)
  refine ⟨hi.may, ?_, ?_⟩
  · unfold lvB arB
    rw [hf, hmay]
    simp only [List.length_map, decide_true, Bool.true_and, Bool.or_eq_true, decide_eq_true_eq]
    by_cases h0 : (mksP l l.length).length = 0
    · exact .inl h0
    · refine .inr ?_
      obtain ⟨m, hmm⟩ : ∃ m, (mksP l l.length)[(mksP l l.length).length - 1]? = some m := ⟨_, List.getElem?_eq_getElem (by omega)⟩
      have hlast : lastA (mksP l l.length) = m.a := by
        have e := take_succ_of hmm
        rw [List.take_of_length_le (by omega)] at e
        rw [e, lastA_snoc]
      obtain ⟨i, x, h1, _, h3, _⟩ := mksP_mem l.length m (List.mem_of_getElem? hmm)
      rw [hlast, h3]
      simp only
      omega
  · rw [hf]
    apply List.ext_getElem?
    intro i
    by_cases h : i < l.length
    · rw [livesA_at (by rw [List.length_map]; exact h)]
      have hx : l[i]? = some l[i] := List.getElem?_eq_getElem h
      rw [hx]
      unfold lifeA
      rw [gone_mks l.length i l[i] (Nat.le_refl _) hx, if_pos h, List.getD_eq_getElem?_getD, List.getD_eq_getElem?_getD, List.getElem?_map, List.getElem?_map, hx]
      rfl
    · rw [List.getElem?_eq_none (by rw [livesA_len, List.length_map]; omega), List.getElem?_eq_none (by omega)]
section
variable {α : Type} {E : World → α → List Value → Prop} {ops : Array Oper} {rest : List Oper} {o : Oper} {a : Act} {Q : Exit → Act → World → Prop} {w : World}
/-- Append of a list of one's own to another. -/
theorem append_src (hgd : o.guard = none) (s x : Operand) (T e : TypeId) (z : Value) (sz bytes : Nat) (ho : o.op = .call { callee := .builtin .append, args := #[s, x], argTypes := #[T, T] })
    (hT : Try.prog.underlying T = some (.slice e)) (hi : (Try.prog.info? e).map (fun i => (i.zero, i.size, i.bytes)) = some (some z, sz, bytes)) (hzs : z.cells.size = sz) (hsz : 0 < sz) (hbl : bytes ≤ 200)
    {w0 : World} {v u : Value} {l1 l2 : List α} (hs : a.eval s = v) (hx : a.eval x = u) (hone : ∀ x cs, E w0 x cs → ∀ u ∈ cs, u.oneCell' = true)
    (hv : OwnS E sz e w0 w v l1) (hu : OwnS E sz e w0 w u l2) (hl : l1.length + l2.length ≤ 1000000)
    (h : ∀ va m vc w', Hid (OwnS E sz e w0 w' (.slice va m vc) (l1 ++ l2)) → Hid (m = l1.length + l2.length) → wpList Try.prog ops Q rest (a.put o.dst (.slice va m vc)) w') :
    wpList Try.prog ops Q (o :: rest) a w := by
  obtain ⟨R1, r1, r2, r3, r4⟩ := hv
  obtain ⟨R2, s1, s2, s3, s4⟩ := hu
  obtain ⟨i0, hi0, hz0, hz1, hz2⟩ := info_parts hi
  have ho2 := rowsE_one s2 hone
  have s1c := s1
  rcases s1 with ⟨rfl, h0⟩ | ⟨g, cap, rfl, q1, q2, q3⟩
  · subst h0
    have hl2 : l2 = [] := List.eq_nil_of_length_eq_zero (by simpa using s2.1.symm)
    subst hl2
    have hle : ∃ ad c, v = .slice ad l1.length c ∧ l1.length ≤ c := by
      rcases r1 with ⟨rfl, h0⟩ | ⟨g, cap, rfl, q1, q2, q3⟩
      · subst h0
        have hl1 : l1 = [] := List.eq_nil_of_length_eq_zero (by simpa using r2.1.symm)
        subst hl1
        exact ⟨none, 0, rfl, Nat.le_refl _⟩
      · exact ⟨_, cap, by rw [r2.1], by rw [← r2.1]; exact q1⟩
    obtain ⟨ad, c, rfl, hc⟩ := hle
    exact append_none hgd s x T e i0 ho hT hi0 hc hs hx (h ad _ c w ⟨R1, r1, by rw [List.append_nil]; exact r2, r3, r4⟩ rfl)
  · rw [s2.1] at hx
    refine append_any hgd s x T e i0 z sz bytes ho hT hi0 hz0 hz1 hz2 hzs hsz hbl hs hx r1 s2.1 s1c.rowlen ((s1c.own hsz).cells rfl) ho2 (l1.length + l2.length) (by rw [r2.1]) (R1 ++ R2) rfl hl ?_
    intro va vc w' k1 k2 k3
    refine h va _ vc w' ⟨R1 ++ R2, k1.out, rowsE_append r2 s2, fun k hk => ?_, r4.trans (k3.out.below (fun k hk => r3 k hk) r4.size)⟩ rfl
    rcases k2.out k hk with q | q
    · exact r3 k q
    · exact Nat.le_trans r4.size q
end
end Go.Proofs.Ytflabcmjbhmphaa
/-
  The walk of law 27's MoverKeeps.
-/
namespace Go.Proofs.Ytflabcmjbhmphaa
open Go.RowKit

set_option maxRecDepth 4000 in
set_option maxHeartbeats 8000000 in
theorem walkMoverKeeps {w : World} (a0 : Option Addr) (n0 c0 : Nat) (h0 : LivesIn w (.slice a0 n0 c0)) (a1 : Option Addr) (n1 c1 : Nat) (h1 : LivesIn w (.slice a1 n1 c1)) (low : Int) (_ : (Lit.int .i64 low).wf = true) :
    Calls Try.prog 6 #[.slice a0 n0 c0, .slice a1 n1 c1, .int .i64 low] w fun e w' => e = .returned (.bool true) ∧ Below w.heap.size w w' := by
  obtain ⟨la, ha, hla, hra⟩ := h0
  obtain ⟨lb, hb, hlb, hrb⟩ := h1
  have HA : Hid (∀ W, Calls Try.prog 8 #[] W fun e w' => e = .returned (.bool true) ∧ Below W.heap.size W w') := awake_any
  have HH : Hid (LfsIs w (.slice a0 n0 c0) la ∧ LfsIs w (.slice a1 n1 c1) lb ∧ (∀ x ∈ la, x.r.length ≤ maxLen) ∧ (∀ x ∈ lb, x.r.length ≤ maxLen) ∧ la.length = n0 ∧ lb.length = n1) := ⟨ha, hb, hra, hrb, ha.len.1, hb.len.1⟩
  have HFIN : Hid (∀ (W w' : World), Below w.heap.size w W → Below W.heap.size W w' → Below w.heap.size w w') := fun W w' h1 h2 => h1.trans (h2.mono h1.size)
  have cl := litL_any ha hra
  clear ha hb hla hlb hra hrb
  go_enter Try.func6, Try.ntmps6
  go_wp2_with fail
  refine cl.mono ?_
  rintro e w1 ⟨⟨q, rfl, hq⟩, hb1⟩
  have HB1 : Hid (Below w.heap.size w w1) := hb1
  clear cl hb1
  cases q with
  | false =>
    clear hq
    go_wp2_with fail
    refine (HA.out _).mono ?_
    rintro e w2 ⟨rfl, hb2⟩
    have HB2 : Hid (Below w.heap.size w w2) := HFIN.out _ _ HB1.out hb2
    clear hb2
    go_wp2_with fail
    go_ret
    exact ⟨rfl, HB2.out⟩
  | true =>
    have HL1 : Hid (litL 30 la) := hq rfl
    clear hq
    go_wp2_with fail
    refine (litL_any (HH.out.2.1.over stays_lf HB1.out) HH.out.2.2.2.1).mono ?_
    rintro e w2 ⟨⟨q, rfl, hq⟩, hb2⟩
    have HB2 : Hid (Below w.heap.size w w2) := HFIN.out _ _ HB1.out hb2
    clear hb2 HB1
    cases q with
    | false =>
      clear hq
      go_wp2_with fail
      refine (HA.out _).mono ?_
      rintro e w3 ⟨rfl, hb3⟩
      have HB3 : Hid (Below w.heap.size w w3) := HFIN.out _ _ HB2.out hb3
      clear hb3
      go_wp2_with fail
      go_ret
      exact ⟨rfl, HB3.out⟩
    | true =>
      have HL2 : Hid (litL 30 lb) := hq rfl
      have HR : Hid (∀ x ∈ la ++ lb, x.r.length ≤ 1000) := fun x hx => by
        rcases List.mem_append.1 hx with h | h
        · have := HL1.out.2 x h; omega
        · have := HL2.out.2 x h; omega
      clear hq
      by_cases hlo : low < 0
      · go_wp2_with fail
        refine (HA.out _).mono ?_
        rintro e w3 ⟨rfl, hb3⟩
        have HB3 : Hid (Below w.heap.size w w3) := HFIN.out _ _ HB2.out hb3
        clear hb3
        go_wp2_with fail
        go_ret
        exact ⟨rfl, HB3.out⟩
      · by_cases hhi : 1099511627776 < low
        · go_wp2_with fail
          refine (HA.out _).mono ?_
          rintro e w3 ⟨rfl, hb3⟩
          have HB3 : Hid (Below w.heap.size w w3) := HFIN.out _ _ HB2.out hb3
          clear hb3
          go_wp2_with fail
          go_ret
          exact ⟨rfl, HB3.out⟩
        · have HN : Hid (n0 ≤ 30 ∧ n1 ≤ 30) := ⟨by have := HL1.out.1; have := HH.out.2.2.2.2.1; omega, by have := HL2.out.1; have := HH.out.2.2.2.2.2; omega⟩
          have HLO : Hid (0 ≤ low ∧ low ≤ 1099511627776) := by unfold Hid; omega
          have hws : IntKind.i64.wrap ((n0 : Int) + (n1 : Int)) = (n0 : Int) + (n1 : Int) := by have := HN.out; rw [IntKind.wrap_i64]; omega
          go_wp2_with fail
          clear hlo hhi
          go_loopg [7] (n0 + n1) (fun gg s7 wx => ∃ i : Nat, i + gg = n0 + n1 ∧ s7 = .int .i64 i ∧ Hid (∀ (j : Nat) (x : Lf), j < i → (la ++ lb)[j]? = some x → mayE x) ∧ Hid (Below w.heap.size w wx))
          case atStart => exact ⟨0, by omega, rfl, fun j x hj => by omega, HB2.out⟩
          case round =>
            obtain ⟨i, hig, rfl, HL, HB⟩ := hrel
            clear HB2
            by_cases hi : i < n0 + n1
            · have hiI : (i : Int) < (n0 : Int) + (n1 : Int) := by omega
              have hr2 : IntKind.i64.wrap ((i : Int) + 1) = (i : Int) + 1 := by have := HN.out; rw [IntKind.wrap_i64]; omega
              by_cases hA : i < n0
              · have hAI : (i : Int) < (n0 : Int) := by omega
                obtain ⟨x, b, off, a2, n2, c2, hx, rfl, _, c00, c10, c30, hv, hn2, _⟩ := at_lf (HH.out.1.over stays_lf HB.out) hA
                have hxx : (la ++ lb)[i]? = some x := by rw [List.getElem?_append_left (by have := HH.out.2.2.2.2.1; omega)]; exact hx
                obtain ⟨z, hz⟩ : ∃ z, z = x.b.toInt := ⟨_, rfl⟩
                rw [← hz] at c10
                obtain ⟨g, hg⟩ : ∃ g, g = x.g := ⟨_, rfl⟩
                rw [← hg] at c30
                have hrl : x.r.length ≤ 1000 := HR.out x (List.mem_of_getElem? hxx)
                have hone : (#[.slice a2 n2 c2, .int .i64 z, .int .i64 g] : Array Value).all (fun c => c.oneCell') = true := one_three (by intro u hu; simp only [List.mem_cons, List.not_mem_nil, or_false] at hu; rcases hu with rfl | rfl | rfl <;> rfl)
                obtain ⟨W1, hW1⟩ : ∃ W1, W1 = (wr.alloc (.cells #[.slice none 0 0, .int .i64 0, .int .i64 0] 61)).setRow wr.heap.size #[.slice a2 n2 c2, .int .i64 z, .int .i64 g] := ⟨_, rfl⟩
                have bW : Below wr.heap.size wr W1 := by rw [hW1]; exact below_setRow (below1 wr _) (Nat.le_refl _) _
                have BW : Box W1 wr.heap.size 61 #[.slice a2 n2 c2, .int .i64 z, .int .i64 g] := by rw [hW1]; exact (box_new wr _ _).setRow _
                have HZ : Hid (∀ z, Box (wr.alloc (.cells z 61)) wr.heap.size 61 z) := fun z => box_new wr z _
                have hcall := refMayL_any (w := W1) (x := x) (b := z) (g := g) (hv.over stays_c bW) hrl hz hg
                have HX : Hid ((la ++ lb)[i]? = some x ∧ Below w.heap.size w W1) := ⟨hxx, HFIN.out _ _ HB.out bW⟩
                obtain ⟨Bp, hBp⟩ : ∃ Bp, Bp = wr.heap.size := ⟨_, rfl⟩
                rw [← hBp] at BW
                have HW : Hid (W1 = (wr.alloc (.cells #[.slice none 0 0, .int .i64 0, .int .i64 0] 61)).setRow wr.heap.size #[.slice a2 n2 c2, .int .i64 z, .int .i64 g] ∧ Bp = wr.heap.size ∧ Box W1 Bp 61 #[.slice a2 n2 c2, .int .i64 z, .int .i64 g]) := ⟨hW1, hBp, BW⟩
                have HCL : Hid (Calls Try.prog 26 #[.agg #[.slice a2 n2 c2, .int .i64 z, .int .i64 g]] W1 fun e w' => (∃ q, e = .returned (.bool q) ∧ (q = true → mayE x)) ∧ Below W1.heap.size W1 w') := hcall
                clear hx hxx hz hg hv hn2 hrl hW1 bW BW hBp hcall
                go_wp2_with (refine wpList_store_row rfl 61 _ _ rfl wr.heap.size _ rfl rfl 61 _ (HZ.out _) size_lf rfl hone ?_; rw [← HW.out.1, ← HW.out.2.1]; have b0 := HW.out.2.2.cell 0 _ rfl; have b1 := HW.out.2.2.cell 1 _ rfl; have b2 := HW.out.2.2.cell 2 _ rfl; clear c00 c10 c30)
                refine HCL.out.mono ?_
                rintro e w3 ⟨⟨q, rfl, hq⟩, hb3⟩
                have H3 : Hid (Below w.heap.size w w3) := HFIN.out _ _ HX.out.2 hb3
                have HQ : Hid (q = true → mayE x) := hq
                clear HCL hb3 hq b0 b1 b2
                cases q with
                | false =>
                  go_wp2_with fail
                  refine (HA.out _).mono ?_
                  rintro e w4 ⟨rfl, hb4⟩
                  have HB4 : Hid (Below w.heap.size w w4) := HFIN.out _ _ H3.out hb4
                  clear hb4
                  go_wp2_with fail
                  go_ret
                  exact ⟨rfl, HB4.out⟩
                | true =>
                  go_wp2_with fail
                  go_roundg (n0 + n1 - (i + 1))
                  case measure => clear hr2 hws; omega
                  case rel => exact ⟨i + 1, by clear hr2 hws; omega, by go_num, fun t y ht hy => by
                    by_cases e : t = i
                    · subst e
                      obtain rfl := Option.some.inj (HX.out.1.symm.trans hy)
                      exact HQ.out (by trivial)
                    · exact HL.out t y (by clear hr2 hws; omega) hy, H3⟩
              · have hAI : ¬ (i : Int) < (n0 : Int) := by omega
                obtain ⟨j, hj⟩ : ∃ j, j = i - n0 := ⟨_, rfl⟩
                have hjl : j < n1 := by omega
                have hsub : IntKind.i64.wrap ((i : Int) - (n0 : Int)) = (j : Int) := by have := HN.out; rw [IntKind.wrap_i64]; omega
                obtain ⟨x, b, off, a2, n2, c2, hx, rfl, _, c00, c10, c30, hv, hn2, _⟩ := at_lf (HH.out.2.1.over stays_lf HB.out) hjl
                have hxx : (la ++ lb)[i]? = some x := by rw [List.getElem?_append_right (by have := HH.out.2.2.2.2.1; omega), HH.out.2.2.2.2.1, ← hj]; exact hx
                clear hj
                obtain ⟨z, hz⟩ : ∃ z, z = x.b.toInt := ⟨_, rfl⟩
                rw [← hz] at c10
                obtain ⟨g, hg⟩ : ∃ g, g = x.g := ⟨_, rfl⟩
                rw [← hg] at c30
                have hrl : x.r.length ≤ 1000 := HR.out x (List.mem_of_getElem? hxx)
                have hone : (#[.slice a2 n2 c2, .int .i64 z, .int .i64 g] : Array Value).all (fun c => c.oneCell') = true := one_three (by intro u hu; simp only [List.mem_cons, List.not_mem_nil, or_false] at hu; rcases hu with rfl | rfl | rfl <;> rfl)
                obtain ⟨W1, hW1⟩ : ∃ W1, W1 = (wr.alloc (.cells #[.slice none 0 0, .int .i64 0, .int .i64 0] 61)).setRow wr.heap.size #[.slice a2 n2 c2, .int .i64 z, .int .i64 g] := ⟨_, rfl⟩
                have bW : Below wr.heap.size wr W1 := by rw [hW1]; exact below_setRow (below1 wr _) (Nat.le_refl _) _
                have BW : Box W1 wr.heap.size 61 #[.slice a2 n2 c2, .int .i64 z, .int .i64 g] := by rw [hW1]; exact (box_new wr _ _).setRow _
                have HZ : Hid (∀ z, Box (wr.alloc (.cells z 61)) wr.heap.size 61 z) := fun z => box_new wr z _
                have hcall := refMayL_any (w := W1) (x := x) (b := z) (g := g) (hv.over stays_c bW) hrl hz hg
                have HX : Hid ((la ++ lb)[i]? = some x ∧ Below w.heap.size w W1) := ⟨hxx, HFIN.out _ _ HB.out bW⟩
                obtain ⟨Bp, hBp⟩ : ∃ Bp, Bp = wr.heap.size := ⟨_, rfl⟩
                rw [← hBp] at BW
                have HW : Hid (W1 = (wr.alloc (.cells #[.slice none 0 0, .int .i64 0, .int .i64 0] 61)).setRow wr.heap.size #[.slice a2 n2 c2, .int .i64 z, .int .i64 g] ∧ Bp = wr.heap.size ∧ Box W1 Bp 61 #[.slice a2 n2 c2, .int .i64 z, .int .i64 g]) := ⟨hW1, hBp, BW⟩
                have HCL : Hid (Calls Try.prog 26 #[.agg #[.slice a2 n2 c2, .int .i64 z, .int .i64 g]] W1 fun e w' => (∃ q, e = .returned (.bool q) ∧ (q = true → mayE x)) ∧ Below W1.heap.size W1 w') := hcall
                clear hx hxx hz hg hv hn2 hrl hW1 bW BW hBp hcall
                go_wp2_with (refine wpList_store_row rfl 61 _ _ rfl wr.heap.size _ rfl rfl 61 _ (HZ.out _) size_lf rfl hone ?_; rw [← HW.out.1, ← HW.out.2.1]; have b0 := HW.out.2.2.cell 0 _ rfl; have b1 := HW.out.2.2.cell 1 _ rfl; have b2 := HW.out.2.2.cell 2 _ rfl; clear c00 c10 c30)
                refine HCL.out.mono ?_
                rintro e w3 ⟨⟨q, rfl, hq⟩, hb3⟩
                have H3 : Hid (Below w.heap.size w w3) := HFIN.out _ _ HX.out.2 hb3
                have HQ : Hid (q = true → mayE x) := hq
                clear HCL hb3 hq b0 b1 b2
                cases q with
                | false =>
                  go_wp2_with fail
                  refine (HA.out _).mono ?_
                  rintro e w4 ⟨rfl, hb4⟩
                  have HB4 : Hid (Below w.heap.size w w4) := HFIN.out _ _ H3.out hb4
                  clear hb4
                  go_wp2_with fail
                  go_ret
                  exact ⟨rfl, HB4.out⟩
                | true =>
                  go_wp2_with fail
                  go_roundg (n0 + n1 - (i + 1))
                  case measure => clear hr2 hws hsub; omega
                  case rel => exact ⟨i + 1, by clear hr2 hws hsub; omega, by go_num, fun t y ht hy => by
                    by_cases e : t = i
                    · subst e
                      obtain rfl := Option.some.inj (HX.out.1.symm.trans hy)
                      exact HQ.out (by trivial)
                    · exact HL.out t y (by clear hr2 hws hsub; omega) hy, H3⟩
            · have hiI : ¬ (i : Int) < (n0 : Int) + (n1 : Int) := by omega
              have HMG : Hid ((mergeA la lb low).length ≤ 60 ∧ (∀ x ∈ mergeA la lb low, x.r.length ≤ 20) ∧ ∀ x ∈ mergeA la lb low, mayE x) := ⟨(merge_lit HL1.out HL2.out).1, (merge_lit HL1.out HL2.out).2, fun x hx => by
                obtain ⟨j, hj⟩ := List.getElem?_of_mem (List.mem_filter.1 hx).1
                refine HL.out j x ?_ hj
                have q1 := (List.getElem?_eq_some_iff.1 hj).1
                have q2 := HH.out.2.2.2.2.1
                have q3 := HH.out.2.2.2.2.2
                rw [List.length_append] at q1
                omega⟩
              clear HL
              go_wp2_with fail
              refine (merge_any (HH.out.1.over stays_lf HB.out) (HH.out.2.1.over stays_lf HB.out) (by have := HL1.out.1; omega) (by have := HL2.out.1; omega) HR.out low).mono ?_
              rintro e w3 ⟨v3, rfl, s3, hb3⟩
              have H3 : Hid (Below w.heap.size w w3 ∧ LfsIs w3 v3 (mergeA la lb low)) := ⟨HFIN.out _ _ HB.out hb3, s3⟩
              obtain ⟨a3, n3, c3, rfl, _, _⟩ := s3.slice
              clear s3 hb3 HB
              go_wp2_with fail
              refine (vectors_any H3.out.2 (by have := HMG.out.1; omega) (fun x hx => by have := HMG.out.2.1 x hx; omega)).mono ?_
              rintro e w4 ⟨r4, b4, m4, rfl, sr4, sb4, sm4, hb4⟩
              have H4 : Hid (Below w.heap.size w w4 ∧ LfsIs w4 (.slice a3 n3 c3) (mergeA la lb low)) := ⟨HFIN.out _ _ H3.out.1 hb4, H3.out.2.over stays_lf hb4⟩
              have H4b : Hid (RwsIs w4 r4 ((mergeA la lb low).map (·.r)) ∧ RunsIs w4 b4 (ofP ((mergeA la lb low).map (·.b)) (mergeA la lb low).length) ∧ MksIs w4 m4 (mksP (mergeA la lb low) (mergeA la lb low).length)) := ⟨sr4, sb4, sm4⟩
              obtain ⟨ar4, nr4, cr4, rfl, _, _⟩ := sr4.slice
              obtain ⟨ab4, nb4, cb4, rfl, _, _⟩ := sb4.slice
              obtain ⟨am4, nm4, cm4, rfl, _, _⟩ := sm4.slice
              clear sr4 sb4 sm4 hb4 H3
              go_wp2_with fail
              refine (lives_any H4b.out.1 H4b.out.2.1 H4b.out.2.2 (by rw [List.length_map]; have := HMG.out.1; omega) (by have := ofP_len ((mergeA la lb low).map (·.b)) (mergeA la lb low).length; have := HMG.out.1; omega) (by have := mksP_len (mergeA la lb low) (mergeA la lb low).length; have := HMG.out.1; omega) (fun r hr => by
                obtain ⟨x, hx, rfl⟩ := List.mem_map.1 hr
                have := HMG.out.2.1 x hx; omega) true ⟨fun _ => (back HMG.out.1 HMG.out.2.2).1, fun _ => rfl⟩).mono ?_
              rintro e w5 ⟨he, hb5⟩
              rw [(back HMG.out.1 HMG.out.2.2).2.1, if_pos rfl, (back HMG.out.1 HMG.out.2.2).2.2] at he
              obtain ⟨v5, rfl, s5⟩ := he
              have H5 : Hid (Below w.heap.size w w5 ∧ LfsIs w5 (.slice a3 n3 c3) (mergeA la lb low) ∧ LfsIs w5 v5 (mergeA la lb low)) := ⟨HFIN.out _ _ H4.out.1 hb5, H4.out.2.over stays_lf hb5, s5⟩
              obtain ⟨a5, n5, c5, rfl, _, _⟩ := s5.slice
              clear s5 hb5 H4 H4b
              go_wp2_with fail
              refine (sameL_any H5.out.2.2 H5.out.2.1 (by have := HMG.out.1; omega) (fun x hx => by have := HMG.out.2.1 x hx; omega)).mono ?_
              rintro e w6 ⟨rfl, hb6⟩
              have H6 : Hid (Below w.heap.size w w6 ∧ LfsIs w6 (.slice a3 n3 c3) (mergeA la lb low)) := ⟨HFIN.out _ _ H5.out.1 hb6, H5.out.2.1.over stays_lf hb6⟩
              have H6b : Hid (LfsIs w6 (.slice a0 n0 c0) la ∧ LfsIs w6 (.slice a1 n1 c1) lb) := ⟨HH.out.1.over stays_lf H6.out.1, HH.out.2.1.over stays_lf H6.out.1⟩
              clear hb6 H5
              go_wp2_with fail
              go_loopg [15] 16 (fun gg s15 wx => ∃ k : Nat, k + gg = 16 ∧ s15 = .int .i64 k ∧ Hid (Below w6.heap.size w6 wx))
              case atStart => exact ⟨0, by omega, rfl, Below.refl _ _⟩
              case round =>
                obtain ⟨k, hkg, rfl, HK⟩ := hrel
                by_cases hk : k < 16
                · have hkI : (k : Int) < 16 := by omega
                  have hr2 : IntKind.i64.wrap ((k : Int) + 1) = (k : Int) + 1 := by rw [IntKind.wrap_i64]; omega
                  obtain ⟨lk, hlk⟩ : ∃ x, x = low + (k : Int) := ⟨_, rfl⟩
                  have hlw : IntKind.i64.wrap (low + (k : Int)) = lk := by have := HLO.out; rw [IntKind.wrap_i64]; omega
                  have HLK : Hid (low ≤ lk) := by unfold Hid; omega
                  have HFI : Hid (∀ (W w' : World), Below w6.heap.size w6 W → Below W.heap.size W w' → Below w6.heap.size w6 w') := fun W w' h1 h2 => h1.trans (h2.mono h1.size)
                  have HL30 : Hid (la.length ≤ 30 ∧ lb.length ≤ 30) := ⟨HL1.out.1, HL2.out.1⟩
                  clear hlk
                  go_wp2_with fail
                  refine (seen_any H6b.out.1 HK.out (by have := HL30.out.1; omega) lk).mono ?_
                  rintro e w7 ⟨v7, rfl, s7, hb7⟩
                  have H7 : Hid (OwnS RwE 1 40 w6 w7 v7 (seenA la lk) ∧ Below w6.heap.size w6 w7) := ⟨s7, HFI.out _ _ HK.out hb7⟩
                  have HN7 : Hid (OwnS RwE 1 40 w6 w7 (.slice none 0 0) ([] : List (List Cl))) := ownS_nil _ _ _ H7.out.2
                  obtain ⟨a7, n7, c7, rfl, _, _⟩ := (s7.is stays_rw).slice
                  clear s7 hb7 HK
                  go_wp2_with (at_builtin; refine append_src rfl (.tmp 92) (.tmp 97) 26 40 (.slice none 0 0) 1 24 rfl Try.underlying26 infos_rw rfl (by decide) (by decide) rfl rfl (fun _ _ h => one_rw h) HN7.out H7.out.1 (by have := seenA_len la lk; have := HL30.out.1; simp only [List.length_nil]; omega) ?_; intro va8 m8 vc8 w8 H8 HM8)
                  refine (seen_any H6b.out.2 H8.out.bel (by have := HL30.out.2; omega) lk).mono ?_
                  rintro e w9 ⟨v9, rfl, s9, hb9⟩
                  have H9 : Hid (OwnS RwE 1 40 w6 w9 v9 (seenA lb lk) ∧ OwnS RwE 1 40 w6 w9 (.slice va8 m8 vc8) ([] ++ seenA la lk)) := ⟨s9, H8.out.over hb9⟩
                  obtain ⟨a9, n9, c9, rfl, _, _⟩ := (s9.is stays_rw).slice
                  clear s9 hb9 H8 H7 HN7 HM8
                  go_wp2_with (at_builtin; refine append_src rfl (.tmp 99) (.tmp 104) 26 40 (.slice none 0 0) 1 24 rfl Try.underlying26 infos_rw rfl (by decide) (by decide) rfl rfl (fun _ _ h => one_rw h) H9.out.2 H9.out.1 (by have := seenA_len la lk; have := seenA_len lb lk; have := HL30.out; simp only [List.nil_append]; omega) ?_; intro va10 m10 vc10 w10 H10 HM10)
                  refine (seen_any H6.out.2 H10.out.bel (by have := HMG.out.1; omega) lk).mono ?_
                  rintro e w11 ⟨v11, rfl, s11, hb11⟩
                  have H11 : Hid (OwnS RwE 1 40 w6 w11 v11 (seenA (mergeA la lb low) lk) ∧ OwnS RwE 1 40 w6 w11 (.slice va10 m10 vc10) (seenA (mergeA la lb low) lk)) := ⟨s11, by
                    have := H10.out.over hb11
                    rw [List.nil_append, ← seen_merge HLK.out] at this
                    exact this⟩
                  obtain ⟨a11, n11, c11, rfl, _, _⟩ := (s11.is stays_rw).slice
                  clear s11 hb11 H10 H9 HM10
                  go_wp2_with fail
                  refine (sameRows_any (H11.out.1.is stays_rw) (H11.out.2.is stays_rw) (by have := seenA_len (mergeA la lb low) lk; have := HMG.out.1; omega) (seenA_rows (fun x hx => by have := HMG.out.2.1 x hx; omega))).mono ?_
                  rintro e w12 ⟨rfl, hb12⟩
                  have H12 : Hid (Below w6.heap.size w6 w12) := HFI.out _ _ H11.out.1.bel hb12
                  clear hb12 H11
                  go_wp2_with fail
                  go_roundg (16 - (k + 1))
                  case measure => clear hr2 hlw; omega
                  case rel => exact ⟨k + 1, by clear hr2 hlw; omega, by go_num, H12⟩
                · have hkI : ¬ (k : Int) < 16 := by omega
                  have HF : Hid (Below w.heap.size w wr) := HFIN.out _ _ H6.out.1 HK.out
                  clear HK
                  go_wp2_with fail
                  refine (HA.out _).mono ?_
                  rintro e w7 ⟨rfl, hb7⟩
                  have H7 : Hid (Below w.heap.size w w7) := HFIN.out _ _ HF.out hb7
                  clear hb7
                  go_wp2_with fail
                  go_ret
                  exact ⟨rfl, H7.out⟩
end Go.Proofs.Ytflabcmjbhmphaa
