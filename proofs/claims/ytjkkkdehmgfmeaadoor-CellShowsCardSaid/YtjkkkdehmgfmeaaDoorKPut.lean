/-
  A cell's bytes, and a row's: the contracts of package cell's put and Put.
-/
import Derived.Test.YtjkkkdehmgfmeaaDoorKRow
import Derived.Test.YtjkkkdehmgfmeaaDoorKApp
import Derived.Test.YtjkkkdehmgfmeaaDoorVPut
namespace Go.Proofs.YtjkkkdehmgfmeaaDoor
open Go.RowKit

/-- A cell's bytes. -/
def bytesC (c : Cl) : List UInt8 :=
  if c.k = 1 then 1 :: enc1 (BitVec.ofInt 64 c.n) else if c.k = 2 then 2 :: UInt8.ofNat c.s.size :: c.s.data.toList else [0]
/-- Its number is an int. -/
def okC (c : Cl) : Prop := -9223372036854775808 ≤ c.n ∧ c.n ≤ 9223372036854775807
theorem may_kind {c : Cl} (h : mayC c = true) : (c.k = 0 ∧ c.n = 0 ∧ c.s.size = 0) ∨ (c.k = 1 ∧ c.s.size = 0) ∨ (c.k = 2 ∧ c.n = 0 ∧ c.s.size ≤ 32) := by
  unfold mayC at h
  simp only [Bool.or_eq_true, Bool.and_eq_true, beq_iff_eq, decide_eq_true_eq] at h
  rcases h with (h | h) | h
  · exact .inl h
  · exact .inr (.inl h)
  · exact .inr (.inr h)
theorem bytesC_len {c : Cl} (h : mayC c = true) : 1 ≤ (bytesC c).length ∧ (bytesC c).length ≤ 34 := by
  have hs := Lib.size_eq c.s
  rcases may_kind h with ⟨h1, _⟩ | ⟨h1, _⟩ | ⟨h1, _, h3⟩
  · simp [bytesC, h1]
  · have := lenW_bd (zigW (BitVec.ofInt 64 c.n))
    simp only [bytesC, h1, if_true, List.length_cons, enc1_len]
    omega
  · simp only [bytesC, h1, if_true]
    rw [if_neg (by decide)]
    simp only [List.length_cons]
    omega
theorem small_u8 {n : Nat} (h : n ≤ 255) : (n : Int) = ((UInt8.ofNat n).toNat : Int) := by
  rw [UInt8.toNat_ofNat', Nat.mod_eq_of_lt (by omega)]

set_option maxHeartbeats 1000000 in
set_option maxRecDepth 4000 in
theorem putC_any (B : Nat) (v : Value) (l : List UInt8) (c : Cl) (w : World) (hm : mayC c = true) (hok : okC c) (hown : OwnsB w B v l) (hB : B ≤ w.heap.size) (hl : l.length ≤ 900000) :
    Calls Tryd.prog 33 #[v, cv c] w fun e w' => (∃ v', e = .returned v' ∧ OwnsB w' B v' (l ++ bytesC c)) ∧ Below B w w' := by
  obtain ⟨k, n, s⟩ := c
  simp only [cv]
  have hb0 : B ≤ (w.alloc (.cells #[.int .i64 k, .int .i64 n, .string s] 23)).heap.size := by simp; omega
  have ho0 : OwnsB (w.alloc (.cells #[.int .i64 k, .int .i64 n, .string s] 23)) B v l := World.ownsRow.alloc hown _
  have bx0 := box_new w #[.int .i64 k, .int .i64 n, .string s] 23
  have hnt : 5 ≠ 23 := by decide
  rcases may_kind hm with ⟨h1, h2, h3⟩ | ⟨h1, h2⟩ | ⟨h1, h2, h3⟩
  · simp only at h1 h2 h3
    subst h1 h2
    have HE : Hid (bytesC ⟨0, 0, s⟩ = [0]) := by unfold Hid bytesC; simp
    have HN : Hid ((0 : Int) = ((0 : UInt8).toNat : Int)) := rfl
    have HO : Hid (OwnsB (w.alloc (.cells #[.int .i64 0, .int .i64 0, .string s] 23)) B v l ∧ Box (w.alloc (.cells #[.int .i64 0, .int .i64 0, .string s] 23)) w.heap.size 23 #[.int .i64 0, .int .i64 0, .string s]) := ⟨ho0, bx0⟩
    clear hm hok h3 ho0 bx0 hown
    go_enter Tryd.func33, Tryd.ntmps33
    go_wp2_with (at_builtin; (refine append_u8k rfl (.tmp 5) (.tmp 9) rfl rfl rfl ?hp HN.out HO.out.1 hb0 ?hl ?_; (case hp => simp); (case hl => omega); intro v3 w3 hown3 hk3; have bx3 := HO.out.2.kept hk3 (own_ne_box HO.out.1 HO.out.2 hnt); have q0 := bx3.cell 0 _ rfl; have HB3 : Hid (Below B w w3) := ((Below.refl _ _).alloc hB _).trans (kept_own_below HO.out.1 hk3 hb0); clear hk3))
    go_ret
    exact ⟨⟨_, rfl, by rw [HE.out]; exact hown3⟩, HB3.out⟩
  · simp only at h1 h2
    subst h1
    have hn := Wd.word_of_le n hok.1 hok.2
    obtain ⟨x, hx⟩ : ∃ x, x = BitVec.ofInt 64 n := ⟨_, rfl⟩
    rw [← hx] at hn
    have HE : Hid (bytesC ⟨1, n, s⟩ = 1 :: enc1 x) := by unfold Hid bytesC; rw [hx]; simp
    have HN : Hid ((1 : Int) = ((1 : UInt8).toNat : Int)) := rfl
    have hlen := enc1_len x
    have hbd := lenW_bd (zigW x)
    clear hx hm hok h2
    subst hn
    have HO : Hid (OwnsB (w.alloc (.cells #[.int .i64 1, .int .i64 x.toInt, .string s] 23)) B v l ∧ Box (w.alloc (.cells #[.int .i64 1, .int .i64 x.toInt, .string s] 23)) w.heap.size 23 #[.int .i64 1, .int .i64 x.toInt, .string s]) := ⟨ho0, bx0⟩
    clear ho0 bx0 hown
    go_enter Tryd.func33, Tryd.ntmps33
    go_wp2_with (first
      | (at_builtin; (refine append_u8k rfl (.tmp 5) (.tmp 9) rfl rfl rfl ?hp HN.out HO.out.1 hb0 ?hl ?_; (case hp => simp); (case hl => omega); intro v3 w3 hown3 hk3; have bx3 := HO.out.2.kept hk3 (own_ne_box HO.out.1 HO.out.2 hnt); have q0 := bx3.cell 0 _ rfl; have q1 := bx3.cell 1 _ rfl; have HB3 : Hid (Below B w w3) := ((Below.refl _ _).alloc hB _).trans (kept_own_below HO.out.1 hk3 hb0); have HO3 : Hid (OwnsB w3 B v3 (l ++ [1])) := hown3; clear hk3 bx3 hown3))
      | (go_at_call 48; refine (put_any _ _).mono ?_; rintro e w4 ⟨rfl, hb4⟩; have HO4 : Hid (OwnsB w4 B v3 (l ++ [1])) := HO3.out.below hb4; have HB4 : Hid (Below B w w4) := HB3.out.trans (hb4.mono (by have := HB3.out.size; omega)); clear hb4)
      | (at_builtin; (refine append_strk rfl (.tmp 15) (.tmp 18) rfl (str (enc1 x)) rfl rfl HO4.out ?hB2 ?hl2 ?_; (case hB2 => have := HB4.out.size; omega); (case hl2 => rw [str_size]; simp; omega); intro v5 w5 hown5 hk5; have HB5 : Hid (Below B w w5) := HB4.out.trans (kept_own_below HO4.out hk5 (by have := HB4.out.size; omega)); clear hk5)))
    go_ret
    refine ⟨⟨_, rfl, ?_⟩, HB5.out⟩
    rw [HE.out]
    simpa [str_list] using hown5
  · simp only at h1 h2 h3
    subst h1 h2
    have HE : Hid (bytesC ⟨2, 0, s⟩ = 2 :: UInt8.ofNat s.size :: s.data.toList) := by unfold Hid bytesC; simp
    have HN : Hid ((2 : Int) = ((2 : UInt8).toNat : Int)) := rfl
    have hs256 : (s.size : Int) < 256 := by omega
    have HM : Hid ((s.size : Int) = ((UInt8.ofNat s.size).toNat : Int)) := small_u8 (by omega)
    have HO : Hid (OwnsB (w.alloc (.cells #[.int .i64 2, .int .i64 0, .string s] 23)) B v l ∧ Box (w.alloc (.cells #[.int .i64 2, .int .i64 0, .string s] 23)) w.heap.size 23 #[.int .i64 2, .int .i64 0, .string s]) := ⟨ho0, bx0⟩
    have hr8 : IntKind.u8.wrap (s.size : Int) = (s.size : Int) := by rw [IntKind.wrap_u8]; omega
    clear hm hok ho0 bx0 hown
    go_enter Tryd.func33, Tryd.ntmps33
    go_wp2_with (first
      | (at_builtin; (refine append_u8k rfl (.tmp 5) (.tmp 9) rfl rfl rfl ?hp HN.out HO.out.1 hb0 ?hl ?_; (case hp => simp); (case hl => omega); intro v3 w3 hown3 hk3; have bx3 := HO.out.2.kept hk3 (own_ne_box HO.out.1 HO.out.2 hnt); have q0 := bx3.cell 0 _ rfl; have q2 := bx3.cell 2 _ rfl; have HB3 : Hid (Below B w w3) := ((Below.refl _ _).alloc hB _).trans (kept_own_below HO.out.1 hk3 hb0); have HO3 : Hid (OwnsB w3 B v3 (l ++ [2]) ∧ Box w3 w.heap.size 23 #[.int .i64 2, .int .i64 0, .string s]) := ⟨hown3, bx3⟩; clear hk3 bx3 hown3))
      | (at_builtin; (refine append_u8k rfl (.tmp 22) (.tmp 27) rfl rfl rfl rfl HM.out HO3.out.1 ?hB1 ?hl1 ?_; (case hB1 => have := HB3.out.size; omega); (case hl1 => simp; omega); intro v4 w4 hown4 hk4; have bx4 := HO3.out.2.kept hk4 (own_ne_box HO3.out.1 HO3.out.2 hnt); have r2 := bx4.cell 2 _ rfl; have HB4 : Hid (Below B w w4) := HB3.out.trans (kept_own_below HO3.out.1 hk4 (by have := HB3.out.size; omega)); have HO4 : Hid (OwnsB w4 B v4 ((l ++ [2]) ++ [UInt8.ofNat s.size])) := hown4; clear hk4 bx4 hown4))
      | (at_builtin; (refine append_strk rfl (.tmp 29) (.tmp 31) rfl s rfl rfl HO4.out ?hB2 ?hl2 ?_; (case hB2 => have := HB4.out.size; omega); (case hl2 => simp; omega); intro v5 w5 hown5 hk5; have HB5 : Hid (Below B w w5) := HB4.out.trans (kept_own_below HO4.out hk5 (by have := HB4.out.size; omega)); clear hk5)))
    go_ret
    refine ⟨⟨_, rfl, ?_⟩, HB5.out⟩
    rw [HE.out]
    simpa using hown5

/-- A row's bytes, if it may be put. -/
def putL (r : List Cl) : List UInt8 := UInt8.ofNat r.length :: r.flatMap bytesC
def putOk (r : List Cl) : Bool := decide (r.length ≤ 255) && r.all mayC
/-- What Put answers. -/
def putA (r : List Cl) : ByteArray × Int := if putOk r = true then (str (putL r), 0) else (⟨#[]⟩, 1)
theorem flat_len {r : List Cl} (h : ∀ c ∈ r, mayC c = true) : (r.flatMap bytesC).length ≤ 34 * r.length := by
  induction r with
  | nil => simp
  | cons c r ih =>
    have h1 := (bytesC_len (h c (by simp))).2
    have h2 := ih fun x hx => h x (by simp [hx])
    simp only [List.flatMap_cons, List.length_append, List.length_cons]
    omega
theorem flat_snoc {r : List Cl} {i : Nat} {c : Cl} (h : r[i]? = some c) : (r.take (i + 1)).flatMap bytesC = (r.take i).flatMap bytesC ++ bytesC c := by
  rw [List.take_add_one, h]
  simp
theorem putA_long {r : List Cl} (h : 255 < r.length) : putA r = (⟨#[]⟩, 1) := by
  unfold putA putOk
  rw [decide_eq_false (by omega)]
  rfl
theorem putA_bad {r : List Cl} {i : Nat} {c : Cl} (h : r[i]? = some c) (hc : mayC c = false) : putA r = (⟨#[]⟩, 1) := by
  have : r.all mayC = false := by
    rw [List.all_eq_false]
    exact ⟨c, List.mem_of_getElem? h, by rw [hc]; simp⟩
  unfold putA putOk
  rw [this, Bool.and_false]
  rfl
theorem putA_ok {r : List Cl} (h : r.length ≤ 255) (hc : ∀ (i : Nat) (c : Cl), r[i]? = some c → mayC c = true) : putA r = (str (putL r), 0) := by
  have : r.all mayC = true := by
    rw [List.all_eq_true]
    intro c hm
    obtain ⟨i, hi⟩ := List.getElem?_of_mem hm
    exact hc i c hi
  unfold putA putOk
  rw [this, decide_eq_true h]
  rfl
theorem retT2 {a b : ByteArray} {x y : Int} (h : (b, y) = (a, x)) : Ending.returned (.tuple #[.string a, .int .i64 x]) = .returned (.tuple #[.string b, .int .i64 y]) := by
  obtain ⟨rfl, rfl⟩ := Prod.mk.inj h
  rfl

set_option maxRecDepth 4000 in
set_option maxHeartbeats 4000000 in
theorem putRow_any (w : World) (v : Value) (r : List Cl) (h : RowIs w v r) (hok : ∀ (i : Nat) (c : Cl), r[i]? = some c → okC c) (hm : r.length ≤ maxLen) :
    Calls Tryd.prog 17 #[v] w fun e w' => e = .returned (.tuple #[.string (putA r).1, .int .i64 (putA r).2]) ∧ Below w.heap.size w w' := by
  unfold maxLen at hm
  obtain ⟨a, cap, rfl, h⟩ := h
  obtain ⟨n, hn⟩ : ∃ n, n = r.length := ⟨_, rfl⟩
  rw [← hn] at hm
  rw [← hn]
  by_cases hl : (255 : Int) < (n : Int)
  · have HE : Hid (((putA r).1, (putA r).2) = (⟨#[]⟩, 1)) := putA_long (by omega)
    clear h hok hn
    go_enter Tryd.func17, Tryd.ntmps17
    go_wp2_with fail
    go_ret2
    exact ⟨retT2 HE.out, Below.refl _ _⟩
  · have HN : Hid (n = r.length) := hn
    have HO : Hid (∀ (i : Nat) (c : Cl), r[i]? = some c → okC c) := hok
    have HH : Hid (r ≠ [] → ∃ b off, a = some ⟨b, off, none⟩ ∧ b < w.heap.size ∧ ∀ i c, r[i]? = some c → CellAt w b (off + i * 3) c) := h
    have hn256 : (n : Int) < 256 := by omega
    have hr8 : IntKind.u8.wrap (n : Int) = (n : Int) := by rw [IntKind.wrap_u8]; omega
    have HU : Hid ((n : Int) = ((UInt8.ofNat n).toNat : Int)) := small_u8 (by omega)
    clear hn h hok
    go_enter Tryd.func17, Tryd.ntmps17
    go_wp2_with fail
    go_loopg [4, 16] n (fun gg s4 s16 wx => ∃ i : Nat, i + gg = n ∧ s16 = .int .i64 i ∧ OwnsB wx w.heap.size s4 (UInt8.ofNat n :: (r.take i).flatMap bytesC) ∧ Below w.heap.size w wx ∧ Hid (∀ (j : Nat) (c : Cl), j < i → r[j]? = some c → mayC c = true))
    case atStart => exact ⟨0, by omega, rfl, ownsB_new w HU.out, below1 _ _, fun j c hj => by omega⟩
    case round =>
      obtain ⟨i, hig, rfl, hown, hb, hall⟩ := hrel
      by_cases hi : i < n
      · have hiI : (i : Int) < (n : Int) := by omega
        have hrn := HN.out
        have hne : r ≠ [] := by rintro rfl; simp at hrn; omega
        obtain ⟨b, off, rfl, hb1, hc1⟩ := HH.out hne
        obtain ⟨c, hic⟩ : ∃ c, r[i]? = some c := ⟨_, List.getElem?_eq_getElem (by omega)⟩
        have hb1r : b < wr.heap.size := Nat.lt_of_lt_of_le hb1 hb.size
        have x1 := (hc1 i c hic).below hb1 hb
        have p0 := x1.c0
        have p1 := x1.c1
        have p2 := x1.c2
        have n1 : b ≠ wr.heap.size := by omega
        have hr2 : IntKind.i64.wrap ((i : Int) + 1) = (i : Int) + 1 := by rw [IntKind.wrap_i64]; omega
        have hck : ∀ w, Calls Tryd.prog 12 #[cv c] w fun e w' => e = .returned (.int .i64 (errC c)) ∧ Below w.heap.size w w' := fun w => check_any c w
        have HB : Hid (Below w.heap.size w wr) := hb
        have HW : Hid (OwnsB wr w.heap.size u4 (UInt8.ofNat n :: (r.take i).flatMap bytesC)) := hown
        have hsz := hb.size
        cases hm2 : mayC c with
        | true =>
          have e0 : errC c = 0 := by unfold errC; rw [if_pos hm2]
          rw [e0] at hck
          have HC : Hid (mayC c = true ∧ okC c ∧ r[i]? = some c) := ⟨hm2, HO.out i c hic, hic⟩
          have HL : Hid ((UInt8.ofNat n :: (r.take i).flatMap bytesC).length ≤ 900000) := by
            unfold Hid
            have := flat_len (r := r.take i) fun x hx => by
              obtain ⟨j, hj⟩ := List.getElem?_of_mem hx
              have hj2 : j < i := by have := (List.getElem?_eq_some_iff.1 hj).1; rw [List.length_take] at this; omega
              rw [List.getElem?_take_of_lt hj2] at hj
              exact hall.out j x hj2 hj
            rw [List.length_take] at this
            simp only [List.length_cons]
            omega
          have HA : Hid (∀ (j : Nat) (x : Cl), j < i + 1 → r[j]? = some x → mayC x = true) := by
            intro j x hj hx
            by_cases e : j = i
            · subst e
              rw [hic] at hx
              obtain rfl := Option.some.inj hx
              exact hm2
            · exact hall.out j x (by omega) hx
          have HF : Hid ((r.take (i + 1)).flatMap bytesC = (r.take i).flatMap bytesC ++ bytesC c) := flat_snoc hic
          clear hic hc1 x1 hb hne hrn hown hm2 e0 hall
          go_wp2_with (first
            | (go_at_call 12; refine (hck _).mono ?_; rintro e w1 ⟨rfl, hb3⟩; have B1 := (box_new wr #[.int .i64 c.k, .int .i64 c.n, .string c.s] 23).over hb3; have q0 := B1.cell 0 _ rfl; have q1 := B1.cell 1 _ rfl; have q2 := B1.cell 2 _ rfl; have hB3 : Below wr.heap.size wr w1 := (below1 _ _).trans (hb3.mono (by simp)); have HW1 : Hid (OwnsB w1 w.heap.size u4 (UInt8.ofNat n :: (r.take i).flatMap bytesC)) := HW.out.below hB3; have HB1 : Hid (Below w.heap.size w w1) := HB.out.trans (hB3.mono hsz); clear hb3 hB3 B1)
            | (go_at_call 33; refine (putC_any w.heap.size u4 _ c w1 HC.out.1 HC.out.2.1 HW1.out ?h1 HL.out).mono ?_; (case h1 => exact HB1.out.size); rintro e w4 ⟨⟨v4, rfl, hown4⟩, hb4⟩))
          go_roundg (n - (i + 1))
          case measure => clear hr2 hr8; omega
          case rel => exact ⟨i + 1, by clear hr2 hr8; omega, by go_num, by rw [HF.out]; exact hown4, HB1.out.trans hb4, HA⟩
        | false =>
          have e0 : errC c = 1 := by unfold errC; rw [if_neg (by rw [hm2]; simp)]
          rw [e0] at hck
          have HE : Hid (((putA r).1, (putA r).2) = (⟨#[]⟩, 1)) := putA_bad hic hm2
          clear hic hc1 x1 hb hne hrn hown hm2 e0 hall
          go_wp2_with (go_at_call 12; refine (hck _).mono ?_; rintro e w1 ⟨rfl, hb3⟩; have hB3 : Below wr.heap.size wr w1 := (below1 _ _).trans (hb3.mono (by simp)); have HB1 : Hid (Below w.heap.size w w1) := HB.out.trans (hB3.mono hsz); clear hb3 hB3)
          go_ret2
          exact ⟨retT2 HE.out, HB1.out⟩
      · have hiI : ¬ (i : Int) < (n : Int) := by omega
        have hrn := HN.out
        have ht : r.take i = r := List.take_of_length_le (by omega)
        rw [ht] at hown
        have hcv := convert_own hown (by simp)
        have HE : Hid (((putA r).1, (putA r).2) = (⟨(UInt8.ofNat n :: r.flatMap bytesC).toArray⟩, 0)) := by
          unfold Hid
          have e := putA_ok (r := r) (by omega) (fun j c hj => hall.out j c (by have := (List.getElem?_eq_some_iff.1 hj).1; omega) hj)
          rw [e, hrn]; rfl
        have HB : Hid (Below w.heap.size w wr) := hb
        clear hb hall ht hrn
        go_wp2_with fail
        go_ret2
        exact ⟨retT2 HE.out, HB.out⟩
end Go.Proofs.YtjkkkdehmgfmeaaDoor
