/-
  The contracts of the document's bytes and Put.
-/
import Derived.Test.YtjkkkdehmgfmeaaDoorKPut
import Derived.Test.YtjkkkdehmgfmeaaDoorVRefPut
namespace Go.Proofs.YtjkkkdehmgfmeaaDoor
open Go.RowKit

theorem retS {a b : ByteArray} (h : b = a) : Ending.returned (.string a) = .returned (.string b) := by rw [h]
theorem str_append (a b : List UInt8) : str a ++ str b = str (a ++ b) := by
  apply ByteArray.ext
  simp [str]
theorem str_data (s : ByteArray) : str s.data.toList = s := by
  apply ByteArray.ext
  simp [str]
theorem str_three (s : ByteArray) : str (2 :: UInt8.ofNat s.size :: s.data.toList) = ⟨#[2]⟩ ++ ⟨#[UInt8.ofNat s.size]⟩ ++ s := by
  apply ByteArray.ext
  simp [str]
theorem below3 (w : World) (A B C : Obj) : Below w.heap.size w (((w.alloc A).alloc B).alloc C) := (below2 w A B).alloc (by simp; omega) _

set_option maxHeartbeats 1000000 in
set_option maxRecDepth 4000 in
theorem refBytes_any (c : Cl) (w : World) (hm : mayC c = true) (hok : okC c) :
    Calls Tryd.prog 34 #[cv c] w fun e w' => e = .returned (.string (str (bytesC c))) ∧ Below w.heap.size w w' := by
  obtain ⟨k, n, s⟩ := c
  simp only [cv]
  rcases may_kind hm with ⟨h1, h2, h3⟩ | ⟨h1, h2⟩ | ⟨h1, h2, h3⟩
  · simp only at h1 h2 h3
    subst h1 h2
    have HE : Hid (bytesC ⟨0, 0, s⟩ = [0]) := by unfold Hid bytesC; simp
    have hcv := convert_own (ownsB_new (w.alloc (.cells #[.int .i64 0, .int .i64 0, .string s] 23)) (n := 0) (c := 0) rfl) (by simp)
    rw [World.size_alloc] at hcv
    clear hm hok h3
    go_enter Tryd.func34, Tryd.ntmps34
    go_wp2_with fail
    go_ret
    exact ⟨retS (by rw [HE.out]; rfl), below2 _ _ _⟩
  · simp only at h1 h2
    subst h1
    have hn := Wd.word_of_le n hok.1 hok.2
    obtain ⟨x, hx⟩ : ∃ x, x = BitVec.ofInt 64 n := ⟨_, rfl⟩
    rw [← hx] at hn
    have HE : Hid (bytesC ⟨1, n, s⟩ = 1 :: enc1 x) := by unfold Hid bytesC; rw [hx]; simp
    clear hx hm hok h2
    subst hn
    have hcv := convert_own (ownsB_new (w.alloc (.cells #[.int .i64 1, .int .i64 x.toInt, .string s] 23)) (n := 1) (c := 1) rfl) (by simp)
    rw [World.size_alloc] at hcv
    obtain ⟨t, ht⟩ : ∃ t, t = str (enc1 x) := ⟨_, rfl⟩
    have hpt : ∀ w, Calls Tryd.prog 49 #[.int .i64 x.toInt] w fun e w' => e = .returned (.string t) ∧ Below w.heap.size w w' := fun w => by rw [ht]; exact refPut_any x w
    have hts : (t.size : Int) ≤ 10 := by rw [ht, str_size, enc1_len]; have := lenW_bd (zigW x); omega
    have HT : Hid (t = str (enc1 x)) := ht
    clear ht
    go_enter Tryd.func34, Tryd.ntmps34
    go_wp2_with (go_at_call 49; refine (hpt _).mono ?_; rintro e w4 ⟨rfl, hb4⟩)
    go_ret
    exact ⟨retS (by rw [HE.out, HT.out]; exact (str_append [1] (enc1 x)).symm), (below2 _ _ _).trans (hb4.mono (by simp; omega))⟩
  · simp only at h1 h2 h3
    subst h1 h2
    have HE : Hid (bytesC ⟨2, 0, s⟩ = 2 :: UInt8.ofNat s.size :: s.data.toList) := by unfold Hid bytesC; simp
    have hs256 : (s.size : Int) < 256 := by omega
    have hr8 : IntKind.u8.wrap (s.size : Int) = (s.size : Int) := by rw [IntKind.wrap_u8]; omega
    have HM := small_u8 (n := s.size) (by omega)
    have hcv := convert_own (ownsB_new (w.alloc (.cells #[.int .i64 2, .int .i64 0, .string s] 23)) (n := 2) (c := 2) rfl) (by simp)
    have hcv2 := convert_own (ownsB_new ((w.alloc (.cells #[.int .i64 2, .int .i64 0, .string s] 23)).alloc (.cells #[.int .u8 2] 5)) HM) (by simp)
    rw [World.size_alloc] at hcv
    rw [World.size_alloc, World.size_alloc] at hcv2
    clear hm hok HM
    go_enter Tryd.func34, Tryd.ntmps34
    go_wp2_with fail
    go_ret
    exact ⟨retS (by rw [HE.out]; exact str_three s), below3 _ _ _ _⟩

set_option maxRecDepth 4000 in
set_option maxHeartbeats 4000000 in
theorem refPutRow_any (w : World) (v : Value) (r : List Cl) (h : RowIs w v r) (hok : ∀ (i : Nat) (c : Cl), r[i]? = some c → okC c) (hm : r.length ≤ maxLen) :
    Calls Tryd.prog 18 #[v] w fun e w' => e = .returned (.tuple #[.string (putA r).1, .int .i64 (putA r).2]) ∧ Below w.heap.size w w' := by
  unfold maxLen at hm
  obtain ⟨a, cap, rfl, h⟩ := h
  obtain ⟨n, hn⟩ : ∃ n, n = r.length := ⟨_, rfl⟩
  rw [← hn] at hm
  rw [← hn]
  by_cases hl : (255 : Int) < (n : Int)
  · have HE : Hid (((putA r).1, (putA r).2) = (⟨#[]⟩, 1)) := putA_long (by omega)
    clear h hok hn
    go_enter Tryd.func18, Tryd.ntmps18
    go_wp2_with fail
    go_ret2
    exact ⟨retT2 HE.out, Below.refl _ _⟩
  · have HN : Hid (n = r.length) := hn
    have HO : Hid (∀ (i : Nat) (c : Cl), r[i]? = some c → okC c) := hok
    have HH : Hid (r ≠ [] → ∃ b off, a = some ⟨b, off, none⟩ ∧ b < w.heap.size ∧ ∀ i c, r[i]? = some c → CellAt w b (off + i * 3) c) := h
    have hn256 : (n : Int) < 256 := by omega
    have hr8 : IntKind.u8.wrap (n : Int) = (n : Int) := by rw [IntKind.wrap_u8]; omega
    have HU := small_u8 (n := n) (by omega)
    have hcv := convert_own (ownsB_new w HU) (by simp)
    clear hn h hok HU
    go_enter Tryd.func18, Tryd.ntmps18
    go_wp2_with fail
    go_loopg [4, 5] n (fun gg s4 s5 wx => ∃ (i : Nat) (t : ByteArray), i + gg = n ∧ s5 = .int .i64 i ∧ s4 = .string t ∧ Hid (t = str (UInt8.ofNat n :: (r.take i).flatMap bytesC)) ∧ Below w.heap.size w wx ∧ Hid (∀ (j : Nat) (c : Cl), j < i → r[j]? = some c → mayC c = true))
    case atStart => exact ⟨0, _, by omega, rfl, rfl, rfl, below1 _ _, fun j c hj => by omega⟩
    case round =>
      obtain ⟨i, t, hig, rfl, rfl, ht, hb, hall⟩ := hrel
      clear hcv
      by_cases hi : i < n
      · have hiI : (i : Int) < (n : Int) := by omega
        have hrn := HN.out
        have hne : r ≠ [] := by rintro rfl; simp at hrn; omega
        obtain ⟨b, off, rfl, hb1, hc1⟩ := HH.out hne
        obtain ⟨c, hic⟩ : ∃ c, r[i]? = some c := ⟨_, List.getElem?_eq_getElem (by omega)⟩
        have hb1r : b < wr.heap.size := Nat.lt_of_lt_of_le hb1 hb.size
        have x1 := (hc1 i c hic).below hb1 hb
        have p0 := x1.c0
        have p1 := x1.c1
        have p2 := x1.c2
        have hr2 : IntKind.i64.wrap ((i : Int) + 1) = (i : Int) + 1 := by rw [IntKind.wrap_i64]; omega
        have hck : ∀ w, Calls Tryd.prog 13 #[cv c] w fun e w' => e = .returned (.bool (mayC c)) ∧ Below w.heap.size w w' := fun w => may_any c w
        have HB : Hid (Below w.heap.size w wr) := hb
        have HX : Hid (CellAt wr b (off + i * 3) c) := x1
        have hsz := hb.size
        cases hm2 : mayC c with
        | true =>
          rw [hm2] at hck
          obtain ⟨u, hu⟩ : ∃ u, u = str (bytesC c) := ⟨_, rfl⟩
          have hbt : ∀ w, Calls Tryd.prog 34 #[cv c] w fun e w' => e = .returned (.string u) ∧ Below w.heap.size w w' := fun w => by rw [hu]; exact refBytes_any c w hm2 (HO.out i c hic)
          have hus : (u.size : Int) ≤ 34 := by rw [hu, str_size]; have := (bytesC_len hm2).2; omega
          have hts : (t.size : Int) ≤ 900000 := by
            rw [ht.out, str_size]
            have := flat_len (r := r.take i) fun x hx => by
              obtain ⟨j, hj⟩ := List.getElem?_of_mem hx
              have hj2 : j < i := by have := (List.getElem?_eq_some_iff.1 hj).1; rw [List.length_take] at this; omega
              rw [List.getElem?_take_of_lt hj2] at hj
              exact hall.out j x hj2 hj
            rw [List.length_take] at this
            simp only [List.length_cons]
            omega
          have HA : Hid (∀ (j : Nat) (x : Cl), j < i + 1 → r[j]? = some x → mayC x = true) := by
            intro j x hj hx
            by_cases e : j = i
            · subst e
              rw [hic] at hx
              obtain rfl := Option.some.inj hx
              exact hm2
            · exact hall.out j x (by omega) hx
          have HF : Hid (t ++ u = str (UInt8.ofNat n :: (r.take (i + 1)).flatMap bytesC)) := by
            unfold Hid; rw [ht.out, hu, str_append, flat_snoc hic]; rfl
          clear hic hc1 x1 hb hne hrn hm2 hall hu ht
          go_wp2_with (first
            | (go_at_call 13; refine (hck _).mono ?_; rintro e w1 ⟨rfl, hb3⟩; have x3 := HX.out.below hb1r hb3; have q0 := x3.c0; have q1 := x3.c1; have q2 := x3.c2; have HB1 : Hid (Below w.heap.size w w1) := HB.out.trans (hb3.mono hsz); clear hb3 x3)
            | (go_at_call 34; refine (hbt _).mono ?_; rintro e w4 ⟨rfl, hb4⟩; have HB4 : Hid (Below w.heap.size w w4) := HB1.out.trans (hb4.mono HB1.out.size); clear hb4))
          go_roundg (n - (i + 1))
          case measure => clear hr2 hr8; omega
          case rel => exact ⟨i + 1, _, by clear hr2 hr8; omega, by go_num, rfl, HF, HB4.out, HA⟩
        | false =>
          rw [hm2] at hck
          have HE : Hid (((putA r).1, (putA r).2) = (⟨#[]⟩, 1)) := putA_bad hic hm2
          clear hic hc1 x1 hb hne hrn hm2 hall ht
          go_wp2_with (go_at_call 13; refine (hck _).mono ?_; rintro e w1 ⟨rfl, hb3⟩; have HB1 : Hid (Below w.heap.size w w1) := HB.out.trans (hb3.mono hsz); clear hb3)
          go_ret2
          exact ⟨retT2 HE.out, HB1.out⟩
      · have hiI : ¬ (i : Int) < (n : Int) := by omega
        have hrn := HN.out
        have htk : r.take i = r := List.take_of_length_le (by omega)
        have HE : Hid (((putA r).1, (putA r).2) = (t, 0)) := by
          unfold Hid
          have e := putA_ok (r := r) (by omega) (fun j c hj => hall.out j c (by have := (List.getElem?_eq_some_iff.1 hj).1; omega) hj)
          rw [e, ht.out, htk, hrn]; rfl
        have HB : Hid (Below w.heap.size w wr) := hb
        clear hb hall htk hrn ht
        go_wp2_with fail
        go_ret2
        exact ⟨retT2 HE.out, HB.out⟩
end Go.Proofs.YtjkkkdehmgfmeaaDoor
