/-
  What is put is taken as it was, whatever stands behind: no program is spoken of.
-/
import Derived.Test.YtjkkkdehmgfmeaaDoorKTakeRow
import Derived.Test.YtjkkkdehmgfmeaaDoorZigEq
namespace Go.Proofs.YtjkkkdehmgfmeaaDoor
open Go.RowKit Leb

theorem empty_data {s : ByteArray} (h : s.size = 0) : s = ⟨#[]⟩ := by
  apply ByteArray.ext
  exact Array.eq_empty_of_size_eq_zero h
theorem tkC_bytes {c : Cl} (hm : mayC c = true) (hok : okC c) (r : List UInt8) : tkC (bytesC c ++ r) = (c, (bytesC c).length) := by
  obtain ⟨k, n, s⟩ := c
  rcases may_kind hm with ⟨h1, h2, h3⟩ | ⟨h1, h2⟩ | ⟨h1, h2, h3⟩
  · simp only at h1 h2 h3
    subst h1 h2
    rw [empty_data h3]
    have e : bytesC ⟨0, 0, ⟨#[]⟩⟩ = [0] := by simp [bytesC]
    rw [e]
    rfl
  · simp only at h1 h2
    subst h1
    rw [empty_data h2]
    have hn := Wd.word_of_le n hok.1 hok.2
    obtain ⟨x, hx⟩ : ∃ x, x = BitVec.ofInt 64 n := ⟨_, rfl⟩
    have e : bytesC ⟨1, n, ⟨#[]⟩⟩ = 1 :: enc1 x := by simp [bytesC, hx]
    have ht : tk (enc1 x ++ r) = (zigW x, lenW (zigW x), 0) := tk_ok (List.prefix_append _ _)
    rw [e, List.cons_append]
    simp only [tkC, ht]
    rw [if_neg (by decide), if_pos (by decide), if_pos trivial, zag_zig, List.length_cons, enc1_len, Nat.add_comm 1]
    rw [← hx] at hn
    rw [← hn]
    rfl
  · simp only at h1 h2 h3
    subst h1 h2
    have e : bytesC ⟨2, 0, s⟩ = 2 :: UInt8.ofNat s.size :: s.data.toList := by simp [bytesC]
    have hl := Lib.size_eq s
    have h8 : (UInt8.ofNat s.size).toNat = s.size := by rw [UInt8.toNat_ofNat', Nat.mod_eq_of_lt (by omega)]
    rw [e, List.cons_append, List.cons_append]
    simp only [tkC]
    rw [if_neg (by decide), if_neg (by decide), if_pos (by decide), h8, if_pos ⟨h3, by rw [List.length_append]; omega⟩]
    have e2 : (s.data.toList ++ r).take s.size = s.data.toList := by rw [hl, List.take_left']; rfl
    have e3 : str s.data.toList = s := by
      apply ByteArray.ext
      simp [str]
    rw [e2, e3]
    simp only [List.length_cons]
    rw [← hl, Nat.add_comm 2]
    rfl
theorem tkG_back : ∀ (r : List Cl), (∀ c ∈ r, mayC c = true ∧ okC c) → ∀ (pre s : List UInt8) (done : List Cl), tkG r.length (pre ++ (r.flatMap bytesC ++ s)) pre.length done = some (done ++ r, pre.length + (r.flatMap bytesC).length)
  | [], _, pre, s, done => by simp [tkG]
  | c :: r, h, pre, s, done => by
    have hc := h c (by simp)
    have hb := bytesC_len hc.1
    have e : (pre ++ ((c :: r).flatMap bytesC ++ s)).drop pre.length = bytesC c ++ (r.flatMap bytesC ++ s) := by
      rw [List.drop_left, List.flatMap_cons, List.append_assoc]
    have e1 := tkC_bytes hc.1 hc.2 (r.flatMap bytesC ++ s)
    simp only [List.length_cons, tkG]
    rw [e, e1]
    simp only
    rw [if_neg (by omega)]
    have ih := tkG_back r (fun x hx => h x (by simp [hx])) (pre ++ bytesC c) s (done ++ [c])
    rw [List.length_append] at ih
    rw [List.flatMap_cons, List.append_assoc, ← List.append_assoc pre, ih]
    simp [Nat.add_assoc]
/-- What is put is taken as it was. -/
theorem take_put {r : List Cl} (hl : r.length ≤ 255) (h : ∀ c ∈ r, mayC c = true ∧ okC c) (s : List UInt8) : takeR (putL r ++ s) = some (r, (putL r).length) := by
  have h8 : (UInt8.ofNat r.length).toNat = r.length := by rw [UInt8.toNat_ofNat', Nat.mod_eq_of_lt (by omega)]
  have := tkG_back r h [UInt8.ofNat r.length] s []
  unfold putL
  rw [List.cons_append]
  simp only [takeR]
  rw [h8]
  simpa [Nat.add_comm] using this
end Go.Proofs.YtjkkkdehmgfmeaaDoor
