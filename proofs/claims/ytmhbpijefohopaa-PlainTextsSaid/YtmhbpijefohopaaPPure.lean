/-
  Numbers as eight bytes each and texts as their bytes behind how many they are: the plain mathematics. No program is spoken of.
-/
namespace Go.Proofs.Ytmhbpijefohopaa.Pl

/-- The number of bytes, the lowest first. -/
def val : List UInt8 → Nat
  | [] => 0
  | b :: r => b.toNat + 256 * val r
/-- So many bytes of a number, the lowest first. -/
def oc : Nat → Nat → List UInt8
  | 0, _ => []
  | k + 1, n => UInt8.ofNat n :: oc k (n / 256)
theorem oc_len : ∀ (k n : Nat), (oc k n).length = k
  | 0, _ => rfl
  | k + 1, n => by simp [oc, oc_len k]
theorem val_lt : ∀ l : List UInt8, val l < 2 ^ (8 * l.length)
  | [] => by simp [val]
  | b :: r => by
    have h1 := val_lt r
    have h2 := b.toNat_lt
    have e : 2 ^ (8 * (b :: r).length) = 256 * 2 ^ (8 * r.length) := by
      rw [List.length_cons, Nat.mul_add, Nat.pow_add]; omega
    rw [e, val]
    generalize 2 ^ (8 * r.length) = p at h1 ⊢
    omega
theorem val_oc : ∀ (k n : Nat), val (oc k n) = n % 2 ^ (8 * k)
  | 0, n => by simp [oc, val]; omega
  | k + 1, n => by
    rw [oc, val, val_oc k]
    have e : 2 ^ (8 * (k + 1)) = 256 * 2 ^ (8 * k) := by rw [Nat.mul_add, Nat.pow_add]; omega
    rw [e, Nat.mod_mul]
    simp
theorem oc_val : ∀ l : List UInt8, oc l.length (val l) = l
  | [] => rfl
  | b :: r => by
    have h2 := b.toNat_lt
    rw [List.length_cons, oc, val]
    have e1 : (b.toNat + 256 * val r) / 256 = val r := by omega
    have e2 : UInt8.ofNat (b.toNat + 256 * val r) = b := by
      apply UInt8.toNat_inj.1
      simp
    rw [e1, e2, oc_val r]
theorem oc_at : ∀ (m n k : Nat), k < m → (oc m n)[k]? = some (UInt8.ofNat (n / 2 ^ (8 * k)))
  | 0, _, _, h => by omega
  | m + 1, n, 0, _ => by simp [oc]
  | m + 1, n, k + 1, h => by
    rw [oc, List.getElem?_cons_succ, oc_at m _ k (by omega), Nat.div_div_eq_div_mul]
    have e : 2 ^ (8 * (k + 1)) = 256 * 2 ^ (8 * k) := by rw [Nat.mul_add, Nat.pow_add]; omega
    rw [e]
theorem val_snoc : ∀ (l : List UInt8) (b : UInt8), val (l ++ [b]) = val l + 2 ^ (8 * l.length) * b.toNat
  | [], b => by simp [val]
  | a :: r, b => by
    rw [List.cons_append, val, val_snoc r, val, List.length_cons]
    have e : 2 ^ (8 * (r.length + 1)) = 256 * 2 ^ (8 * r.length) := by rw [Nat.mul_add, Nat.pow_add]; omega
    rw [e, Nat.mul_add, Nat.mul_assoc]
    omega

/-- A word's eight bytes, the word of eight bytes. -/
def oct (x : BitVec 64) : List UInt8 := oc 8 x.toNat
def num (s : List UInt8) : BitVec 64 := BitVec.ofNat 64 (val (s.take 8))
theorem oct_len (x : BitVec 64) : (oct x).length = 8 := oc_len _ _
theorem num_oct (x : BitVec 64) (r : List UInt8) : num (oct x ++ r) = x := by
  have e : (oct x ++ r).take 8 = oct x := by
    rw [List.take_append_of_le_length (by rw [oct_len]; omega), List.take_of_length_le (by rw [oct_len]; omega)]
  rw [num, e, oct, val_oc]
  apply BitVec.eq_of_toNat_eq
  have := x.isLt
  simp
  omega
theorem oct_num (s : List UInt8) (h : 8 ≤ s.length) : oct (num s) = s.take 8 := by
  have hl : (s.take 8).length = 8 := by rw [List.length_take]; omega
  have h1 := val_lt (s.take 8)
  rw [hl] at h1
  have e : (num s).toNat = val (s.take 8) := by
    rw [num, BitVec.toNat_ofNat]
    omega
  have h2 := oc_val (s.take 8)
  rw [hl] at h2
  rw [oct, e, h2]

/-- Numbers as bytes, and so many numbers of bytes. -/
def encI (l : List (BitVec 64)) : List UInt8 := l.flatMap oct
def decI (m : Nat) (s : List UInt8) : List (BitVec 64) := (List.range m).map fun k => num (s.drop (8 * k))
theorem decI_len (m : Nat) (s : List UInt8) : (decI m s).length = m := by simp [decI]
theorem decI_snoc (m : Nat) (s : List UInt8) : decI (m + 1) s = decI m s ++ [num (s.drop (8 * m))] := by
  simp [decI, List.range_succ]
theorem decI_cons (m : Nat) (s : List UInt8) : decI (m + 1) s = num s :: decI m (s.drop 8) := by
  simp [decI, List.range_succ_eq_map, Function.comp_def]
  intro a _
  congr 2
  omega
theorem encI_len : ∀ l : List (BitVec 64), (encI l).length = 8 * l.length
  | [] => rfl
  | x :: r => by
    have := encI_len r
    simp only [encI, List.flatMap_cons, List.length_append, oct_len, List.length_cons] at this ⊢
    omega
theorem encI_snoc (zs : List (BitVec 64)) (k : Nat) (h : k < zs.length) : encI (zs.take (k + 1)) = encI (zs.take k) ++ oct (zs.getD k 0#64) := by
  rw [List.take_succ_eq_append_getElem h]
  simp only [encI, List.flatMap_append, List.flatMap_cons, List.flatMap_nil, List.append_nil]
  simp [h]
theorem dec_enc : ∀ l : List (BitVec 64), decI l.length (encI l) = l
  | [] => rfl
  | x :: r => by
    have e : encI (x :: r) = oct x ++ encI r := by simp [encI]
    rw [List.length_cons, decI_cons, e, num_oct, List.drop_append_of_le_length (by rw [oct_len]; omega), List.drop_of_length_le (by rw [oct_len]; omega), List.nil_append, dec_enc r]
theorem enc_dec : ∀ (m : Nat) (s : List UInt8), s.length = 8 * m → encI (decI m s) = s
  | 0, s, h => by
    obtain rfl : s = [] := List.eq_nil_of_length_eq_zero (by omega)
    rfl
  | m + 1, s, h => by
    have e : encI (num s :: decI m (s.drop 8)) = oct (num s) ++ encI (decI m (s.drop 8)) := by simp [encI]
    rw [decI_cons, e, oct_num s (by omega), enc_dec m (s.drop 8) (by rw [List.length_drop]; omega), List.take_append_drop]

/-- The text of a list of bytes. -/
def txt (l : List UInt8) : ByteArray := ⟨l.toArray⟩
theorem txt_list (l : List UInt8) : (txt l).data.toList = l := by simp [txt]
theorem txt_size (l : List UInt8) : (txt l).size = l.length := rfl
theorem txt_of (s : ByteArray) : txt s.data.toList = s := by apply ByteArray.ext; simp [txt]
/-- Texts as bytes. -/
def enc1 (t : ByteArray) : List UInt8 := UInt8.ofNat t.size :: t.data.toList
def encT (l : List ByteArray) : List UInt8 := l.flatMap enc1
def okT (l : List ByteArray) : Prop := ∀ t ∈ l, t.size ≤ 32
/-- So many texts of bytes. -/
def tt : Nat → List UInt8 → Option (List ByteArray)
  | 0, s => if s = [] then some [] else none
  | _ + 1, [] => none
  | n + 1, b :: r => if b.toNat ≤ 32 ∧ b.toNat ≤ r.length then (tt n (r.drop b.toNat)).map (txt (r.take b.toNat) :: ·) else none
theorem enc1_len (t : ByteArray) : (enc1 t).length = t.size + 1 := by simp [enc1]
theorem encT_nil : encT [] = [] := rfl
theorem encT_cons (t : ByteArray) (l : List ByteArray) : encT (t :: l) = enc1 t ++ encT l := by simp [encT]
theorem encT_snoc (l : List ByteArray) (k : Nat) (t : ByteArray) (h : l[k]? = some t) : encT (l.take (k + 1)) = encT (l.take k) ++ enc1 t := by
  obtain ⟨hk, rfl⟩ := List.getElem?_eq_some_iff.1 h
  rw [List.take_succ_eq_append_getElem hk, encT, List.flatMap_append]
  simp [encT]
theorem encT_len : ∀ l : List ByteArray, okT l → (encT l).length ≤ 33 * l.length
  | [], _ => by simp [encT]
  | t :: l, h => by
    have h1 := encT_len l (fun x hx => h x (by simp [hx]))
    have h2 := h t (by simp)
    rw [encT_cons, List.length_append, enc1_len, List.length_cons]
    omega
theorem tt_enc : ∀ l : List ByteArray, okT l → tt l.length (encT l) = some l
  | [], _ => by simp [tt, encT]
  | t :: l, h => by
    have h1 := tt_enc l (fun x hx => h x (by simp [hx]))
    have h2 := h t (by simp)
    have e : (UInt8.ofNat t.size).toNat = t.size := by simp; omega
    have hs : t.data.toList.length = t.size := by simp
    rw [encT_cons, List.length_cons, enc1, List.cons_append, tt, e, if_pos ⟨h2, by rw [List.length_append, hs]; omega⟩]
    have e1 : (t.data.toList ++ encT l).drop t.size = encT l := by
      rw [List.drop_append_of_le_length (by rw [hs]; omega), List.drop_of_length_le (by rw [hs]; omega), List.nil_append]
    have e2 : (t.data.toList ++ encT l).take t.size = t.data.toList := by
      rw [List.take_append_of_le_length (by rw [hs]; omega), List.take_of_length_le (by rw [hs]; omega)]
    rw [e1, e2, h1, txt_of]
    rfl
theorem enc_tt : ∀ (n : Nat) (s : List UInt8) (l : List ByteArray), tt n s = some l → encT l = s ∧ l.length = n ∧ okT l
  | 0, s, l, h => by
    unfold tt at h
    split at h
    · cases h; rename_i e; subst e; exact ⟨rfl, rfl, fun _ h => by cases h⟩
    · cases h
  | n + 1, [], l, h => by cases h
  | n + 1, b :: r, l, h => by
    unfold tt at h
    split at h
    · rename_i hc
      obtain ⟨q, hq, rfl⟩ := Option.map_eq_some_iff.1 h
      obtain ⟨h1, h2, h3⟩ := enc_tt n _ q hq
      have hl : (r.take b.toNat).length = b.toNat := by rw [List.length_take]; omega
      refine ⟨?_, by simp [h2], ?_⟩
      · rw [encT_cons, h1, enc1, txt_size, hl, txt_list]
        simp
      · intro t ht
        simp only [List.mem_cons] at ht
        rcases ht with rfl | ht
        · rw [txt_size, hl]; exact hc.1
        · exact h3 t ht
    · cases h
theorem tt_many : ∀ (n : Nat) (s : List UInt8), s.length < n → tt n s = none
  | 0, s, h => by omega
  | n + 1, [], _ => rfl
  | n + 1, b :: r, h => by
    unfold tt
    split
    · rw [tt_many n _ (by rw [List.length_drop]; simp at h; omega)]
      rfl
    · rfl
/-- The texts of the bytes from u on, behind those that were taken. -/
def tF (g : Nat) (s : List UInt8) (d : List ByteArray) (u : Nat) : Option (List ByteArray) := (tt g (s.drop u)).map (d ++ ·)
theorem tF_start (n : Nat) (s : List UInt8) : tF n s [] 0 = tt n s := by simp [tF]
theorem tF_end {s : List UInt8} {d : List ByteArray} {u : Nat} (h : u = s.length) : tF 0 s d u = some d := by
  simp [tF, tt, h]
theorem tF_more {s : List UInt8} {d : List ByteArray} {u : Nat} (h : u < s.length) : tF 0 s d u = none := by
  have : s.drop u ≠ [] := by
    intro e
    have := congrArg List.length e
    rw [List.length_drop] at this
    simp at this
    omega
  simp [tF, tt, this]
theorem tF_cons {g : Nat} {s : List UInt8} {d : List ByteArray} {u : Nat} (hu : u < s.length) :
    tF (g + 1) s d u = if s[u].toNat ≤ 32 ∧ u + 1 + s[u].toNat ≤ s.length then tF g s (d ++ [txt ((s.drop (u + 1)).take s[u].toNat)]) (u + 1 + s[u].toNat) else none := by
  have e : s.drop u = s[u] :: s.drop (u + 1) := List.drop_eq_getElem_cons hu
  rw [tF, e, tt]
  by_cases hc : s[u].toNat ≤ 32 ∧ u + 1 + s[u].toNat ≤ s.length
  · rw [if_pos hc, if_pos ⟨hc.1, by rw [List.length_drop]; omega⟩, tF, List.drop_drop, Option.map_map]
    congr 1
    funext x
    simp
  · rw [if_neg hc, if_neg]
    · rfl
    · rw [List.length_drop]; omega
theorem tF_nil {g : Nat} {s : List UInt8} {d : List ByteArray} {u : Nat} (hu : s.length ≤ u) : tF (g + 1) s d u = none := by
  have e : s.drop u = [] := List.drop_of_length_le hu
  rw [tF, e, tt]
  rfl

end Go.Proofs.Ytmhbpijefohopaa.Pl
