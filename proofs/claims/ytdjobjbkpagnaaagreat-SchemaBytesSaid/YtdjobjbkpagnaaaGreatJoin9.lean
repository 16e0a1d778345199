/-
  8 texts, one behind the other: XPut, XPut2, XPars, XTakeP, XTake, XTake2, XTake3, XTake4.
-/
import Derived.Test.YtdjobjbkpagnaaaGreatJoin8
import Derived.Test.YtdjobjbkpagnaaaGreatJoin7
import Derived.Test.YtdjobjbkpagnaaaGreatJoin1
/-
  The contracts of schema's putName, putColumn, putProjection, putList, putTable and Put.
-/
namespace Go.Proofs.YtdjobjbkpagnaaaGreat
open Go.RowKit Go.Shelf

theorem ret_str {a b : ByteArray} (h : a = b) : Ending.returned (.string a) = .returned (.string b) := by rw [h]
theorem put_len (n : Nat) (hn : n ≤ 1000000) (w : World) : Calls Tryz.prog 82 #[.int .i64 (n : Int)] w fun e w' => e = .returned (.string (str (enc1 (BitVec.ofNat 64 n)))) ∧ Below w.heap.size w w' := by
  have := put_any (BitVec.ofNat 64 n) w
  rw [Wd.toInt_of_small _ (by omega)] at this
  exact this
theorem above_cell {w : World} {a : Addr} {v : Value} (h : w.cell? a = some v) (k : Above w) : k.it.cell? a = some v := (k.is.cell (p := a) (World.block_lt_of_cell? w a h)).trans h
set_option maxHeartbeats 1000000 in
theorem putName_any (n : ByteArray) (hn : n.size ≤ 1000) (w : World) : Calls Tryz.prog 83 #[.string n] w fun e w' => e = .returned (.string (str (encName n))) ∧ Below w.heap.size w w' := by
  have cp := fun W => put_len n.size (by omega) W
  have hs1 : (str (enc1 (BitVec.ofNat 64 n.size))).size ≤ 10 := enc1_le _
  obtain ⟨S, hS⟩ : ∃ S, S = str (enc1 (BitVec.ofNat 64 n.size)) := ⟨_, rfl⟩
  have HE : Hid (S ++ n = str (encName n)) := by
    unfold Hid encName
    rw [hS, ← str_append, str_of]
  rw [← hS] at cp hs1
  clear hS
  go_enter Tryz.func83, Tryz.ntmps83
  go_wp2_with fail
  refine (cp _).mono ?_
  rintro e w1 ⟨rfl, hb⟩
  go_wp2_with fail
  go_ret
  exact ⟨ret_str HE.out, hb⟩
set_option maxHeartbeats 4000000 in
theorem putCol_any (c : Col) (hc : litC c) (w : World) : Calls Tryz.prog 85 #[.agg #[.string c.name, .int .i64 c.kind.toInt, .bool c.null]] w fun e w' => e = .returned (.string (str (encCol c))) ∧ Below w.heap.size w w' := by
  have b1 := below1 w (.cells #[.string c.name, .int .i64 c.kind.toInt, .bool c.null] 53)
  have B1 := box_new w #[.string c.name, .int .i64 c.kind.toInt, .bool c.null] 53
  obtain ⟨W0, hW0⟩ : ∃ W0, W0 = w.alloc (.cells #[.string c.name, .int .i64 c.kind.toInt, .bool c.null] 53) := ⟨_, rfl⟩
  rw [← hW0] at b1 B1
  have cn := fun (k : Above W0) => putName_any c.name hc k.it
  have ck := fun (k : Above W0) => put_any c.kind k.it
  have c0 : ∀ k : Above W0, k.it.cell? ⟨w.heap.size, 0, none⟩ = some (.string c.name) := fun k => above_cell (B1.cell 0 _ rfl) k
  have c1 : ∀ k : Above W0, k.it.cell? ⟨w.heap.size, 1, none⟩ = some (.int .i64 c.kind.toInt) := fun k => above_cell (B1.cell 1 _ rfl) k
  have hz1 : (str (encName c.name)).size ≤ 2000 := by have := encName_le c.name; unfold litC at hc; rw [str_size]; omega
  have hz2 : (str (enc1 c.kind)).size ≤ 10 := enc1_le _
  have HE : Hid (encCol c = encName c.name ++ enc1 c.kind ++ enc1 (nullW c.null)) := rfl
  obtain ⟨nm, kd, nu⟩ := c
  simp only at cn ck c0 c1 hz1 hz2 HE b1 hW0 ⊢
  obtain ⟨S1, hS1⟩ : ∃ S, S = str (encName nm) := ⟨_, rfl⟩
  obtain ⟨S2, hS2⟩ : ∃ S, S = str (enc1 kd) := ⟨_, rfl⟩
  obtain ⟨kx, hkx⟩ : ∃ x, x = kd.toInt := ⟨_, rfl⟩
  rw [← hS1] at cn hz1
  rw [← hS2] at ck hz2
  rw [← hkx] at ck c1 hW0 ⊢
  have HB : Hid (Below w.heap.size w W0) := b1
  have HW : Hid (W0 = w.alloc (.cells #[.string nm, .int .i64 kx, .bool nu] 53)) := hW0
  cases nu with
  | true =>
    have cz : ∀ k : Above W0, Calls Tryz.prog 82 #[.int .i64 1] k.it fun e w' => e = .returned (.string (str (enc1 (BitVec.ofNat 64 1)))) ∧ Below k.it.heap.size k.it w' := fun k => put_len 1 (by omega) k.it
    have hz3 : (str (enc1 (BitVec.ofNat 64 1))).size ≤ 10 := enc1_le _
    obtain ⟨S3, hS3⟩ : ∃ S, S = str (enc1 (BitVec.ofNat 64 1)) := ⟨_, rfl⟩
    rw [← hS3] at cz hz3
    have HF : Hid (S1 ++ S2 ++ S3 = str (encCol ⟨nm, kd, true⟩)) := by
      unfold Hid
      rw [HE.out, hS1, hS2, hS3, str_append, str_append]
      rfl
    have hz12 : (S1 ++ S2).size ≤ 3000 := by rw [ByteArray.size_append]; omega
    clear hS1 hS2 hS3 hkx hW0 b1 B1
    go_enter Tryz.func85, Tryz.ntmps85
    go_wp2_with fail
    rw [← HW.out]
    refine wp_region_above (by kernel_rfl) (by kernel_rfl) ?_
    intro hne
    repeat (go_big_quiet_step (fail))
    go_big_quiet_step (first | (go_at_call 83; exact above_of (cn _)))
    repeat (go_big_quiet_step (fail))
    go_big_quiet_step (first | (go_at_call 82; exact above_of (ck _)))
    repeat (go_big_quiet_step (fail))
    go_big_quiet_step (first | (go_at_call 82; exact above_of (cz _)))
    repeat (go_big_quiet_step (fail))
    refine wpQuiet_nil ?_
    rintro _ ⟨kq, rfl⟩
    have hbq := kq.is
    go_wp2_with fail
    go_ret
    exact ⟨ret_str HF.out, HB.out.trans (hbq.mono HB.out.size)⟩
  | false =>
    have cz : ∀ k : Above W0, Calls Tryz.prog 82 #[.int .i64 0] k.it fun e w' => e = .returned (.string (str (enc1 (BitVec.ofNat 64 0)))) ∧ Below k.it.heap.size k.it w' := fun k => put_len 0 (by omega) k.it
    have hz3 : (str (enc1 (BitVec.ofNat 64 0))).size ≤ 10 := enc1_le _
    obtain ⟨S3, hS3⟩ : ∃ S, S = str (enc1 (BitVec.ofNat 64 0)) := ⟨_, rfl⟩
    rw [← hS3] at cz hz3
    have HF : Hid (S1 ++ S2 ++ S3 = str (encCol ⟨nm, kd, false⟩)) := by
      unfold Hid
      rw [HE.out, hS1, hS2, hS3, str_append, str_append]
      rfl
    have hz12 : (S1 ++ S2).size ≤ 3000 := by rw [ByteArray.size_append]; omega
    clear hS1 hS2 hS3 hkx hW0 b1 B1
    go_enter Tryz.func85, Tryz.ntmps85
    go_wp2_with fail
    rw [← HW.out]
    refine wp_region_above (by kernel_rfl) (by kernel_rfl) ?_
    intro hne
    repeat (go_big_quiet_step (fail))
    go_big_quiet_step (first | (go_at_call 83; exact above_of (cn _)))
    repeat (go_big_quiet_step (fail))
    go_big_quiet_step (first | (go_at_call 82; exact above_of (ck _)))
    repeat (go_big_quiet_step (fail))
    go_big_quiet_step (first | (go_at_call 82; exact above_of (cz _)))
    repeat (go_big_quiet_step (fail))
    refine wpQuiet_nil ?_
    rintro _ ⟨kq, rfl⟩
    have hbq := kq.is
    go_wp2_with fail
    go_ret
    exact ⟨ret_str HF.out, HB.out.trans (hbq.mono HB.out.size)⟩
end Go.Proofs.YtdjobjbkpagnaaaGreat
/-
  The contracts of schema's putProjection, putList, putTable and Put.
-/
namespace Go.Proofs.YtdjobjbkpagnaaaGreat
open Go.RowKit Go.Shelf

/-- So few parts that all bytes of them are few. -/
def fewP (p : Pj) : Prop := p.name.size ≤ 1000 ∧ p.cols.length ≤ 1000
def fewT (t : Tb) : Prop := t.name.size ≤ 1000 ∧ t.cols.length ≤ 100 ∧ t.projs.length ≤ 100 ∧ (∀ c ∈ t.cols, litC c) ∧ (∀ p ∈ t.projs, fewP p)
theorem encCol_le {c : Col} (h : litC c) : (encCol c).length ≤ 1030 := by
  unfold encCol litC at *
  have := encName_le c.name
  have := enc1_le c.kind
  have := enc1_le (nullW c.null)
  rw [List.length_append, List.length_append]
  omega
theorem encPj_le {p : Pj} (h : fewP p) : (encPj p).length ≤ 11030 := by
  unfold encPj
  have := encName_le p.name
  have := enc1_le p.keys
  have := encAll_len p.cols
  have := h.1
  have := h.2
  rw [List.length_append, List.length_append]
  omega
theorem encL_le {α : Type} {enc : α → List UInt8} {l : List α} {B m : Nat} (h : ∀ x ∈ l, (enc x).length ≤ B) (hm : l.length ≤ m) : (encL enc l).length ≤ 10 + m * B := by
  unfold encL
  have h1 := enc1_le (BitVec.ofNat 64 l.length)
  have h2 := flat_le h
  have h3 : l.length * B ≤ m * B := Nat.mul_le_mul_right _ hm
  rw [List.length_append]
  omega
theorem encTb_le {t : Tb} (h : fewT t) : (encTb t).length ≤ 1300000 := by
  unfold encTb
  have h1 := encName_le t.name
  have h2 := encL_le (enc := encCol) (l := t.cols) (fun x hx => encCol_le (h.2.2.2.1 x hx)) h.2.1
  have h3 := encL_le (enc := encPj) (l := t.projs) (fun x hx => encPj_le (h.2.2.2.2 x hx)) h.2.2.1
  have := h.1
  rw [List.length_append, List.length_append]
  omega
set_option maxHeartbeats 4000000 in
theorem putPj_any {w : World} {p : Pj} {d0 d1 d2 : Value} (hp : PjE w p [d0, d1, d2]) (hl : fewP p) : Calls Tryz.prog 87 #[.agg #[d0, d1, d2]] w fun e w' => e = .returned (.string (str (encPj p))) ∧ Below w.heap.size w w' := by
  have hI : ∀ W, Below w.heap.size w W → ReadsI W d1 p.cols := fun W hW => by
    obtain ⟨v, e, h⟩ := hp
    simp only [List.cons.injEq, and_true] at e
    rw [e.2.1]
    exact IntsIs.reads (SlIs.over h stays_int hW)
  obtain ⟨rfl, aI, nI, capI, rfl, rfl⟩ := pj_cells hp
  have b1 := below1 w (.cells #[.string p.name, .slice aI nI capI, .int .i64 p.keys.toInt] 26)
  have B1 := box_new w #[.string p.name, .slice aI nI capI, .int .i64 p.keys.toInt] 26
  obtain ⟨W0, hW0⟩ : ∃ W0, W0 = w.alloc (.cells #[.string p.name, .slice aI nI capI, .int .i64 p.keys.toInt] 26) := ⟨_, rfl⟩
  rw [← hW0] at b1 B1
  have cn := fun (k : Above W0) => putName_any p.name hl.1 k.it
  have cl := fun (k : Above W0) => putAll_any (.slice aI nI capI) p.cols k.it hl.2 (hI k.it (b1.trans (k.is.mono b1.size)))
  have ck := fun (k : Above W0) => put_any p.keys k.it
  have c0 : ∀ k : Above W0, k.it.cell? ⟨w.heap.size, 0, none⟩ = some (.string p.name) := fun k => above_cell (B1.cell 0 _ rfl) k
  have c1 : ∀ k : Above W0, k.it.cell? ⟨w.heap.size, 1, none⟩ = some (.slice aI nI capI) := fun k => above_cell (B1.cell 1 _ rfl) k
  have c2 : ∀ k : Above W0, k.it.cell? ⟨w.heap.size, 2, none⟩ = some (.int .i64 p.keys.toInt) := fun k => above_cell (B1.cell 2 _ rfl) k
  have hz1 : (str (encName p.name)).size ≤ 2000 := by have := encName_le p.name; have := hl.1; rw [str_size]; omega
  have hz2 : (str (encAll p.cols)).size ≤ 20000 := by have := encAll_len p.cols; have := hl.2; rw [str_size]; omega
  have hz3 : (str (enc1 p.keys)).size ≤ 10 := enc1_le _
  obtain ⟨S1, hS1⟩ : ∃ S, S = str (encName p.name) := ⟨_, rfl⟩
  obtain ⟨S2, hS2⟩ : ∃ S, S = str (encAll p.cols) := ⟨_, rfl⟩
  obtain ⟨S3, hS3⟩ : ∃ S, S = str (enc1 p.keys) := ⟨_, rfl⟩
  have HF : Hid (S1 ++ S2 ++ S3 = str (encPj p)) := by unfold Hid encPj; rw [hS1, hS2, hS3, str_append, str_append]
  rw [← hS1] at cn hz1
  rw [← hS2] at cl hz2
  rw [← hS3] at ck hz3
  obtain ⟨kx, hkx⟩ : ∃ x, x = p.keys.toInt := ⟨_, rfl⟩
  rw [← hkx] at ck c2 hW0 ⊢
  have hz12 : (S1 ++ S2).size ≤ 30000 := by rw [ByteArray.size_append]; omega
  have HB : Hid (Below w.heap.size w W0) := b1
  have HW : Hid (W0 = w.alloc (.cells #[.string p.name, .slice aI nI capI, .int .i64 kx] 26)) := hW0
  clear hS1 hS2 hS3 hkx hW0 b1 B1 hI hp hl
  go_enter Tryz.func87, Tryz.ntmps87
  go_wp2_with fail
  rw [← HW.out]
  refine wp_region_above (by kernel_rfl) (by kernel_rfl) ?_
  intro hne
  repeat (go_big_quiet_step (fail))
  go_big_quiet_step (first | (go_at_call 83; exact above_of (cn _)))
  repeat (go_big_quiet_step (fail))
  go_big_quiet_step (first | (go_at_call 125; exact above_of (cl _)))
  repeat (go_big_quiet_step (fail))
  go_big_quiet_step (first | (go_at_call 82; exact above_of (ck _)))
  repeat (go_big_quiet_step (fail))
  refine wpQuiet_nil ?_
  rintro _ ⟨kq, rfl⟩
  have hbq := kq.is
  go_wp2_with fail
  go_ret
  exact ⟨ret_str HF.out, HB.out.trans (hbq.mono HB.out.size)⟩
/-- A function value that tells the bytes of each of l. -/
def FbC (g : Nat) (w : World) (l : List Col) (enc : Col → List UInt8) : Prop :=
  ∀ (W : World) (x : Col) (c0 c1 c2 : Value), Below w.heap.size w W → x ∈ l → ColE W x [c0, c1, c2] → Calls Tryz.prog g #[.agg #[c0, c1, c2]] W fun e w' => e = .returned (.string (str (enc x))) ∧ Below W.heap.size W w'
set_option maxRecDepth 4000 in
set_option maxHeartbeats 4000000 in
theorem putListC_any {w : World} {v : Value} {l : List Col} (h : SlIs ColE 3 w v l) (hl : l.length ≤ 100) (g : Nat) (enc : Col → List UInt8) (eg : ∀ args w, (callFunc g args).run Tryz.prog w = .ok (.enter g args) w) (hf : FbC g w l enc) (hb : ∀ x ∈ l, (enc x).length ≤ 1300000) :
    Calls Tryz.prog 84 #[v, .func (.func g) #[] #[]] w fun e w' => e = .returned (.string (str (encL enc l))) ∧ Below w.heap.size w w' := by
  obtain ⟨a, n, cap, rfl, hn, hcap⟩ := h.slice
  have hnI : (n : Int) ≤ 100 := by omega
  have cp := fun W => put_len n (by omega) W
  have hp1 : (enc1 (BitVec.ofNat 64 n)).length ≤ 10 := enc1_le _
  have HH : Hid (SlIs ColE 3 w (.slice a n cap) l ∧ l.length = n ∧ n ≤ 100 ∧ FbC g w l enc ∧ ∀ x ∈ l, (enc x).length ≤ 1300000) := ⟨h, hn, by omega, hf, hb⟩
  have HP : Hid ((enc1 (BitVec.ofNat 64 n)).length ≤ 10) := hp1
  have HE : Hid (encL enc l = enc1 (BitVec.ofNat 64 n) ++ l.flatMap enc) := by unfold Hid encL; rw [hn]
  clear h hl hn hcap hf hb hp1
  go_enter Tryz.func84, Tryz.ntmps84
  go_wp2_with fail
  refine (cp _).mono ?_
  rintro e w1 ⟨rfl, hb1⟩
  clear cp
  go_wp2_with fail
  go_loopg [5, 13] n (fun gg s5 s13 wx => ∃ (k : Nat) (S : ByteArray), k + gg = n ∧ s13 = .int .i64 k ∧ s5 = .string S ∧ Hid (S = str (enc1 (BitVec.ofNat 64 n) ++ (l.take k).flatMap enc)) ∧ Hid (Below w.heap.size w wx))
  case atStart => exact ⟨0, _, by omega, rfl, rfl, by unfold Hid; simp, hb1⟩
  case round =>
    clear hb1
    obtain ⟨k, S, hkg, rfl, rfl, HS, HB⟩ := hrel
    by_cases hk : k < n
    · have hkI : (k : Int) < (n : Int) := by omega
      obtain ⟨x, d0, d1, d2, b, off, hs, rfl, hE, c0, c1, c2⟩ := at3C (HH.out.1.over stays_col HB.out) hk
      have hr2 : IntKind.i64.wrap ((k : Int) + 1) = (k : Int) + 1 := by rw [IntKind.wrap_i64]; omega
      have hone := one_three (one_col hE)
      have HZ : Hid (∀ z, Box (wr.alloc (.cells z 53)) wr.heap.size 53 z) := fun z => box_new wr z _
      obtain ⟨W1, hW1⟩ : ∃ W1, W1 = (wr.alloc (.cells #[.string ⟨#[]⟩, .int .i64 0, .bool false] 53)).setRow wr.heap.size #[d0, d1, d2] := ⟨_, rfl⟩
      have bW : Below wr.heap.size wr W1 := by rw [hW1]; exact below_setRow (below1 wr _) (Nat.le_refl _) _
      have BW : Box W1 wr.heap.size 53 #[d0, d1, d2] := by rw [hW1]; exact (box_new wr _ _).setRow _
      have hw1 := HB.out.trans (bW.mono HB.out.size)
      have hcall := HH.out.2.2.2.1 W1 x d0 d1 d2 hw1 (List.mem_of_getElem? hs) (stays_col _ _ _ _ hE bW)
      have b0 := BW.cell 0 _ rfl
      have b1 := BW.cell 1 _ rfl
      have b2 := BW.cell 2 _ rfl
      obtain ⟨S2, hS2⟩ : ∃ S, S = str (enc x) := ⟨_, rfl⟩
      rw [← hS2] at hcall
      have hz2 : S2.size ≤ 1300000 := by rw [hS2, str_size]; exact HH.out.2.2.2.2 x (List.mem_of_getElem? hs)
      have hz1 : S.size ≤ 140000000 := by
        have h1 := flat_le (enc := enc) (l := l.take k) (fun y hy => HH.out.2.2.2.2 y (List.mem_of_mem_take hy))
        have h2 := HP.out
        have h3 : (l.take k).length * 1300000 ≤ 100 * 1300000 := Nat.mul_le_mul_right _ (by rw [List.length_take]; have := HH.out.2.2.1; omega)
        rw [HS.out, str_size, List.length_append]
        omega
      have HN : Hid (S ++ S2 = str (enc1 (BitVec.ofNat 64 n) ++ (l.take (k + 1)).flatMap enc)) := by
        unfold Hid
        rw [HS.out, hS2, str_append, flat_take hs, List.append_assoc]
      have HW : Hid (W1 = (wr.alloc (.cells #[.string ⟨#[]⟩, .int .i64 0, .bool false] 53)).setRow wr.heap.size #[d0, d1, d2] ∧ Below w.heap.size w W1) := ⟨hW1, hw1⟩
      clear hs hE hW1 bW BW hw1 hS2
      go_wp2_with (refine wpList_store_row rfl 53 _ _ rfl wr.heap.size #[d0, d1, d2] rfl rfl 53 _ (HZ.out _) size_col rfl hone ?_; rw [← HW.out.1]; clear c0 c1 c2)
      refine hcall.mono ?_
      rintro e w2 ⟨rfl, hb2⟩
      have HB2 : Hid (Below w.heap.size w w2) := HW.out.2.trans (hb2.mono HW.out.2.size)
      clear hcall hb2 b0 b1 b2
      go_wp2_with fail
      go_roundg (n - (k + 1))
      case measure => clear hr2; omega
      case rel => exact ⟨k + 1, _, by clear hr2; omega, by go_num, rfl, HN, HB2⟩
    · have hkI : ¬ (k : Int) < (n : Int) := by omega
      obtain rfl : k = n := by omega
      go_wp2_with fail
      go_ret
      exact ⟨ret_str (by rw [HS.out, HE.out, List.take_of_length_le (by rw [HH.out.2.1]; exact Nat.le_refl _)]), HB.out⟩
/-- A function value that tells the bytes of each of l. -/
def FbP (g : Nat) (w : World) (l : List Pj) (enc : Pj → List UInt8) : Prop :=
  ∀ (W : World) (x : Pj) (c0 c1 c2 : Value), Below w.heap.size w W → x ∈ l → PjE W x [c0, c1, c2] → Calls Tryz.prog g #[.agg #[c0, c1, c2]] W fun e w' => e = .returned (.string (str (enc x))) ∧ Below W.heap.size W w'
set_option maxRecDepth 4000 in
set_option maxHeartbeats 4000000 in
theorem putListP_any {w : World} {v : Value} {l : List Pj} (h : SlIs PjE 3 w v l) (hl : l.length ≤ 100) (g : Nat) (enc : Pj → List UInt8) (eg : ∀ args w, (callFunc g args).run Tryz.prog w = .ok (.enter g args) w) (hf : FbP g w l enc) (hb : ∀ x ∈ l, (enc x).length ≤ 1300000) :
    Calls Tryz.prog 86 #[v, .func (.func g) #[] #[]] w fun e w' => e = .returned (.string (str (encL enc l))) ∧ Below w.heap.size w w' := by
  obtain ⟨a, n, cap, rfl, hn, hcap⟩ := h.slice
  have hnI : (n : Int) ≤ 100 := by omega
  have cp := fun W => put_len n (by omega) W
  have hp1 : (enc1 (BitVec.ofNat 64 n)).length ≤ 10 := enc1_le _
  have HH : Hid (SlIs PjE 3 w (.slice a n cap) l ∧ l.length = n ∧ n ≤ 100 ∧ FbP g w l enc ∧ ∀ x ∈ l, (enc x).length ≤ 1300000) := ⟨h, hn, by omega, hf, hb⟩
  have HP : Hid ((enc1 (BitVec.ofNat 64 n)).length ≤ 10) := hp1
  have HE : Hid (encL enc l = enc1 (BitVec.ofNat 64 n) ++ l.flatMap enc) := by unfold Hid encL; rw [hn]
  clear h hl hn hcap hf hb hp1
  go_enter Tryz.func86, Tryz.ntmps86
  go_wp2_with fail
  refine (cp _).mono ?_
  rintro e w1 ⟨rfl, hb1⟩
  clear cp
  go_wp2_with fail
  go_loopg [5, 13] n (fun gg s5 s13 wx => ∃ (k : Nat) (S : ByteArray), k + gg = n ∧ s13 = .int .i64 k ∧ s5 = .string S ∧ Hid (S = str (enc1 (BitVec.ofNat 64 n) ++ (l.take k).flatMap enc)) ∧ Hid (Below w.heap.size w wx))
  case atStart => exact ⟨0, _, by omega, rfl, rfl, by unfold Hid; simp, hb1⟩
  case round =>
    clear hb1
    obtain ⟨k, S, hkg, rfl, rfl, HS, HB⟩ := hrel
    by_cases hk : k < n
    · have hkI : (k : Int) < (n : Int) := by omega
      obtain ⟨x, d0, d1, d2, b, off, hs, rfl, hE, c0, c1, c2⟩ := at3P (HH.out.1.over stays_pj HB.out) hk
      have hr2 : IntKind.i64.wrap ((k : Int) + 1) = (k : Int) + 1 := by rw [IntKind.wrap_i64]; omega
      have hone := one_three (one_pj hE)
      have HZ : Hid (∀ z, Box (wr.alloc (.cells z 26)) wr.heap.size 26 z) := fun z => box_new wr z _
      obtain ⟨W1, hW1⟩ : ∃ W1, W1 = (wr.alloc (.cells #[.string ⟨#[]⟩, .slice none 0 0, .int .i64 0] 26)).setRow wr.heap.size #[d0, d1, d2] := ⟨_, rfl⟩
      have bW : Below wr.heap.size wr W1 := by rw [hW1]; exact below_setRow (below1 wr _) (Nat.le_refl _) _
      have BW : Box W1 wr.heap.size 26 #[d0, d1, d2] := by rw [hW1]; exact (box_new wr _ _).setRow _
      have hw1 := HB.out.trans (bW.mono HB.out.size)
      have hcall := HH.out.2.2.2.1 W1 x d0 d1 d2 hw1 (List.mem_of_getElem? hs) (stays_pj _ _ _ _ hE bW)
      have b0 := BW.cell 0 _ rfl
      have b1 := BW.cell 1 _ rfl
      have b2 := BW.cell 2 _ rfl
      obtain ⟨S2, hS2⟩ : ∃ S, S = str (enc x) := ⟨_, rfl⟩
      rw [← hS2] at hcall
      have hz2 : S2.size ≤ 1300000 := by rw [hS2, str_size]; exact HH.out.2.2.2.2 x (List.mem_of_getElem? hs)
      have hz1 : S.size ≤ 140000000 := by
        have h1 := flat_le (enc := enc) (l := l.take k) (fun y hy => HH.out.2.2.2.2 y (List.mem_of_mem_take hy))
        have h2 := HP.out
        have h3 : (l.take k).length * 1300000 ≤ 100 * 1300000 := Nat.mul_le_mul_right _ (by rw [List.length_take]; have := HH.out.2.2.1; omega)
        rw [HS.out, str_size, List.length_append]
        omega
      have HN : Hid (S ++ S2 = str (enc1 (BitVec.ofNat 64 n) ++ (l.take (k + 1)).flatMap enc)) := by
        unfold Hid
        rw [HS.out, hS2, str_append, flat_take hs, List.append_assoc]
      have HW : Hid (W1 = (wr.alloc (.cells #[.string ⟨#[]⟩, .slice none 0 0, .int .i64 0] 26)).setRow wr.heap.size #[d0, d1, d2] ∧ Below w.heap.size w W1) := ⟨hW1, hw1⟩
      clear hs hE hW1 bW BW hw1 hS2
      go_wp2_with (refine wpList_store_row rfl 26 _ _ rfl wr.heap.size #[d0, d1, d2] rfl rfl 26 _ (HZ.out _) size_pj rfl hone ?_; rw [← HW.out.1]; clear c0 c1 c2)
      refine hcall.mono ?_
      rintro e w2 ⟨rfl, hb2⟩
      have HB2 : Hid (Below w.heap.size w w2) := HW.out.2.trans (hb2.mono HW.out.2.size)
      clear hcall hb2 b0 b1 b2
      go_wp2_with fail
      go_roundg (n - (k + 1))
      case measure => clear hr2; omega
      case rel => exact ⟨k + 1, _, by clear hr2; omega, by go_num, rfl, HN, HB2⟩
    · have hkI : ¬ (k : Int) < (n : Int) := by omega
      obtain rfl : k = n := by omega
      go_wp2_with fail
      go_ret
      exact ⟨ret_str (by rw [HS.out, HE.out, List.take_of_length_le (by rw [HH.out.2.1]; exact Nat.le_refl _)]), HB.out⟩
/-- A function value that tells the bytes of each of l. -/
def FbT (g : Nat) (w : World) (l : List Tb) (enc : Tb → List UInt8) : Prop :=
  ∀ (W : World) (x : Tb) (c0 c1 c2 : Value), Below w.heap.size w W → x ∈ l → TbE W x [c0, c1, c2] → Calls Tryz.prog g #[.agg #[c0, c1, c2]] W fun e w' => e = .returned (.string (str (enc x))) ∧ Below W.heap.size W w'
set_option maxRecDepth 4000 in
set_option maxHeartbeats 4000000 in
theorem putListT_any {w : World} {v : Value} {l : List Tb} (h : SlIs TbE 3 w v l) (hl : l.length ≤ 100) (g : Nat) (enc : Tb → List UInt8) (eg : ∀ args w, (callFunc g args).run Tryz.prog w = .ok (.enter g args) w) (hf : FbT g w l enc) (hb : ∀ x ∈ l, (enc x).length ≤ 1300000) :
    Calls Tryz.prog 45 #[v, .func (.func g) #[] #[]] w fun e w' => e = .returned (.string (str (encL enc l))) ∧ Below w.heap.size w w' := by
  obtain ⟨a, n, cap, rfl, hn, hcap⟩ := h.slice
  have hnI : (n : Int) ≤ 100 := by omega
  have cp := fun W => put_len n (by omega) W
  have hp1 : (enc1 (BitVec.ofNat 64 n)).length ≤ 10 := enc1_le _
  have HH : Hid (SlIs TbE 3 w (.slice a n cap) l ∧ l.length = n ∧ n ≤ 100 ∧ FbT g w l enc ∧ ∀ x ∈ l, (enc x).length ≤ 1300000) := ⟨h, hn, by omega, hf, hb⟩
  have HP : Hid ((enc1 (BitVec.ofNat 64 n)).length ≤ 10) := hp1
  have HE : Hid (encL enc l = enc1 (BitVec.ofNat 64 n) ++ l.flatMap enc) := by unfold Hid encL; rw [hn]
  clear h hl hn hcap hf hb hp1
  go_enter Tryz.func45, Tryz.ntmps45
  go_wp2_with fail
  refine (cp _).mono ?_
  rintro e w1 ⟨rfl, hb1⟩
  clear cp
  go_wp2_with fail
  go_loopg [5, 13] n (fun gg s5 s13 wx => ∃ (k : Nat) (S : ByteArray), k + gg = n ∧ s13 = .int .i64 k ∧ s5 = .string S ∧ Hid (S = str (enc1 (BitVec.ofNat 64 n) ++ (l.take k).flatMap enc)) ∧ Hid (Below w.heap.size w wx))
  case atStart => exact ⟨0, _, by omega, rfl, rfl, by unfold Hid; simp, hb1⟩
  case round =>
    clear hb1
    obtain ⟨k, S, hkg, rfl, rfl, HS, HB⟩ := hrel
    by_cases hk : k < n
    · have hkI : (k : Int) < (n : Int) := by omega
      obtain ⟨x, d0, d1, d2, b, off, hs, rfl, hE, c0, c1, c2⟩ := at3T (HH.out.1.over stays_tb HB.out) hk
      have hr2 : IntKind.i64.wrap ((k : Int) + 1) = (k : Int) + 1 := by rw [IntKind.wrap_i64]; omega
      have hone := one_three (one_tb hE)
      have HZ : Hid (∀ z, Box (wr.alloc (.cells z 41)) wr.heap.size 41 z) := fun z => box_new wr z _
      obtain ⟨W1, hW1⟩ : ∃ W1, W1 = (wr.alloc (.cells #[.string ⟨#[]⟩, .slice none 0 0, .slice none 0 0] 41)).setRow wr.heap.size #[d0, d1, d2] := ⟨_, rfl⟩
      have bW : Below wr.heap.size wr W1 := by rw [hW1]; exact below_setRow (below1 wr _) (Nat.le_refl _) _
      have BW : Box W1 wr.heap.size 41 #[d0, d1, d2] := by rw [hW1]; exact (box_new wr _ _).setRow _
      have hw1 := HB.out.trans (bW.mono HB.out.size)
      have hcall := HH.out.2.2.2.1 W1 x d0 d1 d2 hw1 (List.mem_of_getElem? hs) (stays_tb _ _ _ _ hE bW)
      have b0 := BW.cell 0 _ rfl
      have b1 := BW.cell 1 _ rfl
      have b2 := BW.cell 2 _ rfl
      obtain ⟨S2, hS2⟩ : ∃ S, S = str (enc x) := ⟨_, rfl⟩
      rw [← hS2] at hcall
      have hz2 : S2.size ≤ 1300000 := by rw [hS2, str_size]; exact HH.out.2.2.2.2 x (List.mem_of_getElem? hs)
      have hz1 : S.size ≤ 140000000 := by
        have h1 := flat_le (enc := enc) (l := l.take k) (fun y hy => HH.out.2.2.2.2 y (List.mem_of_mem_take hy))
        have h2 := HP.out
        have h3 : (l.take k).length * 1300000 ≤ 100 * 1300000 := Nat.mul_le_mul_right _ (by rw [List.length_take]; have := HH.out.2.2.1; omega)
        rw [HS.out, str_size, List.length_append]
        omega
      have HN : Hid (S ++ S2 = str (enc1 (BitVec.ofNat 64 n) ++ (l.take (k + 1)).flatMap enc)) := by
        unfold Hid
        rw [HS.out, hS2, str_append, flat_take hs, List.append_assoc]
      have HW : Hid (W1 = (wr.alloc (.cells #[.string ⟨#[]⟩, .slice none 0 0, .slice none 0 0] 41)).setRow wr.heap.size #[d0, d1, d2] ∧ Below w.heap.size w W1) := ⟨hW1, hw1⟩
      clear hs hE hW1 bW BW hw1 hS2
      go_wp2_with (refine wpList_store_row rfl 41 _ _ rfl wr.heap.size #[d0, d1, d2] rfl rfl 41 _ (HZ.out _) size_tb rfl hone ?_; rw [← HW.out.1]; clear c0 c1 c2)
      refine hcall.mono ?_
      rintro e w2 ⟨rfl, hb2⟩
      have HB2 : Hid (Below w.heap.size w w2) := HW.out.2.trans (hb2.mono HW.out.2.size)
      clear hcall hb2 b0 b1 b2
      go_wp2_with fail
      go_roundg (n - (k + 1))
      case measure => clear hr2; omega
      case rel => exact ⟨k + 1, _, by clear hr2; omega, by go_num, rfl, HN, HB2⟩
    · have hkI : ¬ (k : Int) < (n : Int) := by omega
      obtain rfl : k = n := by omega
      go_wp2_with fail
      go_ret
      exact ⟨ret_str (by rw [HS.out, HE.out, List.take_of_length_le (by rw [HH.out.2.1]; exact Nat.le_refl _)]), HB.out⟩
theorem fb_col {l : List Col} (hl : ∀ c ∈ l, litC c) (w : World) : FbC 85 w l encCol := fun W x c0 c1 c2 _ hx hE => by
  have e : [c0, c1, c2] = colC x := hE
  simp only [colC, List.cons.injEq, and_true] at e
  obtain ⟨rfl, rfl, rfl⟩ := e
  exact putCol_any x (hl x hx) W
theorem fb_pj {l : List Pj} (hl : ∀ c ∈ l, fewP c) (w : World) : FbP 87 w l encPj := fun _ x _ _ _ _ hx hE => putPj_any hE (hl x hx)
set_option maxHeartbeats 4000000 in
theorem putTb_any {w : World} {t : Tb} {c0 c1 c2 : Value} (ht : TbE w t [c0, c1, c2]) (hl : fewT t) : Calls Tryz.prog 46 #[.agg #[c0, c1, c2]] w fun e w' => e = .returned (.string (str (encTb t))) ∧ Below w.heap.size w w' := by
  obtain ⟨rfl, aC, nC, capC, aP, nP, capP, rfl, rfl, hnC, hnP, hC, hP⟩ := tb_cells ht
  have b1 := below1 w (.cells #[.string t.name, .slice aC nC capC, .slice aP nP capP] 41)
  have B1 := box_new w #[.string t.name, .slice aC nC capC, .slice aP nP capP] 41
  obtain ⟨W0, hW0⟩ : ∃ W0, W0 = w.alloc (.cells #[.string t.name, .slice aC nC capC, .slice aP nP capP] 41) := ⟨_, rfl⟩
  rw [← hW0] at b1 B1
  have cn := fun (k : Above W0) => putName_any t.name hl.1 k.it
  have cc := fun (k : Above W0) => putListC_any (w := k.it) (hC.over stays_col (b1.trans (k.is.mono b1.size))) hl.2.1 85 encCol (enters_of Tryz.func85 (by kernel_rfl) rfl) (fb_col hl.2.2.2.1 _) (fun x hx => by have := encCol_le (hl.2.2.2.1 x hx); omega)
  have cp := fun (k : Above W0) => putListP_any (w := k.it) (hP.over stays_pj (b1.trans (k.is.mono b1.size))) hl.2.2.1 87 encPj (enters_of Tryz.func87 (by kernel_rfl) rfl) (fb_pj hl.2.2.2.2 _) (fun x hx => by have := encPj_le (hl.2.2.2.2 x hx); omega)
  have d0 : ∀ k : Above W0, k.it.cell? ⟨w.heap.size, 0, none⟩ = some (.string t.name) := fun k => above_cell (B1.cell 0 _ rfl) k
  have d1 : ∀ k : Above W0, k.it.cell? ⟨w.heap.size, 1, none⟩ = some (.slice aC nC capC) := fun k => above_cell (B1.cell 1 _ rfl) k
  have d2 : ∀ k : Above W0, k.it.cell? ⟨w.heap.size, 2, none⟩ = some (.slice aP nP capP) := fun k => above_cell (B1.cell 2 _ rfl) k
  have hz1 : (str (encName t.name)).size ≤ 2000 := by have := encName_le t.name; have := hl.1; rw [str_size]; omega
  have hz2 : (str (encL encCol t.cols)).size ≤ 200000 := by have := encL_le (enc := encCol) (l := t.cols) (fun x hx => encCol_le (hl.2.2.2.1 x hx)) hl.2.1; rw [str_size]; omega
  have hz3 : (str (encL encPj t.projs)).size ≤ 2000000 := by have := encL_le (enc := encPj) (l := t.projs) (fun x hx => encPj_le (hl.2.2.2.2 x hx)) hl.2.2.1; rw [str_size]; omega
  obtain ⟨S1, hS1⟩ : ∃ S, S = str (encName t.name) := ⟨_, rfl⟩
  obtain ⟨S2, hS2⟩ : ∃ S, S = str (encL encCol t.cols) := ⟨_, rfl⟩
  obtain ⟨S3, hS3⟩ : ∃ S, S = str (encL encPj t.projs) := ⟨_, rfl⟩
  have HF : Hid (S1 ++ S2 ++ S3 = str (encTb t)) := by unfold Hid encTb; rw [hS1, hS2, hS3, str_append, str_append]
  rw [← hS1] at cn hz1
  rw [← hS2] at cc hz2
  rw [← hS3] at cp hz3
  have hz12 : (S1 ++ S2).size ≤ 300000 := by rw [ByteArray.size_append]; omega
  have HB : Hid (Below w.heap.size w W0) := b1
  have HW : Hid (W0 = w.alloc (.cells #[.string t.name, .slice aC nC capC, .slice aP nP capP] 41)) := hW0
  clear hS1 hS2 hS3 hW0 b1 B1 hC hP hnC hnP ht hl
  go_enter Tryz.func46, Tryz.ntmps46
  go_wp2_with fail
  rw [← HW.out]
  refine wp_region_above (by kernel_rfl) (by kernel_rfl) ?_
  intro hne
  repeat (go_big_quiet_step (fail))
  go_big_quiet_step (first | (go_at_call 83; exact above_of (cn _)))
  repeat (go_big_quiet_step (fail))
  go_big_quiet_step (first | (go_at_call 84; exact above_of (cc _)))
  repeat (go_big_quiet_step (fail))
  go_big_quiet_step (first | (go_at_call 86; exact above_of (cp _)))
  repeat (go_big_quiet_step (fail))
  refine wpQuiet_nil ?_
  rintro _ ⟨kq, rfl⟩
  have hbq := kq.is
  go_wp2_with fail
  go_ret
  exact ⟨ret_str HF.out, HB.out.trans (hbq.mono HB.out.size)⟩
theorem cols_few {l : List Col} (h : colsB l = true) : l.length ≤ 8 ∧ ∀ c ∈ l, litC c := by
  unfold colsB at h
  simp only [Bool.and_eq_true, decide_eq_true_eq] at h
  refine ⟨h.1.1.2, fun c hc => ?_⟩
  have := List.all_eq_true.1 h.1.2 c hc
  unfold colOk at this
  simp only [Bool.and_eq_true] at this
  unfold litC
  have := (name_len this.1).2
  omega
theorem pj_few {n : Nat} {p : Pj} (h : pjB n p = true) (hn : n ≤ 8) : p.name.size ≤ 16 ∧ p.cols.length ≤ 8 := by
  unfold pjB at h
  simp only [Bool.and_eq_true, decide_eq_true_eq] at h
  exact ⟨(name_len h.1.1.1.1.1.1).2, by have := h.1.1.1.1.2; omega⟩
theorem tb_fewT {t : Tb} (h : tbB t = true) : fewT t := by
  unfold tbB at h
  simp only [Bool.and_eq_true, decide_eq_true_eq] at h
  have hc := cols_few h.1.1.1.1.2
  refine ⟨by have := (name_len h.1.1.1.1.1).2; omega, by omega, by have := h.1.1.1.2; omega, hc.2, fun p hp => ?_⟩
  have := pj_few (List.all_eq_true.1 h.1.1.2 p hp) hc.1
  exact ⟨by omega, by omega⟩
theorem tabs_few {l : List Tb} (h : tabsB l = true) : l.length ≤ 8 ∧ ∀ t ∈ l, fewT t := by
  unfold tabsB at h
  simp only [Bool.and_eq_true, decide_eq_true_eq] at h
  exact ⟨h.1.1, fun t ht => tb_fewT (List.all_eq_true.1 h.1.2 t ht)⟩
/-- What Put answers. -/
def putF (l : List Tb) : List UInt8 × Int := if tabsB l then (encTabs l, 0) else ([], 1)
set_option maxHeartbeats 4000000 in
theorem putTabs_any {w : World} {v : Value} {l : List Tb} (h : TabsIs w v l) (hl : litL l) :
    Calls Tryz.prog 16 #[v] w fun e w' => e = .returned (.tuple #[.string (str (putF l).1), .int .i64 (putF l).2]) ∧ Below w.heap.size w w' := by
  have cc := check_any h hl
  obtain ⟨a, n, cap, rfl, hn, _⟩ := h.slice
  unfold putF
  cases hq : tabsB l with
  | false =>
    rw [hq] at cc
    unfold errT at cc
    simp only [Bool.false_eq_true, if_false] at cc ⊢
    clear h hl hn hq
    go_enter Tryz.func16, Tryz.ntmps16
    go_wp2_with fail
    refine cc.mono ?_
    rintro e w1 ⟨rfl, hb⟩
    go_wp2_with fail
    go_ret2
    exact ⟨rfl, hb⟩
  | true =>
    have hf := tabs_few hq
    have cp := fun W (hW : Below w.heap.size w W) => putListT_any (w := W) (h.over stays_tb hW) (by omega) 46 encTb (enters_of Tryz.func46 (by kernel_rfl) rfl) (fun _ x _ _ _ _ hx hE => putTb_any hE (hf.2 x hx)) (fun x hx => encTb_le (hf.2 x hx))
    rw [hq] at cc
    unfold errT at cc
    simp only [if_true] at cc ⊢
    have HE : Hid (encL encTb l = encTabs l) := rfl
    rw [HE.out] at cp
    generalize str (encTabs l) = S at *
    clear h hl hn hq hf HE
    go_enter Tryz.func16, Tryz.ntmps16
    go_wp2_with fail
    refine cc.mono ?_
    rintro e w1 ⟨rfl, hb⟩
    have cp1 := cp w1 hb
    clear cc cp
    go_wp2_with fail
    refine cp1.mono ?_
    rintro e w2 ⟨rfl, hb2⟩
    go_wp2_with fail
    go_ret2
    exact ⟨rfl, hb.trans (hb2.mono hb.size)⟩
end Go.Proofs.YtdjobjbkpagnaaaGreat
/-
  What tables bytes begin with, as plain functions: the code's way, and the document's; both are the same where tables may be. Pure mathematics.
-/
namespace Go.Proofs.YtdjobjbkpagnaaaGreat
open Leb

abbrev By := List UInt8
def pNum (s : By) : Option (BitVec 64 × By) := if (tk s).2.2 = 0 then some (zagW (tk s).1, s.drop (tk s).2.1) else none
def pTo (m : Nat) (s : By) : Option (BitVec 64 × By) := (pNum s).bind fun p => if 0 ≤ p.1.toInt ∧ p.1.toInt ≤ (m : Int) then some p else none
def pName (s : By) : Option (ByteArray × By) := (pTo 16 s).bind fun p => if p.1.toInt.toNat ≤ p.2.length then some (str (p.2.take p.1.toInt.toNat), p.2.drop p.1.toInt.toNat) else none
def pRep {α : Type} (p : By → Option (α × By)) : Nat → By → Option (List α × By)
  | 0, s => some ([], s)
  | k + 1, s => (pRep p k s).bind fun q => (p q.2).bind fun r => some (q.1 ++ [r.1], r.2)
def pList {α : Type} (m : Nat) (p : By → Option (α × By)) (s : By) : Option (List α × By) := (pTo m s).bind fun q => pRep p q.1.toInt.toNat q.2
def pNums (s : By) : Option (List (BitVec 64) × By) := if (ta s).2.2 = 0 then some ((ta s).1, s.drop (ta s).2.1) else none
def pColC (s : By) : Option (Col × By) := (pName s).bind fun a => (pNum a.2).bind fun b => (pTo 1 b.2).bind fun c => some (⟨a.1, b.1, decide (c.1.toInt = 1)⟩, c.2)
def pPjC (s : By) : Option (Pj × By) := (pName s).bind fun a => (pNums a.2).bind fun b => (pNum b.2).bind fun c => some (⟨a.1, b.1, c.1⟩, c.2)
def pTbC (s : By) : Option (Tb × By) := (pName s).bind fun a => (pList 8 pColC a.2).bind fun b => (pList 6 pPjC b.2).bind fun c => some (⟨a.1, b.1, c.1⟩, c.2)
def pTabsC (s : By) : Option (List Tb × By) := pList 8 pTbC s
def pColR (s : By) : Option (Col × By) := (pName s).bind fun a => (pTo 2 a.2).bind fun b => (pTo 1 b.2).bind fun c => some (⟨a.1, b.1, decide (c.1.toInt = 1)⟩, c.2)
def pPjR (s : By) : Option (Pj × By) := (pName s).bind fun a => (pList 8 (pTo 8) a.2).bind fun b => (pTo 8 b.2).bind fun c => some (⟨a.1, b.1, c.1⟩, c.2)
def pTbR (s : By) : Option (Tb × By) := (pName s).bind fun a => (pList 8 pColR a.2).bind fun b => (pList 6 pPjR b.2).bind fun c => some (⟨a.1, b.1, c.1⟩, c.2)
def pTabsR (s : By) : Option (List Tb × By) := pList 8 pTbR s
def takeWith (p : By → Option (List Tb × By)) (s : By) : List Tb × Nat × Int :=
  match p s with
  | some (l, r) => if tabsB l then (l, s.length - r.length, 0) else ([], 0, 20)
  | none => ([], 0, 20)

def Sound {α : Type} (p : By → Option (α × By)) (enc : α → By) : Prop := ∀ s x r, p s = some (x, r) → s = enc x ++ r
def Compl {α : Type} (p : By → Option (α × By)) (enc : α → By) (ok : α → Prop) : Prop := ∀ x r, ok x → p (enc x ++ r) = some (x, r)

theorem enc1_zagW (z : BitVec 64) : enc1 (zagW z) = leb z.toNat := by rw [enc1, zig_zag]
theorem sound_num : Sound pNum enc1 := by
  intro s x r h
  unfold pNum at h
  rcases tk_cases s with ⟨z, hz, e⟩ | ⟨_, e⟩
  · rw [e] at h
    simp only [if_true, Option.some.injEq, Prod.mk.injEq] at h
    obtain ⟨rfl, rfl⟩ := h
    rw [enc1_zagW]
    obtain ⟨t, rfl⟩ := hz
    rw [show lenW z = (leb z.toNat).length from rfl, List.drop_left]
  · rw [e] at h
    simp at h
theorem compl_num : Compl pNum enc1 (fun _ => True) := by
  intro x r _
  have h : tk (enc1 x ++ r) = (zigW x, lenW (zigW x), 0) := tk_ok ⟨r, rfl⟩
  unfold pNum
  rw [h]
  simp only [if_true, Option.some.injEq, Prod.mk.injEq]
  refine ⟨zag_zig x, ?_⟩
  rw [← enc1_len, List.drop_left]
theorem sound_to (m : Nat) : Sound (pTo m) enc1 := by
  intro s x r h
  unfold pTo at h
  rw [Option.bind_eq_some_iff] at h
  obtain ⟨p, hp, h⟩ := h
  split at h
  · cases h; exact sound_num s x r hp
  · cases h
theorem to_range {m : Nat} {s : By} {x : BitVec 64} {r : By} (h : pTo m s = some (x, r)) : 0 ≤ x.toInt ∧ x.toInt ≤ (m : Int) := by
  unfold pTo at h
  rw [Option.bind_eq_some_iff] at h
  obtain ⟨p, hp, h⟩ := h
  split at h
  · cases h; assumption
  · cases h
theorem compl_to (m : Nat) : Compl (pTo m) enc1 (fun x => 0 ≤ x.toInt ∧ x.toInt ≤ (m : Int)) := by
  intro x r h
  unfold pTo
  rw [compl_num x r trivial]
  simp only [Option.bind_some, if_pos h]
theorem bv_len {x : BitVec 64} (h : 0 ≤ x.toInt) : BitVec.ofNat 64 x.toInt.toNat = x := by
  apply BitVec.eq_of_toInt_eq
  have := BitVec.toInt_lt (x := x)
  rw [Wd.toInt_of_small _ (by omega)]
  omega
theorem toInt_len {n : Nat} (h : n ≤ 65536) : (BitVec.ofNat 64 n).toInt = (n : Int) := Wd.toInt_of_small _ (by omega)
theorem sound_name : Sound pName encName := by
  intro s x r h
  unfold pName at h
  rw [Option.bind_eq_some_iff] at h
  obtain ⟨p, hp, h⟩ := h
  have h1 := sound_to 16 s p.1 p.2 hp
  have h2 := to_range (x := p.1) (r := p.2) hp
  split at h
  · rename_i hl
    cases h
    unfold encName
    rw [str_size, List.length_take, Nat.min_eq_left hl, bv_len h2.1, str_list, List.append_assoc, List.take_append_drop]
    exact h1
  · cases h
theorem compl_name : Compl pName encName (fun n => n.size ≤ 16) := by
  intro n r h
  have e := toInt_len (n := n.size) (by omega)
  unfold pName encName
  rw [List.append_assoc, compl_to 16 _ _ (by show 0 ≤ BitVec.toInt _ ∧ BitVec.toInt _ ≤ _; rw [e]; omega)]
  simp only [Option.bind_some, e, Int.toNat_natCast]
  have hs : n.data.toList.length = n.size := by simp
  rw [if_pos (by rw [List.length_append, hs]; omega), ← hs, List.take_left, List.drop_left, str_of]
theorem sound_rep {α : Type} {p : By → Option (α × By)} {enc : α → By} (hp : Sound p enc) : ∀ (k : Nat) (s : By) (l : List α) (r : By), pRep p k s = some (l, r) → s = l.flatMap enc ++ r ∧ l.length = k
  | 0, s, l, r, h => by
    simp only [pRep, Option.some.injEq, Prod.mk.injEq] at h
    obtain ⟨rfl, rfl⟩ := h
    simp
  | k + 1, s, l, r, h => by
    rw [pRep, Option.bind_eq_some_iff] at h
    obtain ⟨q, hq, h⟩ := h
    rw [Option.bind_eq_some_iff] at h
    obtain ⟨t, ht, h⟩ := h
    cases h
    obtain ⟨h1, h2⟩ := sound_rep hp k s q.1 q.2 hq
    have h3 := hp q.2 t.1 t.2 ht
    refine ⟨?_, by simp [h2]⟩
    rw [List.flatMap_append, List.append_assoc, h1]
    congr 1
    simp only [List.flatMap_cons, List.flatMap_nil, List.append_nil]
    exact h3
theorem compl_rep {α : Type} {p : By → Option (α × By)} {enc : α → By} {ok : α → Prop} (hp : Compl p enc ok) (l : List α) : ∀ (r : By), (∀ x ∈ l, ok x) → pRep p l.length (l.flatMap enc ++ r) = some (l, r) := by
  refine snoc_ind (P := fun l => ∀ (r : By), (∀ x ∈ l, ok x) → pRep p l.length (l.flatMap enc ++ r) = some (l, r)) ?_ ?_ l
  · intro r _
    simp [pRep]
  · intro l x ih r hl
    rw [List.length_append, List.length_singleton, pRep, List.flatMap_append, List.append_assoc, ih _ (fun y hy => hl y (by simp [hy]))]
    simp only [Option.bind_some, List.flatMap_cons, List.flatMap_nil, List.append_nil]
    rw [hp x r (hl x (by simp))]
    rfl
theorem sound_list {α : Type} {p : By → Option (α × By)} {enc : α → By} (m : Nat) (hp : Sound p enc) : Sound (pList m p) (encL enc) := by
  intro s l r h
  unfold pList at h
  rw [Option.bind_eq_some_iff] at h
  obtain ⟨q, hq, h⟩ := h
  obtain ⟨h1, h2⟩ := sound_rep hp _ _ _ _ h
  have h3 := sound_to m s q.1 q.2 hq
  have h4 := to_range (x := q.1) (r := q.2) hq
  unfold encL
  rw [h2, bv_len h4.1, List.append_assoc, ← h1]
  exact h3
theorem compl_list {α : Type} {p : By → Option (α × By)} {enc : α → By} {ok : α → Prop} (m : Nat) (hm : m ≤ 65536) (hp : Compl p enc ok) : Compl (pList m p) (encL enc) (fun l => l.length ≤ m ∧ ∀ x ∈ l, ok x) := by
  intro l r h
  have e := toInt_len (n := l.length) (by omega)
  unfold pList encL
  rw [List.append_assoc, compl_to m _ _ (by show 0 ≤ BitVec.toInt _ ∧ BitVec.toInt _ ≤ _; rw [e]; omega)]
  simp only [Option.bind_some, e, Int.toNat_natCast]
  exact compl_rep hp l r h.2
theorem tkN_sound : ∀ (c : Nat) (s : By) (l : List (BitVec 64)) (n : Nat), tkN c s = some (l, n) → s = encs l ++ s.drop n ∧ l.length = c
  | 0, s, l, n, h => by
    simp only [tkN, Option.some.injEq, Prod.mk.injEq] at h
    obtain ⟨rfl, rfl⟩ := h
    simp [encs]
  | c + 1, s, l, n, h => by
    rw [tkN] at h
    split at h
    · rename_i h0
      rw [Option.map_eq_some_iff] at h
      obtain ⟨q, hq, h⟩ := h
      cases h
      obtain ⟨h1, h2⟩ := tkN_sound c _ q.1 q.2 hq
      have hn : pNum s = some (zagW (tk s).1, s.drop (tk s).2.1) := by unfold pNum; rw [if_pos h0]
      have h3 := sound_num s _ _ hn
      refine ⟨?_, by simp [h2]⟩
      rw [List.drop_drop] at h1
      rw [show encs (zagW (tk s).1 :: q.1) = enc1 (zagW (tk s).1) ++ encs q.1 by simp [encs], List.append_assoc, ← h1]
      exact h3
    · cases h
theorem sound_nums : Sound pNums encAll := by
  intro s l r h
  unfold pNums at h
  split at h
  · rename_i h0
    cases h
    rcases tk_cases s with ⟨z, hz, e⟩ | ⟨_, e⟩
    · by_cases hn : (zagW z).toInt < 0
      · rw [ta_neg e hn] at h0; simp at h0
      · by_cases hm : 65536 < (zagW z).toInt
        · rw [ta_many e hm] at h0; simp at h0
        · cases hf : tkF (zagW z).toInt.toNat s [] (lenW z) with
          | none => rw [ta_none e (zagW z).toInt.toNat (by omega) (by omega) hf] at h0; simp at h0
          | some p =>
            obtain ⟨d, u⟩ := p
            rw [ta_some e (zagW z).toInt.toNat (by omega) (by omega) hf]
            simp only
            unfold tkF at hf
            rw [Option.map_eq_some_iff] at hf
            obtain ⟨q, hq, hf⟩ := hf
            simp only [List.nil_append, Prod.mk.injEq] at hf
            obtain ⟨rfl, rfl⟩ := hf
            obtain ⟨h1, h2⟩ := tkN_sound _ _ q.1 q.2 hq
            have hnn : pNum s = some (zagW z, s.drop (lenW z)) := by unfold pNum; rw [e]; simp
            have h3 := sound_num s _ _ hnn
            rw [List.drop_drop] at h1
            unfold encAll
            rw [h2, bv_len (by omega), List.append_assoc, ← h1]
            exact h3
    · rw [ta_form e] at h0; simp at h0
  · cases h
theorem compl_nums : Compl pNums encAll (fun l => l.length ≤ 65536) := by
  intro l r h
  unfold pNums
  rw [ta_enc l h r]
  simp only [if_true, List.drop_left]
theorem null_back {b : BitVec 64} (h0 : 0 ≤ b.toInt) (h1 : b.toInt ≤ 1) : nullW (decide (b.toInt = 1)) = b := by
  apply BitVec.eq_of_toInt_eq
  unfold nullW
  by_cases h : b.toInt = 1
  · rw [decide_eq_true h, if_pos rfl, h]; rfl
  · rw [decide_eq_false h, if_neg (by decide)]
    have : b.toInt = 0 := by omega
    rw [this]; rfl
theorem null_one (b : Bool) : decide ((nullW b).toInt = 1) = b := by cases b <;> decide
theorem null_to (b : Bool) : 0 ≤ (nullW b).toInt ∧ (nullW b).toInt ≤ ((1 : Nat) : Int) := by cases b <;> decide
theorem sound_colC : Sound pColC encCol := by
  intro s x r h
  unfold pColC at h
  simp only [Option.bind_eq_some_iff] at h
  obtain ⟨a, ha, b, hb, c, hc, h⟩ := h
  cases h
  have h4 := to_range (x := c.1) (r := c.2) hc
  unfold encCol
  simp only [null_back h4.1 h4.2, List.append_assoc]
  rw [← sound_to 1 _ c.1 c.2 hc, ← sound_num _ b.1 b.2 hb]
  exact sound_name _ a.1 a.2 ha
theorem compl_colC : Compl pColC encCol (fun c => c.name.size ≤ 16) := by
  intro c r h
  unfold pColC encCol
  rw [List.append_assoc, List.append_assoc, compl_name _ _ h]
  simp only [Option.bind_some]
  rw [compl_num _ _ trivial]
  simp only [Option.bind_some]
  rw [compl_to 1 _ _ (null_to c.null)]
  simp only [Option.bind_some, null_one]
theorem sound_pjC : Sound pPjC encPj := by
  intro s x r h
  unfold pPjC at h
  simp only [Option.bind_eq_some_iff] at h
  obtain ⟨a, ha, b, hb, c, hc, h⟩ := h
  cases h
  unfold encPj
  simp only [List.append_assoc]
  rw [← sound_num _ c.1 c.2 hc, ← sound_nums _ b.1 b.2 hb]
  exact sound_name _ a.1 a.2 ha
theorem compl_pjC : Compl pPjC encPj (fun p => p.name.size ≤ 16 ∧ p.cols.length ≤ 65536) := by
  intro p r h
  unfold pPjC encPj
  rw [List.append_assoc, List.append_assoc, compl_name _ _ h.1]
  simp only [Option.bind_some]
  rw [compl_nums _ _ h.2]
  simp only [Option.bind_some]
  rw [compl_num _ _ trivial]
  simp only [Option.bind_some]
theorem sound_tbC : Sound pTbC encTb := by
  intro s x r h
  unfold pTbC at h
  simp only [Option.bind_eq_some_iff] at h
  obtain ⟨a, ha, b, hb, c, hc, h⟩ := h
  cases h
  unfold encTb
  simp only [List.append_assoc]
  rw [← sound_list 6 sound_pjC _ c.1 c.2 hc, ← sound_list 8 sound_colC _ b.1 b.2 hb]
  exact sound_name _ a.1 a.2 ha
theorem compl_tbC : Compl pTbC encTb (fun t => t.name.size ≤ 16 ∧ (t.cols.length ≤ 8 ∧ ∀ c ∈ t.cols, c.name.size ≤ 16) ∧ (t.projs.length ≤ 6 ∧ ∀ p ∈ t.projs, p.name.size ≤ 16 ∧ p.cols.length ≤ 65536)) := by
  intro t r h
  unfold pTbC encTb
  rw [List.append_assoc, List.append_assoc, compl_name _ _ h.1]
  simp only [Option.bind_some]
  rw [compl_list 8 (by decide) compl_colC _ _ h.2.1]
  simp only [Option.bind_some]
  rw [compl_list 6 (by decide) compl_pjC _ _ h.2.2]
  simp only [Option.bind_some]
theorem sound_tabsC : Sound pTabsC encTabs := sound_list 8 sound_tbC
theorem sound_colR : Sound pColR encCol := by
  intro s x r h
  unfold pColR at h
  simp only [Option.bind_eq_some_iff] at h
  obtain ⟨a, ha, b, hb, c, hc, h⟩ := h
  cases h
  have h4 := to_range (x := c.1) (r := c.2) hc
  unfold encCol
  simp only [null_back h4.1 h4.2, List.append_assoc]
  rw [← sound_to 1 _ c.1 c.2 hc, ← sound_to 2 _ b.1 b.2 hb]
  exact sound_name _ a.1 a.2 ha
theorem compl_colR : Compl pColR encCol (fun c => c.name.size ≤ 16 ∧ 0 ≤ c.kind.toInt ∧ c.kind.toInt ≤ 2) := by
  intro c r h
  unfold pColR encCol
  rw [List.append_assoc, List.append_assoc, compl_name _ _ h.1]
  simp only [Option.bind_some]
  rw [compl_to 2 _ _ h.2]
  simp only [Option.bind_some]
  rw [compl_to 1 _ _ (null_to c.null)]
  simp only [Option.bind_some, null_one]
theorem encAll_L (l : List (BitVec 64)) : encAll l = encL enc1 l := rfl
theorem sound_pjR : Sound pPjR encPj := by
  intro s x r h
  unfold pPjR at h
  simp only [Option.bind_eq_some_iff] at h
  obtain ⟨a, ha, b, hb, c, hc, h⟩ := h
  cases h
  unfold encPj
  simp only [List.append_assoc]
  rw [← sound_to 8 _ c.1 c.2 hc, encAll_L, ← sound_list 8 (sound_to 8) _ b.1 b.2 hb]
  exact sound_name _ a.1 a.2 ha
theorem compl_pjR : Compl pPjR encPj (fun p => p.name.size ≤ 16 ∧ (p.cols.length ≤ 8 ∧ ∀ c ∈ p.cols, 0 ≤ c.toInt ∧ c.toInt ≤ ((8 : Nat) : Int)) ∧ (0 ≤ p.keys.toInt ∧ p.keys.toInt ≤ ((8 : Nat) : Int))) := by
  intro p r h
  unfold pPjR encPj
  rw [List.append_assoc, List.append_assoc, compl_name _ _ h.1]
  simp only [Option.bind_some]
  rw [encAll_L, compl_list 8 (by decide) (compl_to 8) _ _ h.2.1]
  simp only [Option.bind_some]
  rw [compl_to 8 _ _ h.2.2]
  simp only [Option.bind_some]
theorem sound_tbR : Sound pTbR encTb := by
  intro s x r h
  unfold pTbR at h
  simp only [Option.bind_eq_some_iff] at h
  obtain ⟨a, ha, b, hb, c, hc, h⟩ := h
  cases h
  unfold encTb
  simp only [List.append_assoc]
  rw [← sound_list 6 sound_pjR _ c.1 c.2 hc, ← sound_list 8 sound_colR _ b.1 b.2 hb]
  exact sound_name _ a.1 a.2 ha
def okR (t : Tb) : Prop := t.name.size ≤ 16 ∧ (t.cols.length ≤ 8 ∧ ∀ c ∈ t.cols, c.name.size ≤ 16 ∧ 0 ≤ c.kind.toInt ∧ c.kind.toInt ≤ 2) ∧ (t.projs.length ≤ 6 ∧ ∀ p ∈ t.projs, p.name.size ≤ 16 ∧ (p.cols.length ≤ 8 ∧ ∀ c ∈ p.cols, 0 ≤ c.toInt ∧ c.toInt ≤ ((8 : Nat) : Int)) ∧ (0 ≤ p.keys.toInt ∧ p.keys.toInt ≤ ((8 : Nat) : Int)))
theorem compl_tbR : Compl pTbR encTb okR := by
  intro t r h
  unfold pTbR encTb
  rw [List.append_assoc, List.append_assoc, compl_name _ _ h.1]
  simp only [Option.bind_some]
  rw [compl_list 8 (by decide) compl_colR _ _ h.2.1]
  simp only [Option.bind_some]
  rw [compl_list 6 (by decide) compl_pjR _ _ h.2.2]
  simp only [Option.bind_some]
theorem sound_tabsR : Sound pTabsR encTabs := sound_list 8 sound_tbR
/-- Tables that may be are within all bounds. -/
theorem ok_of {l : List Tb} (h : tabsB l = true) : l.length ≤ 8 ∧ ∀ t ∈ l, okR t := by
  unfold tabsB at h
  simp only [Bool.and_eq_true, decide_eq_true_eq] at h
  refine ⟨h.1.1, fun t ht => ?_⟩
  have ht := List.all_eq_true.1 h.1.2 t ht
  unfold tbB at ht
  simp only [Bool.and_eq_true, decide_eq_true_eq] at ht
  have hc := ht.1.1.1.1.2
  unfold colsB at hc
  simp only [Bool.and_eq_true, decide_eq_true_eq] at hc
  refine ⟨(name_len ht.1.1.1.1.1).2, ⟨hc.1.1.2, fun c hcm => ?_⟩, ⟨ht.1.1.1.2, fun p hp => ?_⟩⟩
  · have := List.all_eq_true.1 hc.1.2 c hcm
    unfold colOk at this
    simp only [Bool.and_eq_true, Bool.or_eq_true, decide_eq_true_eq] at this
    exact ⟨(name_len this.1).2, by omega, by omega⟩
  · have := List.all_eq_true.1 ht.1.1.2 p hp
    unfold pjB at this
    simp only [Bool.and_eq_true, decide_eq_true_eq] at this
    have h8 := hc.1.1.2
    refine ⟨(name_len this.1.1.1.1.1.1).2, ⟨by have := this.1.1.1.1.2; omega, fun c hcm => ?_⟩, ⟨this.1.1.1.2, by have h1 := this.1.1.2; have h2 := this.1.1.1.1.2; omega⟩⟩
    have hci := List.all_eq_true.1 this.1.2 c hcm
    unfold colIn at hci
    simp only [Bool.and_eq_true, decide_eq_true_eq] at hci
    exact ⟨hci.1, by omega⟩
theorem tabsC_enc {l : List Tb} (h : tabsB l = true) (r : By) : pTabsC (encTabs l ++ r) = some (l, r) := by
  have ho := ok_of h
  exact compl_list 8 (by decide) compl_tbC l r ⟨ho.1, fun t ht => ⟨(ho.2 t ht).1, ⟨(ho.2 t ht).2.1.1, fun c hc => ((ho.2 t ht).2.1.2 c hc).1⟩, ⟨(ho.2 t ht).2.2.1, fun p hp => ⟨((ho.2 t ht).2.2.2 p hp).1, by have := ((ho.2 t ht).2.2.2 p hp).2.1.1; omega⟩⟩⟩⟩
theorem tabsR_enc {l : List Tb} (h : tabsB l = true) (r : By) : pTabsR (encTabs l ++ r) = some (l, r) := compl_list 8 (by decide) compl_tbR l r (ok_of h)
theorem take_put {l : List Tb} (h : tabsB l = true) (r : By) : takeWith pTabsC (encTabs l ++ r) = (l, (encTabs l).length, 0) := by
  unfold takeWith
  rw [tabsC_enc h r]
  simp only [h, if_true, List.length_append, Nat.add_sub_cancel]
theorem take_same (s : By) : takeWith pTabsC s = takeWith pTabsR s := by
  unfold takeWith
  cases hc : pTabsC s with
  | some p =>
    obtain ⟨l, r⟩ := p
    simp only
    have hs := sound_tabsC s l r hc
    cases ht : tabsB l with
    | true =>
      rw [hs, tabsR_enc ht r]
      simp only [ht]
    | false =>
      simp only [Bool.false_eq_true, if_false]
      cases hr : pTabsR s with
      | none => rfl
      | some q =>
        obtain ⟨l2, r2⟩ := q
        simp only
        cases ht2 : tabsB l2 with
        | false => rfl
        | true =>
          have hs2 := sound_tabsR s l2 r2 hr
          have := tabsC_enc ht2 r2
          rw [← hs2, hc] at this
          cases this
          rw [ht2] at ht
          cases ht
  | none =>
    cases hr : pTabsR s with
    | none => rfl
    | some q =>
      obtain ⟨l2, r2⟩ := q
      simp only
      cases ht2 : tabsB l2 with
      | false => rfl
      | true =>
        have hs2 := sound_tabsR s l2 r2 hr
        have := tabsC_enc ht2 r2
        rw [← hs2, hc] at this
        cases this
end Go.Proofs.YtdjobjbkpagnaaaGreat
/-
  A reader's steps, against what bytes begin with. Pure mathematics, and what a reader in memory is.
-/
namespace Go.Proofs.YtdjobjbkpagnaaaGreat
open Go.RowKit Leb

/-- From s (failed: f) to s2 (failed: f2), by p, with x. -/
def RdStep {α : Type} (p : By → Option (α × By)) (s : By) (f : Bool) (x : α) (s2 : By) (f2 : Bool) : Prop :=
  s2.length ≤ s.length ∧ (f = true → f2 = true) ∧ (f = false → (∀ y r, p s = some (y, r) → x = y ∧ s2 = r ∧ f2 = false) ∧ (p s = none → f2 = true))
section
variable {α β γ δ : Type} {s s1 s2 s3 : By} {f f1 f2 f3 : Bool}
theorem step_ok {p : By → Option (α × By)} {x : α} {r : By} (h : p s = some (x, r)) (hl : r.length ≤ s.length) : RdStep p s false x r false :=
  ⟨hl, fun h => (by cases h), fun _ => ⟨fun y r' e => by rw [h] at e; cases e; exact ⟨rfl, rfl, rfl⟩, fun e => by rw [h] at e; cases e⟩⟩
theorem step_no {p : By → Option (α × By)} (x : α) (h : p s = none) (hl : s2.length ≤ s.length) : RdStep p s false x s2 true :=
  ⟨hl, fun h => (by cases h), fun _ => ⟨fun y r' e => (by rw [h] at e; cases e), fun _ => rfl⟩⟩
theorem step_was (p : By → Option (α × By)) (x : α) (hl : s2.length ≤ s.length) : RdStep p s true x s2 true := ⟨hl, fun _ => rfl, fun h => by cases h⟩
theorem step3 {p1 : By → Option (α × By)} {p2 : By → Option (β × By)} {p3 : By → Option (γ × By)} (mk : α → β → γ → δ) {a : α} {b : β} {c : γ} (h1 : RdStep p1 s f a s1 f1) (h2 : RdStep p2 s1 f1 b s2 f2) (h3 : RdStep p3 s2 f2 c s3 f3) :
    RdStep (fun s => (p1 s).bind fun a => (p2 a.2).bind fun b => (p3 b.2).bind fun c => some (mk a.1 b.1 c.1, c.2)) s f (mk a b c) s3 f3 := by
  refine ⟨Nat.le_trans h3.1 (Nat.le_trans h2.1 h1.1), fun h => h3.2.1 (h2.2.1 (h1.2.1 h)), fun hf => ?_⟩
  simp only []
  cases e1 : p1 s with
  | none =>
    have := h3.2.1 (h2.2.1 ((h1.2.2 hf).2 e1))
    exact ⟨fun y r e => by simp at e, fun _ => this⟩
  | some q1 =>
    obtain ⟨rfl, rfl, hf1⟩ := (h1.2.2 hf).1 q1.1 q1.2 e1
    simp only [Option.bind_some]
    cases e2 : p2 q1.2 with
    | none =>
      have := h3.2.1 ((h2.2.2 hf1).2 e2)
      exact ⟨fun y r e => by simp at e, fun _ => this⟩
    | some q2 =>
      obtain ⟨rfl, rfl, hf2⟩ := (h2.2.2 hf1).1 q2.1 q2.2 e2
      simp only [Option.bind_some]
      cases e3 : p3 q2.2 with
      | none =>
        have := (h3.2.2 hf2).2 e3
        exact ⟨fun y r e => by simp at e, fun _ => this⟩
      | some q3 =>
        obtain ⟨rfl, rfl, hf3⟩ := (h3.2.2 hf2).1 q3.1 q3.2 e3
        simp only [Option.bind_some, Option.some.injEq, Prod.mk.injEq]
        exact ⟨fun y r e => ⟨e.1, e.2, hf3⟩, fun e => by cases e⟩
theorem step_rep0 (p : By → Option (α × By)) (s : By) (f : Bool) : RdStep (pRep p 0) s f [] s f :=
  ⟨Nat.le_refl _, fun h => h, fun hf => ⟨fun y r e => by simp only [pRep, Option.some.injEq, Prod.mk.injEq] at e; exact ⟨e.1, e.2, hf⟩, fun e => by simp [pRep] at e⟩⟩
theorem step_rep {p : By → Option (α × By)} {k : Nat} {l : List α} {x : α} (h1 : RdStep (pRep p k) s f l s1 f1) (h2 : RdStep p s1 f1 x s2 f2) : RdStep (pRep p (k + 1)) s f (l ++ [x]) s2 f2 := by
  refine ⟨Nat.le_trans h2.1 h1.1, fun h => h2.2.1 (h1.2.1 h), fun hf => ?_⟩
  rw [pRep]
  cases e1 : pRep p k s with
  | none =>
    have := h2.2.1 ((h1.2.2 hf).2 e1)
    exact ⟨fun y r e => by simp at e, fun _ => this⟩
  | some q1 =>
    obtain ⟨rfl, rfl, hf1⟩ := (h1.2.2 hf).1 q1.1 q1.2 e1
    simp only [Option.bind_some]
    cases e2 : p q1.2 with
    | none =>
      have := (h2.2.2 hf1).2 e2
      exact ⟨fun y r e => by simp at e, fun _ => this⟩
    | some q2 =>
      obtain ⟨rfl, rfl, hf2⟩ := (h2.2.2 hf1).1 q2.1 q2.2 e2
      simp only [Option.bind_some, Option.some.injEq, Prod.mk.injEq]
      exact ⟨fun y r e => ⟨e.1, e.2, hf2⟩, fun e => by cases e⟩
theorem step_list {p : By → Option (α × By)} {m : Nat} {n : BitVec 64} {l : List α} (h1 : RdStep (pTo m) s f n s1 f1) (h2 : RdStep (pRep p n.toInt.toNat) s1 f1 l s2 f2) : RdStep (pList m p) s f l s2 f2 := by
  refine ⟨Nat.le_trans h2.1 h1.1, fun h => h2.2.1 (h1.2.1 h), fun hf => ?_⟩
  unfold pList
  cases e1 : pTo m s with
  | none =>
    have := h2.2.1 ((h1.2.2 hf).2 e1)
    exact ⟨fun y r e => by simp at e, fun _ => this⟩
  | some q1 =>
    obtain ⟨rfl, rfl, hf1⟩ := (h1.2.2 hf).1 q1.1 q1.2 e1
    simp only [Option.bind_some]
    exact h2.2.2 hf1
end
/-- A reader in memory. -/
def Rd (w : World) (B : Nat) (s : ByteArray) (f : Bool) : Prop := Box w B 78 #[.string s, .bool f]
/-- What a reader's step answers. -/
def RdAns {α : Type} (B : Nat) (rep : World → World → Value → α → Prop) (p : By → Option (α × By)) (s : ByteArray) (f : Bool) (w : World) (e : Ending) (w' : World) : Prop :=
  ∃ (v : Value) (x : α) (s2 : ByteArray) (f2 : Bool), e = .returned v ∧ rep w w' v x ∧ Rd w' B s2 f2 ∧ RdStep p s.data.toList f x s2.data.toList f2 ∧ Kept (fun b => b = B) w w'
def repN (_ _ : World) (v : Value) (x : BitVec 64) : Prop := v = .int .i64 x.toInt
def repS (_ _ : World) (v : Value) (x : ByteArray) : Prop := v = .string x
def repI (w0 w : World) (v : Value) (x : List (BitVec 64)) : Prop := SlX (fun b => b < w0.heap.size) IntE 1 w v x
def rep3 {α : Type} (E : (Nat → Prop) → World → α → List Value → Prop) (w0 w : World) (v : Value) (x : α) : Prop := ∃ c0 c1 c2, v = .agg #[c0, c1, c2] ∧ E (fun b => b < w0.heap.size) w x [c0, c1, c2]
def repL {α : Type} (E : (Nat → Prop) → World → α → List Value → Prop) (w0 w : World) (v : Value) (x : List α) : Prop := SlX (fun b => b < w0.heap.size) (E fun b => b < w0.heap.size) 3 w v x
def ColX (_ : Nat → Prop) : World → Col → List Value → Prop := ColE
theorem size_list (s : ByteArray) : s.data.toList.length = s.size := by simp
theorem ext_drop (s : ByteArray) (u : Nat) : (s.extract u s.size).data.toList = s.data.toList.drop u := extract_end s u
theorem ext_take (s : ByteArray) (u : Nat) : s.extract 0 u = str (s.data.toList.take u) := by
  apply ByteArray.ext
  have h : (s.extract 0 u).data.toList = s.data.toList.take u := by rw [Lib.extract_data]; simp
  simp only [str]
  rw [← h]
end Go.Proofs.YtdjobjbkpagnaaaGreat
/-
  The contracts of schema's reader: cut, number, upTo, numbers and name.
-/
namespace Go.Proofs.YtdjobjbkpagnaaaGreat
open Go.RowKit Leb

theorem rd_one {w : World} {B : Nat} {s : ByteArray} {f : Bool} (h : Rd w B s f) (f2 : Bool) : Rd (w.setCell ⟨B, 1, none⟩ (.bool f2)) B s f2 := Box.set h 1 _
theorem rd_zero {w : World} {B : Nat} {s : ByteArray} {f : Bool} (h : Rd w B s f) (s2 : ByteArray) : Rd (w.setCell ⟨B, 0, none⟩ (.string s2)) B s2 f := Box.set h 0 _
theorem kept_set {w : World} (B k : Nat) (v : Value) : Kept (fun b => b = B) w (w.setCell ⟨B, k, none⟩ v) := (Kept.refl (fun b => b = B) w).setCell (p := ⟨B, k, none⟩) (.inl rfl) _
set_option maxHeartbeats 1000000 in
theorem cut_no {w : World} {B : Nat} {s : ByteArray} {f : Bool} (h : Rd w B s f) (n : Int) (g : Bool) (hf : f = true ∨ g = false) :
    Calls Tryz.prog 129 #[.pointer (some ⟨B, 0, none⟩), .int .i64 n, .bool g] w fun e w' => e = .returned (.string ⟨#[]⟩) ∧ Rd w' B s true ∧ Kept (fun b => b = B) w w' := by
  have c1 := Box.cell h 1 _ rfl
  have f1 := Box.frozen h 1
  have HD : Hid (Rd (w.setCell ⟨B, 1, none⟩ (.bool true)) B s true ∧ Kept (fun b => b = B) w (w.setCell ⟨B, 1, none⟩ (.bool true))) := ⟨rd_one h true, kept_set B 1 _⟩
  clear h
  cases f with
  | true =>
    go_enter Tryz.func129, Tryz.ntmps129
    go_wp2_with fail
    go_ret
    exact ⟨rfl, HD.out.1, HD.out.2⟩
  | false =>
    obtain rfl : g = false := by simpa using hf
    go_enter Tryz.func129, Tryz.ntmps129
    go_wp2_with fail
    go_ret
    exact ⟨rfl, HD.out.1, HD.out.2⟩
set_option maxHeartbeats 1000000 in
theorem cut_yes {w : World} {B : Nat} {s : ByteArray} (h : Rd w B s false) (n : Nat) (hn : n ≤ s.size) (hs : s.size ≤ 1000000) :
    Calls Tryz.prog 129 #[.pointer (some ⟨B, 0, none⟩), .int .i64 (n : Int), .bool true] w fun e w' => e = .returned (.string (s.extract 0 n)) ∧ Rd w' B (s.extract n s.size) false ∧ Kept (fun b => b = B) w w' := by
  have c0 := Box.cell h 0 _ rfl
  have c1 := Box.cell h 1 _ rfl
  have f0 := Box.frozen h 0
  have hb : (0 : Int) ≤ (n : Int) ∧ (n : Int) ≤ (s.size : Int) := by omega
  have hnI : (n : Int) ≤ (s.size : Int) := by omega
  have hsI : (s.size : Int) ≤ 1000000 := by omega
  have HD : Hid (Rd (w.setCell ⟨B, 0, none⟩ (.string (s.extract n s.size))) B (s.extract n s.size) false ∧ Kept (fun b => b = B) w (w.setCell ⟨B, 0, none⟩ (.string (s.extract n s.size)))) := ⟨rd_zero h _, kept_set B 0 _⟩
  clear h
  go_enter Tryz.func129, Tryz.ntmps129
  go_wp2_with fail
  go_ret
  exact ⟨rfl, HD.out.1, HD.out.2⟩
theorem drop_le (s : By) (u : Nat) : (s.drop u).length ≤ s.length := by rw [List.length_drop]; omega
set_option maxHeartbeats 1000000 in
theorem number_any {w : World} {B : Nat} {s : ByteArray} {f : Bool} (h : Rd w B s f) (hs : s.size ≤ 1000000) :
    Calls Tryz.prog 128 #[.pointer (some ⟨B, 0, none⟩)] w (RdAns B repN pNum s f w) := by
  have c0 := Box.cell h 0 _ rfl
  have ct := take_any s (by unfold maxLen; omega) w
  rcases tk_cases s.data.toList with ⟨z, hz, e0⟩ | ⟨hz, e0⟩
  · rw [take_tuple_ok e0] at ct
    have hp : pNum s.data.toList = some (zagW z, s.data.toList.drop (lenW z)) := by unfold pNum; rw [e0]; simp
    have hle : lenW z ≤ s.size := by have := hz.length_le; rw [size_list] at this; exact this
    obtain ⟨x, hx⟩ : ∃ x, x = zagW z := ⟨_, rfl⟩
    obtain ⟨u, hu⟩ : ∃ u, u = lenW z := ⟨_, rfl⟩
    rw [← hx, ← hu] at ct hp
    rw [← hu] at hle
    cases f with
    | true =>
      have cc := cut_no h (u : Int) true (.inl rfl)
      have HP : Hid True := trivial
      clear h hz e0 hp hx hu
      go_enter Tryz.func128, Tryz.ntmps128
      go_wp2_with fail
      refine ct.mono ?_
      rintro e w1 ⟨rfl, hw⟩
      replace hw := hw.symm
      subst hw
      go_wp2_with fail
      refine cc.mono ?_
      rintro e w2 ⟨rfl, hr, hk⟩
      go_wp2_with fail
      go_ret
      exact ⟨_, x, s, true, rfl, rfl, hr, step_was _ _ (Nat.le_refl _), hk⟩
    | false =>
      have cc := cut_yes h u hle hs
      have HP : Hid (pNum s.data.toList = some (x, s.data.toList.drop u)) := hp
      clear h hz e0 hp hx hu hle
      go_enter Tryz.func128, Tryz.ntmps128
      go_wp2_with fail
      refine ct.mono ?_
      rintro e w1 ⟨rfl, hw⟩
      replace hw := hw.symm
      subst hw
      go_wp2_with fail
      refine cc.mono ?_
      rintro e w2 ⟨rfl, hr, hk⟩
      go_wp2_with fail
      go_ret
      exact ⟨_, x, s.extract u s.size, false, rfl, rfl, hr, by rw [ext_drop]; exact step_ok HP.out (drop_le _ _), hk⟩
  · rw [take_tuple_no e0] at ct
    have HP : Hid (pNum s.data.toList = none) := by unfold Hid pNum; rw [e0]; simp
    have cc := cut_no h (0 : Int) false (.inr rfl)
    clear h hz e0
    go_enter Tryz.func128, Tryz.ntmps128
    go_wp2_with fail
    refine ct.mono ?_
    rintro e w1 ⟨rfl, hw⟩
    replace hw := hw.symm
    subst hw
    go_wp2_with fail
    refine cc.mono ?_
    rintro e w2 ⟨rfl, hr, hk⟩
    go_wp2_with fail
    go_ret
    refine ⟨_, 0#64, s, true, rfl, rfl, hr, ?_, hk⟩
    cases f with
    | true => exact step_was _ _ (Nat.le_refl _)
    | false => exact step_no _ HP.out (Nat.le_refl _)
/-- What upTo answers besides. -/
def UpAns (B m : Nat) (s : ByteArray) (f : Bool) (w : World) (e : Ending) (w' : World) : Prop :=
  ∃ (x : BitVec 64) (s2 : ByteArray) (f2 : Bool), e = .returned (.int .i64 x.toInt) ∧ Rd w' B s2 f2 ∧ RdStep (pTo m) s.data.toList f x s2.data.toList f2 ∧ Kept (fun b => b = B) w w' ∧ 0 ≤ x.toInt ∧ x.toInt ≤ (m : Int)
set_option maxHeartbeats 1000000 in
theorem upTo_any {w : World} {B : Nat} {s : ByteArray} {f : Bool} (h : Rd w B s f) (hs : s.size ≤ 1000000) (m : Nat) (hm : m ≤ 1000) :
    Calls Tryz.prog 90 #[.pointer (some ⟨B, 0, none⟩), .int .i64 (m : Int)] w (UpAns B m s f w) := by
  have cn := number_any h hs
  have hmI : (m : Int) ≤ 1000 := by omega
  clear h hs hm
  go_enter Tryz.func90, Tryz.ntmps90
  go_wp2_with fail
  refine Calls.mono cn ?_
  rintro e w1 ⟨v, x, s2, f2, rfl, hv, hr, hst, hk⟩
  have ev : v = .int .i64 x.toInt := hv
  subst ev
  have c1 := Box.cell hr 1 _ rfl
  have f1 := Box.frozen hr 1
  have HD : Hid (Rd (w1.setCell ⟨B, 1, none⟩ (.bool true)) B s2 true ∧ Kept (fun b => b = B) w (w1.setCell ⟨B, 1, none⟩ (.bool true))) := ⟨rd_one hr true, hk.trans (kept_set B 1 _) (fun _ h => .inl h)⟩
  have HR : Hid (Rd w1 B s2 f2 ∧ Kept (fun b => b = B) w w1 ∧ RdStep pNum s.data.toList f x s2.data.toList f2) := ⟨hr, hk, hst⟩
  obtain ⟨z, hz⟩ : ∃ z, z = x.toInt := ⟨_, rfl⟩
  have HZ : Hid (z = x.toInt) := hz
  rw [← hz]
  clear hv hr hk hst hz cn
  have hbad : Hid (∀ (hno : f2 = true ∨ ¬ (0 ≤ x.toInt ∧ x.toInt ≤ (m : Int))), RdStep (pTo m) s.data.toList f 0#64 s2.data.toList true) := by
    intro hno
    have hst := HR.out.2.2
    refine ⟨hst.1, fun _ => rfl, fun hf => ?_⟩
    unfold pTo
    cases e : pNum s.data.toList with
    | none => exact ⟨fun y r e => (by simp at e), fun _ => rfl⟩
    | some q =>
      obtain ⟨rfl, _, hf2⟩ := (hst.2.2 hf).1 q.1 q.2 e
      simp only [Option.bind_some]
      rw [if_neg (by rcases hno with h | h; rw [hf2] at h; cases h; exact h)]
      exact ⟨fun y r e => (by simp at e), fun _ => trivial⟩
  cases f2 with
  | true =>
    go_wp2_with fail
    go_ret
    exact ⟨0#64, s2, true, rfl, HD.out.1, hbad.out (.inl (by first | rfl | trivial)), HD.out.2, by decide, by show (0 : Int) ≤ _; omega⟩
  | false =>
    by_cases h0 : z < 0
    · go_wp2_with fail
      go_ret
      exact ⟨0#64, s2, true, rfl, HD.out.1, hbad.out (.inr (by have := HZ.out; omega)), HD.out.2, by decide, by show (0 : Int) ≤ _; omega⟩
    · by_cases h1 : (m : Int) < z
      · go_wp2_with fail
        go_ret
        exact ⟨0#64, s2, true, rfl, HD.out.1, hbad.out (.inr (by have := HZ.out; omega)), HD.out.2, by decide, by show (0 : Int) ≤ _; omega⟩
      · go_wp2_with fail
        go_ret
        have hz := HZ.out
        refine ⟨x, s2, false, by rw [← hz]; rfl, HR.out.1, ?_, HR.out.2.1, by omega, by omega⟩
        have hst := HR.out.2.2
        refine ⟨hst.1, fun h => (by have := hst.2.1 h; cases this), fun hf => ?_⟩
        unfold pTo
        cases e : pNum s.data.toList with
        | none => have := (hst.2.2 hf).2 e; cases this
        | some q =>
          obtain ⟨rfl, h2, _⟩ := (hst.2.2 hf).1 q.1 q.2 e
          simp only [Option.bind_some]
          rw [if_pos (by omega)]
          exact ⟨fun y r e => (by cases e; exact ⟨rfl, h2, trivial⟩), fun e => (by cases e)⟩
set_option maxHeartbeats 1000000 in
theorem name_rd {w : World} {B : Nat} {s : ByteArray} {f : Bool} (h : Rd w B s f) (hs : s.size ≤ 1000000) :
    Calls Tryz.prog 91 #[.pointer (some ⟨B, 0, none⟩)] w (RdAns B repS pName s f w) := by
  have cu := upTo_any h hs 16 (by decide)
  have HS : Hid (s.size ≤ 1000000) := hs
  clear h hs
  go_enter Tryz.func91, Tryz.ntmps91
  go_wp2_with fail
  refine Calls.mono cu ?_
  rintro e w1 ⟨x, s2, f2, rfl, hr, hst, hk, h0, h16⟩
  have c0 := Box.cell hr 0 _ rfl
  obtain ⟨n, hn⟩ : ∃ n : Nat, x.toInt = (n : Int) := ⟨x.toInt.toNat, by omega⟩
  have hs2 : s2.size ≤ 1000000 := by have := hst.1; rw [size_list, size_list] at this; have := HS.out; omega
  have HR : Hid (RdStep (pTo 16) s.data.toList f x s2.data.toList f2 ∧ Kept (fun b => b = B) w w1 ∧ x.toInt = (n : Int)) := ⟨hst, hk, hn⟩
  have hs2I : (s2.size : Int) ≤ 1000000 := by omega
  have hn16 : (n : Int) ≤ 16 := by omega
  rw [hn]
  have key : Hid (∀ s3 f3 y, s3.length ≤ s2.data.toList.length → (f2 = true → f3 = true) → (f2 = false → (n ≤ s2.data.toList.length → y = str (s2.data.toList.take n) ∧ s3 = s2.data.toList.drop n ∧ f3 = false) ∧ (¬ n ≤ s2.data.toList.length → f3 = true)) → RdStep pName s.data.toList f y s3 f3) := by
    intro s3 f3 y hl hf hh
    obtain ⟨a1, a2, a3⟩ := HR.out.1
    refine ⟨Nat.le_trans hl a1, fun h => hf (a2 h), fun hff => ?_⟩
    unfold pName
    cases e : pTo 16 s.data.toList with
    | none => exact ⟨fun y r e => (by simp at e), fun _ => hf ((a3 hff).2 e)⟩
    | some q =>
      obtain ⟨b1, b2, b3⟩ := (a3 hff).1 q.1 q.2 e
      simp only [Option.bind_some]
      rw [← b1, ← b2, HR.out.2.2, Int.toNat_natCast]
      by_cases hle : n ≤ s2.data.toList.length
      · rw [if_pos hle]
        obtain ⟨d1, d2, d3⟩ := (hh b3).1 hle
        exact ⟨fun y r e => (by cases e; exact ⟨d1, d2, d3⟩), fun e => (by cases e)⟩
      · rw [if_neg hle]
        exact ⟨fun y r e => (by cases e), fun _ => (hh b3).2 hle⟩
  by_cases hle : (n : Int) ≤ (s2.size : Int)
  · have d1 : decide (n ≤ s2.size) = true := by simp; omega
    cases f2 with
    | true =>
      have cc := cut_no hr (n : Int) true (.inl rfl)
      clear hr hst hk hn cu hle h0 h16 hs2
      go_wp2_with fail
      refine cc.mono ?_
      rintro e w2 ⟨rfl, hr2, hk2⟩
      go_wp2_with fail
      go_ret
      exact ⟨_, _, s2, true, rfl, rfl, hr2, key.out _ _ _ (Nat.le_refl _) (fun _ => rfl) (fun h => by cases h), HR.out.2.1.trans hk2 (fun _ h => .inl h)⟩
    | false =>
      have cc := cut_yes hr n (by omega) hs2
      have HLE : Hid (n ≤ s2.size) := by unfold Hid; omega
      clear hr hst hk hn cu hle h0 h16 hs2
      go_wp2_with fail
      refine cc.mono ?_
      rintro e w2 ⟨rfl, hr2, hk2⟩
      go_wp2_with fail
      go_ret
      exact ⟨_, _, _, false, rfl, rfl, hr2, key.out _ _ _ (by rw [ext_drop]; exact drop_le _ _) (fun h => by cases h) (fun _ => ⟨fun _ => ⟨ext_take _ _, ext_drop _ _, rfl⟩, fun h => absurd (by rw [size_list]; exact HLE.out) h⟩), HR.out.2.1.trans hk2 (fun _ h => .inl h)⟩
  · have d1 : decide (n ≤ s2.size) = false := by simp; omega
    have cc := cut_no hr (n : Int) false (.inr rfl)
    have HLE : Hid (¬ n ≤ s2.size) := by unfold Hid; omega
    clear hr hst hk hn cu hle h0 h16 hs2
    go_wp2_with fail
    refine cc.mono ?_
    rintro e w2 ⟨rfl, hr2, hk2⟩
    go_wp2_with fail
    go_ret
    exact ⟨_, _, s2, true, rfl, rfl, hr2, key.out _ _ _ (Nat.le_refl _) (fun _ => rfl) (fun _ => ⟨fun h => absurd (by rw [← size_list]; exact h) HLE.out, fun _ => rfl⟩), HR.out.2.1.trans hk2 (fun _ h => .inl h)⟩
theorem tkN_le : ∀ (c : Nat) (s : By) (l : List (BitVec 64)) (n : Nat), tkN c s = some (l, n) → n ≤ s.length
  | 0, s, l, n, h => by
    simp only [tkN, Option.some.injEq, Prod.mk.injEq] at h
    omega
  | c + 1, s, l, n, h => by
    rw [tkN] at h
    split at h
    · rw [Option.map_eq_some_iff] at h
      obtain ⟨q, hq, h⟩ := h
      cases h
      have h1 := tkN_le c _ q.1 q.2 hq
      have h2 := (tk_used_le s).1
      rw [List.length_drop] at h1
      omega
    · cases h
theorem ta_le (s : By) : (ta s).2.1 ≤ s.length := by
  unfold ta
  split
  · split
    · exact Nat.zero_le _
    · split
      · exact Nat.zero_le _
      · cases hf : tkF (zagW (tk s).1).toInt.toNat s [] (tk s).2.1 with
        | none => exact Nat.zero_le _
        | some p =>
          simp only
          unfold tkF at hf
          rw [Option.map_eq_some_iff] at hf
          obtain ⟨q, hq, hf⟩ := hf
          cases hf
          have h1 := tkN_le _ _ q.1 q.2 hq
          have h2 := (tk_used_le s).1
          rw [List.length_drop] at h1
          simp only
          omega
  · exact Nat.zero_le _
set_option maxHeartbeats 1000000 in
theorem numbers_rd {w : World} {B : Nat} {s : ByteArray} {f : Bool} (h : Rd w B s f) (hs : s.size ≤ 1000000) :
    Calls Tryz.prog 130 #[.pointer (some ⟨B, 0, none⟩)] w (RdAns B repI pNums s f w) := by
  have c0 := Box.cell h 0 _ rfl
  have ct := takeAll_any s hs w
  have hlt := Box.lt h
  obtain ⟨l, u, er, hta⟩ : ∃ l u er, ta s.data.toList = (l, u, er) := ⟨_, _, _, rfl⟩
  have HP : Hid (pNums s.data.toList = if er = 0 then some (l, s.data.toList.drop u) else none) := by unfold Hid pNums; rw [hta]
  have HU : Hid (er = 0 → u ≤ s.size) := by
    intro _
    have := ta_le s.data.toList
    rw [hta, size_list] at this
    exact this
  unfold Took at ct
  rw [hta] at ct
  have HR : Hid (Rd w B s f ∧ s.size ≤ 1000000 ∧ B < w.heap.size) := ⟨h, hs, hlt⟩
  clear h hs hlt hta
  go_enter Tryz.func130, Tryz.ntmps130
  go_wp2_with fail
  refine Calls.mono ct ?_
  rintro e w1 ⟨⟨v, rfl, ho⟩, hb⟩
  have hr1 : Rd w1 B s f := Box.over HR.out.1 hb
  have hX : SlX (fun b => b < w.heap.size) IntE 1 w1 v l := by
    obtain ⟨a, cap, rfl, hc, h2⟩ := ints_of_own ho
    refine ⟨a, cap, rfl, hc, fun hl => ?_⟩
    obtain ⟨b, off, rfl, hbw, h3⟩ := h2 hl
    exact ⟨b, off, rfl, hbw, fun e => by have := (ho.lt b rfl).1; omega, h3⟩
  have HX : Hid (SlX (fun b => b < w.heap.size) IntE 1 w1 v l ∧ Kept (fun b => b = B) w w1) := ⟨hX, kept_of_below _ hb⟩
  obtain ⟨⟨va, vc, rfl⟩, _⟩ := own_shape ho
  by_cases he : er = 0
  · have heb : (((er : Nat) : Int) == 0) = true := by simpa using he
    have HP1 : Hid (pNums s.data.toList = some (l, s.data.toList.drop u)) := by unfold Hid; rw [HP.out, if_pos he]
    cases f with
    | true =>
      have cc := cut_no hr1 (u : Int) true (.inl rfl)
      clear ho hb hr1 hX ct he
      go_wp2_with fail
      refine cc.mono ?_
      rintro e w2 ⟨rfl, hr2, hk2⟩
      go_wp2_with fail
      go_ret
      exact ⟨_, l, s, true, rfl, HX.out.1.kept (hk2.mono fun b hb => by rw [hb]; exact HR.out.2.2) (fun _ _ h => h), hr2, step_was _ _ (Nat.le_refl _), HX.out.2.trans hk2 (fun _ h => .inl h)⟩
    | false =>
      have cc := cut_yes hr1 u (HU.out he) HR.out.2.1
      clear ho hb hr1 hX ct he
      go_wp2_with fail
      refine cc.mono ?_
      rintro e w2 ⟨rfl, hr2, hk2⟩
      go_wp2_with fail
      go_ret
      exact ⟨_, l, _, false, rfl, HX.out.1.kept (hk2.mono fun b hb => by rw [hb]; exact HR.out.2.2) (fun _ _ h => h), hr2, by rw [ext_drop]; exact step_ok HP1.out (drop_le _ _), HX.out.2.trans hk2 (fun _ h => .inl h)⟩
  · have heb : (((er : Nat) : Int) == 0) = false := by simpa using he
    have HP1 : Hid (pNums s.data.toList = none) := by unfold Hid; rw [HP.out, if_neg he]
    have cc := cut_no hr1 (u : Int) false (.inr rfl)
    clear ho hb hr1 hX ct he
    go_wp2_with fail
    refine cc.mono ?_
    rintro e w2 ⟨rfl, hr2, hk2⟩
    go_wp2_with fail
    go_ret
    refine ⟨_, l, s, true, rfl, HX.out.1.kept (hk2.mono fun b hb => by rw [hb]; exact HR.out.2.2) (fun _ _ h => h), hr2, ?_, HX.out.2.trans hk2 (fun _ h => .inl h)⟩
    cases f with
    | true => exact step_was _ _ (Nat.le_refl _)
    | false => exact step_no _ HP1.out (Nat.le_refl _)
end Go.Proofs.YtdjobjbkpagnaaaGreat
/-
  The contracts of schema's takeColumn and takeProjection.
-/
namespace Go.Proofs.YtdjobjbkpagnaaaGreat
open Go.RowKit Leb

theorem col_step {s s1 s2 s3 : By} {f f1 f2 f3 : Bool} {a : ByteArray} {b c : BitVec 64} (h1 : RdStep pName s f a s1 f1) (h2 : RdStep pNum s1 f1 b s2 f2) (h3 : RdStep (pTo 1) s2 f2 c s3 f3) : RdStep pColC s f ⟨a, b, decide (c.toInt = 1)⟩ s3 f3 := step3 (fun (a : ByteArray) (b c : BitVec 64) => (⟨a, b, decide (c.toInt = 1)⟩ : Col)) h1 h2 h3
theorem pj_step {s s1 s2 s3 : By} {f f1 f2 f3 : Bool} {a : ByteArray} {b : List (BitVec 64)} {c : BitVec 64} (h1 : RdStep pName s f a s1 f1) (h2 : RdStep pNums s1 f1 b s2 f2) (h3 : RdStep pNum s2 f2 c s3 f3) : RdStep pPjC s f ⟨a, b, c⟩ s3 f3 := step3 (fun a b c => (⟨a, b, c⟩ : Pj)) h1 h2 h3
theorem tb_step {s s1 s2 s3 : By} {f f1 f2 f3 : Bool} {a : ByteArray} {b : List Col} {c : List Pj} (h1 : RdStep pName s f a s1 f1) (h2 : RdStep (pList 8 pColC) s1 f1 b s2 f2) (h3 : RdStep (pList 6 pPjC) s2 f2 c s3 f3) : RdStep pTbC s f ⟨a, b, c⟩ s3 f3 := step3 (fun a b c => (⟨a, b, c⟩ : Tb)) h1 h2 h3
theorem step_size {α : Type} {p : By → Option (α × By)} {s s2 : ByteArray} {f f2 : Bool} {x : α} (h : RdStep p s.data.toList f x s2.data.toList f2) (hs : s.size ≤ 1000000) : s2.size ≤ 1000000 := by
  have := h.1
  rw [size_list, size_list] at this
  omega
/-- What stays while parts of a struct are read: the reader, and the struct's own block. -/
structure Tk (w W : World) (B : Nat) (t : TypeId) (z : Array Value) (s : ByteArray) (f : Bool) : Prop where
  rd : Rd W B s f
  box : Box W w.heap.size t z
  kp : Kept (fun b => b = B) w W
  lt : B < w.heap.size
  sz : s.size ≤ 1000000
theorem Tk.next {w W W2 : World} {B : Nat} {t : TypeId} {z : Array Value} {s s2 : ByteArray} {f f2 : Bool} (h : Tk w W B t z s f) (hr : Rd W2 B s2 f2) (hk : Kept (fun b => b = B) W W2) (hs : s2.size ≤ 1000000) : Tk w W2 B t z s2 f2 :=
  ⟨hr, h.box.kept hk (by have := h.lt; omega), h.kp.trans hk (fun _ h => .inl h), h.lt, hs⟩
theorem tk_new {w : World} {B : Nat} {s : ByteArray} {f : Bool} (h : Rd w B s f) (hs : s.size ≤ 1000000) (z : Array Value) (t : TypeId) : Tk w (w.alloc (.cells z t)) B t z s f :=
  ⟨Box.alloc h _, box_new w z t, (Kept.refl _ w).alloc _, Box.lt h, hs⟩
theorem Tk.up {w W : World} {B : Nat} {t : TypeId} {z : Array Value} {s : ByteArray} {f : Bool} (h : Tk w W B t z s f) : w.heap.size < W.heap.size := h.box.lt
/-- The struct is written. -/
theorem Tk.fill {w W : World} {B : Nat} {t : TypeId} {z : Array Value} {s : ByteArray} {f : Bool} (h : Tk w W B t z s f) (c : Array Value) : Rd (W.setRow w.heap.size c) B s f ∧ Box (W.setRow w.heap.size c) w.heap.size t c ∧ Kept (fun b => b = B) w (W.setRow w.heap.size c) ∧ Kept (fun b => b = w.heap.size) W (W.setRow w.heap.size c) := by
  have hK : Kept (fun b => b = w.heap.size) W (W.setRow w.heap.size c) := ⟨rfl, rfl, rfl, by simp, fun k _ hk => setRow_other W _ k c (fun e => hk e)⟩
  refine ⟨Box.rowOther h.rd (by have := h.lt; omega) c, h.box.setRow c, h.kp.trans hK (fun k hk => .inr (by rw [hk]; exact Nat.le_refl _)), hK⟩
set_option maxHeartbeats 2000000 in
theorem takeCol_any {w : World} {B : Nat} {s : ByteArray} {f : Bool} (h : Rd w B s f) (hs : s.size ≤ 1000000) :
    Calls Tryz.prog 93 #[.pointer (some ⟨B, 0, none⟩)] w (RdAns B (rep3 ColX) pColC s f w) := by
  have HT : Hid (Tk w (w.alloc (.cells #[.string ⟨#[]⟩, .int .i64 0, .bool false] 53)) B 53 #[.string ⟨#[]⟩, .int .i64 0, .bool false] s f) := tk_new h hs _ _
  clear h hs
  go_enter Tryz.func93, Tryz.ntmps93
  go_wp2_with fail
  refine Calls.mono (name_rd HT.out.rd HT.out.sz) ?_
  rintro e w1 ⟨v1, a, s1, f1, rfl, hv, hr1, st1, k1⟩
  have ev : v1 = .string a := hv
  subst ev
  have H1 : Hid (Tk w w1 B 53 #[.string ⟨#[]⟩, .int .i64 0, .bool false] s1 f1 ∧ RdStep pName s.data.toList f a s1.data.toList f1) := ⟨HT.out.next hr1 k1 (step_size st1 HT.out.sz), st1⟩
  clear hv hr1 st1 k1
  go_wp2_with fail
  refine Calls.mono (number_any H1.out.1.rd H1.out.1.sz) ?_
  rintro e w2 ⟨v2, b, s2, f2, rfl, hv, hr2, st2, k2⟩
  have ev : v2 = .int .i64 b.toInt := hv
  subst ev
  have H2 : Hid (Tk w w2 B 53 #[.string ⟨#[]⟩, .int .i64 0, .bool false] s2 f2 ∧ RdStep pNum s1.data.toList f1 b s2.data.toList f2) := ⟨H1.out.1.next hr2 k2 (step_size st2 H1.out.1.sz), st2⟩
  clear hv hr2 st2 k2
  go_wp2_with fail
  refine Calls.mono (upTo_any H2.out.1.rd H2.out.1.sz 1 (by decide)) ?_
  rintro e w3 ⟨c, s3, f3, rfl, hr3, st3, k3, _, _⟩
  have H3 : Hid (Tk w w3 B 53 #[.string ⟨#[]⟩, .int .i64 0, .bool false] s3 f3 ∧ RdStep (pTo 1) s2.data.toList f2 c s3.data.toList f3) := ⟨H2.out.1.next hr3 k3 (step_size st3 H2.out.1.sz), st3⟩
  clear hr3 st3 k3
  obtain ⟨q, hq⟩ : ∃ q, (c.toInt == 1) = q := ⟨_, rfl⟩
  have HQ : Hid (decide (c.toInt = 1) = q) := by unfold Hid; rw [← hq, Bool.eq_iff_iff]; simp
  obtain ⟨bx, hbx⟩ : ∃ x, x = b.toInt := ⟨_, rfl⟩
  have HBX : Hid (bx = b.toInt) := hbx
  rw [← hbx]
  clear hbx
  have hone : (#[.string a, .int .i64 bx, .bool q] : Array Value).all (fun c => c.oneCell') = true := one_three (by intro u hu; simp only [List.mem_cons, List.not_mem_nil, or_false] at hu; rcases hu with rfl | rfl | rfl <;> rfl)
  go_wp2_with (refine wpList_store_row rfl 53 _ _ rfl w.heap.size _ rfl rfl 53 _ H3.out.1.box size_col rfl hone ?_)
  have hF := H3.out.1.fill #[.string a, .int .i64 bx, .bool q]
  exact bodyPost_ret (res_box Tryz.results93 _ rfl hF.2.1 Tryz.underlying53 rfl size_col) rfl ⟨_, ⟨a, b, decide (c.toInt = 1)⟩, s3, f3, rfl, ⟨_, _, _, rfl, by rw [HQ.out, HBX.out]; rfl⟩, hF.1, col_step H1.out.2 H2.out.2 H3.out.2, hF.2.2.1⟩
set_option maxHeartbeats 2000000 in
theorem takePj_any {w : World} {B : Nat} {s : ByteArray} {f : Bool} (h : Rd w B s f) (hs : s.size ≤ 1000000) :
    Calls Tryz.prog 95 #[.pointer (some ⟨B, 0, none⟩)] w (RdAns B (rep3 PjX) pPjC s f w) := by
  have HT : Hid (Tk w (w.alloc (.cells #[.string ⟨#[]⟩, .slice none 0 0, .int .i64 0] 26)) B 26 #[.string ⟨#[]⟩, .slice none 0 0, .int .i64 0] s f) := tk_new h hs _ _
  clear h hs
  go_enter Tryz.func95, Tryz.ntmps95
  go_wp2_with fail
  refine Calls.mono (name_rd HT.out.rd HT.out.sz) ?_
  rintro e w1 ⟨v1, a, s1, f1, rfl, hv, hr1, st1, k1⟩
  have ev : v1 = .string a := hv
  subst ev
  have H1 : Hid (Tk w w1 B 26 #[.string ⟨#[]⟩, .slice none 0 0, .int .i64 0] s1 f1 ∧ RdStep pName s.data.toList f a s1.data.toList f1) := ⟨HT.out.next hr1 k1 (step_size st1 HT.out.sz), st1⟩
  clear hv hr1 st1 k1
  go_wp2_with fail
  refine Calls.mono (numbers_rd H1.out.1.rd H1.out.1.sz) ?_
  rintro e w2 ⟨v2, b, s2, f2, rfl, hv, hr2, st2, k2⟩
  have H2 : Hid (Tk w w2 B 26 #[.string ⟨#[]⟩, .slice none 0 0, .int .i64 0] s2 f2 ∧ RdStep pNums s1.data.toList f1 b s2.data.toList f2) := ⟨H1.out.1.next hr2 k2 (step_size st2 H1.out.1.sz), st2⟩
  have HV : Hid (SlX (fun x => x < w1.heap.size) IntE 1 w2 v2 b) := hv
  obtain ⟨aI, nI, capI, rfl, _⟩ := (HV.out.is (E' := IntE) fun _ _ h => h).slice
  clear hv hr2 st2 k2
  go_wp2_with fail
  refine Calls.mono (number_any H2.out.1.rd H2.out.1.sz) ?_
  rintro e w3 ⟨v3, c, s3, f3, rfl, hv, hr3, st3, k3⟩
  have ev : v3 = .int .i64 c.toInt := hv
  subst ev
  have H3 : Hid (Tk w w3 B 26 #[.string ⟨#[]⟩, .slice none 0 0, .int .i64 0] s3 f3 ∧ RdStep pNum s2.data.toList f2 c s3.data.toList f3 ∧ SlX (fun x => x < w1.heap.size) IntE 1 w3 (.slice aI nI capI) b) := ⟨H2.out.1.next hr3 k3 (step_size st3 H2.out.1.sz), st3, HV.out.kept (k3.mono fun x hx => by rw [hx]; have := H1.out.1.lt; have := H1.out.1.up; omega) (fun _ _ h => h)⟩
  clear hv hr3 st3 k3
  obtain ⟨cx, hcx⟩ : ∃ x, x = c.toInt := ⟨_, rfl⟩
  have HCX : Hid (cx = c.toInt) := hcx
  rw [← hcx]
  clear hcx
  have hone : (#[.string a, .slice aI nI capI, .int .i64 cx] : Array Value).all (fun c => c.oneCell') = true := one_three (by intro u hu; simp only [List.mem_cons, List.not_mem_nil, or_false] at hu; rcases hu with rfl | rfl | rfl <;> rfl)
  go_wp2_with (refine wpList_store_row rfl 26 _ _ rfl w.heap.size _ rfl rfl 26 _ H3.out.1.box size_pj rfl hone ?_)
  have hF := H3.out.1.fill #[.string a, .slice aI nI capI, .int .i64 cx]
  have hX := (H3.out.2.2.kept (hF.2.2.2.mono fun x hx => by rw [hx]; exact H1.out.1.up) (fun _ _ h => h)).other (H := fun x => x < w.heap.size) (E' := IntE) (fun x _ hx => by have := H1.out.1.up; omega) (fun _ _ h => h)
  exact bodyPost_ret (res_box Tryz.results95 _ rfl hF.2.1 Tryz.underlying26 rfl size_pj) rfl ⟨_, ⟨a, b, c⟩, s3, f3, rfl, ⟨_, _, _, rfl, ⟨_, by rw [HCX.out], hX⟩⟩, hF.1, pj_step H1.out.2 H2.out.2 H3.out.2.1, hF.2.2.1⟩
end Go.Proofs.YtdjobjbkpagnaaaGreat
/-
  The contracts of schema's takeList of columns, projections and tables, and of takeTable.
-/
namespace Go.Proofs.YtdjobjbkpagnaaaGreat
open Go.RowKit Leb

/-- Blocks from before w, and the one that v lies in. -/
def Gv (w : World) (v : Value) (b : Nat) : Prop := b < w.heap.size ∨ v.ownBlock = some b
def G3 (w : World) (v u : Value) (b : Nat) : Prop := b < w.heap.size ∨ v.ownBlock = some b ∨ u.ownBlock = some b
theorem colX_kept {G : Nat → Prop} {w w' : World} {x : Col} {cs : List Value} (h : ColX G w x cs) (_ : Kept G w w') : ColX G w' x cs := h
theorem colX_other {G H : Nat → Prop} {w : World} {x : Col} {cs : List Value} (h : ColX G w x cs) (_ : ∀ b, b < w.heap.size → H b → G b) : ColX H w x cs := h
theorem pjX_kept {G : Nat → Prop} {w w' : World} {x : Pj} {cs : List Value} (h : PjX G w x cs) (k : Kept G w w') : PjX G w' x cs := h.kept k
theorem pjX_other {G H : Nat → Prop} {w : World} {x : Pj} {cs : List Value} (h : PjX G w x cs) (k : ∀ b, b < w.heap.size → H b → G b) : PjX H w x cs := h.other k
theorem tbX_kept {G : Nat → Prop} {w w' : World} {x : Tb} {cs : List Value} (h : TbX G w x cs) (k : Kept G w w') : TbX G w' x cs := h.kept k
theorem tbX_other {G H : Nat → Prop} {w : World} {x : Tb} {cs : List Value} (h : TbX G w x cs) (k : ∀ b, b < w.heap.size → H b → G b) : TbX H w x cs := h.other k
theorem colX_one {G : Nat → Prop} {w : World} {x : Col} {cs : List Value} (h : ColX G w x cs) : ∀ u ∈ cs, u.oneCell' = true := one_col (w := w) h
theorem pjX_one {G : Nat → Prop} {w : World} {x : Pj} {cs : List Value} (h : PjX G w x cs) : ∀ u ∈ cs, u.oneCell' = true := one_pj h.is
theorem tbX_one {G : Nat → Prop} {w : World} {x : Tb} {cs : List Value} (h : TbX G w x cs) : ∀ u ∈ cs, u.oneCell' = true := one_tb h.is
theorem rowsE_snoc {α : Type} {E : World → α → List Value → Prop} {w : World} {l : List α} {R : List (List Value)} {x : α} {r : List Value} (h : RowsE E w l R) (hx : E w x r) : RowsE E w (l ++ [x]) (R ++ [r]) := by
  refine ⟨by simp [h.1], fun i y s hy hs => ?_⟩
  by_cases hi : i < l.length
  · rw [List.getElem?_append_left hi] at hy
    rw [List.getElem?_append_left (by rw [h.1]; exact hi)] at hs
    exact h.2 i y s hy hs
  · have hi2 := (List.getElem?_eq_some_iff.1 hy).1
    rw [List.length_append, List.length_singleton] at hi2
    have hi3 : i = l.length := by omega
    subst hi3
    rw [List.getElem?_append_right (Nat.le_refl _)] at hy
    rw [List.getElem?_append_right (by rw [h.1]; exact Nat.le_refl _), h.1] at hs
    simp at hy hs
    subst hy hs
    exact hx
/-- What is so while columns are read. -/
structure LsC (w W : World) (B : Nat) (s : ByteArray) (f : Bool) (v : Value) (l : List Col) (R : List (List Value)) : Prop where
  rd : Rd W B s f
  kp : Kept (fun b => b = B) w W
  lt : B < w.heap.size
  sz : s.size ≤ 1000000
  rows : SRows W v 53 3 R
  all : RowsE (ColX (Gv w v)) W l R
  own : ∀ b, v.ownBlock = some b → w.heap.size ≤ b
theorem LsC.step {w W W2 : World} {B : Nat} {s s2 : ByteArray} {f f2 : Bool} {v : Value} {l : List Col} {R : List (List Value)} (h : LsC w W B s f v l R) (hr : Rd W2 B s2 f2) (hk : Kept (fun b => b = B) W W2) (hs : s2.size ≤ 1000000) : LsC w W2 B s2 f2 v l R := by
  have hm : Kept (Gv w v) W W2 := hk.mono fun b hb => .inl (by rw [hb]; exact h.lt)
  exact ⟨hr, h.kp.trans hk (fun _ h => .inl h), h.lt, hs, h.rows.kept hk (fun g hg => by have := h.own g hg; have := h.lt; omega), ⟨h.all.1, fun i x r hx hr => colX_kept (h.all.2 i x r hx hr) hm⟩, h.own⟩
theorem LsC.add {w W W3 : World} {B : Nat} {s : ByteArray} {f : Bool} {v v3 : Value} {l : List Col} {R : List (List Value)} {x : Col} {c0 c1 c2 : Value} (h : LsC w W B s f v l R) (hx : ColX (Gv w v) W x [c0, c1, c2])
    (hs : SRows W3 v3 53 3 (R ++ [[c0, c1, c2]])) (hwh : ∀ k, v3.ownBlock = some k → v.ownBlock = some k ∨ (W.alloc (.cells #[c0, c1, c2] 53)).heap.size ≤ k) (hk : Kept (fun b => v.ownBlock = some b) (W.alloc (.cells #[c0, c1, c2] 53)) W3) :
    LsC w W3 B s f v3 (l ++ [x]) (R ++ [[c0, c1, c2]]) := by
  have b1 := below1 W (.cells #[c0, c1, c2] 53)
  have ha : RowsE (ColX (Gv w v)) (W.alloc (.cells #[c0, c1, c2] 53)) (l ++ [x]) (R ++ [[c0, c1, c2]]) := rowsE_snoc ⟨h.all.1, fun i y r hy hr => colX_kept (h.all.2 i y r hy hr) (kept_of_below _ b1)⟩ (colX_kept hx (kept_of_below _ b1))
  have hks : Kept (fun b => b = B) (W.alloc (.cells #[c0, c1, c2] 53)) W3 ∨ True := .inr trivial
  have hB : ∀ b, v.ownBlock = some b → b ≠ B := fun b hb => by have := h.own b hb; have := h.lt; omega
  refine ⟨(Box.alloc h.rd _).kept hk (fun e => hB B e rfl), ?_, h.lt, h.sz, hs, ⟨ha.1, fun i y r hy hr => ?_⟩, fun b hb => ?_⟩
  · have h1 := h.kp.alloc (.cells #[c0, c1, c2] 53)
    exact h1.trans hk (fun b hb => .inr (h.own b hb))
  · have e1 := colX_other (H := G3 w v v3) (ha.2 i y r hy hr) (fun b hb hg => by
      rcases hg with hg | hg | hg
      · exact .inl hg
      · exact .inr hg
      · rcases hwh b hg with h1 | h1
        · exact .inr h1
        · omega)
    have e2 := colX_kept e1 (hk.mono (G := G3 w v v3) fun b hb => .inr (.inl hb))
    exact colX_other e2 (fun b _ hg => by
      rcases hg with hg | hg
      · exact .inl hg
      · exact .inr (.inr hg))
  · rcases hwh b hb with h1 | h1
    · exact h.own b h1
    · have := h.kp.size; have := b1.size; omega
set_option maxRecDepth 4000 in
set_option maxHeartbeats 4000000 in
theorem takeListC_any {w : World} {B : Nat} {s : ByteArray} {f : Bool} (h : Rd w B s f) (hs : s.size ≤ 1000000) (m : Nat) (hm : m ≤ 100) (g : Nat) (p : By → Option (Col × By)) (eg : ∀ args w, (callFunc g args).run Tryz.prog w = .ok (.enter g args) w)
    (hf : ∀ W s f, Rd W B s f → s.size ≤ 1000000 → Calls Tryz.prog g #[.pointer (some ⟨B, 0, none⟩)] W (RdAns B (rep3 ColX) p s f W)) :
    Calls Tryz.prog 92 #[.pointer (some ⟨B, 0, none⟩), .int .i64 (m : Int), .func (.func g) #[] #[]] w (RdAns B (repL ColX) (pList m p) s f w) := by
  have cu := upTo_any h hs m (by omega)
  have HF : Hid (∀ W s f, Rd W B s f → s.size ≤ 1000000 → Calls Tryz.prog g #[.pointer (some ⟨B, 0, none⟩)] W (RdAns B (rep3 ColX) p s f W)) := hf
  have HL : Hid (B < w.heap.size ∧ s.size ≤ 1000000) := ⟨Box.lt h, hs⟩
  obtain ⟨i0, hi, hz0, hz1, hz2⟩ := info_parts infos_col
  have HI : Hid (Tryz.prog.info? 53 = some i0 ∧ i0.zero = some (.agg #[.string ⟨#[]⟩, .int .i64 0, .bool false]) ∧ i0.size = 3 ∧ i0.bytes = 32) := ⟨hi, hz0, hz1, hz2⟩
  have hmI : (m : Int) ≤ 100 := by omega
  clear h hs hf hi hz0 hz1 hz2 hm
  go_enter Tryz.func92, Tryz.ntmps92
  go_wp2_with fail
  refine Calls.mono cu ?_
  rintro e w1 ⟨x, s1, f1, rfl, hr1, st1, k1, hx0, hxm⟩
  obtain ⟨n, hn⟩ : ∃ n : Nat, x.toInt = (n : Int) := ⟨x.toInt.toNat, by omega⟩
  have H1 : Hid (RdStep (pTo m) s.data.toList f x s1.data.toList f1 ∧ x.toInt = (n : Int) ∧ n ≤ 100) := ⟨st1, hn, by omega⟩
  have HS : Hid (LsC w w1 B s1 f1 (.slice none 0 0) [] []) := ⟨hr1, k1, HL.out.1, step_size st1 HL.out.2, srows_nil _ _ _, ⟨rfl, fun i x r hx => by simp at hx⟩, fun b hb => by simp [Value.ownBlock] at hb⟩
  have hnI : (n : Int) ≤ 100 := by omega
  rw [hn]
  clear cu hr1 st1 k1 hx0 hxm hn
  go_wp2_with fail
  go_loopg [7, 11] n (fun gg s7 s11 wx => ∃ (k : Nat) (s2 : ByteArray) (f2 : Bool) (a : Option Addr) (q : Nat) (l : List Col) (R : List (List Value)), k + gg = n ∧ s11 = .int .i64 k ∧ s7 = .slice a k q ∧ Hid (LsC w wx B s2 f2 (.slice a k q) l R ∧ RdStep (pRep p k) s1.data.toList f1 l s2.data.toList f2 ∧ R.length = k))
  case atStart => exact ⟨0, s1, f1, none, 0, [], [], by omega, rfl, rfl, HS.out, step_rep0 _ _ _, rfl⟩
  case round =>
    clear HS
    obtain ⟨k, s2, f2, a, q, l, R, hkg, rfl, rfl, HS⟩ := hrel
    by_cases hk : k < n
    · have hkI : (k : Int) < (n : Int) := by omega
      have hr2 : IntKind.i64.wrap ((k : Int) + 1) = (k : Int) + 1 := by rw [IntKind.wrap_i64]; omega
      have ct := HF.out wr s2 f2 HS.out.1.rd HS.out.1.sz
      go_wp2_with fail
      refine Calls.mono ct ?_
      rintro e w3 ⟨v3, x3, s3, f3, rfl, ⟨c0, c1, c2, rfl, hE⟩, hr3, st3, k3⟩
      have hL := HS.out.1.step hr3 k3 (step_size st3 HS.out.1.sz)
      have hE2 : ColX (Gv w (.slice a k q)) w3 x3 [c0, c1, c2] := colX_other hE (fun b _ hg => by
        rcases hg with hg | hg
        · have := HS.out.1.kp.size; omega
        · exact HS.out.1.rows.lt hg)
      have HN : Hid (LsC w w3 B s3 f3 (.slice a k q) l R ∧ ColX (Gv w (.slice a k q)) w3 x3 [c0, c1, c2] ∧ RdStep (pRep p (k + 1)) s1.data.toList f1 (l ++ [x3]) s3.data.toList f3 ∧ R.length = k) := ⟨hL, hE2, step_rep HS.out.2.1 st3, HS.out.2.2⟩
      have hone := colX_one hE2
      have HO : Hid (∀ r ∈ [[c0, c1, c2]], ∀ c ∈ r, c.oneCell' = true) := fun r hr => by simp only [List.mem_singleton] at hr; rw [hr]; exact hone
      have hSR := hL.rows
      have HV : Hid (SRows (w3.alloc (.cells #[c0, c1, c2] 53)) (.slice a k q) 53 3 R) := hSR.of_block fun g hg => Below.heap_alloc _ _ g (hSR.lt hg)
      have HC : Hid (∀ (j : Nat) (u : Value), [[c0, c1, c2]].flatten[j]? = some u → (w3.alloc (.cells #[c0, c1, c2] 53)).cell? ((⟨w3.heap.size, 0, none⟩ : Addr).add j) = some u) := fun j u hu => by
        rw [add_off, Nat.zero_add]
        exact (box_new w3 #[c0, c1, c2] 53).cell j u (by simpa using hu)
      have HM : Hid (R.length + 1 = k + 1) := by unfold Hid; rw [HS.out.2.2]
      clear ct hE hr3 st3 k3 hL hE2 hone hSR HS
      go_wp2_with (at_builtin; refine append_any rfl (.tmp 13) (.tmp 17) 23 53 i0 (.agg #[.string ⟨#[]⟩, .int .i64 0, .bool false]) 3 32 rfl Tryz.underlying23 HI.out.1 HI.out.2.1 HI.out.2.2.1 HI.out.2.2.2 rfl (by decide) (by decide) rfl rfl HV.out (R2 := [[c0, c1, c2]]) rfl (by simp) HC.out HO.out (k + 1) HM.out (R ++ [[c0, c1, c2]]) rfl (by omega) ?_; intro va vc w4 hsr hwh hkk)
      go_roundg (n - (k + 1))
      case measure => clear hr2; omega
      case rel => exact ⟨k + 1, s3, f3, va, vc, l ++ [x3], R ++ [[c0, c1, c2]], by clear hr2; omega, by go_num, rfl, HN.out.1.add HN.out.2.1 hsr.out hwh.out hkk.out, HN.out.2.2.1, by rw [List.length_append, HN.out.2.2.2]; rfl⟩
    · have hkI : ¬ (k : Int) < (n : Int) := by omega
      obtain rfl : k = n := by omega
      go_wp2_with fail
      go_ret
      have hh := HS.out
      refine ⟨_, l, s2, f2, rfl, ?_, hh.1.rd, step_list H1.out.1 (by rw [H1.out.2.1, Int.toNat_natCast]; exact hh.2.1), hh.1.kp⟩
      exact (slX_of_srows (G := fun b => b < w.heap.size) (E := ColX fun b => b < w.heap.size) hh.1.rows ⟨hh.1.all.1, fun i y r hy hr => colX_other (hh.1.all.2 i y r hy hr) (fun b _ hg => .inl hg)⟩ (fun b hb hg => by have := hh.1.own b hb; omega))
/-- What is so while projections are read. -/
structure LsP (w W : World) (B : Nat) (s : ByteArray) (f : Bool) (v : Value) (l : List Pj) (R : List (List Value)) : Prop where
  rd : Rd W B s f
  kp : Kept (fun b => b = B) w W
  lt : B < w.heap.size
  sz : s.size ≤ 1000000
  rows : SRows W v 26 3 R
  all : RowsE (PjX (Gv w v)) W l R
  own : ∀ b, v.ownBlock = some b → w.heap.size ≤ b
theorem LsP.step {w W W2 : World} {B : Nat} {s s2 : ByteArray} {f f2 : Bool} {v : Value} {l : List Pj} {R : List (List Value)} (h : LsP w W B s f v l R) (hr : Rd W2 B s2 f2) (hk : Kept (fun b => b = B) W W2) (hs : s2.size ≤ 1000000) : LsP w W2 B s2 f2 v l R := by
  have hm : Kept (Gv w v) W W2 := hk.mono fun b hb => .inl (by rw [hb]; exact h.lt)
  exact ⟨hr, h.kp.trans hk (fun _ h => .inl h), h.lt, hs, h.rows.kept hk (fun g hg => by have := h.own g hg; have := h.lt; omega), ⟨h.all.1, fun i x r hx hr => pjX_kept (h.all.2 i x r hx hr) hm⟩, h.own⟩
theorem LsP.add {w W W3 : World} {B : Nat} {s : ByteArray} {f : Bool} {v v3 : Value} {l : List Pj} {R : List (List Value)} {x : Pj} {c0 c1 c2 : Value} (h : LsP w W B s f v l R) (hx : PjX (Gv w v) W x [c0, c1, c2])
    (hs : SRows W3 v3 26 3 (R ++ [[c0, c1, c2]])) (hwh : ∀ k, v3.ownBlock = some k → v.ownBlock = some k ∨ (W.alloc (.cells #[c0, c1, c2] 26)).heap.size ≤ k) (hk : Kept (fun b => v.ownBlock = some b) (W.alloc (.cells #[c0, c1, c2] 26)) W3) :
    LsP w W3 B s f v3 (l ++ [x]) (R ++ [[c0, c1, c2]]) := by
  have b1 := below1 W (.cells #[c0, c1, c2] 26)
  have ha : RowsE (PjX (Gv w v)) (W.alloc (.cells #[c0, c1, c2] 26)) (l ++ [x]) (R ++ [[c0, c1, c2]]) := rowsE_snoc ⟨h.all.1, fun i y r hy hr => pjX_kept (h.all.2 i y r hy hr) (kept_of_below _ b1)⟩ (pjX_kept hx (kept_of_below _ b1))
  have hks : Kept (fun b => b = B) (W.alloc (.cells #[c0, c1, c2] 26)) W3 ∨ True := .inr trivial
  have hB : ∀ b, v.ownBlock = some b → b ≠ B := fun b hb => by have := h.own b hb; have := h.lt; omega
  refine ⟨(Box.alloc h.rd _).kept hk (fun e => hB B e rfl), ?_, h.lt, h.sz, hs, ⟨ha.1, fun i y r hy hr => ?_⟩, fun b hb => ?_⟩
  · have h1 := h.kp.alloc (.cells #[c0, c1, c2] 26)
    exact h1.trans hk (fun b hb => .inr (h.own b hb))
  · have e1 := pjX_other (H := G3 w v v3) (ha.2 i y r hy hr) (fun b hb hg => by
      rcases hg with hg | hg | hg
      · exact .inl hg
      · exact .inr hg
      · rcases hwh b hg with h1 | h1
        · exact .inr h1
        · omega)
    have e2 := pjX_kept e1 (hk.mono (G := G3 w v v3) fun b hb => .inr (.inl hb))
    exact pjX_other e2 (fun b _ hg => by
      rcases hg with hg | hg
      · exact .inl hg
      · exact .inr (.inr hg))
  · rcases hwh b hb with h1 | h1
    · exact h.own b h1
    · have := h.kp.size; have := b1.size; omega
set_option maxRecDepth 4000 in
set_option maxHeartbeats 4000000 in
theorem takeListP_any {w : World} {B : Nat} {s : ByteArray} {f : Bool} (h : Rd w B s f) (hs : s.size ≤ 1000000) (m : Nat) (hm : m ≤ 100) (g : Nat) (p : By → Option (Pj × By)) (eg : ∀ args w, (callFunc g args).run Tryz.prog w = .ok (.enter g args) w)
    (hf : ∀ W s f, Rd W B s f → s.size ≤ 1000000 → Calls Tryz.prog g #[.pointer (some ⟨B, 0, none⟩)] W (RdAns B (rep3 PjX) p s f W)) :
    Calls Tryz.prog 94 #[.pointer (some ⟨B, 0, none⟩), .int .i64 (m : Int), .func (.func g) #[] #[]] w (RdAns B (repL PjX) (pList m p) s f w) := by
  have cu := upTo_any h hs m (by omega)
  have HF : Hid (∀ W s f, Rd W B s f → s.size ≤ 1000000 → Calls Tryz.prog g #[.pointer (some ⟨B, 0, none⟩)] W (RdAns B (rep3 PjX) p s f W)) := hf
  have HL : Hid (B < w.heap.size ∧ s.size ≤ 1000000) := ⟨Box.lt h, hs⟩
  obtain ⟨i0, hi, hz0, hz1, hz2⟩ := info_parts infos_pj
  have HI : Hid (Tryz.prog.info? 26 = some i0 ∧ i0.zero = some (.agg #[.string ⟨#[]⟩, .slice none 0 0, .int .i64 0]) ∧ i0.size = 3 ∧ i0.bytes = 48) := ⟨hi, hz0, hz1, hz2⟩
  have hmI : (m : Int) ≤ 100 := by omega
  clear h hs hf hi hz0 hz1 hz2 hm
  go_enter Tryz.func94, Tryz.ntmps94
  go_wp2_with fail
  refine Calls.mono cu ?_
  rintro e w1 ⟨x, s1, f1, rfl, hr1, st1, k1, hx0, hxm⟩
  obtain ⟨n, hn⟩ : ∃ n : Nat, x.toInt = (n : Int) := ⟨x.toInt.toNat, by omega⟩
  have H1 : Hid (RdStep (pTo m) s.data.toList f x s1.data.toList f1 ∧ x.toInt = (n : Int) ∧ n ≤ 100) := ⟨st1, hn, by omega⟩
  have HS : Hid (LsP w w1 B s1 f1 (.slice none 0 0) [] []) := ⟨hr1, k1, HL.out.1, step_size st1 HL.out.2, srows_nil _ _ _, ⟨rfl, fun i x r hx => by simp at hx⟩, fun b hb => by simp [Value.ownBlock] at hb⟩
  have hnI : (n : Int) ≤ 100 := by omega
  rw [hn]
  clear cu hr1 st1 k1 hx0 hxm hn
  go_wp2_with fail
  go_loopg [7, 11] n (fun gg s7 s11 wx => ∃ (k : Nat) (s2 : ByteArray) (f2 : Bool) (a : Option Addr) (q : Nat) (l : List Pj) (R : List (List Value)), k + gg = n ∧ s11 = .int .i64 k ∧ s7 = .slice a k q ∧ Hid (LsP w wx B s2 f2 (.slice a k q) l R ∧ RdStep (pRep p k) s1.data.toList f1 l s2.data.toList f2 ∧ R.length = k))
  case atStart => exact ⟨0, s1, f1, none, 0, [], [], by omega, rfl, rfl, HS.out, step_rep0 _ _ _, rfl⟩
  case round =>
    clear HS
    obtain ⟨k, s2, f2, a, q, l, R, hkg, rfl, rfl, HS⟩ := hrel
    by_cases hk : k < n
    · have hkI : (k : Int) < (n : Int) := by omega
      have hr2 : IntKind.i64.wrap ((k : Int) + 1) = (k : Int) + 1 := by rw [IntKind.wrap_i64]; omega
      have ct := HF.out wr s2 f2 HS.out.1.rd HS.out.1.sz
      go_wp2_with fail
      refine Calls.mono ct ?_
      rintro e w3 ⟨v3, x3, s3, f3, rfl, ⟨c0, c1, c2, rfl, hE⟩, hr3, st3, k3⟩
      have hL := HS.out.1.step hr3 k3 (step_size st3 HS.out.1.sz)
      have hE2 : PjX (Gv w (.slice a k q)) w3 x3 [c0, c1, c2] := pjX_other hE (fun b _ hg => by
        rcases hg with hg | hg
        · have := HS.out.1.kp.size; omega
        · exact HS.out.1.rows.lt hg)
      have HN : Hid (LsP w w3 B s3 f3 (.slice a k q) l R ∧ PjX (Gv w (.slice a k q)) w3 x3 [c0, c1, c2] ∧ RdStep (pRep p (k + 1)) s1.data.toList f1 (l ++ [x3]) s3.data.toList f3 ∧ R.length = k) := ⟨hL, hE2, step_rep HS.out.2.1 st3, HS.out.2.2⟩
      have hone := pjX_one hE2
      have HO : Hid (∀ r ∈ [[c0, c1, c2]], ∀ c ∈ r, c.oneCell' = true) := fun r hr => by simp only [List.mem_singleton] at hr; rw [hr]; exact hone
      have hSR := hL.rows
      have HV : Hid (SRows (w3.alloc (.cells #[c0, c1, c2] 26)) (.slice a k q) 26 3 R) := hSR.of_block fun g hg => Below.heap_alloc _ _ g (hSR.lt hg)
      have HC : Hid (∀ (j : Nat) (u : Value), [[c0, c1, c2]].flatten[j]? = some u → (w3.alloc (.cells #[c0, c1, c2] 26)).cell? ((⟨w3.heap.size, 0, none⟩ : Addr).add j) = some u) := fun j u hu => by
        rw [add_off, Nat.zero_add]
        exact (box_new w3 #[c0, c1, c2] 26).cell j u (by simpa using hu)
      have HM : Hid (R.length + 1 = k + 1) := by unfold Hid; rw [HS.out.2.2]
      clear ct hE hr3 st3 k3 hL hE2 hone hSR HS
      go_wp2_with (at_builtin; refine append_any rfl (.tmp 13) (.tmp 17) 39 26 i0 (.agg #[.string ⟨#[]⟩, .slice none 0 0, .int .i64 0]) 3 48 rfl Tryz.underlying39 HI.out.1 HI.out.2.1 HI.out.2.2.1 HI.out.2.2.2 rfl (by decide) (by decide) rfl rfl HV.out (R2 := [[c0, c1, c2]]) rfl (by simp) HC.out HO.out (k + 1) HM.out (R ++ [[c0, c1, c2]]) rfl (by omega) ?_; intro va vc w4 hsr hwh hkk)
      go_roundg (n - (k + 1))
      case measure => clear hr2; omega
      case rel => exact ⟨k + 1, s3, f3, va, vc, l ++ [x3], R ++ [[c0, c1, c2]], by clear hr2; omega, by go_num, rfl, HN.out.1.add HN.out.2.1 hsr.out hwh.out hkk.out, HN.out.2.2.1, by rw [List.length_append, HN.out.2.2.2]; rfl⟩
    · have hkI : ¬ (k : Int) < (n : Int) := by omega
      obtain rfl : k = n := by omega
      go_wp2_with fail
      go_ret
      have hh := HS.out
      refine ⟨_, l, s2, f2, rfl, ?_, hh.1.rd, step_list H1.out.1 (by rw [H1.out.2.1, Int.toNat_natCast]; exact hh.2.1), hh.1.kp⟩
      exact (slX_of_srows (G := fun b => b < w.heap.size) (E := PjX fun b => b < w.heap.size) hh.1.rows ⟨hh.1.all.1, fun i y r hy hr => pjX_other (hh.1.all.2 i y r hy hr) (fun b _ hg => .inl hg)⟩ (fun b hb hg => by have := hh.1.own b hb; omega))
/-- What is so while tables are read. -/
structure LsT (w W : World) (B : Nat) (s : ByteArray) (f : Bool) (v : Value) (l : List Tb) (R : List (List Value)) : Prop where
  rd : Rd W B s f
  kp : Kept (fun b => b = B) w W
  lt : B < w.heap.size
  sz : s.size ≤ 1000000
  rows : SRows W v 41 3 R
  all : RowsE (TbX (Gv w v)) W l R
  own : ∀ b, v.ownBlock = some b → w.heap.size ≤ b
theorem LsT.step {w W W2 : World} {B : Nat} {s s2 : ByteArray} {f f2 : Bool} {v : Value} {l : List Tb} {R : List (List Value)} (h : LsT w W B s f v l R) (hr : Rd W2 B s2 f2) (hk : Kept (fun b => b = B) W W2) (hs : s2.size ≤ 1000000) : LsT w W2 B s2 f2 v l R := by
  have hm : Kept (Gv w v) W W2 := hk.mono fun b hb => .inl (by rw [hb]; exact h.lt)
  exact ⟨hr, h.kp.trans hk (fun _ h => .inl h), h.lt, hs, h.rows.kept hk (fun g hg => by have := h.own g hg; have := h.lt; omega), ⟨h.all.1, fun i x r hx hr => tbX_kept (h.all.2 i x r hx hr) hm⟩, h.own⟩
theorem LsT.add {w W W3 : World} {B : Nat} {s : ByteArray} {f : Bool} {v v3 : Value} {l : List Tb} {R : List (List Value)} {x : Tb} {c0 c1 c2 : Value} (h : LsT w W B s f v l R) (hx : TbX (Gv w v) W x [c0, c1, c2])
    (hs : SRows W3 v3 41 3 (R ++ [[c0, c1, c2]])) (hwh : ∀ k, v3.ownBlock = some k → v.ownBlock = some k ∨ (W.alloc (.cells #[c0, c1, c2] 41)).heap.size ≤ k) (hk : Kept (fun b => v.ownBlock = some b) (W.alloc (.cells #[c0, c1, c2] 41)) W3) :
    LsT w W3 B s f v3 (l ++ [x]) (R ++ [[c0, c1, c2]]) := by
  have b1 := below1 W (.cells #[c0, c1, c2] 41)
  have ha : RowsE (TbX (Gv w v)) (W.alloc (.cells #[c0, c1, c2] 41)) (l ++ [x]) (R ++ [[c0, c1, c2]]) := rowsE_snoc ⟨h.all.1, fun i y r hy hr => tbX_kept (h.all.2 i y r hy hr) (kept_of_below _ b1)⟩ (tbX_kept hx (kept_of_below _ b1))
  have hks : Kept (fun b => b = B) (W.alloc (.cells #[c0, c1, c2] 41)) W3 ∨ True := .inr trivial
  have hB : ∀ b, v.ownBlock = some b → b ≠ B := fun b hb => by have := h.own b hb; have := h.lt; omega
  refine ⟨(Box.alloc h.rd _).kept hk (fun e => hB B e rfl), ?_, h.lt, h.sz, hs, ⟨ha.1, fun i y r hy hr => ?_⟩, fun b hb => ?_⟩
  · have h1 := h.kp.alloc (.cells #[c0, c1, c2] 41)
    exact h1.trans hk (fun b hb => .inr (h.own b hb))
  · have e1 := tbX_other (H := G3 w v v3) (ha.2 i y r hy hr) (fun b hb hg => by
      rcases hg with hg | hg | hg
      · exact .inl hg
      · exact .inr hg
      · rcases hwh b hg with h1 | h1
        · exact .inr h1
        · omega)
    have e2 := tbX_kept e1 (hk.mono (G := G3 w v v3) fun b hb => .inr (.inl hb))
    exact tbX_other e2 (fun b _ hg => by
      rcases hg with hg | hg
      · exact .inl hg
      · exact .inr (.inr hg))
  · rcases hwh b hb with h1 | h1
    · exact h.own b h1
    · have := h.kp.size; have := b1.size; omega
set_option maxRecDepth 4000 in
set_option maxHeartbeats 4000000 in
theorem takeListT_any {w : World} {B : Nat} {s : ByteArray} {f : Bool} (h : Rd w B s f) (hs : s.size ≤ 1000000) (m : Nat) (hm : m ≤ 100) (g : Nat) (p : By → Option (Tb × By)) (eg : ∀ args w, (callFunc g args).run Tryz.prog w = .ok (.enter g args) w)
    (hf : ∀ W s f, Rd W B s f → s.size ≤ 1000000 → Calls Tryz.prog g #[.pointer (some ⟨B, 0, none⟩)] W (RdAns B (rep3 TbX) p s f W)) :
    Calls Tryz.prog 50 #[.pointer (some ⟨B, 0, none⟩), .int .i64 (m : Int), .func (.func g) #[] #[]] w (RdAns B (repL TbX) (pList m p) s f w) := by
  have cu := upTo_any h hs m (by omega)
  have HF : Hid (∀ W s f, Rd W B s f → s.size ≤ 1000000 → Calls Tryz.prog g #[.pointer (some ⟨B, 0, none⟩)] W (RdAns B (rep3 TbX) p s f W)) := hf
  have HL : Hid (B < w.heap.size ∧ s.size ≤ 1000000) := ⟨Box.lt h, hs⟩
  obtain ⟨i0, hi, hz0, hz1, hz2⟩ := info_parts infos_tb
  have HI : Hid (Tryz.prog.info? 41 = some i0 ∧ i0.zero = some (.agg #[.string ⟨#[]⟩, .slice none 0 0, .slice none 0 0]) ∧ i0.size = 3 ∧ i0.bytes = 64) := ⟨hi, hz0, hz1, hz2⟩
  have hmI : (m : Int) ≤ 100 := by omega
  clear h hs hf hi hz0 hz1 hz2 hm
  go_enter Tryz.func50, Tryz.ntmps50
  go_wp2_with fail
  refine Calls.mono cu ?_
  rintro e w1 ⟨x, s1, f1, rfl, hr1, st1, k1, hx0, hxm⟩
  obtain ⟨n, hn⟩ : ∃ n : Nat, x.toInt = (n : Int) := ⟨x.toInt.toNat, by omega⟩
  have H1 : Hid (RdStep (pTo m) s.data.toList f x s1.data.toList f1 ∧ x.toInt = (n : Int) ∧ n ≤ 100) := ⟨st1, hn, by omega⟩
  have HS : Hid (LsT w w1 B s1 f1 (.slice none 0 0) [] []) := ⟨hr1, k1, HL.out.1, step_size st1 HL.out.2, srows_nil _ _ _, ⟨rfl, fun i x r hx => by simp at hx⟩, fun b hb => by simp [Value.ownBlock] at hb⟩
  have hnI : (n : Int) ≤ 100 := by omega
  rw [hn]
  clear cu hr1 st1 k1 hx0 hxm hn
  go_wp2_with fail
  go_loopg [7, 11] n (fun gg s7 s11 wx => ∃ (k : Nat) (s2 : ByteArray) (f2 : Bool) (a : Option Addr) (q : Nat) (l : List Tb) (R : List (List Value)), k + gg = n ∧ s11 = .int .i64 k ∧ s7 = .slice a k q ∧ Hid (LsT w wx B s2 f2 (.slice a k q) l R ∧ RdStep (pRep p k) s1.data.toList f1 l s2.data.toList f2 ∧ R.length = k))
  case atStart => exact ⟨0, s1, f1, none, 0, [], [], by omega, rfl, rfl, HS.out, step_rep0 _ _ _, rfl⟩
  case round =>
    clear HS
    obtain ⟨k, s2, f2, a, q, l, R, hkg, rfl, rfl, HS⟩ := hrel
    by_cases hk : k < n
    · have hkI : (k : Int) < (n : Int) := by omega
      have hr2 : IntKind.i64.wrap ((k : Int) + 1) = (k : Int) + 1 := by rw [IntKind.wrap_i64]; omega
      have ct := HF.out wr s2 f2 HS.out.1.rd HS.out.1.sz
      go_wp2_with fail
      refine Calls.mono ct ?_
      rintro e w3 ⟨v3, x3, s3, f3, rfl, ⟨c0, c1, c2, rfl, hE⟩, hr3, st3, k3⟩
      have hL := HS.out.1.step hr3 k3 (step_size st3 HS.out.1.sz)
      have hE2 : TbX (Gv w (.slice a k q)) w3 x3 [c0, c1, c2] := tbX_other hE (fun b _ hg => by
        rcases hg with hg | hg
        · have := HS.out.1.kp.size; omega
        · exact HS.out.1.rows.lt hg)
      have HN : Hid (LsT w w3 B s3 f3 (.slice a k q) l R ∧ TbX (Gv w (.slice a k q)) w3 x3 [c0, c1, c2] ∧ RdStep (pRep p (k + 1)) s1.data.toList f1 (l ++ [x3]) s3.data.toList f3 ∧ R.length = k) := ⟨hL, hE2, step_rep HS.out.2.1 st3, HS.out.2.2⟩
      have hone := tbX_one hE2
      have HO : Hid (∀ r ∈ [[c0, c1, c2]], ∀ c ∈ r, c.oneCell' = true) := fun r hr => by simp only [List.mem_singleton] at hr; rw [hr]; exact hone
      have hSR := hL.rows
      have HV : Hid (SRows (w3.alloc (.cells #[c0, c1, c2] 41)) (.slice a k q) 41 3 R) := hSR.of_block fun g hg => Below.heap_alloc _ _ g (hSR.lt hg)
      have HC : Hid (∀ (j : Nat) (u : Value), [[c0, c1, c2]].flatten[j]? = some u → (w3.alloc (.cells #[c0, c1, c2] 41)).cell? ((⟨w3.heap.size, 0, none⟩ : Addr).add j) = some u) := fun j u hu => by
        rw [add_off, Nat.zero_add]
        exact (box_new w3 #[c0, c1, c2] 41).cell j u (by simpa using hu)
      have HM : Hid (R.length + 1 = k + 1) := by unfold Hid; rw [HS.out.2.2]
      clear ct hE hr3 st3 k3 hL hE2 hone hSR HS
      go_wp2_with (at_builtin; refine append_any rfl (.tmp 13) (.tmp 17) 22 41 i0 (.agg #[.string ⟨#[]⟩, .slice none 0 0, .slice none 0 0]) 3 64 rfl Tryz.underlying22 HI.out.1 HI.out.2.1 HI.out.2.2.1 HI.out.2.2.2 rfl (by decide) (by decide) rfl rfl HV.out (R2 := [[c0, c1, c2]]) rfl (by simp) HC.out HO.out (k + 1) HM.out (R ++ [[c0, c1, c2]]) rfl (by omega) ?_; intro va vc w4 hsr hwh hkk)
      go_roundg (n - (k + 1))
      case measure => clear hr2; omega
      case rel => exact ⟨k + 1, s3, f3, va, vc, l ++ [x3], R ++ [[c0, c1, c2]], by clear hr2; omega, by go_num, rfl, HN.out.1.add HN.out.2.1 hsr.out hwh.out hkk.out, HN.out.2.2.1, by rw [List.length_append, HN.out.2.2.2]; rfl⟩
    · have hkI : ¬ (k : Int) < (n : Int) := by omega
      obtain rfl : k = n := by omega
      go_wp2_with fail
      go_ret
      have hh := HS.out
      refine ⟨_, l, s2, f2, rfl, ?_, hh.1.rd, step_list H1.out.1 (by rw [H1.out.2.1, Int.toNat_natCast]; exact hh.2.1), hh.1.kp⟩
      exact (slX_of_srows (G := fun b => b < w.heap.size) (E := TbX fun b => b < w.heap.size) hh.1.rows ⟨hh.1.all.1, fun i y r hy hr => tbX_other (hh.1.all.2 i y r hy hr) (fun b _ hg => .inl hg)⟩ (fun b hb hg => by have := hh.1.own b hb; omega))
set_option maxHeartbeats 2000000 in
theorem takeTb_any {w : World} {B : Nat} {s : ByteArray} {f : Bool} (h : Rd w B s f) (hs : s.size ≤ 1000000) :
    Calls Tryz.prog 51 #[.pointer (some ⟨B, 0, none⟩)] w (RdAns B (rep3 TbX) pTbC s f w) := by
  have HT : Hid (Tk w (w.alloc (.cells #[.string ⟨#[]⟩, .slice none 0 0, .slice none 0 0] 41)) B 41 #[.string ⟨#[]⟩, .slice none 0 0, .slice none 0 0] s f) := tk_new h hs _ _
  clear h hs
  go_enter Tryz.func51, Tryz.ntmps51
  go_wp2_with fail
  refine Calls.mono (name_rd HT.out.rd HT.out.sz) ?_
  rintro e w1 ⟨v1, a, s1, f1, rfl, hv, hr1, st1, k1⟩
  have ev : v1 = .string a := hv
  subst ev
  have H1 : Hid (Tk w w1 B 41 #[.string ⟨#[]⟩, .slice none 0 0, .slice none 0 0] s1 f1 ∧ RdStep pName s.data.toList f a s1.data.toList f1) := ⟨HT.out.next hr1 k1 (step_size st1 HT.out.sz), st1⟩
  clear hv hr1 st1 k1
  go_wp2_with fail
  refine Calls.mono (takeListC_any H1.out.1.rd H1.out.1.sz 8 (by decide) 93 pColC (enters_of Tryz.func93 (by kernel_rfl) rfl) (fun W s f h hs => takeCol_any h hs)) ?_
  rintro e w2 ⟨v2, b, s2, f2, rfl, hv, hr2, st2, k2⟩
  have H2 : Hid (Tk w w2 B 41 #[.string ⟨#[]⟩, .slice none 0 0, .slice none 0 0] s2 f2 ∧ RdStep (pList 8 pColC) s1.data.toList f1 b s2.data.toList f2) := ⟨H1.out.1.next hr2 k2 (step_size st2 H1.out.1.sz), st2⟩
  have HV : Hid (SlX (fun x => x < w1.heap.size) ColE 3 w2 v2 b) := hv
  obtain ⟨aI, nI, capI, rfl, _⟩ := (HV.out.is (E' := ColE) fun _ _ h => h).slice
  clear hv hr2 st2 k2
  go_wp2_with fail
  refine Calls.mono (takeListP_any H2.out.1.rd H2.out.1.sz 6 (by decide) 95 pPjC (enters_of Tryz.func95 (by kernel_rfl) rfl) (fun W s f h hs => takePj_any h hs)) ?_
  rintro e w3 ⟨v3, c, s3, f3, rfl, hv, hr3, st3, k3⟩
  have HV3 : Hid (SlX (fun x => x < w2.heap.size) (PjX fun x => x < w2.heap.size) 3 w3 v3 c) := hv
  have H3 : Hid (Tk w w3 B 41 #[.string ⟨#[]⟩, .slice none 0 0, .slice none 0 0] s3 f3 ∧ RdStep (pList 6 pPjC) s2.data.toList f2 c s3.data.toList f3 ∧ SlX (fun x => x < w1.heap.size) ColE 3 w3 (.slice aI nI capI) b) := ⟨H2.out.1.next hr3 k3 (step_size st3 H2.out.1.sz), st3, HV.out.kept (k3.mono fun x hx => by rw [hx]; have := H1.out.1.lt; have := H1.out.1.up; omega) (fun _ _ h => h)⟩
  obtain ⟨aJ, nJ, capJ, rfl, _⟩ := (HV3.out.is (E' := PjE) fun _ _ h => h.is).slice
  clear hv hr3 st3 k3
  have hone : (#[.string a, .slice aI nI capI, .slice aJ nJ capJ] : Array Value).all (fun c => c.oneCell') = true := one_three (by intro u hu; simp only [List.mem_cons, List.not_mem_nil, or_false] at hu; rcases hu with rfl | rfl | rfl <;> rfl)
  go_wp2_with (refine wpList_store_row rfl 41 _ _ rfl w.heap.size _ rfl rfl 41 _ H3.out.1.box size_tb rfl hone ?_)
  have hF := H3.out.1.fill #[.string a, .slice aI nI capI, .slice aJ nJ capJ]
  have hX := (H3.out.2.2.kept (hF.2.2.2.mono fun x hx => by rw [hx]; exact H1.out.1.up) (fun _ _ h => h)).other (H := fun x => x < w.heap.size) (E' := ColE) (fun x _ hx => by have := H1.out.1.up; omega) (fun _ _ h => h)
  have hm2 : Kept (fun x => x < w2.heap.size) w3 (w3.setRow w.heap.size #[.string a, .slice aI nI capI, .slice aJ nJ capJ]) := hF.2.2.2.mono fun x hx => by rw [hx]; exact H2.out.1.up
  have hY := (HV3.out.kept hm2 (fun _ _ h => h.kept hm2)).other (H := fun x => x < w.heap.size) (E' := PjX fun x => x < w.heap.size) (fun x _ hx => by have := H2.out.1.up; omega) (fun _ _ h => h.other (fun x _ hx => by have := H2.out.1.up; omega))
  exact bodyPost_ret (res_box Tryz.results51 _ rfl hF.2.1 Tryz.underlying41 rfl size_tb) rfl ⟨_, ⟨a, b, c⟩, s3, f3, rfl, ⟨_, _, _, rfl, ⟨_, _, rfl, hX, hY⟩⟩, hF.1, tb_step H1.out.2 H2.out.2 H3.out.2.1, hF.2.2.1⟩
end Go.Proofs.YtdjobjbkpagnaaaGreat
/-
  The contract of schema's Take.
-/
namespace Go.Proofs.YtdjobjbkpagnaaaGreat
open Go.RowKit Leb

theorem name_few {s : By} {n : ByteArray} {r : By} (h : pName s = some (n, r)) : n.size ≤ 16 := by
  unfold pName at h
  rw [Option.bind_eq_some_iff] at h
  obtain ⟨p, hp, h⟩ := h
  have h2 := to_range (x := p.1) (r := p.2) hp
  split at h
  · cases h
    rw [str_size, List.length_take]
    have : p.1.toInt ≤ 16 := h2.2
    omega
  · cases h
theorem rep_all {α : Type} {p : By → Option (α × By)} {Q : α → Prop} (hp : ∀ s x r, p s = some (x, r) → Q x) : ∀ (k : Nat) (s : By) (l : List α) (r : By), pRep p k s = some (l, r) → ∀ x ∈ l, Q x
  | 0, s, l, r, h => by
    simp only [pRep, Option.some.injEq, Prod.mk.injEq] at h
    rw [← h.1]
    simp
  | k + 1, s, l, r, h => by
    rw [pRep, Option.bind_eq_some_iff] at h
    obtain ⟨q, hq, h⟩ := h
    rw [Option.bind_eq_some_iff] at h
    obtain ⟨t, ht, h⟩ := h
    cases h
    intro x hx
    rcases List.mem_append.1 hx with hx | hx
    · exact rep_all hp k s q.1 q.2 hq x hx
    · simp at hx; rw [hx]; exact hp _ _ _ ht
theorem rep_len {α : Type} {p : By → Option (α × By)} : ∀ (k : Nat) (s : By) (l : List α) (r : By), pRep p k s = some (l, r) → l.length = k
  | 0, s, l, r, h => by
    simp only [pRep, Option.some.injEq, Prod.mk.injEq] at h
    rw [← h.1]; rfl
  | k + 1, s, l, r, h => by
    rw [pRep, Option.bind_eq_some_iff] at h
    obtain ⟨q, hq, h⟩ := h
    rw [Option.bind_eq_some_iff] at h
    obtain ⟨t, ht, h⟩ := h
    cases h
    rw [List.length_append, rep_len k s q.1 q.2 hq]; rfl
theorem list_few {α : Type} {p : By → Option (α × By)} {Q : α → Prop} {m : Nat} (hp : ∀ s x r, p s = some (x, r) → Q x) {s : By} {l : List α} {r : By} (h : pList m p s = some (l, r)) : l.length ≤ m ∧ ∀ x ∈ l, Q x := by
  unfold pList at h
  rw [Option.bind_eq_some_iff] at h
  obtain ⟨q, hq, h⟩ := h
  have h4 := to_range (x := q.1) (r := q.2) hq
  exact ⟨by rw [rep_len _ _ _ _ h]; omega, rep_all hp _ _ _ _ h⟩
theorem nums_few {s : By} {l : List (BitVec 64)} {r : By} (h : pNums s = some (l, r)) : l.length ≤ 65536 := by
  unfold pNums at h
  split at h
  · rename_i h0
    cases h
    rcases tk_cases s with ⟨z, hz, e⟩ | ⟨_, e⟩
    · by_cases hn : (zagW z).toInt < 0
      · rw [ta_neg e hn] at h0; simp at h0
      · by_cases hm : 65536 < (zagW z).toInt
        · rw [ta_many e hm] at h0; simp at h0
        · cases hf : tkF (zagW z).toInt.toNat s [] (lenW z) with
          | none => rw [ta_none e (zagW z).toInt.toNat (by omega) (by omega) hf] at h0; simp at h0
          | some p =>
            obtain ⟨d, u⟩ := p
            rw [ta_some e (zagW z).toInt.toNat (by omega) (by omega) hf]
            simp only
            unfold tkF at hf
            rw [Option.map_eq_some_iff] at hf
            obtain ⟨q, hq, hf⟩ := hf
            simp only [List.nil_append, Prod.mk.injEq] at hf
            obtain ⟨rfl, rfl⟩ := hf
            have := (tkN_sound _ _ q.1 q.2 hq).2
            omega
    · rw [ta_form e] at h0; simp at h0
  · cases h
theorem lit_parse {s : By} {l : List Tb} {r : By} (h : pTabsC s = some (l, r)) : litL l := by
  have h1 := list_few (Q := litT) (fun s x r hx => by
    unfold pTbC at hx
    simp only [Option.bind_eq_some_iff] at hx
    obtain ⟨a, ha, b, hb, c, hc, hx⟩ := hx
    cases hx
    have hn := name_few (n := a.1) (r := a.2) ha
    have hcs := list_few (Q := litC) (fun s x r hx => by
      unfold pColC at hx
      simp only [Option.bind_eq_some_iff] at hx
      obtain ⟨a, ha, b, hb, c, hc, hx⟩ := hx
      cases hx
      have := name_few (n := a.1) (r := a.2) ha
      unfold litC
      simp only
      omega) hb
    have hps := list_few (Q := litP) (fun s x r hx => by
      unfold pPjC at hx
      simp only [Option.bind_eq_some_iff] at hx
      obtain ⟨a, ha, b, hb, c, hc, hx⟩ := hx
      cases hx
      have := name_few (n := a.1) (r := a.2) ha
      have := nums_few (l := b.1) (r := b.2) hb
      exact ⟨by simp only; omega, by simp only; omega⟩) hc
    exact ⟨by simp only; omega, by simp only; omega, by simp only; omega, hcs.2, hps.2⟩) h
  exact ⟨by omega, h1.2⟩
/-- What Take answers. -/
def TakeAns (w : World) (r : List Tb × Nat × Int) (e : Ending) (w' : World) : Prop := (∃ v', e = .returned (.tuple #[v', .int .i64 (r.2.1 : Int), .int .i64 r.2.2]) ∧ TabsIs w' v' r.1) ∧ Below w.heap.size w w'
set_option maxHeartbeats 4000000 in
theorem takeTabs_any (s : ByteArray) (hs : s.size ≤ 1000000) (w : World) :
    Calls Tryz.prog 18 #[.string s] w (TakeAns w (takeWith pTabsC s.data.toList)) := by
  obtain ⟨W0, hW0⟩ : ∃ W0, W0 = w.alloc (.cells #[.string s, .bool false] 78) := ⟨_, rfl⟩
  have hrd : Rd W0 w.heap.size s false := by rw [hW0]; exact box_new _ _ _
  have hb0 : Below w.heap.size w W0 := by rw [hW0]; exact below1 _ _
  have ct := takeListT_any hrd hs 8 (by decide) 51 pTbC (enters_of Tryz.func51 (by kernel_rfl) rfl) (fun W s f h hs => takeTb_any h hs)
  have HW : Hid (W0 = w.alloc (.cells #[.string s, .bool false] 78) ∧ Below w.heap.size w W0 ∧ s.size ≤ 1000000) := ⟨hW0, hb0, hs⟩
  have hsI : (s.size : Int) ≤ 1000000 := by omega
  clear hW0 hrd hb0 hs
  go_enter Tryz.func18, Tryz.ntmps18
  go_wp2_with fail
  rw [← HW.out.1]
  refine Calls.mono ct ?_
  rintro e w1 ⟨v, l, s2, f2, rfl, hv, hr, st, hk⟩
  have hb1 : Below w.heap.size w w1 := HW.out.2.1.trans (hk.below (fun b hb => by rw [hb]; exact Nat.le_refl _) HW.out.2.1.size)
  have hT : TabsIs w1 v l := SlX.is hv fun _ _ h => h.is
  have hs2 : s2.size ≤ s.size := by have := st.1; rwa [size_list, size_list] at this
  have c0 := Box.cell hr 0 _ rfl
  have c1 := Box.cell hr 1 _ rfl
  obtain ⟨a, n, cap, rfl, _⟩ := hT.slice
  have HR : Hid (TabsIs w1 (.slice a n cap) l ∧ Below w.heap.size w w1 ∧ Rd w1 w.heap.size s2 f2 ∧ RdStep pTabsC s.data.toList false l s2.data.toList f2) := ⟨hT, hb1, hr, st⟩
  clear ct hv hr st hk hb1 hT
  cases f2 with
  | true =>
    have HE : Hid (takeWith pTabsC s.data.toList = ([], 0, 20)) := by
      unfold Hid takeWith
      cases e : pTabsC s.data.toList with
      | none => rfl
      | some q => have := ((HR.out.2.2.2.2.2 rfl).1 q.1 q.2 e).2.2; cases this
    go_wp2_with fail
    refine bodyPost_ret (v := .tuple #[.slice none 0 0, .int .i64 0, .int .i64 20]) (by simp [results, Tryz.results18, go_sem]) rfl ?_
    rw [HE.out]
    exact ⟨⟨_, rfl, slIs_nil _ _ _ _ _⟩, HR.out.2.1⟩
  | false =>
    obtain ⟨r, hp⟩ : ∃ r, pTabsC s.data.toList = some (l, r) := by
      cases e : pTabsC s.data.toList with
      | none => have := (HR.out.2.2.2.2.2 rfl).2 e; cases this
      | some q => have := (HR.out.2.2.2.2.2 rfl).1 q.1 q.2 e; rw [this.1]; exact ⟨q.2, rfl⟩
    have hr2 : s2.data.toList = r := ((HR.out.2.2.2.2.2 rfl).1 l r hp).2.1
    have cc := check_any HR.out.1 (lit_parse hp)
    have HP : Hid (takeWith pTabsC s.data.toList = if tabsB l then (l, s.size - s2.size, 0) else ([], 0, 20)) := by
      unfold Hid takeWith
      rw [hp]
      simp only
      rw [← hr2, size_list, size_list]
    clear hp hr2
    cases hq : tabsB l with
    | false =>
      rw [hq] at cc HP
      unfold errT at cc
      simp only [Bool.false_eq_true, if_false] at cc HP
      clear hq
      go_wp2_with fail
      refine cc.mono ?_
      rintro e w2 ⟨rfl, hb2⟩
      go_wp2_with fail
      refine bodyPost_ret (v := .tuple #[.slice none 0 0, .int .i64 0, .int .i64 20]) (by simp [results, Tryz.results18, go_sem]) rfl ?_
      rw [HP.out]
      exact ⟨⟨_, rfl, slIs_nil _ _ _ _ _⟩, HR.out.2.1.trans (hb2.mono HR.out.2.1.size)⟩
    | true =>
      rw [hq] at cc HP
      unfold errT at cc
      simp only [if_true] at cc HP
      clear hq
      go_wp2_with fail
      refine cc.mono ?_
      rintro e w2 ⟨rfl, hb2⟩
      have hr2 : Rd w2 w.heap.size s2 false := Box.over HR.out.2.2.1 hb2
      have d0 := Box.cell hr2 0 _ rfl
      have HF : Hid (TabsIs w2 (.slice a n cap) l ∧ Below w.heap.size w w2) := ⟨HR.out.1.over stays_tb hb2, HR.out.2.1.trans (hb2.mono HR.out.2.1.size)⟩
      have hsub : ((s.size - s2.size : Nat) : Int) = (s.size : Int) - (s2.size : Int) := by omega
      have HSUB : Hid (((s.size - s2.size : Nat) : Int) = (s.size : Int) - (s2.size : Int)) := hsub
      have hs2I : (s2.size : Int) ≤ (s.size : Int) := by omega
      clear hr2 hb2 c0 c1 cc hsub
      go_wp2_with fail
      go_quiet (fail)
      go_wp2_with fail
      refine bodyPost_ret (v := .tuple #[.slice a n cap, .int .i64 ((s.size : Int) - (s2.size : Int)), .int .i64 0]) (by simp [results, Tryz.results18, go_sem]) rfl ?_
      rw [HP.out]
      refine ⟨⟨_, by rw [← HSUB.out], HF.out.1.over stays_tb ⟨rfl, rfl, rfl, Nat.le_refl _, fun _ _ => rfl⟩⟩, drewN_below HF.out.2 _⟩
end Go.Proofs.YtdjobjbkpagnaaaGreat
