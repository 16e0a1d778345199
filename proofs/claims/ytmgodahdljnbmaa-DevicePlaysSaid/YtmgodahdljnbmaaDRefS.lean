/-
  The contract of peristyleref04's Sync.
-/
import Derived.Test.YtmgodahdljnbmaaDRefR
import Derived.Test.YtmgodahdljnbmaaLast
namespace Go.Proofs.Ytmgodahdljnbmaa
open Go.RowKit

theorem with_n {w : World} {sa : Option Addr} {n sc : Nat} {su : List (List UInt8)} (hn : su.length = n) (hr : SRows w (.slice sa n sc) 9 1 (su.map s1)) (k : Nat) (hk : k < n) (hl : n ≤ 4096) (b : List UInt8) :
    Calls Try.prog 37 #[.slice sa n sc, .int .i64 k, .string (strB b)] w fun e w' => (∃ va vc, e = .returned (.slice va n vc) ∧ SRows w' (.slice va n vc) 9 1 ((su.set k b).map s1) ∧ ∀ x, (Value.slice va n vc).ownBlock = some x → w.heap.size ≤ x) ∧ Below w.heap.size w w' := by
  subst hn
  exact with_any hr k hk hl b
theorem SRows.over {w w' : World} {v : Value} {t : TypeId} {sz : Nat} {R : List (List Value)} (h : SRows w v t sz R) (b : Below w.heap.size w w') : SRows w' v t sz R := h.of_block fun k hk => b.block k (h.lt hk)
theorem SRows.setOther {w : World} {v : Value} {t : TypeId} {sz : Nat} {R : List (List Value)} (h : SRows w v t sz R) {a : Addr} (u : Value) (hn : ∀ k, v.ownBlock = some k → k ≠ a.block) : SRows (w.setCell a u) v t sz R := h.of_block fun k hk => heap_setCell_other w a k u (hn k hk)
theorem SRows.rowOther {w : World} {v : Value} {t : TypeId} {sz : Nat} {R : List (List Value)} (h : SRows w v t sz R) {p : Nat} (c : Array Value) (hn : ∀ k, v.ownBlock = some k → k ≠ p) : SRows (w.setRow p c) v t sz R := h.of_block fun k hk => setRow_other w p k c (hn k hk)

set_option maxHeartbeats 1000000 in
theorem rsync_off (sa : Option Addr) (n sc : Nat) (wa : Option Addr) (m wc : Nat) (s : St) (hz : -9223372036854775808 ≤ s.fuse ∧ s.fuse < 9223372036854775808) (hg : s.goes = false) (w : World) :
    Calls Try.prog 23 #[.agg #[.slice sa n sc, .slice wa m wc, .int .i64 s.fuse, .bool s.off]] w fun e w' => e = .returned (.tuple #[.agg #[.slice sa n sc, .slice wa m wc, .int .i64 s.burnt.fuse, .bool s.burnt.off], .int .i64 40]) ∧ Below w.heap.size w w' := by
  have cd := fun W => done_any sa n sc wa m wc s hz W
  rw [hg] at cd
  obtain ⟨f, hf⟩ : ∃ f, f = s.fuse := ⟨_, rfl⟩
  obtain ⟨o, ho⟩ : ∃ o, o = s.off := ⟨_, rfl⟩
  obtain ⟨f', hf'⟩ : ∃ f', f' = s.burnt.fuse := ⟨_, rfl⟩
  obtain ⟨o', ho'⟩ : ∃ o', o' = s.burnt.off := ⟨_, rfl⟩
  simp only [← hf, ← ho, ← hf', ← ho'] at cd ⊢
  clear hz hg hf ho hf' ho'
  have hone := rd_one sa n sc wa m wc f' o'
  go_enter Try.func23, Try.ntmps23
  go_wp2_with fail
  refine (cd _).mono ?_
  rintro e w1 ⟨rfl, hb⟩
  obtain ⟨B0, B1, hB⟩ := two_box hb
  have B1a := B1.alloc (.cells (rd sa n sc wa m wc f' o') 30)
  have F1 := B1a.setRow (rd sa n sc wa m wc f' o')
  have hB2 : Below w.heap.size w (w1.alloc (.cells (rd sa n sc wa m wc f' o') 30)) := hB.alloc hB.size _
  clear cd hb B0 B1 hB
  go_wp2_with (refine wpList_store_row rfl 30 _ _ rfl (w.heap.size + 1) (rd sa n sc wa m wc f' o') rfl rfl 30 _ B1a size_rd rfl hone ?_)
  exact bodyPost_ret (res_box_slot Try.results23 _ rfl F1 Try.underlying30 rfl size_rd _ rfl) rfl ⟨rfl, below_setRow hB2 (by omega) _⟩

/-- In the midst of Sync, or of Crash: the box b has the lists; z is the result's. -/
structure Mid (w0 w : World) (G : Nat → Prop) (b z : Nat) (sa : Option Addr) (n sc : Nat) (wa : Option Addr) (m wc : Nat) (f : Int) (o : Bool) (su : List (List UInt8)) (wt : List (Nat × List UInt8)) : Prop where
  box : Box w b 30 (rd sa n sc wa m wc f o)
  zero : Box w z 30 (rd none 0 0 none 0 0 0 false)
  sure : SRows w (.slice sa n sc) 9 1 (su.map s1)
  wait : SRows w (.slice wa m wc) 67 2 (wt.map w2)
  own : ∀ x, (Value.slice sa n sc).ownBlock = some x → ¬ G x ∧ x ≠ b ∧ x ≠ z
  ownw : ∀ x, (Value.slice wa m wc).ownBlock = some x → ¬ G x ∧ x ≠ b ∧ x ≠ z
  bel : Below w0.heap.size w0 w
  abv : w0.heap.size ≤ b ∧ w0.heap.size ≤ z
  ne : b ≠ z
  len : su.length = n
  lenw : wt.length = m
section
variable {w0 w w' : World} {G : Nat → Prop} {b z : Nat} {sa : Option Addr} {n sc : Nat} {wa : Option Addr} {m wc : Nat} {f : Int} {o : Bool} {su su' : List (List UInt8)} {wt : List (Nat × List UInt8)}
theorem Mid.over (M : Mid w0 w G b z sa n sc wa m wc f o su wt) (h : Below w.heap.size w w') : Mid w0 w' G b z sa n sc wa m wc f o su wt :=
  { M with box := M.box.over h, zero := M.zero.over h, sure := M.sure.over h, wait := M.wait.over h, bel := M.bel.trans (h.mono M.bel.size) }
theorem Mid.drew (M : Mid w0 w G b z sa n sc wa m wc f o su wt) : Mid w0 w.drew G b z sa n sc wa m wc f o su wt := M.over ⟨rfl, rfl, rfl, Nat.le_refl _, fun _ _ => rfl⟩
/-- The field Sure is another list, which was made since. -/
theorem Mid.put (M : Mid w0 w G b z sa n sc wa m wc f o su wt) (h : Below w.heap.size w w') (hG : ∀ k, G k → k < w0.heap.size) {va : Option Addr} {vc : Nat} (hs : SRows w' (.slice va n vc) 9 1 (su'.map s1)) (hl : su'.length = n) (hv : ∀ x, (Value.slice va n vc).ownBlock = some x → w.heap.size ≤ x) :
    Mid w0 (w'.setCell ⟨b, 0, none⟩ (.slice va n vc)) G b z va n vc wa m wc f o su' wt := by
  have M' := M.over h
  have hfar : ∀ x, (Value.slice va n vc).ownBlock = some x → ¬ G x ∧ x ≠ b ∧ x ≠ z := fun x hx => by
    have h1 := hv x hx
    refine ⟨fun hg => ?_, fun e => ?_, fun e => ?_⟩
    · have := hG x hg; have := M.bel.size; omega
    · have := M.box.lt; omega
    · have := M.zero.lt; omega
  exact { M' with
    box := M'.box.set 0 _
    zero := M'.zero.other (fun e => M.ne e.symm) _
    sure := hs.setOther _ fun k hk => (hfar k hk).2.1
    wait := M'.wait.setOther _ fun k hk => (M.ownw k hk).2.1
    own := hfar
    bel := M'.bel.setCell M.abv.1 _
    len := hl }
end

set_option maxRecDepth 4000 in
set_option maxHeartbeats 4000000 in
theorem rsync_on {w : World} {G : Nat → Prop} {R : RH} {su : List (List UInt8)} {wt : List (Nat × List UInt8)} (r : RefIs w G R su wt) (hG : ∀ k, G k → k < w.heap.size) (s : St) (hz : -9223372036854775808 ≤ s.fuse ∧ s.fuse < 9223372036854775808) (hg : s.goes = true)
    (ha : ∀ x ∈ wt, x.1 < su.length) (hl : su.length ≤ 4096) (hlw : wt.length ≤ 1000000) :
    Calls Try.prog 23 #[.agg #[.slice R.sa su.length R.sc, .slice R.wa wt.length R.wc, .int .i64 s.fuse, .bool s.off]] w fun e w' => (∃ R', e = .returned (.tuple #[.agg #[.slice R'.sa su.length R'.sc, .slice none 0 0, .int .i64 s.burnt.fuse, .bool s.burnt.off], .int .i64 0]) ∧ RefIs w' G R' (lay su wt) [] ∧ R'.wa = none ∧ R'.wc = 0) ∧ Below w.heap.size w w' := by
  obtain ⟨n, hn⟩ : ∃ n, n = su.length := ⟨_, rfl⟩
  obtain ⟨m, hm⟩ : ∃ m, m = wt.length := ⟨_, rfl⟩
  obtain ⟨sa, sc, wa, wc⟩ := R
  simp only at r ⊢
  have cd := fun W => done_any sa n sc wa m wc s hz W
  rw [hg] at cd
  obtain ⟨f, hf⟩ : ∃ f, f = s.fuse := ⟨_, rfl⟩
  obtain ⟨o, ho⟩ : ∃ o, o = s.off := ⟨_, rfl⟩
  obtain ⟨f', hf'⟩ : ∃ f', f' = s.burnt.fuse := ⟨_, rfl⟩
  obtain ⟨o', ho'⟩ : ∃ o', o' = s.burnt.off := ⟨_, rfl⟩
  simp only [← hf, ← ho, ← hf', ← ho'] at cd ⊢
  have r1 := r.sure
  have r2 := r.wait
  have r3 := r.g1
  have r4 := r.g2
  simp only at r1 r2 r3 r4
  rw [← hn] at r1 r3 hl
  rw [← hm] at r2 r4 hlw
  rw [← hn, ← hm]
  have HN : Hid (n = su.length ∧ m = wt.length ∧ ∀ x ∈ wt, x.1 < n) := ⟨hn, hm, by rw [hn]; exact ha⟩
  clear hz hg hf ho hf' ho' hn hm r ha
  go_enter Try.func23, Try.ntmps23
  go_wp2_with fail
  refine (cd _).mono ?_
  rintro e w1 ⟨rfl, hb⟩
  obtain ⟨B0, B1, hB⟩ := two_box hb
  have hlt := B1.lt
  have M0 : Mid w (w1.alloc (.cells (rd sa n sc wa m wc f' o') 30)) G w1.heap.size (w.heap.size + 1) sa n sc wa m wc f' o' su wt :=
    { box := box_new _ _ _
      zero := B1.alloc _
      sure := r1.over (hB.alloc hB.size _)
      wait := r2.over (hB.alloc hB.size _)
      own := fun x hx => by have := r1.lt hx; exact ⟨r3 x hx, by omega, by omega⟩
      ownw := fun x hx => by have := r2.lt hx; exact ⟨r4 x hx, by omega, by omega⟩
      bel := hB.alloc hB.size _
      abv := ⟨by omega, by omega⟩
      ne := by omega
      len := HN.out.1.symm
      lenw := HN.out.2.1.symm }
  have HG : Hid (∀ k, G k → k < w.heap.size) := hG
  have HM0 : Hid (Mid w (w1.alloc (.cells (rd sa n sc wa m wc f' o') 30)) G w1.heap.size (w.heap.size + 1) sa n sc wa m wc f' o' su wt) := M0
  clear M0 B0 B1 hB hb cd r1 r2 r3 r4 hG
  go_wp2_with fail
  obtain ⟨b, hbb⟩ : ∃ b, b = w1.heap.size := ⟨_, rfl⟩
  obtain ⟨z, hzz⟩ : ∃ z, z = w.heap.size + 1 := ⟨_, rfl⟩
  obtain ⟨W, hW⟩ : ∃ W, W = w1.alloc (.cells (rd sa n sc wa m wc f' o') 30) := ⟨_, rfl⟩
  rw [← hbb, ← hzz, ← hW] at HM0
  show Code.wp _ _ _ _ (w1.alloc (.cells (rd sa n sc wa m wc f' o') 30))
  rw [← hbb, ← hzz, ← hW]
  clear hbb hzz hW hlt
  obtain ⟨sa0, hsa0⟩ : ∃ x, x = sa := ⟨_, rfl⟩
  obtain ⟨sc0, hsc0⟩ : ∃ x, x = sc := ⟨_, rfl⟩
  go_loopg [6] m (fun g s6 wx => ∃ (i : Nat) (sa : Option Addr) (sc : Nat), i + g = m ∧ s6 = .int .i64 i ∧ Mid w wx G b z sa n sc wa m wc f' o' (lay su (wt.take i)) wt)
  case atStart => exact ⟨0, sa, sc, by omega, rfl, by simpa [lay] using HM0.out⟩
  case round =>
    obtain ⟨i, sa, sc, hig, rfl, M⟩ := hrel
    clear HM0
    have p0 := M.box.cell 0 _ rfl
    have p1 := M.box.cell 1 _ rfl
    by_cases hi : i < m
    · have hiI : (i : Int) < (m : Int) := by omega
      obtain ⟨x, hx⟩ : ∃ x, wt[i]? = some x := ⟨_, List.getElem?_eq_getElem (by have := HN.out.2.1; omega)⟩
      have hwt := M.wait
      rw [HN.out.2.1] at hwt
      obtain ⟨g, rfl, e0, e1, hgl⟩ := w2_at hwt hx
      have hxa : x.1 < n := HN.out.2.2 x (List.mem_of_getElem? hx)
      have hxI : (x.1 : Int) < (n : Int) := by omega
      have cw := with_n (w := wr.drew) M.len M.drew.sure x.1 hxa hl x.2
      have hst := lay_take su wt i x hx
      have hr2 : IntKind.i64.wrap ((i : Int) + 1) = (i : Int) + 1 := by rw [IntKind.wrap_i64]; omega
      have f0 := M.box.frozen 0
      have hbl := M.box.lt
      have hne : g ≠ b := (M.ownw g rfl).2.1
      have HMM : Hid (Mid w wr G b z sa n sc (some ⟨g, 0, none⟩) m wc f' o' (lay su (wt.take i)) wt) := M
      have HST : Hid (lay su (wt.take (i + 1)) = (lay su (wt.take i)).set x.1 x.2) := hst
      obtain ⟨x1, hx1⟩ : ∃ x1, x1 = x.1 := ⟨_, rfl⟩
      obtain ⟨str, hstr⟩ : ∃ str, str = strB x.2 := ⟨_, rfl⟩
      rw [← hx1] at e0 hxI hxa cw
      rw [← hstr] at e1 cw
      have HX : Hid (x1 = x.1 ∧ str = strB x.2) := ⟨hx1, hstr⟩
      clear M hx hst hwt hx1 hstr
      go_wp2_with fail
      refine wp_region_held_then (fun w' => w'.cell? ⟨b, 0, none⟩ = some (.slice sa n sc) ∧ w'.cell? ⟨b, 1, none⟩ = some (.slice (some ⟨g, 0, none⟩) m wc) ∧ w'.cell? ⟨g, i * 2, none⟩ = some (.int .i64 x1) ∧ w'.cell? ⟨g, i * 2 + 1, none⟩ = some (.string str)) _ (by kernel_rfl) rfl (by kernel_rfl) ?_
      have hHeld : (fun w' : World => w'.cell? ⟨b, 0, none⟩ = some (.slice sa n sc) ∧ w'.cell? ⟨b, 1, none⟩ = some (.slice (some ⟨g, 0, none⟩) m wc) ∧ w'.cell? ⟨g, i * 2, none⟩ = some (.int .i64 x1) ∧ w'.cell? ⟨g, i * 2 + 1, none⟩ = some (.string str)) wr.drew := ⟨p0, p1, e0, e1⟩
      dsimp only [List.dropLast, List.length, List.getLast]
      ((refine takeL 0 (v := ?_) rfl (by kernel_rfl) (by kernel_rfl) (by kernel_rfl) (fun _ _ _ h => h) (by rfl) hHeld ?_ ?_; rotate_left; focus (intro w hSw; (try dsimp only at hSw); go_simp <;> with_reducible rfl); (try simp only [Act.put, List.setIfInBounds_toArray, List.set_cons_zero, List.set_cons_succ])); (refine takeL 1 (v := ?_) rfl (by kernel_rfl) (by kernel_rfl) (by kernel_rfl) (fun _ _ _ h => h) (by rfl) hHeld ?_ ?_; rotate_left; focus (intro w hSw; (try dsimp only at hSw); go_simp <;> with_reducible rfl); (try simp only [Act.put, List.setIfInBounds_toArray, List.set_cons_zero, List.set_cons_succ])); (refine takeL 2 (v := ?_) rfl (by kernel_rfl) (by kernel_rfl) (by kernel_rfl) (fun _ _ _ h => h) (by rfl) hHeld ?_ ?_; rotate_left; focus (intro w hSw; (try dsimp only at hSw); go_simp <;> with_reducible rfl); (try simp only [Act.put, List.setIfInBounds_toArray, List.set_cons_zero, List.set_cons_succ])); (refine takeL 3 (v := ?_) rfl (by kernel_rfl) (by kernel_rfl) (by kernel_rfl) (fun _ _ _ h => h) (by rfl) hHeld ?_ ?_; rotate_left; focus (intro w hSw; (try dsimp only at hSw); go_simp <;> with_reducible rfl); (try simp only [Act.put, List.setIfInBounds_toArray, List.set_cons_zero, List.set_cons_succ])); (refine takeL 4 (v := ?_) rfl (by kernel_rfl) (by kernel_rfl) (by kernel_rfl) (fun _ _ _ h => h) (by rfl) hHeld ?_ ?_; rotate_left; focus (intro w hSw; (try dsimp only at hSw); go_simp <;> with_reducible rfl); (try simp only [Act.put, List.setIfInBounds_toArray, List.set_cons_zero, List.set_cons_succ])); (refine takeL 5 (v := ?_) rfl (by kernel_rfl) (by kernel_rfl) (by kernel_rfl) (fun _ _ _ h => h) (by rfl) hHeld ?_ ?_; rotate_left; focus (intro w hSw; (try dsimp only at hSw); go_simp <;> with_reducible rfl); (try simp only [Act.put, List.setIfInBounds_toArray, List.set_cons_zero, List.set_cons_succ])); (refine takeL 6 (v := ?_) rfl (by kernel_rfl) (by kernel_rfl) (by kernel_rfl) (fun _ _ _ h => h) (by rfl) hHeld ?_ ?_; rotate_left; focus (intro w hSw; (try dsimp only at hSw); go_simp <;> with_reducible rfl); (try simp only [Act.put, List.setIfInBounds_toArray, List.set_cons_zero, List.set_cons_succ])); (refine takeL 7 (v := ?_) rfl (by kernel_rfl) (by kernel_rfl) (by kernel_rfl) (fun _ _ _ h => h) (by rfl) hHeld ?_ ?_; rotate_left; focus (intro w hSw; (try dsimp only at hSw); go_simp <;> with_reducible rfl); (try simp only [Act.put, List.setIfInBounds_toArray, List.set_cons_zero, List.set_cons_succ])); (refine takeL 8 (v := ?_) rfl (by kernel_rfl) (by kernel_rfl) (by kernel_rfl) (fun _ _ _ h => h) (by rfl) hHeld ?_ ?_; rotate_left; focus (intro w hSw; (try dsimp only at hSw); go_simp <;> with_reducible rfl); (try simp only [Act.put, List.setIfInBounds_toArray, List.set_cons_zero, List.set_cons_succ])); (refine takeL 9 (v := ?_) rfl (by kernel_rfl) (by kernel_rfl) (by kernel_rfl) (fun _ _ _ h => h) (by rfl) hHeld ?_ ?_; rotate_left; focus (intro w hSw; (try dsimp only at hSw); go_simp <;> with_reducible rfl); (try simp only [Act.put, List.setIfInBounds_toArray, List.set_cons_zero, List.set_cons_succ])); (refine takeL 10 (v := ?_) rfl (by kernel_rfl) (by kernel_rfl) (by kernel_rfl) (fun _ _ _ h => h) (by rfl) hHeld ?_ ?_; rotate_left; focus (intro w hSw; (try dsimp only at hSw); go_simp <;> with_reducible rfl); (try simp only [Act.put, List.setIfInBounds_toArray, List.set_cons_zero, List.set_cons_succ])); (refine takeL 11 (v := ?_) rfl (by kernel_rfl) (by kernel_rfl) (by kernel_rfl) (fun _ _ _ h => h) (by rfl) hHeld ?_ ?_; rotate_left; focus (intro w hSw; (try dsimp only at hSw); go_simp <;> with_reducible rfl); (try simp only [Act.put, List.setIfInBounds_toArray, List.set_cons_zero, List.set_cons_succ])); (refine takeL 12 (v := ?_) rfl (by kernel_rfl) (by kernel_rfl) (by kernel_rfl) (fun _ _ _ h => h) (by rfl) hHeld ?_ ?_; rotate_left; focus (intro w hSw; (try dsimp only at hSw); go_simp <;> with_reducible rfl); (try simp only [Act.put, List.setIfInBounds_toArray, List.set_cons_zero, List.set_cons_succ])); (refine takeL 13 (v := ?_) rfl (by kernel_rfl) (by kernel_rfl) (by kernel_rfl) (fun _ _ _ h => h) (by rfl) hHeld ?_ ?_; rotate_left; focus (intro w hSw; (try dsimp only at hSw); go_simp <;> with_reducible rfl); (try simp only [Act.put, List.setIfInBounds_toArray, List.set_cons_zero, List.set_cons_succ])))
      dsimp only [Act.put]
      simp only [List.setIfInBounds_toArray, List.set_cons_zero, List.set_cons_succ]
      refine callL 14 (f := 37) (vs := #[.slice sa n sc, .int .i64 x1, .string str]) rfl (by kernel_rfl) (by rfl) (by go_simp) ?_
      refine cw.mono ?_
      rintro e w2 ⟨⟨va, vc, rfl, hr2', hf2⟩, hb2⟩
      refine ⟨_, rfl, ?_⟩
      have M5 := HMM.out.drew.put hb2 HG.out hr2' (by rw [List.length_set]; exact HMM.out.len) hf2
      have HM5 : Hid (Mid w (w2.setCell ⟨b, 0, none⟩ (.slice va n vc)) G b z va n vc (some ⟨g, 0, none⟩) m wc f' o' ((lay su (wt.take i)).set x.1 x.2) wt) := by rw [← HX.out.1]; exact M5
      have p02 := (hb2.cell (p := ⟨b, 0, none⟩) hbl).trans p0
      have f02 := (hb2.frozen (p := ⟨b, 0, none⟩) hbl).trans f0
      have hHeld2 : (fun w' : World => w'.cell? ⟨b, 0, none⟩ = some (.slice sa n sc) ∧ w'.cell? ⟨b, 1, none⟩ = some (.slice (some ⟨g, 0, none⟩) m wc) ∧ w'.cell? ⟨g, i * 2, none⟩ = some (.int .i64 x1) ∧ w'.cell? ⟨g, i * 2 + 1, none⟩ = some (.string str)) w2 := ⟨p02, (hb2.cell (p := ⟨b, 1, none⟩) hbl).trans p1, (hb2.cell (p := ⟨g, i * 2, none⟩) hgl).trans e0, (hb2.cell (p := ⟨g, i * 2 + 1, none⟩) hgl).trans e1⟩
      refine ⟨hHeld2, ?_⟩
      clear M5 hr2' hf2
      ((refine takeL 15 (v := ?_) rfl (by kernel_rfl) (by kernel_rfl) (by kernel_rfl) (fun _ _ _ h => h) (by rfl) hHeld2 ?_ ?_; rotate_left; focus (intro w hSw; (try dsimp only at hSw); go_simp <;> with_reducible rfl); (try simp only [Act.put, List.setIfInBounds_toArray, List.set_cons_zero, List.set_cons_succ])))
      refine doneL (by kernel_rfl) ?_
      dsimp only [Act.put]
      simp only [List.setIfInBounds_toArray, List.set_cons_zero, List.set_cons_succ]
      unfold Oper.wp
      go_simp
      go_wp2
      go_roundg (m - (i + 1))
      case measure => clear hr2; omega
      case rel => exact ⟨i + 1, va, vc, by clear hr2; omega, by go_num, by rw [HST.out]; exact HM5.out⟩
    · have hiI : ¬ (i : Int) < (m : Int) := by omega
      have ht : wt.take i = wt := List.take_of_length_le (by have := HN.out.2.1; omega)
      rw [ht] at M
      have f1 := M.box.frozen 1
      have B4 : Box (wr.setCell ⟨b, 1, none⟩ (.slice none 0 0)) b 30 (rd sa n sc none 0 0 f' o') := M.box.set 1 (.slice none 0 0)
      have Z4 := M.zero.other (a := ⟨b, 1, none⟩) (fun e => M.ne e.symm) (.slice none 0 0)
      have F1 := Z4.setRow (rd sa n sc none 0 0 f' o')
      have hone := rd_one sa n sc none 0 0 f' o'
      have HMM : Hid (Mid w wr G b z sa n sc wa m wc f' o' (lay su wt) wt) := M
      clear M ht
      go_wp2_with (first
        | (refine wpList_load_row rfl 30 _ rfl b rfl 30 (rd sa n sc none 0 0 f' o') (0, 0) _ B4 Try.underlying30 rfl size_rd ?_)
        | (refine wpList_store_row rfl 30 _ _ rfl z (rd sa n sc none 0 0 f' o') rfl rfl 30 _ Z4 size_rd rfl hone ?_))
      have M := HMM.out
      refine bodyPost_ret (res_box_slot Try.results23 _ rfl F1 Try.underlying30 rfl size_rd _ rfl) rfl ⟨⟨⟨sa, sc, none, 0⟩, rfl, ⟨?_, srows_nil _ _ _, ?_, ?_⟩, rfl, rfl⟩, below_setRow (M.bel.setCell M.abv.1 _) M.abv.2 _⟩
      · have := (M.sure.setOther (a := ⟨b, 1, none⟩) (.slice none 0 0) fun k hk => (M.own k hk).2.1).rowOther (p := z) (rd sa n sc none 0 0 f' o') fun k hk => (M.own k hk).2.2
        simp only [M.len]
        exact this
      · simp only [M.len]
        exact fun k hk => (M.own k hk).1
      · intro k hk
        simp [Value.ownBlock] at hk
end Go.Proofs.Ytmgodahdljnbmaa
