/-
  The contract of a device's Spoil.
-/
import Derived.Test.YtmgodahdljnbmaaDDel
namespace Go.Proofs.Ytmgodahdljnbmaa
open Go.RowKit

/-- Of no writes none goes. -/
theorem del_nil (k bb : Nat) (w : World) (hc : w.cell? ⟨bb, 0, none⟩ = some (.int .i64 k)) (hb : bb < w.heap.size) :
    Calls Try.prog 33 #[.slice none 0 0, .func (.func 34) #[] #[.pointer (some ⟨bb, 0, none⟩)]] w fun e w' => e = .returned (.slice none 0 0) ∧ Below w.heap.size w w' := by
  have ci := index_any (wt := []) (g := none) (cap := 0) (srows_nil w 72 129) (by simp) (by simp) k bb hc hb
  go_enter Try.func33, Try.ntmps33
  go_wp2_with fail
  refine ci.mono ?_
  rintro e w1 ⟨⟨j0, hj0, _⟩, hb1⟩
  rcases hj0 with ⟨hj0, _⟩ | ⟨_, rfl⟩
  · simp at hj0
  · clear ci
    go_wp2_with fail
    go_ret
    exact ⟨rfl, hb1⟩
theorem del_any {w : World} {v : Value} {wt : List (Nat × List UInt8)} (hs : SRows w v 72 129 (wt.map wcells)) (h128 : ∀ x ∈ wt, x.2.length = 128) (hl6 : wt.length ≤ 1000000) (k bb : Nat) (hc : w.cell? ⟨bb, 0, none⟩ = some (.int .i64 k)) (hb : bb < w.heap.size) (hbg : v.ownBlock ≠ some bb) :
    Calls Try.prog 33 #[v, .func (.func 34) #[] #[.pointer (some ⟨bb, 0, none⟩)]] w fun e w' => ∃ v', e = .returned v' ∧ SRows w' v' 72 129 ((wt.filter fun y => y.1 != k).map wcells) ∧ (∀ x, v'.ownBlock = some x → v.ownBlock = some x) ∧ Kept (fun x => v.ownBlock = some x) w w' := by
  have hs0 := hs
  rcases hs with ⟨rfl, h0⟩ | ⟨g0, cap, rfl, _⟩
  · simp at h0
    subst h0
    refine (del_nil k bb w hc hb).mono ?_
    rintro e w' ⟨rfl, b⟩
    exact ⟨_, rfl, srows_nil _ _ _, fun _ h => h, kept_of_below _ b⟩
  · rw [List.length_map] at hs0 ⊢
    refine (del_some hs0 h128 hl6 k bb hc hb (fun e => hbg (by rw [e]; rfl))).mono ?_
    rintro e w' ⟨rfl, h1, h2⟩
    refine ⟨_, rfl, h1, fun x hx => hx, h2.mono (fun x hx => by rw [hx]; rfl)⟩
theorem SRows.shape {w : World} {v : Value} {t : TypeId} {sz : Nat} {R : List (List Value)} (h : SRows w v t sz R) : ∃ a n c, v = .slice a n c := by
  rcases h with ⟨rfl, _⟩ | ⟨g, cap, rfl, _⟩
  · exact ⟨_, _, _, rfl⟩
  · exact ⟨_, _, _, rfl⟩
theorem Raw.delete {w w' : World} {H : Hnd} {n : Nat} {su sn : List (List UInt8)} {wt wt' : List (Nat × List UInt8)} {f : Int} {o : Bool} (R : Raw w H n su sn wt f o) {F : Nat → Prop} (K : Kept F w w') (hF : ∀ x, F x → H.wv.ownBlock = some x) (v : Value) (hv : SRows w' v 72 129 (wt'.map wcells)) (ho : ∀ x, v.ownBlock = some x → H.wv.ownBlock = some x)
    (ha : ∀ x ∈ wt', x ∈ wt) (hf : wt'.length ≤ wt.length) : Raw (w'.setCell ⟨H.p, 2, none⟩ v) { H with wv := v } n su sn wt' f o := by
  have np : ∀ x, x = H.p ∨ x = H.bs ∨ x = H.bn → ¬ F x := fun x hx hf => by
    have := R.d4 x (hF x hf)
    rcases hx with e | e | e
    · exact this.1 e
    · exact this.2.1 e
    · exact this.2.2 e
  have dev' : w'.heap[H.p]? = _ := (K.block H.p (R.lt (.inl rfl)) (np _ (.inl rfl))).trans R.dev
  exact { R with
    dev := heap_setCell_same w' H.p 2 _ _ v dev'
    sure := (R.sure.kept K (np _ (.inr (.inl rfl)))).of_block (heap_setCell_other w' _ _ _ (fun e => R.d1 e.symm))
    seen := (R.seen.kept K (np _ (.inr (.inr rfl)))).of_block (heap_setCell_other w' _ _ _ (fun e => R.d2 e.symm))
    wait := hv.of_block fun k hk => heap_setCell_other w' _ _ _ (R.d4 k (ho k hk)).1
    d4 := fun k hk => R.d4 k (ho k hk)
    ats := fun x hx => R.ats x (ha x hx)
    few := Nat.le_trans hf R.few }

set_option maxRecDepth 4000 in
set_option maxHeartbeats 4000000 in
theorem spoil_on {w : World} {H : Hnd} {s : St} (D : DevIs w H s) (k : Nat) (str : ByteArray) (hk : k < s.sure.length) (hl : str.size = 128) :
    Calls Try.prog 21 #[.pointer (some ⟨H.p, 0, none⟩), .int .i64 k, .string str] w fun e w' => e = .returned (.int .i64 0) ∧ ∃ H', DevIs w' H' (s.spoilt k str.data.toList) ∧ Turned H H' w w' := by
  have D0 := D.below (below1 w (.cells #[.int .i64 (k : Int)] 3))
  have c := fits_any _ _ (k : Int) str _ D0.size
  have hd : decide ((0 ≤ (k : Int) ∧ (k : Int) < (s.sure.length : Int)) ∧ str.size = 128) = true := by simp; omega
  rw [hd] at c
  have hkI : (k : Int) < (s.sure.length : Int) := by omega
  obtain ⟨n, hn⟩ : ∃ n, n = s.sure.length := ⟨_, rfl⟩
  obtain ⟨cs, hcs⟩ : ∃ cs, cs = cellsS str := ⟨_, rfl⟩
  have hcl : cs.length = 128 := by rw [hcs, cellsS_len, hl]
  have hone : ∀ v ∈ cs, v.oneCell' = true := by
    rw [hcs]
    intro v hv
    simp only [cellsS, List.mem_map] at hv
    obtain ⟨x, _, rfl⟩ := hv
    rfl
  have hu := Try.underlying70
  have hi : Option.map (fun x => x.size) (Try.prog.info? 70) = some cs.length := by rw [hcl]; exact size_block
  obtain ⟨W0, hW0⟩ : ∃ W0, W0 = w.alloc (.cells #[.int .i64 (k : Int)] 3) := ⟨_, rfl⟩
  have R0 := D0.raw
  rw [← hn] at R0 hkI hk
  have hcell : W0.cell? ⟨w.heap.size, 0, none⟩ = some (.int .i64 k) := by rw [hW0]; exact (box_new w #[.int .i64 (k : Int)] 3).cell 0 _ rfl
  rw [← hW0] at R0
  have HN : Hid (n = s.sure.length ∧ W0 = w.alloc (.cells #[.int .i64 (k : Int)] 3) ∧ DevIs w H s ∧ cs = cellsS str) := ⟨hn, hW0, D, hcs⟩
  have q0 := R0.c0
  have th0 := R0.sure.there (i := k) (by rw [List.length_map, R0.l1]; exact hk)
  clear D0 hd
  go_enter Try.func21, Try.ntmps21
  go_wp2_with (go_at_call 29; refine c.mono ?_; rintro e w1 ⟨rfl, hw1⟩; replace hw1 := hw1.symm; subst hw1)
  rw [← hW0]
  clear c hW0 D hn hcs
  go_region_law
    ((refine step_copy_str rfl _ _ _ _ 5 rfl H.bs (k * 128) 128 128 str (by simp [Act.eval, Act.put]) (by simp [Act.eval, Act.put]) hl Try.underlying60 size_byte th0 ?_))
  all_goals
    have R1 : Raw (W0.drew.setCells H.bs (k * 128) (cellsS str)) H n (s.sure.set k str.data.toList) (lay s.sure s.wait) s.wait s.fuse s.off := R0.drew.setSure hk (by simpa using hl)
    obtain ⟨W1, hW1⟩ : ∃ W1, W1 = W0.drew.setCells H.bs (k * 128) (cellsS str) := ⟨_, rfl⟩
    have hltf : ∀ x, H.foot x → x < w.heap.size := fun x hx => HN.out.2.2.1.lt hx
    have nbs : w.heap.size ≠ H.bs := Nat.ne_of_gt (hltf _ (.inr (.inl rfl)))
    have nbn : w.heap.size ≠ H.bn := Nat.ne_of_gt (hltf _ (.inr (.inr (.inl rfl))))
    have npp : w.heap.size ≠ H.p := Nat.ne_of_gt (hltf _ (.inl rfl))
    have hcell1 : W1.cell? ⟨w.heap.size, 0, none⟩ = some (.int .i64 k) := by
      rw [hW1]
      exact (World.cell?_setCells_out _ _ _ _ _ (fun e _ => absurd e nbs)).trans hcell
    rw [← hW1] at R1 ⊢
    have p0 := R1.c0
    have p1 := R1.c1
    have b1 := R1.sure.range (i := k) (r := cs) (by rw [List.getElem?_map, List.getElem?_set_self (by rw [← HN.out.1]; exact hk), HN.out.2.2.2]; rfl)
    have th := R1.seen.there (i := k) (by rw [List.length_map, R1.l2]; exact hk)
    have d2 := R1.d2
    have d3 := R1.d3
    have K1 : Kept H.foot w W1 := by
      rw [hW1, HN.out.2.1]
      exact Kept.setCells (.inl (.inr (.inl rfl))) _ _ _ (((Kept.refl _ _).alloc _).drew)
    have HR1 : Hid (Raw W1 H n (s.sure.set k str.data.toList) (lay s.sure s.wait) s.wait s.fuse s.off ∧ Kept H.foot w W1 ∧ ∀ x, H.foot x → x < w.heap.size) := ⟨R1, K1, hltf⟩
    clear R1 hW1 K1 q0 th0 R0 hcell hltf
    go_wp2_with fail
    go_region_held3 (fun w' => w'.cell? ⟨H.p, 0, none⟩ = some (.slice (some ⟨H.bs, 0, none⟩) n n) ∧ w'.cell? ⟨H.p, 1, none⟩ = some (.slice (some ⟨H.bn, 0, none⟩) n n) ∧ w'.cell? ⟨w.heap.size, 0, none⟩ = some (.int .i64 k) ∧ w'.rangeAt H.bs (k * 128) cs ∧ w'.there H.bn (k * 128) 128)
      (first
        | exact ⟨p0, p1, hcell1, b1, th⟩
        | exact ⟨(World.cell?_setCells_out _ _ _ _ _ (fun e _ => absurd e d2)).trans p0, (World.cell?_setCells_out _ _ _ _ _ (fun e _ => absurd e d2)).trans p1, (World.cell?_setCells_out _ _ _ _ _ (fun e _ => absurd e nbn)).trans hcell1, World.rangeAt_setCells_apart ((World.rangeAt_drew _ _ _ _).2 b1) _ _ _ (.inl d3), World.there_setCells ((World.there_drew _ _ _ _).2 th) _ _ _⟩)
      (fail)
    all_goals
      have hcb : cs = bcells str.data.toList := HN.out.2.2.2
      have R2 : Raw (W1.drew.setCells H.bn (k * 128) cs) H n (s.sure.set k str.data.toList) ((lay s.sure s.wait).set k str.data.toList) s.wait s.fuse s.off := by
        rw [hcb]
        exact HR1.out.1.drew.setSeen hk (by simpa using hl)
      obtain ⟨W2, hW2⟩ : ∃ W2, W2 = W1.drew.setCells H.bn (k * 128) cs := ⟨_, rfl⟩
      have hcell2 : W2.cell? ⟨w.heap.size, 0, none⟩ = some (.int .i64 k) := by
        rw [hW2]
        exact (World.cell?_setCells_out _ _ _ _ _ (fun e _ => absurd e nbn)).trans hcell1
      have K2 : Kept H.foot w W2 := by
        rw [hW2]
        exact Kept.setCells (.inl (.inr (.inr (.inl rfl)))) _ _ _ HR1.out.2.1.drew
      rw [← hW2] at R2 ⊢
      have hszw : w.heap.size < W2.heap.size := by
        have h2 : W2.cell? ⟨w.heap.size, 0, none⟩ = some (.int .i64 k) := hcell2
        exact World.block_lt_of_cell? W2 ⟨w.heap.size, 0, none⟩ h2
      have cdel := del_any R2.wait (fun x hx => (R2.ats x hx).2) R2.few k w.heap.size hcell2 hszw (fun e => by have := HR1.out.2.2 _ (.inr (.inr (.inr e))); omega)
      have q2 := R2.c2
      have HR2 : Hid (Raw W2 H n (s.sure.set k str.data.toList) ((lay s.sure s.wait).set k str.data.toList) s.wait s.fuse s.off ∧ Kept H.foot w W2) := ⟨R2, K2⟩
      clear R2 K2 hW2 hcb hcell2
      go_wp2_with fail
      refine cdel.mono ?_
      rintro e w5 ⟨v', rfl, hv', ho', hk'⟩
      obtain ⟨va, vn, vc, hsh⟩ := hv'.shape
      subst hsh
      have R3 := HR2.out.1.delete hk' (fun x hx => hx) _ hv' ho' (fun x hx => (List.mem_filter.1 hx).1) (List.length_filter_le _ _)
      have np2 : ¬ (H.wv.ownBlock = some H.p) := fun e => (HR2.out.1.d4 _ e).1 rfl
      have hb5 := hk'.block H.p (HR2.out.1.lt (.inl rfl)) np2
      have r2 : w5.cell? ⟨H.p, 2, none⟩ = some H.wv := (World.cell?_of_block hb5).trans q2
      have r3 : w5.frozen? ⟨H.p, 2, none⟩ = false := (World.frozen?_of_block hb5).trans (HR2.out.1.fr 2)
      have HR3 : Hid (Raw (w5.setCell ⟨H.p, 2, none⟩ (.slice va vn vc)) { H with wv := .slice va vn vc } n (s.sure.set k str.data.toList) ((lay s.sure s.wait).set k str.data.toList) (s.wait.filter fun y => y.1 != k) s.fuse s.off ∧ (∀ x, (Value.slice va vn vc).ownBlock = some x → H.wv.ownBlock = some x) ∧ Kept (fun x => H.wv.ownBlock = some x) W2 w5) := ⟨R3, ho', hk'⟩
      clear cdel R3 hv' ho' hk' hb5 np2
      go_wp2_with fail
      go_ret
      obtain ⟨R3, ho', hk'⟩ := HR3.out
      refine ⟨rfl, { H with wv := .slice va vn vc }, R3.is (lay_set k _ s.wait s.sure).symm, rfl, ?_, ?_⟩
      · exact (HR2.out.2.trans hk' (fun x hx => .inl (.inr (.inr (.inr hx))))).setCell (p := ⟨H.p, 2, none⟩) (.inl (.inl rfl)) _
      · intro x hx
        rcases hx with rfl | rfl | rfl | hx
        · exact .inl (.inl rfl)
        · exact .inl (.inr (.inl rfl))
        · exact .inl (.inr (.inr (.inl rfl)))
        · exact .inl (.inr (.inr (.inr (ho' x hx))))
end Go.Proofs.Ytmgodahdljnbmaa
