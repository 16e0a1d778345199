/-
  The contract of a device's Sync.
-/
import Derived.Test.YtmgodahdljnbmaaDRaw
namespace Go.Proofs.Ytmgodahdljnbmaa
open Go.RowKit

theorem sync_none (d : Value) (w : World) (hs : SizeIs d 0 w) :
    Calls Try.prog 14 #[d] w fun e w' => e = .returned (.int .i64 1) ∧ w' = w := by
  have c := given_any d 0 w hs
  have hd : decide (0 < 0) = false := by simp
  rw [hd] at c
  go_enter Try.func14, Try.ntmps14
  go_wp2_with (go_at_call 31; refine c.mono ?_; rintro e w1 ⟨rfl, hw1⟩; replace hw1 := hw1.symm; subst hw1)
  go_ret
  exact ⟨rfl, rfl⟩
theorem sync_off {w : World} {H : Hnd} {s : St} (D : DevIs w H s) (hg : s.goes = false) :
    Calls Try.prog 14 #[.pointer (some ⟨H.p, 0, none⟩)] w fun e w' => e = .returned (.int .i64 40) ∧ DevIs w' H s.burnt ∧ Turned H H w w' := by
  have c := given_any _ _ w D.size
  have hp := D.pos
  have hd : decide (0 < s.sure.length) = true := by simp; omega
  rw [hd] at c
  have c2 := goesOn_any D
  rw [hg] at c2
  go_enter Try.func14, Try.ntmps14
  go_wp2_with (first
    | (go_at_call 31; refine c.mono ?_; rintro e w1 ⟨rfl, hw1⟩; replace hw1 := hw1.symm; subst hw1)
    | (go_at_call 30; refine c2.mono ?_; rintro e w1 ⟨rfl, D1, T1⟩))
  go_ret
  exact ⟨rfl, D1, T1⟩
theorem lay_take (su : List (List UInt8)) (wt : List (Nat × List UInt8)) (k : Nat) (x : Nat × List UInt8) (hx : wt[k]? = some x) : lay su (wt.take (k + 1)) = (lay su (wt.take k)).set x.1 x.2 := by
  rw [List.take_add_one, hx]
  exact lay_snoc _ _ _

set_option maxRecDepth 4000 in
set_option maxHeartbeats 2000000 in
theorem sync_on {w : World} {H : Hnd} {s : St} (D : DevIs w H s) (hg : s.goes = true) :
    Calls Try.prog 14 #[.pointer (some ⟨H.p, 0, none⟩)] w fun e w' => e = .returned (.int .i64 0) ∧ ∃ H', DevIs w' H' s.synced ∧ Turned H H' w w' := by
  have c := given_any _ _ w D.size
  have hp := D.pos
  have hd : decide (0 < s.sure.length) = true := by simp; omega
  rw [hd] at c
  have c2 := goesOn_any D
  rw [hg] at c2
  have hz := zero_write
  obtain ⟨gg, cap, hwv⟩ := D.raw.wv
  have hu := Try.underlying70
  have hi := size_block
  clear hg hd
  go_enter Try.func14, Try.ntmps14
  go_wp2_with (first
    | (go_at_call 31; refine c.mono ?_; rintro e w1 ⟨rfl, hw1⟩; replace hw1 := hw1.symm; subst hw1)
    | (go_at_call 30; refine c2.mono ?_; rintro e w1 ⟨rfl, D1, T1⟩; have q2 := D1.c2; rw [hwv] at q2; obtain ⟨n, hn⟩ : ∃ n, n = s.sure.length := ⟨_, rfl⟩; obtain ⟨m, hm⟩ : ∃ m, m = s.wait.length := ⟨_, rfl⟩; have R1 : Raw w1 H n s.sure (lay s.sure s.wait) s.wait s.burnt.fuse s.burnt.off := (hn ▸ D1.raw : _)))
  go_loopg [4, 16, 17, 18, 19, 20, 21, 22, 23, 24, 25, 26, 27, 28, 29] m (fun g s4 s16 s17 s18 s19 s20 s21 s22 s23 s24 s25 s26 s27 s28 s29 wx => ∃ k : Nat, k + g = m ∧ s16 = .int .i64 k ∧ Raw wx H n (lay s.sure (s.wait.take k)) (lay s.sure s.wait) s.wait s.burnt.fuse s.burnt.off ∧ Kept H.foot w1 wx)
  case atStart => exact ⟨0, by omega, rfl, by simpa [lay] using R1, Kept.refl _ _⟩
  case round =>
    obtain ⟨k, hkg, rfl, R, K⟩ := hrel
    by_cases hk : k < m
    · have hkI : (k : Int) < (s.wait.length : Int) := by omega
      obtain ⟨x, hx⟩ : ∃ x, s.wait[k]? = some x := ⟨_, List.getElem?_eq_getElem (by omega)⟩
      obtain ⟨g, cap', hv, hrange⟩ := R.at_ hx
      rw [hwv] at hv
      simp only [Value.slice.injEq, true_and] at hv
      obtain ⟨rfl, rfl⟩ := hv
      obtain ⟨hxa, hxl⟩ := R.ats x (List.mem_of_getElem? hx)
      have RA := R.alloc (.cells (wArr x) 72)
      have p0 := RA.c0
      obtain ⟨b0, b1⟩ := wArr_cell (heap_alloc_last wr (.cells (wArr x) 72))
      have th := RA.sure.there (i := x.1) (by rw [List.length_map, lay_len, ← hn]; exact hxa)
      obtain ⟨cs, hcs⟩ : ∃ cs, cs = bcells x.2 := ⟨_, rfl⟩
      rw [← hcs] at b1
      have hcl : cs.length = 128 := by rw [hcs, bcells_len, hxl]
      have hone : ∀ v ∈ cs, v.oneCell' = true := by rw [hcs]; exact bcells_one _
      have hi : Option.map (fun x => x.size) (Try.prog.info? 70) = some cs.length := by rw [hcl]; exact size_block
      have hws := wArr_size hxl
      have d1 := R.d1
      have nB : wr.heap.size ≠ H.bs := Nat.ne_of_gt (R.lt (.inr (.inl rfl)))
      have hxI : (x.1 : Int) < (n : Int) := by omega
      have hr2 : IntKind.i64.wrap ((k : Int) + 1) = (k : Int) + 1 := by have := R.few; rw [IntKind.wrap_i64]; omega
      have hwl : some (wcells x).length = some 129 := by simp [wcells, bcells_len, hxl]
      have HR : Hid (Raw (wr.alloc (.cells (wArr x) 72)) H n (lay s.sure (s.wait.take k)) (lay s.sure s.wait) s.wait s.burnt.fuse s.burnt.off ∧ Kept H.foot w1 wr ∧ cs = bcells x.2 ∧ s.wait[k]? = some x ∧ x.2.length = 128) := ⟨RA, K, hcs, hx, hxl⟩
      have HM : Hid (m = s.wait.length) := hm
      clear RA K hcs hx hxl R R1 D1 T1 c c2 D hm hn q2
      go_wp2_with (first
        | (refine wpList_load_mid rfl 72 _ rfl g (k * 129) rfl (wcells x) _ hrange Try.underlying72 rfl (size_write.trans hwl.symm) ?_)
        | (refine alloc_wide hz rfl rfl ?_)
        | (refine store_wide size_write _ _ _ zw (wArr x) wr rfl rfl rfl rfl rfl rfl zw_size hws (wArr_one x) ?_))
      go_region_held3 (fun w' => w'.cell? ⟨H.p, 0, none⟩ = some (.slice (some ⟨H.bs, 0, none⟩) n n) ∧ w'.cell? ⟨wr.heap.size, 0, none⟩ = some (.int .i64 x.1) ∧ w'.rangeAt wr.heap.size 1 cs ∧ w'.there H.bs (x.1 * 128) 128)
        (first
          | exact ⟨p0, b0, b1, th⟩
          | exact ⟨(World.cell?_setCells_out _ _ _ _ _ (fun e _ => absurd e d1)).trans p0, (World.cell?_setCells_out _ _ _ _ _ (fun e _ => absurd e nB)).trans b0, World.rangeAt_setCells_apart ((World.rangeAt_drew _ _ _ _).2 b1) _ _ _ (.inl nB), World.there_setCells ((World.there_drew _ _ _ _).2 th) _ _ _⟩)
        (fail)
      all_goals go_wp2
      go_roundg (m - (k + 1))
      case measure => omega
      case rel =>
        obtain ⟨RA, K, hcs, hx, hxl⟩ := HR.out
        refine ⟨k + 1, by omega, by go_num, ?_, ?_⟩
        · rw [lay_take _ _ _ _ hx, hcs]
          exact RA.drew.setSure hxa hxl
        · exact Kept.setCells (.inl (.inr (.inl rfl))) _ _ _ (K.alloc _).drew
    · have hkI : ¬ (k : Int) < (s.wait.length : Int) := by omega
      obtain rfl : k = m := by omega
      rw [hm, List.take_length] at R
      have R2 := R.setNone
      have q1 := R.c2
      have q3 := R.fr 2
      have DD := R2.is rfl
      have K2 := K.setCell (p := ⟨H.p, 2, none⟩) (.inl (.inl rfl)) (.slice none 0 0)
      have TT : Turned H { H with wv := .slice none 0 0 } w1 (wr.setCell ⟨H.p, 2, none⟩ (.slice none 0 0)) := ⟨rfl, K2, fun x hx => by
        rcases hx with rfl | rfl | rfl | hx
        · exact .inl (.inl rfl)
        · exact .inl (.inr (.inl rfl))
        · exact .inl (.inr (.inr (.inl rfl)))
        · simp [Value.ownBlock] at hx⟩
      have HR : Hid (Turned H { H with wv := .slice none 0 0 } w (wr.setCell ⟨H.p, 2, none⟩ (.slice none 0 0))) := T1.trans TT
      clear R R2 K K2 R1 c c2 D1 T1 D TT
      go_wp2
      go_ret
      exact ⟨rfl, _, DD, HR.out⟩
end Go.Proofs.Ytmgodahdljnbmaa
