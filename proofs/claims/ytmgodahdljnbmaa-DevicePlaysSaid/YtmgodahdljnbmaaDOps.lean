/-
  Write, Sync, Spoil, Crash and Fuse of both sides, whatever their arguments and the state are: the same state behind, and the same error.
-/
import Derived.Test.YtmgodahdljnbmaaDDoes
namespace Go.Proofs.Ytmgodahdljnbmaa
open Go.RowKit

def St.okAt (s : St) (at_ : Int) (str : ByteArray) : Prop := (0 ≤ at_ ∧ at_ < s.sure.length) ∧ str.size = 128
theorem okAt_nat {s : St} {at_ : Int} {str : ByteArray} (h : s.okAt at_ str) : ∃ k : Nat, at_ = (k : Int) ∧ k < s.sure.length ∧ str.size = 128 := ⟨at_.toNat, by have := h.1; omega, by have := h.1; omega, h.2⟩
/-- The state and the error behind a Write. -/
structure PutR (s : St) (at_ : Int) (str : ByteArray) (s' : St) (e : Int) : Prop where
  bad : ¬ s.okAt at_ str → s' = s ∧ e = 1
  off : s.okAt at_ str → s.goes = false → s' = s.burnt ∧ e = 40
  on : s.okAt at_ str → s.goes = true → s' = s.write at_.toNat str.data.toList ∧ e = 0
theorem putR_some (s : St) (at_ : Int) (str : ByteArray) : ∃ s' e, PutR s at_ str s' e := by
  by_cases h : s.okAt at_ str
  · cases hg : s.goes with
    | true => exact ⟨_, _, fun h' => absurd h h', fun _ h' => (by rw [hg] at h'; cases h'), fun _ _ => ⟨rfl, rfl⟩⟩
    | false => exact ⟨_, _, fun h' => absurd h h', fun _ _ => ⟨rfl, rfl⟩, fun _ h' => by rw [hg] at h'; cases h'⟩
  · exact ⟨_, _, fun _ => ⟨rfl, rfl⟩, fun h' => absurd h' h, fun h' => absurd h' h⟩
structure SyncR (s : St) (s' : St) (e : Int) : Prop where
  off : s.goes = false → s' = s.burnt ∧ e = 40
  on : s.goes = true → s' = s.synced ∧ e = 0
theorem syncR_some (s : St) : ∃ s' e, SyncR s s' e := by
  cases hg : s.goes with
  | true => exact ⟨_, _, fun h' => (by rw [hg] at h'; cases h'), fun _ => ⟨rfl, rfl⟩⟩
  | false => exact ⟨_, _, fun _ => ⟨rfl, rfl⟩, fun h' => by rw [hg] at h'; cases h'⟩
structure SpoilR (s : St) (at_ : Int) (str : ByteArray) (s' : St) (e : Int) : Prop where
  bad : ¬ s.okAt at_ str → s' = s ∧ e = 1
  on : s.okAt at_ str → s' = s.spoilt at_.toNat str.data.toList ∧ e = 0
theorem spoilR_some (s : St) (at_ : Int) (str : ByteArray) : ∃ s' e, SpoilR s at_ str s' e := by
  by_cases h : s.okAt at_ str
  · exact ⟨_, _, fun h' => absurd h h', fun _ => ⟨rfl, rfl⟩⟩
  · exact ⟨_, _, fun _ => ⟨rfl, rfl⟩, fun h' => absurd h' h⟩

/-- The document's device behind a call. -/
def RefAns (w : World) (G : Nat → Prop) (s' : St) (err : Int) (e : Ending) (w' : World) : Prop :=
  (∃ R', e = .returned (.tuple #[.agg #[.slice R'.sa s'.sure.length R'.sc, .slice R'.wa s'.wait.length R'.wc, .int .i64 s'.fz, .bool s'.off], .int .i64 err]) ∧ RefIs w' G R' s'.sure s'.wait) ∧ Below w.heap.size w w'
/-- The device behind a call. -/
def DevAns (w : World) (H : Hnd) (s' : St) (err : Int) (e : Ending) (w' : World) : Prop :=
  e = .returned (.int .i64 err) ∧ ∃ H', DevIs w' H' s' ∧ Turned H H' w w'
section
variable {w : World} {H : Hnd} {G : Nat → Prop} {R : RH} {s s' : St} {err : Int}
theorem rput_all (D : DevIs w H s) (r0 : RefIs w G R s.sure s.wait) (hG : ∀ k, G k → k < w.heap.size) (hl : s.wait.length < 900000) (at_ : Int) (str : ByteArray) (p : PutR s at_ str s' err) :
    Calls Try.prog 22 #[.agg #[.slice R.sa s.sure.length R.sc, .slice R.wa s.wait.length R.wc, .int .i64 s.fz, .bool s.off], .int .i64 at_, .string str] w (RefAns w G s' err) := by
  by_cases h : s.okAt at_ str
  · obtain ⟨k, rfl, hk, h8⟩ := okAt_nat h
    have hfb := fz_burnt s s.sure s.wait
    cases hg : s.goes with
    | false =>
      obtain ⟨rfl, rfl⟩ := p.off h hg
      have := put_off R.sa s.sure.length R.sc R.wa s.wait.length R.wc ⟨s.sure, s.wait, s.fz, s.off⟩ (fz_bound D) k hk str h8 (by rw [fz_goes]; exact hg) w
      rw [hfb.1, hfb.2] at this
      refine this.mono ?_
      rintro e w' ⟨rfl, b⟩
      exact ⟨⟨R, rfl, r0.below b⟩, b⟩
    | true =>
      obtain ⟨rfl, rfl⟩ := p.on h hg
      have := put_on R.sa s.sure.length R.sc R.wa R.wc s.wait ⟨s.sure, s.wait, s.fz, s.off⟩ (fz_bound D) k hk str.data.toList (by simpa using h8) (by rw [fz_goes]; exact hg) w r0.wait hl
      rw [hfb.1, hfb.2, strB_of] at this
      refine this.mono ?_
      rintro e w' ⟨⟨va, vc, rfl, h1, h2⟩, b⟩
      have r := r0.below b
      refine ⟨⟨⟨R.sa, R.sc, va, vc⟩, ?_, ⟨r.sure, ?_, r.g1, ?_⟩⟩, b⟩
      · simp [St.write]
        exact ⟨rfl, rfl⟩
      · simpa [St.write] using h1
      · intro x hx hf
        have h3 := h2 x (by simpa [St.write] using hx)
        have := hG x hf
        omega
  · obtain ⟨rfl, rfl⟩ := p.bad h
    refine (put_bad R.sa s'.sure.length R.sc R.wa s'.wait.length R.wc s'.fz s'.off at_ str w h).mono ?_
    rintro e w' ⟨rfl, b⟩
    exact ⟨⟨R, rfl, r0.below b⟩, b⟩
theorem dput_all (D : DevIs w H s) (hl : s.wait.length < 900000) (at_ : Int) (str : ByteArray) (p : PutR s at_ str s' err) :
    Calls Try.prog 12 #[.pointer (some ⟨H.p, 0, none⟩), .int .i64 at_, .string str] w (DevAns w H s' err) := by
  by_cases h : s.okAt at_ str
  · obtain ⟨k, rfl, hk, h8⟩ := okAt_nat h
    cases hg : s.goes with
    | false =>
      obtain ⟨rfl, rfl⟩ := p.off h hg
      refine (write_off D k str hk h8 hg).mono ?_
      rintro e w' ⟨rfl, D', T⟩
      exact ⟨rfl, H, D', T⟩
    | true =>
      obtain ⟨rfl, rfl⟩ := p.on h hg
      refine (write_on D k str hk h8 hg (by omega)).mono ?_
      rintro e w' ⟨rfl, H', D', T⟩
      exact ⟨rfl, H', D', T⟩
  · obtain ⟨rfl, rfl⟩ := p.bad h
    refine (write_bad _ _ at_ str w D.size h).mono ?_
    rintro e w' ⟨rfl, rfl⟩
    exact ⟨rfl, H, D, Turned.refl _ _⟩
theorem rsync_all (D : DevIs w H s) (r0 : RefIs w G R s.sure s.wait) (hG : ∀ k, G k → k < w.heap.size) (p : SyncR s s' err) :
    Calls Try.prog 23 #[.agg #[.slice R.sa s.sure.length R.sc, .slice R.wa s.wait.length R.wc, .int .i64 s.fz, .bool s.off]] w (RefAns w G s' err) := by
  have hfb := fz_burnt s s.sure s.wait
  cases hg : s.goes with
  | false =>
    obtain ⟨rfl, rfl⟩ := p.off hg
    have := rsync_off R.sa s.sure.length R.sc R.wa s.wait.length R.wc ⟨s.sure, s.wait, s.fz, s.off⟩ (fz_bound D) (by rw [fz_goes]; exact hg) w
    rw [hfb.1, hfb.2] at this
    refine this.mono ?_
    rintro e w' ⟨rfl, b⟩
    exact ⟨⟨R, rfl, r0.below b⟩, b⟩
  | true =>
    obtain ⟨rfl, rfl⟩ := p.on hg
    have := rsync_on r0 hG ⟨s.sure, s.wait, s.fz, s.off⟩ (fz_bound D) (by rw [fz_goes]; exact hg) (fun x hx => (D.ats x hx).1) D.top D.few
    rw [hfb.1, hfb.2] at this
    refine this.mono ?_
    rintro e w' ⟨⟨R', rfl, r, hwa, hwc⟩, b⟩
    refine ⟨⟨R', ?_, r⟩, b⟩
    show Ending.returned (.tuple #[.agg #[.slice R'.sa s.sure.length R'.sc, .slice none 0 0, .int .i64 s.burnt.fz, .bool s.burnt.off], .int .i64 0]) = .returned (.tuple #[.agg #[.slice R'.sa (lay s.sure s.wait).length R'.sc, .slice R'.wa 0 R'.wc, .int .i64 s.burnt.fz, .bool s.burnt.off], .int .i64 0])
    rw [lay_len, hwa, hwc]
theorem dsync_all (D : DevIs w H s) (p : SyncR s s' err) :
    Calls Try.prog 14 #[.pointer (some ⟨H.p, 0, none⟩)] w (DevAns w H s' err) := by
  cases hg : s.goes with
  | false =>
    obtain ⟨rfl, rfl⟩ := p.off hg
    refine (sync_off D hg).mono ?_
    rintro e w' ⟨rfl, D', T⟩
    exact ⟨rfl, H, D', T⟩
  | true =>
    obtain ⟨rfl, rfl⟩ := p.on hg
    refine (sync_on D hg).mono ?_
    rintro e w' ⟨rfl, H', D', T⟩
    exact ⟨rfl, H', D', T⟩
theorem rspoil_all (D : DevIs w H s) (r0 : RefIs w G R s.sure s.wait) (hG : ∀ k, G k → k < w.heap.size) (at_ : Int) (str : ByteArray) (p : SpoilR s at_ str s' err) :
    Calls Try.prog 26 #[.agg #[.slice R.sa s.sure.length R.sc, .slice R.wa s.wait.length R.wc, .int .i64 s.fz, .bool s.off], .int .i64 at_, .string str] w (RefAns w G s' err) := by
  by_cases h : s.okAt at_ str
  · obtain ⟨k, rfl, hk, h8⟩ := okAt_nat h
    obtain ⟨rfl, rfl⟩ := p.on h
    have := rspoil_on r0 hG s.fz s.off k hk str.data.toList (by simpa using h8) D.top D.few
    rw [strB_of] at this
    refine this.mono ?_
    rintro e w' ⟨⟨R', rfl, r⟩, b⟩
    refine ⟨⟨R', ?_, r⟩, b⟩
    show _ = Ending.returned (.tuple #[.agg #[.slice R'.sa (s.sure.set k str.data.toList).length R'.sc, .slice R'.wa (s.wait.filter fun x => x.1 != k).length R'.wc, .int .i64 s.fz, .bool s.off], .int .i64 0])
    rw [List.length_set]
  · obtain ⟨rfl, rfl⟩ := p.bad h
    refine (rspoil_bad R.sa s'.sure.length R.sc R.wa s'.wait.length R.wc s'.fz s'.off at_ str w h).mono ?_
    rintro e w' ⟨rfl, b⟩
    exact ⟨⟨R, rfl, r0.below b⟩, b⟩
theorem dspoil_all (D : DevIs w H s) (at_ : Int) (str : ByteArray) (p : SpoilR s at_ str s' err) :
    Calls Try.prog 21 #[.pointer (some ⟨H.p, 0, none⟩), .int .i64 at_, .string str] w (DevAns w H s' err) := by
  by_cases h : s.okAt at_ str
  · obtain ⟨k, rfl, hk, h8⟩ := okAt_nat h
    obtain ⟨rfl, rfl⟩ := p.on h
    refine (spoil_on D k str hk h8).mono ?_
    rintro e w' ⟨rfl, H', D', T⟩
    exact ⟨rfl, H', D', T⟩
  · obtain ⟨rfl, rfl⟩ := p.bad h
    refine (spoil_bad _ _ at_ str w (D.below (below1 w _)).size h).mono ?_
    rintro e w' ⟨rfl, b⟩
    exact ⟨rfl, H, D.below b, Turned.of_below (Turned.refl _ _) b⟩
theorem rcrash_all (D : DevIs w H s) (r0 : RefIs w G R s.sure s.wait) (hG : ∀ k, G k → k < w.heap.size) (v : Value) (l : List (BitVec 64)) (hv : ReadsI w v l) (hll : l.length ≤ maxLen) :
    Calls Try.prog 25 #[.agg #[.slice R.sa s.sure.length R.sc, .slice R.wa s.wait.length R.wc, .int .i64 s.fz, .bool s.off], v] w fun e w' => (∃ R', e = .returned (.agg #[.slice R'.sa (s.crashed (among l)).sure.length R'.sc, .slice R'.wa (s.crashed (among l)).wait.length R'.wc, .int .i64 (s.crashed (among l)).fz, .bool (s.crashed (among l)).off]) ∧ RefIs w' G R' (s.crashed (among l)).sure (s.crashed (among l)).wait) ∧ Below w.heap.size w w' := by
  refine (rcrash_any r0 hG s.fz s.off v l hv hll (fun x hx => (D.ats x hx).1) D.top D.few).mono ?_
  rintro e w' ⟨⟨R', rfl, r, hwa, hwc⟩, b⟩
  refine ⟨⟨R', ?_, r⟩, b⟩
  show Ending.returned (.agg #[.slice R'.sa s.sure.length R'.sc, .slice none 0 0, .int .i64 (-1), .bool false]) = .returned (.agg #[.slice R'.sa (lay s.sure (keepW (among l) 0 s.wait)).length R'.sc, .slice R'.wa 0 R'.wc, .int .i64 (-1), .bool false])
  rw [lay_len, hwa, hwc]
/-- The end of does, where the result was laid into the block z. -/
theorem does_end {w w2 W3 w4 : World} {H' : Hnd} {z : Nat} (r : RefIs w2 G R s'.sure s'.wait) (b23 : Below w2.heap.size w2 W3) (bw : Below w.heap.size w W3) (D : DevIs w4 H' s') (T : Turned H H' W3 w4) (hG : ∀ k, H.foot k → G k) (hz : G z) (hzw : w.heap.size ≤ z) (hz3 : z < W3.heap.size) (hHz : ¬ H.foot z) (x y u v : Value) :
    Both ((((w4.setCell ⟨z, 0, none⟩ x).setCell ⟨z, 1, none⟩ y).setCell ⟨z, 2, none⟩ u).setCell ⟨z, 3, none⟩ v) H' R s' ∧ Turned H H' w ((((w4.setCell ⟨z, 0, none⟩ x).setCell ⟨z, 1, none⟩ y).setCell ⟨z, 2, none⟩ u).setCell ⟨z, 3, none⟩ v) := by
  have r2 : RefIs w2 H'.foot R s'.sure s'.wait := r.grow (fun k hk h hf => by
    rcases T.foot k hf with h1 | h1
    · exact h (hG k h1)
    · have := b23.size; omega)
  have hzf : ¬ H'.foot z := fun hf => by
    rcases T.foot z hf with h1 | h1
    · exact hHz h1
    · omega
  have k4 := kept_four (F := fun k => k = z) (Kept.refl _ w4) (.inl rfl) x y u v
  have r5 := ((r.below b23).kept T.kept (fun x h hf => h (hG x hf))).kept k4 (fun k h e => h (by rw [e]; exact hz))
  refine ⟨⟨D.kept k4 (fun k hk e => hzf (by rw [← e]; exact hk)), ⟨r5.sure, r5.wait, r2.g1, r2.g2⟩⟩, T.p, ?_, ?_⟩
  · exact kept_four ((kept_of_below H.foot bw).trans T.kept (fun _ h => .inl h)) (.inr hzw) x y u v
  · intro k hk
    rcases T.foot k hk with h1 | h1
    · exact .inl h1
    · exact .inr (Nat.le_trans bw.size h1)
end
end Go.Proofs.Ytmgodahdljnbmaa
