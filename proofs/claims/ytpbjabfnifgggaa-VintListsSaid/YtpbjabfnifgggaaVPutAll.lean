/-
  The contracts of package vint's PutAll and of package peristyleref02's.
-/
import Derived.Test.YtpbjabfnifgggaaVAll
import Derived.Test.YtpbjabfnifgggaaVSame
import Derived.Test.YtpbjabfnifgggaaVRefPut
namespace Go.Proofs.Ytpbjabfnifgggaa
open Go.RowKit Leb

set_option maxHeartbeats 400000 in
theorem putAll_any (v : Value) (l : List (BitVec 64)) (w : World) (hl : l.length ≤ 1000) (hr : ReadsI w v l) :
    Calls Try.prog 13 #[v] w fun e w' => e = .returned (.string (str (encAll l))) ∧ Below w.heap.size w w' := by
  obtain ⟨x, hx⟩ : ∃ x, x = BitVec.ofNat 64 l.length := ⟨_, rfl⟩
  have hxi : ((l.length : Nat) : Int) = x.toInt := by rw [hx, Wd.toInt_of_small _ (by omega)]
  have hl1 := (lenW_bd (zigW x)).2
  have hp := leb_pos (zigW x).toNat
  have he : encAll l = enc1 x ++ encs l := by rw [encAll, hx]
  have hel := encs_len l
  have hfirst : ∀ w0 : World, Calls Try.prog 18 #[.slice none 0 0, .slice (some ⟨w0.heap.size, 0, none⟩) 1 1] (w0.alloc (.cells #[.int .i64 x.toInt] 3)) fun e w' => (∃ v', e = .returned v' ∧ OwnsB w' (w0.heap.size + 1) v' (enc1 x)) ∧ Below (w0.heap.size + 1) (w0.alloc (.cells #[.int .i64 x.toInt] 3)) w' := by
    intro w0
    refine (put_some (w0.heap.size + 1) _ [] w0.heap.size 0 1 [x] _ (ownsB_nil _ _) (by simp) (by simp) ?_ (by simp)).mono ?_
    · intro i hi
      obtain rfl : i = 0 := by simpa using hi
      simp
    · rintro e w1 ⟨⟨v1, rfl, hown⟩, hb⟩
      exact ⟨⟨v1, rfl, by simpa [encs] using hown⟩, hb⟩
  have HE : Hid (encAll l = enc1 x ++ encs l) := he
  clear he
  rcases hr with ⟨rfl, a, c, rfl⟩ | ⟨b, off, c, rfl, hne, hbw, hc⟩
  · have h0 : (0 : Int) = x.toInt := by simpa using hxi
    have HX : Hid ((0 : Int) = x.toInt) := h0
    have hfirst0 : ∀ w0 : World, Calls Try.prog 18 #[.slice none 0 0, .slice (some ⟨w0.heap.size, 0, none⟩) 1 1] (w0.alloc (.cells #[.int .i64 0] 3)) fun e w' => (∃ v', e = .returned v' ∧ OwnsB w' (w0.heap.size + 1) v' (enc1 x)) ∧ Below (w0.heap.size + 1) (w0.alloc (.cells #[.int .i64 0] 3)) w' := by rw [h0]; exact hfirst
    clear hxi h0 hx hfirst hel hl
    go_enter Try.func13, Try.ntmps13
    go_wp2_with fail
    refine (hfirst0 _).mono ?_
    rintro e w1 ⟨⟨v1, rfl, hown⟩, hb⟩
    have hcv := convert_own hown (show 1 ≤ (enc1 x).length from hp)
    go_wp2_with (go_at_call 18; refine (put_none _ _ _ _).mono ?_; rintro e w2 ⟨rfl, rfl⟩)
    go_ret
    refine ⟨?_, ((Below.refl _ _).alloc (Nat.le_refl _) _).trans (hb.mono (by omega))⟩
    rw [HE.out]
    simp [encs, str]
  · obtain ⟨m, hm⟩ : ∃ m, m = l.length := ⟨_, rfl⟩
    rw [← hm] at hxi
    have HM : Hid (m = l.length) := hm
    have hsecond : ∀ (v1 : Value) (w1 : World), OwnsB w1 (w.heap.size + 1) v1 (enc1 x) → Below (w.heap.size + 1) (w.alloc (.cells #[.int .i64 x.toInt] 3)) w1 → Calls Try.prog 18 #[v1, .slice (some ⟨b, off, none⟩) m c] w1 fun e w' => (∃ v', e = .returned v' ∧ OwnsB w' (w.heap.size + 1) v' (enc1 x ++ encs l)) ∧ Below (w.heap.size + 1) w1 w' := by
      intro v1 w1 hown hb
      rw [hm]
      have hs := hb.size
      refine put_some (w.heap.size + 1) v1 (enc1 x) b off c l w1 hown (by simpa using hs) (by omega) (fun i hi => ?_) (by rw [enc1_len]; omega)
      have h1 := hb.cell (p := ⟨b, off + i, none⟩) (show b < w.heap.size + 1 by omega)
      rw [h1, ((Below.refl w.heap.size w).alloc (Nat.le_refl _) _).cell (p := ⟨b, off + i, none⟩) hbw]
      exact hc i hi
    rw [← hm]
    clear hx hc hel hm
    go_enter Try.func13, Try.ntmps13
    go_wp2_with fail
    refine (hfirst _).mono ?_
    rintro e w1 ⟨⟨v1, rfl, hown⟩, hb⟩
    go_wp2_with fail
    refine (hsecond _ _ hown hb).mono ?_
    rintro e w2 ⟨⟨v2, rfl, hown2⟩, hb2⟩
    have hcv := convert_own hown2 (by rw [List.length_append]; have : 1 ≤ (enc1 x).length := hp; omega)
    clear hfirst hsecond
    go_wp2
    go_ret
    refine ⟨?_, (((Below.refl _ _).alloc (Nat.le_refl _) _).trans (hb.mono (by omega))).trans (hb2.mono (by omega))⟩
    rw [HE.out]
    rfl
end Go.Proofs.Ytpbjabfnifgggaa
