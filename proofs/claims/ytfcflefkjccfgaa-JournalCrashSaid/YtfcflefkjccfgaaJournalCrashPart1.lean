/-
  1 texts, one behind the other: WJournalCrash.
-/
import Derived.Test.YtfcflefkjccfgaaJoin5
/-
  The walk of law JournalCrash: it answers true, whatever is added, whenever the power goes, whatever survives.
-/
namespace Go.Proofs.Ytfcflefkjccfgaa
open Go.RowKit Leb

/-- An Add of law 23's, with what it leaves beside the journal. -/
def JSAddT (w : World) (B : Nat) (J : Jh) (s : St) (turn : BitVec 64) (u : Nat) (out : List (List UInt8)) (t : List UInt8) (e : Ending) (w' : World) : Prop :=
  ∃ J' s', JTurned J J' w w' ∧ (∀ k, J'.foot k → B ≤ k) ∧ ((e = .returned (.int .i64 0) ∧ JS w' B J' s' turn (u + needs t.length) (out ++ [t])) ∨
    (e = .returned (.int .i64 40) ∧ Jnl w' J' s' 3 40 turn u out ∧ s'.sure = s.sure ∧ ∃ k, s'.wait = (wrs (3 + u) (blkLs turn u t)).take k))
theorem js_addT {w : World} {B : Nat} {J : Jh} {s : St} {turn : BitVec 64} {u : Nat} {out : List (List UInt8)} (h : JS w B J s turn u out) (hB : B ≤ w.heap.size) (t : List UInt8) (h1 : 1 ≤ t.length) (h2 : t.length ≤ 8192) (hr : u + needs t.length ≤ 40) :
    Calls Try.prog 21 #[.pointer (some ⟨J.p, 0, none⟩), .string (strB t)] w (JSAddT w B J s turn u out t) := by
  refine (jadd_on h.jnl (by rw [h.n50]; omega) (by rw [h.n50]; omega) (by rw [h.wait]; simp) (by have := h.few; omega) t h1 h2 hr).mono ?_
  rintro e w' ⟨J', s', n, hp, rfl, hT, hc⟩
  obtain ⟨hb, ho⟩ := hT.low h.own hB
  refine ⟨J', s', hT, ho, ?_⟩
  have hsp := putAll_spec (blkLs turn u t) s (3 + u)
  rw [hp] at hsp
  simp only [h.wait, List.nil_append] at hsp
  rcases hc with ⟨rfl, hj⟩ | ⟨rfl, hj⟩
  · left
    rcases hsp with ⟨_, e2, e3, e4⟩ | ⟨e1, _⟩
    · refine ⟨rfl, ⟨hj, ho, ?_, e3, e4, ?_⟩⟩
      · rw [e2]; exact h.jst.add h1 h2 hr
      · rw [e2, lay_len]; exact h.n50
    · cases e1
  · right
    rcases hsp with ⟨e1, _⟩ | ⟨_, e2, k, e3⟩
    · cases e1
    · exact ⟨rfl, hj, e2, k, e3⟩
theorem owns_slice {w : World} {B : Nat} {v : Value} {l : List ByteArray} (h : OwnsS w B v l) : ∃ a n c, v = .slice a n c := by
  rcases h.reads with ⟨_, a, c, rfl⟩ | ⟨b, off, c, rfl, _⟩
  · exact ⟨_, _, _, rfl⟩
  · exact ⟨_, _, _, rfl⟩
theorem owns_len {w : World} {B : Nat} {a : Option Addr} {n c : Nat} {l : List ByteArray} (h : OwnsS w B (.slice a n c) l) : n = l.length := by
  rcases h.reads with ⟨h1, a', c', h2⟩ | ⟨b, off, c', h2, _⟩
  · simp only [Value.slice.injEq] at h2; rw [h1]; exact h2.2.1
  · simp only [Value.slice.injEq] at h2; exact h2.2.1
/-- What stays while records are added. -/
structure Cr (w wx : World) (hp p : Nat) (J : Jh) (s : St) (u : Nat) (out : List (List UInt8)) (v : Value) : Prop where
  js : JS wx w.heap.size J s 5#64 u out
  jp : J.p = p
  hp : J.H.p = hp
  own : OwnsS wx 0 v (bks out)
  nv : ∀ k, v.ownBlock = some k → ¬ J.foot k ∧ w.heap.size ≤ k
  bel : Below w.heap.size w wx
theorem Cr.over {w w1 w2 : World} {hp p : Nat} {J : Jh} {s : St} {u : Nat} {out : List (List UInt8)} {v : Value} (o : Cr w w1 hp p J s u out v) (b : Below w1.heap.size w1 w2) : Cr w w2 hp p J s u out v :=
  ⟨o.js.over b, o.jp, o.hp, o.own.below b, o.nv, o.bel.trans (b.mono o.bel.size)⟩
/-- What is so ahead of the crash. -/
structure CrE (w wx : World) (hp : Nat) (H : Hnd) (s : St) (u : Nat) (out : List (List UInt8)) (t : List UInt8) (v : Value) : Prop where
  dev : DevIs wx H s
  hp : H.p = hp
  foot : ∀ k, H.foot k → w.heap.size ≤ k
  jst : Jst s.sure 3 40 5#64 out u
  t0 : 1 ≤ t.length
  t1 : t.length ≤ 8192
  ws : ∀ x ∈ s.wait, x ∈ wrs (3 + u) (blkLs 5#64 u t)
  n50 : s.sure.length = 50
  few : out.length ≤ 40
  own : OwnsS wx 0 v (bks out)
  nv : ∀ k, v.ownBlock = some k → ¬ H.foot k ∧ w.heap.size ≤ k
  bel : Below w.heap.size w wx
theorem Cr.stop {w wx : World} {hp p : Nat} {J : Jh} {s : St} {u : Nat} {out : List (List UInt8)} {v : Value} (o : Cr w wx hp p J s u out v) : CrE w wx hp J.H s u out [0] v :=
  ⟨o.js.jnl.dev, o.hp, fun k hk => o.js.own k (.inl hk), o.js.jst, by simp, by simp, by rw [o.js.wait]; simp, o.js.n50, o.js.few.2, o.own, fun k hk => ⟨fun h => (o.nv k hk).1 (.inl h), (o.nv k hk).2⟩, o.bel⟩
theorem Cr.added {w wx w' : World} {hp p : Nat} {J J' : Jh} {s s' : St} {u : Nat} {out : List (List UInt8)} {v : Value} {t : List UInt8} (o : Cr w wx hp p J s u out v) (T : JTurned J J' wx w') (h : JS w' w.heap.size J' s' 5#64 (u + needs t.length) (out ++ [t])) :
    JS w' w.heap.size J' s' 5#64 (u + needs t.length) (out ++ [t]) ∧ J'.p = p ∧ J'.H.p = hp ∧ OwnsS w' 0 v (bks out) ∧ (∀ k, v.ownBlock = some k → ¬ J'.foot k ∧ w.heap.size ≤ k) ∧ Below w.heap.size w w' := by
  refine ⟨h, T.p.trans o.jp, T.hp.trans o.hp, o.own.keptS fun k hk => T.kept.block k (owns_lt o.own hk) (o.nv k hk).1, fun k hk => ⟨fun hf => ?_, (o.nv k hk).2⟩, o.bel.trans (T.low o.js.own o.bel.size).1⟩
  rcases T.foot k hf with h1 | h1
  · exact (o.nv k hk).1 h1
  · have := owns_lt o.own hk; omega
theorem Cr.broken {w wx w' : World} {hp p : Nat} {J J' : Jh} {s s' : St} {u : Nat} {out : List (List UInt8)} {v : Value} {t : List UInt8} (o : Cr w wx hp p J s u out v) (T : JTurned J J' wx w') (ho : ∀ k, J'.foot k → w.heap.size ≤ k) (h : Jnl w' J' s' 3 40 5#64 u out) (h1 : 1 ≤ t.length) (h2 : t.length ≤ 8192) (hs : s'.sure = s.sure) (hw : ∃ k, s'.wait = (wrs (3 + u) (blkLs 5#64 u t)).take k) : CrE w w' hp J'.H s' u out t v := by
  refine ⟨h.dev, T.hp.trans o.hp, fun k hk => ho k (.inl hk), by rw [hs]; exact o.js.jst, h1, h2, ?_, by rw [hs]; exact o.js.n50, o.js.few.2, o.own.keptS fun k hk => T.kept.block k (owns_lt o.own hk) (o.nv k hk).1, fun k hk => ⟨fun hf => ?_, (o.nv k hk).2⟩, o.bel.trans (T.low o.js.own o.bel.size).1⟩
  · obtain ⟨k, hk⟩ := hw
    rw [hk]
    intro x hx
    exact List.mem_of_mem_take hx
  · rcases T.foot k (.inl hf) with h1 | h1
    · exact (o.nv k hk).1 h1
    · have := owns_lt o.own hk; omega
/-- The device behind the crash, and what Open tells of it. -/
theorem CrE.ok {w wx : World} {hp : Nat} {H : Hnd} {s : St} {u : Nat} {out : List (List UInt8)} {t : List UInt8} {v : Value} (o : CrE w wx hp H s u out t v) (f : Nat → Bool) : (∀ b ∈ extL (lay (s.crashed f).sure (s.crashed f).wait) 3 40, okB b = true) ∧ ∀ out' u', Recs (extL (lay (s.crashed f).sure (s.crashed f).wait) 3 40) 5#64 out' u' → (out' = out ∨ (s.wait ≠ [] ∧ out' = out ++ [t])) := by
  have hw : ∀ x ∈ keepW f 0 s.wait, x ∈ wrs (3 + u) (blkLs 5#64 u t) := fun x hx => o.ws x (keepW_mem f _ _ x hx)
  have e : lay (s.crashed f).sure (s.crashed f).wait = lay s.sure (keepW f 0 s.wait) := rfl
  rw [e]
  refine ⟨o.jst.ok o.t0 o.t1 _ hw, fun out' u' hr => ?_⟩
  by_cases h0 : s.wait = []
  · left
    rw [h0, show keepW f 0 [] = [] from rfl, lay_nil] at hr
    exact (hr.unique o.jst.recs).1
  · rcases o.jst.crash o.t0 o.t1 _ hw with h | h
    · exact .inl (hr.unique h).1
    · exact .inr ⟨h0, (hr.unique h).1⟩
theorem ReadsS.head {w : World} {l r : List ByteArray} {a : Option Addr} {n c : Nat} (h : ReadsS w (.slice a n c) (l ++ r)) (c' : Nat) : ReadsS w (.slice a l.length c') l := by
  by_cases hl : l = []
  · subst hl; exact .inl ⟨rfl, _, _, rfl⟩
  · rcases h with ⟨h1, _⟩ | ⟨b, off, c0, h1, _, h3, h4⟩
    · simp at h1; exact absurd h1.1 hl
    · simp only [Value.slice.injEq] at h1
      refine .inr ⟨b, off, c', by rw [h1.1], hl, h3, fun i t hi => h4 i t ?_⟩
      rw [List.getElem?_append_left (List.getElem?_eq_some_iff.1 hi).1]
      exact hi
set_option maxRecDepth 4000 in
set_option maxHeartbeats 4000000 in
theorem walkJournalCrash (a0 : Option Addr) (len0 cap0 : Nat) (z0 : List Int) (w : World) (w0 : IsRow .i64 w a0 len0 cap0 z0) (a1 : Int) (w1 : (Lit.int .i64 a1).wf = true) (a2 : Option Addr) (len2 cap2 : Nat) (z2 : List Int) (w2 : IsRow .i64 w a2 len2 cap2 z2) :
    Calls Try.prog 4 #[.slice a0 len0 cap0, .int .i64 a1, .slice a2 len2 cap2] w fun e w' => e = .returned (.bool true) ∧ Below w.heap.size w w' := by
  obtain ⟨x1, rfl⟩ := Wd.word_of a1 w1
  obtain ⟨l0, hl0, hrd0⟩ := reads_of_row w0
  obtain ⟨l2, hl2, hrd2⟩ := reads_of_row w2
  have hm2 : l2.length ≤ maxLen := by
    rcases w2 with ⟨_, h, _, _⟩ | ⟨_, _, h1, h2, _⟩
    · rw [hl2, h]; exact Nat.zero_le _
    · rw [hl2]; omega
  have hread : ∀ i, i < len0 → ∃ b off, a0 = some ⟨b, off, none⟩ ∧ b < w.heap.size ∧ w.cell? ⟨b, off + i, none⟩ = some (.int .i64 (l0.getD i 0#64).toInt) := by
    obtain ⟨av, cv, he, h⟩ := reads_at hrd0
    simp only [Value.slice.injEq] at he
    intro i hi
    obtain ⟨b, off, h1, h2, h3⟩ := h i (by omega)
    exact ⟨b, off, by rw [he.1]; exact h1, h2, h3⟩
  have hlen : len0 ≤ maxLen := by
    rcases w0 with ⟨_, h, _, _⟩ | ⟨_, _, h1, h2, _⟩
    · rw [h]; exact Nat.zero_le _
    · omega
  have hlI : (len0 : Int) ≤ 9223372036854775807 := by unfold maxLen at hlen; omega
  obtain ⟨M, hM1, hM2, hM3⟩ : ∃ M, M ≤ len0 ∧ M ≤ 12 ∧ (len0 ≤ M ∨ 12 ≤ M) := ⟨min len0 12, by omega, by omega, by omega⟩
  have HR0 : Hid (∀ i, i < len0 → ∃ b off, a0 = some ⟨b, off, none⟩ ∧ b < w.heap.size ∧ w.cell? ⟨b, off + i, none⟩ = some (.int .i64 (l0.getD i 0#64).toInt)) := hread
  have HR2 : Hid (ReadsI w (.slice a2 len2 cap2) l2 ∧ l2.length ≤ maxLen) := ⟨hrd2, hm2⟩
  obtain ⟨F, hF0, hFl⟩ := and_mask x1 127 (by omega)
  replace hF0 : bits .and .i64 x1.toInt 127 = (F : Int) := hF0
  have cnew := new_any 50 (by omega) (by omega) w
  clear w0 w1 w2 hrd0 hrd2 hl0 hl2 hm2 hread hlen
  go_enter Try.func4, Try.ntmps4
  go_wp2_with fail
  refine cnew.mono ?_
  rintro e w1 ⟨H, rfl, D1, b1, hF⟩
  have HD : Hid (DevIs w1 H (St.new 50) ∧ Below w.heap.size w w1 ∧ ∀ k, H.foot k → w.heap.size ≤ k) := ⟨D1, b1, hF⟩
  obtain ⟨hp, hhp⟩ : ∃ hp, hp = H.p := ⟨_, rfl⟩
  have HH : Hid (hp = H.p) := hhp
  rw [← hhp]
  clear D1 b1 hF cnew hhp
  go_wp2_with fail
  refine (lat_any _).mono ?_
  rintro e w2 ⟨rfl, b2⟩
  have cbeg := js_begin (HD.out.1.below b2) HD.out.2.2 (Nat.le_trans HD.out.2.1.size b2.size) 5#64 (by decide) (by decide)
  rw [← HH.out, show (5#64).toInt = 5 from rfl] at cbeg
  have HB : Hid (Below w.heap.size w w2) := HD.out.2.1.trans (b2.mono HD.out.2.1.size)
  clear b2
  go_wp2_with fail
  refine cbeg.mono ?_
  rintro e w3 ⟨⟨J, rfl, hJH, j3⟩, b3⟩
  have HJ : Hid (JS w3 w.heap.size J (St.new 50) 5#64 0 [] ∧ Below w.heap.size w w3 ∧ J.H.p = hp) := ⟨j3, HB.out.trans (b3.mono HB.out.size), by rw [hJH, HH.out]⟩
  obtain ⟨p, hpp⟩ : ∃ p, p = J.p := ⟨_, rfl⟩
  have HP : Hid (p = J.p) := hpp
  rw [← hpp]
  clear j3 b3 cbeg HB hpp hJH
  have cfu := fuse_any HJ.out.1.jnl.dev (F : Int) (by omega)
  rw [HJ.out.2.2] at cfu
  go_wp2_with fail
  refine cfu.mono ?_
  rintro e w4 ⟨rfl, D4, T4⟩
  have HC : Hid (∃ (J4 : Jh) (s4 : St), Cr w w4 hp p J4 s4 0 [] (.slice none 0 0)) := by
    obtain ⟨j4, t4⟩ := HJ.out.1.jnl.turned D4 T4
    obtain ⟨hb, ho⟩ := t4.low HJ.out.1.own HJ.out.2.1.size
    exact ⟨_, _, ⟨j4, ho, HJ.out.1.jst, rfl, rfl, rfl⟩, t4.p.trans HP.out.symm, t4.hp.trans HJ.out.2.2, ownsS_nil _ _, fun k hk => by simp [Value.ownBlock] at hk, HJ.out.2.1.trans hb⟩
  clear D4 T4 cfu
  go_wp2_with fail
  go_loopg [11, 12, 13] M (fun g s11 s12 s13 wx => ∃ (i : Nat) (J' : Jh) (s' : St) (u : Nat) (out : List (List UInt8)) (v : Value), i + g = M ∧ s13 = .int .i64 i ∧ s12 = .string { data := #[] } ∧ s11 = v ∧ out.length ≤ i ∧ Cr w wx hp p J' s' u out v)
  case atStart =>
    obtain ⟨J4, s4, h⟩ := HC.out
    exact ⟨0, J4, s4, 0, [], _, by omega, rfl, rfl, rfl, Nat.le_refl _, h⟩
  case round =>
    obtain ⟨i, J', s', u, out, v, hig, rfl, rfl, hsv, hoi, hcr⟩ := hrel
    replace hsv := hsv.symm
    subst hsv
    have HCR : Hid (Cr w wr hp p J' s' u out v) := hcr
    by_cases hi : i < M
    · have hiI : (i : Int) < (len0 : Int) := by omega
      have hi12 : (i : Int) < 12 := by omega
      obtain ⟨b, off, rfl, hbw, hcell⟩ := HR0.out i (by omega)
      replace hcell := (hcr.bel.cell (p := ⟨b, off + i, none⟩) hbw).trans hcell
      obtain ⟨x, hx⟩ : ∃ x, x = l0.getD i 0#64 := ⟨_, rfl⟩
      rw [← hx] at hcell
      obtain ⟨y, hy, hyl⟩ := and_mask x 65535 (by omega)
      replace hy : bits .and .i64 x.toInt 65535 = (y : Int) := hy
      obtain ⟨n, hn⟩ : ∃ n, n = 1 + y % 300 := ⟨_, rfl⟩
      have hym : (1 : Int) + (y : Int) % 300 = (n : Int) := by omega
      have hyI : (y : Int) ≤ 65535 := by omega
      have hnl : n ≤ 300 ∧ 1 ≤ n := by omega
      have hnI : (n : Int) ≤ 300 := by omega
      have clong := fun w => llong_any n (by omega) w
      have hll := longL_len n
      obtain ⟨X, hX⟩ : ∃ X, X = longL n := ⟨_, rfl⟩
      rw [← hX] at clong hll
      obtain ⟨S, hS⟩ : ∃ S, S = strB X := ⟨_, rfl⟩
      rw [← hS] at clong
      have HS : Hid (S = strB X ∧ X.length = n ∧ 1 ≤ n ∧ n ≤ 300) := ⟨hS, hll, hnl.2, hnl.1⟩
      have hs0 : (S.toList == []) = false := by
        rw [hS, strB_toList]
        cases X with
        | nil => simp at hll; omega
        | cons a r => rfl
      have hi0 : 0 ≤ (i : Int) ∧ (i : Int) < (len0 : Int) := by omega
      have hv11 : ∃ va vn vc, v = .slice va vn vc := owns_slice hcr.own
      clear hx hX hS hll hnl hn hyl hcr hbw
      go_wp2_with fail
      refine (clong _).mono ?_
      rintro e w5 ⟨rfl, b5⟩
      have c5 := HCR.out.over b5
      have HC5 := (show Hid _ from c5)
      clear clong b5 hcell
      by_cases hroom : u + needs X.length ≤ 40
      · have cad := js_addT c5.js c5.bel.size X (by have := HS.out; omega) (by have := HS.out; omega) hroom
        rw [c5.jp, ← HS.out.1] at cad
        clear c5 hroom
        go_wp2_with fail
        refine cad.mono ?_
        rintro e w6 ⟨J6, s6, T6, ho6, hc⟩
        rcases hc with ⟨rfl, j6⟩ | ⟨rfl, j6, hs6, hw6⟩
        · have h6 := HC5.out.added T6 j6
          have HC6 := (show Hid _ from h6)
          obtain ⟨i0, hi', hz0, hz1, hz2⟩ := info_parts info_text
          have HI : Hid (Try.prog.info? 9 = some i0 ∧ i0.zero = some (.string ByteArray.empty) ∧ i0.size = 1 ∧ i0.bytes = 16) := ⟨hi', hz0, hz1, hz2⟩
          have hown : (w6.alloc (.cells #[.string S] 9)).ownsRow 0 9 1 v (bks out).length (sv (bks out)) := World.ownsRow.alloc h6.2.2.2.1 _
          have hnw := cell_one_new w6 (.string S) 9
          have hol : (bks out).length ≤ 12 := by rw [bks_len]; omega
          clear h6 j6 T6 ho6 cad hi' hz0 hz1 hz2
          go_wp2_with (at_builtin; refine wpList_append_lies _ rfl (.tmp 78) (.tmp 80) 27 rfl 0 9 i0 (.string ByteArray.empty) 1 16 Try.underlying27 HI.out.1 HI.out.2.1 HI.out.2.2.1 HI.out.2.2.2 rfl (by decide) v (bks out).length (sv (bks out)) (by simp [Act.eval]) hown ⟨w6.heap.size, 0, none⟩ 1 1 [.string S] (by simp [Act.eval]) rfl hnw (fun u hu => by simp at hu; subst hu; rfl) (by decide) (by simp only [maxLen]; omega) (by omega) (Nat.zero_le _) (w6.heap.size + 1) (by simp) ?_; intro g cap w7 hown7 hgrow hat hlt)
          have HE : Hid (Cr w w7 hp p J6 s6 (u + needs X.length) (out ++ [X]) (.slice (some ⟨g, 0, none⟩) ((bks out).length + 1) cap)) := by
            obtain ⟨q1, q2, q3, q4, q5, q6⟩ := HC6.out
            have K7 : Kept (fun k => v.ownBlock = some k) w6 w7 := ((Kept.refl _ w6).alloc _).grown hgrow (fun k hk => .inl hk)
            have hfar : ∀ k, J6.foot k → ¬ v.ownBlock = some k := fun k hk h => (q5 k h).1 hk
            refine ⟨⟨⟨q1.jnl.dev.kept K7 (fun x hx => hfar x (.inl hx)), q1.jnl.box.kept K7 (hfar _ (.inr (.inl rfl))), q1.jnl.recs.keptS (fun k hk => K7.block k (owns_lt q1.jnl.recs hk) (hfar k (.inr (.inr hk)))), q1.jnl.np, q1.jnl.nr⟩, q1.own, q1.jst, q1.wait, q1.off, q1.n50⟩, q2, q3, ?_, ?_, ?_⟩
            · rw [bks_snoc, ← HS.out.1]
              simpa [OwnsS, sv] using hown7
            · intro k hk
              have hkg : k = g := by simpa [Value.ownBlock] using hk.symm
              subst hkg
              rcases hat with h | h
              · exact q5 k h
              · refine ⟨fun hf => ?_, ?_⟩
                · have := q1.jnl.lt hf; omega
                · have := q6.size; omega
            · exact q6.trans (K7.below (fun k hk => (q5 k hk).2) q6.size)
          clear hown7 hgrow hat hlt hown hnw
          go_wp2_with fail
          go_roundg (M - (i + 1))
          case measure => omega
          case rel => exact ⟨i + 1, J6, s6, u + needs X.length, out ++ [X], _, by omega, by go_num, rfl, rfl, by simp; omega, HE.out⟩
        · have HE : Hid (CrE w w6 hp J6.H s6 u out X v) := HC5.out.broken T6 ho6 j6 (by have := HS.out; omega) (by have := HS.out; omega) hs6 hw6
          have hd : 0 = 0 := rfl
          obtain ⟨H6, hH6⟩ : ∃ H6, H6 = J6.H := ⟨_, rfl⟩
          rw [← hH6] at HE
          clear j6 hs6 hw6 T6 ho6 cad hH6 hd
          obtain ⟨va, vn, vc, rfl⟩ := hv11
          have hvn : vn = out.length := by have := owns_len HE.out.own; simpa [bks] using this
          subst hvn
          have cc := crash_any HE.out.dev (.slice a2 len2 cap2) l2 (HR2.out.1.below HE.out.bel) HR2.out.2
          rw [HE.out.hp] at cc
          go_wp2_with fail
          refine cc.mono ?_
          rintro e w7 ⟨rfl, H7, D7, T7⟩
          obtain ⟨hok, huq⟩ := HE.out.ok (among l2)
          have HV : Hid (OwnsS w7 0 (.slice va out.length vc) (bks out) ∧ Below w.heap.size w w7 ∧ H7.p = hp) := ⟨HE.out.own.keptS fun k hk => T7.kept.block k (owns_lt HE.out.own hk) (HE.out.nv k hk).1, HE.out.bel.trans (T7.below HE.out.foot HE.out.bel.size), T7.p.trans HE.out.hp⟩
          have HU := (show Hid _ from huq)
          have HO := (show Hid _ from hok)
          have HD7 := (show Hid _ from D7)
          have HN5 : Hid (s6.sure.length = 50 ∧ out.length ≤ 40) := ⟨HE.out.n50, HE.out.few⟩
          clear cc hok huq D7 T7
          go_wp2_with fail
          refine (lat_any _).mono ?_
          rintro e w8 ⟨rfl, b8⟩
          have cop := js_open (turn := 5#64) (HD7.out.below b8) rfl (by show (lay _ _).length = 50; rw [lay_len]; exact HN5.out.1) (by decide) (by decide) HO.out
          rw [HV.out.2.2, show (5#64).toInt = 5 from rfl] at cop
          have HV8 : Hid (OwnsS w8 0 (.slice va out.length vc) (bks out) ∧ Below w.heap.size w w8) := ⟨HV.out.1.below b8, HV.out.2.1.trans (b8.mono HV.out.2.1.size)⟩
          clear b8
          go_wp2_with fail
          refine cop.mono ?_
          rintro e w9 ⟨⟨K, uk, outk, rfl, _, jk, hrk, huk, _⟩, b9⟩
          have hcase := HU.out outk uk hrk
          have HKJ : Hid (Jnl w9 K (s6.crashed (among l2)) 3 40 5#64 uk outk ∧ OwnsS w9 0 (.slice va out.length vc) (bks out) ∧ Below w.heap.size w w9) := ⟨jk, HV8.out.1.below b9, HV8.out.2.trans (b9.mono HV8.out.2.size)⟩
          have hkl : outk.length ≤ 41 := by
            rcases hcase with h | ⟨_, h⟩
            · rw [h]; have := HN5.out; omega
            · rw [h]; simp; have := HN5.out; omega
          obtain ⟨pk, hpk⟩ : ∃ pk, pk = K.p := ⟨_, rfl⟩
          have crk := jrecords_any jk.box jk.recs.reads (by rw [bks_len]; omega)
          rw [← hpk] at crk ⊢
          clear jk hrk huk b9 cop hpk
          go_wp2_with fail
          refine crk.mono ?_
          rintro e w10 ⟨⟨r, rfl, hr⟩, b10⟩
          obtain ⟨ra, rn, rc, rfl⟩ := owns_slice hr
          have hrn := owns_len hr
          rw [bks_len] at hrn
          have HRR : Hid (ReadsS w10 (.slice ra rn rc) (bks outk) ∧ ReadsS w10 (.slice va out.length vc) (bks out) ∧ Below w.heap.size w w10) := ⟨hr.reads, (HKJ.out.2.1.below b10).reads, HKJ.out.2.2.trans (b10.mono HKJ.out.2.2.size)⟩
          have hrc : rn ≤ rc := by
            rcases hr.2 with ⟨h1, h2⟩ | ⟨g, cap, cur, h1, _, _, h3, _⟩
            · simp only [Value.slice.injEq] at h1; omega
            · simp only [Value.slice.injEq] at h1; rw [bks_len] at h1 h3; omega
          obtain ⟨N, hN⟩ : ∃ N, N = out.length := ⟨_, rfl⟩
          have hNI : (N : Int) ≤ 40 := by have := HN5.out; omega
          clear hr b10 crk
          rcases hcase with hk | ⟨hwn, hk⟩
          · subst hk
            have hsub : ReadsS w10 (.slice ra N rc) (bks outk) := by
              have h := HRR.out.1
              rw [hN, ← hrn]; exact h
            have cs := sameT_any w10 (.slice ra N rc) (.slice va N vc) (bks outk) (by rw [bks_len]; omega) hsub (by have h := HRR.out.2.1; rw [hN]; exact h)
            rw [← hN] at hrn ⊢
            subst hrn
            have hb : 0 ≤ (rn : Int) ∧ (rn : Int) ≤ (rc : Int) := by omega
            clear hsub hN hkl
            go_wp2_with fail
            refine cs.mono ?_
            rintro e w11 ⟨rfl, n11, hw11⟩
            have HB11 : Hid (Below w.heap.size w w11) := by rw [hw11]; exact HRR.out.2.2.trans ((below_drewN _ _).mono HRR.out.2.2.size)
            clear hw11 cs
            go_wp2_with fail
            refine (awake23 _).mono ?_
            rintro e w12 ⟨rfl, b12⟩
            go_wp2_with fail
            go_ret
            exact ⟨rfl, HB11.out.trans (b12.mono HB11.out.size)⟩
          · subst hk
            have hrd : ReadsS w10 (.slice ra rn rc) (bks out ++ [strB X]) := by
              have h := HRR.out.1
              rw [bks_snoc] at h
              exact h
            have hsub : ReadsS w10 (.slice ra N rc) (bks out) := by
              have h := ReadsS.head hrd rc
              rw [bks_len, ← hN] at h
              exact h
            have cs := sameT_any w10 (.slice ra N rc) (.slice va N vc) (bks out) (by rw [bks_len]; omega) hsub (by have h := HRR.out.2.1; rw [hN]; exact h)
            have hrN : rn = N + 1 := by rw [hrn, hN]; simp
            obtain ⟨rb, ro, hra, hrcell⟩ : ∃ rb ro, ra = some ⟨rb, ro, none⟩ ∧ w10.cell? ⟨rb, ro + N, none⟩ = some (.string S) := by
              rcases hrd with ⟨h, _⟩ | ⟨b, off, c0, h1, _, h3, h4⟩
              · simp at h
              · simp only [Value.slice.injEq] at h1
                refine ⟨b, off, h1.1, ?_⟩
                rw [HS.out.1]
                exact h4 N (strB X) (by rw [List.getElem?_append_right (by rw [bks_len]; omega), bks_len, hN]; simp)
            rw [← hN]
            subst hrN hra
            have hb : 0 ≤ (N : Int) ∧ (N : Int) ≤ (rc : Int) := by omega
            have hb2 : 0 ≤ (N : Int) ∧ (N : Int) < (N : Int) + 1 := by omega
            have hcN : ((N + 1 : Nat) : Int) = (N : Int) + 1 := by omega
            have hne1 : ((N : Int) + 1 == (N : Int)) = false := by simp; omega
            clear hsub hrd hrn hN hkl
            go_wp2_with fail
            refine cs.mono ?_
            rintro e w11 ⟨rfl, n11, hw11⟩
            have hrc11 : w11.cell? ⟨rb, ro + N, none⟩ = some (.string S) := by rw [hw11]; exact hrcell
            have HB11 : Hid (Below w.heap.size w w11) := by rw [hw11]; exact HRR.out.2.2.trans ((below_drewN _ _).mono HRR.out.2.2.size)
            clear hw11 cs hrcell
            go_wp2_with fail
            refine (awake23 _).mono ?_
            rintro e w12 ⟨rfl, b12⟩
            go_wp2_with fail
            go_ret
            exact ⟨rfl, HB11.out.trans (b12.mono HB11.out.size)⟩
      · have cad := jadd_full c5.js.jnl.box c5.js.few.1 (by omega) X (by have := HS.out; omega) (by have := HS.out; omega) (by omega)
        rw [c5.jp, ← HS.out.1] at cad
        clear c5 hroom
        go_wp2_with fail
        refine cad.mono ?_
        rintro e w6 ⟨rfl, b6⟩
        have HC6 := (show Hid _ from HC5.out.over b6)
        clear b6 cad
        go_wp2_with fail
        go_roundg (M - (i + 1))
        case measure => omega
        case rel => exact ⟨i + 1, J', s', u, out, v, by omega, by go_num, rfl, rfl, by omega, HC6.out⟩
    · have HE : Hid (CrE w wr hp J'.H s' u out [0] v) := hcr.stop
      have HWT : Hid (s'.wait = []) := hcr.js.wait
      obtain ⟨va, vn, vc, rfl⟩ := owns_slice hcr.own
      have hvn : vn = out.length := by have := owns_len hcr.own; simpa [bks] using this
      subst hvn
      have hiM : i = M := by omega
      clear hcr HCR
      have hcs : ¬ (i : Int) < (len0 : Int) ∨ ((i : Int) < (len0 : Int) ∧ ¬ (i : Int) < 12) := by omega
      rcases hcs with hi1 | ⟨hi1, hi2⟩
      all_goals
        have cc := crash_any HE.out.dev (.slice a2 len2 cap2) l2 (HR2.out.1.below HE.out.bel) HR2.out.2
        rw [HE.out.hp] at cc
        go_wp2_with fail
        refine cc.mono ?_
        rintro e w7 ⟨rfl, H7, D7, T7⟩
        obtain ⟨hok, huq⟩ := HE.out.ok (among l2)
        have HV : Hid (OwnsS w7 0 (.slice va out.length vc) (bks out) ∧ Below w.heap.size w w7 ∧ H7.p = hp) := ⟨HE.out.own.keptS fun k hk => T7.kept.block k (owns_lt HE.out.own hk) (HE.out.nv k hk).1, HE.out.bel.trans (T7.below HE.out.foot HE.out.bel.size), T7.p.trans HE.out.hp⟩
        have HU := (show Hid _ from huq)
        have HO := (show Hid _ from hok)
        have HD7 := (show Hid _ from D7)
        have HN5 : Hid (s'.sure.length = 50 ∧ out.length ≤ 40) := ⟨HE.out.n50, HE.out.few⟩
        clear cc hok huq D7 T7
        go_wp2_with fail
        refine (lat_any _).mono ?_
        rintro e w8 ⟨rfl, b8⟩
        have cop := js_open (turn := 5#64) (HD7.out.below b8) rfl (by show (lay _ _).length = 50; rw [lay_len]; exact HN5.out.1) (by decide) (by decide) HO.out
        rw [HV.out.2.2, show (5#64).toInt = 5 from rfl] at cop
        have HV8 : Hid (OwnsS w8 0 (.slice va out.length vc) (bks out) ∧ Below w.heap.size w w8) := ⟨HV.out.1.below b8, HV.out.2.1.trans (b8.mono HV.out.2.1.size)⟩
        clear b8
        go_wp2_with fail
        refine cop.mono ?_
        rintro e w9 ⟨⟨K, uk, outk, rfl, _, jk, hrk, huk, _⟩, b9⟩
        have hcase := HU.out outk uk hrk
        have HKJ : Hid (Jnl w9 K (s'.crashed (among l2)) 3 40 5#64 uk outk ∧ OwnsS w9 0 (.slice va out.length vc) (bks out) ∧ Below w.heap.size w w9) := ⟨jk, HV8.out.1.below b9, HV8.out.2.trans (b9.mono HV8.out.2.size)⟩
        have hkl : outk.length ≤ 41 := by
          rcases hcase with h | ⟨_, h⟩
          · rw [h]; have := HN5.out; omega
          · rw [h]; simp; have := HN5.out; omega
        obtain ⟨pk, hpk⟩ : ∃ pk, pk = K.p := ⟨_, rfl⟩
        have crk := jrecords_any jk.box jk.recs.reads (by rw [bks_len]; omega)
        rw [← hpk] at crk ⊢
        clear jk hrk huk b9 cop hpk
        go_wp2_with fail
        refine crk.mono ?_
        rintro e w10 ⟨⟨r, rfl, hr⟩, b10⟩
        obtain ⟨ra, rn, rc, rfl⟩ := owns_slice hr
        have hrn := owns_len hr
        rw [bks_len] at hrn
        have HRR : Hid (ReadsS w10 (.slice ra rn rc) (bks outk) ∧ ReadsS w10 (.slice va out.length vc) (bks out) ∧ Below w.heap.size w w10) := ⟨hr.reads, (HKJ.out.2.1.below b10).reads, HKJ.out.2.2.trans (b10.mono HKJ.out.2.2.size)⟩
        have hrc : rn ≤ rc := by
          rcases hr.2 with ⟨h1, h2⟩ | ⟨g, cap, cur, h1, _, _, h3, _⟩
          · simp only [Value.slice.injEq] at h1; omega
          · simp only [Value.slice.injEq] at h1; rw [bks_len] at h1 h3; omega
        obtain ⟨N, hN⟩ : ∃ N, N = out.length := ⟨_, rfl⟩
        have hNI : (N : Int) ≤ 40 := by have := HN5.out; omega
        clear hr b10 crk
        rcases hcase with hk | ⟨hwn, hk⟩
        · subst hk
          have hsub : ReadsS w10 (.slice ra N rc) (bks outk) := by
            have h := HRR.out.1
            rw [hN, ← hrn]; exact h
          have cs := sameT_any w10 (.slice ra N rc) (.slice va N vc) (bks outk) (by rw [bks_len]; omega) hsub (by have h := HRR.out.2.1; rw [hN]; exact h)
          rw [← hN] at hrn ⊢
          subst hrn
          have hb : 0 ≤ (rn : Int) ∧ (rn : Int) ≤ (rc : Int) := by omega
          clear hsub hN hkl
          go_wp2_with fail
          refine cs.mono ?_
          rintro e w11 ⟨rfl, n11, hw11⟩
          have HB11 : Hid (Below w.heap.size w w11) := by rw [hw11]; exact HRR.out.2.2.trans ((below_drewN _ _).mono HRR.out.2.2.size)
          clear hw11 cs
          go_wp2_with fail
          refine (awake23 _).mono ?_
          rintro e w12 ⟨rfl, b12⟩
          go_wp2_with fail
          go_ret
          exact ⟨rfl, HB11.out.trans (b12.mono HB11.out.size)⟩
        · exact absurd HWT.out hwn
end Go.Proofs.Ytfcflefkjccfgaa
