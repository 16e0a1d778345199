/-
  A slice of ints that came in, as words.
-/
import Derived.Test.YtlohljefhcidkaaVSame
namespace Go.Proofs.Ytlohljefhcidkaa
open Go.RowKit

/-- What a law's walk is told of a slice of integers that came in: it is nil, or its cells (elements, then spare room) hold the numbers zs, each of its kind. -/
def IsRow (k : IntKind) (w : World) (a : Option Addr) (len cap : Nat) (zs : List Int) : Prop :=
  (a = none ∧ len = 0 ∧ cap = 0 ∧ zs = []) ∨
  ∃ x, a = some x ∧ len ≤ cap ∧ cap ≤ maxLen ∧ zs.length = cap ∧ (∀ i, i < zs.length → w.cell? (x.add i) = some (.int k (zs.getD i 0))) ∧ ∀ n ∈ zs, (Lit.int k n).wf = true

theorem reads_of_row {w : World} {a : Option Addr} {len cap : Nat} {zs : List Int} (h : IsRow .i64 w a len cap zs) : ∃ l : List (BitVec 64), l.length = len ∧ ReadsI w (.slice a len cap) l := by
  rcases h with ⟨rfl, rfl, rfl, rfl⟩ | ⟨x, rfl, hlc, _, hzl, hc, hwf⟩
  · exact ⟨[], rfl, .inl ⟨rfl, _, _, rfl⟩⟩
  · refine ⟨(zs.take len).map (BitVec.ofInt 64), by simp; omega, ?_⟩
    by_cases h0 : len = 0
    · subst h0
      exact .inl ⟨by simp, _, _, rfl⟩
    · obtain ⟨b, off, spot⟩ := x
      have hc0 := hc 0 (by omega)
      have hspot : spot = none := by simpa [Addr.add] using World.cell?_spot hc0
      subst hspot
      have hbw : b < w.heap.size := by
        have := World.block_lt_of_cell? w _ hc0
        simpa [Addr.add] using this
      have hll : ((zs.take len).map (BitVec.ofInt 64)).length = len := by simp; omega
      refine .inr ⟨b, off, cap, by rw [hll], fun e => h0 (by rw [← hll, e]; rfl), hbw, fun i hi => ?_⟩
      rw [hll] at hi
      have hadd : (⟨b, off, none⟩ : Addr).add i = ⟨b, off + i, none⟩ := by unfold Addr.add; split <;> simp_all
      have hz := hc i (by omega)
      rw [hadd] at hz
      rw [hz]
      have hiz : i < zs.length := by omega
      have hmem : zs[i] ∈ zs := List.getElem_mem hiz
      obtain ⟨y, hy⟩ := Wd.word_of _ (hwf _ hmem)
      have e1 : zs.getD i 0 = zs[i] := by simp [hiz]
      have e2 : ((zs.take len).map (BitVec.ofInt 64)).getD i 0#64 = BitVec.ofInt 64 zs[i] := by
        simp [hi, hiz]
      rw [e1, e2, hy]
      simp
end Go.Proofs.Ytlohljefhcidkaa
