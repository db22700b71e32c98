/- A slice of integers that came in reads as a list of integers. No condition. -/
import Derived.Test.YtjdokaoajannfaaRow
namespace Go.Proofs.Ytjdokaoajannfaa
open Go.RowKit
namespace Wire

theorem row_ints {w : World} {a : Option Addr} {len cap : Nat} {zs : List Int}
    (h : (a = none ∧ len = 0 ∧ cap = 0 ∧ zs = []) ∨ ∃ x, a = some x ∧ len ≤ cap ∧ cap ≤ maxLen ∧ zs.length = cap ∧ (∀ i, i < zs.length → w.cell? (x.add i) = some (.int .i64 (zs.getD i 0))) ∧ ∀ n ∈ zs, (Lit.int .i64 n).wf = true) :
    ∃ l : List Int, Lies w w.heap.size 1 a len cap (l.map iv) ∧ ∀ x ∈ l, -9223372036854775808 ≤ x ∧ x ≤ 9223372036854775807 := by
  rcases h with ⟨rfl, rfl, rfl, rfl⟩ | ⟨x, rfl, hl, hm, hz, hcell, hwz⟩
  · exact ⟨[], ⟨rfl, by omega, by unfold maxLen; omega, fun h => absurd h (by omega), fun h => absurd h (by omega)⟩, by simp⟩
  · refine ⟨zs.take len, ?_, fun x hx => i64_range (hwz x (List.mem_of_mem_take hx))⟩
    have hplain : 0 < cap → ∃ b o, x = ⟨b, o, none⟩ := by
      intro hp
      obtain ⟨b, o, spot⟩ := x
      have hspot : spot = none := by simpa [Addr.add] using World.cell?_spot (hcell 0 (by omega))
      subst hspot
      exact ⟨b, o, rfl⟩
    refine ⟨by simp; omega, hl, hm, fun hp => ?_, fun hp => ?_⟩
    · obtain ⟨b, o, rfl⟩ := hplain hp; exact ⟨b, o, rfl⟩
    · obtain ⟨b, o, rfl⟩ := hplain (by omega)
      refine ⟨b, o, rfl, ?_, fun j u hu => ?_⟩
      · have := World.block_lt_of_cell? w _ (hcell 0 (by omega))
        simpa [Addr.add] using this
      · rw [List.getElem?_map] at hu
        have hj : j < len := by
          rcases Nat.lt_or_ge j len with h | h
          · exact h
          · rw [List.getElem?_eq_none (by simp; omega)] at hu; cases hu
        obtain ⟨z, hz2⟩ : ∃ z, zs[j]? = some z := ⟨zs[j]'(by omega), List.getElem?_eq_getElem _⟩
        rw [List.getElem?_take_of_lt hj, hz2] at hu
        simp only [Option.map_some, Option.some.injEq] at hu
        have hc := hcell j (by omega)
        have hadd : (⟨b, o, none⟩ : Addr).add j = ⟨b, o + j, none⟩ := by unfold Addr.add; split <;> simp_all
        rw [hadd] at hc
        rw [hc, ← hu]
        simp [List.getD, hz2, iv]

end Wire
end Go.Proofs.Ytjdokaoajannfaa
