/- A slice of bytes that came in reads as a list of bytes. No condition. -/
import Derived.Test.YtjijlepkcghmeaaDoorBase
namespace Go.Proofs.YtjijlepkcghmeaaDoor
open Go.RowKit
namespace Wire

theorem row_bytes {w : World} {a : Option Addr} {len cap : Nat} {zs : List Int}
    (h : (a = none ∧ len = 0 ∧ cap = 0 ∧ zs = []) ∨ ∃ x, a = some x ∧ len ≤ cap ∧ cap ≤ maxLen ∧ zs.length = cap ∧ (∀ i, i < zs.length → w.cell? (x.add i) = some (.int .u8 (zs.getD i 0))) ∧ ∀ n ∈ zs, (Lit.int .u8 n).wf = true) :
    ∃ bs : List UInt8, Lies w w.heap.size 1 a len cap (bs.map bv) := by
  rcases h with ⟨rfl, rfl, rfl, rfl⟩ | ⟨x, rfl, hl, hm, hz, hcell, hwz⟩
  · exact ⟨[], lies_empty w _ _⟩
  · refine ⟨(zs.take len).map fun z => UInt8.ofNat z.toNat, ?_⟩
    have hplain : 0 < cap → ∃ b o, x = ⟨b, o, none⟩ := by
      intro hp
      obtain ⟨b, o, spot⟩ := x
      have hspot : spot = none := by simpa [Addr.add] using World.cell?_spot (hcell 0 (by omega))
      subst hspot
      exact ⟨b, o, rfl⟩
    refine ⟨by simp; omega, hl, hm, fun hp => ?_, fun hp => ?_⟩
    · obtain ⟨b, o, rfl⟩ := hplain hp; exact ⟨b, o, rfl⟩
    · obtain ⟨b, o, rfl⟩ := hplain (by omega)
      refine ⟨b, o, rfl, ?_, fun j u hu => ?_⟩
      · have := World.block_lt_of_cell? w _ (hcell 0 (by omega))
        simpa [Addr.add] using this
      · rw [List.map_map, List.getElem?_map] at hu
        have hj : j < len := by
          rcases Nat.lt_or_ge j len with h | h
          · exact h
          · rw [List.getElem?_eq_none (by simp; omega)] at hu; cases hu
        obtain ⟨z, hz2⟩ : ∃ z, zs[j]? = some z := ⟨zs[j]'(by omega), List.getElem?_eq_getElem _⟩
        rw [List.getElem?_take_of_lt hj, hz2] at hu
        simp only [Option.map_some, Option.some.injEq, Function.comp_apply] at hu
        have hc := hcell j (by omega)
        have hadd : (⟨b, o, none⟩ : Addr).add j = ⟨b, o + j, none⟩ := by unfold Addr.add; split <;> simp_all
        rw [hadd] at hc
        rw [hc, ← hu]
        have hw := hwz z (List.mem_of_getElem? hz2)
        have hr : 0 ≤ z ∧ z ≤ 255 := by simpa [Lit.wf, IntKind.min, IntKind.max, IntKind.signed, IntKind.bits] using hw
        simp only [List.getD, hz2, Option.getD_some, bv]
        congr 2
        have h2 : (UInt8.ofNat z.toNat).toNat = z.toNat := by simp; omega
        rw [h2]
        omega

theorem i64_range {n : Int} (h : (Lit.int .i64 n).wf = true) : -9223372036854775808 ≤ n ∧ n ≤ 9223372036854775807 := by
  simpa [Lit.wf, IntKind.min, IntKind.max, IntKind.signed, IntKind.bits] using h

end Wire
end Go.Proofs.YtjijlepkcghmeaaDoor
