/- A slice that came in reads as a list of cells. No condition. -/
import Derived.Test.YtjijlepkcghmeaaDoorRow
import Derived.SliceStrings
import Derived.OpenShut
namespace Go.Proofs.YtjijlepkcghmeaaDoor
open Go.RowKit Go.ChangeShapes Go.WideShapes
namespace Wire

/-- Cells that were read through an address lie in a block. -/
theorem row_at {w : World} {x : Addr} {len cap : Nat} {cs : List Value} (hcs : cs.length = len) (hl : len ≤ cap) (hm : cap ≤ maxLen) (hcell : ∀ i, i < cap → (w.cell? (x.add i)).isSome = true) (hat : ∀ (i : Nat) (u : Value), cs[i]? = some u → w.cell? (x.add i) = some u) :
    Lies w w.heap.size 1 (some x) len cap cs := by
  have hplain : 0 < cap → ∃ b o, x = ⟨b, o, none⟩ := by
    intro hp
    obtain ⟨u, hu⟩ := Option.isSome_iff_exists.1 (hcell 0 hp)
    obtain ⟨b, o, spot⟩ := x
    have hspot : spot = none := by simpa [Addr.add] using World.cell?_spot hu
    subst hspot
    exact ⟨b, o, rfl⟩
  refine ⟨by omega, hl, hm, fun hp => ?_, fun hp => ?_⟩
  · obtain ⟨b, o, rfl⟩ := hplain hp; exact ⟨b, o, rfl⟩
  · obtain ⟨b, o, rfl⟩ := hplain (by omega)
    refine ⟨b, o, rfl, ?_, fun j u hu => ?_⟩
    · obtain ⟨u, hu⟩ := Option.isSome_iff_exists.1 (hcell 0 (by omega))
      have := World.block_lt_of_cell? w _ hu
      simpa [Addr.add] using this
    · have := hat j u hu
      have hadd : (⟨b, o, none⟩ : Addr).add j = ⟨b, o + j, none⟩ := by unfold Addr.add; split <;> simp_all
      rwa [hadd] at this

end Wire
end Go.Proofs.YtjijlepkcghmeaaDoor
