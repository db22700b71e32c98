/- The inputs of Of are different for different tags and parts. No condition but lengths. -/
import Derived.Test.YthpkeaafgabjiaaDoorZHOf
import Derived.Test.YthpkeaafgabjiaaDoorZHInj
namespace Go.Proofs.YthpkeaafgabjiaaDoor
open Go.RowKit
namespace Hash
open Wire (bv sv Made Lies encStr enc dec)

theorem ofIn_inj {t0 t1 : Nat} {a b : List (List UInt8)} (h0 : t0 < 256) (h1 : t1 < 256) (ha : ∀ s ∈ a, s.length ≤ 400) (hb : ∀ s ∈ b, s.length ≤ 400) (h : ofIn (t0 : Int) a = ofIn (t1 : Int) b) : t0 = t1 ∧ a = b := by
  simp only [ofIn, List.cons.injEq] at h
  refine ⟨?_, flat_inj a b ha hb h.2⟩
  have e0 := tagByte_eq (t0 : Int)
  have e1 := tagByte_eq (t1 : Int)
  rw [h.1] at e0
  omega

end Hash
end Go.Proofs.YthpkeaafgabjiaaDoor
