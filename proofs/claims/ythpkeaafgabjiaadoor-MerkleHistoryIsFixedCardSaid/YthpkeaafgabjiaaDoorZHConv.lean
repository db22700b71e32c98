/- A slice of bytes as a text, and the reference's Sum of a text's bytes. Condition: at most a million bytes; the table of the reference's constants reads as the program lays it. -/
import Derived.Test.YthpkeaafgabjiaaDoorM6
import Derived.Test.YthpkeaafgabjiaaDoorZHUtil
namespace Go.Proofs.YthpkeaafgabjiaaDoor
open Go.RowKit
namespace Hash
open Wire (Lies)

theorem refSumKey (x : List UInt8) (hx : x.length ≤ 1000000) (W : World) (ht : Table 0 W) :
    Calls Tryd.prog 64 #[.slice (some ⟨W.heap.size, 0, none⟩) x.length (grownCap W x.length 0 5)] (Lib.bytesWorld W 5 ⟨x.toArray⟩) fun e w' => e = .returned (.agg ((sha x).map Wire.bv).toArray) ∧ Below W.heap.size W w' :=
  (refSum_any x _ _ _ _ (convKey_lies x (by omega) W) hx (tabj ht (bytesB W x))).mono fun _ _ ⟨he, hw⟩ => ⟨he, bcj (bytesB W x) hw⟩

end Hash
end Go.Proofs.YthpkeaafgabjiaaDoor
