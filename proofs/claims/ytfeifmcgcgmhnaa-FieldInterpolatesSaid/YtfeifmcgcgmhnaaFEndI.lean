/- FieldInterpolates at values as they are handed in. Conditions: a byte is a byte, slices read as lists. -/
import Derived.Test.YtfeifmcgcgmhnaaFEndU
import Derived.Test.YtfeifmcgcgmhnaaFLawI
namespace Go.Proofs.Ytfeifmcgcgmhnaa
open Go.RowKit
namespace Gf
open Wire (Lies bv)

theorem interLawB (xs ys : List UInt8) (a : Int) (n c m d : Nat) (A B : Option Addr) (w : World) (hl : Lies w w.heap.size 1 A n c (xs.map bv)) (hy : Lies w w.heap.size 1 B m d (ys.map bv)) (ha : (Lit.int .u8 a).wf = true) :
    Calls Try.prog 6 #[.slice A n c, .slice B m d, .int .u8 a] w (Tells true w) := by
  obtain ⟨x, rfl⟩ := u8_of ha
  exact interLaw xs ys x n c m d A B w hl hy
end Gf
end Go.Proofs.Ytfeifmcgcgmhnaa
