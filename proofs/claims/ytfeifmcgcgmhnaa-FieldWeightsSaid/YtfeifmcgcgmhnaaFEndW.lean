/- FieldWeights at values as they are handed in. Conditions: a byte is a byte, the slice reads as a list, the number has 64 bits. -/
import Derived.Test.YtfeifmcgcgmhnaaFEndU
import Derived.Test.YtfeifmcgcgmhnaaFLawW
namespace Go.Proofs.Ytfeifmcgcgmhnaa
open Go.RowKit
namespace Gf
open Wire (Lies bv)

theorem weightsLawB (xs : List UInt8) (a k : Int) (n c : Nat) (A : Option Addr) (w : World) (hl : Lies w w.heap.size 1 A n c (xs.map bv)) (ha : (Lit.int .u8 a).wf = true) (hk : -9223372036854775808 ≤ k ∧ k ≤ 9223372036854775807) :
    Calls Try.prog 7 #[.slice A n c, .int .u8 a, .int .i64 k] w (Tells true w) := by
  obtain ⟨x, rfl⟩ := u8_of ha
  exact weightsLaw xs x k n c A w hl hk
end Gf
end Go.Proofs.Ytfeifmcgcgmhnaa
