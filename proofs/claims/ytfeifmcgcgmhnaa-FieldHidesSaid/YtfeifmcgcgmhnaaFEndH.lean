/- FieldHides at values as they are handed in. Conditions: bytes are bytes, slices read as lists. -/
import Derived.Test.YtfeifmcgcgmhnaaFEndU
import Derived.Test.YtfeifmcgcgmhnaaFLawH
namespace Go.Proofs.Ytfeifmcgcgmhnaa
open Go.RowKit
namespace Gf
open Wire (Lies bv)

theorem hidesLawB (xs ys : List UInt8) (a b z : Int) (n c m d : Nat) (A B : Option Addr) (w : World) (hl : Lies w w.heap.size 1 A n c (xs.map bv)) (hy : Lies w w.heap.size 1 B m d (ys.map bv)) (ha : (Lit.int .u8 a).wf = true) (hb : (Lit.int .u8 b).wf = true) (hz : (Lit.int .u8 z).wf = true) :
    Calls Try.prog 8 #[.slice A n c, .slice B m d, .int .u8 a, .int .u8 b, .int .u8 z] w (Tells true w) := by
  obtain ⟨x, rfl⟩ := u8_of ha
  obtain ⟨y, rfl⟩ := u8_of hb
  obtain ⟨v, rfl⟩ := u8_of hz
  exact hidesLaw xs ys x y v n c m d A B w hl hy
end Gf
end Go.Proofs.Ytfeifmcgcgmhnaa
