/- FieldMatchesSpec and FieldAxioms at values as they are handed in. Condition: bytes are bytes. -/
import Derived.Test.YtfeifmcgcgmhnaaFEndU
import Derived.Test.YtfeifmcgcgmhnaaFLawA
namespace Go.Proofs.Ytfeifmcgcgmhnaa
open Go.RowKit
namespace Gf
open Wire (Lies bv)

theorem matchLawB (a b : Int) (w : World) (ha : (Lit.int .u8 a).wf = true) (hb : (Lit.int .u8 b).wf = true) : Calls Try.prog 3 #[.int .u8 a, .int .u8 b] w (Tells true w) := by
  obtain ⟨x, rfl⟩ := u8_of ha
  obtain ⟨y, rfl⟩ := u8_of hb
  exact matchLaw x y w
theorem axLawB (a b c : Int) (w : World) (ha : (Lit.int .u8 a).wf = true) (hb : (Lit.int .u8 b).wf = true) (hc : (Lit.int .u8 c).wf = true) : Calls Try.prog 4 #[.int .u8 a, .int .u8 b, .int .u8 c] w (Tells true w) := by
  obtain ⟨x, rfl⟩ := u8_of ha
  obtain ⟨y, rfl⟩ := u8_of hb
  obtain ⟨z, rfl⟩ := u8_of hc
  exact axLaw x y z w
end Gf
end Go.Proofs.Ytfeifmcgcgmhnaa
