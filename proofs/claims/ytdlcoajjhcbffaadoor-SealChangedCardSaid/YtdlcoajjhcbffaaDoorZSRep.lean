/- Copies of a text, at the two calls of seal's examples. No condition. (YtdlcoajjhcbffaaDoorShelf: what the shelf's two commands print for the seat.) -/
import Derived.Test.YtdlcoajjhcbffaaDoorZSPkg
import Derived.Test.YtdlcoajjhcbffaaDoorZShelf
namespace Go.Proofs.YtdlcoajjhcbffaaDoor
open Go.RowKit
namespace Seal
open Hash (GivesT)

theorem rep32_any (W : World) : Calls Tryd.prog 16 #[.string ⟨#[107]⟩, .int .i64 32] W (GivesT exK W) := by
  have h := Tryd.strings_Repeat ⟨#[107]⟩ 32 W (by omega) (by decide)
  rwa [show Lib.repeatL (⟨#[107]⟩ : ByteArray).data.toList 32 = exK by decide] at h
theorem rep27_any (W : World) : Calls Tryd.prog 16 #[.string ⟨#[120]⟩, .int .i64 27] W (GivesT (List.replicate 27 120) W) := by
  have h := Tryd.strings_Repeat ⟨#[120]⟩ 27 W (by omega) (by decide)
  rwa [show Lib.repeatL (⟨#[120]⟩ : ByteArray).data.toList 27 = List.replicate 27 120 by decide] at h

end Seal
end Go.Proofs.YtdlcoajjhcbffaaDoor
