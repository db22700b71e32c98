/- The order of the text serves for every order of the region that the examples end with. No condition. -/
import Derived.Test.YtmabbiemjeeicaaDoorZQTail
import Derived.Test.YtmabbiemjeeicaaDoorZBase
namespace Go.Proofs.YtmabbiemjeeicaaDoor
open Go.RowKit
/-- The operations of a region. -/
def opsOf (k : Nat) : Code → List Oper
  | .region i ops _ => if i = k then ops.toList else []
  | .seq a b => opsOf k a ++ opsOf k b
  | .cond _ a b => opsOf k a ++ opsOf k b
  | .block _ b => opsOf k b
  | .loop b => opsOf k b
  | _ => []
def opsIn (f : Func) (k : Nat) : List Oper := match f.body with
  | some c => opsOf k c
  | none => []
namespace Wo
theorem sane_lex : Region.lexB .any (opsIn Tryd.f9 12).toArray = true := by kernel_rfl
end Wo
end Go.Proofs.YtmabbiemjeeicaaDoor
