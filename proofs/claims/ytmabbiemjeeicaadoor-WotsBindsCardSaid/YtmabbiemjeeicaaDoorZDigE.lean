/- Digests compared. Condition: they have 16 bytes. -/
import Derived.Test.YtmabbiemjeeicaaDoorZDig
import Derived.Stop.BytesEq
namespace Go.Proofs.YtmabbiemjeeicaaDoor
open Go.RowKit
namespace Mk
open Wire (bv)

theorem byte_sizeOf (w : World) : (sizeOf 5).run Tryd.prog w = .ok 1 w := by kernel_rfl
theorem eq_d (x y : List UInt8) (hx : x.length = 16) (hy : y.length = 16) (W : World) : (Op.equalIn 10000 23 (.agg (x.map bv).toArray) (.agg (y.map bv).toArray)).run Tryd.prog W = .ok (x == y) W :=
  run_equalIn_bytes W 9998 23 5 16 Tryd.underlying23 Tryd.underlying5 byte_sizeOf x y hx hy
theorem neq_d (x y : List UInt8) (hx : x.length = 16) (hy : y.length = 16) (W : World) : (binOp .neq 23 (.agg (x.map bv).toArray) (.agg (y.map bv).toArray)).run Tryd.prog W = .ok (.bool (!(x == y))) W := by
  rw [run_neq_struct, eq_d x y hx hy W]; rfl
theorem eql_d (x y : List UInt8) (hx : x.length = 16) (hy : y.length = 16) (W : World) : (binOp .eql 23 (.agg (x.map bv).toArray) (.agg (y.map bv).toArray)).run Tryd.prog W = .ok (.bool (x == y)) W := by
  rw [run_eql_struct, eq_d x y hx hy W]; rfl
end Mk
end Go.Proofs.YtmabbiemjeeicaaDoor
