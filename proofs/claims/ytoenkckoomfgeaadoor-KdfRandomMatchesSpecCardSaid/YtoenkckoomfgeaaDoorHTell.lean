/- Bytes and bits, the byte of a text at an index, a bool that is told. No condition. -/
import Derived.Test.YtoenkckoomfgeaaDoorHBase
import Derived.Test.YtoenkckoomfgeaaDoorBase
namespace Go.Proofs.YtoenkckoomfgeaaDoor
open Go.RowKit
namespace Hash

theorem ofInt8 (a : UInt8) : (BitVec.ofInt 8 (a.toNat : Int)).toNat = a.toNat := by
  have := a.toNat_lt
  rw [BitVec.ofInt_natCast, BitVec.toNat_ofNat]; exact Nat.mod_eq_of_lt (by omega)
theorem xor8 (a b : UInt8) : bits .xor .u8 (a.toNat : Int) (b.toNat : Int) = ((a ^^^ b).toNat : Int) := by
  have h := (a ^^^ b).toNat_lt
  show IntKind.u8.wrap ((BitVec.ofInt 8 (a.toNat : Int) ^^^ BitVec.ofInt 8 (b.toNat : Int)).toNat : Int) = _
  rw [BitVec.toNat_xor, ofInt8, ofInt8, ← UInt8.toNat_xor, IntKind.wrap_u8]; omega
theorem or8 (a b : UInt8) : bits .or .u8 (a.toNat : Int) (b.toNat : Int) = ((a ||| b).toNat : Int) := by
  have h := (a ||| b).toNat_lt
  show IntKind.u8.wrap ((BitVec.ofInt 8 (a.toNat : Int) ||| BitVec.ofInt 8 (b.toNat : Int)).toNat : Int) = _
  rw [BitVec.toNat_or, ofInt8, ofInt8, ← UInt8.toNat_or, IntKind.wrap_u8]; omega
theorem or_zero {d x y : UInt8} : (d ||| (x ^^^ y)) = 0 ↔ d = 0 ∧ x = y := by
  rw [UInt8.or_eq_zero_iff, UInt8.xor_eq_zero_iff]

theorem index_at (a : List UInt8) (k : Nat) (x : UInt8) (hx : a[k]? = some x) (W : World) : (Instr.index 9 (.string ⟨a.toArray⟩) (.int .i64 (k : Int))).run Tryd.prog W = .ok (.int .u8 (x.toNat : Int)) W := by
  have hk := (List.getElem?_eq_some_iff.1 hx).1
  have hs : (⟨a.toArray⟩ : ByteArray).size = a.length := by simp [ByteArray.size]
  have hxx := (List.getElem?_eq_some_iff.1 hx).2
  rw [run_index_string (h := Tryd.underlying9)]
  rw [dif_pos ⟨by omega, by rw [hs]; omega⟩]
  rw [← hxx]
  rfl
/-- A bool is returned; the memory is as it was. -/
def Tells (b : Bool) (w : World) (e : Ending) (w' : World) : Prop := e = .returned (.bool b) ∧ ∃ k, w' = w.drewN k

end Hash
end Go.Proofs.YtoenkckoomfgeaaDoor
