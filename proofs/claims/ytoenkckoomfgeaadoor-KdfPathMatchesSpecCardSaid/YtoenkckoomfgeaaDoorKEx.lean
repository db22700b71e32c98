/- The examples that every statement on kdf plays first, worked out by the kernel. No condition. -/
import Derived.Test.YtoenkckoomfgeaaDoorKdf
import Derived.Test.YtoenkckoomfgeaaDoorShaF
namespace Go.Proofs.YtoenkckoomfgeaaDoor
namespace Kdf
open Hash (mac macF macF_eq)
open Wire (encStr)

def exA : List UInt8 := [155, 218, 217, 173, 248, 171, 95, 152, 62, 173, 236, 238, 161, 242, 111, 19, 2, 82, 159, 242, 106, 78, 166, 211, 75, 199, 37, 174, 212, 247, 63, 80]
def exB : List UInt8 := [145, 173, 75, 219, 55, 255, 6, 120, 250, 194, 233, 217, 2, 188, 233, 138, 74, 174, 71, 216, 94, 221, 196, 99, 202, 120, 241, 159, 135, 130, 236, 246]
def exV : List UInt8 := [77, 227, 137, 147, 34, 249, 177, 144, 7, 208, 232, 211, 195, 12, 1, 192, 34, 210, 143, 162, 82, 47, 95, 203, 24, 11, 73, 114, 218, 229, 68, 91]
def exS : List UInt8 := [77, 232, 21, 77, 122, 239, 128, 197, 10, 26, 128, 214, 213, 97, 233, 5, 174, 27, 49, 134, 46, 180, 145, 208, 211, 193, 207, 17, 33, 245, 186, 156]
theorem encOne (x : UInt8) : encStr [x] = [129, 1, x] := by
  show Wire.enc ((1 : Nat) : Int) ++ [x] = _
  rw [show ((1 : Nat) : Int) = 1 from rfl, Hash.enc1]; rfl
theorem encValue : encStr valueL = [129, 5, 118, 97, 108, 117, 101] := by
  show Wire.enc ((5 : Nat) : Int) ++ valueL = _
  rw [show Wire.enc ((5 : Nat) : Int) = [129, 5] by simp [Wire.enc, Wire.magn, Wire.digs_pos, Wire.digs_zero, Wire.head, Wire.flip]]; rfl
theorem encSeed : encStr seedL = [129, 4, 115, 101, 101, 100] := by
  show Wire.enc ((4 : Nat) : Int) ++ seedL = _
  rw [show Wire.enc ((4 : Nat) : Int) = [129, 4] by simp [Wire.enc, Wire.magn, Wire.digs_pos, Wire.digs_zero, Wire.head, Wire.flip]]; rfl
theorem ex_a : derive [107] [97] [] = exA := by
  unfold derive input
  rw [encOne, ← macF_eq _ _ (by decide)]
  decide +kernel
theorem ex_b : derive exA [98] [] = exB := by
  unfold derive input
  rw [encOne, ← macF_eq _ _ (by decide)]
  decide +kernel
theorem ex_path : path [107] [[97], [98]] = exB := by
  show derive (derive [107] [97] []) [98] [] = _
  rw [ex_a, ex_b]
theorem ex_v : val [115] = exV := by
  unfold val derive input
  rw [encValue, ← macF_eq _ _ (by decide)]
  decide +kernel
theorem ex_s : nxt [115] = exS := by
  unfold nxt derive input
  rw [encSeed, ← macF_eq _ _ (by decide)]
  decide +kernel
/-- The first 32 of 40 bytes are the first value. -/
theorem ex_bytes : (bytes [115] 40).take 32 = exV := by
  have h : bytes [115] 40 = (val [115] ++ val (after [115] 1)).take 40 := by
    unfold bytes
    rw [show need 40 = 2 from rfl, stream, stream, stream, List.nil_append, show after [115] 0 = [115] from rfl]
  rw [h, List.take_take, show min 32 40 = 32 from rfl, List.take_append_of_le_length (by rw [val_length]; omega), List.take_of_length_le (by rw [val_length]; omega), ex_v]
theorem ex_ab : ¬ exA = exB := by decide
theorem ex_vs : ¬ exV = exS := by decide

end Kdf
end Go.Proofs.YtoenkckoomfgeaaDoor
