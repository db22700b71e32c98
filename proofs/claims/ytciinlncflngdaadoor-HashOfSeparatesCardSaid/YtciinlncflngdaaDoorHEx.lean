/- The examples: the hash, the code and the digest at the examples' arguments, worked out by the kernel. No condition. -/
import Derived.Test.YtciinlncflngdaaDoorHHex
import Derived.Test.YtciinlncflngdaaDoorHOf
namespace Go.Proofs.YtciinlncflngdaaDoor
namespace Hash

def blocksF (l : List UInt8) : Nat → List Nat
  | 0 => h0
  | n + 1 => compF (blocksF l n) ((l.drop (64 * n)).take 64)
theorem blocksF_eq (l : List UInt8) : ∀ n, blocksF l n = blocks l n
  | 0 => rfl
  | n + 1 => by simp only [blocksF, blocks, compF_eq, blocksF_eq l n]
def shaF (l : List UInt8) : List UInt8 := (blocksF (pad l) ((pad l).length / 64)).flatMap wordBytes
theorem shaF_eq (l : List UInt8) : shaF l = sha l := by simp only [shaF, sha, blocksF_eq]
def keyBlockF (key : List UInt8) (m : UInt8) : List UInt8 := (key ++ zeros (64 - key.length)).map (· ^^^ m)
def macF (key text : List UInt8) : List UInt8 := shaF (keyBlockF key 0x5c ++ shaF (keyBlockF key 0x36 ++ text))
theorem macF_eq (key text : List UInt8) (h : ¬ 64 < key.length) : macF key text = mac key text := by
  simp only [macF, mac, shaF_eq, keyBlock, keyBlockF, if_neg h]

def abc : List UInt8 := [97, 98, 99]
def jefe : List UInt8 := [74, 101, 102, 101]
def what : List UInt8 := [119, 104, 97, 116, 32, 100, 111, 32, 121, 97, 32, 119, 97, 110, 116, 32, 102, 111, 114, 32, 110, 111, 116, 104, 105, 110, 103, 63]
theorem enc0 : Wire.enc 0 = [128] := by simp [Wire.enc, Wire.magn, Wire.digs_zero, Wire.head]
theorem enc1 : Wire.enc 1 = [129, 1] := by simp [Wire.enc, Wire.magn, Wire.digs_pos, Wire.digs_zero, Wire.head, Wire.flip]
theorem exOf : ofIn 8 [[97], []] = [8, 129, 1, 97, 128] := by
  have e1 : Wire.encStr [97] = [129, 1, 97] := by
    show Wire.enc ((1 : Nat) : Int) ++ [97] = _
    rw [show ((1 : Nat) : Int) = 1 from rfl, enc1]; rfl
  have e2 : Wire.encStr [] = [128] := by
    show Wire.enc ((0 : Nat) : Int) ++ [] = _
    rw [show ((0 : Nat) : Int) = 0 from rfl, enc0]; rfl
  have e3 : tagByte 8 = 8 := by decide
  simp [ofIn, e1, e2, e3]
def lit1 : List UInt8 := [98, 97, 55, 56, 49, 54, 98, 102, 56, 102, 48, 49, 99, 102, 101, 97, 52, 49, 52, 49, 52, 48, 100, 101, 53, 100, 97, 101, 50, 50, 50, 51, 98, 48, 48, 51, 54, 49, 97, 51, 57, 54, 49, 55, 55, 97, 57, 99, 98, 52, 49, 48, 102, 102, 54, 49, 102, 50, 48, 48, 49, 53, 97, 100]
def lit2 : List UInt8 := [53, 98, 100, 99, 99, 49, 52, 54, 98, 102, 54, 48, 55, 53, 52, 101, 54, 97, 48, 52, 50, 52, 50, 54, 48, 56, 57, 53, 55, 53, 99, 55, 53, 97, 48, 48, 51, 102, 48, 56, 57, 100, 50, 55, 51, 57, 56, 51, 57, 100, 101, 99, 53, 56, 98, 57, 54, 52, 101, 99, 51, 56, 52, 51]
def lit3 : List UInt8 := [51, 54, 99, 100, 53, 48, 56, 53, 48, 51, 50, 57, 102, 56, 56, 52, 48, 54, 101, 51, 49, 98, 98, 56, 97, 55, 100, 56, 102, 98, 54, 50]
theorem ex1 : hexOf (sha abc) = lit1 := by
  rw [← shaF_eq]; decide +kernel
theorem ex2 : hexOf (mac jefe what) = lit2 := by
  rw [← macF_eq _ _ (by decide)]; decide +kernel
theorem ex3 : hexOf (ofDig 8 [[97], []]) = lit3 := by
  unfold ofDig
  rw [exOf, ← shaF_eq]; decide +kernel

end Hash
end Go.Proofs.YtciinlncflngdaaDoor
