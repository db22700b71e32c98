/- SHA-256 and HMAC for the kernel to evaluate: each step is forced. No condition. -/
import Derived.Test.YtlnnognknalehaaDoorZSha
namespace Go.Proofs.YtlnnognknalehaaDoor
namespace Hash
def blocksF (l : List UInt8) : Nat → List Nat
  | 0 => h0
  | n + 1 => compF (blocksF l n) ((l.drop (64 * n)).take 64)
theorem blocksF_eq (l : List UInt8) : ∀ n, blocksF l n = blocks l n
  | 0 => rfl
  | n + 1 => by simp only [blocksF, blocks, compF_eq, blocksF_eq l n]
def shaF (l : List UInt8) : List UInt8 := (blocksF (pad l) ((pad l).length / 64)).flatMap wordBytes
theorem shaF_eq (l : List UInt8) : shaF l = sha l := by simp only [shaF, sha, blocksF_eq]
def keyBlockF (key : List UInt8) (m : UInt8) : List UInt8 := (key ++ zeros (64 - key.length)).map (· ^^^ m)
def macF (key text : List UInt8) : List UInt8 := shaF (keyBlockF key 0x5c ++ shaF (keyBlockF key 0x36 ++ text))
theorem macF_eq (key text : List UInt8) (h : ¬ 64 < key.length) : macF key text = mac key text := by
  simp only [macF, mac, shaF_eq, keyBlock, keyBlockF, if_neg h]
theorem enc0 : Wire.enc 0 = [128] := by simp [Wire.enc, Wire.magn, Wire.digs_zero, Wire.head]
theorem enc1 : Wire.enc 1 = [129, 1] := by simp [Wire.enc, Wire.magn, Wire.digs_pos, Wire.digs_zero, Wire.head, Wire.flip]

end Hash
end Go.Proofs.YtlnnognknalehaaDoor
