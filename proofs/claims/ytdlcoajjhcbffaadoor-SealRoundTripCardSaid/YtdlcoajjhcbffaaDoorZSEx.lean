/- The example that every statement on seal plays first, worked out by the kernel. No condition. -/
import Derived.Test.YtdlcoajjhcbffaaDoorZSeal
import Derived.Test.YtdlcoajjhcbffaaDoorZShaF
namespace Go.Proofs.YtdlcoajjhcbffaaDoor
namespace Seal
open Hash (mac macF macF_eq)

def exK : List UInt8 := List.replicate 32 107
def exT : List UInt8 := [116, 101, 120, 116]
def ekK : List UInt8 := [238, 226, 18, 95, 111, 182, 41, 239, 103, 209, 2, 100, 239, 7, 244, 40, 137, 36, 79, 150, 150, 201, 99, 117, 92, 0, 40, 138, 227, 116, 234, 86]
def mkK : List UInt8 := [6, 140, 13, 137, 188, 84, 243, 157, 254, 34, 11, 202, 224, 245, 222, 181, 148, 133, 252, 76, 241, 137, 65, 48, 114, 184, 187, 225, 57, 216, 208, 1]
def nK : List UInt8 := [43, 242, 99, 221, 65, 83, 238, 17, 202, 228, 218, 83]
def cK : List UInt8 := [241, 10, 44, 90]
def tA : List UInt8 := [249, 73, 245, 110, 131, 195, 56, 148, 108, 76, 168, 51, 44, 38, 241, 57]
def tB : List UInt8 := [183, 88, 136, 68, 24, 248, 219, 94, 114, 218, 205, 93, 29, 195, 55, 198]
theorem exEk : ek exK = ekK := by unfold ek; rw [← macF_eq _ _ (by decide)]; decide +kernel
theorem exMk : mk exK = mkK := by unfold mk; rw [← macF_eq _ _ (by decide)]; decide +kernel
theorem encOne (x : UInt8) : Wire.encStr [x] = [129, 1, x] := by
  show Wire.enc ((1 : Nat) : Int) ++ [x] = _
  rw [show ((1 : Nat) : Int) = 1 from rfl, Hash.enc1]; rfl
theorem exN : nonceOf mkK [97] exT = nK := by
  unfold nonceOf nonceIn
  rw [encOne, ← macF_eq _ _ (by decide)]
  decide +kernel
theorem exC : cipherOf exK nK exT = cK := by
  have h : Cha.blk (Cha.start ekK 1 nK) = [133, 111, 84, 46, 59, 25, 180, 88, 21, 71, 145, 90, 64, 62, 86, 164, 49, 38, 25, 2, 7, 93, 103, 246, 162, 75, 52, 42, 33, 10, 24, 39, 135, 72, 195, 120, 212, 33, 155, 195, 69, 26, 106, 82, 1, 146, 20, 237, 168, 215, 181, 110, 98, 160, 109, 180, 212, 194, 188, 60, 48, 133, 83, 21] := by rw [← Cha.blkF_eq]; decide +kernel
  have hk : ∀ j, j < 4 → Cha.ks ekK 1 nK j = ([133, 111, 84, 46, 59, 25, 180, 88, 21, 71, 145, 90, 64, 62, 86, 164, 49, 38, 25, 2, 7, 93, 103, 246, 162, 75, 52, 42, 33, 10, 24, 39, 135, 72, 195, 120, 212, 33, 155, 195, 69, 26, 106, 82, 1, 146, 20, 237, 168, 215, 181, 110, 98, 160, 109, 180, 212, 194, 188, 60, 48, 133, 83, 21] : List UInt8).getD j 0 := by
    intro j hj
    unfold Cha.ks
    rw [show (1 + j / 64) % 4294967296 = 1 by omega, h, show j % 64 = j by omega]
  unfold cipherOf
  rw [exEk]
  have h0 := hk 0 (by omega)
  have h1 := hk 1 (by omega)
  have h2 := hk 2 (by omega)
  have h3 := hk 3 (by omega)
  simp only [List.getD_cons_zero, List.getD_cons_succ] at h0 h1 h2 h3
  simp only [Cha.xor, exT, List.mapIdx_cons, List.mapIdx_nil, h0, h1, h2, h3, Nat.zero_add]
  decide
theorem exTa : tagOf mkK nK [97] cK = tA := by
  unfold tagOf tagIn
  rw [encOne, ← macF_eq _ _ (by decide)]
  decide +kernel
theorem exTb : tagOf mkK nK [98] cK = tB := by
  unfold tagOf tagIn
  rw [encOne, ← macF_eq _ _ (by decide)]
  decide +kernel

/-- The example's sealed text. -/
def exS : List UInt8 := nK ++ cK ++ tA
theorem ex_sealed : sealed exK [97] exT = exS := by
  unfold sealed
  rw [exMk, exN, exC, exTa]
  rfl
theorem ex_length : exS.length = 32 := rfl
theorem ex_opened : opened exK [97] exS = some exT := by rw [← ex_sealed]; exact opened_sealed _ _ _
theorem ex_other : opened exK [98] exS = none := by
  have h1 : part1 exS = nK := by decide
  have h2 : part2 exS = cK := by decide
  have h3 : part3 exS = tA := by decide
  unfold opened
  rw [h1, h2, h3, exMk, exTb, if_neg]
  intro h
  exact absurd h.1 (by decide)
theorem ex_keys : ¬ ekK = mkK := by decide

end Seal
end Go.Proofs.YtdlcoajjhcbffaaDoor
