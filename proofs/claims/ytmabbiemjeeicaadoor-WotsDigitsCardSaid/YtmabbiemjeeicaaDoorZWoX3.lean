/- The chains 21 to 27 of the example, worked out by the kernel. No condition. -/
import Derived.Test.YtmabbiemjeeicaaDoorM8
namespace Go.Proofs.YtmabbiemjeeicaaDoor
namespace Wo
theorem exS21 : start seedL 21 = [93, 13, 173, 150, 145, 149, 165, 21, 141, 149, 87, 185, 36, 44, 23, 120] := by
  rw [← startF_eq (by decide)]; decide +kernel
theorem exE21 : ends seedL 21 = [26, 46, 6, 211, 124, 33, 191, 206, 247, 43, 22, 96, 240, 172, 83, 252] := by
  rw [ends, exS21, ← advF_eq (by decide)]; decide +kernel
theorem exS22 : start seedL 22 = [148, 253, 119, 14, 150, 241, 125, 116, 202, 194, 231, 97, 207, 196, 73, 171] := by
  rw [← startF_eq (by decide)]; decide +kernel
theorem exE22 : ends seedL 22 = [187, 112, 218, 0, 135, 153, 224, 209, 41, 103, 107, 210, 21, 201, 25, 222] := by
  rw [ends, exS22, ← advF_eq (by decide)]; decide +kernel
theorem exS23 : start seedL 23 = [48, 63, 50, 159, 110, 215, 208, 194, 91, 243, 32, 23, 254, 170, 92, 65] := by
  rw [← startF_eq (by decide)]; decide +kernel
theorem exE23 : ends seedL 23 = [95, 225, 224, 36, 146, 248, 80, 24, 87, 11, 170, 232, 174, 89, 238, 77] := by
  rw [ends, exS23, ← advF_eq (by decide)]; decide +kernel
theorem exS24 : start seedL 24 = [209, 58, 219, 209, 229, 61, 112, 54, 64, 153, 72, 38, 245, 219, 243, 185] := by
  rw [← startF_eq (by decide)]; decide +kernel
theorem exE24 : ends seedL 24 = [219, 130, 62, 94, 105, 71, 161, 170, 233, 255, 5, 106, 101, 197, 69, 107] := by
  rw [ends, exS24, ← advF_eq (by decide)]; decide +kernel
theorem exS25 : start seedL 25 = [41, 185, 75, 75, 214, 133, 202, 125, 240, 147, 178, 139, 184, 51, 137, 185] := by
  rw [← startF_eq (by decide)]; decide +kernel
theorem exE25 : ends seedL 25 = [24, 238, 235, 6, 210, 30, 221, 40, 190, 28, 66, 203, 129, 129, 140, 54] := by
  rw [ends, exS25, ← advF_eq (by decide)]; decide +kernel
theorem exS26 : start seedL 26 = [53, 49, 124, 106, 162, 136, 121, 68, 152, 67, 31, 172, 3, 136, 200, 106] := by
  rw [← startF_eq (by decide)]; decide +kernel
theorem exE26 : ends seedL 26 = [130, 54, 197, 120, 251, 103, 148, 71, 65, 19, 206, 216, 241, 151, 17, 250] := by
  rw [ends, exS26, ← advF_eq (by decide)]; decide +kernel
theorem exS27 : start seedL 27 = [5, 115, 131, 196, 25, 5, 166, 32, 255, 11, 85, 220, 136, 8, 56, 204] := by
  rw [← startF_eq (by decide)]; decide +kernel
theorem exE27 : ends seedL 27 = [140, 21, 247, 83, 157, 18, 13, 71, 228, 222, 163, 124, 132, 216, 123, 168] := by
  rw [ends, exS27, ← advF_eq (by decide)]; decide +kernel

end Wo
end Go.Proofs.YtmabbiemjeeicaaDoor
