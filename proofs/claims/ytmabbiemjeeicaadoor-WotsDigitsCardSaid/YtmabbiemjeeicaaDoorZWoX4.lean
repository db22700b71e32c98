/- The chains 28 to 34 of the example, worked out by the kernel. No condition. -/
import Derived.Test.YtmabbiemjeeicaaDoorM8
namespace Go.Proofs.YtmabbiemjeeicaaDoor
namespace Wo
theorem exS28 : start seedL 28 = [180, 116, 166, 253, 79, 220, 61, 217, 78, 196, 93, 35, 144, 225, 192, 86] := by
  rw [← startF_eq (by decide)]; decide +kernel
theorem exE28 : ends seedL 28 = [1, 126, 97, 110, 55, 119, 118, 119, 55, 139, 122, 45, 166, 201, 70, 41] := by
  rw [ends, exS28, ← advF_eq (by decide)]; decide +kernel
theorem exS29 : start seedL 29 = [230, 110, 88, 143, 227, 129, 144, 33, 210, 99, 85, 138, 220, 246, 107, 153] := by
  rw [← startF_eq (by decide)]; decide +kernel
theorem exE29 : ends seedL 29 = [109, 145, 2, 205, 151, 127, 34, 205, 82, 37, 208, 165, 140, 68, 180, 168] := by
  rw [ends, exS29, ← advF_eq (by decide)]; decide +kernel
theorem exS30 : start seedL 30 = [89, 30, 34, 141, 128, 211, 2, 106, 25, 153, 93, 234, 103, 128, 71, 237] := by
  rw [← startF_eq (by decide)]; decide +kernel
theorem exE30 : ends seedL 30 = [201, 111, 65, 54, 136, 146, 202, 144, 62, 197, 27, 53, 46, 242, 86, 175] := by
  rw [ends, exS30, ← advF_eq (by decide)]; decide +kernel
theorem exS31 : start seedL 31 = [231, 217, 111, 215, 103, 148, 67, 162, 8, 43, 213, 224, 53, 148, 242, 4] := by
  rw [← startF_eq (by decide)]; decide +kernel
theorem exE31 : ends seedL 31 = [57, 183, 235, 112, 231, 109, 141, 44, 63, 126, 121, 246, 25, 240, 121, 137] := by
  rw [ends, exS31, ← advF_eq (by decide)]; decide +kernel
theorem exS32 : start seedL 32 = [21, 63, 242, 58, 88, 226, 210, 213, 25, 242, 255, 68, 148, 14, 175, 29] := by
  rw [← startF_eq (by decide)]; decide +kernel
theorem exE32 : ends seedL 32 = [18, 81, 32, 24, 142, 82, 211, 35, 132, 35, 40, 51, 223, 187, 131, 78] := by
  rw [ends, exS32, ← advF_eq (by decide)]; decide +kernel
theorem exM32 : adv 32 0 1 (start seedL 32) = [62, 130, 87, 76, 206, 175, 98, 236, 252, 137, 74, 59, 3, 177, 42, 132] := by
  rw [exS32, ← advF_eq (by decide)]; decide +kernel
theorem exR32 : adv 32 0 15 (adv 32 0 1 (start seedL 32)) = [99, 54, 146, 33, 200, 133, 182, 229, 86, 160, 149, 197, 175, 141, 119, 235] := by
  rw [exM32, ← advF_eq (by decide)]; decide +kernel
theorem exS33 : start seedL 33 = [87, 122, 113, 172, 171, 27, 173, 43, 146, 18, 5, 119, 162, 125, 158, 255] := by
  rw [← startF_eq (by decide)]; decide +kernel
theorem exE33 : ends seedL 33 = [204, 150, 223, 18, 59, 75, 102, 154, 209, 198, 219, 250, 49, 17, 71, 91] := by
  rw [ends, exS33, ← advF_eq (by decide)]; decide +kernel
theorem exM33 : adv 33 0 14 (start seedL 33) = [51, 179, 78, 160, 232, 255, 157, 175, 250, 228, 242, 203, 35, 95, 219, 178] := by
  rw [exS33, ← advF_eq (by decide)]; decide +kernel
theorem exR33 : adv 33 0 15 (adv 33 0 14 (start seedL 33)) = [81, 163, 10, 72, 136, 224, 228, 50, 8, 132, 121, 135, 177, 201, 6, 135] := by
  rw [exM33, ← advF_eq (by decide)]; decide +kernel
theorem exS34 : start seedL 34 = [54, 148, 30, 9, 132, 29, 113, 35, 32, 41, 38, 28, 76, 217, 15, 136] := by
  rw [← startF_eq (by decide)]; decide +kernel
theorem exE34 : ends seedL 34 = [122, 104, 94, 91, 93, 187, 38, 197, 16, 66, 166, 77, 225, 64, 186, 249] := by
  rw [ends, exS34, ← advF_eq (by decide)]; decide +kernel

end Wo
end Go.Proofs.YtmabbiemjeeicaaDoor
