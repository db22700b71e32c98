/- The chains 0 to 6 of the example, worked out by the kernel. No condition. -/
import Derived.Test.YtmabbiemjeeicaaDoorM8
namespace Go.Proofs.YtmabbiemjeeicaaDoor
namespace Wo
theorem exS0 : start seedL 0 = [140, 191, 173, 128, 31, 80, 113, 186, 199, 39, 39, 241, 51, 172, 26, 239] := by
  rw [← startF_eq (by decide)]; decide +kernel
theorem exE0 : ends seedL 0 = [29, 218, 181, 6, 220, 175, 170, 216, 16, 220, 46, 101, 10, 192, 94, 99] := by
  rw [ends, exS0, ← advF_eq (by decide)]; decide +kernel
theorem exS1 : start seedL 1 = [25, 8, 52, 196, 33, 123, 119, 119, 146, 106, 235, 13, 153, 138, 218, 162] := by
  rw [← startF_eq (by decide)]; decide +kernel
theorem exE1 : ends seedL 1 = [55, 143, 116, 65, 15, 165, 149, 17, 156, 232, 14, 96, 53, 189, 184, 43] := by
  rw [ends, exS1, ← advF_eq (by decide)]; decide +kernel
theorem exS2 : start seedL 2 = [179, 4, 103, 180, 70, 54, 118, 23, 194, 166, 182, 216, 0, 246, 217, 195] := by
  rw [← startF_eq (by decide)]; decide +kernel
theorem exE2 : ends seedL 2 = [30, 29, 173, 121, 185, 83, 204, 130, 120, 134, 155, 147, 248, 134, 88, 215] := by
  rw [ends, exS2, ← advF_eq (by decide)]; decide +kernel
theorem exS3 : start seedL 3 = [69, 212, 87, 147, 150, 91, 109, 223, 10, 29, 159, 207, 201, 154, 151, 104] := by
  rw [← startF_eq (by decide)]; decide +kernel
theorem exE3 : ends seedL 3 = [86, 11, 20, 240, 6, 190, 5, 93, 140, 78, 250, 63, 80, 248, 53, 123] := by
  rw [ends, exS3, ← advF_eq (by decide)]; decide +kernel
theorem exS4 : start seedL 4 = [13, 35, 70, 222, 189, 94, 81, 3, 94, 75, 15, 201, 148, 55, 173, 98] := by
  rw [← startF_eq (by decide)]; decide +kernel
theorem exE4 : ends seedL 4 = [5, 17, 110, 231, 191, 216, 88, 228, 24, 204, 128, 122, 18, 131, 133, 233] := by
  rw [ends, exS4, ← advF_eq (by decide)]; decide +kernel
theorem exS5 : start seedL 5 = [214, 222, 12, 75, 39, 222, 104, 15, 12, 175, 155, 13, 99, 151, 54, 71] := by
  rw [← startF_eq (by decide)]; decide +kernel
theorem exE5 : ends seedL 5 = [200, 230, 223, 97, 105, 121, 148, 118, 66, 37, 97, 46, 95, 180, 142, 45] := by
  rw [ends, exS5, ← advF_eq (by decide)]; decide +kernel
theorem exS6 : start seedL 6 = [81, 19, 12, 213, 23, 14, 58, 61, 158, 194, 12, 47, 27, 223, 120, 132] := by
  rw [← startF_eq (by decide)]; decide +kernel
theorem exE6 : ends seedL 6 = [55, 208, 234, 143, 212, 255, 42, 235, 228, 42, 229, 89, 233, 122, 254, 78] := by
  rw [ends, exS6, ← advF_eq (by decide)]; decide +kernel

end Wo
end Go.Proofs.YtmabbiemjeeicaaDoor
