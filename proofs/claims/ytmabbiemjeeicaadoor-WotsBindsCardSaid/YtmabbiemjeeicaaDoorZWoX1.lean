/- The chains 7 to 13 of the example, worked out by the kernel. No condition. -/
import Derived.Test.YtmabbiemjeeicaaDoorM8
namespace Go.Proofs.YtmabbiemjeeicaaDoor
namespace Wo
theorem exS7 : start seedL 7 = [169, 201, 55, 46, 37, 244, 24, 41, 120, 55, 182, 234, 4, 6, 81, 41] := by
  rw [← startF_eq (by decide)]; decide +kernel
theorem exE7 : ends seedL 7 = [248, 196, 8, 164, 90, 215, 120, 243, 43, 91, 51, 111, 228, 179, 166, 64] := by
  rw [ends, exS7, ← advF_eq (by decide)]; decide +kernel
theorem exS8 : start seedL 8 = [116, 219, 227, 225, 190, 123, 253, 17, 46, 254, 9, 55, 40, 185, 91, 185] := by
  rw [← startF_eq (by decide)]; decide +kernel
theorem exE8 : ends seedL 8 = [58, 124, 227, 231, 153, 122, 69, 152, 83, 114, 233, 163, 231, 222, 73, 91] := by
  rw [ends, exS8, ← advF_eq (by decide)]; decide +kernel
theorem exS9 : start seedL 9 = [90, 213, 31, 171, 107, 228, 180, 25, 86, 105, 62, 17, 177, 88, 2, 196] := by
  rw [← startF_eq (by decide)]; decide +kernel
theorem exE9 : ends seedL 9 = [65, 206, 182, 137, 21, 219, 76, 189, 217, 44, 166, 217, 91, 119, 160, 253] := by
  rw [ends, exS9, ← advF_eq (by decide)]; decide +kernel
theorem exS10 : start seedL 10 = [71, 7, 110, 145, 66, 112, 255, 90, 65, 77, 78, 213, 251, 127, 152, 188] := by
  rw [← startF_eq (by decide)]; decide +kernel
theorem exE10 : ends seedL 10 = [123, 165, 244, 183, 49, 146, 128, 42, 240, 161, 118, 247, 230, 73, 117, 148] := by
  rw [ends, exS10, ← advF_eq (by decide)]; decide +kernel
theorem exS11 : start seedL 11 = [120, 179, 74, 120, 34, 117, 241, 240, 108, 94, 6, 185, 30, 153, 134, 19] := by
  rw [← startF_eq (by decide)]; decide +kernel
theorem exE11 : ends seedL 11 = [142, 56, 168, 155, 137, 176, 222, 162, 25, 125, 28, 221, 185, 193, 125, 169] := by
  rw [ends, exS11, ← advF_eq (by decide)]; decide +kernel
theorem exS12 : start seedL 12 = [117, 212, 192, 88, 147, 116, 96, 172, 136, 130, 34, 203, 126, 102, 49, 37] := by
  rw [← startF_eq (by decide)]; decide +kernel
theorem exE12 : ends seedL 12 = [108, 55, 142, 201, 121, 141, 7, 120, 238, 96, 255, 160, 197, 199, 32, 39] := by
  rw [ends, exS12, ← advF_eq (by decide)]; decide +kernel
theorem exS13 : start seedL 13 = [192, 78, 42, 197, 16, 239, 150, 138, 36, 156, 231, 17, 193, 220, 138, 156] := by
  rw [← startF_eq (by decide)]; decide +kernel
theorem exE13 : ends seedL 13 = [183, 19, 241, 182, 103, 69, 28, 123, 95, 110, 170, 224, 144, 210, 64, 1] := by
  rw [ends, exS13, ← advF_eq (by decide)]; decide +kernel

end Wo
end Go.Proofs.YtmabbiemjeeicaaDoor
