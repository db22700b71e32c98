/- The chains 14 to 20 of the example, worked out by the kernel. No condition. -/
import Derived.Test.YtmabbiemjeeicaaDoorM8
namespace Go.Proofs.YtmabbiemjeeicaaDoor
namespace Wo
theorem exS14 : start seedL 14 = [2, 23, 234, 157, 16, 115, 116, 172, 61, 33, 90, 3, 146, 195, 70, 19] := by
  rw [← startF_eq (by decide)]; decide +kernel
theorem exE14 : ends seedL 14 = [164, 36, 255, 239, 74, 104, 20, 184, 77, 111, 251, 162, 110, 100, 64, 68] := by
  rw [ends, exS14, ← advF_eq (by decide)]; decide +kernel
theorem exS15 : start seedL 15 = [38, 153, 238, 158, 193, 129, 115, 98, 183, 231, 105, 222, 171, 215, 49, 212] := by
  rw [← startF_eq (by decide)]; decide +kernel
theorem exE15 : ends seedL 15 = [127, 101, 120, 246, 131, 162, 250, 103, 89, 21, 206, 58, 74, 154, 230, 240] := by
  rw [ends, exS15, ← advF_eq (by decide)]; decide +kernel
theorem exS16 : start seedL 16 = [255, 97, 19, 60, 120, 196, 228, 166, 18, 153, 27, 210, 161, 10, 46, 33] := by
  rw [← startF_eq (by decide)]; decide +kernel
theorem exE16 : ends seedL 16 = [110, 248, 71, 90, 222, 67, 103, 196, 42, 92, 136, 4, 94, 240, 75, 76] := by
  rw [ends, exS16, ← advF_eq (by decide)]; decide +kernel
theorem exS17 : start seedL 17 = [33, 35, 122, 106, 170, 123, 61, 173, 186, 150, 174, 105, 75, 141, 31, 155] := by
  rw [← startF_eq (by decide)]; decide +kernel
theorem exE17 : ends seedL 17 = [138, 88, 211, 111, 176, 78, 5, 158, 168, 71, 129, 80, 180, 202, 95, 80] := by
  rw [ends, exS17, ← advF_eq (by decide)]; decide +kernel
theorem exS18 : start seedL 18 = [115, 33, 20, 7, 240, 14, 25, 50, 37, 214, 105, 233, 54, 226, 206, 97] := by
  rw [← startF_eq (by decide)]; decide +kernel
theorem exE18 : ends seedL 18 = [92, 174, 136, 112, 100, 40, 58, 52, 248, 90, 153, 201, 250, 155, 69, 4] := by
  rw [ends, exS18, ← advF_eq (by decide)]; decide +kernel
theorem exS19 : start seedL 19 = [255, 225, 32, 149, 238, 124, 81, 161, 164, 78, 106, 235, 251, 68, 176, 251] := by
  rw [← startF_eq (by decide)]; decide +kernel
theorem exE19 : ends seedL 19 = [28, 31, 187, 85, 228, 4, 38, 58, 144, 108, 42, 101, 111, 90, 141, 120] := by
  rw [ends, exS19, ← advF_eq (by decide)]; decide +kernel
theorem exS20 : start seedL 20 = [170, 72, 201, 80, 179, 179, 127, 34, 5, 232, 47, 218, 222, 173, 44, 92] := by
  rw [← startF_eq (by decide)]; decide +kernel
theorem exE20 : ends seedL 20 = [83, 18, 137, 182, 122, 40, 224, 115, 31, 191, 44, 36, 83, 249, 203, 128] := by
  rw [ends, exS20, ← advF_eq (by decide)]; decide +kernel

end Wo
end Go.Proofs.YtmabbiemjeeicaaDoor
