/- The examples that every statement on wots plays first, worked out by the kernel. No condition. -/
import Derived.Test.YtmabbiemjeeicaaDoorZWoX0
import Derived.Test.YtmabbiemjeeicaaDoorZWoX1
import Derived.Test.YtmabbiemjeeicaaDoorZWoX2
import Derived.Test.YtmabbiemjeeicaaDoorZWoX3
import Derived.Test.YtmabbiemjeeicaaDoorZWoX4
namespace Go.Proofs.YtmabbiemjeeicaaDoor
namespace Wo
open Hash (ofDig)

def exE : List UInt8 := [29, 218, 181, 6, 220, 175, 170, 216, 16, 220, 46, 101, 10, 192, 94, 99, 55, 143, 116, 65, 15, 165, 149, 17, 156, 232, 14, 96, 53, 189, 184, 43, 30, 29, 173, 121, 185, 83, 204, 130, 120, 134, 155, 147, 248, 134, 88, 215, 86, 11, 20, 240, 6, 190, 5, 93, 140, 78, 250, 63, 80, 248, 53, 123, 5, 17, 110, 231, 191, 216, 88, 228, 24, 204, 128, 122, 18, 131, 133, 233, 200, 230, 223, 97, 105, 121, 148, 118, 66, 37, 97, 46, 95, 180, 142, 45, 55, 208, 234, 143, 212, 255, 42, 235, 228, 42, 229, 89, 233, 122, 254, 78, 248, 196, 8, 164, 90, 215, 120, 243, 43, 91, 51, 111, 228, 179, 166, 64, 58, 124, 227, 231, 153, 122, 69, 152, 83, 114, 233, 163, 231, 222, 73, 91, 65, 206, 182, 137, 21, 219, 76, 189, 217, 44, 166, 217, 91, 119, 160, 253, 123, 165, 244, 183, 49, 146, 128, 42, 240, 161, 118, 247, 230, 73, 117, 148, 142, 56, 168, 155, 137, 176, 222, 162, 25, 125, 28, 221, 185, 193, 125, 169, 108, 55, 142, 201, 121, 141, 7, 120, 238, 96, 255, 160, 197, 199, 32, 39, 183, 19, 241, 182, 103, 69, 28, 123, 95, 110, 170, 224, 144, 210, 64, 1, 164, 36, 255, 239, 74, 104, 20, 184, 77, 111, 251, 162, 110, 100, 64, 68, 127, 101, 120, 246, 131, 162, 250, 103, 89, 21, 206, 58, 74, 154, 230, 240, 110, 248, 71, 90, 222, 67, 103, 196, 42, 92, 136, 4, 94, 240, 75, 76, 138, 88, 211, 111, 176, 78, 5, 158, 168, 71, 129, 80, 180, 202, 95, 80, 92, 174, 136, 112, 100, 40, 58, 52, 248, 90, 153, 201, 250, 155, 69, 4, 28, 31, 187, 85, 228, 4, 38, 58, 144, 108, 42, 101, 111, 90, 141, 120, 83, 18, 137, 182, 122, 40, 224, 115, 31, 191, 44, 36, 83, 249, 203, 128, 26, 46, 6, 211, 124, 33, 191, 206, 247, 43, 22, 96, 240, 172, 83, 252, 187, 112, 218, 0, 135, 153, 224, 209, 41, 103, 107, 210, 21, 201, 25, 222, 95, 225, 224, 36, 146, 248, 80, 24, 87, 11, 170, 232, 174, 89, 238, 77, 219, 130, 62, 94, 105, 71, 161, 170, 233, 255, 5, 106, 101, 197, 69, 107, 24, 238, 235, 6, 210, 30, 221, 40, 190, 28, 66, 203, 129, 129, 140, 54, 130, 54, 197, 120, 251, 103, 148, 71, 65, 19, 206, 216, 241, 151, 17, 250, 140, 21, 247, 83, 157, 18, 13, 71, 228, 222, 163, 124, 132, 216, 123, 168, 1, 126, 97, 110, 55, 119, 118, 119, 55, 139, 122, 45, 166, 201, 70, 41, 109, 145, 2, 205, 151, 127, 34, 205, 82, 37, 208, 165, 140, 68, 180, 168, 201, 111, 65, 54, 136, 146, 202, 144, 62, 197, 27, 53, 46, 242, 86, 175, 57, 183, 235, 112, 231, 109, 141, 44, 63, 126, 121, 246, 25, 240, 121, 137, 18, 81, 32, 24, 142, 82, 211, 35, 132, 35, 40, 51, 223, 187, 131, 78, 204, 150, 223, 18, 59, 75, 102, 154, 209, 198, 219, 250, 49, 17, 71, 91, 122, 104, 94, 91, 93, 187, 38, 197, 16, 66, 166, 77, 225, 64, 186, 249]
def exR : List UInt8 := [140, 191, 173, 128, 31, 80, 113, 186, 199, 39, 39, 241, 51, 172, 26, 239, 25, 8, 52, 196, 33, 123, 119, 119, 146, 106, 235, 13, 153, 138, 218, 162, 179, 4, 103, 180, 70, 54, 118, 23, 194, 166, 182, 216, 0, 246, 217, 195, 69, 212, 87, 147, 150, 91, 109, 223, 10, 29, 159, 207, 201, 154, 151, 104, 13, 35, 70, 222, 189, 94, 81, 3, 94, 75, 15, 201, 148, 55, 173, 98, 214, 222, 12, 75, 39, 222, 104, 15, 12, 175, 155, 13, 99, 151, 54, 71, 81, 19, 12, 213, 23, 14, 58, 61, 158, 194, 12, 47, 27, 223, 120, 132, 169, 201, 55, 46, 37, 244, 24, 41, 120, 55, 182, 234, 4, 6, 81, 41, 116, 219, 227, 225, 190, 123, 253, 17, 46, 254, 9, 55, 40, 185, 91, 185, 90, 213, 31, 171, 107, 228, 180, 25, 86, 105, 62, 17, 177, 88, 2, 196, 71, 7, 110, 145, 66, 112, 255, 90, 65, 77, 78, 213, 251, 127, 152, 188, 120, 179, 74, 120, 34, 117, 241, 240, 108, 94, 6, 185, 30, 153, 134, 19, 117, 212, 192, 88, 147, 116, 96, 172, 136, 130, 34, 203, 126, 102, 49, 37, 192, 78, 42, 197, 16, 239, 150, 138, 36, 156, 231, 17, 193, 220, 138, 156, 2, 23, 234, 157, 16, 115, 116, 172, 61, 33, 90, 3, 146, 195, 70, 19, 38, 153, 238, 158, 193, 129, 115, 98, 183, 231, 105, 222, 171, 215, 49, 212, 255, 97, 19, 60, 120, 196, 228, 166, 18, 153, 27, 210, 161, 10, 46, 33, 33, 35, 122, 106, 170, 123, 61, 173, 186, 150, 174, 105, 75, 141, 31, 155, 115, 33, 20, 7, 240, 14, 25, 50, 37, 214, 105, 233, 54, 226, 206, 97, 255, 225, 32, 149, 238, 124, 81, 161, 164, 78, 106, 235, 251, 68, 176, 251, 170, 72, 201, 80, 179, 179, 127, 34, 5, 232, 47, 218, 222, 173, 44, 92, 93, 13, 173, 150, 145, 149, 165, 21, 141, 149, 87, 185, 36, 44, 23, 120, 148, 253, 119, 14, 150, 241, 125, 116, 202, 194, 231, 97, 207, 196, 73, 171, 48, 63, 50, 159, 110, 215, 208, 194, 91, 243, 32, 23, 254, 170, 92, 65, 209, 58, 219, 209, 229, 61, 112, 54, 64, 153, 72, 38, 245, 219, 243, 185, 41, 185, 75, 75, 214, 133, 202, 125, 240, 147, 178, 139, 184, 51, 137, 185, 53, 49, 124, 106, 162, 136, 121, 68, 152, 67, 31, 172, 3, 136, 200, 106, 5, 115, 131, 196, 25, 5, 166, 32, 255, 11, 85, 220, 136, 8, 56, 204, 180, 116, 166, 253, 79, 220, 61, 217, 78, 196, 93, 35, 144, 225, 192, 86, 230, 110, 88, 143, 227, 129, 144, 33, 210, 99, 85, 138, 220, 246, 107, 153, 89, 30, 34, 141, 128, 211, 2, 106, 25, 153, 93, 234, 103, 128, 71, 237, 231, 217, 111, 215, 103, 148, 67, 162, 8, 43, 213, 224, 53, 148, 242, 4, 99, 54, 146, 33, 200, 133, 182, 229, 86, 160, 149, 197, 175, 141, 119, 235, 81, 163, 10, 72, 136, 224, 228, 50, 8, 132, 121, 135, 177, 201, 6, 135, 122, 104, 94, 91, 93, 187, 38, 197, 16, 66, 166, 77, 225, 64, 186, 249]
def exP : List UInt8 := [237, 4, 79, 183, 14, 155, 166, 56, 127, 55, 90, 144, 3, 113, 88, 5]
def exQ : List UInt8 := [229, 163, 6, 171, 243, 103, 189, 223, 229, 204, 0, 233, 11, 21, 13, 230]
set_option maxRecDepth 100000 in
theorem ex_part : part (ends seedL) 35 = exE := by
  simp only [part, List.nil_append, exE0, exE1, exE2, exE3, exE4, exE5, exE6, exE7, exE8, exE9, exE10, exE11, exE12, exE13, exE14, exE15, exE16, exE17, exE18, exE19, exE20, exE21, exE22, exE23, exE24, exE25, exE26, exE27, exE28, exE29, exE30, exE31, exE32, exE33, exE34]
  rfl
set_option maxRecDepth 100000 in
theorem ex_pub : pub seedL = exP := by
  unfold pub
  rw [ex_part, ← bigF_eq (by decide)]; decide +kernel
def full : List UInt8 := List.replicate 16 255
/-- The value of chain k that the signature of zero leads to, for the digest full. -/
def rr (k : Nat) : List UInt8 := adv k (dig full k) 15 (adv k 0 (dig zero k) (start seedL k))
theorem exT0 : rr 0 = [140, 191, 173, 128, 31, 80, 113, 186, 199, 39, 39, 241, 51, 172, 26, 239] := by
  rw [rr, show dig full 0 = 15 by decide +kernel, show dig zero 0 = 0 by decide +kernel, adv_self, adv_self, exS0]
theorem exT1 : rr 1 = [25, 8, 52, 196, 33, 123, 119, 119, 146, 106, 235, 13, 153, 138, 218, 162] := by
  rw [rr, show dig full 1 = 15 by decide +kernel, show dig zero 1 = 0 by decide +kernel, adv_self, adv_self, exS1]
theorem exT2 : rr 2 = [179, 4, 103, 180, 70, 54, 118, 23, 194, 166, 182, 216, 0, 246, 217, 195] := by
  rw [rr, show dig full 2 = 15 by decide +kernel, show dig zero 2 = 0 by decide +kernel, adv_self, adv_self, exS2]
theorem exT3 : rr 3 = [69, 212, 87, 147, 150, 91, 109, 223, 10, 29, 159, 207, 201, 154, 151, 104] := by
  rw [rr, show dig full 3 = 15 by decide +kernel, show dig zero 3 = 0 by decide +kernel, adv_self, adv_self, exS3]
theorem exT4 : rr 4 = [13, 35, 70, 222, 189, 94, 81, 3, 94, 75, 15, 201, 148, 55, 173, 98] := by
  rw [rr, show dig full 4 = 15 by decide +kernel, show dig zero 4 = 0 by decide +kernel, adv_self, adv_self, exS4]
theorem exT5 : rr 5 = [214, 222, 12, 75, 39, 222, 104, 15, 12, 175, 155, 13, 99, 151, 54, 71] := by
  rw [rr, show dig full 5 = 15 by decide +kernel, show dig zero 5 = 0 by decide +kernel, adv_self, adv_self, exS5]
theorem exT6 : rr 6 = [81, 19, 12, 213, 23, 14, 58, 61, 158, 194, 12, 47, 27, 223, 120, 132] := by
  rw [rr, show dig full 6 = 15 by decide +kernel, show dig zero 6 = 0 by decide +kernel, adv_self, adv_self, exS6]
theorem exT7 : rr 7 = [169, 201, 55, 46, 37, 244, 24, 41, 120, 55, 182, 234, 4, 6, 81, 41] := by
  rw [rr, show dig full 7 = 15 by decide +kernel, show dig zero 7 = 0 by decide +kernel, adv_self, adv_self, exS7]
theorem exT8 : rr 8 = [116, 219, 227, 225, 190, 123, 253, 17, 46, 254, 9, 55, 40, 185, 91, 185] := by
  rw [rr, show dig full 8 = 15 by decide +kernel, show dig zero 8 = 0 by decide +kernel, adv_self, adv_self, exS8]
theorem exT9 : rr 9 = [90, 213, 31, 171, 107, 228, 180, 25, 86, 105, 62, 17, 177, 88, 2, 196] := by
  rw [rr, show dig full 9 = 15 by decide +kernel, show dig zero 9 = 0 by decide +kernel, adv_self, adv_self, exS9]
theorem exT10 : rr 10 = [71, 7, 110, 145, 66, 112, 255, 90, 65, 77, 78, 213, 251, 127, 152, 188] := by
  rw [rr, show dig full 10 = 15 by decide +kernel, show dig zero 10 = 0 by decide +kernel, adv_self, adv_self, exS10]
theorem exT11 : rr 11 = [120, 179, 74, 120, 34, 117, 241, 240, 108, 94, 6, 185, 30, 153, 134, 19] := by
  rw [rr, show dig full 11 = 15 by decide +kernel, show dig zero 11 = 0 by decide +kernel, adv_self, adv_self, exS11]
theorem exT12 : rr 12 = [117, 212, 192, 88, 147, 116, 96, 172, 136, 130, 34, 203, 126, 102, 49, 37] := by
  rw [rr, show dig full 12 = 15 by decide +kernel, show dig zero 12 = 0 by decide +kernel, adv_self, adv_self, exS12]
theorem exT13 : rr 13 = [192, 78, 42, 197, 16, 239, 150, 138, 36, 156, 231, 17, 193, 220, 138, 156] := by
  rw [rr, show dig full 13 = 15 by decide +kernel, show dig zero 13 = 0 by decide +kernel, adv_self, adv_self, exS13]
theorem exT14 : rr 14 = [2, 23, 234, 157, 16, 115, 116, 172, 61, 33, 90, 3, 146, 195, 70, 19] := by
  rw [rr, show dig full 14 = 15 by decide +kernel, show dig zero 14 = 0 by decide +kernel, adv_self, adv_self, exS14]
theorem exT15 : rr 15 = [38, 153, 238, 158, 193, 129, 115, 98, 183, 231, 105, 222, 171, 215, 49, 212] := by
  rw [rr, show dig full 15 = 15 by decide +kernel, show dig zero 15 = 0 by decide +kernel, adv_self, adv_self, exS15]
theorem exT16 : rr 16 = [255, 97, 19, 60, 120, 196, 228, 166, 18, 153, 27, 210, 161, 10, 46, 33] := by
  rw [rr, show dig full 16 = 15 by decide +kernel, show dig zero 16 = 0 by decide +kernel, adv_self, adv_self, exS16]
theorem exT17 : rr 17 = [33, 35, 122, 106, 170, 123, 61, 173, 186, 150, 174, 105, 75, 141, 31, 155] := by
  rw [rr, show dig full 17 = 15 by decide +kernel, show dig zero 17 = 0 by decide +kernel, adv_self, adv_self, exS17]
theorem exT18 : rr 18 = [115, 33, 20, 7, 240, 14, 25, 50, 37, 214, 105, 233, 54, 226, 206, 97] := by
  rw [rr, show dig full 18 = 15 by decide +kernel, show dig zero 18 = 0 by decide +kernel, adv_self, adv_self, exS18]
theorem exT19 : rr 19 = [255, 225, 32, 149, 238, 124, 81, 161, 164, 78, 106, 235, 251, 68, 176, 251] := by
  rw [rr, show dig full 19 = 15 by decide +kernel, show dig zero 19 = 0 by decide +kernel, adv_self, adv_self, exS19]
theorem exT20 : rr 20 = [170, 72, 201, 80, 179, 179, 127, 34, 5, 232, 47, 218, 222, 173, 44, 92] := by
  rw [rr, show dig full 20 = 15 by decide +kernel, show dig zero 20 = 0 by decide +kernel, adv_self, adv_self, exS20]
theorem exT21 : rr 21 = [93, 13, 173, 150, 145, 149, 165, 21, 141, 149, 87, 185, 36, 44, 23, 120] := by
  rw [rr, show dig full 21 = 15 by decide +kernel, show dig zero 21 = 0 by decide +kernel, adv_self, adv_self, exS21]
theorem exT22 : rr 22 = [148, 253, 119, 14, 150, 241, 125, 116, 202, 194, 231, 97, 207, 196, 73, 171] := by
  rw [rr, show dig full 22 = 15 by decide +kernel, show dig zero 22 = 0 by decide +kernel, adv_self, adv_self, exS22]
theorem exT23 : rr 23 = [48, 63, 50, 159, 110, 215, 208, 194, 91, 243, 32, 23, 254, 170, 92, 65] := by
  rw [rr, show dig full 23 = 15 by decide +kernel, show dig zero 23 = 0 by decide +kernel, adv_self, adv_self, exS23]
theorem exT24 : rr 24 = [209, 58, 219, 209, 229, 61, 112, 54, 64, 153, 72, 38, 245, 219, 243, 185] := by
  rw [rr, show dig full 24 = 15 by decide +kernel, show dig zero 24 = 0 by decide +kernel, adv_self, adv_self, exS24]
theorem exT25 : rr 25 = [41, 185, 75, 75, 214, 133, 202, 125, 240, 147, 178, 139, 184, 51, 137, 185] := by
  rw [rr, show dig full 25 = 15 by decide +kernel, show dig zero 25 = 0 by decide +kernel, adv_self, adv_self, exS25]
theorem exT26 : rr 26 = [53, 49, 124, 106, 162, 136, 121, 68, 152, 67, 31, 172, 3, 136, 200, 106] := by
  rw [rr, show dig full 26 = 15 by decide +kernel, show dig zero 26 = 0 by decide +kernel, adv_self, adv_self, exS26]
theorem exT27 : rr 27 = [5, 115, 131, 196, 25, 5, 166, 32, 255, 11, 85, 220, 136, 8, 56, 204] := by
  rw [rr, show dig full 27 = 15 by decide +kernel, show dig zero 27 = 0 by decide +kernel, adv_self, adv_self, exS27]
theorem exT28 : rr 28 = [180, 116, 166, 253, 79, 220, 61, 217, 78, 196, 93, 35, 144, 225, 192, 86] := by
  rw [rr, show dig full 28 = 15 by decide +kernel, show dig zero 28 = 0 by decide +kernel, adv_self, adv_self, exS28]
theorem exT29 : rr 29 = [230, 110, 88, 143, 227, 129, 144, 33, 210, 99, 85, 138, 220, 246, 107, 153] := by
  rw [rr, show dig full 29 = 15 by decide +kernel, show dig zero 29 = 0 by decide +kernel, adv_self, adv_self, exS29]
theorem exT30 : rr 30 = [89, 30, 34, 141, 128, 211, 2, 106, 25, 153, 93, 234, 103, 128, 71, 237] := by
  rw [rr, show dig full 30 = 15 by decide +kernel, show dig zero 30 = 0 by decide +kernel, adv_self, adv_self, exS30]
theorem exT31 : rr 31 = [231, 217, 111, 215, 103, 148, 67, 162, 8, 43, 213, 224, 53, 148, 242, 4] := by
  rw [rr, show dig full 31 = 15 by decide +kernel, show dig zero 31 = 0 by decide +kernel, adv_self, adv_self, exS31]
theorem exT32 : rr 32 = [99, 54, 146, 33, 200, 133, 182, 229, 86, 160, 149, 197, 175, 141, 119, 235] := by
  rw [rr, show dig full 32 = 0 by decide +kernel, show dig zero 32 = 1 by decide +kernel, exR32]
theorem exT33 : rr 33 = [81, 163, 10, 72, 136, 224, 228, 50, 8, 132, 121, 135, 177, 201, 6, 135] := by
  rw [rr, show dig full 33 = 0 by decide +kernel, show dig zero 33 = 14 by decide +kernel, exR33]
theorem exT34 : rr 34 = [122, 104, 94, 91, 93, 187, 38, 197, 16, 66, 166, 77, 225, 64, 186, 249] := by
  rw [rr, show dig full 34 = 0 by decide +kernel, show dig zero 34 = 0 by decide +kernel, adv_self]
  exact exE34
set_option maxRecDepth 100000 in
theorem ex_rpart : part (led full (sign seedL zero)) 35 = exR := by
  have h : ∀ k, k < 35 → led full (sign seedL zero) k = rr k := fun k hk => by unfold led rr; rw [piece_sign seedL zero hk]; rfl
  rw [part_congr h]
  simp only [part, List.nil_append, exT0, exT1, exT2, exT3, exT4, exT5, exT6, exT7, exT8, exT9, exT10, exT11, exT12, exT13, exT14, exT15, exT16, exT17, exT18, exT19, exT20, exT21, exT22, exT23, exT24, exT25, exT26, exT27, exT28, exT29, exT30, exT31, exT32, exT33, exT34]
  rfl
set_option maxRecDepth 100000 in
theorem ex_rec : recov full (sign seedL zero) = exQ := by
  unfold recov
  rw [ex_rpart, ← bigF_eq (by decide)]; decide +kernel
theorem ex_ne : ¬ recov full (sign seedL zero) = pub seedL := by rw [ex_rec, ex_pub]; decide
theorem ex_adv : ¬ adv 0 0 1 zero = zero := by rw [← advF_eq (by decide)]; decide +kernel
theorem ex_zero : digs zero = List.replicate 32 0 ++ [1, 14, 0] := by decide +kernel
theorem ex_full : digs full = List.replicate 32 15 ++ [0, 0, 0] := by decide +kernel

end Wo
end Go.Proofs.YtmabbiemjeeicaaDoor
