/- Bytes and bits for package field: a byte is returned, sums of bytes. No condition. -/
import Derived.Test.YtfeifmcgcgmhnaaRow
import Derived.Test.YtfeifmcgcgmhnaaGfL
import Derived.Deep.QuietTactic
import Derived.BigQuiet
import Derived.Deep.Draws
import Derived.StillTailTactics
namespace Go.Proofs.Ytfeifmcgcgmhnaa
open Go.RowKit
namespace Gf

/-- A byte is returned; the memory is as it was. -/
def GivesB (b : UInt8) (w : World) (e : Ending) (w1 : World) : Prop := e = .returned (.int .u8 (b.toNat : Int)) ∧ Below w.heap.size w w1
/-- A byte and an error number. -/
def GivesE (b : UInt8) (n : Int) (w : World) (e : Ending) (w1 : World) : Prop := e = .returned (.tuple #[.int .u8 (b.toNat : Int), .int .i64 n]) ∧ Below w.heap.size w w1
theorem bcj {w w1 w2 : World} (h1 : Below w.heap.size w w1) (h2 : Below w1.heap.size w1 w2) : Below w.heap.size w w2 := h1.trans (h2.mono h1.size)
theorem belowN {B : Nat} {w W : World} (h : Below B w W) (n : Nat) : Below B w (W.drewN n) := ⟨h.os, h.tape, h.output, h.size, h.block⟩
theorem ofInt8 (a : UInt8) : (BitVec.ofInt 8 (a.toNat : Int)).toNat = a.toNat := by
  have := a.toNat_lt
  rw [BitVec.ofInt_natCast, BitVec.toNat_ofNat]; exact Nat.mod_eq_of_lt (by omega)
theorem xor8 (a b : UInt8) : bits .xor .u8 (a.toNat : Int) (b.toNat : Int) = ((a ^^^ b).toNat : Int) := by
  have h := (a ^^^ b).toNat_lt
  show IntKind.u8.wrap ((BitVec.ofInt 8 (a.toNat : Int) ^^^ BitVec.ofInt 8 (b.toNat : Int)).toNat : Int) = _
  rw [BitVec.toNat_xor, ofInt8, ofInt8, ← UInt8.toNat_xor, IntKind.wrap_u8]; omega
theorem ofInt64 {a : Nat} (h : a < 18446744073709551616) : (BitVec.ofInt 64 (a : Int)).toNat = a := by
  rw [BitVec.ofInt_natCast, BitVec.toNat_ofNat]; exact Nat.mod_eq_of_lt (by omega)
theorem xor64 {a b : Nat} (ha : a < 512) (hb : b < 512) : bits .xor .i64 (a : Int) (b : Int) = ((a ^^^ b : Nat) : Int) := by
  have h : a ^^^ b < 2 ^ 9 := Nat.xor_lt_two_pow ha hb
  show IntKind.i64.wrap ((BitVec.ofInt 64 (a : Int) ^^^ BitVec.ofInt 64 (b : Int)).toNat : Int) = _
  rw [BitVec.toNat_xor, ofInt64 (by omega), ofInt64 (by omega), IntKind.wrap_i64]; omega

/-- A step of the product: x is doubled, and made small again. -/
theorem xt_small (x : UInt8) (h : x.toNat < 128) : (xt x).toNat = 2 * x.toNat := by
  revert h
  exact all1 (p := fun x => x.toNat < 128 → (xt x).toNat = 2 * x.toNat) (by decide +kernel) x
theorem xt_large (x : UInt8) (h : 128 ≤ x.toNat) : (xt x).toNat = (2 * x.toNat) ^^^ 285 := by
  revert h
  exact all1 (p := fun x => 128 ≤ x.toNat → (xt x).toNat = (2 * x.toNat) ^^^ 285) (by decide +kernel) x
theorem bit_iff (n k : Nat) : n.testBit k = true ↔ n / 2 ^ k % 2 = 1 := by rw [Nat.testBit_eq_decide_div_mod_eq]; simp
theorem bit_int {b k : Nat} : (((b : Int) / 2 ^ k).tmod 2 == 1) = b.testBit k := by
  have e : ((b : Int) / 2 ^ k).tmod 2 = ((b / 2 ^ k % 2 : Nat) : Int) := by
    have e1 : ((b : Int) / 2 ^ k) = ((b / 2 ^ k : Nat) : Int) := by push_cast; rfl
    rw [e1]
    exact (Int.ofNat_tmod _ _).symm
  rw [e, Nat.testBit_eq_decide_div_mod_eq]
  by_cases h : b / 2 ^ k % 2 = 1
  · rw [h]; rfl
  · have h0 : b / 2 ^ k % 2 = 0 := by omega
    rw [h0]; rfl
theorem next_out {a b : UInt8} {k : Nat} (h : (((b.toNat : Int) / 2 ^ k).tmod 2 == 1) = true) : bits .xor .i64 ((part a b k).toNat : Int) ((xts a k).toNat : Int) = ((part a b (k + 1)).toNat : Int) := by
  rw [bit_int] at h
  have h1 := (part a b k).toNat_lt
  have h2 := (xts a k).toNat_lt
  rw [xor64 (by omega) (by omega), part, h, UInt8.toNat_xor]; rfl
theorem next_same {a b : UInt8} {k : Nat} (h : (((b.toNat : Int) / 2 ^ k).tmod 2 == 1) = false) : ((part a b k).toNat : Int) = ((part a b (k + 1)).toNat : Int) := by
  rw [bit_int] at h
  rw [part, h]
  show _ = ((part a b k ^^^ 0).toNat : Int)
  rw [xor_zero]
theorem next_x {a : UInt8} {k : Nat} (h : wrap64 (2 * ((xts a k).toNat : Int)) < 256) : wrap64 (2 * ((xts a k).toNat : Int)) = ((xts a (k + 1)).toNat : Int) := by
  have h2 := (xts a k).toNat_lt
  rw [xts]
  simp only [wrap64] at h ⊢
  rw [xt_small _ (by omega)]; omega
theorem next_x2 {a : UInt8} {k : Nat} (h : 256 ≤ wrap64 (2 * ((xts a k).toNat : Int))) : bits .xor .i64 (wrap64 (2 * ((xts a k).toNat : Int))) 285 = ((xts a (k + 1)).toNat : Int) := by
  have h2 := (xts a k).toNat_lt
  have e : wrap64 (2 * ((xts a k).toNat : Int)) = ((2 * (xts a k).toNat : Nat) : Int) := by simp only [wrap64]; omega
  rw [e] at h ⊢
  rw [xts, xt_large _ (by omega)]
  exact xor64 (b := 285) (by omega) (by decide)
end Gf
end Go.Proofs.Ytfeifmcgcgmhnaa
