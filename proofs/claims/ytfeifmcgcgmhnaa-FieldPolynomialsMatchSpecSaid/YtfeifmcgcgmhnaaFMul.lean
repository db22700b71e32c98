/- The package field as landed: Mul. No condition. -/
import Derived.Test.YtfeifmcgcgmhnaaFBase
namespace Go.Proofs.Ytfeifmcgcgmhnaa
open Go.RowKit
namespace Gf

/-- b without its lowest k bits, moved down. -/
def rest (b : UInt8) (k : Nat) : Int := ((b.toNat / 2 ^ k : Nat) : Int)
theorem rest_zero (b : UInt8) : rest b 0 = (b.toNat : Int) := by simp [rest]
theorem rest_next (b : UInt8) (k : Nat) : rest b k / 2 = rest b (k + 1) := by
  unfold rest
  rw [Nat.pow_succ, ← Nat.div_div_eq_div_mul]
  omega
theorem rest_u8 (b : UInt8) (k : Nat) : rest b k = ((UInt8.ofNat (b.toNat / 2 ^ k)).toNat : Int) := by
  have hb := b.toNat_lt
  have : b.toNat / 2 ^ k < 256 := Nat.lt_of_le_of_lt (Nat.div_le_self _ _) hb
  simp only [rest, UInt8.toNat_ofNat']
  rw [Nat.mod_eq_of_lt this]
theorem xt_land (x : UInt8) : bits .xor .u8 ((x.toNat : Int) * 2 % 256) (bits .and .u8 29 (-((x.toNat : Int) / 128) % 256)) = ((xt x).toNat : Int) :=
  all1 (p := fun x => bits .xor .u8 ((x.toNat : Int) * 2 % 256) (bits .and .u8 29 (-((x.toNat : Int) / 128) % 256)) = ((xt x).toNat : Int)) (by decide +kernel) x
theorem mask (r : UInt8) : -bits .and .u8 (r.toNat : Int) 1 % 256 = if r.toNat.testBit 0 then 255 else 0 :=
  all1 (p := fun r => -bits .and .u8 (r.toNat : Int) 1 % 256 = if r.toNat.testBit 0 then 255 else 0) (by decide +kernel) r
theorem and_all (x : UInt8) : bits .and .u8 (x.toNat : Int) 255 = (x.toNat : Int) :=
  all1 (p := fun x => bits .and .u8 (x.toNat : Int) 255 = (x.toNat : Int)) (by decide +kernel) x
theorem and_none (x : UInt8) : bits .and .u8 (x.toNat : Int) 0 = 0 :=
  all1 (p := fun x => bits .and .u8 (x.toNat : Int) 0 = 0) (by decide +kernel) x
theorem sel_land (x b : UInt8) (k : Nat) : bits .and .u8 (x.toNat : Int) (-bits .and .u8 (rest b k) 1 % 256) = ((sel (b.toNat.testBit k) x).toNat : Int) := by
  have hb := b.toNat_lt
  have hlt : b.toNat / 2 ^ k < 256 := Nat.lt_of_le_of_lt (Nat.div_le_self _ _) hb
  have ht : (UInt8.ofNat (b.toNat / 2 ^ k)).toNat.testBit 0 = b.toNat.testBit k := by
    rw [UInt8.toNat_ofNat', Nat.mod_eq_of_lt hlt, Nat.testBit_div_two_pow, Nat.zero_add]
  rw [rest_u8, mask, ht]
  unfold sel
  cases b.toNat.testBit k
  · exact and_none x
  · exact and_all x
theorem part_land (a b : UInt8) (k : Nat) : bits .xor .u8 ((part a b k).toNat : Int) (bits .and .u8 ((xts a k).toNat : Int) (-bits .and .u8 (rest b k) 1 % 256)) = ((part a b (k + 1)).toNat : Int) := by
  rw [sel_land, xor8]; rfl

set_option maxRecDepth 100000 in
set_option maxHeartbeats 1000000 in
theorem mul_any (a b : UInt8) (w : World) : Calls Try.prog 14 #[.int .u8 (a.toNat : Int), .int .u8 (b.toNat : Int)] w (GivesB (mul a b) w) := by
  have ha := a.toNat_lt
  have hb := b.toNat_lt
  go_enter Try.func14, Try.ntmps14
  go_wp2
  go_loopw [0, 1, 5, 6] (fun av bv_ pv iv wr => ∃ (k : Nat), k ≤ 8 ∧ av = .int .u8 ((xts a k).toNat : Int) ∧ bv_ = .int .u8 (rest b k) ∧ pv = .int .u8 ((part a b k).toNat : Int) ∧ iv = .int .i64 (k : Int) ∧ Below w.heap.size w wr) (fun _ _ _ iv _ => (8 - intOf iv).toNat)
  case atStart => exact ⟨0, by omega, rfl, by rw [rest_zero], rfl, rfl, Below.refl _ _⟩
  case round =>
    obtain ⟨k, hk, rfl, rfl, rfl, rfl, hbw⟩ := hrel
    by_cases hlt : k < 8
    · have z0 : (0 : Int) ≤ (k : Int) := by omega
      have z1 : (k : Int) < 8 := by omega
      go_wp2
      go_roundw
      case rel => exact ⟨k + 1, by omega, congrArg (Value.int .u8) (xt_land (xts a k)), congrArg (Value.int .u8) (rest_next b k), congrArg (Value.int .u8) (part_land a b k), by go_num, hbw⟩
      case measure => simp [intOf]; omega
    · have hk8 : k = 8 := by omega
      subst hk8
      go_wp2
      go_ret
      exact ⟨rfl, hbw⟩
end Gf
end Go.Proofs.Ytfeifmcgcgmhnaa
