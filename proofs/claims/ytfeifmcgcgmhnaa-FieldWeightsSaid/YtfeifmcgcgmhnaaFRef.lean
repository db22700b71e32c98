/- The reference of package field: Mul, Inv, Div. No condition. -/
import Derived.Test.YtfeifmcgcgmhnaaFBase
namespace Go.Proofs.Ytfeifmcgcgmhnaa
open Go.RowKit
namespace Gf

set_option maxRecDepth 100000 in
set_option maxHeartbeats 1000000 in
theorem refMul_any (a b : UInt8) (w : World) : Calls Try.prog 15 #[.int .u8 (a.toNat : Int), .int .u8 (b.toNat : Int)] w (GivesB (mul a b) w) := by
  have ha := a.toNat_lt
  have hb := b.toNat_lt
  go_enter Try.func15, Try.ntmps15
  go_wp2
  go_loopw [5, 6, 7] (fun ov xv iv wr => ∃ (k : Nat), k ≤ 8 ∧ ov = .int .i64 ((part a b k).toNat : Int) ∧ xv = .int .i64 ((xts a k).toNat : Int) ∧ iv = .int .i64 (k : Int) ∧ Below w.heap.size w wr) (fun _ _ iv _ => (8 - intOf iv).toNat)
  case atStart => exact ⟨0, by omega, rfl, by simp [xts], rfl, Below.refl _ _⟩
  case round =>
    obtain ⟨k, hk, rfl, rfl, rfl, hbw⟩ := hrel
    by_cases hlt : k < 8
    · have z0 : (0 : Int) ≤ (k : Int) := by omega
      have z1 : (k : Int) < 8 := by omega
      go_wp2
      all_goals (refine ⟨⟨k + 1, by omega, ?_, ?_, by go_num, hbw⟩, by simp [intOf]; omega⟩)
      all_goals (first | with_reducible exact congrArg (Value.int .i64) (next_out (by assumption)) | with_reducible exact congrArg (Value.int .i64) (next_same (by assumption)) | with_reducible exact congrArg (Value.int .i64) (next_x (by assumption)) | with_reducible exact congrArg (Value.int .i64) (next_x2 (by assumption)))
    · have hk8 : k = 8 := by omega
      subst hk8
      have hm : ((part a b 8).toNat : Int) % 256 = ((part a b 8).toNat : Int) := by have := (part a b 8).toNat_lt; omega
      go_wp2
      go_ret
      exact ⟨rfl, hbw⟩

set_option maxRecDepth 100000 in
set_option maxHeartbeats 1000000 in
theorem refInv_no (w : World) : Calls Try.prog 10 #[.int .u8 0] w (GivesE 0 1 w) := by
  go_enter Try.func10, Try.ntmps10
  go_wp2
  go_ret2
  exact ⟨rfl, Below.refl _ _⟩

set_option maxRecDepth 100000 in
set_option maxHeartbeats 1000000 in
theorem refInv_any (a : UInt8) (h0 : a ≠ 0) (w : World) : Calls Try.prog 10 #[.int .u8 (a.toNat : Int)] w (GivesE (inv a) 0 w) := by
  have ha := a.toNat_lt
  have y0 : ¬ (a.toNat : Int) = 0 := fun h => h0 (UInt8.toNat_inj.1 (by simpa using h))
  have hd : ((a.toNat : Int) == 0) = false := by simpa using y0
  have HM := Lib.hid (fun n W => refMul_any (pow a n) a W)
  go_enter Try.func10, Try.ntmps10
  go_wp2
  go_loopw [4, 5] (fun ov iv wr => ∃ (k : Nat), k ≤ 254 ∧ ov = .int .u8 ((pow a k).toNat : Int) ∧ iv = .int .i64 (k : Int) ∧ Below w.heap.size w wr) (fun _ iv _ => (254 - intOf iv).toNat)
  case atStart => exact ⟨0, by omega, rfl, rfl, Below.refl _ _⟩
  case round =>
    obtain ⟨k, hk, rfl, rfl, hbw⟩ := hrel
    by_cases hlt : k < 254
    · have z0 : (0 : Int) ≤ (k : Int) := by omega
      have z1 : (k : Int) < 254 := by omega
      go_wp2_with (first
        | (go_at_call 15; (with_reducible refine (HM.out k _).mono ?_); rintro e w1 ⟨rfl, hb1⟩))
      go_roundw
      case rel => exact ⟨k + 1, by omega, rfl, by go_num, hbw.trans (hb1.mono hbw.size)⟩
      case measure => simp [intOf]; omega
    · have hk8 : k = 254 := by omega
      subst hk8
      go_wp2
      go_ret2
      exact ⟨rfl, hbw⟩

set_option maxRecDepth 100000 in
set_option maxHeartbeats 1000000 in
theorem refDiv_no (a : UInt8) (w : World) : Calls Try.prog 12 #[.int .u8 (a.toNat : Int), .int .u8 0] w (GivesE 0 1 w) := by
  have ha := a.toNat_lt
  go_enter Try.func12, Try.ntmps12
  go_wp2_with (first
    | (go_at_call 10; (with_reducible refine (refInv_no _).mono ?_); rintro e w1 ⟨rfl, hb1⟩))
  go_ret2
  exact ⟨rfl, hb1⟩

set_option maxRecDepth 100000 in
set_option maxHeartbeats 1000000 in
theorem refDiv_any (a b : UInt8) (h0 : b ≠ 0) (w : World) : Calls Try.prog 12 #[.int .u8 (a.toNat : Int), .int .u8 (b.toNat : Int)] w (GivesE (mul a (inv b)) 0 w) := by
  have ha := a.toNat_lt
  have hb := b.toNat_lt
  have HI := Lib.hid (fun W => refInv_any b h0 W)
  have HM := Lib.hid (fun W => refMul_any a (inv b) W)
  go_enter Try.func12, Try.ntmps12
  go_wp2_with (first
    | (go_at_call 10; (with_reducible refine (HI.out _).mono ?_); rintro e w1 ⟨rfl, hb1⟩)
    | (go_at_call 15; (with_reducible refine (HM.out _).mono ?_); rintro e w2 ⟨rfl, hb2⟩))
  go_ret2
  exact ⟨rfl, bcj hb1 hb2⟩
end Gf
end Go.Proofs.Ytfeifmcgcgmhnaa
