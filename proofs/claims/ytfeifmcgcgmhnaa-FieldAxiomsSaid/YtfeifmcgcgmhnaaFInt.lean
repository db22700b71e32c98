/- The package field as landed: Interpolate. Condition: the slices read as lists. -/
import Derived.Test.YtfeifmcgcgmhnaaFWei
import Derived.Test.YtfeifmcgcgmhnaaFRefI
namespace Go.Proofs.Ytfeifmcgcgmhnaa
open Go.RowKit
namespace Gf
open Wire (Lies bv)

set_option maxRecDepth 100000 in
set_option maxHeartbeats 1000000 in
theorem interpolate_len (x : UInt8) (n c m d : Nat) (A B : Option Addr) (w : World) (hnm : n ≠ m) :
    Calls Try.prog 19 #[.slice A n c, .slice B m d, .int .u8 (x.toNat : Int)] w (GivesE 0 1 w) := by
  have y0 : ¬ (n : Int) = (m : Int) := by omega
  go_enter Try.func19, Try.ntmps19
  go_wp2
  go_ret2
  exact ⟨rfl, Below.refl _ _⟩

set_option maxRecDepth 100000 in
set_option maxHeartbeats 1000000 in
theorem interpolate_bad (xs : List UInt8) (x : UInt8) (n c d : Nat) (A B : Option Addr) (w : World) (hl : Lies w w.heap.size 1 A n c (xs.map bv)) (hf : ¬ fit xs) :
    Calls Try.prog 19 #[.slice A n c, .slice B n d, .int .u8 (x.toNat : Int)] w (GivesE 0 1 w) := by
  have HW := Lib.hid (weights_no xs x n c A w hl hf)
  clear hf hl
  go_enter Try.func19, Try.ntmps19
  go_wp2_with (first
    | (go_at_call 17; (with_reducible refine HW.out.mono ?_); rintro e w1 ⟨rfl, hb1⟩))
  go_ret2
  exact ⟨rfl, hb1⟩

set_option maxRecDepth 100000 in
set_option maxHeartbeats 1000000 in
theorem interpolate_any (xs ys : List UInt8) (x : UInt8) (n c d : Nat) (A B : Option Addr) (w : World) (hl : Lies w w.heap.size 1 A n c (xs.map bv)) (hy : Lies w w.heap.size 1 B n d (ys.map bv)) (hf : fit xs) :
    Calls Try.prog 19 #[.slice A n c, .slice B n d, .int .u8 (x.toNat : Int)] w (GivesE (interp xs ys x) 0 w) := by
  have HW := Lib.hid (weights_any xs x n c A w hl hf)
  have hxn : xs.length = n := by have := hl.len; simpa using this
  have hyn : ys.length = n := by have := hy.len; simpa using this
  have HXN := Lib.hid hxn
  have HYN := Lib.hid hyn
  have HY := Lib.hid hy
  have hmost : c ≤ 9223372036854775807 := by have := hl.most; unfold maxLen at this; omega
  have hle := hl.le
  clear hf hl hxn hyn hy
  go_enter Try.func19, Try.ntmps19
  go_wp2_with (first
    | (go_at_call 17; (with_reducible refine HW.out.mono ?_); rintro e w1 ⟨A2, n2, c2, rfl, hl2, hb1⟩; have hn2 : n2 = n := (by have h := hl2.len; rw [List.length_map, weights_length, HXN.out] at h; omega); subst hn2; have HL := Lib.hid hl2; clear hl2))
  go_loopw [10, 29] (fun ov iv wr => ∃ (k : Nat), k ≤ n2 ∧ ov = .int .u8 ((upto xs ys x k).toNat : Int) ∧ iv = .int .i64 (k : Int) ∧ Below w1.heap.size w1 wr) (fun _ iv _ => (n2 - intOf iv).toNat)
  case atStart => exact ⟨0, by omega, rfl, rfl, Below.refl _ _⟩
  case round =>
    obtain ⟨k, hk, rfl, rfl, hbw⟩ := hrel
    by_cases hlt : k < n2
    · obtain ⟨b, o, u, rfl, hbb, hu, hcx⟩ := (HL.out.below hbw).at_ hlt
      obtain ⟨b2, o2, u2, rfl, hbb2, hu2, hcy⟩ := (HY.out.below (hb1.trans (hbw.mono hb1.size))).at_ hlt
      obtain ⟨a, ha⟩ : ∃ a, ys[k]? = some a := ⟨_, List.getElem?_eq_getElem (by rw [HYN.out]; exact hlt)⟩
      have hg := weights_at (xs := xs) (x := x) (i := k) (by rw [HXN.out]; exact hlt)
      rw [List.getElem?_map, hg] at hu
      rw [List.getElem?_map, ha] at hu2
      cases hu
      cases hu2
      have hs := upto_next xs x ha
      have HS := Lib.hid hs
      have HM := Lib.hid (fun W => mul_any (weight xs x k) a W)
      have e1 := xor8 (upto xs ys x k) (mul (weight xs x k) a)
      rw [← hs] at e1
      have z0 : (0 : Int) ≤ (k : Int) := by omega
      have z1 : (k : Int) < (n2 : Int) := by omega
      unfold bv at hcx hcy
      generalize weight xs x k = G at *
      clear hs ha hg
      go_wp2_with (first
        | (go_at_call 14; (with_reducible refine (HM.out _).mono ?_); rintro e w3 ⟨rfl, hq⟩))
      go_roundw
      case rel => exact ⟨k + 1, by omega, by rw [HS.out], by go_num, hbw.trans (hq.mono hbw.size)⟩
      case measure => simp [intOf]; omega
    · obtain rfl : k = n2 := by omega
      have z1 : ¬ (k : Int) < (k : Int) := by omega
      have hI : upto xs ys x k = interp xs ys x := by unfold interp; rw [HXN.out]
      rw [← hI]
      go_wp2
      go_ret2
      exact ⟨rfl, hb1.trans (hbw.mono hb1.size)⟩
end Gf
end Go.Proofs.Ytfeifmcgcgmhnaa
