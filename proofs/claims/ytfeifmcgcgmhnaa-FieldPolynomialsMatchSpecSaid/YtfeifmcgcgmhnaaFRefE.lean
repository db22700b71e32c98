/- The reference of package field: Eval. Condition: the slice reads as a list. -/
import Derived.Test.YtfeifmcgcgmhnaaFRef
namespace Go.Proofs.Ytfeifmcgcgmhnaa
open Go.RowKit
namespace Gf
open Wire (Lies bv)

/-- The sum of the first k shares of a value of a polynomial. -/
def psum (x : UInt8) (p : List UInt8) : Nat → UInt8
  | 0 => 0
  | k + 1 => psum x p k ^^^ mul (p.getD k 0) (pow x k)
theorem psum_cons (x a : UInt8) (p : List UInt8) (k : Nat) : psum x (a :: p) (k + 1) = a ^^^ mul x (psum x p k) := by
  induction k with
  | zero => simp [psum, pow, mul_one, mul_zero]
  | succ k ih =>
    rw [psum, ih]
    simp only [psum, pow, List.getD_cons_succ]
    rw [mul_add, xor_assoc]
    congr 2
    rw [← mul_assoc, mul_comm, ← mul_assoc]
theorem psum_all (x : UInt8) (p : List UInt8) : psum x p p.length = eval x p := by
  induction p with
  | nil => rfl
  | cons a p ih => rw [List.length_cons, psum_cons, ih]; rfl
theorem psum_at {x a : UInt8} {p : List UInt8} {k : Nat} (h : p[k]? = some a) : psum x p (k + 1) = psum x p k ^^^ mul a (pow x k) := by
  rw [psum, List.getD_eq_getElem?_getD, h]; rfl

set_option maxRecDepth 100000 in
set_option maxHeartbeats 1000000 in
theorem refEval_any (p : List UInt8) (x : UInt8) (n c : Nat) (A : Option Addr) (w : World) (hl : Lies w w.heap.size 1 A n c (p.map bv)) :
    Calls Try.prog 24 #[.slice A n c, .int .u8 (x.toNat : Int)] w (GivesB (eval x p) w) := by
  have hmost : c ≤ 9223372036854775807 := by have := hl.most; unfold maxLen at this; omega
  have hle := hl.le
  have hpn : p.length = n := by have := hl.len; simpa using this
  have HPN := Lib.hid hpn
  have HL := Lib.hid hl
  clear hpn hl
  go_enter Try.func24, Try.ntmps24
  go_wp2
  go_loopw [5, 6, 7] (fun ov pv iv wr => ∃ (k : Nat), k ≤ n ∧ ov = .int .u8 ((psum x p k).toNat : Int) ∧ pv = .int .u8 ((pow x k).toNat : Int) ∧ iv = .int .i64 (k : Int) ∧ Below w.heap.size w wr) (fun _ _ iv _ => (n - intOf iv).toNat)
  case atStart => exact ⟨0, by omega, rfl, rfl, rfl, Below.refl _ _⟩
  case round =>
    obtain ⟨k, hk, rfl, rfl, rfl, hbw⟩ := hrel
    by_cases hlt : k < n
    · obtain ⟨b, o, u, rfl, hbb, hu, hcx⟩ := (HL.out.below hbw).at_ hlt
      obtain ⟨a, ha⟩ : ∃ a, p[k]? = some a := ⟨_, List.getElem?_eq_getElem (by rw [HPN.out]; exact hlt)⟩
      rw [List.getElem?_map, ha] at hu
      cases hu
      have hs := psum_at (x := x) ha
      have HS := Lib.hid hs
      have HM := Lib.hid (fun W => refMul_any a (pow x k) W)
      have HX := Lib.hid (fun W => refMul_any (pow x k) x W)
      have e1 := xor8 (psum x p k) (mul a (pow x k))
      rw [← hs] at e1
      have z0 : (0 : Int) ≤ (k : Int) := by omega
      have z1 : (k : Int) < (n : Int) := by omega
      unfold bv at hcx
      clear hs ha
      go_wp2_with (first
        | (go_at_call 15; (with_reducible refine (HM.out _).mono ?_); rintro e w1 ⟨rfl, hb1⟩)
        | (go_at_call 15; (with_reducible refine (HX.out _).mono ?_); rintro e w2 ⟨rfl, hb2⟩))
      go_roundw
      case rel => exact ⟨k + 1, by omega, by rw [HS.out], rfl, by go_num, hbw.trans ((bcj hb1 hb2).mono hbw.size)⟩
      case measure => simp [intOf]; omega
    · have hk2 : k = n := by omega
      have z1 : ¬ (k : Int) < (n : Int) := by omega
      subst hk2
      have hE : psum x p k = eval x p := by rw [← HPN.out]; exact psum_all x p
      go_wp2
      go_ret
      rw [← hE]
      exact ⟨rfl, hbw⟩
end Gf
end Go.Proofs.Ytfeifmcgcgmhnaa
