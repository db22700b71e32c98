/- The package field as landed: inverse, Inv, Div. No condition. -/
import Derived.Test.YtfeifmcgcgmhnaaFMul
import Derived.Test.YtfeifmcgcgmhnaaCBase
namespace Go.Proofs.Ytfeifmcgcgmhnaa
open Go.RowKit
namespace Gf
open Cha (Arr bv)

theorem pow_add (a : UInt8) (m n : Nat) : pow a (m + n) = mul (pow a m) (pow a n) := by
  induction n with
  | zero => simp [pow, mul_one]
  | succ n ih => rw [← Nat.add_assoc, pow, ih, pow, mul_assoc]
/-- The squares: the power 2 ^ k. -/
def sq (a : UInt8) : Nat → UInt8
  | 0 => a
  | k + 1 => mul (sq a k) (sq a k)
theorem sq_pow (a : UInt8) (k : Nat) : sq a k = pow a (2 ^ k) := by
  induction k with
  | zero => simp [sq, pow, one_mul]
  | succ k ih => rw [sq, ih, ← pow_add, Nat.pow_succ, Nat.mul_two]
/-- The product of the first k squares. -/
def pr (a : UInt8) : Nat → UInt8
  | 0 => 1
  | k + 1 => mul (pr a k) (sq a (k + 1))
theorem pr_pow (a : UInt8) (k : Nat) : pr a k = pow a (2 ^ (k + 1) - 2) := by
  induction k with
  | zero => rfl
  | succ k ih =>
    have h : 2 ≤ 2 ^ (k + 1) := by rw [Nat.pow_succ]; have := Nat.one_le_two_pow (n := k); omega
    rw [pr, ih, sq_pow, ← pow_add]
    congr 1
    rw [Nat.pow_succ 2 (k + 1)]
    omega
theorem pr_inv (a : UInt8) : pr a 7 = inv a := pr_pow a 7
/-- The array when k squares are kept. -/
def kept (a : UInt8) (k : Nat) : List Value := ((List.range k).map fun j => bv (sq a (j + 1))) ++ List.replicate (7 - k) (bv 0)
theorem kept_length {a : UInt8} {k : Nat} (h : k ≤ 7) : (kept a k).length = 7 := by simp [kept]; omega
theorem kept_next {a : UInt8} {k : Nat} (h : k < 7) : kept a (k + 1) = (kept a k).set k (bv (sq a (k + 1))) ∧ (kept a k)[k]? = some (bv 0) := by
  obtain ⟨d, hd⟩ : ∃ d, 7 - k = d + 1 := ⟨6 - k, by omega⟩
  have hl : ((List.range k).map fun j => bv (sq a (j + 1))).length = k := by simp
  refine ⟨?_, ?_⟩
  · unfold kept
    rw [List.range_succ, List.map_append, hd, List.replicate_succ, List.set_append_right _ _ (by omega), hl, Nat.sub_self, show 7 - (k + 1) = d by omega]
    simp
  · unfold kept
    rw [List.getElem?_append_right (by omega), hl, hd]
    simp
theorem info7 : (Try.prog.info? 45).map (·.size) = some 7 := by kernel_rfl
theorem i7 {xs : List Value} (h : xs.length = 7) : (Try.prog.info? 45).map (·.size) = some xs.length := by rw [h]; exact info7
theorem idx7 (x1 x2 x3 x4 x5 x6 x7 : UInt8) (W : World) : ∀ i : Nat, i < 7 → (Instr.index 45 (.agg #[bv x1, bv x2, bv x3, bv x4, bv x5, bv x6, bv x7]) (.int .i64 (i : Int))).run Try.prog W = .ok (bv ([x1, x2, x3, x4, x5, x6, x7].getD i 0)) W
  | 0, _ => by kernel_rfl
  | 1, _ => by kernel_rfl
  | 2, _ => by kernel_rfl
  | 3, _ => by kernel_rfl
  | 4, _ => by kernel_rfl
  | 5, _ => by kernel_rfl
  | 6, _ => by kernel_rfl
  | n + 7, h => by omega
theorem idx_kept (a : UInt8) (W : World) (i : Nat) (h : i < 7) : (Instr.index 45 (.agg (kept a 7).toArray) (.int .i64 (i : Int))).run Try.prog W = .ok (.int .u8 ((sq a (i + 1)).toNat : Int)) W := by
  have e : [sq a 1, sq a 2, sq a 3, sq a 4, sq a 5, sq a 6, sq a 7].getD i 0 = sq a (i + 1) := by
    have : i = 0 ∨ i = 1 ∨ i = 2 ∨ i = 3 ∨ i = 4 ∨ i = 5 ∨ i = 6 := by omega
    rcases this with rfl | rfl | rfl | rfl | rfl | rfl | rfl <;> rfl
  have h2 := idx7 (sq a 1) (sq a 2) (sq a 3) (sq a 4) (sq a 5) (sq a 6) (sq a 7) W i h
  rw [e] at h2
  exact h2

set_option maxRecDepth 100000 in
set_option maxHeartbeats 1000000 in
theorem inverse_any (a : UInt8) (w : World) : Calls Try.prog 26 #[.int .u8 (a.toNat : Int)] w (GivesB (inv a) w) := by
  have ha := a.toNat_lt
  have HM : Hid (∀ k W, Calls Try.prog 14 #[.int .u8 ((sq a k).toNat : Int), .int .u8 ((sq a k).toNat : Int)] W (GivesB (sq a (k + 1)) W)) := Lib.hid (fun k W => mul_any (sq a k) (sq a k) W)
  have HP : Hid (∀ k W, Calls Try.prog 14 #[.int .u8 ((pr a k).toNat : Int), .int .u8 ((sq a (k + 1)).toNat : Int)] W (GivesB (pr a (k + 1)) W)) := Lib.hid (fun k W => mul_any (pr a k) (sq a (k + 1)) W)
  go_enter Try.func26, Try.ntmps26
  go_wp2
  go_loopw [0, 8] (fun av iv wr => ∃ (k : Nat), k ≤ 7 ∧ av = .int .u8 ((sq a k).toNat : Int) ∧ iv = .int .i64 (k : Int) ∧ Arr wr w.heap.size 7 (kept a k) ∧ Below w.heap.size w wr) (fun _ iv _ => (7 - intOf iv).toNat)
  case atStart => exact ⟨0, by omega, rfl, rfl, Cha.arr_new w _ _, (Below.refl _ _).alloc (Nat.le_refl _) _⟩
  case round =>
    obtain ⟨k, hk, rfl, rfl, hr, hbw⟩ := hrel
    by_cases hlt : k < 7
    · have z0 : (0 : Int) ≤ (k : Int) := by omega
      have z1 : (k : Int) < 7 := by omega
      obtain ⟨hn1, hn2⟩ := kept_next (a := a) hlt
      have HN := Lib.hid hn1
      have hsz := hr.size (by omega)
      go_wp2_with (first
        | (go_at_call 14; (with_reducible refine (HM.out k _).mono ?_); rintro e w1 ⟨rfl, hb1⟩; have hr1 := hr.below hb1 hsz; obtain ⟨q1, q2⟩ := hr1.at_ hn2; have HR := Lib.hid hr1; clear hr1 hn1 hn2; unfold bv at q1))
      go_roundw
      case rel => exact ⟨k + 1, by omega, rfl, by go_num, by rw [HN.out]; exact HR.out.set hlt _, (hbw.trans (hb1.mono hbw.size)).setCell (Nat.le_refl _) _⟩
      case measure => simp [intOf]; omega
    · have hk7 : k = 7 := by omega
      subst hk7
      go_wp2_with (first
        | ((with_reducible refine Cha.at_slot 18 rfl ?_); refine wpList_load_mid rfl 45 (.tmp 3) rfl w.heap.size 0 rfl (kept a 7) _ hr.range Try.underlying45 rfl (i7 (kept_length (Nat.le_refl 7))) ?_))
      go_loopw [5, 19] (fun pv iv wr => ∃ (k : Nat), k ≤ 7 ∧ pv = .int .u8 ((pr a k).toNat : Int) ∧ iv = .int .i64 (k : Int) ∧ Below w.heap.size w wr) (fun _ iv _ => (7 - intOf iv).toNat)
      case atStart => exact ⟨0, by omega, rfl, rfl, hbw⟩
      case round =>
        obtain ⟨k, hk, rfl, rfl, hbq⟩ := hrel
        by_cases hlt : k < 7
        · have z0 : (0 : Int) ≤ (k : Int) := by omega
          have z1 : (k : Int) < 7 := by omega
          have hka := fun W => idx_kept a W k hlt
          go_wp2_with (first
            | (go_at_call 14; (with_reducible refine (HP.out k _).mono ?_); rintro e w1 ⟨rfl, hb1⟩))
          go_roundw
          case rel => exact ⟨k + 1, by omega, rfl, by go_num, hbq.trans (hb1.mono hbq.size)⟩
          case measure => simp [intOf]; omega
        · have hk7 : k = 7 := by omega
          subst hk7
          go_wp2
          go_ret
          rw [← pr_inv]
          exact ⟨rfl, hbq⟩

set_option maxRecDepth 100000 in
set_option maxHeartbeats 1000000 in
theorem inv_no (w : World) : Calls Try.prog 9 #[.int .u8 0] w (GivesE 0 1 w) := by
  go_enter Try.func9, Try.ntmps9
  go_wp2
  go_ret2
  exact ⟨rfl, Below.refl _ _⟩

set_option maxRecDepth 100000 in
set_option maxHeartbeats 1000000 in
theorem inv_any (a : UInt8) (h0 : a ≠ 0) (w : World) : Calls Try.prog 9 #[.int .u8 (a.toNat : Int)] w (GivesE (inv a) 0 w) := by
  have ha := a.toNat_lt
  have y0 : ¬ (a.toNat : Int) = 0 := fun h => h0 (UInt8.toNat_inj.1 (by simpa using h))
  have hd : ((a.toNat : Int) == 0) = false := by simpa using y0
  have HI := Lib.hid (fun W => inverse_any a W)
  go_enter Try.func9, Try.ntmps9
  go_wp2_with (first
    | (go_at_call 26; (with_reducible refine (HI.out _).mono ?_); rintro e w1 ⟨rfl, hb1⟩))
  go_ret2
  exact ⟨rfl, hb1⟩

set_option maxRecDepth 100000 in
set_option maxHeartbeats 1000000 in
theorem div_no (a : UInt8) (w : World) : Calls Try.prog 11 #[.int .u8 (a.toNat : Int), .int .u8 0] w (GivesE 0 1 w) := by
  have ha := a.toNat_lt
  go_enter Try.func11, Try.ntmps11
  go_wp2
  go_ret2
  exact ⟨rfl, Below.refl _ _⟩

set_option maxRecDepth 100000 in
set_option maxHeartbeats 1000000 in
theorem div_any (a b : UInt8) (h0 : b ≠ 0) (w : World) : Calls Try.prog 11 #[.int .u8 (a.toNat : Int), .int .u8 (b.toNat : Int)] w (GivesE (mul a (inv b)) 0 w) := by
  have ha := a.toNat_lt
  have hb := b.toNat_lt
  have y0 : ¬ (b.toNat : Int) = 0 := fun h => h0 (UInt8.toNat_inj.1 (by simpa using h))
  have hd : ((b.toNat : Int) == 0) = false := by simpa using y0
  have HI := Lib.hid (fun W => inverse_any b W)
  have HM := Lib.hid (fun W => mul_any a (inv b) W)
  go_enter Try.func11, Try.ntmps11
  go_wp2_with (first
    | (go_at_call 26; (with_reducible refine (HI.out _).mono ?_); rintro e w1 ⟨rfl, hb1⟩)
    | (go_at_call 14; (with_reducible refine (HM.out _).mono ?_); rintro e w2 ⟨rfl, hb2⟩))
  go_ret2
  exact ⟨rfl, bcj hb1 hb2⟩
end Gf
end Go.Proofs.Ytfeifmcgcgmhnaa
