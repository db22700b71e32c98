/- The walk of FieldPolynomialsMatchSpec. Conditions: the slices read as lists. -/
import Derived.Test.YtfeifmcgcgmhnaaFSane
namespace Go.Proofs.Ytfeifmcgcgmhnaa
open Go.RowKit
namespace Gf
open Wire (Lies bv)

/-- A slice, or none, and an error number. -/
def GivesM (l : List UInt8) (k : Int) (w : World) (e : Ending) (w1 : World) : Prop :=
  ∃ A n c, e = .returned (.tuple #[.slice A n c, .int .i64 k]) ∧ Lies w1 w1.heap.size 1 A n c (l.map bv) ∧ Below w.heap.size w w1
theorem m_of_s {l : List UInt8} {w : World} {e : Ending} {w1 : World} (h : GivesS l w e w1) : GivesM l 0 w e w1 := h
theorem m_of_n {k : Int} {w : World} {e : Ending} {w1 : World} (h : GivesN k w e w1) : GivesM [] k w e w1 :=
  ⟨none, 0, 0, h.1, Wire.lies_empty _ _ _, h.2⟩
section
variable (xs ys : List UInt8) (x : UInt8) (n c m d : Nat) (A B : Option Addr)
theorem weights_both : ∃ l k, (∀ W, Lies W W.heap.size 1 A n c (xs.map bv) → Calls Try.prog 17 #[.slice A n c, .int .u8 (x.toNat : Int)] W (GivesM l k W)) ∧
    (∀ W, Lies W W.heap.size 1 A n c (xs.map bv) → Calls Try.prog 18 #[.slice A n c, .int .u8 (x.toNat : Int)] W (GivesM l k W)) := by
  by_cases hf : fit xs
  · exact ⟨weights xs x, 0, fun W h => (weights_any xs x n c A W h hf).mono fun _ _ => m_of_s, fun W h => (refWeights_any xs x n c A W h hf).mono fun _ _ => m_of_s⟩
  · exact ⟨[], 1, fun W h => (weights_no xs x n c A W h hf).mono fun _ _ => m_of_n, fun W h => (refWeights_no xs x n c A W h hf).mono fun _ _ => m_of_n⟩
theorem interpolate_both : ∃ v k, (∀ W, Lies W W.heap.size 1 A n c (xs.map bv) → Lies W W.heap.size 1 B m d (ys.map bv) → Calls Try.prog 19 #[.slice A n c, .slice B m d, .int .u8 (x.toNat : Int)] W (GivesE v k W)) ∧
    (∀ W, Lies W W.heap.size 1 A n c (xs.map bv) → Lies W W.heap.size 1 B m d (ys.map bv) → Calls Try.prog 20 #[.slice A n c, .slice B m d, .int .u8 (x.toNat : Int)] W (GivesE v k W)) := by
  by_cases hf : fit xs
  · by_cases hn : n = m
    · subst hn
      exact ⟨interp xs ys x, 0, fun W h g => interpolate_any xs ys x n c d A B W h g hf, fun W h g => refInterpolate_any xs ys x n c d A B W h g hf⟩
    · exact ⟨0, 1, fun W h g => interpolate_len x n c m d A B W hn, fun W h g => refInterpolate_len xs x n c m d A B W h hf hn⟩
  · by_cases hn : n = m
    · subst hn
      exact ⟨0, 1, fun W h g => interpolate_bad xs x n c d A B W h hf, fun W h g => refInterpolate_bad xs x n c n d A B W h hf⟩
    · exact ⟨0, 1, fun W h g => interpolate_len x n c m d A B W hn, fun W h g => refInterpolate_bad xs x n c m d A B W h hf⟩
theorem coefficients_both : ∃ l k, (∀ W, Lies W W.heap.size 1 A n c (xs.map bv) → Lies W W.heap.size 1 B m d (ys.map bv) → Calls Try.prog 21 #[.slice A n c, .slice B m d] W (GivesM l k W)) ∧
    (∀ W, Lies W W.heap.size 1 A n c (xs.map bv) → Lies W W.heap.size 1 B m d (ys.map bv) → Calls Try.prog 22 #[.slice A n c, .slice B m d] W (GivesM l k W)) := by
  by_cases hn : n = m
  · subst hn
    by_cases hf : fit xs
    · exact ⟨coeff xs ys, 0, fun W h g => (coefficients_any xs ys n c d A B W h g hf).mono fun _ _ => m_of_s, fun W h g => (refCoefficients_any xs ys n c d A B W h g hf).mono fun _ _ => m_of_s⟩
    · exact ⟨[], 1, fun W h g => (coefficients_bad xs n c d A B W h hf).mono fun _ _ => m_of_n, fun W h g => (refCoefficients_bad xs n c n d A B W h hf).mono fun _ _ => m_of_n⟩
  · exact ⟨[], 1, fun W h g => (coefficients_len n c m d A B W hn).mono fun _ _ => m_of_n, fun W h g => (refCoefficients_len xs n c m d A B W h hn).mono fun _ _ => m_of_n⟩
theorem eval_both : (∀ W, Lies W W.heap.size 1 A n c (xs.map bv) → Calls Try.prog 23 #[.slice A n c, .int .u8 (x.toNat : Int)] W (GivesB (eval x xs) W)) ∧
    (∀ W, Lies W W.heap.size 1 A n c (xs.map bv) → Calls Try.prog 24 #[.slice A n c, .int .u8 (x.toNat : Int)] W (GivesB (eval x xs) W)) :=
  ⟨fun W h => eval_any xs x n c A W h, fun W h => refEval_any xs x n c A W h⟩
end
theorem same_any (l : List UInt8) (n c m d : Nat) (A B : Option Addr) (W : World) (h : Lies W W.heap.size 1 A n c (l.map bv)) (g : Lies W W.heap.size 1 B m d (l.map bv)) :
    Calls Try.prog 25 #[.slice A n c, .slice B m d] W (Tells true W) := by
  have k := refSame_any l l n c m d A B W h g
  rwa [decide_eq_true rfl] at k

set_option maxRecDepth 100000 in
set_option maxHeartbeats 2000000 in
theorem polyLaw (xs ys : List UInt8) (x : UInt8) (n c m d : Nat) (A B : Option Addr) (w : World) (hl : Lies w w.heap.size 1 A n c (xs.map bv)) (hy : Lies w w.heap.size 1 B m d (ys.map bv)) :
    Calls Try.prog 5 #[.slice A n c, .slice B m d, .int .u8 (x.toNat : Int)] w (Tells true w) := by
  have HS := Lib.hid sanity_any
  have HFW := Lib.hid (few_any n c m d A B)
  have Z := Below.refl w.heap.size w
  by_cases hfew : n ≤ 40 ∧ m ≤ 40
  · rw [decide_eq_true hfew] at HFW
    obtain ⟨lw, kw, hw1, hw2⟩ := weights_both xs x n c A
    obtain ⟨vi, ki, hi1, hi2⟩ := interpolate_both xs ys x n c m d A B
    obtain ⟨lc, kc, hc1, hc2⟩ := coefficients_both xs ys n c m d A B
    obtain ⟨he1, he2⟩ := eval_both ys x m d B
    have H1 := Lib.hid hw1
    have H2 := Lib.hid hw2
    have H3 := Lib.hid hi1
    have H4 := Lib.hid hi2
    have H5 := Lib.hid hc1
    have H6 := Lib.hid hc2
    have H7 := Lib.hid he1
    have H8 := Lib.hid he2
    generalize eval x ys = E at *
    clear hw1 hw2 hi1 hi2 hc1 hc2 he1 he2 hfew
    go_enter Try.func5, Try.ntmps5
    go_wp2_with (first
      | (go_at_call 16; (with_reducible refine (HFW.out _).mono ?_); rintro e w0 ⟨rfl, hb⟩; replace Z := bcj Z hb; replace hl := hl.on hb; replace hy := hy.on hb; clear hb)
      | (go_at_call 17; (with_reducible refine (H1.out _ hl).mono ?_); rintro e w1 ⟨A1, n1, c1, rfl, r1, hb⟩; replace Z := bcj Z hb; replace hl := hl.on hb; replace hy := hy.on hb; clear hb)
      | (go_at_call 18; (with_reducible refine (H2.out _ hl).mono ?_); rintro e w2 ⟨A2, n2, c2, rfl, r2, hb⟩; replace Z := bcj Z hb; replace hl := hl.on hb; replace hy := hy.on hb; replace r1 := r1.on hb; clear hb)
      | (go_at_call 19; (with_reducible refine (H3.out _ hl hy).mono ?_); rintro e w3 ⟨rfl, hb⟩; replace Z := bcj Z hb; replace hl := hl.on hb; replace hy := hy.on hb; replace r1 := r1.on hb; replace r2 := r2.on hb; clear hb)
      | (go_at_call 20; (with_reducible refine (H4.out _ hl hy).mono ?_); rintro e w4 ⟨rfl, hb⟩; replace Z := bcj Z hb; replace hl := hl.on hb; replace hy := hy.on hb; replace r1 := r1.on hb; replace r2 := r2.on hb; clear hb)
      | (go_at_call 21; (with_reducible refine (H5.out _ hl hy).mono ?_); rintro e w5 ⟨A5, n5, c5, rfl, r5, hb⟩; replace Z := bcj Z hb; replace hl := hl.on hb; replace hy := hy.on hb; replace r1 := r1.on hb; replace r2 := r2.on hb; clear hb)
      | (go_at_call 22; (with_reducible refine (H6.out _ hl hy).mono ?_); rintro e w6 ⟨A6, n6, c6, rfl, r6, hb⟩; replace Z := bcj Z hb; replace hl := hl.on hb; replace hy := hy.on hb; replace r1 := r1.on hb; replace r2 := r2.on hb; replace r5 := r5.on hb; clear hb)
      | (go_at_call 13; (with_reducible refine (HS.out _).mono ?_); rintro e w7 ⟨rfl, hb⟩; replace Z := bcj Z hb; replace hl := hl.on hb; replace hy := hy.on hb; replace r1 := r1.on hb; replace r2 := r2.on hb; replace r5 := r5.on hb; replace r6 := r6.on hb; clear hb)
      | (go_at_call 23; (with_reducible refine (H7.out _ hy).mono ?_); rintro e w8 ⟨rfl, hb⟩; replace Z := bcj Z hb; replace hl := hl.on hb; replace hy := hy.on hb; replace r1 := r1.on hb; replace r2 := r2.on hb; replace r5 := r5.on hb; replace r6 := r6.on hb; clear hb)
      | (go_at_call 24; (with_reducible refine (H8.out _ hy).mono ?_); rintro e w9 ⟨rfl, hb⟩; replace Z := bcj Z hb; replace r1 := r1.on hb; replace r2 := r2.on hb; replace r5 := r5.on hb; replace r6 := r6.on hb; clear hb hl hy)
      | (go_at_call 25; (with_reducible refine (same_any _ _ _ _ _ _ _ _ r1 r2).mono ?_); rintro e w10 ⟨rfl, hb⟩; replace Z := bcj Z hb; replace r5 := r5.on hb; replace r6 := r6.on hb; clear hb r1 r2)
      | (go_at_call 25; (with_reducible refine (same_any _ _ _ _ _ _ _ _ r5 r6).mono ?_); rintro e w11 ⟨rfl, hb⟩; replace Z := bcj Z hb; clear hb r5 r6))
    go_ret
    exact ⟨rfl, Z⟩
  · rw [decide_eq_false hfew] at HFW
    clear hfew hl hy
    go_enter Try.func5, Try.ntmps5
    go_wp2_with (first
      | (go_at_call 16; (with_reducible refine (HFW.out _).mono ?_); rintro e w0 ⟨rfl, hb⟩; replace Z := bcj Z hb; clear hb)
      | (go_at_call 13; (with_reducible refine (HS.out _).mono ?_); rintro e w7 ⟨rfl, hb⟩; replace Z := bcj Z hb; clear hb))
    go_ret
    exact ⟨rfl, Z⟩
end Gf
end Go.Proofs.Ytfeifmcgcgmhnaa
