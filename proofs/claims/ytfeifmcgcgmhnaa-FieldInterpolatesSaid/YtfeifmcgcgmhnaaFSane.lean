/- The examples that every statement of layer 6 checks: they hold. No condition. -/
import Derived.Test.YtfeifmcgcgmhnaaFCoe
import Derived.Test.YtfeifmcgcgmhnaaFRefC
import Derived.Test.YtfeifmcgcgmhnaaFSame
namespace Go.Proofs.Ytfeifmcgcgmhnaa
open Go.RowKit
namespace Gf
open Wire (Lies bv b1 lies_lit size_alloc)

theorem x1 : inv 2 = 142 := by decide +kernel
theorem x2 : mul 1 (inv 2) = 142 := by decide +kernel
theorem x3 : weights [1, 2] 0 = [245, 244] := by decide +kernel
theorem x4 : interp [1, 2] [6, 3] 0 = 5 := by decide +kernel
theorem x5 : coeff [1, 2] [6, 3] = [5, 3] := by decide +kernel
theorem x6 : mul 2 128 = 29 := by decide +kernel
theorem x7 : eval 2 [5, 3] = 3 := by decide +kernel
theorem fit12 : fit [1, 2] := by decide +kernel
theorem not11 : ¬ fit [1, 1] := by decide +kernel
/-- A literal of two bytes. -/
theorem lit2 (W : World) (a b : UInt8) : Lies (W.alloc (.cells #[.int .u8 (a.toNat : Int), .int .u8 (b.toNat : Int)] 5)) (W.alloc (.cells #[.int .u8 (a.toNat : Int), .int .u8 (b.toNat : Int)] 5)).heap.size 1 (some ⟨W.heap.size, 0, none⟩) 2 2 ([a, b].map bv) :=
  lies_lit W _ _ ([a, b].map bv) rfl (by simp [maxLen])
theorem lit2b (W : World) (o : Obj) (a b : UInt8) : Lies ((W.alloc o).alloc (.cells #[.int .u8 (a.toNat : Int), .int .u8 (b.toNat : Int)] 5)) ((W.alloc o).alloc (.cells #[.int .u8 (a.toNat : Int), .int .u8 (b.toNat : Int)] 5)).heap.size 1 (some ⟨W.heap.size + 1, 0, none⟩) 2 2 ([a, b].map bv) := by
  have h := lit2 (W.alloc o) a b
  rw [← size_alloc W o]
  exact h

theorem c1 (W : World) : Calls Try.prog 9 #[.int .u8 2] W fun e w' => e = .returned (.tuple #[.int .u8 142, .int .i64 0]) ∧ Below W.heap.size W w' := by
  have h := inv_any 2 (by decide) W; rw [x1] at h; exact h
theorem c2 (W : World) : Calls Try.prog 9 #[.int .u8 0] W fun e w' => e = .returned (.tuple #[.int .u8 0, .int .i64 1]) ∧ Below W.heap.size W w' := inv_no W
theorem c3 (W : World) : Calls Try.prog 11 #[.int .u8 1, .int .u8 2] W fun e w' => e = .returned (.tuple #[.int .u8 142, .int .i64 0]) ∧ Below W.heap.size W w' := by
  have h := div_any 1 2 (by decide) W; rw [x2] at h; exact h
theorem c4 (W : World) : Calls Try.prog 17 #[.slice (some ⟨W.heap.size, 0, none⟩) 2 2, .int .u8 0] (W.alloc (.cells #[.int .u8 1, .int .u8 2] 5)) fun e w' =>
    ∃ A n c, e = .returned (.tuple #[.slice A n c, .int .i64 0]) ∧ Lies w' w'.heap.size 1 A n c (([245, 244] : List UInt8).map bv) ∧ Below W.heap.size W w' := by
  have h := weights_any [1, 2] 0 2 2 (some ⟨W.heap.size, 0, none⟩) _ (lit2 W 1 2) fit12
  rw [x3] at h
  exact h.mono fun e w' ⟨A, n, c, h1, h2, h3⟩ => ⟨A, n, c, h1, h2, bcj (b1 W _) h3⟩
theorem c5 (W : World) : Calls Try.prog 19 #[.slice (some ⟨W.heap.size, 0, none⟩) 2 2, .slice (some ⟨W.heap.size + 1, 0, none⟩) 2 2, .int .u8 0] ((W.alloc (.cells #[.int .u8 1, .int .u8 2] 5)).alloc (.cells #[.int .u8 6, .int .u8 3] 5)) fun e w' =>
    e = .returned (.tuple #[.int .u8 5, .int .i64 0]) ∧ Below W.heap.size W w' := by
  have h := interpolate_any [1, 2] [6, 3] 0 2 2 2 (some ⟨W.heap.size, 0, none⟩) (some ⟨W.heap.size + 1, 0, none⟩) _ ((lit2 W 1 2).on (b1 _ _)) (lit2b W _ 6 3) fit12
  rw [x4] at h
  exact h.mono fun e w' ⟨h1, h3⟩ => ⟨h1, bcj (bcj (b1 W _) (b1 _ _)) h3⟩
theorem c6 (W : World) : Calls Try.prog 21 #[.slice (some ⟨W.heap.size, 0, none⟩) 2 2, .slice (some ⟨W.heap.size + 1, 0, none⟩) 2 2] ((W.alloc (.cells #[.int .u8 1, .int .u8 2] 5)).alloc (.cells #[.int .u8 6, .int .u8 3] 5)) fun e w' =>
    ∃ A n c, e = .returned (.tuple #[.slice A n c, .int .i64 0]) ∧ Lies w' w'.heap.size 1 A n c (([5, 3] : List UInt8).map bv) ∧ Below W.heap.size W w' := by
  have h := coefficients_any [1, 2] [6, 3] 2 2 2 (some ⟨W.heap.size, 0, none⟩) (some ⟨W.heap.size + 1, 0, none⟩) _ ((lit2 W 1 2).on (b1 _ _)) (lit2b W _ 6 3) fit12
  rw [x5] at h
  exact h.mono fun e w' ⟨A, n, c, h1, h2, h3⟩ => ⟨A, n, c, h1, h2, bcj (bcj (b1 W _) (b1 _ _)) h3⟩
theorem c7 (W : World) : Calls Try.prog 19 #[.slice (some ⟨W.heap.size, 0, none⟩) 2 2, .slice (some ⟨W.heap.size + 1, 0, none⟩) 2 2, .int .u8 0] ((W.alloc (.cells #[.int .u8 1, .int .u8 1] 5)).alloc (.cells #[.int .u8 0, .int .u8 0] 5)) fun e w' =>
    e = .returned (.tuple #[.int .u8 0, .int .i64 1]) ∧ Below W.heap.size W w' :=
  (interpolate_bad [1, 1] 0 2 2 2 (some ⟨W.heap.size, 0, none⟩) (some ⟨W.heap.size + 1, 0, none⟩) _ ((lit2 W 1 1).on (b1 _ _)) not11).mono fun _ _ ⟨h1, h3⟩ => ⟨h1, bcj (bcj (b1 W _) (b1 _ _)) h3⟩
theorem c8 (W : World) : Calls Try.prog 14 #[.int .u8 2, .int .u8 128] W fun e w' => e = .returned (.int .u8 29) ∧ Below W.heap.size W w' := by
  have h := mul_any 2 128 W; rw [x6] at h; exact h
theorem c9 (W : World) : Calls Try.prog 23 #[.slice (some ⟨W.heap.size, 0, none⟩) 2 2, .int .u8 2] (W.alloc (.cells #[.int .u8 5, .int .u8 3] 5)) fun e w' => e = .returned (.int .u8 3) ∧ Below W.heap.size W w' := by
  have h := eval_any [5, 3] 2 2 2 (some ⟨W.heap.size, 0, none⟩) _ (lit2 W 5 3)
  rw [x7] at h
  exact h.mono fun e w' ⟨h1, h3⟩ => ⟨h1, bcj (b1 W _) h3⟩
theorem c10 (W : World) (a b : UInt8) (A : Option Addr) (n c : Nat) (h : Lies W W.heap.size 1 A n c ([a, b].map bv)) : Calls Try.prog 25 #[.slice A n c, .slice (some ⟨W.heap.size, 0, none⟩) 2 2] (W.alloc (.cells #[.int .u8 (a.toNat : Int), .int .u8 (b.toNat : Int)] 5)) fun e w' =>
    e = .returned (.bool true) ∧ Below W.heap.size W w' := by
  have h := refSame_any [a, b] [a, b] n c 2 2 A (some ⟨W.heap.size, 0, none⟩) _ (h.on (b1 _ _)) (lit2 W a b)
  rw [decide_eq_true rfl] at h
  exact h.mono fun e w' ⟨h1, h3⟩ => ⟨h1, bcj (b1 W _) h3⟩
theorem c11 (W : World) (A : Option Addr) (n c : Nat) (h : Lies W W.heap.size 1 A n c (([245, 244] : List UInt8).map bv)) : Calls Try.prog 25 #[.slice A n c, .slice (some ⟨W.heap.size, 0, none⟩) 2 2] (W.alloc (.cells #[.int .u8 245, .int .u8 244] 5)) fun e w' =>
    e = .returned (.bool true) ∧ Below W.heap.size W w' := c10 W 245 244 A n c h
theorem c12 (W : World) (A : Option Addr) (n c : Nat) (h : Lies W W.heap.size 1 A n c (([5, 3] : List UInt8).map bv)) : Calls Try.prog 25 #[.slice A n c, .slice (some ⟨W.heap.size, 0, none⟩) 2 2] (W.alloc (.cells #[.int .u8 5, .int .u8 3] 5)) fun e w' =>
    e = .returned (.bool true) ∧ Below W.heap.size W w' := c10 W 5 3 A n c h

set_option maxRecDepth 100000 in
set_option maxHeartbeats 2000000 in
theorem sanity_any (w : World) : Calls Try.prog 13 #[] w (Tells true w) := by
  have Z := Below.refl w.heap.size w
  go_enter Try.func13, Try.ntmps13
  go_wp2_with (first
    | (go_at_call 9; (with_reducible refine (c1 _).mono ?_); rintro e w1 ⟨rfl, hb⟩; replace Z := bcj Z hb; clear hb)
    | (go_at_call 9; (with_reducible refine (c2 _).mono ?_); rintro e w2 ⟨rfl, hb⟩; replace Z := bcj Z hb; clear hb)
    | (go_at_call 11; (with_reducible refine (c3 _).mono ?_); rintro e w3 ⟨rfl, hb⟩; replace Z := bcj Z hb; clear hb)
    | (go_at_call 17; (with_reducible refine (c4 _).mono ?_); rintro e w4 ⟨A, n, c, rfl, hW, hb⟩; replace Z := bcj Z hb; clear hb)
    | (go_at_call 19; (with_reducible refine (c5 _).mono ?_); rintro e w5 ⟨rfl, hb⟩; replace Z := bcj Z hb; replace hW := hW.on hb; clear hb)
    | (go_at_call 21; (with_reducible refine (c6 _).mono ?_); rintro e w6 ⟨B, m, d, rfl, hC, hb⟩; replace Z := bcj Z hb; replace hW := hW.on hb; clear hb)
    | (go_at_call 19; (with_reducible refine (c7 _).mono ?_); rintro e w7 ⟨rfl, hb⟩; replace Z := bcj Z hb; replace hW := hW.on hb; replace hC := hC.on hb; clear hb)
    | (go_at_call 14; (with_reducible refine (c8 _).mono ?_); rintro e w8 ⟨rfl, hb⟩; replace Z := bcj Z hb; replace hW := hW.on hb; replace hC := hC.on hb; clear hb)
    | (go_at_call 23; (with_reducible refine (c9 _).mono ?_); rintro e w9 ⟨rfl, hb⟩; replace Z := bcj Z hb; replace hW := hW.on hb; replace hC := hC.on hb; clear hb)
    | (go_at_call 25; (with_reducible refine (c11 _ _ _ _ hW).mono ?_); rintro e w10 ⟨rfl, hb⟩; replace Z := bcj Z hb; replace hC := hC.on hb; clear hb hW)
    | (go_at_call 25; (with_reducible refine (c12 _ _ _ _ hC).mono ?_); rintro e w11 ⟨rfl, hb⟩; replace Z := bcj Z hb; clear hb hC))
  go_ret
  exact ⟨rfl, Z⟩

set_option maxRecDepth 100000 in
set_option maxHeartbeats 1000000 in
theorem few_any (n c m d : Nat) (A B : Option Addr) (w : World) : Calls Try.prog 16 #[.slice A n c, .slice B m d] w (Tells (decide (n ≤ 40 ∧ m ≤ 40)) w) := by
  by_cases h1 : n ≤ 40
  · have y1 : (n : Int) ≤ 40 := by omega
    by_cases h2 : m ≤ 40
    · have y2 : (m : Int) ≤ 40 := by omega
      rw [decide_eq_true ⟨h1, h2⟩]
      go_enter Try.func16, Try.ntmps16
      go_wp2
      go_ret
      exact ⟨rfl, Below.refl _ _⟩
    · have y2 : ¬ (m : Int) ≤ 40 := by omega
      rw [decide_eq_false (fun h => h2 h.2)]
      go_enter Try.func16, Try.ntmps16
      go_wp2
      go_ret
      exact ⟨rfl, Below.refl _ _⟩
  · have y1 : ¬ (n : Int) ≤ 40 := by omega
    rw [decide_eq_false (fun h => h1 h.1)]
    go_enter Try.func16, Try.ntmps16
    go_wp2
    go_ret
    exact ⟨rfl, Below.refl _ _⟩
end Gf
end Go.Proofs.Ytfeifmcgcgmhnaa
