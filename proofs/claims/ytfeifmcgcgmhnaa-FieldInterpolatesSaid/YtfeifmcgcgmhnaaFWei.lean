/- The package field as landed: Weights. Condition: the slice reads as a list. -/
import Derived.Test.YtfeifmcgcgmhnaaFClo
import Derived.Test.YtfeifmcgcgmhnaaFRow
namespace Go.Proofs.Ytfeifmcgcgmhnaa
open Go.RowKit
namespace Gf
open Wire (Lies bv)

set_option maxRecDepth 100000 in
set_option maxHeartbeats 1000000 in
theorem weights_no (xs : List UInt8) (x : UInt8) (n c : Nat) (A : Option Addr) (w : World) (hl : Lies w w.heap.size 1 A n c (xs.map bv)) (hf : ¬ fit xs) :
    Calls Try.prog 17 #[.slice A n c, .int .u8 (x.toNat : Int)] w (GivesN 1 w) := by
  have HD : Hid (∀ W, Below w.heap.size w W → Calls Try.prog 27 #[.slice A n c] W (Tells false W)) := Lib.hid (fun W hb => by
    have := different_any xs n c A W (lies_up (hl.below hb) hb.size)
    rwa [decide_eq_false hf] at this)
  have hb0 : Below w.heap.size w ((w.alloc (.cells #[.slice A n c] 30)).alloc (.cells #[.int .u8 (x.toNat : Int)] 5)) := ((Below.refl _ _).alloc (Nat.le_refl _) _).alloc (by simp) _
  have HB := Lib.hid hb0
  clear hf hl hb0
  go_enter Try.func17, Try.ntmps17
  go_wp2_with (first
    | (go_at_call 27; (with_reducible refine (HD.out _ HB.out).mono ?_); rintro e w1 ⟨rfl, hb1⟩))
  go_ret2
  exact ⟨rfl, HB.out.trans (hb1.mono HB.out.size)⟩

set_option maxRecDepth 100000 in
set_option maxHeartbeats 1000000 in
theorem weights_any (xs : List UInt8) (x : UInt8) (n c : Nat) (A : Option Addr) (w : World) (hl : Lies w w.heap.size 1 A n c (xs.map bv)) (hf : fit xs) :
    Calls Try.prog 17 #[.slice A n c, .int .u8 (x.toNat : Int)] w (GivesS (weights xs x) w) := by
  obtain ⟨i0, hi, hz0, hz1, hz2⟩ := info_parts byte_info
  have HD : Hid (∀ W, Below w.heap.size w W → Calls Try.prog 27 #[.slice A n c] W (Tells true W)) := Lib.hid (fun W hb => by
    have := different_any xs n c A W (lies_up (hl.below hb) hb.size)
    rwa [decide_eq_true hf] at this)
  have hmf : ∀ (fn : Fn) (first cap : Array Value) (w : World), (Instr.makeFunc fn first cap).run Try.prog w = .ok (.func fn first cap) w := fun _ _ _ _ => rfl
  have hb0 : Below w.heap.size w ((w.alloc (.cells #[.slice A n c] 30)).alloc (.cells #[.int .u8 (x.toNat : Int)] 5)) := ((Below.refl _ _).alloc (Nat.le_refl _) _).alloc (by simp) _
  have HB := Lib.hid hb0
  have hmost : c ≤ 9223372036854775807 := by have := hl.most; unfold maxLen at this; omega
  have hle := hl.le
  have hpn : xs.length = n := by have := hl.len; simpa using this
  have HPN := Lib.hid hpn
  have HL := Lib.hid hl
  have HF := Lib.hid hf
  have hn255 : n ≤ 255 := by have := hf.2.1; omega
  have hc0 : Hid (∀ W, Below (w.heap.size + 1 + 1) ((w.alloc (.cells #[.slice A n c] 30)).alloc (.cells #[.int .u8 (x.toNat : Int)] 5)) W → W.cell? ⟨w.heap.size, 0, none⟩ = some (.slice A n c) ∧ W.cell? ⟨w.heap.size + 1, 0, none⟩ = some (.int .u8 (x.toNat : Int))) := Lib.hid (fun W h => by
    refine ⟨(h.cell (by show w.heap.size < _; omega)).trans ?_, (h.cell (by show w.heap.size + 1 < _; omega)).trans ?_⟩
    · rw [cell_old _ _ _ (by simp), cell_new]
    · simp)
  clear hpn hl hf hb0
  go_enter Try.func17, Try.ntmps17
  go_wp2_with (first
    | (go_at_call 27; (with_reducible refine (HD.out _ HB.out).mono ?_); rintro e w1 ⟨rfl, hb1⟩; have hb2 : Below (w.heap.size + 1 + 1) _ w1 := hb1.mono (by simp); obtain ⟨c0, c1⟩ := hc0.out w1 hb2; clear hb1)
    | (at_make; refine wpList_make_full _ rfl _ _ 30 rfl w1.heap.size 5 i0 (.int .u8 0) 1 Try.underlying30 hi hz0 hz1 .i64 .i64 _ _ n rfl rfl rfl rfl (by rw [hz2]; omega) (by unfold maxLen; omega) (Nat.le_refl _) ?_; intro w4 hown4 hg4))
  have hR0 := row_made hown4
  rw [← HPN.out, ← wsofar_zero xs x, HPN.out] at hR0
  have hb5 : Below w1.heap.size w1 w4 := (Below.refl _ _).grown hg4 (Nat.le_refl _) (by simp)
  have hsz : w.heap.size + 1 + 1 ≤ w1.heap.size := by have := hb2.size; simpa using this
  have HC : Hid (∀ W, Below w1.heap.size w1 W → W.cell? ⟨w.heap.size, 0, none⟩ = some (.slice A n c) ∧ W.cell? ⟨w.heap.size + 1, 0, none⟩ = some (.int .u8 (x.toNat : Int)) ∧ Lies W w.heap.size 1 A n c (xs.map bv) ∧ w.heap.size ≤ W.heap.size ∧ Below w.heap.size w W) := Lib.hid (fun W h => by
    have h2 := h.mono (show w.heap.size + 1 + 1 ≤ w1.heap.size by omega)
    have h3 : Below w.heap.size w W := HB.out.trans ((hb2.trans h2).mono (by omega))
    exact ⟨(hc0.out W (hb2.trans h2)).1, (hc0.out W (hb2.trans h2)).2, HL.out.below h3, h3.size, h3⟩)
  clear hown4 hg4 c0 c1 hb2
  generalize hG : w1.heap.size = G at *
  have HG := Lib.hid hG
  clear hG
  go_loopw [18] (fun iv wr => ∃ (k : Nat), k ≤ n ∧ iv = .int .i64 (k : Int) ∧ Row wr G G n (wsofar xs x k) ∧ Below G w1 wr) (fun iv _ => (n - intOf iv).toNat)
  case atStart => exact ⟨0, by omega, rfl, hR0, hb5⟩
  case round =>
    clear hR0 hb5
    obtain ⟨k, hk, rfl, hR, hbw⟩ := hrel
    by_cases hlt : k < n
    · have z0 : (0 : Int) ≤ (k : Int) := by omega
      have z1 : (k : Int) < (n : Int) := by omega
      obtain ⟨c0, c1, hl, hsz2, -⟩ := HC.out wr hbw
      obtain ⟨hx0, hx1⟩ := wsofar_next (x := x) (show k < xs.length by rw [HPN.out]; exact hlt)
      have HX0 := Lib.hid hx0
      have HX1 := Lib.hid hx1
      have HCL := Lib.hid (clo_any xs x n c k w.heap.size w.heap.size (w.heap.size + 1) A wr hsz2 hl hlt c0 c1)
      have HR := Lib.hid hR
      clear hl hx0 hx1 hR
      go_wp2_with (first
        | (go_at_call 28; (with_reducible refine HCL.out.mono ?_); rintro e w2 ⟨rfl, hb1⟩; have hR2 := HR.out.on hb1; obtain ⟨q1, q2⟩ := hR2.at_ HX0.out; have HR2 := Lib.hid hR2; clear hR2))
      go_roundw
      case rel =>
        refine ⟨k + 1, by omega, by go_num, by rw [HX1.out]; exact HR2.out.set k _, ?_⟩
        exact (hbw.trans (hb1.mono (by have := hbw.size; have := HG.out; omega))).setCell (Nat.le_refl _) _
      case measure => simp [intOf]; omega
    · obtain rfl : k = n := by omega
      have z1 : ¬ (k : Int) < (k : Int) := by omega
      have hall := wsofar_all xs x
      rw [HPN.out] at hall
      rw [hall] at hR
      have HR := Lib.hid hR
      have hB := (HC.out wr hbw).2.2.2.2
      clear hR hall
      go_wp2
      go_ret2
      exact ⟨_, _, _, rfl, HR.out.lies, hB⟩
end Gf
end Go.Proofs.Ytfeifmcgcgmhnaa
