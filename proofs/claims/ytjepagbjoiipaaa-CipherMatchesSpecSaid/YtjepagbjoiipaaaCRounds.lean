/- Ten double rounds of the package cipher. Condition: the state has sixteen words of 32 bits. -/
import Derived.Test.YtjepagbjoiipaaaCRound
namespace Go.Proofs.Ytjepagbjoiipaaa
open Go.RowKit
namespace Cha

set_option maxRecDepth 100000 in
set_option maxHeartbeats 2000000 in
theorem rounds_any (l : List Nat) (w : World) (h : Ok l) :
    Calls Try.prog 14 #[.agg (l.map wv).toArray] w (GivesA ((rounds l).map wv) w) := by
  have S0 := round_start (w := w) h 23 23
  obtain ⟨l1, hl1⟩ : ∃ l1, l1 = rounds l := ⟨_, rfl⟩
  rw [← hl1]
  have HR := Lib.hid hl1
  clear hl1
  have hz := zero16
  clear h
  go_enter Try.func14, Try.ntmps14
  go_wp2
  go_loopw [3] (fun iv wr => ∃ (k : Nat), k ≤ 10 ∧ iv = .int .i64 (k : Int) ∧ RoundS w wr (times double k l)) (fun iv _ => (10 - intOf iv).toNat)
  case atStart => exact ⟨0, by omega, rfl, S0⟩
  case round =>
    obtain ⟨k, hk, rfl, hr0⟩ := hrel
    clear S0
    by_cases hlt : k < 10
    · have HD : Hid (times double (k + 1) l = turn (turn (turn (turn (turn (turn (turn (turn (times double k l) (0, 4, 8, 12)) (1, 5, 9, 13)) (2, 6, 10, 14)) (3, 7, 11, 15)) (0, 5, 10, 15)) (1, 6, 11, 12)) (2, 7, 8, 13)) (3, 4, 9, 14)) := Lib.hid (by rw [times_step, double_eq])
      generalize times double k l = l0 at hr0 HD
      have z0 : (k : Int) < 10 := by omega
      obtain ⟨q0, g0, f0, a0, a1, a2, a3, b0, b1, b2, b3⟩ := hr0.quad 0 4 8 12
      have G0 := Lib.hid g0; clear g0
      go_wp2_with (first
        | (go_at_call 23; (with_reducible refine (quarter_any q0 _ f0).mono ?_); rintro e u0 ⟨r0, h0, i0, rfl, rfl⟩; have T0 := fun W (h : RoundS w W l0) => h.turned (i := 0) (j := 4) (k := 8) (m := 12) G0.out h0; clear f0)
        | ((with_reducible refine at_slot 24 rfl ?_); refine gen_world (Pq := fun W => RoundS w W (turn l0 (0, 4, 8, 12))) (G := fun W => wpList _ _ _ _ _ W) (T0 _ hr0) ?_; clear hr0 T0; clear a0 a1 a2 a3 b0 b1 b2 b3; generalize hl1 : turn l0 (0, 4, 8, 12) = l1; have L1 := Lib.hid hl1; clear hl1; intro w1 hr1; obtain ⟨q1, g1, f1, a0, a1, a2, a3, b0, b1, b2, b3⟩ := hr1.quad 1 5 9 13; have G1 := Lib.hid g1; clear g1)
        | (go_at_call 23; (with_reducible refine (quarter_any q1 _ f1).mono ?_); rintro e u1 ⟨r1, h1, i1, rfl, rfl⟩; have T1 := fun W (h : RoundS w W l1) => h.turned (i := 1) (j := 5) (k := 9) (m := 13) G1.out h1; clear f1)
        | ((with_reducible refine at_slot 42 rfl ?_); refine gen_world (Pq := fun W => RoundS w W (turn l1 (1, 5, 9, 13))) (G := fun W => wpList _ _ _ _ _ W) (T1 _ hr1) ?_; clear hr1 T1; clear a0 a1 a2 a3 b0 b1 b2 b3; generalize hl2 : turn l1 (1, 5, 9, 13) = l2; have L2 := Lib.hid hl2; clear hl2; intro w2 hr2; obtain ⟨q2, g2, f2, a0, a1, a2, a3, b0, b1, b2, b3⟩ := hr2.quad 2 6 10 14; have G2 := Lib.hid g2; clear g2)
        | (go_at_call 23; (with_reducible refine (quarter_any q2 _ f2).mono ?_); rintro e u2 ⟨r2, h2, i2, rfl, rfl⟩; have T2 := fun W (h : RoundS w W l2) => h.turned (i := 2) (j := 6) (k := 10) (m := 14) G2.out h2; clear f2)
        | ((with_reducible refine at_slot 60 rfl ?_); refine gen_world (Pq := fun W => RoundS w W (turn l2 (2, 6, 10, 14))) (G := fun W => wpList _ _ _ _ _ W) (T2 _ hr2) ?_; clear hr2 T2; clear a0 a1 a2 a3 b0 b1 b2 b3; generalize hl3 : turn l2 (2, 6, 10, 14) = l3; have L3 := Lib.hid hl3; clear hl3; intro w3 hr3; obtain ⟨q3, g3, f3, a0, a1, a2, a3, b0, b1, b2, b3⟩ := hr3.quad 3 7 11 15; have G3 := Lib.hid g3; clear g3)
        | (go_at_call 23; (with_reducible refine (quarter_any q3 _ f3).mono ?_); rintro e u3 ⟨r3, h3, i3, rfl, rfl⟩; have T3 := fun W (h : RoundS w W l3) => h.turned (i := 3) (j := 7) (k := 11) (m := 15) G3.out h3; clear f3)
        | ((with_reducible refine at_slot 78 rfl ?_); refine gen_world (Pq := fun W => RoundS w W (turn l3 (3, 7, 11, 15))) (G := fun W => wpList _ _ _ _ _ W) (T3 _ hr3) ?_; clear hr3 T3; clear a0 a1 a2 a3 b0 b1 b2 b3; generalize hl4 : turn l3 (3, 7, 11, 15) = l4; have L4 := Lib.hid hl4; clear hl4; intro w4 hr4; obtain ⟨q4, g4, f4, a0, a1, a2, a3, b0, b1, b2, b3⟩ := hr4.quad 0 5 10 15; have G4 := Lib.hid g4; clear g4)
        | (go_at_call 23; (with_reducible refine (quarter_any q4 _ f4).mono ?_); rintro e u4 ⟨r4, h4, i4, rfl, rfl⟩; have T4 := fun W (h : RoundS w W l4) => h.turned (i := 0) (j := 5) (k := 10) (m := 15) G4.out h4; clear f4)
        | ((with_reducible refine at_slot 96 rfl ?_); refine gen_world (Pq := fun W => RoundS w W (turn l4 (0, 5, 10, 15))) (G := fun W => wpList _ _ _ _ _ W) (T4 _ hr4) ?_; clear hr4 T4; clear a0 a1 a2 a3 b0 b1 b2 b3; generalize hl5 : turn l4 (0, 5, 10, 15) = l5; have L5 := Lib.hid hl5; clear hl5; intro w5 hr5; obtain ⟨q5, g5, f5, a0, a1, a2, a3, b0, b1, b2, b3⟩ := hr5.quad 1 6 11 12; have G5 := Lib.hid g5; clear g5)
        | (go_at_call 23; (with_reducible refine (quarter_any q5 _ f5).mono ?_); rintro e u5 ⟨r5, h5, i5, rfl, rfl⟩; have T5 := fun W (h : RoundS w W l5) => h.turned (i := 1) (j := 6) (k := 11) (m := 12) G5.out h5; clear f5)
        | ((with_reducible refine at_slot 114 rfl ?_); refine gen_world (Pq := fun W => RoundS w W (turn l5 (1, 6, 11, 12))) (G := fun W => wpList _ _ _ _ _ W) (T5 _ hr5) ?_; clear hr5 T5; clear a0 a1 a2 a3 b0 b1 b2 b3; generalize hl6 : turn l5 (1, 6, 11, 12) = l6; have L6 := Lib.hid hl6; clear hl6; intro w6 hr6; obtain ⟨q6, g6, f6, a0, a1, a2, a3, b0, b1, b2, b3⟩ := hr6.quad 2 7 8 13; have G6 := Lib.hid g6; clear g6)
        | (go_at_call 23; (with_reducible refine (quarter_any q6 _ f6).mono ?_); rintro e u6 ⟨r6, h6, i6, rfl, rfl⟩; have T6 := fun W (h : RoundS w W l6) => h.turned (i := 2) (j := 7) (k := 8) (m := 13) G6.out h6; clear f6)
        | ((with_reducible refine at_slot 132 rfl ?_); refine gen_world (Pq := fun W => RoundS w W (turn l6 (2, 7, 8, 13))) (G := fun W => wpList _ _ _ _ _ W) (T6 _ hr6) ?_; clear hr6 T6; clear a0 a1 a2 a3 b0 b1 b2 b3; generalize hl7 : turn l6 (2, 7, 8, 13) = l7; have L7 := Lib.hid hl7; clear hl7; intro w7 hr7; obtain ⟨q7, g7, f7, a0, a1, a2, a3, b0, b1, b2, b3⟩ := hr7.quad 3 4 9 14; have G7 := Lib.hid g7; clear g7)
        | (go_at_call 23; (with_reducible refine (quarter_any q7 _ f7).mono ?_); rintro e u7 ⟨r7, h7, i7, rfl, rfl⟩; have T7 := fun W (h : RoundS w W l7) => h.turned (i := 3) (j := 4) (k := 9) (m := 14) G7.out h7; clear f7))
      go_roundw
      case rel =>
        refine ⟨k + 1, by omega, by go_num, ?_⟩
        rw [HD.out, L1.out, L2.out, L3.out, L4.out, L5.out, L6.out, L7.out]
        exact T7 _ hr7
      case measure => simp [intOf]; omega
    · have hk10 : k = 10 := by omega
      have z0 : ¬ (k : Int) < 10 := by omega
      have S1 : RoundS w wr l1 := by rw [hk10] at hr0; rw [HR.out]; exact hr0
      clear hr0 hk10 hlt hk
      have hl := S1.ok.len
      obtain ⟨ys, hy⟩ := S1.res
      have hth : wr.there (w.heap.size + 1) 0 (l1.map wv).toArray.size := by
        rw [show (l1.map wv).toArray.size = 16 by rw [List.size_toArray, List.length_map]; exact hl]; exact hy.there
      have hend := arr_end (w := w) (wr := wr) (g := w.heap.size + 1) (xs := l1.map wv) 23 S1.below (by omega) (by rw [List.length_map, hl]; exact hy.there) und16 rfl (i16 hl)
      have HL := Lib.hid hl
      have HE := Lib.hid hend
      have hrg := S1.arr.range
      clear hl hend hy
      go_wp2_with (first
        | ((with_reducible refine at_slot 150 rfl ?_); refine wpList_load_mid rfl 23 (.tmp 1) rfl w.heap.size 0 rfl (l1.map wv) _ hrg und16 rfl (i16 HL.out) ?_)
        | ((with_reducible refine at_store 23 (.tmp 2) (.tmp 150) rfl ?_); refine wpList_store_mid rfl 23 (.tmp 2) (.tmp 150) rfl (w.heap.size + 1) 0 (l1.map wv).toArray rfl rfl hth (i16A HL.out) (words_one _) ?_))
      refine bodyPost_ret (v := .agg (l1.map wv).toArray) ?_ rfl ⟨rfl, HE.out.2⟩
      simp [results, Try.results14, asAddr]
      rw [HE.out.1]

end Cha
end Go.Proofs.Ytjepagbjoiipaaa
