/- The reference's rotation, its quarter round and the inverse of that. Conditions: the state has sixteen words of 32 bits, the four places are different. -/
import Derived.Test.YtdlcoajjhcbffaaDoorM5
import Derived.Test.YtdlcoajjhcbffaaDoorZCRefM
import Derived.Test.YtdlcoajjhcbffaaDoorZQTail
import Derived.BigQuiet
namespace Go.Proofs.YtdlcoajjhcbffaaDoor
open Go.RowKit
namespace Cha

set_option maxRecDepth 100000 in
theorem refRotl_any (x n : Nat) (w : World) (hx : x < 4294967296) (h1 : 1 ≤ n) (h2 : n ≤ 31) :
    Calls Tryd.prog 74 #[.int .u32 (x : Int), .int .i64 (n : Int)] w fun e w' => e = .returned (.int .u32 (rotl x n : Int)) ∧ ∃ k, w' = w.drewN k := by
  have hn : n ≤ 32 := by omega
  have s1 : IntKind.i64.wrap (32 - (n : Int)) = ((32 - n : Nat) : Int) := by rw [IntWalk.i64_in _ (by omega)]; omega
  have s2 : (0 : Int) ≤ (n : Int) := by omega
  have s3 : (0 : Int) ≤ ((32 - n : Nat) : Int) := by omega
  go_enter Tryd.func74, Tryd.ntmps74
  go_wp2
  go_quiet (fail)
  go_wp2
  go_ret
  have e1 : ((x : Int) * 2 ^ n % 4294967296) = ((x * 2 ^ n % 4294967296 : Nat) : Int) := by simp
  have e2 : ((x : Int) / 2 ^ (32 - n)) = ((x / 2 ^ (32 - n) : Nat) : Int) := by simp
  refine ⟨congrArg Ending.returned (congrArg (Value.int .u32) ?_), _, rfl⟩
  rw [e1, e2, or32 (Nat.mod_lt _ (by omega)) (div_lt _ hx)]
  rfl

theorem RoundS.cell {w W : World} {l : List Nat} (h : RoundS w W l) {i : Nat} (hi : i < 16) : W.cell? ⟨w.heap.size, i, none⟩ = some (.int .u32 ((l.getD i 0 : Nat) : Int)) :=
  (h.arr.at_ (i := i) (u := wv (l.getD i 0)) (by rw [List.getElem?_map, (h.ok.at_ hi).1]; rfl)).1
theorem RoundS.put {w W : World} {l : List Nat} (h : RoundS w W l) {i x : Nat} (hi : i < 16) (hx : x < 4294967296) (n : Nat) : RoundS w ((W.drewN n).setCell ⟨w.heap.size, i, none⟩ (.int .u32 (x : Int))) (l.set i x) := by
  obtain ⟨ys, hy⟩ := h.res
  have ha := (h.arr.drew n).set hi (wv x)
  rw [← List.map_set] at ha
  have hb : Below w.heap.size w (W.drewN n) := ⟨h.below.os, h.below.tape, h.below.output, h.below.size, h.below.block⟩
  exact ⟨ha, ⟨ys, (hy.drew n).other (by omega) _⟩, h.ok.set i hx, hb.setCell (by simp) _⟩
theorem RoundS.addS {w W : World} {l : List Nat} (h : RoundS w W l) (a b : Nat) (ha : a < 16) (hb : b < 16) : ∃ x y v : Nat, W.cell? ⟨w.heap.size, a, none⟩ = some (.int .u32 (x : Int)) ∧ W.cell? ⟨w.heap.size, b, none⟩ = some (.int .u32 (y : Int)) ∧
    W.frozen? ⟨w.heap.size, a, none⟩ = false ∧ IntKind.u32.wrap ((x : Int) + (y : Int)) = (v : Int) ∧ ∀ n, RoundS w ((W.drewN n).setCell ⟨w.heap.size, a, none⟩ (.int .u32 (v : Int))) (sAdd l a b) :=
  ⟨_, _, _, h.cell ha, h.cell hb, h.arr.free a ha, add32 _ _, fun n => h.put ha (add_lt _ _) n⟩
theorem RoundS.subS {w W : World} {l : List Nat} (h : RoundS w W l) (a b : Nat) (ha : a < 16) (hb : b < 16) : ∃ x y v : Nat, W.cell? ⟨w.heap.size, a, none⟩ = some (.int .u32 (x : Int)) ∧ W.cell? ⟨w.heap.size, b, none⟩ = some (.int .u32 (y : Int)) ∧
    W.frozen? ⟨w.heap.size, a, none⟩ = false ∧ IntKind.u32.wrap ((x : Int) - (y : Int)) = (v : Int) ∧ ∀ n, RoundS w ((W.drewN n).setCell ⟨w.heap.size, a, none⟩ (.int .u32 (v : Int))) (sSub l a b) :=
  ⟨_, _, _, h.cell ha, h.cell hb, h.arr.free a ha, sub32 (h.ok.lt_ _), fun n => h.put ha (sub_lt _ _) n⟩
theorem RoundS.rotS {w W : World} {l : List Nat} (h : RoundS w W l) (d a r : Nat) (hd : d < 16) (ha : a < 16) (h1 : 1 ≤ r) (h2 : r ≤ 31) : ∃ x y z v : Nat, W.cell? ⟨w.heap.size, d, none⟩ = some (.int .u32 (x : Int)) ∧ W.cell? ⟨w.heap.size, a, none⟩ = some (.int .u32 (y : Int)) ∧
    W.frozen? ⟨w.heap.size, d, none⟩ = false ∧ bits .xor .u32 (x : Int) (y : Int) = (z : Int) ∧
    (∀ W, Calls Tryd.prog 74 #[.int .u32 (z : Int), .int .i64 (r : Int)] W fun e w' => e = .returned (.int .u32 (v : Int)) ∧ ∃ k, w' = W.drewN k) ∧
    ∀ n, RoundS w ((W.drewN n).setCell ⟨w.heap.size, d, none⟩ (.int .u32 (v : Int))) (sRot l d a r) :=
  ⟨_, _, _, _, h.cell hd, h.cell ha, h.arr.free d hd, xor32 (h.ok.lt_ _) (h.ok.lt_ _), fun W => refRotl_any _ r W (xor_lt (h.ok.lt_ _) (h.ok.lt_ _)) h1 h2, fun n => h.put hd (rotl_lt _ (xor_lt (h.ok.lt_ _) (h.ok.lt_ _))) n⟩
theorem RoundS.unS {w W : World} {l : List Nat} (h : RoundS w W l) (b c r : Nat) (hb : b < 16) (hc : c < 16) (h1 : 1 ≤ r) (h2 : r ≤ 31) : ∃ x y z v : Nat, W.cell? ⟨w.heap.size, b, none⟩ = some (.int .u32 (x : Int)) ∧ W.cell? ⟨w.heap.size, c, none⟩ = some (.int .u32 (y : Int)) ∧
    W.frozen? ⟨w.heap.size, b, none⟩ = false ∧ bits .xor .u32 (z : Int) (y : Int) = (v : Int) ∧
    (∀ W, Calls Tryd.prog 74 #[.int .u32 (x : Int), .int .i64 (r : Int)] W fun e w' => e = .returned (.int .u32 (z : Int)) ∧ ∃ k, w' = W.drewN k) ∧
    ∀ n, RoundS w ((W.drewN n).setCell ⟨w.heap.size, b, none⟩ (.int .u32 (v : Int))) (sUn l b c r) :=
  ⟨_, _, _, _, h.cell hb, h.cell hc, h.arr.free b hb, xor32 (rotl_lt _ (h.ok.lt_ _)) (h.ok.lt_ _), fun W => refRotl_any _ r W (h.ok.lt_ _) h1 h2, fun n => h.put hb (xor_lt (rotl_lt _ (h.ok.lt_ _)) (h.ok.lt_ _)) n⟩
theorem RoundS.fin {w W : World} {l : List Nat} (h : RoundS w W l) : W.there (w.heap.size + 1) 0 (l.map wv).toArray.size ∧
    (loadVar 63 ⟨w.heap.size + 1, 0, none⟩).run Tryd.prog (W.setCells (w.heap.size + 1) 0 (l.map wv)) = .ok (.agg (l.map wv).toArray) (W.setCells (w.heap.size + 1) 0 (l.map wv)) ∧ Below w.heap.size w (W.setCells (w.heap.size + 1) 0 (l.map wv)) := by
  obtain ⟨ys, hy⟩ := h.res
  have hl := h.ok.len
  refine ⟨?_, arr_end (w := w) (wr := W) (g := w.heap.size + 1) (xs := l.map wv) 63 h.below (by omega) (by rw [List.length_map, hl]; exact hy.there) und16 rfl (i16 hl)⟩
  rw [show (l.map wv).toArray.size = 16 by rw [List.size_toArray, List.length_map]; exact hl]; exact hy.there

set_option maxRecDepth 100000 in
set_option maxHeartbeats 2000000 in
theorem refQuarter_any (l0 : List Nat) (a b c d : Nat) (w : World) (h : Ok l0) (hp : Apart (a, b, c, d)) :
    Calls Tryd.prog 70 #[.agg (l0.map wv).toArray, .int .i64 (a : Int), .int .i64 (b : Int), .int .i64 (c : Int), .int .i64 (d : Int)] w (GivesA ((turn l0 (a, b, c, d)).map wv) w) := by
  have S0 := round_start (w := w) h 63 63
  have hfin := turn_steps h.len hp
  obtain ⟨lx, hlx⟩ : ∃ lx, lx = turn l0 (a, b, c, d) := ⟨_, rfl⟩
  rw [← hlx] at hfin ⊢
  have HF := Lib.hid hfin
  clear hfin hlx
  have hz := zero16
  have Aa := Lib.hid hp.a
  have Ab := Lib.hid hp.b
  have Ac := Lib.hid hp.c
  have Ad := Lib.hid hp.d
  have ua : (0 : Int) ≤ (a : Int) := by omega
  have va : (a : Int) < 16 := by have := Aa.out; simp only at this; omega
  have ub : (0 : Int) ≤ (b : Int) := by omega
  have vb : (b : Int) < 16 := by have := Ab.out; simp only at this; omega
  have uc : (0 : Int) ≤ (c : Int) := by omega
  have vc : (c : Int) < 16 := by have := Ac.out; simp only at this; omega
  have ud : (0 : Int) ≤ (d : Int) := by omega
  have vd : (d : Int) < 16 := by have := Ad.out; simp only at this; omega
  clear h hp
  go_enter Tryd.func70, Tryd.ntmps70
  go_wp2
  clear hz
  revert S0
  generalize (w.alloc (.cells (l0.map wv).toArray 63)).alloc (.cells z16 63) = w0
  intro S0
  obtain ⟨x, y, v, c1, c2, f1, e1, hn⟩ := S0.addS a b Aa.out Ab.out
  have HN := Lib.hid hn
  clear hn S0
  refine QTail.drawn 9 (by kernel_rfl) (by kernel_rfl) ?_
  simp only [List.take_succ_cons, List.take_zero, List.drop_succ_cons, List.drop_zero]
  repeat (go_big_quiet_step (fail))
  refine wpQuiet_nil ?_
  intro _ hw'
  obtain ⟨nq, rfl⟩ := hw'
  go_wp2
  have S1 := HN.out nq
  obtain ⟨l1, hl1⟩ : ∃ l', l' = (sAdd l0 a b) := ⟨_, rfl⟩
  rw [← hl1] at S1
  have L1 := Lib.hid hl1
  clear hl1 c1 c2 f1 e1 HN
  revert S1
  generalize (w0.drewN nq).setCell ⟨w.heap.size, a, none⟩ (.int .u32 (v : Int)) = w1
  intro S1
  clear nq
  obtain ⟨x, y, z, v, c1, c2, f1, e1, cc, hn⟩ := S1.rotS d a 16 Ad.out Aa.out (by omega) (by omega)
  have HN := Lib.hid hn
  clear hn S1
  refine QTail.drawn 10 (by kernel_rfl) (by kernel_rfl) ?_
  simp only [List.take_succ_cons, List.take_zero, List.drop_succ_cons, List.drop_zero]
  replace cc : ∀ W, Calls Tryd.prog 74 #[.int .u32 (z : Int), .int .i64 16] W fun e w' => e = .returned (.int .u32 (v : Int)) ∧ ∃ k, w' = W.drewN k := cc
  repeat (go_big_quiet_step ((with_reducible exact Calls.quiet_of (cc _))))
  refine wpQuiet_nil ?_
  intro _ hw'
  obtain ⟨nq, rfl⟩ := hw'
  go_wp2
  have S2 := HN.out nq
  obtain ⟨l2, hl2⟩ : ∃ l', l' = (sRot l1 d a 16) := ⟨_, rfl⟩
  rw [← hl2] at S2
  have L2 := Lib.hid hl2
  clear hl2 c1 c2 f1 e1 HN cc
  revert S2
  generalize (w1.drewN nq).setCell ⟨w.heap.size, d, none⟩ (.int .u32 (v : Int)) = w2
  intro S2
  clear nq
  obtain ⟨x, y, v, c1, c2, f1, e1, hn⟩ := S2.addS c d Ac.out Ad.out
  have HN := Lib.hid hn
  clear hn S2
  refine QTail.drawn 9 (by kernel_rfl) (by kernel_rfl) ?_
  simp only [List.take_succ_cons, List.take_zero, List.drop_succ_cons, List.drop_zero]
  repeat (go_big_quiet_step (fail))
  refine wpQuiet_nil ?_
  intro _ hw'
  obtain ⟨nq, rfl⟩ := hw'
  go_wp2
  have S3 := HN.out nq
  obtain ⟨l3, hl3⟩ : ∃ l', l' = (sAdd l2 c d) := ⟨_, rfl⟩
  rw [← hl3] at S3
  have L3 := Lib.hid hl3
  clear hl3 c1 c2 f1 e1 HN
  revert S3
  generalize (w2.drewN nq).setCell ⟨w.heap.size, c, none⟩ (.int .u32 (v : Int)) = w3
  intro S3
  clear nq
  obtain ⟨x, y, z, v, c1, c2, f1, e1, cc, hn⟩ := S3.rotS b c 12 Ab.out Ac.out (by omega) (by omega)
  have HN := Lib.hid hn
  clear hn S3
  refine QTail.drawn 10 (by kernel_rfl) (by kernel_rfl) ?_
  simp only [List.take_succ_cons, List.take_zero, List.drop_succ_cons, List.drop_zero]
  replace cc : ∀ W, Calls Tryd.prog 74 #[.int .u32 (z : Int), .int .i64 12] W fun e w' => e = .returned (.int .u32 (v : Int)) ∧ ∃ k, w' = W.drewN k := cc
  repeat (go_big_quiet_step ((with_reducible exact Calls.quiet_of (cc _))))
  refine wpQuiet_nil ?_
  intro _ hw'
  obtain ⟨nq, rfl⟩ := hw'
  go_wp2
  have S4 := HN.out nq
  obtain ⟨l4, hl4⟩ : ∃ l', l' = (sRot l3 b c 12) := ⟨_, rfl⟩
  rw [← hl4] at S4
  have L4 := Lib.hid hl4
  clear hl4 c1 c2 f1 e1 HN cc
  revert S4
  generalize (w3.drewN nq).setCell ⟨w.heap.size, b, none⟩ (.int .u32 (v : Int)) = w4
  intro S4
  clear nq
  obtain ⟨x, y, v, c1, c2, f1, e1, hn⟩ := S4.addS a b Aa.out Ab.out
  have HN := Lib.hid hn
  clear hn S4
  refine QTail.drawn 9 (by kernel_rfl) (by kernel_rfl) ?_
  simp only [List.take_succ_cons, List.take_zero, List.drop_succ_cons, List.drop_zero]
  repeat (go_big_quiet_step (fail))
  refine wpQuiet_nil ?_
  intro _ hw'
  obtain ⟨nq, rfl⟩ := hw'
  go_wp2
  have S5 := HN.out nq
  obtain ⟨l5, hl5⟩ : ∃ l', l' = (sAdd l4 a b) := ⟨_, rfl⟩
  rw [← hl5] at S5
  have L5 := Lib.hid hl5
  clear hl5 c1 c2 f1 e1 HN
  revert S5
  generalize (w4.drewN nq).setCell ⟨w.heap.size, a, none⟩ (.int .u32 (v : Int)) = w5
  intro S5
  clear nq
  obtain ⟨x, y, z, v, c1, c2, f1, e1, cc, hn⟩ := S5.rotS d a 8 Ad.out Aa.out (by omega) (by omega)
  have HN := Lib.hid hn
  clear hn S5
  refine QTail.drawn 10 (by kernel_rfl) (by kernel_rfl) ?_
  simp only [List.take_succ_cons, List.take_zero, List.drop_succ_cons, List.drop_zero]
  replace cc : ∀ W, Calls Tryd.prog 74 #[.int .u32 (z : Int), .int .i64 8] W fun e w' => e = .returned (.int .u32 (v : Int)) ∧ ∃ k, w' = W.drewN k := cc
  repeat (go_big_quiet_step ((with_reducible exact Calls.quiet_of (cc _))))
  refine wpQuiet_nil ?_
  intro _ hw'
  obtain ⟨nq, rfl⟩ := hw'
  go_wp2
  have S6 := HN.out nq
  obtain ⟨l6, hl6⟩ : ∃ l', l' = (sRot l5 d a 8) := ⟨_, rfl⟩
  rw [← hl6] at S6
  have L6 := Lib.hid hl6
  clear hl6 c1 c2 f1 e1 HN cc
  revert S6
  generalize (w5.drewN nq).setCell ⟨w.heap.size, d, none⟩ (.int .u32 (v : Int)) = w6
  intro S6
  clear nq
  obtain ⟨x, y, v, c1, c2, f1, e1, hn⟩ := S6.addS c d Ac.out Ad.out
  have HN := Lib.hid hn
  clear hn S6
  refine QTail.drawn 9 (by kernel_rfl) (by kernel_rfl) ?_
  simp only [List.take_succ_cons, List.take_zero, List.drop_succ_cons, List.drop_zero]
  repeat (go_big_quiet_step (fail))
  refine wpQuiet_nil ?_
  intro _ hw'
  obtain ⟨nq, rfl⟩ := hw'
  go_wp2
  have S7 := HN.out nq
  obtain ⟨l7, hl7⟩ : ∃ l', l' = (sAdd l6 c d) := ⟨_, rfl⟩
  rw [← hl7] at S7
  have L7 := Lib.hid hl7
  clear hl7 c1 c2 f1 e1 HN
  revert S7
  generalize (w6.drewN nq).setCell ⟨w.heap.size, c, none⟩ (.int .u32 (v : Int)) = w7
  intro S7
  clear nq
  obtain ⟨x, y, z, v, c1, c2, f1, e1, cc, hn⟩ := S7.rotS b c 7 Ab.out Ac.out (by omega) (by omega)
  have HN := Lib.hid hn
  clear hn S7
  refine QTail.drawn 10 (by kernel_rfl) (by kernel_rfl) ?_
  simp only [List.take_succ_cons, List.take_zero, List.drop_succ_cons, List.drop_zero]
  replace cc : ∀ W, Calls Tryd.prog 74 #[.int .u32 (z : Int), .int .i64 7] W fun e w' => e = .returned (.int .u32 (v : Int)) ∧ ∃ k, w' = W.drewN k := cc
  repeat (go_big_quiet_step ((with_reducible exact Calls.quiet_of (cc _))))
  refine wpQuiet_nil ?_
  intro _ hw'
  obtain ⟨nq, rfl⟩ := hw'
  have S8 := HN.out nq
  obtain ⟨l8, hl8⟩ : ∃ l', l' = (sRot l7 b c 7) := ⟨_, rfl⟩
  rw [← hl8] at S8
  have L8 := Lib.hid hl8
  clear hl8 HN
  have hx := HF.out
  rw [← L1.out, ← L2.out, ← L3.out, ← L4.out, ← L5.out, ← L6.out, ← L7.out, ← L8.out] at hx
  subst hx
  obtain ⟨hth, hend⟩ := S8.fin
  have hrg := S8.arr.range
  have HL := Lib.hid S8.ok.len
  have HE := Lib.hid hend
  clear hend S8
  go_wp2_with (first
    | ((with_reducible refine at_slot 87 rfl ?_); refine wpList_load_mid rfl 63 (.tmp 5) rfl w.heap.size 0 rfl (l8.map wv) _ hrg und16 rfl (i16 HL.out) ?_)
    | ((with_reducible refine at_store 63 (.tmp 10) (.tmp 87) rfl ?_); refine wpList_store_mid rfl 63 (.tmp 10) (.tmp 87) rfl (w.heap.size + 1) 0 (l8.map wv).toArray rfl rfl hth (i16A HL.out) (words_one _) ?_))
  refine bodyPost_ret (v := .agg (l8.map wv).toArray) ?_ rfl ⟨rfl, HE.out.2⟩
  simp [results, Tryd.results70, asAddr, Act.put]
  rw [HE.out.1]

end Cha
end Go.Proofs.YtdlcoajjhcbffaaDoor
