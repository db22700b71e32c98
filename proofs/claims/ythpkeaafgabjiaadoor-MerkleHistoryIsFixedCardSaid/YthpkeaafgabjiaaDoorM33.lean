/- MHv; MLawH; MLawI; MLawJ: what each of these parts proves stands ahead of it. -/
import Derived.Test.YthpkeaafgabjiaaDoorM17
import Derived.Test.YthpkeaafgabjiaaDoorZMHis
import Derived.Test.YthpkeaafgabjiaaDoorM29
import Derived.Test.YthpkeaafgabjiaaDoorM32
import Derived.Test.YthpkeaafgabjiaaDoorM31
/- What MerkleHistoryIsFixed says, as mathematics; its arguments in a block of their own. Conditions: those that are named. -/
namespace Go.Proofs.YthpkeaafgabjiaaDoor
open Go.RowKit
namespace Mk
open Wire (bv sv Lies)
open Hash (Arr bcj)

theorem verI_nat {m i : Int} {a old : List UInt8} {p : List (List UInt8)} (h : verI m i a p old = true) : ∃ t l, inpI m i a p = some (t :: l) ∧ inputs HH p.reverse m.toNat i.toNat a = some (t :: l) ∧ HH.sh t = old ∧ 0 ≤ i ∧ i < m := by
  obtain ⟨t, l, e, s⟩ := verI_true h
  have e' := e
  unfold inpI at e'
  split at e'
  · rename_i h0
    exact ⟨t, l, e, e', s, h0.1, h0.2⟩
  · cases e'
theorem fixed {old root a b : List UInt8} {m n i : Int} {p q r : List (List UInt8)} (ho : old.length = 16) (ha : a.length = 16) (hb : b.length = 16) (hp : Ok p) (hq : Ok q) (hr : Ok r)
    (h1 : verI m i a p old = true) (h2 : verI n i b q root = true) (h3 : preI m n old root r = true) :
    ∃ (L M : List (List UInt8)) (j k : Nat), inpI m i a p = some L ∧ inpI n i b q = some M ∧ m = (j : Int) ∧ n = (k : Int) ∧ 1 ≤ j ∧ j ≤ k ∧
      (NoClash HH ((L.reverse ++ M.reverse) ++ (preInputs HH old r.reverse j k true).1) → a = b) := by
  obtain ⟨t, l, e1, f1, s1, i0, i1⟩ := verI_nat h1
  obtain ⟨s, u, e2, f2, s2, _, i2⟩ := verI_nat h2
  unfold preI at h3
  split at h3
  · rename_i h0
    simp only [Bool.and_eq_true, beq_iff_eq] at h3
    obtain ⟨⟨h3, h4⟩, h5⟩ := h3
    refine ⟨_, _, m.toNat, n.toNat, e1, e2, by omega, by omega, by omega, by omega, fun hnc => ?_⟩
    refine history HH clear_HH zero old rfl r.reverse p.reverse q.reverse m.toNat n.toNat i.toNat true a b t s l u ha hb ho (fun x hx => hr x (List.mem_reverse.1 hx)) (fun x hx => hp x (List.mem_reverse.1 hx)) (fun x hx => hq x (List.mem_reverse.1 hx)) (by omega) (by omega) f1 f2 h3 (s1.trans h4.symm) (s2.trans h5.symm) (hnc.sub HH fun x hx => ?_)
    simp only [List.mem_append, List.mem_reverse] at hx ⊢
    exact hx
  · cases h3

/-- What came in lies in a block of its own. -/
structure Hv (w W : World) (old root : List UInt8) (m n i : Int) (a b : List UInt8) (v1 v2 v3 : Value) : Prop where
  arr : Arr W w.heap.size 70 (cellsH old root m n i a b v1 v2 v3)
  o : old.length = 16
  r : root.length = 16
  a : a.length = 16
  b : b.length = 16
  z : Below w.heap.size w W
section
variable {w W W' : World} {old root a b : List UInt8} {m n i : Int} {v1 v2 v3 : Value}
theorem Hv.on (h : Hv w W old root m n i a b v1 v2 v3) (hb : Below W.heap.size W W') : Hv w W' old root m n i a b v1 v2 v3 := ⟨h.arr.below hb (h.arr.size (by omega)), h.o, h.r, h.a, h.b, bcj h.z hb⟩
theorem Hv.rOld (h : Hv w W old root m n i a b v1 v2 v3) : W.rangeAt w.heap.size 0 (old.map bv) := range_left h.arr.range
theorem Hv.rRoot (h : Hv w W old root m n i a b v1 v2 v3) : W.rangeAt w.heap.size 16 (root.map bv) := by
  have h1 := range_app h.arr.range
  rwa [List.length_map, h.o] at h1
theorem Hv.rRest (h : Hv w W old root m n i a b v1 v2 v3) : W.rangeAt w.heap.size 32 ([Value.int .i64 m, .int .i64 n, .int .i64 i] ++ (a.map bv ++ (b.map bv ++ [v1, v2, v3]))) := by
  have h1 := range_right (range_right h.arr.range)
  rwa [List.length_map, List.length_map, h.o, h.r] at h1
theorem Hv.cM (h : Hv w W old root m n i a b v1 v2 v3) : W.cell? ⟨w.heap.size, 32, none⟩ = some (.int .i64 m) := h.rRest 0 _ rfl
theorem Hv.cN (h : Hv w W old root m n i a b v1 v2 v3) : W.cell? ⟨w.heap.size, 33, none⟩ = some (.int .i64 n) := h.rRest 1 _ rfl
theorem Hv.cI (h : Hv w W old root m n i a b v1 v2 v3) : W.cell? ⟨w.heap.size, 34, none⟩ = some (.int .i64 i) := h.rRest 2 _ rfl
theorem Hv.rA (h : Hv w W old root m n i a b v1 v2 v3) : W.rangeAt w.heap.size 35 (a.map bv) := range_app h.rRest
theorem Hv.rEnd (h : Hv w W old root m n i a b v1 v2 v3) : W.rangeAt w.heap.size 51 (b.map bv ++ [v1, v2, v3]) := by
  have h1 := range_right (range_right h.rRest)
  rwa [List.length_map, h.a] at h1
theorem Hv.rB (h : Hv w W old root m n i a b v1 v2 v3) : W.rangeAt w.heap.size 51 (b.map bv) := range_left h.rEnd
theorem Hv.rV (h : Hv w W old root m n i a b v1 v2 v3) : W.rangeAt w.heap.size 67 [v1, v2, v3] := by
  have h1 := range_right h.rEnd
  rwa [List.length_map, h.b] at h1
theorem Hv.c1 (h : Hv w W old root m n i a b v1 v2 v3) : W.cell? ⟨w.heap.size, 67, none⟩ = some v1 := h.rV 0 _ rfl
theorem Hv.c2 (h : Hv w W old root m n i a b v1 v2 v3) : W.cell? ⟨w.heap.size, 68, none⟩ = some v2 := h.rV 1 _ rfl
theorem Hv.c3 (h : Hv w W old root m n i a b v1 v2 v3) : W.cell? ⟨w.heap.size, 69, none⟩ = some v3 := h.rV 2 _ rfl
theorem hv_new (w : World) (ho : old.length = 16) (hr : root.length = 16) (ha : a.length = 16) (hb : b.length = 16) (t : TypeId) : Hv w (w.alloc (.cells (cellsH old root m n i a b v1 v2 v3).toArray t)) old root m n i a b v1 v2 v3 := by
  have h := Hash.arr_new w (cellsH old root m n i a b v1 v2 v3).toArray t
  have hs : (cellsH old root m n i a b v1 v2 v3).toArray.size = 70 := by simp [cellsH, ho, hr, ha, hb]
  rw [hs] at h
  exact ⟨h, ho, hr, ha, hb, Wire.b1 _ _⟩
end
/-- Two digests in blocks of their own. -/
structure PtD (w W : World) (u v : List UInt8) : Prop where
  a : Dg W w.heap.size u
  b : Dg W (w.heap.size + 1) v
  z : Below w.heap.size w W
section
variable {w W : World} {u v x : List UInt8}
theorem PtD.p1 (h : PtD w W u v) (hx : x.length = 16) : PtD w (W.setCells w.heap.size 0 (x.map bv)) x v :=
  ⟨h.a.put hx, h.b.aside (by omega) _, h.z.trans (Hash.below_cells (B := w.heap.size) (by omega) _ _ _)⟩
theorem PtD.p2 (h : PtD w W u v) (hx : x.length = 16) : PtD w (W.setCells (w.heap.size + 1) 0 (x.map bv)) u x :=
  ⟨h.a.aside (by omega) _, h.b.put hx, h.z.trans (Hash.below_cells (B := w.heap.size) (by omega) _ _ _)⟩
theorem ptd_new (w : World) (t : TypeId) : PtD w ((w.alloc (.cells #[.int .u8 0, .int .u8 0, .int .u8 0, .int .u8 0, .int .u8 0, .int .u8 0, .int .u8 0, .int .u8 0, .int .u8 0, .int .u8 0, .int .u8 0, .int .u8 0, .int .u8 0, .int .u8 0, .int .u8 0, .int .u8 0] t)).alloc (.cells #[.int .u8 0, .int .u8 0, .int .u8 0, .int .u8 0, .int .u8 0, .int .u8 0, .int .u8 0, .int .u8 0, .int .u8 0, .int .u8 0, .int .u8 0, .int .u8 0, .int .u8 0, .int .u8 0, .int .u8 0, .int .u8 0] t)) zero zero := by
  have h1 : Dg (w.alloc (.cells #[.int .u8 0, .int .u8 0, .int .u8 0, .int .u8 0, .int .u8 0, .int .u8 0, .int .u8 0, .int .u8 0, .int .u8 0, .int .u8 0, .int .u8 0, .int .u8 0, .int .u8 0, .int .u8 0, .int .u8 0, .int .u8 0] t)) w.heap.size zero := dg_zero w t
  have b1 := Wire.b1 w (.cells #[.int .u8 0, .int .u8 0, .int .u8 0, .int .u8 0, .int .u8 0, .int .u8 0, .int .u8 0, .int .u8 0, .int .u8 0, .int .u8 0, .int .u8 0, .int .u8 0, .int .u8 0, .int .u8 0, .int .u8 0, .int .u8 0] t)
  have s1 : (w.alloc (.cells #[.int .u8 0, .int .u8 0, .int .u8 0, .int .u8 0, .int .u8 0, .int .u8 0, .int .u8 0, .int .u8 0, .int .u8 0, .int .u8 0, .int .u8 0, .int .u8 0, .int .u8 0, .int .u8 0, .int .u8 0, .int .u8 0] t)).heap.size = w.heap.size + 1 := World.size_alloc _ _
  generalize w.alloc (.cells #[.int .u8 0, .int .u8 0, .int .u8 0, .int .u8 0, .int .u8 0, .int .u8 0, .int .u8 0, .int .u8 0, .int .u8 0, .int .u8 0, .int .u8 0, .int .u8 0, .int .u8 0, .int .u8 0, .int .u8 0, .int .u8 0] t) = W1 at *
  have h2 : Dg (W1.alloc (.cells #[.int .u8 0, .int .u8 0, .int .u8 0, .int .u8 0, .int .u8 0, .int .u8 0, .int .u8 0, .int .u8 0, .int .u8 0, .int .u8 0, .int .u8 0, .int .u8 0, .int .u8 0, .int .u8 0, .int .u8 0, .int .u8 0] t)) W1.heap.size zero := dg_zero W1 t
  rw [s1] at h2
  exact ⟨h1.on (Wire.b1 _ _), h2, bcj b1 (Wire.b1 _ _)⟩
end
theorem own_slice {W : World} {base n : Nat} {v : Value} {l : List (List UInt8)} (h : OwnT W base v n l) : ∃ A c, v = .slice A n c := by
  obtain ⟨vs, ho, _, _⟩ := h
  rcases ho.2 with ⟨rfl, rfl⟩ | ⟨g, cap, cur, rfl, _⟩
  · exact ⟨none, 0, rfl⟩
  · exact ⟨_, _, rfl⟩
theorem own_block {W : World} {base n : Nat} {v : Value} {l : List (List UInt8)} (h : OwnT W base v n l) : ∀ j, some j = v.ownBlock → j < W.heap.size := fun j hj => by
  obtain ⟨vs, ho, _, _⟩ := h
  exact (ho.lt j hj.symm).2
theorem len3 {a b c : Nat} (h1 : a ≤ 1000) (h2 : b ≤ 1000) (h3 : c ≤ 1000) : a + b + c ≤ 1000000 := by omega
theorem len2 {a b : Nat} (h1 : a ≤ 1000) (h2 : b ≤ 1000) : a + b ≤ 1099511627776 := by omega
theorem len3' {a b c : Nat} (h1 : a ≤ 1000) (h2 : b ≤ 1000) (h3 : c ≤ 1000) : a + b + c ≤ 1099511627776 := by omega
theorem far_of {v : Value} {s t : Nat} (h : ∀ j, some j = v.ownBlock → j < s) (ht : s ≤ t) : ∀ j, some j = v.ownBlock → j < t := fun j hj => Nat.lt_of_lt_of_le (h j hj) ht
section
variable {ops : Array Oper} {rest : List Oper} {o : Oper} {a : Act} {w : World} {Q : Exit → Act → World → Prop}
/-- A row of one's own is appended to another; rows that lie behind the first one's block are as they were. -/
theorem append_tv (hgd : o.guard = none) (s x : Operand) (ho : o.op = .call { callee := .builtin .append, args := #[s, x], argTypes := #[48, 48] })
    (base : Nat) (v : Value) (n : Nat) (l : List (List UInt8)) (hs : a.eval s = v) (hown : OwnT w base v n l) (vx : Value) (m : Nat) (hx : a.eval x = vx) (ys : List (List UInt8)) (hy : OwnT w base vx m ys)
    (hn : n + m ≤ 1099511627776) (hbase : base ≤ w.heap.size)
    (h : ∀ A c w', OwnT w' base (.slice A (n + m) c) (n + m) (l ++ ys) → Below base w w' → (∀ b2 v2 n2 l2, (∀ j, some j = v.ownBlock → j < b2) → OwnT w b2 v2 n2 l2 → OwnT w' b2 v2 n2 l2) → wpList Tryd.prog ops Q rest (a.put o.dst (.slice A (n + m) c)) w') : wpList Tryd.prog ops Q (o :: rest) a w := by
  have hly := hy.len
  obtain ⟨us, hrow, hlen, hall⟩ := hy
  rcases hrow.2 with ⟨rfl, rfl⟩ | ⟨g, cap, cur, rfl, hg, hcell, hle, hmax, hsz, htk⟩
  · obtain rfl := List.eq_nil_of_length_eq_zero hly
    obtain ⟨i, hi, hz, hsz, hby⟩ := info_parts txt_info
    have hown2 := hown
    obtain ⟨vs, hrow2, _, _⟩ := hown2
    refine wpList_plain hgd fun K hK => ?_
    have hr := run_append_owned_none (P := Tryd.prog) (w := w) base 48 o.type 38 i 1 Tryd.underlying48 hi v n vs hrow2
    unfold Oper.wp execOp
    simp only [ho, resolve, invoke, builtin, Sem.run_bind, Sem.run_pure, Result.andThen_ok, List.map_toArray, List.map_cons, List.map_nil, hs, hx, hr]
    obtain ⟨A, c, rfl⟩ := own_slice hown
    exact hK _ _ (h A c w (by rw [List.append_nil]; exact hown) (Below.refl _ _) (fun _ _ _ _ _ h2 => h2))
  · refine append_tw hgd s x ho base v n l hs hown ⟨g, 0, none⟩ m cap hx ys us (by have := hrow.1; omega) hly (fun j u hu => ?_) hall hn hbase (fun v' w' ho' hb' hg' _ => ?_)
    · exact hrow.cells (g := g) rfl j _ hu
    · obtain ⟨A, c, rfl⟩ := own_slice ho'
      refine h A c w' ho' hb' (fun b2 v2 n2 l2 hj h2 => h2.mid ⟨fun k h1 h3 => hg'.block k h3 (fun e => ?_), hg'.size⟩)
      exact Nat.lt_irrefl _ (Nat.lt_of_lt_of_le (hj k e) h1)
end
end Mk
end Go.Proofs.YthpkeaafgabjiaaDoor

/- MerkleHistoryIsFixed walked. Conditions: what the package answers, that the examples hold, what came in, the tables are laid. -/
namespace Go.Proofs.YthpkeaafgabjiaaDoor
open Go.RowKit
namespace Mk
open Wire (bv sv Lies)
open Hash (Arr bcj)

set_option maxRecDepth 100000 in
set_option maxHeartbeats 4000000 in
theorem law_history_many (hs : ∀ W, TT W → Calls Tryd.prog 10 #[] W (GivesT true W)) (old root a b : List UInt8) (m n i : Int) (q1 c1 q2 c2 q3 c3 : Nat) (A1 A2 A3 : Option Addr) (w : World) (ho : old.length = 16) (hr : root.length = 16) (ha : a.length = 16) (hb : b.length = 16)
    (ht : TT w) (hn : 40 < q1 ∨ 40 < q2 ∨ 40 < q3) : Calls Tryd.prog 7 #[hiv old root m n i a b (.slice A1 q1 c1) (.slice A2 q2 c2) (.slice A3 q3 c3)] w (GivesT true w) := by
  have Y := hv_new w (m := m) (n := n) (i := i) (v1 := .slice A1 q1 c1) (v2 := .slice A2 q2 c2) (v3 := .slice A3 q3 c3) ho hr ha hb 47
  have HSA := Lib.hid (fun W (h : Below w.heap.size w W) => hs W (ht.on h))
  have H1 : Hid (∀ W, Hv w W old root m n i a b (.slice A1 q1 c1) (.slice A2 q2 c2) (.slice A3 q3 c3) → W.cell? ⟨w.heap.size, 67, none⟩ = some (.slice A1 q1 c1)) := Lib.hid (fun W h => h.c1)
  have H2 : Hid (∀ W, Hv w W old root m n i a b (.slice A1 q1 c1) (.slice A2 q2 c2) (.slice A3 q3 c3) → W.cell? ⟨w.heap.size, 68, none⟩ = some (.slice A2 q2 c2)) := Lib.hid (fun W h => h.c2)
  have H3 : Hid (∀ W, Hv w W old root m n i a b (.slice A1 q1 c1) (.slice A2 q2 c2) (.slice A3 q3 c3) → W.cell? ⟨w.heap.size, 69, none⟩ = some (.slice A3 q3 c3)) := Lib.hid (fun W h => h.c3)
  have hn2 : (40 : Int) < (q1 : Int) ∨ (¬ (40 : Int) < (q1 : Int) ∧ (40 : Int) < (q2 : Int)) ∨ (¬ (40 : Int) < (q1 : Int) ∧ ¬ (40 : Int) < (q2 : Int) ∧ (40 : Int) < (q3 : Int)) := by omega
  unfold hiv
  clear ht hs ho hr ha hb hn
  generalize (cellsH old root m n i a b (.slice A1 q1 c1) (.slice A2 q2 c2) (.slice A3 q3 c3)).toArray = ca at *
  rcases hn2 with z0 | ⟨z0, z1⟩ | ⟨z0, z1, z2⟩
  all_goals
    go_enter Tryd.func7, Tryd.ntmps7
    go_wp2_with (first
      | (go_at_call 10; (with_reducible refine (HSA.out _ Y.z).mono ?_); rintro e w1 ⟨rfl, hb⟩; replace Y := Y.on hb; clear hb; have hc1 := H1.out _ Y; have hc2 := H2.out _ Y; have hc3 := H3.out _ Y))
    go_ret
    exact ⟨rfl, Y.z⟩

set_option maxRecDepth 100000 in
set_option maxHeartbeats 16000000 in
theorem law_history_no (pk : Pkg) (hs : ∀ W, TT W → Calls Tryd.prog 10 #[] W (GivesT true W)) (old root a b : List UInt8) (m n i : Int) (q1 c1 q2 c2 q3 c3 : Nat) (A1 A2 A3 : Option Addr) (p q r : List (List UInt8)) (w : World) (ho : old.length = 16) (hr : root.length = 16) (ha : a.length = 16) (hb : b.length = 16)
    (hm : m ≤ 9223372036854775807) (hnn : n ≤ 9223372036854775807) (x1 : LiesD w w.heap.size A1 q1 c1 p) (x2 : LiesD w w.heap.size A2 q2 c2 q) (x3 : LiesD w w.heap.size A3 q3 c3 r) (ht : TT w) (hn : ¬ (40 < q1 ∨ 40 < q2 ∨ 40 < q3))
    (hcase : ¬ (verI m i a p old = true ∧ verI n i b q root = true ∧ preI m n old root r = true ∧ (a == b) = false)) :
    Calls Tryd.prog 7 #[hiv old root m n i a b (.slice A1 q1 c1) (.slice A2 q2 c2) (.slice A3 q3 c3)] w (GivesT true w) := by
  have Y := hv_new w (m := m) (n := n) (i := i) (v1 := .slice A1 q1 c1) (v2 := .slice A2 q2 c2) (v3 := .slice A3 q3 c3) ho hr ha hb 47
  have HSA := Lib.hid (fun W (h : Below w.heap.size w W) => hs W (ht.on h))
  have HO := Lib.hid ho
  have HR := Lib.hid hr
  have HA := Lib.hid ha
  have HB := Lib.hid hb
  have H1 : Hid (∀ W, Hv w W old root m n i a b (.slice A1 q1 c1) (.slice A2 q2 c2) (.slice A3 q3 c3) → W.cell? ⟨w.heap.size, 67, none⟩ = some (.slice A1 q1 c1)) := Lib.hid (fun W h => h.c1)
  have H2 : Hid (∀ W, Hv w W old root m n i a b (.slice A1 q1 c1) (.slice A2 q2 c2) (.slice A3 q3 c3) → W.cell? ⟨w.heap.size, 68, none⟩ = some (.slice A2 q2 c2)) := Lib.hid (fun W h => h.c2)
  have H3 : Hid (∀ W, Hv w W old root m n i a b (.slice A1 q1 c1) (.slice A2 q2 c2) (.slice A3 q3 c3) → W.cell? ⟨w.heap.size, 69, none⟩ = some (.slice A3 q3 c3)) := Lib.hid (fun W h => h.c3)
  have HM : Hid (∀ W, Hv w W old root m n i a b (.slice A1 q1 c1) (.slice A2 q2 c2) (.slice A3 q3 c3) → W.cell? ⟨w.heap.size, 32, none⟩ = some (.int .i64 m)) := Lib.hid (fun W h => h.cM)
  have HN : Hid (∀ W, Hv w W old root m n i a b (.slice A1 q1 c1) (.slice A2 q2 c2) (.slice A3 q3 c3) → W.cell? ⟨w.heap.size, 33, none⟩ = some (.int .i64 n)) := Lib.hid (fun W h => h.cN)
  have HI : Hid (∀ W, Hv w W old root m n i a b (.slice A1 q1 c1) (.slice A2 q2 c2) (.slice A3 q3 c3) → W.cell? ⟨w.heap.size, 34, none⟩ = some (.int .i64 i)) := Lib.hid (fun W h => h.cI)
  have z0 : ¬ (40 : Int) < (q1 : Int) := by omega
  have z1 : ¬ (40 : Int) < (q2 : Int) := by omega
  have z2 : ¬ (40 : Int) < (q3 : Int) := by omega
  have k1 : q1 ≤ 1000000 := Nat.le_trans (show q1 ≤ 40 by omega) (by decide)
  have k2 : q2 ≤ 1000000 := Nat.le_trans (show q2 ≤ 40 by omega) (by decide)
  have k3 : q3 ≤ 1000000 := Nat.le_trans (show q3 ≤ 40 by omega) (by decide)
  have HV1 := Lib.hid (fun W (h : Below w.heap.size w W) => pk.verify old a m i q1 c1 A1 p W ho ha hm k1 ((x1.below h).more h.size) (ht.on h).p)
  have HV2 := Lib.hid (fun W (h : Below w.heap.size w W) => pk.verify root b n i q2 c2 A2 q W hr hb hnn k2 ((x2.below h).more h.size) (ht.on h).p)
  have HV3 := Lib.hid (fun W (h : Below w.heap.size w W) => pk.verifyPre old root m n q3 c3 A3 r W ho hr hnn k3 ((x3.below h).more h.size) (ht.on h).p)
  have E1 := Lib.hid (fun W => eql_d a b ha hb W)
  generalize verI m i a p old = B1 at *
  generalize verI n i b q root = B2 at *
  generalize preI m n old root r = B3 at *
  generalize (a == b) = B4 at *
  have hc : B1 = false ∨ (B1 = true ∧ B2 = false) ∨ (B1 = true ∧ B2 = true ∧ B3 = false) ∨ (B1 = true ∧ B2 = true ∧ B3 = true ∧ B4 = true) := by
    cases B1 <;> cases B2 <;> cases B3 <;> cases B4 <;> simp_all
  unfold hiv
  clear x1 x2 x3 ht hs ho hr ha hb hn hm hnn k1 k2 k3 hcase
  generalize (cellsH old root m n i a b (.slice A1 q1 c1) (.slice A2 q2 c2) (.slice A3 q3 c3)).toArray = ca at *
  rcases hc with rfl | ⟨rfl, rfl⟩ | ⟨rfl, rfl, rfl⟩ | ⟨rfl, rfl, rfl, rfl⟩
  all_goals
    go_enter Tryd.func7, Tryd.ntmps7
    go_wp2_with (first
      | (go_at_call 10; (with_reducible refine (HSA.out _ Y.z).mono ?_); rintro e w1 ⟨rfl, hb⟩; replace Y := Y.on hb; clear hb; have hc1 := H1.out _ Y; have hc2 := H2.out _ Y; have hc3 := H3.out _ Y; have hcm := HM.out _ Y; have hci := HI.out _ Y)
      | (refine load_d 33 rfl rfl _ rfl w.heap.size 0 rfl old HO.out Y.rOld ?_)
      | (refine load_d 39 rfl rfl _ rfl w.heap.size 35 rfl a HA.out Y.rA ?_)
      | (go_at_call 18; (with_reducible refine (HV1.out _ Y.z).mono ?_); rintro e w2 ⟨rfl, hb⟩; replace Y := Y.on hb; clear hb hc1 hc2 hc3 hcm hci; have hc2 := H2.out _ Y; have hcn := HN.out _ Y; have hci := HI.out _ Y)
      | (refine load_d 44 rfl rfl _ rfl w.heap.size 16 rfl root HR.out Y.rRoot ?_)
      | (refine load_d 50 rfl rfl _ rfl w.heap.size 51 rfl b HB.out Y.rB ?_)
      | (go_at_call 18; (with_reducible refine (HV2.out _ Y.z).mono ?_); rintro e w3 ⟨rfl, hb⟩; replace Y := Y.on hb; clear hb hc2 hcn hci; have hc3 := H3.out _ Y; have hcm := HM.out _ Y; have hcn := HN.out _ Y)
      | (refine load_d 55 rfl rfl _ rfl w.heap.size 0 rfl old HO.out Y.rOld ?_)
      | (refine load_d 57 rfl rfl _ rfl w.heap.size 16 rfl root HR.out Y.rRoot ?_)
      | (go_at_call 20; (with_reducible refine (HV3.out _ Y.z).mono ?_); rintro e w4 ⟨rfl, hb⟩; replace Y := Y.on hb; clear hb hc3 hcm hcn; have e1 := E1.out)
      | ((with_reducible refine Hash.at_slot 77 rfl ?_); refine QTail.loadG (by rfl) 29 (.tmp 76) rfl w.heap.size 35 rfl (a.map bv) _ Y.rA und_d rfl (info_d HA.out) ?_)
      | ((with_reducible refine Hash.at_slot 79 rfl ?_); refine QTail.loadG (by rfl) 29 (.tmp 78) rfl w.heap.size 51 rfl (b.map bv) _ Y.rB und_d rfl (info_d HB.out) ?_))
    go_ret
    exact ⟨rfl, Y.z⟩
end Mk
end Go.Proofs.YthpkeaafgabjiaaDoor

/- MerkleHistoryIsFixed walked, where all three proofs are accepted for two elements. Conditions: as in the text before. -/
namespace Go.Proofs.YthpkeaafgabjiaaDoor
open Go.RowKit
namespace Mk
open Wire (bv sv Lies)
open Hash (Arr bcj)

theorem inpI_short {n i : Int} {d : List UInt8} {p L : List (List UInt8)} (h : inpI n i d p = some L) (hp : p.length ≤ 40) : L.reverse.length ≤ 1000 := by
  unfold inpI at h
  split at h
  · have := inputs_length HH _ _ _ _ _ h
    rw [List.length_reverse] at this ⊢
    omega
  · cases h
/-- A row of texts, found. -/
def GivesR (R : List (List UInt8)) (w : World) (e : Ending) (w' : World) : Prop :=
  ∃ v n, e = .returned (.tuple #[v, .bool true]) ∧ OwnT w' w.heap.size v n R ∧ Below w.heap.size w w'
theorem givesR {L : List (List UInt8)} {w w' : World} {e : Ending} (h : GivesI (some L) w e w') : GivesR L.reverse w e w' := by
  obtain ⟨v, n, rfl, ho, hb⟩ := h
  exact ⟨v, n, rfl, ho L rfl, hb⟩
theorem bb_true {b : Bool} {Pq : Prop} (h : b = false → Pq) (hn : Pq → False) : b = true := by
  cases b with
  | true => rfl
  | false => exact absurd (h rfl) hn

set_option maxRecDepth 100000 in
set_option maxHeartbeats 16000000 in
theorem law_history_yes (pk : Pkg) (hs : ∀ W, TT W → Calls Tryd.prog 10 #[] W (GivesT true W)) (old root a b : List UInt8) (m n i : Int) (q1 c1 q2 c2 q3 c3 : Nat) (A1 A2 A3 : Option Addr) (p q r : List (List UInt8)) (w : World) (ho : old.length = 16) (hr : root.length = 16) (ha : a.length = 16) (hb : b.length = 16)
    (hm : m ≤ 9223372036854775807) (hnn : n ≤ 9223372036854775807) (x1 : LiesD w w.heap.size A1 q1 c1 p) (x2 : LiesD w w.heap.size A2 q2 c2 q) (x3 : LiesD w w.heap.size A3 q3 c3 r) (ht : TT w) (hn : ¬ (40 < q1 ∨ 40 < q2 ∨ 40 < q3))
    (v1 : verI m i a p old = true) (v2 : verI n i b q root = true) (v3 : preI m n old root r = true) (hab : (a == b) = false) :
    Calls Tryd.prog 7 #[hiv old root m n i a b (.slice A1 q1 c1) (.slice A2 q2 c2) (.slice A3 q3 c3)] w (GivesT true w) := by
  obtain ⟨L, M, j, k, i1, i2, rfl, rfl, hj, hjk, hfix⟩ := fixed (i := i) ho ha hb x1.ok x2.ok x3.ok v1 v2 v3
  have hne : a ≠ b := fun h => by rw [h] at hab; simp at hab
  have Y := hv_new w (m := (j : Int)) (n := (k : Int)) (i := i) (v1 := .slice A1 q1 c1) (v2 := .slice A2 q2 c2) (v3 := .slice A3 q3 c3) ho hr ha hb 47
  have HSA := Lib.hid (fun W (h : Below w.heap.size w W) => hs W (ht.on h))
  have HTT := Lib.hid ht
  have HO := Lib.hid ho
  have HR := Lib.hid hr
  have HA := Lib.hid ha
  have HB := Lib.hid hb
  have H1 : Hid (∀ W, Hv w W old root (j : Int) (k : Int) i a b (.slice A1 q1 c1) (.slice A2 q2 c2) (.slice A3 q3 c3) → W.cell? ⟨w.heap.size, 67, none⟩ = some (.slice A1 q1 c1)) := Lib.hid (fun W h => h.c1)
  have H2 : Hid (∀ W, Hv w W old root (j : Int) (k : Int) i a b (.slice A1 q1 c1) (.slice A2 q2 c2) (.slice A3 q3 c3) → W.cell? ⟨w.heap.size, 68, none⟩ = some (.slice A2 q2 c2)) := Lib.hid (fun W h => h.c2)
  have H3 : Hid (∀ W, Hv w W old root (j : Int) (k : Int) i a b (.slice A1 q1 c1) (.slice A2 q2 c2) (.slice A3 q3 c3) → W.cell? ⟨w.heap.size, 69, none⟩ = some (.slice A3 q3 c3)) := Lib.hid (fun W h => h.c3)
  have HM : Hid (∀ W, Hv w W old root (j : Int) (k : Int) i a b (.slice A1 q1 c1) (.slice A2 q2 c2) (.slice A3 q3 c3) → W.cell? ⟨w.heap.size, 32, none⟩ = some (.int .i64 (j : Int))) := Lib.hid (fun W h => h.cM)
  have HN : Hid (∀ W, Hv w W old root (j : Int) (k : Int) i a b (.slice A1 q1 c1) (.slice A2 q2 c2) (.slice A3 q3 c3) → W.cell? ⟨w.heap.size, 33, none⟩ = some (.int .i64 (k : Int))) := Lib.hid (fun W h => h.cN)
  have HI : Hid (∀ W, Hv w W old root (j : Int) (k : Int) i a b (.slice A1 q1 c1) (.slice A2 q2 c2) (.slice A3 q3 c3) → W.cell? ⟨w.heap.size, 34, none⟩ = some (.int .i64 i)) := Lib.hid (fun W h => h.cI)
  have z0 : ¬ (40 : Int) < (q1 : Int) := by omega
  have z1 : ¬ (40 : Int) < (q2 : Int) := by omega
  have z2 : ¬ (40 : Int) < (q3 : Int) := by omega
  have f1 : q1 ≤ 40 := by omega
  have f2 : q2 ≤ 40 := by omega
  have f3 : q3 ≤ 40 := by omega
  have k1 : q1 ≤ 1000000 := Nat.le_trans f1 (by decide)
  have k2 : q2 ≤ 1000000 := Nat.le_trans f2 (by decide)
  have k3 : q3 ≤ 1000000 := Nat.le_trans f3 (by decide)
  have hkb : k ≤ 9223372036854775807 := by omega
  have HV1 := Lib.hid (fun W (h : Below w.heap.size w W) => pk.verify old a (j : Int) i q1 c1 A1 p W ho ha hm k1 ((x1.below h).more h.size) (ht.on h).p)
  have HV2 := Lib.hid (fun W (h : Below w.heap.size w W) => pk.verify root b (k : Int) i q2 c2 A2 q W hr hb hnn k2 ((x2.below h).more h.size) (ht.on h).p)
  have HV3 := Lib.hid (fun W (h : Below w.heap.size w W) => pk.verifyPre old root (j : Int) (k : Int) q3 c3 A3 r W ho hr hnn k3 ((x3.below h).more h.size) (ht.on h).p)
  have HI1 : Hid (∀ W, Below w.heap.size w W → Calls Tryd.prog 25 #[.int .i64 (j : Int), .int .i64 i, dv a, .slice A1 q1 c1] W (GivesR L.reverse W)) := Lib.hid (fun W h => (refInputsI a (j : Int) i q1 c1 A1 p W ha hm k1 ((x1.below h).more h.size) (ht.on h)).mono (fun e w' h => givesR (by rw [i1] at h; exact h)))
  have HI2 : Hid (∀ W, Below w.heap.size w W → Calls Tryd.prog 25 #[.int .i64 (k : Int), .int .i64 i, dv b, .slice A2 q2 c2] W (GivesR M.reverse W)) := Lib.hid (fun W h => (refInputsI b (k : Int) i q2 c2 A2 q W hb hnn k2 ((x2.below h).more h.size) (ht.on h)).mono (fun e w' h => givesR (by rw [i2] at h; exact h)))
  have HPX := Lib.hid (fun W (h : Below w.heap.size w W) => refPfx_any q3 r j k c3 true A3 old W ((x3.below h).more h.size) (ht.on h) hj hjk hkb ho k3)
  rw [v1] at HV1
  rw [v2] at HV2
  rw [v3] at HV3
  have E1 := Lib.hid (fun W => eql_d a b ha hb W)
  rw [hab] at E1
  have hl1 := inpI_short i1 (by rw [x1.len]; exact f1)
  have hl2 := inpI_short i2 (by rw [x2.len]; exact f2)
  obtain ⟨hl3, y1, y2⟩ := pre_len ho r.reverse j k true (fun d hd => x3.ok d (List.mem_reverse.1 hd))
  have HNO := Lib.hid (fun h => hne (hfix h))
  have HY1 := Lib.hid y1
  have HY2 := Lib.hid y2
  generalize (preInputs HH old r.reverse j k true).2.1 = X1 at *
  generalize (preInputs HH old r.reverse j k true).2.2 = X2 at *
  have HN1 : Hid (∀ W base v n, OwnT W base v n L.reverse → n ≤ 1000) := Lib.hid (fun W base v n h => by rw [← h.len]; exact hl1)
  have HN2 : Hid (∀ W base v n, OwnT W base v n M.reverse → n ≤ 1000) := Lib.hid (fun W base v n h => by rw [← h.len]; exact hl2)
  have HN3 : Hid (∀ W base v n, OwnT W base v n (preInputs HH old r.reverse j k true).1 → n ≤ 1000) := Lib.hid (fun W base v n h => by rw [← h.len]; rw [List.length_reverse, x3.len] at hl3; omega)
  generalize (preInputs HH old r.reverse j k true).1 = PL at *
  generalize L.reverse = LR at *
  generalize M.reverse = MR at *
  unfold hiv
  clear x1 x2 x3 ht hs ho hr ha hb hn hm hnn k1 k2 k3 f1 f2 f3 hkb v1 v2 v3 i1 i2 hab hne hfix hl1 hl2 hl3 y1 y2 hj hjk
  generalize (cellsH old root (j : Int) (k : Int) i a b (.slice A1 q1 c1) (.slice A2 q2 c2) (.slice A3 q3 c3)).toArray = ca at *
  go_enter Tryd.func7, Tryd.ntmps7
  go_wp2_with (first
    | (go_at_call 10; (with_reducible refine (HSA.out _ Y.z).mono ?_); rintro e w1 ⟨rfl, hb⟩; replace Y := Y.on hb; clear hb; have hc1 := H1.out _ Y; have hc2 := H2.out _ Y; have hc3 := H3.out _ Y; have hcm := HM.out _ Y; have hci := HI.out _ Y)
    | (refine load_d 33 rfl rfl _ rfl w.heap.size 0 rfl old HO.out Y.rOld ?_)
    | (refine load_d 39 rfl rfl _ rfl w.heap.size 35 rfl a HA.out Y.rA ?_)
    | (go_at_call 18; (with_reducible refine (HV1.out _ Y.z).mono ?_); rintro e w2 ⟨rfl, hb⟩; replace Y := Y.on hb; clear hb hc1 hc2 hc3 hcm hci; have hc2 := H2.out _ Y; have hcn := HN.out _ Y; have hci := HI.out _ Y)
    | (refine load_d 44 rfl rfl _ rfl w.heap.size 16 rfl root HR.out Y.rRoot ?_)
    | (refine load_d 50 rfl rfl _ rfl w.heap.size 51 rfl b HB.out Y.rB ?_)
    | (go_at_call 18; (with_reducible refine (HV2.out _ Y.z).mono ?_); rintro e w3 ⟨rfl, hb⟩; replace Y := Y.on hb; clear hb hc2 hcn hci; have hc3 := H3.out _ Y; have hcm := HM.out _ Y; have hcn := HN.out _ Y)
    | (refine load_d 55 rfl rfl _ rfl w.heap.size 0 rfl old HO.out Y.rOld ?_)
    | (refine load_d 57 rfl rfl _ rfl w.heap.size 16 rfl root HR.out Y.rRoot ?_)
    | (go_at_call 20; (with_reducible refine (HV3.out _ Y.z).mono ?_); rintro e w4 ⟨rfl, hb⟩; replace Y := Y.on hb; clear hb hc3 hcm hcn; have S04 := Lib.hid Y.z.size; have e1 := E1.out; have hc1 := H1.out _ Y; have hcm := HM.out _ Y; have hci := HI.out _ Y)
    | ((with_reducible refine Hash.at_slot 77 rfl ?_); refine QTail.loadG (by rfl) 29 (.tmp 76) rfl w.heap.size 35 rfl (a.map bv) _ Y.rA und_d rfl (info_d HA.out) ?_)
    | ((with_reducible refine Hash.at_slot 79 rfl ?_); refine QTail.loadG (by rfl) 29 (.tmp 78) rfl w.heap.size 51 rfl (b.map bv) _ Y.rB und_d rfl (info_d HB.out) ?_)
    | (refine load_d 89 rfl rfl _ rfl w.heap.size 35 rfl a HA.out Y.rA ?_)
    | (go_at_call 25; (with_reducible refine (HI1.out _ Y.z).mono ?_); rintro e w5 ⟨v7, n7, rfl, ho7, hb⟩; replace Y := Y.on hb; have S45 := Lib.hid hb.size; have R7 := Lib.hid ho7; have J7 := Lib.hid (own_block ho7); clear hb ho7 hc1 hcm hci e1; have hc2 := H2.out _ Y; have hcn := HN.out _ Y; have hci := HI.out _ Y)
    | (refine load_d 101 rfl rfl _ rfl w.heap.size 51 rfl b HB.out Y.rB ?_)
    | (go_at_call 25; (with_reducible refine (HI2.out _ Y.z).mono ?_); rintro e w6 ⟨v9, n9, rfl, ho9, hb⟩; replace Y := Y.on hb; have S56 := Lib.hid hb.size; replace R7 := Lib.hid (R7.out.on hb); have R9 := Lib.hid ho9; clear hb ho9 hc2 hcn hci; have hc3 := H3.out _ Y; have hcm := HM.out _ Y; have hcn := HN.out _ Y)
    | (refine load_d 109 rfl rfl _ rfl w.heap.size 0 rfl old HO.out Y.rOld ?_)
    | (go_at_call 26; (with_reducible refine (HPX.out _ Y.z).mono ?_); rintro e w7 ⟨v11, n11, rfl, ho11, hb⟩; replace Y := Y.on hb; have S67 := Lib.hid hb.size; replace R7 := Lib.hid (R7.out.on hb); replace R9 := Lib.hid (R9.out.on hb); have R11 := Lib.hid ho11; clear hb ho11 hc3 hcm hcn)
    | (refine store_d (.tmp 12) (.tmp 118) rfl rfl w7.heap.size 0 rfl X1 rfl HY1.out (ptd_new w7 _).a.there ?_; refine Hash.gen_world (Pq := fun W => PtD w7 W X1 zero) (G := fun W => wpList _ _ _ _ _ W) ((ptd_new w7 _).p1 HY1.out) ?_; intro w8 h8; have P8 := Lib.hid h8; clear h8)
    | (refine store_d (.tmp 13) (.tmp 119) rfl rfl (w7.heap.size + 1) 0 rfl X2 rfl HY2.out P8.out.b.there ?_; refine Hash.gen_world (Pq := fun W => Below w7.heap.size w7 W) (G := fun W => wpList _ _ _ _ _ W) ((P8.out.p2 HY2.out).z) ?_; intro w9 h9; replace R7 := Lib.hid (R7.out.on h9); replace R9 := Lib.hid (R9.out.on h9); replace R11 := Lib.hid (R11.out.on h9); have Z9 := Lib.hid (bcj Y.z h9); have S49 := Lib.hid (Nat.le_trans S45.out (Nat.le_trans S56.out (Nat.le_trans S67.out h9.size))); clear h9 P8 Y)
    | (at_builtin; refine append_tv rfl _ _ rfl w4.heap.size v7 n7 LR rfl R7.out v9 n9 rfl MR (R9.out.more S45.out) (len2 (HN1.out _ _ _ _ R7.out) (HN2.out _ _ _ _ R9.out)) S49.out ?_; intro A10 c10 w10 ho10 hb10 hk10; have R10 := Lib.hid ho10; replace R11 := Lib.hid (hk10 _ _ _ _ (far_of J7.out S56.out) R11.out); have Z10 := Lib.hid (Z9.out.trans (hb10.mono S04.out)); have S410 := Lib.hid (Nat.le_trans S49.out hb10.size); clear ho10 hb10 hk10)
    | (at_builtin; refine append_tv rfl _ _ rfl w4.heap.size (.slice A10 (n7 + n9) c10) (n7 + n9) (LR ++ MR) rfl R10.out v11 n11 rfl PL (R11.out.more (Nat.le_trans S45.out S56.out)) (len3' (HN1.out _ _ _ _ R7.out) (HN2.out _ _ _ _ R9.out) (HN3.out _ _ _ _ R11.out)) S410.out ?_; intro A12 c12 w11 ho12 hb12 hk12; have R12 := Lib.hid ho12; have Z11 := Lib.hid (Z10.out.trans (hb12.mono S04.out)); clear ho12 hb12 hk12)
    | (go_at_call 27; (with_reducible refine (collides_any ((LR ++ MR) ++ PL) _ _ w4.heap.size _ _ R12.out (HTT.out.on Z11.out).p (len3 (HN1.out _ _ _ _ R7.out) (HN2.out _ _ _ _ R9.out) (HN3.out _ _ _ _ R11.out))).mono ?_); rintro e w12 ⟨bb, ⟨rfl, hb⟩, hnc⟩; obtain rfl := bb_true hnc HNO.out; have Z12 := Lib.hid (bcj Z11.out hb); clear hb hnc))
  go_ret
  exact ⟨rfl, Z12.out⟩
end Mk
end Go.Proofs.YthpkeaafgabjiaaDoor

/- MerkleHistoryIsFixed: all cases together. Conditions: what the package answers, that the examples hold, what came in, the tables are laid. -/
namespace Go.Proofs.YthpkeaafgabjiaaDoor
open Go.RowKit
namespace Mk

theorem law_history (pk : Pkg) (hs : ∀ W, TT W → Calls Tryd.prog 10 #[] W (GivesT true W)) (old root a b : List UInt8) (m n i : Int) (q1 c1 q2 c2 q3 c3 : Nat) (A1 A2 A3 : Option Addr) (p q r : List (List UInt8)) (w : World)
    (hd : old.length = 16 ∧ root.length = 16 ∧ a.length = 16 ∧ b.length = 16) (hb : m ≤ 9223372036854775807 ∧ n ≤ 9223372036854775807) (x1 : LiesD w w.heap.size A1 q1 c1 p) (x2 : LiesD w w.heap.size A2 q2 c2 q) (x3 : LiesD w w.heap.size A3 q3 c3 r) (ht : TT w) :
    Calls Tryd.prog 7 #[hiv old root m n i a b (.slice A1 q1 c1) (.slice A2 q2 c2) (.slice A3 q3 c3)] w (GivesT true w) := by
  by_cases hn : 40 < q1 ∨ 40 < q2 ∨ 40 < q3
  · exact law_history_many hs old root a b m n i q1 c1 q2 c2 q3 c3 A1 A2 A3 w hd.1 hd.2.1 hd.2.2.1 hd.2.2.2 ht hn
  by_cases hc : verI m i a p old = true ∧ verI n i b q root = true ∧ preI m n old root r = true ∧ (a == b) = false
  · exact law_history_yes pk hs old root a b m n i q1 c1 q2 c2 q3 c3 A1 A2 A3 p q r w hd.1 hd.2.1 hd.2.2.1 hd.2.2.2 hb.1 hb.2 x1 x2 x3 ht hn hc.1 hc.2.1 hc.2.2.1 hc.2.2.2
  · exact law_history_no pk hs old root a b m n i q1 c1 q2 c2 q3 c3 A1 A2 A3 p q r w hd.1 hd.2.1 hd.2.2.1 hd.2.2.2 hb.1 hb.2 x1 x2 x3 ht hn hc
end Mk
end Go.Proofs.YthpkeaafgabjiaaDoor

