/- The rounds of the package cipher: a rotation, a quarter round, ten double rounds. No condition but that words have 32 bits. -/
import Derived.Test.YtjepagbjoiipaaaCBase
namespace Go.Proofs.Ytjepagbjoiipaaa
open Go.RowKit
namespace Cha

set_option maxRecDepth 100000 in
theorem left_any (x n : Nat) (w : World) (hx : x < 4294967296) (h1 : 1 ≤ n) (h2 : n ≤ 31) :
    Calls Try.prog 27 #[.int .u32 (x : Int), .int .i64 (n : Int)] w fun e w' => e = .returned (.int .u32 (rotl x n : Int)) ∧ w = w' := by
  have hs : bits .and .u64 (IntKind.u64.wrap (n : Int)) 31 = ((n : Nat) : Int) := by
    have h : ∀ k : Fin 32, bits .and .u64 (IntKind.u64.wrap ((k.val : Nat) : Int)) 31 = ((k.val : Nat) : Int) := by decide +kernel
    exact h ⟨n, by omega⟩
  have hk : IntKind.u64.wrap (n : Int) = (n : Int) := IntWalk.u64_in _ (by omega)
  rw [hk] at hs
  have hz : (n : Int) ≤ 32 := by omega
  go_enter Try.func27, Try.ntmps27
  go_wp2
  go_ret
  refine ⟨congrArg Ending.returned (congrArg (Value.int .u32) ?_), rfl⟩
  have e1 : ((x : Int) * 2 ^ n % 4294967296) = ((x * 2 ^ n % 4294967296 : Nat) : Int) := by simp
  have e2 : ((x : Int) / 2 ^ (32 - n)) = ((x / 2 ^ (32 - n) : Nat) : Int) := by simp
  rw [e1, e2, or32 (Nat.mod_lt _ (by omega)) (div_lt _ hx)]
  rfl

/-- Half a quarter round in the walk's own words. -/
theorem half_steps (r1 r2 : Nat) (q : Q) (h : q.Fits) (g1 : 1 ≤ r1) (g2 : r1 ≤ 31) (g3 : 1 ≤ r2) (g4 : r2 ≤ 31) :
    ∃ a x d c y b : Nat, half r1 r2 q = ⟨a, b, c, d⟩ ∧ (⟨a, b, c, d⟩ : Q).Fits ∧ ((q.a : Int) + (q.b : Int)) % 4294967296 = (a : Int) ∧ bits .xor .u32 (q.d : Int) (a : Int) = (x : Int) ∧ ((q.c : Int) + (d : Int)) % 4294967296 = (c : Int) ∧ bits .xor .u32 (q.b : Int) (c : Int) = (y : Int) ∧
      (∀ W, Calls Try.prog 27 #[.int .u32 (x : Int), .int .i64 (r1 : Int)] W fun e w' => e = .returned (.int .u32 (d : Int)) ∧ W = w') ∧
      (∀ W, Calls Try.prog 27 #[.int .u32 (y : Int), .int .i64 (r2 : Int)] W fun e w' => e = .returned (.int .u32 (b : Int)) ∧ W = w') :=
  ⟨_, _, _, _, _, _, rfl, half_fits h, add_mod _ _, xor32 h.d (add_lt _ _), add_mod _ _, xor32 h.b (add_lt _ _),
    fun W => left_any _ r1 W (xor_lt h.d (add_lt _ _)) g1 g2, fun W => left_any _ r2 W (xor_lt h.b (add_lt _ _)) g3 g4⟩

/-- The four words are returned; the memory is as it was. -/
def Quart (q : Q) (w : World) (e : Ending) (w' : World) : Prop :=
  ∃ r : Q, Hid (qr q = r) ∧ r.Fits ∧ e = .returned (.tuple #[.int .u32 (r.a : Int), .int .u32 (r.b : Int), .int .u32 (r.c : Int), .int .u32 (r.d : Int)]) ∧ w = w'

set_option maxHeartbeats 1000000 in
theorem quarter_any (q : Q) (w : World) (h : q.Fits) :
    Calls Try.prog 23 #[.int .u32 (q.a : Int), .int .u32 (q.b : Int), .int .u32 (q.c : Int), .int .u32 (q.d : Int)] w (Quart q w) := by
  obtain ⟨a, x, d, c, y, b, hh, hf, e1, e2, e3, e4, k1, k2⟩ := half_steps 16 12 q h (by omega) (by omega) (by omega) (by omega)
  obtain ⟨a2, x2, d2, c2, y2, b2, hh2, hf2, f1, f2, f3, f4, m1, m2⟩ := half_steps 8 7 ⟨a, b, c, d⟩ hf (by omega) (by omega) (by omega) (by omega)
  have HQ : Hid (qr q = ⟨a2, b2, c2, d2⟩) := Lib.hid (by unfold qr; rw [hh, hh2])
  obtain ⟨qa, qb, qc, qd⟩ := q
  simp only at e1 e2 e3 e4 f1 f2 f3 f4
  have k1 : ∀ W, Calls Try.prog 27 #[.int .u32 (x : Int), .int .i64 16] W fun e w' => e = .returned (.int .u32 (d : Int)) ∧ W = w' := k1
  have k2 : ∀ W, Calls Try.prog 27 #[.int .u32 (y : Int), .int .i64 12] W fun e w' => e = .returned (.int .u32 (b : Int)) ∧ W = w' := k2
  have m1 : ∀ W, Calls Try.prog 27 #[.int .u32 (x2 : Int), .int .i64 8] W fun e w' => e = .returned (.int .u32 (d2 : Int)) ∧ W = w' := m1
  have m2 : ∀ W, Calls Try.prog 27 #[.int .u32 (y2 : Int), .int .i64 7] W fun e w' => e = .returned (.int .u32 (b2 : Int)) ∧ W = w' := m2
  clear hh hh2 h hf
  go_enter Try.func23, Try.ntmps23
  go_wp2_with (first
    | (go_at_call 27; (with_reducible refine (k1 _).mono ?_); rintro e w' ⟨rfl, rfl⟩)
    | (go_at_call 27; (with_reducible refine (k2 _).mono ?_); rintro e w' ⟨rfl, rfl⟩)
    | (go_at_call 27; (with_reducible refine (m1 _).mono ?_); rintro e w' ⟨rfl, rfl⟩)
    | (go_at_call 27; (with_reducible refine (m2 _).mono ?_); rintro e w' ⟨rfl, rfl⟩))
  refine bodyPost_ret (v := .tuple #[.int .u32 (a2 : Int), .int .u32 (b2 : Int), .int .u32 (c2 : Int), .int .u32 (d2 : Int)]) (by simp [results, Try.results23, go_sem]) rfl ?_
  exact ⟨⟨a2, b2, c2, d2⟩, HQ, hf2, rfl, rfl⟩

/-- The state lies in the first new block, room for the result in the second. -/
structure RoundS (w W : World) (l : List Nat) : Prop where
  arr : Arr W w.heap.size 16 (l.map wv)
  res : ∃ ys, Arr W (w.heap.size + 1) 16 ys
  ok : Ok l
  below : Below w.heap.size w W
def z16 : Array Value := #[wv 0, wv 0, wv 0, wv 0, wv 0, wv 0, wv 0, wv 0, wv 0, wv 0, wv 0, wv 0, wv 0, wv 0, wv 0, wv 0]
theorem zero16 (W : World) : (zeroValue 23).run Try.prog W = .ok (.agg z16) W := by kernel_rfl
theorem info16 : (Try.prog.info? 23).map (·.size) = some 16 := by kernel_rfl
theorem und16 : Try.prog.underlying 23 = some (.array 16 22) := by kernel_rfl
theorem i16 {l : List Nat} (h : l.length = 16) : (Try.prog.info? 23).map (·.size) = some (l.map wv).length := by rw [List.length_map, h]; exact info16
theorem i16A {l : List Nat} (h : l.length = 16) : (Try.prog.info? 23).map (·.size) = some (l.map wv).toArray.size := by rw [List.size_toArray, List.length_map, h]; exact info16
theorem round_start {w : World} {l : List Nat} (h : Ok l) (t1 t2 : TypeId) : RoundS w ((w.alloc (.cells (l.map wv).toArray t1)).alloc (.cells z16 t2)) l := by
  have hbel : Below w.heap.size w ((w.alloc (.cells (l.map wv).toArray t1)).alloc (.cells z16 t2)) := ((Below.refl _ _).alloc (Nat.le_refl _) _).alloc (by simp) _
  refine ⟨?_, ⟨z16.toList, ?_⟩, h, hbel⟩
  · have ha := (arr_new w (l.map wv).toArray t1).alloc (by simp) (.cells z16 t2)
    simpa [h.len] using ha
  · have ha := arr_new (w.alloc (.cells (l.map wv).toArray t1)) z16 t2
    rw [show z16.size = 16 from rfl] at ha
    simpa using ha
theorem RoundS.quad {w W : World} {l : List Nat} (h : RoundS w W l) (i j k m : Nat) (hi : i < 16 := by omega) (hj : j < 16 := by omega) (hk : k < 16 := by omega) (hm : m < 16 := by omega) :
    ∃ q : Q, get l (i, j, k, m) = q ∧ q.Fits ∧ W.cell? ⟨w.heap.size, i, none⟩ = some (.int .u32 (q.a : Int)) ∧ W.cell? ⟨w.heap.size, j, none⟩ = some (.int .u32 (q.b : Int)) ∧ W.cell? ⟨w.heap.size, k, none⟩ = some (.int .u32 (q.c : Int)) ∧ W.cell? ⟨w.heap.size, m, none⟩ = some (.int .u32 (q.d : Int)) ∧
      W.frozen? ⟨w.heap.size, i, none⟩ = false ∧ W.frozen? ⟨w.heap.size, j, none⟩ = false ∧ W.frozen? ⟨w.heap.size, k, none⟩ = false ∧ W.frozen? ⟨w.heap.size, m, none⟩ = false := by
  have c : ∀ n, n < 16 → W.cell? ⟨w.heap.size, n, none⟩ = some (.int .u32 ((l.getD n 0 : Nat) : Int)) := fun n hn =>
    (h.arr.at_ (i := n) (u := wv (l.getD n 0)) (by rw [List.getElem?_map, (h.ok.at_ hn).1]; rfl)).1
  exact ⟨get l (i, j, k, m), rfl, h.ok.get _, c i hi, c j hj, c k hk, c m hm, h.arr.free i hi, h.arr.free j hj, h.arr.free k hk, h.arr.free m hm⟩
theorem RoundS.turned {w W : World} {l : List Nat} (h : RoundS w W l) {i j k m : Nat} {q r : Q} (hg : get l (i, j, k, m) = q) (hq : Hid (qr q = r)) (hi : i < 16 := by omega) (hj : j < 16 := by omega) (hk : k < 16 := by omega) (hm : m < 16 := by omega) :
    RoundS w ((((W.setCell ⟨w.heap.size, i, none⟩ (.int .u32 (r.a : Int))).setCell ⟨w.heap.size, j, none⟩ (.int .u32 (r.b : Int))).setCell ⟨w.heap.size, k, none⟩ (.int .u32 (r.c : Int))).setCell ⟨w.heap.size, m, none⟩ (.int .u32 (r.d : Int))) (turn l (i, j, k, m)) := by
  obtain ⟨ys, hy⟩ := h.res
  have ha := (((h.arr.set hi (wv r.a)).set hj (wv r.b)).set hk (wv r.c)).set hm (wv r.d)
  refine ⟨?_, ⟨ys, (((hy.other (by omega) _).other (by omega) _).other (by omega) _).other (by omega) _⟩, h.ok.turn _, (((h.below.setCell (by simp) _).setCell (by simp) _).setCell (by simp) _).setCell (by simp) _⟩
  have e : (turn l (i, j, k, m)).map wv = ((((l.map wv).set i (wv r.a)).set j (wv r.b)).set k (wv r.c)).set m (wv r.d) := by
    unfold turn put
    rw [hg, hq.out]
    simp only [List.map_set]
  rw [e]
  exact ha

end Cha
end Go.Proofs.Ytjepagbjoiipaaa
