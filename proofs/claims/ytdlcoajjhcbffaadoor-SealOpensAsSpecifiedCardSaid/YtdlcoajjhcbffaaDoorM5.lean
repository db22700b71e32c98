/- CBase; CRound; CRounds; CState; CStateB: what each of these parts proves stands ahead of it. -/
import Derived.Test.YtdlcoajjhcbffaaDoorProg
import Derived.Test.YtdlcoajjhcbffaaDoorZCha
import Derived.WalkKit
import Derived.WalkSpells
import Derived.WalkLawsBesides
import Derived.OwnWalk
import Derived.IntWalk
import Derived.Lib.Hide
import Derived.Lib.AppendStr
import Derived.Lib.ConvBytes
import Derived.Laws.BytesArg
import Derived.Deep.QuietTactic
import Derived.BigQuiet
import Derived.Deep.Draws
import Derived.Deep.MidRow
import Derived.StillTailTactics
/- Words of 32 bits and bytes in the model, arrays in memory that read as lists, for the proofs over the package cipher. No condition. -/
namespace Go.Proofs.YtdlcoajjhcbffaaDoor
open Go.RowKit
namespace Cha

/-- A byte as a cell holds it. -/
def bv (c : UInt8) : Value := .int .u8 (c.toNat : Int)
/-- A text as a value. -/
def sv (l : List UInt8) : Value := .string ⟨l.toArray⟩
theorem strOf (l : List UInt8) : Value.string (strOfNums (l.map fun c => (c.toNat : Int))) = sv l := by
  unfold sv strOfNums
  simp [List.map_map, Function.comp_def]
theorem bytes_one (l : List UInt8) : ∀ u ∈ l.map bv, u.oneCell' = true := by
  intro u hu
  obtain ⟨c, _, rfl⟩ := List.mem_map.1 hu
  rfl
def wv (x : Nat) : Value := .int .u32 (x : Int)

theorem wrap32 (n : Nat) : IntKind.u32.wrap (n : Int) = ((n % 4294967296 : Nat) : Int) := by rw [IntKind.wrap_u32]; omega
theorem ofInt32 {a : Nat} (h : a < 4294967296) : (BitVec.ofInt 32 (a : Int)).toNat = a := by
  rw [BitVec.ofInt_natCast, BitVec.toNat_ofNat]; exact Nat.mod_eq_of_lt (by omega)
theorem xor32 {a b : Nat} (ha : a < 4294967296) (hb : b < 4294967296) : bits .xor .u32 (a : Int) (b : Int) = ((a ^^^ b : Nat) : Int) := by
  show IntKind.u32.wrap ((BitVec.ofInt 32 (a : Int) ^^^ BitVec.ofInt 32 (b : Int)).toNat : Int) = _
  rw [BitVec.toNat_xor, ofInt32 ha, ofInt32 hb, wrap32, Nat.mod_eq_of_lt (Nat.xor_lt_two_pow (n := 32) ha hb)]
theorem and32 {a b : Nat} (ha : a < 4294967296) (hb : b < 4294967296) : bits .and .u32 (a : Int) (b : Int) = ((a &&& b : Nat) : Int) := by
  show IntKind.u32.wrap ((BitVec.ofInt 32 (a : Int) &&& BitVec.ofInt 32 (b : Int)).toNat : Int) = _
  rw [BitVec.toNat_and, ofInt32 ha, ofInt32 hb, wrap32, Nat.mod_eq_of_lt (Nat.and_lt_two_pow (n := 32) _ hb)]
theorem or32 {a b : Nat} (ha : a < 4294967296) (hb : b < 4294967296) : bits .or .u32 (a : Int) (b : Int) = ((a ||| b : Nat) : Int) := by
  show IntKind.u32.wrap ((BitVec.ofInt 32 (a : Int) ||| BitVec.ofInt 32 (b : Int)).toNat : Int) = _
  rw [BitVec.toNat_or, ofInt32 ha, ofInt32 hb, wrap32, Nat.mod_eq_of_lt (Nat.or_lt_two_pow (n := 32) ha hb)]
theorem add32 (a b : Nat) : IntKind.u32.wrap ((a : Int) + (b : Int)) = ((add a b : Nat) : Int) := by
  rw [IntKind.wrap_u32]; unfold add; omega

theorem at_slot {P : Program} {ops : Array Oper} {rest : List Oper} {o : Oper} {a : Act} {w : World} {Q : Exit → Act → World → Prop} (k : Tmp) (_hd : o.dst = some k) (h : wpList P ops Q (o :: rest) a w) : wpList P ops Q (o :: rest) a w := h
theorem at_store {P : Program} {ops : Array Oper} {rest : List Oper} {o : Oper} {a : Act} {w : World} {Q : Exit → Act → World → Prop} (t : TypeId) (x y : Operand) (_ho : o.op = .store t x y) (h : wpList P ops Q (o :: rest) a w) : wpList P ops Q (o :: rest) a w := h

/-- An array that lies in block g from its head on. -/
structure Arr (w : World) (g n : Nat) (xs : List Value) : Prop where
  len : xs.length = n
  cells : ∀ (j : Nat) (u : Value), xs[j]? = some u → w.cell? ⟨g, j, none⟩ = some u
  free : ∀ j, j < n → w.frozen? ⟨g, j, none⟩ = false

theorem Arr.size {w : World} {g n : Nat} {xs : List Value} (h : Arr w g n xs) (hn : 0 < n) : g < w.heap.size := by
  have hl := h.len
  exact World.block_lt_of_cell? w _ (h.cells 0 (xs[0]'(by omega)) (List.getElem?_eq_getElem _))
theorem arr_new (w : World) (cs : Array Value) (t : TypeId) : Arr (w.alloc (.cells cs t)) w.heap.size cs.size cs.toList := by
  refine ⟨by simp, fun j u hu => ?_, fun j _ => frozen_of_row (w.alloc (.cells cs t)) w.heap.size j cs t (heap_alloc_new w _)⟩
  rw [cell_of_row (w.alloc (.cells cs t)) w.heap.size j cs t (0, 0) (heap_alloc_new w _)]
  simpa using hu
theorem Arr.keep {w w' : World} {g n : Nat} {xs : List Value} (h : Arr w g n xs) (hc : ∀ j, w'.cell? ⟨g, j, none⟩ = w.cell? ⟨g, j, none⟩) (hf : ∀ j, w'.frozen? ⟨g, j, none⟩ = w.frozen? ⟨g, j, none⟩) : Arr w' g n xs :=
  ⟨h.len, fun j u hu => (hc j).trans (h.cells j u hu), fun j hj => (hf j).trans (h.free j hj)⟩
theorem Arr.below {w w' : World} {B g n : Nat} {xs : List Value} (h : Arr w g n xs) (hb : Below B w w') (hg : g < B) : Arr w' g n xs :=
  h.keep (fun j => hb.cell (p := ⟨g, j, none⟩) hg) (fun j => hb.frozen (p := ⟨g, j, none⟩) hg)
theorem Arr.alloc {w : World} {g n : Nat} {xs : List Value} (h : Arr w g n xs) (hg : g < w.heap.size) (o : Obj) : Arr (w.alloc o) g n xs :=
  h.below ((Below.refl w.heap.size w).alloc (Nat.le_refl _) o) hg
theorem Arr.other {w : World} {g n k i : Nat} {xs : List Value} (h : Arr w g n xs) (hk : g ≠ k) (v : Value) : Arr (w.setCell ⟨k, i, none⟩ v) g n xs :=
  h.keep (fun j => World.cell?_setCell_other _ _ _ _ (by intro e; cases e; exact hk rfl)) (fun j => World.frozen?_setCell _ _ _ _)
theorem Arr.drew {w : World} {g n : Nat} {xs : List Value} (h : Arr w g n xs) (k : Nat) : Arr (w.drewN k) g n xs := h.keep (fun _ => rfl) (fun _ => rfl)
theorem Arr.set {w : World} {g n i : Nat} {xs : List Value} (h : Arr w g n xs) (hi : i < n) (v : Value) : Arr (w.setCell ⟨g, i, none⟩ v) g n (xs.set i v) := by
  refine ⟨by rw [List.length_set]; exact h.len, fun j u hu => ?_, fun j hj => (World.frozen?_setCell _ _ _ _).trans (h.free j hj)⟩
  rw [List.getElem?_set] at hu
  have hl := h.len
  split at hu
  · rename_i e
    subst e
    rw [if_pos (by omega)] at hu
    cases hu
    exact World.cell?_setCell_same _ _ _ (h.cells i _ (List.getElem?_eq_getElem (by omega)))
  · rename_i e
    rw [World.cell?_setCell_other _ _ _ _ (by intro e2; cases e2; exact e rfl)]
    exact h.cells j u hu
theorem Arr.at_ {w : World} {g n i : Nat} {xs : List Value} (h : Arr w g n xs) {u : Value} (hu : xs[i]? = some u) : w.cell? ⟨g, i, none⟩ = some u ∧ w.frozen? ⟨g, i, none⟩ = false :=
  ⟨h.cells i u hu, h.free i (by have := h.len; have := (List.getElem?_eq_some_iff.1 hu).1; omega)⟩
theorem Arr.range {w : World} {g n : Nat} {xs : List Value} (h : Arr w g n xs) : w.rangeAt g 0 xs := fun j u hu => by rw [Nat.zero_add]; exact h.cells j u hu
theorem Arr.there {w : World} {g n : Nat} {xs : List Value} (h : Arr w g n xs) : w.there g 0 n := fun j hj => by
  rw [Nat.zero_add]
  exact ⟨by rw [h.cells j _ (List.getElem?_eq_getElem (by rw [h.len]; exact hj))]; rfl, h.free j hj⟩

/-- An array of words is returned; the memory that was there is as it was. -/
def GivesA (xs : List Value) (w : World) (e : Ending) (w' : World) : Prop := e = .returned (.agg xs.toArray) ∧ Below w.heap.size w w'

theorem below_cells {B g : Nat} (hg : B ≤ g) : ∀ (vs : List Value) (o : Nat) (w : World), Below B w (w.setCells g o vs)
  | [], _, w => Below.refl B w
  | v :: r, o, w => ((Below.refl B w).setCell (p := ⟨g, o, none⟩) hg v).trans (below_cells hg r (o + 1) _)
theorem words_one (l : List Nat) : ((l.map wv).toArray).all (·.oneCell') = true := all_oneCell_toArray (by
  intro v hv
  obtain ⟨c, _, rfl⟩ := List.mem_map.1 hv
  rfl)
theorem bytes_all (l : List UInt8) : ((l.map bv).toArray).all (·.oneCell') = true := all_oneCell_toArray (by
  intro v hv
  obtain ⟨c, _, rfl⟩ := List.mem_map.1 hv
  rfl)
/-- An array that was stored over another one. -/
theorem Arr.over {w : World} {g n : Nat} {xs ys : List Value} (h : Arr w g n xs) (hy : ys.length = n) : Arr (w.setCells g 0 ys) g n ys := by
  have ht := h.there
  have hr := World.rangeAt_setCells_same w g 0 ys (by rw [hy]; exact ht)
  refine ⟨hy, fun j u hu => ?_, fun j hj => (World.frozen?_setCells _ _ _ _ _).trans (h.free j hj)⟩
  have := hr j u hu
  rwa [Nat.zero_add] at this
theorem Arr.aside {w : World} {g k n : Nat} {xs ys : List Value} (h : Arr w g n xs) (hk : g ≠ k) (o : Nat) : Arr (w.setCells k o ys) g n xs :=
  h.keep (fun _ => World.cell?_setCells_out k ys o w _ (fun e => absurd e hk)) (fun _ => World.frozen?_setCells _ _ _ _ _)

theorem gen_world {W' : World} {Pq G : World → Prop} (h : Pq W') (k : ∀ W, Pq W → G W) : G W' := k _ h
theorem arr_end {w wr : World} {g : Nat} {xs : List Value} (ty : TypeId) {d : TypeDesc} (hb : Below w.heap.size w wr) (hg : w.heap.size ≤ g) (ht : wr.there g 0 xs.length) (hu : Tryd.prog.underlying ty = some d) (hd : d.isRow = true)
    (hi : (Tryd.prog.info? ty).map (·.size) = some xs.length) : (loadVar ty ⟨g, 0, none⟩).run Tryd.prog (wr.setCells g 0 xs) = .ok (.agg xs.toArray) (wr.setCells g 0 xs) ∧ Below w.heap.size w (wr.setCells g 0 xs) :=
  ⟨run_loadVar_mid _ _ _ _ _ d (World.rangeAt_setCells_same wr g 0 xs ht) hu hd hi, hb.trans (below_cells hg xs 0 wr)⟩
theorem wrap_u8 (x : UInt8) : IntKind.u32.wrap (x.toNat : Int) = (x.toNat : Int) := by
  have := x.toNat_lt
  rw [IntKind.wrap_u32]; omega

theorem convA {W : World} {g n : Nat} {l : List UInt8} (h : Arr W g n (l.map bv)) : (convert 47 9 (.slice (some ⟨g, 0, none⟩) n n)).run Tryd.prog W = .ok (.string ⟨l.toArray⟩) W := by
  have hn : l.length = n := by have := h.len; simpa using this
  have := run_convert_bytes_arg (P := Tryd.prog) (w := W) 47 5 Tryd.underlying47 Tryd.underlying5 g 0 n n (l.map fun c => (c.toNat : Int)) (by simpa using hn) ?_ 9 Tryd.underlying9
  · rw [this, strOf]; rfl
  · intro i hi
    have hx : l[i]? = some (l[i]'(by omega)) := List.getElem?_eq_getElem _
    have hc := h.cells i (bv (l[i]'(by omega))) (by rw [List.getElem?_map, hx]; rfl)
    rw [Nat.zero_add, hc]
    simp [List.getD, hx, bv]
/-- A text is returned; the memory that was there is as it was. -/
def GivesT (s : List UInt8) (w : World) (e : Ending) (w' : World) : Prop := e = .returned (.string ⟨s.toArray⟩) ∧ Below w.heap.size w w'
theorem bcj {w w1 w2 : World} (h1 : Below w.heap.size w w1) (h2 : Below w1.heap.size w1 w2) : Below w.heap.size w w2 := h1.trans (h2.mono h1.size)
theorem Arr.some_ {w : World} {g n i : Nat} {xs : List Value} (h : Arr w g n xs) (hi : i < n) : (∃ u, w.cell? ⟨g, i, none⟩ = some u) ∧ w.frozen? ⟨g, i, none⟩ = false :=
  ⟨⟨_, h.cells i _ (List.getElem?_eq_getElem (by rw [h.len]; exact hi))⟩, h.free i hi⟩
theorem bv_u8 (n k : Nat) : Value.int .u8 ((n : Int) / (k : Int) % 256) = bv (u8 (n / k)) := by unfold bv u8; congr 1
theorem bv_u8' (n : Nat) : Value.int .u8 ((n : Int) % 256) = bv (u8 n) := by unfold bv u8; congr 1
theorem sizeS (l : List UInt8) : (⟨l.toArray⟩ : ByteArray).size = l.length := by simp [ByteArray.size]
theorem sub32 {a b : Nat} (hb : b < 4294967296) : IntKind.u32.wrap ((a : Int) - (b : Int)) = ((sub a b : Nat) : Int) := by
  rw [IntKind.wrap_u32]; unfold sub; omega
theorem add_mod (a b : Nat) : ((a : Int) + (b : Int)) % 4294967296 = ((add a b : Nat) : Int) := by unfold add; omega

end Cha
end Go.Proofs.YtdlcoajjhcbffaaDoor

/- The rounds of the package cipher: a rotation, a quarter round, ten double rounds. No condition but that words have 32 bits. -/
namespace Go.Proofs.YtdlcoajjhcbffaaDoor
open Go.RowKit
namespace Cha

set_option maxRecDepth 100000 in
theorem left_any (x n : Nat) (w : World) (hx : x < 4294967296) (h1 : 1 ≤ n) (h2 : n ≤ 31) :
    Calls Tryd.prog 73 #[.int .u32 (x : Int), .int .i64 (n : Int)] w fun e w' => e = .returned (.int .u32 (rotl x n : Int)) ∧ w = w' := by
  have hs : bits .and .u64 (IntKind.u64.wrap (n : Int)) 31 = ((n : Nat) : Int) := by
    have h : ∀ k : Fin 32, bits .and .u64 (IntKind.u64.wrap ((k.val : Nat) : Int)) 31 = ((k.val : Nat) : Int) := by decide +kernel
    exact h ⟨n, by omega⟩
  have hk : IntKind.u64.wrap (n : Int) = (n : Int) := IntWalk.u64_in _ (by omega)
  rw [hk] at hs
  have hz : (n : Int) ≤ 32 := by omega
  go_enter Tryd.func73, Tryd.ntmps73
  go_wp2
  go_ret
  refine ⟨congrArg Ending.returned (congrArg (Value.int .u32) ?_), rfl⟩
  have e1 : ((x : Int) * 2 ^ n % 4294967296) = ((x * 2 ^ n % 4294967296 : Nat) : Int) := by simp
  have e2 : ((x : Int) / 2 ^ (32 - n)) = ((x / 2 ^ (32 - n) : Nat) : Int) := by simp
  rw [e1, e2, or32 (Nat.mod_lt _ (by omega)) (div_lt _ hx)]
  rfl

/-- Half a quarter round in the walk's own words. -/
theorem half_steps (r1 r2 : Nat) (q : Q) (h : q.Fits) (g1 : 1 ≤ r1) (g2 : r1 ≤ 31) (g3 : 1 ≤ r2) (g4 : r2 ≤ 31) :
    ∃ a x d c y b : Nat, half r1 r2 q = ⟨a, b, c, d⟩ ∧ (⟨a, b, c, d⟩ : Q).Fits ∧ ((q.a : Int) + (q.b : Int)) % 4294967296 = (a : Int) ∧ bits .xor .u32 (q.d : Int) (a : Int) = (x : Int) ∧ ((q.c : Int) + (d : Int)) % 4294967296 = (c : Int) ∧ bits .xor .u32 (q.b : Int) (c : Int) = (y : Int) ∧
      (∀ W, Calls Tryd.prog 73 #[.int .u32 (x : Int), .int .i64 (r1 : Int)] W fun e w' => e = .returned (.int .u32 (d : Int)) ∧ W = w') ∧
      (∀ W, Calls Tryd.prog 73 #[.int .u32 (y : Int), .int .i64 (r2 : Int)] W fun e w' => e = .returned (.int .u32 (b : Int)) ∧ W = w') :=
  ⟨_, _, _, _, _, _, rfl, half_fits h, add_mod _ _, xor32 h.d (add_lt _ _), add_mod _ _, xor32 h.b (add_lt _ _),
    fun W => left_any _ r1 W (xor_lt h.d (add_lt _ _)) g1 g2, fun W => left_any _ r2 W (xor_lt h.b (add_lt _ _)) g3 g4⟩

/-- The four words are returned; the memory is as it was. -/
def Quart (q : Q) (w : World) (e : Ending) (w' : World) : Prop :=
  ∃ r : Q, Hid (qr q = r) ∧ r.Fits ∧ e = .returned (.tuple #[.int .u32 (r.a : Int), .int .u32 (r.b : Int), .int .u32 (r.c : Int), .int .u32 (r.d : Int)]) ∧ w = w'

set_option maxHeartbeats 1000000 in
theorem quarter_any (q : Q) (w : World) (h : q.Fits) :
    Calls Tryd.prog 68 #[.int .u32 (q.a : Int), .int .u32 (q.b : Int), .int .u32 (q.c : Int), .int .u32 (q.d : Int)] w (Quart q w) := by
  obtain ⟨a, x, d, c, y, b, hh, hf, e1, e2, e3, e4, k1, k2⟩ := half_steps 16 12 q h (by omega) (by omega) (by omega) (by omega)
  obtain ⟨a2, x2, d2, c2, y2, b2, hh2, hf2, f1, f2, f3, f4, m1, m2⟩ := half_steps 8 7 ⟨a, b, c, d⟩ hf (by omega) (by omega) (by omega) (by omega)
  have HQ : Hid (qr q = ⟨a2, b2, c2, d2⟩) := Lib.hid (by unfold qr; rw [hh, hh2])
  obtain ⟨qa, qb, qc, qd⟩ := q
  simp only at e1 e2 e3 e4 f1 f2 f3 f4
  have k1 : ∀ W, Calls Tryd.prog 73 #[.int .u32 (x : Int), .int .i64 16] W fun e w' => e = .returned (.int .u32 (d : Int)) ∧ W = w' := k1
  have k2 : ∀ W, Calls Tryd.prog 73 #[.int .u32 (y : Int), .int .i64 12] W fun e w' => e = .returned (.int .u32 (b : Int)) ∧ W = w' := k2
  have m1 : ∀ W, Calls Tryd.prog 73 #[.int .u32 (x2 : Int), .int .i64 8] W fun e w' => e = .returned (.int .u32 (d2 : Int)) ∧ W = w' := m1
  have m2 : ∀ W, Calls Tryd.prog 73 #[.int .u32 (y2 : Int), .int .i64 7] W fun e w' => e = .returned (.int .u32 (b2 : Int)) ∧ W = w' := m2
  clear hh hh2 h hf
  go_enter Tryd.func68, Tryd.ntmps68
  go_wp2_with (first
    | (go_at_call 73; (with_reducible refine (k1 _).mono ?_); rintro e w' ⟨rfl, rfl⟩)
    | (go_at_call 73; (with_reducible refine (k2 _).mono ?_); rintro e w' ⟨rfl, rfl⟩)
    | (go_at_call 73; (with_reducible refine (m1 _).mono ?_); rintro e w' ⟨rfl, rfl⟩)
    | (go_at_call 73; (with_reducible refine (m2 _).mono ?_); rintro e w' ⟨rfl, rfl⟩))
  refine bodyPost_ret (v := .tuple #[.int .u32 (a2 : Int), .int .u32 (b2 : Int), .int .u32 (c2 : Int), .int .u32 (d2 : Int)]) (by simp [results, Tryd.results68, go_sem]) rfl ?_
  exact ⟨⟨a2, b2, c2, d2⟩, HQ, hf2, rfl, rfl⟩

/-- The state lies in the first new block, room for the result in the second. -/
structure RoundS (w W : World) (l : List Nat) : Prop where
  arr : Arr W w.heap.size 16 (l.map wv)
  res : ∃ ys, Arr W (w.heap.size + 1) 16 ys
  ok : Ok l
  below : Below w.heap.size w W
def z16 : Array Value := #[wv 0, wv 0, wv 0, wv 0, wv 0, wv 0, wv 0, wv 0, wv 0, wv 0, wv 0, wv 0, wv 0, wv 0, wv 0, wv 0]
theorem zero16 (W : World) : (zeroValue 63).run Tryd.prog W = .ok (.agg z16) W := by kernel_rfl
theorem info16 : (Tryd.prog.info? 63).map (·.size) = some 16 := by kernel_rfl
theorem und16 : Tryd.prog.underlying 63 = some (.array 16 38) := by kernel_rfl
theorem i16 {l : List Nat} (h : l.length = 16) : (Tryd.prog.info? 63).map (·.size) = some (l.map wv).length := by rw [List.length_map, h]; exact info16
theorem i16A {l : List Nat} (h : l.length = 16) : (Tryd.prog.info? 63).map (·.size) = some (l.map wv).toArray.size := by rw [List.size_toArray, List.length_map, h]; exact info16
theorem round_start {w : World} {l : List Nat} (h : Ok l) (t1 t2 : TypeId) : RoundS w ((w.alloc (.cells (l.map wv).toArray t1)).alloc (.cells z16 t2)) l := by
  have hbel : Below w.heap.size w ((w.alloc (.cells (l.map wv).toArray t1)).alloc (.cells z16 t2)) := ((Below.refl _ _).alloc (Nat.le_refl _) _).alloc (by simp) _
  refine ⟨?_, ⟨z16.toList, ?_⟩, h, hbel⟩
  · have ha := (arr_new w (l.map wv).toArray t1).alloc (by simp) (.cells z16 t2)
    simpa [h.len] using ha
  · have ha := arr_new (w.alloc (.cells (l.map wv).toArray t1)) z16 t2
    rw [show z16.size = 16 from rfl] at ha
    simpa using ha
theorem RoundS.quad {w W : World} {l : List Nat} (h : RoundS w W l) (i j k m : Nat) (hi : i < 16 := by omega) (hj : j < 16 := by omega) (hk : k < 16 := by omega) (hm : m < 16 := by omega) :
    ∃ q : Q, get l (i, j, k, m) = q ∧ q.Fits ∧ W.cell? ⟨w.heap.size, i, none⟩ = some (.int .u32 (q.a : Int)) ∧ W.cell? ⟨w.heap.size, j, none⟩ = some (.int .u32 (q.b : Int)) ∧ W.cell? ⟨w.heap.size, k, none⟩ = some (.int .u32 (q.c : Int)) ∧ W.cell? ⟨w.heap.size, m, none⟩ = some (.int .u32 (q.d : Int)) ∧
      W.frozen? ⟨w.heap.size, i, none⟩ = false ∧ W.frozen? ⟨w.heap.size, j, none⟩ = false ∧ W.frozen? ⟨w.heap.size, k, none⟩ = false ∧ W.frozen? ⟨w.heap.size, m, none⟩ = false := by
  have c : ∀ n, n < 16 → W.cell? ⟨w.heap.size, n, none⟩ = some (.int .u32 ((l.getD n 0 : Nat) : Int)) := fun n hn =>
    (h.arr.at_ (i := n) (u := wv (l.getD n 0)) (by rw [List.getElem?_map, (h.ok.at_ hn).1]; rfl)).1
  exact ⟨get l (i, j, k, m), rfl, h.ok.get _, c i hi, c j hj, c k hk, c m hm, h.arr.free i hi, h.arr.free j hj, h.arr.free k hk, h.arr.free m hm⟩
theorem RoundS.turned {w W : World} {l : List Nat} (h : RoundS w W l) {i j k m : Nat} {q r : Q} (hg : get l (i, j, k, m) = q) (hq : Hid (qr q = r)) (hi : i < 16 := by omega) (hj : j < 16 := by omega) (hk : k < 16 := by omega) (hm : m < 16 := by omega) :
    RoundS w ((((W.setCell ⟨w.heap.size, i, none⟩ (.int .u32 (r.a : Int))).setCell ⟨w.heap.size, j, none⟩ (.int .u32 (r.b : Int))).setCell ⟨w.heap.size, k, none⟩ (.int .u32 (r.c : Int))).setCell ⟨w.heap.size, m, none⟩ (.int .u32 (r.d : Int))) (turn l (i, j, k, m)) := by
  obtain ⟨ys, hy⟩ := h.res
  have ha := (((h.arr.set hi (wv r.a)).set hj (wv r.b)).set hk (wv r.c)).set hm (wv r.d)
  refine ⟨?_, ⟨ys, (((hy.other (by omega) _).other (by omega) _).other (by omega) _).other (by omega) _⟩, h.ok.turn _, (((h.below.setCell (by simp) _).setCell (by simp) _).setCell (by simp) _).setCell (by simp) _⟩
  have e : (turn l (i, j, k, m)).map wv = ((((l.map wv).set i (wv r.a)).set j (wv r.b)).set k (wv r.c)).set m (wv r.d) := by
    unfold turn put
    rw [hg, hq.out]
    simp only [List.map_set]
  rw [e]
  exact ha

end Cha
end Go.Proofs.YtdlcoajjhcbffaaDoor

/- Ten double rounds of the package cipher. Condition: the state has sixteen words of 32 bits. -/
namespace Go.Proofs.YtdlcoajjhcbffaaDoor
open Go.RowKit
namespace Cha

set_option maxRecDepth 100000 in
set_option maxHeartbeats 2000000 in
theorem rounds_any (l : List Nat) (w : World) (h : Ok l) :
    Calls Tryd.prog 59 #[.agg (l.map wv).toArray] w (GivesA ((rounds l).map wv) w) := by
  have S0 := round_start (w := w) h 63 63
  obtain ⟨l1, hl1⟩ : ∃ l1, l1 = rounds l := ⟨_, rfl⟩
  rw [← hl1]
  have HR := Lib.hid hl1
  clear hl1
  have hz := zero16
  clear h
  go_enter Tryd.func59, Tryd.ntmps59
  go_wp2
  go_loopw [3] (fun iv wr => ∃ (k : Nat), k ≤ 10 ∧ iv = .int .i64 (k : Int) ∧ RoundS w wr (times double k l)) (fun iv _ => (10 - intOf iv).toNat)
  case atStart => exact ⟨0, by omega, rfl, S0⟩
  case round =>
    obtain ⟨k, hk, rfl, hr0⟩ := hrel
    clear S0
    by_cases hlt : k < 10
    · have HD : Hid (times double (k + 1) l = turn (turn (turn (turn (turn (turn (turn (turn (times double k l) (0, 4, 8, 12)) (1, 5, 9, 13)) (2, 6, 10, 14)) (3, 7, 11, 15)) (0, 5, 10, 15)) (1, 6, 11, 12)) (2, 7, 8, 13)) (3, 4, 9, 14)) := Lib.hid (by rw [times_step, double_eq])
      generalize times double k l = l0 at hr0 HD
      have z0 : (k : Int) < 10 := by omega
      obtain ⟨q0, g0, f0, a0, a1, a2, a3, b0, b1, b2, b3⟩ := hr0.quad 0 4 8 12
      have G0 := Lib.hid g0; clear g0
      go_wp2_with (first
        | (go_at_call 68; (with_reducible refine (quarter_any q0 _ f0).mono ?_); rintro e u0 ⟨r0, h0, i0, rfl, rfl⟩; have T0 := fun W (h : RoundS w W l0) => h.turned (i := 0) (j := 4) (k := 8) (m := 12) G0.out h0; clear f0)
        | ((with_reducible refine at_slot 24 rfl ?_); refine gen_world (Pq := fun W => RoundS w W (turn l0 (0, 4, 8, 12))) (G := fun W => wpList _ _ _ _ _ W) (T0 _ hr0) ?_; clear hr0 T0; clear a0 a1 a2 a3 b0 b1 b2 b3; generalize hl1 : turn l0 (0, 4, 8, 12) = l1; have L1 := Lib.hid hl1; clear hl1; intro w1 hr1; obtain ⟨q1, g1, f1, a0, a1, a2, a3, b0, b1, b2, b3⟩ := hr1.quad 1 5 9 13; have G1 := Lib.hid g1; clear g1)
        | (go_at_call 68; (with_reducible refine (quarter_any q1 _ f1).mono ?_); rintro e u1 ⟨r1, h1, i1, rfl, rfl⟩; have T1 := fun W (h : RoundS w W l1) => h.turned (i := 1) (j := 5) (k := 9) (m := 13) G1.out h1; clear f1)
        | ((with_reducible refine at_slot 42 rfl ?_); refine gen_world (Pq := fun W => RoundS w W (turn l1 (1, 5, 9, 13))) (G := fun W => wpList _ _ _ _ _ W) (T1 _ hr1) ?_; clear hr1 T1; clear a0 a1 a2 a3 b0 b1 b2 b3; generalize hl2 : turn l1 (1, 5, 9, 13) = l2; have L2 := Lib.hid hl2; clear hl2; intro w2 hr2; obtain ⟨q2, g2, f2, a0, a1, a2, a3, b0, b1, b2, b3⟩ := hr2.quad 2 6 10 14; have G2 := Lib.hid g2; clear g2)
        | (go_at_call 68; (with_reducible refine (quarter_any q2 _ f2).mono ?_); rintro e u2 ⟨r2, h2, i2, rfl, rfl⟩; have T2 := fun W (h : RoundS w W l2) => h.turned (i := 2) (j := 6) (k := 10) (m := 14) G2.out h2; clear f2)
        | ((with_reducible refine at_slot 60 rfl ?_); refine gen_world (Pq := fun W => RoundS w W (turn l2 (2, 6, 10, 14))) (G := fun W => wpList _ _ _ _ _ W) (T2 _ hr2) ?_; clear hr2 T2; clear a0 a1 a2 a3 b0 b1 b2 b3; generalize hl3 : turn l2 (2, 6, 10, 14) = l3; have L3 := Lib.hid hl3; clear hl3; intro w3 hr3; obtain ⟨q3, g3, f3, a0, a1, a2, a3, b0, b1, b2, b3⟩ := hr3.quad 3 7 11 15; have G3 := Lib.hid g3; clear g3)
        | (go_at_call 68; (with_reducible refine (quarter_any q3 _ f3).mono ?_); rintro e u3 ⟨r3, h3, i3, rfl, rfl⟩; have T3 := fun W (h : RoundS w W l3) => h.turned (i := 3) (j := 7) (k := 11) (m := 15) G3.out h3; clear f3)
        | ((with_reducible refine at_slot 78 rfl ?_); refine gen_world (Pq := fun W => RoundS w W (turn l3 (3, 7, 11, 15))) (G := fun W => wpList _ _ _ _ _ W) (T3 _ hr3) ?_; clear hr3 T3; clear a0 a1 a2 a3 b0 b1 b2 b3; generalize hl4 : turn l3 (3, 7, 11, 15) = l4; have L4 := Lib.hid hl4; clear hl4; intro w4 hr4; obtain ⟨q4, g4, f4, a0, a1, a2, a3, b0, b1, b2, b3⟩ := hr4.quad 0 5 10 15; have G4 := Lib.hid g4; clear g4)
        | (go_at_call 68; (with_reducible refine (quarter_any q4 _ f4).mono ?_); rintro e u4 ⟨r4, h4, i4, rfl, rfl⟩; have T4 := fun W (h : RoundS w W l4) => h.turned (i := 0) (j := 5) (k := 10) (m := 15) G4.out h4; clear f4)
        | ((with_reducible refine at_slot 96 rfl ?_); refine gen_world (Pq := fun W => RoundS w W (turn l4 (0, 5, 10, 15))) (G := fun W => wpList _ _ _ _ _ W) (T4 _ hr4) ?_; clear hr4 T4; clear a0 a1 a2 a3 b0 b1 b2 b3; generalize hl5 : turn l4 (0, 5, 10, 15) = l5; have L5 := Lib.hid hl5; clear hl5; intro w5 hr5; obtain ⟨q5, g5, f5, a0, a1, a2, a3, b0, b1, b2, b3⟩ := hr5.quad 1 6 11 12; have G5 := Lib.hid g5; clear g5)
        | (go_at_call 68; (with_reducible refine (quarter_any q5 _ f5).mono ?_); rintro e u5 ⟨r5, h5, i5, rfl, rfl⟩; have T5 := fun W (h : RoundS w W l5) => h.turned (i := 1) (j := 6) (k := 11) (m := 12) G5.out h5; clear f5)
        | ((with_reducible refine at_slot 114 rfl ?_); refine gen_world (Pq := fun W => RoundS w W (turn l5 (1, 6, 11, 12))) (G := fun W => wpList _ _ _ _ _ W) (T5 _ hr5) ?_; clear hr5 T5; clear a0 a1 a2 a3 b0 b1 b2 b3; generalize hl6 : turn l5 (1, 6, 11, 12) = l6; have L6 := Lib.hid hl6; clear hl6; intro w6 hr6; obtain ⟨q6, g6, f6, a0, a1, a2, a3, b0, b1, b2, b3⟩ := hr6.quad 2 7 8 13; have G6 := Lib.hid g6; clear g6)
        | (go_at_call 68; (with_reducible refine (quarter_any q6 _ f6).mono ?_); rintro e u6 ⟨r6, h6, i6, rfl, rfl⟩; have T6 := fun W (h : RoundS w W l6) => h.turned (i := 2) (j := 7) (k := 8) (m := 13) G6.out h6; clear f6)
        | ((with_reducible refine at_slot 132 rfl ?_); refine gen_world (Pq := fun W => RoundS w W (turn l6 (2, 7, 8, 13))) (G := fun W => wpList _ _ _ _ _ W) (T6 _ hr6) ?_; clear hr6 T6; clear a0 a1 a2 a3 b0 b1 b2 b3; generalize hl7 : turn l6 (2, 7, 8, 13) = l7; have L7 := Lib.hid hl7; clear hl7; intro w7 hr7; obtain ⟨q7, g7, f7, a0, a1, a2, a3, b0, b1, b2, b3⟩ := hr7.quad 3 4 9 14; have G7 := Lib.hid g7; clear g7)
        | (go_at_call 68; (with_reducible refine (quarter_any q7 _ f7).mono ?_); rintro e u7 ⟨r7, h7, i7, rfl, rfl⟩; have T7 := fun W (h : RoundS w W l7) => h.turned (i := 3) (j := 4) (k := 9) (m := 14) G7.out h7; clear f7))
      go_roundw
      case rel =>
        refine ⟨k + 1, by omega, by go_num, ?_⟩
        rw [HD.out, L1.out, L2.out, L3.out, L4.out, L5.out, L6.out, L7.out]
        exact T7 _ hr7
      case measure => simp [intOf]; omega
    · have hk10 : k = 10 := by omega
      have z0 : ¬ (k : Int) < 10 := by omega
      have S1 : RoundS w wr l1 := by rw [hk10] at hr0; rw [HR.out]; exact hr0
      clear hr0 hk10 hlt hk
      have hl := S1.ok.len
      obtain ⟨ys, hy⟩ := S1.res
      have hth : wr.there (w.heap.size + 1) 0 (l1.map wv).toArray.size := by
        rw [show (l1.map wv).toArray.size = 16 by rw [List.size_toArray, List.length_map]; exact hl]; exact hy.there
      have hend := arr_end (w := w) (wr := wr) (g := w.heap.size + 1) (xs := l1.map wv) 63 S1.below (by omega) (by rw [List.length_map, hl]; exact hy.there) und16 rfl (i16 hl)
      have HL := Lib.hid hl
      have HE := Lib.hid hend
      have hrg := S1.arr.range
      clear hl hend hy
      go_wp2_with (first
        | ((with_reducible refine at_slot 150 rfl ?_); refine wpList_load_mid rfl 63 (.tmp 1) rfl w.heap.size 0 rfl (l1.map wv) _ hrg und16 rfl (i16 HL.out) ?_)
        | ((with_reducible refine at_store 63 (.tmp 2) (.tmp 150) rfl ?_); refine wpList_store_mid rfl 63 (.tmp 2) (.tmp 150) rfl (w.heap.size + 1) 0 (l1.map wv).toArray rfl rfl hth (i16A HL.out) (words_one _) ?_))
      refine bodyPost_ret (v := .agg (l1.map wv).toArray) ?_ rfl ⟨rfl, HE.out.2⟩
      simp [results, Tryd.results59, asAddr]
      rw [HE.out.1]

end Cha
end Go.Proofs.YtdlcoajjhcbffaaDoor

/- The state of a block: load and State, of the package cipher. Conditions: those that each theorem names. -/
namespace Go.Proofs.YtdlcoajjhcbffaaDoor
open Go.RowKit
namespace Cha

theorem ext_drop (x : List UInt8) (j : Nat) : (⟨x.toArray⟩ : ByteArray).extract j x.length = ⟨(x.drop j).toArray⟩ := by
  apply ByteArray.ext
  rw [ByteArray.data_extract]
  apply Array.toList_inj.1
  rw [Array.toList_extract, List.extract_eq_take_drop]
  exact List.take_of_length_le (by simp)
theorem slice_from (x : List UInt8) (k : Nat) (hk : k ≤ x.length) (W : World) : (Instr.slice 9 (.string ⟨x.toArray⟩) (some (.int .i64 (k : Int))) none none).run Tryd.prog W = .ok (.string ⟨(x.drop k).toArray⟩) W := by
  have h := run_slice_string_from_if (P := Tryd.prog) W 9 ⟨x.toArray⟩ .i64 (k : Int) Tryd.underlying9
  rw [h]
  have hs := sizeS x
  simp [hs, hk]
  rw [← ext_drop]
theorem index_at (a : List UInt8) (k : Nat) (x : UInt8) (hx : a[k]? = some x) (W : World) : (Instr.index 9 (.string ⟨a.toArray⟩) (.int .i64 (k : Int))).run Tryd.prog W = .ok (.int .u8 (x.toNat : Int)) W := by
  have hk := (List.getElem?_eq_some_iff.1 hx).1
  have hs := sizeS a
  have hxx := (List.getElem?_eq_some_iff.1 hx).2
  rw [run_index_string (h := Tryd.underlying9)]
  rw [dif_pos ⟨by omega, by rw [hs]; omega⟩]
  rw [← hxx]
  rfl

/-- Four bytes' word in the walk's own words. -/
theorem word_steps {x : List UInt8} {k n : Nat} (hx : x.length = 4 * n) (hk : k < n) :
    ∃ (y : List UInt8) (x0 x1 x2 x3 : UInt8) (m1 m2 m3 n1 n2 v : Nat), x.drop (4 * k) = y ∧ y[0]? = some x0 ∧ y[1]? = some x1 ∧ y[2]? = some x2 ∧ y[3]? = some x3 ∧
      IntKind.u32.wrap ((x1.toNat : Int) * 256) = (m1 : Int) ∧ IntKind.u32.wrap ((x2.toNat : Int) * 65536) = (m2 : Int) ∧ IntKind.u32.wrap ((x3.toNat : Int) * 16777216) = (m3 : Int) ∧
      bits .or .u32 (x0.toNat : Int) (m1 : Int) = (n1 : Int) ∧ bits .or .u32 (n1 : Int) (m2 : Int) = (n2 : Int) ∧ bits .or .u32 (n2 : Int) (m3 : Int) = (v : Int) ∧ word x k = v := by
  obtain ⟨x0, h0⟩ : ∃ z, x[4 * k]? = some z := ⟨_, List.getElem?_eq_getElem (by omega)⟩
  obtain ⟨x1, h1⟩ : ∃ z, x[4 * k + 1]? = some z := ⟨_, List.getElem?_eq_getElem (by omega)⟩
  obtain ⟨x2, h2⟩ : ∃ z, x[4 * k + 2]? = some z := ⟨_, List.getElem?_eq_getElem (by omega)⟩
  obtain ⟨x3, h3⟩ : ∃ z, x[4 * k + 3]? = some z := ⟨_, List.getElem?_eq_getElem (by omega)⟩
  have g0 := x0.toNat_lt
  have g1 := x1.toNat_lt
  have g2 := x2.toNat_lt
  have g3 := x3.toNat_lt
  have l1 : x0.toNat ||| x1.toNat * 256 < 4294967296 := or_lt (by omega) (by omega)
  have l2 : (x0.toNat ||| x1.toNat * 256) ||| x2.toNat * 65536 < 4294967296 := or_lt l1 (by omega)
  refine ⟨_, x0, x1, x2, x3, x1.toNat * 256, x2.toNat * 65536, x3.toNat * 16777216, _, _, _, rfl, by rw [List.getElem?_drop]; exact h0, by rw [List.getElem?_drop]; exact h1, by rw [List.getElem?_drop]; exact h2, by rw [List.getElem?_drop]; exact h3,
    ?_, ?_, ?_, or32 (by omega) (by omega), or32 l1 (by omega), or32 l2 (by omega), ?_⟩
  · rw [IntKind.wrap_u32]; omega
  · rw [IntKind.wrap_u32]; omega
  · rw [IntKind.wrap_u32]; omega
  · simp only [word, List.getD_eq_getElem?_getD, h0, h1, h2, h3, Option.getD_some]

/-- The words of a text, of which k have been written at place o of an array. -/
def over (xs : List Value) (x : List UInt8) (o k : Nat) : List Value := xs.take o ++ ((words x k).map wv ++ xs.drop (o + k))
theorem over_zero (xs : List Value) (x : List UInt8) (o : Nat) : over xs x o 0 = xs := by simp [over, words]
theorem over_set {xs : List Value} (x : List UInt8) {o k : Nat} (h : o + k < xs.length) : (over xs x o k).set (o + k) (wv (word x k)) = over xs x o (k + 1) := by
  unfold over
  have h1 : (xs.take o).length = o := by rw [List.length_take]; omega
  have h2 : ((words x k).map wv).length = k := by rw [List.length_map, words_length]
  rw [List.set_append_right _ _ (by omega), h1, List.set_append_right _ _ (by omega), h2, show o + k - o - k = 0 by omega, List.drop_eq_getElem_cons h, List.set_cons_zero, words_succ, List.map_append, Nat.add_assoc]
  simp
structure LoadS (w W : World) (g : Nat) (xs : List Value) : Prop where
  arr : Arr W g 16 xs
  below : Below g w W
theorem LoadS.put {w W : World} {g o k : Nat} {xs : List Value} {x : List UInt8} (h : LoadS w W g (over xs x o k)) (hl : xs.length = 16) (hk : o + k < 16) : LoadS w (W.setCell ⟨g, o + k, none⟩ (wv (word x k))) g (over xs x o (k + 1)) := by
  have ha := h.arr.set (i := o + k) hk (wv (word x k))
  rw [over_set x (by omega)] at ha
  exact ⟨ha, h.below.setCell (by simp) _⟩
theorem LoadS.drew {w W : World} {g : Nat} {xs : List Value} (h : LoadS w W g xs) : LoadS w W.drew g xs := ⟨h.arr.drew 1, h.below.drew⟩

set_option maxRecDepth 100000 in
set_option maxHeartbeats 1000000 in
theorem load_any (xs : List Value) (x : List UInt8) (g o n c : Nat) (w : World) (hx : x.length = 4 * n) (ha : Arr w g 16 xs) (ho : o + n ≤ 16) :
    Calls Tryd.prog 58 #[.slice (some ⟨g, o, none⟩) n c, .string ⟨x.toArray⟩] w fun e w' => e = .returned (.tuple #[]) ∧ LoadS w w' g (over xs x o n) := by
  have hl := ha.len
  have S0 : LoadS w w g (over xs x o 0) := by rw [over_zero]; exact ⟨ha, Below.refl _ _⟩
  have HX := Lib.hid hx
  have HL := Lib.hid hl
  clear ha hx hl
  go_enter Tryd.func58, Tryd.ntmps58
  go_wp2
  go_loopw [8] (fun iv wr => ∃ (k : Nat), k ≤ n ∧ iv = .int .i64 (k : Int) ∧ LoadS w wr g (over xs x o k)) (fun iv _ => n - (intOf iv).toNat)
  case atStart => exact ⟨0, by omega, rfl, S0⟩
  case round =>
    obtain ⟨k, hk, rfl, hr⟩ := hrel
    clear S0
    by_cases hlt : k < n
    · obtain ⟨y, x0, x1, x2, x3, m1, m2, m3, n1, n2, v, hy, h0, h1, h2, h3, e1, e2, e3, o1, o2, o3, hv⟩ := word_steps HX.out hlt
      have hsl := fun W => slice_from x (4 * k) (by have := HX.out; omega) W
      rw [hy, show ((4 * k : Nat) : Int) = 4 * (k : Int) by omega] at hsl
      have i0 : ∀ W, (Instr.index 9 (.string ⟨y.toArray⟩) (.int .i64 0)).run Tryd.prog W = .ok (.int .u8 (x0.toNat : Int)) W := fun W => index_at y 0 x0 h0 W
      have i1 : ∀ W, (Instr.index 9 (.string ⟨y.toArray⟩) (.int .i64 1)).run Tryd.prog W = .ok (.int .u8 (x1.toNat : Int)) W := fun W => index_at y 1 x1 h1 W
      have i2 : ∀ W, (Instr.index 9 (.string ⟨y.toArray⟩) (.int .i64 2)).run Tryd.prog W = .ok (.int .u8 (x2.toNat : Int)) W := fun W => index_at y 2 x2 h2 W
      have i3 : ∀ W, (Instr.index 9 (.string ⟨y.toArray⟩) (.int .i64 3)).run Tryd.prog W = .ok (.int .u8 (x3.toNat : Int)) W := fun W => index_at y 3 x3 h3 W
      have hput := fun W (h : LoadS w W g (over xs x o k)) => h.put (x := x) HL.out (by omega)
      rw [hv] at hput
      have HP := Lib.hid hput
      obtain ⟨q1, q2⟩ := hr.drew.arr.some_ (i := o + k) (by omega)
      have z0 : (0 : Int) ≤ (k : Int) := by omega
      have z1 : (k : Int) < (n : Int) := by omega
      have z2 : n ≤ 16 := by omega
      have z3 : 4 * (k : Int) ≤ 64 := by omega
      have w0 := wrap_u8 x0
      have w1 := wrap_u8 x1
      have w2 := wrap_u8 x2
      have w3 := wrap_u8 x3
      have hr2 := hr.drew
      clear hput hv hy h0 h1 h2 h3 hr hlt hk ho
      go_wp2
      go_still_tail 20, (by kernel_rfl)
      change wpList _ _ _ _ _ wr.drew
      revert hr2 q1 q2
      generalize wr.drew = w2
      intro q1 q2 hr2
      obtain ⟨u, q1⟩ := q1
      go_wp2
      go_roundw
      case rel => exact ⟨k + 1, by omega, by go_num, HP.out _ hr2⟩
      case measure => simp [intOf]; omega
    · obtain rfl : k = n := by omega
      have z0 : ¬ (k : Int) < (k : Int) := by omega
      go_wp2
      go_end0
      exact ⟨rfl, hr⟩

end Cha
end Go.Proofs.YtdlcoajjhcbffaaDoor

/- State of the package cipher. Conditions: those that each theorem names. -/
namespace Go.Proofs.YtdlcoajjhcbffaaDoor
open Go.RowKit
namespace Cha
theorem over_len {xs : List Value} (x : List UInt8) {o k : Nat} (hl : xs.length = 16) (h : o + k ≤ 16) : (over xs x o k).length = 16 := by
  unfold over
  simp [words_length, hl]; omega
def baseN : List Nat := [0x61707865, 0x3320646e, 0x79622d32, 0x6b206574, 0, 0, 0, 0, 0, 0, 0, 0, 0, 0, 0, 0]
def base : List Value := baseN.map wv
theorem start_all (key nonce : List UInt8) (ctr : Nat) : over ((over base key 4 8).set 12 (wv ctr)) nonce 13 3 = (start key ctr nonce).map wv := by
  have e : over base key 4 8 = sigma.map wv ++ ((words key 8).map wv ++ [wv 0, wv 0, wv 0, wv 0]) := rfl
  have h : (sigma.map wv ++ ((words key 8).map wv ++ [wv 0, wv 0, wv 0, wv 0])).set 12 (wv ctr) = sigma.map wv ++ ((words key 8).map wv ++ [wv ctr, wv 0, wv 0, wv 0]) := by
    rw [List.set_append_right _ _ (by simp [sigma]), List.set_append_right _ _ (by simp [sigma, words_length])]
    simp [sigma, words_length]
  rw [e, h]
  unfold over start
  have h3 : (sigma.map wv ++ ((words key 8).map wv ++ [wv ctr, wv 0, wv 0, wv 0])).take 13 = sigma.map wv ++ ((words key 8).map wv ++ [wv ctr]) := by
    simp [List.take_append, sigma, words_length]
    exact List.take_of_length_le (by simp [words_length])
  rw [h3, List.drop_of_length_le (by simp [sigma, words_length])]
  simp

/-- The result's room in the first new block, the state in the second. -/
structure StateS (w W : World) (xs : List Value) : Prop where
  res : ∃ ys, Arr W w.heap.size 16 ys
  arr : Arr W (w.heap.size + 1) 16 xs
  below : Below w.heap.size w W
theorem state_start (w : World) (xs : List Value) (hl : xs.length = 16) (t1 t2 : TypeId) : StateS w (((w.alloc (.cells z16 t1)).alloc (.cells z16 t2)).setCells (w.heap.size + 1) 0 xs.toArray.toList) xs := by
  have h1 := arr_new w z16 t1
  have h2 := arr_new (w.alloc (.cells z16 t1)) z16 t2
  rw [show z16.size = 16 from rfl] at h1 h2
  have h2' : Arr ((w.alloc (.cells z16 t1)).alloc (.cells z16 t2)) (w.heap.size + 1) 16 z16.toList := by simpa using h2
  refine ⟨⟨_, (h1.alloc (by simp) _).aside (by omega) 0⟩, h2'.over hl, (((Below.refl _ _).alloc (Nat.le_refl _) _).alloc (by simp) _).trans (below_cells (by omega) _ _ _)⟩
theorem StateS.load {w W W2 : World} {xs ys : List Value} (h : StateS w W xs) (hl : LoadS W W2 (w.heap.size + 1) ys) : StateS w W2 ys := by
  obtain ⟨zs, hz⟩ := h.res
  exact ⟨⟨zs, hz.below hl.below (by omega)⟩, hl.arr, h.below.trans (hl.below.mono (by omega))⟩
theorem StateS.set12 {w W : World} {xs : List Value} (h : StateS w W xs) (v : Value) : StateS w (W.setCell ⟨w.heap.size + 1, 12, none⟩ v) (xs.set 12 v) := by
  obtain ⟨zs, hz⟩ := h.res
  exact ⟨⟨zs, hz.other (by omega) _⟩, h.arr.set (by omega) v, h.below.setCell (by simp) _⟩
theorem fresh16 (W : World) (xs : List Value) (hl : xs.length = 16) (t1 t2 : TypeId) : ((W.alloc (.cells z16 t1)).alloc (.cells z16 t2)).there (W.heap.size + 1) 0 xs.toArray.size := by
  have h := (arr_new (W.alloc (.cells z16 t1)) z16 t2).there
  rw [show z16.size = 16 from rfl] at h
  rw [show xs.toArray.size = 16 by rw [List.size_toArray]; exact hl]
  simpa using h
theorem wv_all (l : List Nat) : ∀ v ∈ l.map wv, v.oneCell' = true := by
  intro v hv
  obtain ⟨c, _, rfl⟩ := List.mem_map.1 hv
  rfl

theorem start_len (key : List UInt8) (ctr : Nat) (nonce : List UInt8) : (start key ctr nonce).length = 16 := by simp [start, words_length, sigma]
theorem StateS.there {w W : World} {xs : List Value} (h : StateS w W xs) {l : List Nat} (hl : l.length = 16) : W.there w.heap.size 0 (l.map wv).toArray.size := by
  obtain ⟨ys, hy⟩ := h.res
  rw [show (l.map wv).toArray.size = 16 by rw [List.size_toArray, List.length_map]; exact hl]; exact hy.there
theorem StateS.fin {w W : World} {xs : List Value} (h : StateS w W xs) (l : List Nat) (hl : l.length = 16) :
    (loadVar 63 ⟨w.heap.size, 0, none⟩).run Tryd.prog (W.setCells w.heap.size 0 (l.map wv)) = .ok (.agg (l.map wv).toArray) (W.setCells w.heap.size 0 (l.map wv)) ∧ Below w.heap.size w (W.setCells w.heap.size 0 (l.map wv)) := by
  obtain ⟨ys, hy⟩ := h.res
  exact arr_end (w := w) (wr := W) (g := w.heap.size) (xs := l.map wv) 63 h.below (Nat.le_refl _) (by rw [List.length_map, hl]; exact hy.there) und16 rfl (i16 hl)
def State16 (xs : List Value) (e : Nat) (w : World) (o : Ending) (w' : World) : Prop := o = .returned (.tuple #[.agg xs.toArray, .int .i64 (e : Int)]) ∧ Below w.heap.size w w'

set_option maxRecDepth 100000 in
set_option maxHeartbeats 1000000 in
theorem state_ok (key nonce : List UInt8) (ctr : Nat) (w : World) (hk : key.length = 32) (hn : nonce.length = 12) :
    Calls Tryd.prog 39 #[.string ⟨key.toArray⟩, .int .u32 (ctr : Int), .string ⟨nonce.toArray⟩] w (State16 ((start key ctr nonce).map wv) 0 w) := by
  have h1 := sizeS key
  have h2 := sizeS nonce
  rw [hk] at h1
  rw [hn] at h2
  have hz := zero16
  have K1 := Lib.hid hk
  have K2 := Lib.hid hn
  clear hk hn
  go_enter Tryd.func39, Tryd.ntmps39
  go_wp2_with (first
    | ((with_reducible refine at_store 63 (.tmp 8) (.tmp 18) rfl ?_); refine wpList_store_mid rfl 63 (.tmp 8) (.tmp 18) rfl (w.heap.size + 1) 0 base.toArray rfl rfl (fresh16 w base rfl _ _) (by kernel_rfl) (words_one baseN) ?_; refine gen_world (Pq := fun W => StateS w W base) (G := fun W => wpList _ _ _ _ _ W) (state_start w base rfl _ _) ?_; intro w1 S1)
    | (go_at_call 58; (with_reducible refine (load_any base key (w.heap.size + 1) 4 8 _ w1 K1.out S1.arr (by omega)).mono ?_); rintro e w2 ⟨rfl, hl⟩; have S2 := S1.load hl; clear hl S1; have c12 := S2.arr.some_ (i := 12) (by omega); obtain ⟨⟨u, c12⟩, f12⟩ := c12; have S3 : StateS w (w2.setCell ⟨w.heap.size + 1, 12, none⟩ (.int .u32 (ctr : Int))) ((over base key 4 8).set 12 (wv ctr)) := S2.set12 (wv ctr); clear S2)
    | (go_at_call 58; (with_reducible refine (load_any _ nonce (w.heap.size + 1) 13 3 _ _ K2.out S3.arr (by omega)).mono ?_); rintro e w3 ⟨rfl, hl⟩; have S4 := S3.load hl; rw [start_all] at S4; have hth := S4.there (l := start key ctr nonce) (start_len _ _ _); have hrg := S4.arr.range; have HE := Lib.hid (S4.fin (start key ctr nonce) (start_len _ _ _)); clear hl S3)
    | ((with_reducible refine at_slot 27 rfl ?_); refine wpList_load_mid rfl 63 (.tmp 8) rfl (w.heap.size + 1) 0 rfl ((start key ctr nonce).map wv) _ hrg und16 rfl (i16 (start_len _ _ _)) ?_)
    | ((with_reducible refine at_store 63 (.tmp 6) (.tmp 27) rfl ?_); refine wpList_store_mid rfl 63 (.tmp 6) (.tmp 27) rfl w.heap.size 0 ((start key ctr nonce).map wv).toArray rfl rfl hth (i16A (start_len _ _ _)) (words_one _) ?_))
  refine bodyPost_ret (v := .tuple #[.agg ((start key ctr nonce).map wv).toArray, .int .i64 0]) ?_ rfl ⟨rfl, HE.out.2⟩
  have hE := HE.out.1
  simp [results, Tryd.results39, asAddr, hE]

def zN : List Nat := [0, 0, 0, 0, 0, 0, 0, 0, 0, 0, 0, 0, 0, 0, 0, 0]
theorem zN_eq : z16 = (zN.map wv).toArray := rfl
theorem fresh1 (W : World) (t : TypeId) : (W.alloc (.cells z16 t)).there W.heap.size 0 z16.size := (arr_new W z16 t).there
theorem fresh1_end (w : World) (t : TypeId) :
    (loadVar 63 ⟨w.heap.size, 0, none⟩).run Tryd.prog ((w.alloc (.cells z16 t)).setCells w.heap.size 0 z16.toList) = .ok (.agg z16) ((w.alloc (.cells z16 t)).setCells w.heap.size 0 z16.toList) ∧ Below w.heap.size w ((w.alloc (.cells z16 t)).setCells w.heap.size 0 z16.toList) := by
  have h := (arr_new w z16 t).there
  exact arr_end (w := w) (wr := w.alloc (.cells z16 t)) (g := w.heap.size) (xs := z16.toList) 63 ((Below.refl _ _).alloc (Nat.le_refl _) _) (Nat.le_refl _) h und16 rfl (by kernel_rfl)

set_option maxRecDepth 100000 in
set_option maxHeartbeats 1000000 in
theorem state_err (key nonce : List UInt8) (ctr : Nat) (w : World) (h : ¬ (key.length = 32 ∧ nonce.length = 12)) :
    Calls Tryd.prog 39 #[.string ⟨key.toArray⟩, .int .u32 (ctr : Int), .string ⟨nonce.toArray⟩] w (State16 z16.toList 1 w) := by
  have h1 := sizeS key
  have h2 := sizeS nonce
  have hz := zero16
  have HE := Lib.hid (fresh1_end w 63)
  have hE := HE.out.1
  by_cases hk : key.length = 32
  case' pos =>
    have hn : ¬ (nonce.length : Int) = 12 := by omega
    have hn1 : ((nonce.length : Int) == 12) = false := by simpa using hn
    have hn2 : ((nonce.length : Int) != 12) = true := by simpa using hn
    have hn3 : decide ((nonce.length : Int) = 12) = false := by simpa using hn
    rw [hk] at h1
    clear h hk
  case' neg =>
    have hn : ¬ (key.length : Int) = 32 := by omega
    clear h hk
  all_goals
    have HEQ := Lib.hid hE
    clear hE
    go_enter Tryd.func39, Tryd.ntmps39
    go_wp2_with ((with_reducible refine at_store 63 (.tmp 6) (.tmp 17) rfl ?_); refine wpList_store_mid rfl 63 (.tmp 6) (.tmp 17) rfl w.heap.size 0 z16 rfl rfl (fresh1 w _) (by kernel_rfl) (words_one zN) ?_)
    refine bodyPost_ret (v := .tuple #[.agg z16, .int .i64 1]) ?_ rfl ⟨rfl, HE.out.2⟩
    have hE := HEQ.out
    simp [results, Tryd.results39, asAddr, hE]

end Cha
end Go.Proofs.YtdlcoajjhcbffaaDoor

