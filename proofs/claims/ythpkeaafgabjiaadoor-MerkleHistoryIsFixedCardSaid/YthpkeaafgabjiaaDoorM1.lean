/- HBase; HMem; HExp; HComp; HNext: what each of these parts proves stands ahead of it. -/
import Derived.Test.YthpkeaafgabjiaaDoorProg
import Derived.Test.YthpkeaafgabjiaaDoorZSha
import Derived.WalkKit
import Derived.WalkSpells
import Derived.WalkLawsBesides
import Derived.OwnWalk
import Derived.IntWalk
import Derived.Lib.Hide
import Derived.Deep.QuietTactic
import Derived.BigQuiet
import Derived.Deep.Draws
import Derived.StillTailTactics
import Derived.Test.YthpkeaafgabjiaaDoorZBase
import Derived.Deep.MidRow
/- Words of 32 bits in the model: what its operations on them give. No condition. -/
namespace Go.Proofs.YthpkeaafgabjiaaDoor
open Go.RowKit
namespace Hash

def wv (x : Nat) : Value := .int .u32 (x : Int)

theorem wrap32 (n : Nat) : IntKind.u32.wrap (n : Int) = ((n % 4294967296 : Nat) : Int) := by rw [IntKind.wrap_u32]; omega
theorem ofInt32 {a : Nat} (h : a < 4294967296) : (BitVec.ofInt 32 (a : Int)).toNat = a := by
  rw [BitVec.ofInt_natCast, BitVec.toNat_ofNat]; exact Nat.mod_eq_of_lt (by omega)
theorem xor32 {a b : Nat} (ha : a < 4294967296) (hb : b < 4294967296) : bits .xor .u32 (a : Int) (b : Int) = ((a ^^^ b : Nat) : Int) := by
  show IntKind.u32.wrap ((BitVec.ofInt 32 (a : Int) ^^^ BitVec.ofInt 32 (b : Int)).toNat : Int) = _
  rw [BitVec.toNat_xor, ofInt32 ha, ofInt32 hb, wrap32, Nat.mod_eq_of_lt (Nat.xor_lt_two_pow (n := 32) ha hb)]
theorem and32 {a b : Nat} (ha : a < 4294967296) (hb : b < 4294967296) : bits .and .u32 (a : Int) (b : Int) = ((a &&& b : Nat) : Int) := by
  show IntKind.u32.wrap ((BitVec.ofInt 32 (a : Int) &&& BitVec.ofInt 32 (b : Int)).toNat : Int) = _
  rw [BitVec.toNat_and, ofInt32 ha, ofInt32 hb, wrap32, Nat.mod_eq_of_lt (Nat.and_lt_two_pow (n := 32) _ hb)]
theorem or32 {a b : Nat} (ha : a < 4294967296) (hb : b < 4294967296) : bits .or .u32 (a : Int) (b : Int) = ((a ||| b : Nat) : Int) := by
  show IntKind.u32.wrap ((BitVec.ofInt 32 (a : Int) ||| BitVec.ofInt 32 (b : Int)).toNat : Int) = _
  rw [BitVec.toNat_or, ofInt32 ha, ofInt32 hb, wrap32, Nat.mod_eq_of_lt (Nat.or_lt_two_pow (n := 32) ha hb)]
theorem add32 (a b : Nat) : IntKind.u32.wrap ((a : Int) + (b : Int)) = ((add a b : Nat) : Int) := by
  rw [IntKind.wrap_u32]; unfold add; omega

theorem add_lt (a b : Nat) : add a b < 4294967296 := Nat.mod_lt _ (by omega)
theorem xor_lt {a b : Nat} (ha : a < 4294967296) (hb : b < 4294967296) : a ^^^ b < 4294967296 := Nat.xor_lt_two_pow (n := 32) ha hb
theorem and_lt {a b : Nat} (hb : b < 4294967296) : a &&& b < 4294967296 := Nat.and_lt_two_pow (n := 32) _ hb
theorem or_lt {a b : Nat} (ha : a < 4294967296) (hb : b < 4294967296) : a ||| b < 4294967296 := Nat.or_lt_two_pow (n := 32) ha hb
theorem div_lt {a : Nat} (k : Nat) (ha : a < 4294967296) : a / k < 4294967296 := Nat.lt_of_le_of_lt (Nat.div_le_self _ _) ha
theorem rotr_lt {x : Nat} (n : Nat) (h : x < 4294967296) : rotr x n < 4294967296 := or_lt (div_lt _ h) (Nat.mod_lt _ (by omega))

set_option maxRecDepth 100000 in
theorem left_any (x n : Nat) (w : World) (hx : x < 4294967296) (h1 : 1 ≤ n) (h2 : n ≤ 31) :
    Calls Tryd.prog 87 #[.int .u32 (x : Int), .int .i64 (-(n : Int))] w fun e w' => e = .returned (.int .u32 (rotr x n : Int)) ∧ w = w' := by
  have hs : bits .and .u64 (IntKind.u64.wrap (-(n : Int))) 31 = ((32 - n : Nat) : Int) := by
    have h : ∀ k : Fin 32, 1 ≤ k.val → bits .and .u64 (IntKind.u64.wrap (-((k.val : Nat) : Int))) 31 = ((32 - k.val : Nat) : Int) := by decide +kernel
    exact h ⟨n, by omega⟩ h1
  go_enter Tryd.func87, Tryd.ntmps87
  go_wp2
  go_ret
  refine ⟨congrArg Ending.returned (congrArg (Value.int .u32) ?_), rfl⟩
  have e1 : ((x : Int) * 2 ^ (32 - n) % 4294967296) = ((x * 2 ^ (32 - n) % 4294967296 : Nat) : Int) := by simp
  have e2 : ((x : Int) / 2 ^ (32 - (32 - n))) = ((x / 2 ^ n : Nat) : Int) := by rw [show 32 - (32 - n) = n by omega]; simp
  rw [e1, e2, or32 (Nat.mod_lt _ (by omega)) (div_lt _ hx), Nat.or_comm]
  rfl

theorem rotr_any (x n : Nat) (w : World) (hx : x < 4294967296) (h1 : 1 ≤ n) (h2 : n ≤ 31) :
    Calls Tryd.prog 86 #[.int .u32 (x : Int), .int .i64 (n : Int)] w fun e w' => e = .returned (.int .u32 (rotr x n : Int)) ∧ w = w' := by
  go_enter Tryd.func86, Tryd.ntmps86
  go_wp2_with (go_at_call 87; refine (left_any x n _ hx h1 h2).mono ?_; rintro e w' ⟨rfl, rfl⟩)
  go_ret
  exact ⟨rfl, rfl⟩

/-- A number is returned; the memory is as it was. -/
def Gives (x : Nat) (w : World) (e : Ending) (w' : World) : Prop := e = .returned (.int .u32 (x : Int)) ∧ ∃ k, w' = w.drewN k

theorem refRotr_any (x n : Nat) (w : World) (hx : x < 4294967296) (h1 : 1 ≤ n) (h2 : n ≤ 31) :
    Calls Tryd.prog 80 #[.int .u32 (x : Int), .int .i64 (n : Int)] w (Gives (rotr x n) w) := by
  have hn : n ≤ 32 := by omega
  have s1 : IntKind.i64.wrap (32 - (n : Int)) = ((32 - n : Nat) : Int) := by rw [IntWalk.i64_in _ (by omega)]; omega
  have s2 : (0 : Int) ≤ (n : Int) := by omega
  have s3 : (0 : Int) ≤ ((32 - n : Nat) : Int) := by omega
  go_enter Tryd.func80, Tryd.ntmps80
  go_wp2
  go_quiet (fail)
  go_wp2
  go_ret
  have e1 : ((x : Int) * 2 ^ (32 - n) % 4294967296) = ((x * 2 ^ (32 - n) % 4294967296 : Nat) : Int) := by simp
  have e2 : ((x : Int) / 2 ^ n) = ((x / 2 ^ n : Nat) : Int) := by simp
  refine ⟨congrArg Ending.returned (congrArg (Value.int .u32) ?_), _, rfl⟩
  rw [e1, e2, or32 (div_lt _ hx) (Nat.mod_lt _ (by omega))]
  rfl

end Hash
end Go.Proofs.YthpkeaafgabjiaaDoor

/- Arrays in memory read as lists. No condition. -/
namespace Go.Proofs.YthpkeaafgabjiaaDoor
open Go.RowKit
namespace Hash

theorem at_slot {P : Program} {ops : Array Oper} {rest : List Oper} {o : Oper} {a : Act} {w : World} {Q : Exit → Act → World → Prop} (k : Tmp) (_hd : o.dst = some k) (h : wpList P ops Q (o :: rest) a w) : wpList P ops Q (o :: rest) a w := h
theorem at_store {P : Program} {ops : Array Oper} {rest : List Oper} {o : Oper} {a : Act} {w : World} {Q : Exit → Act → World → Prop} (t : TypeId) (x y : Operand) (_ho : o.op = .store t x y) (h : wpList P ops Q (o :: rest) a w) : wpList P ops Q (o :: rest) a w := h

/-- An array that lies in block g from its head on. -/
structure Arr (w : World) (g n : Nat) (xs : List Value) : Prop where
  len : xs.length = n
  cells : ∀ (j : Nat) (u : Value), xs[j]? = some u → w.cell? ⟨g, j, none⟩ = some u
  free : ∀ j, j < n → w.frozen? ⟨g, j, none⟩ = false

theorem Arr.size {w : World} {g n : Nat} {xs : List Value} (h : Arr w g n xs) (hn : 0 < n) : g < w.heap.size := by
  have hl := h.len
  exact World.block_lt_of_cell? w _ (h.cells 0 (xs[0]'(by omega)) (List.getElem?_eq_getElem _))
theorem arr_new (w : World) (cs : Array Value) (t : TypeId) : Arr (w.alloc (.cells cs t)) w.heap.size cs.size cs.toList := by
  refine ⟨by simp, fun j u hu => ?_, fun j _ => frozen_of_row (w.alloc (.cells cs t)) w.heap.size j cs t (heap_alloc_new w _)⟩
  rw [cell_of_row (w.alloc (.cells cs t)) w.heap.size j cs t (0, 0) (heap_alloc_new w _)]
  simpa using hu
theorem Arr.keep {w w' : World} {g n : Nat} {xs : List Value} (h : Arr w g n xs) (hc : ∀ j, w'.cell? ⟨g, j, none⟩ = w.cell? ⟨g, j, none⟩) (hf : ∀ j, w'.frozen? ⟨g, j, none⟩ = w.frozen? ⟨g, j, none⟩) : Arr w' g n xs :=
  ⟨h.len, fun j u hu => (hc j).trans (h.cells j u hu), fun j hj => (hf j).trans (h.free j hj)⟩
theorem Arr.below {w w' : World} {B g n : Nat} {xs : List Value} (h : Arr w g n xs) (hb : Below B w w') (hg : g < B) : Arr w' g n xs :=
  h.keep (fun j => hb.cell (p := ⟨g, j, none⟩) hg) (fun j => hb.frozen (p := ⟨g, j, none⟩) hg)
theorem Arr.alloc {w : World} {g n : Nat} {xs : List Value} (h : Arr w g n xs) (hg : g < w.heap.size) (o : Obj) : Arr (w.alloc o) g n xs :=
  h.below ((Below.refl w.heap.size w).alloc (Nat.le_refl _) o) hg
theorem Arr.other {w : World} {g n k i : Nat} {xs : List Value} (h : Arr w g n xs) (hk : g ≠ k) (v : Value) : Arr (w.setCell ⟨k, i, none⟩ v) g n xs :=
  h.keep (fun j => World.cell?_setCell_other _ _ _ _ (by intro e; cases e; exact hk rfl)) (fun j => World.frozen?_setCell _ _ _ _)
theorem Arr.drew {w : World} {g n : Nat} {xs : List Value} (h : Arr w g n xs) (k : Nat) : Arr (w.drewN k) g n xs := h.keep (fun _ => rfl) (fun _ => rfl)
theorem Arr.set {w : World} {g n i : Nat} {xs : List Value} (h : Arr w g n xs) (hi : i < n) (v : Value) : Arr (w.setCell ⟨g, i, none⟩ v) g n (xs.set i v) := by
  refine ⟨by rw [List.length_set]; exact h.len, fun j u hu => ?_, fun j hj => (World.frozen?_setCell _ _ _ _).trans (h.free j hj)⟩
  rw [List.getElem?_set] at hu
  have hl := h.len
  split at hu
  · rename_i e
    subst e
    rw [if_pos (by omega)] at hu
    cases hu
    exact World.cell?_setCell_same _ _ _ (h.cells i _ (List.getElem?_eq_getElem (by omega)))
  · rename_i e
    rw [World.cell?_setCell_other _ _ _ _ (by intro e2; cases e2; exact e rfl)]
    exact h.cells j u hu
theorem Arr.at_ {w : World} {g n i : Nat} {xs : List Value} (h : Arr w g n xs) {u : Value} (hu : xs[i]? = some u) : w.cell? ⟨g, i, none⟩ = some u ∧ w.frozen? ⟨g, i, none⟩ = false :=
  ⟨h.cells i u hu, h.free i (by have := h.len; have := (List.getElem?_eq_some_iff.1 hu).1; omega)⟩
theorem Arr.range {w : World} {g n : Nat} {xs : List Value} (h : Arr w g n xs) : w.rangeAt g 0 xs := fun j u hu => by rw [Nat.zero_add]; exact h.cells j u hu
theorem Arr.there {w : World} {g n : Nat} {xs : List Value} (h : Arr w g n xs) : w.there g 0 n := fun j hj => by
  rw [Nat.zero_add]
  exact ⟨by rw [h.cells j _ (List.getElem?_eq_getElem (by rw [h.len]; exact hj))]; rfl, h.free j hj⟩

/-- An array of words is returned; the memory that was there is as it was. -/
def GivesA (xs : List Value) (w : World) (e : Ending) (w' : World) : Prop := e = .returned (.agg xs.toArray) ∧ Below w.heap.size w w'

theorem below_cells {B g : Nat} (hg : B ≤ g) : ∀ (vs : List Value) (o : Nat) (w : World), Below B w (w.setCells g o vs)
  | [], _, w => Below.refl B w
  | v :: r, o, w => ((Below.refl B w).setCell (p := ⟨g, o, none⟩) hg v).trans (below_cells hg r (o + 1) _)
theorem words_one (l : List Nat) : ((l.map wv).toArray).all (·.oneCell') = true := all_oneCell_toArray (by
  intro v hv
  obtain ⟨c, _, rfl⟩ := List.mem_map.1 hv
  rfl)
theorem bytes_all (l : List UInt8) : ((l.map Wire.bv).toArray).all (·.oneCell') = true := all_oneCell_toArray (by
  intro v hv
  obtain ⟨c, _, rfl⟩ := List.mem_map.1 hv
  rfl)
/-- An array that was stored over another one. -/
theorem Arr.over {w : World} {g n : Nat} {xs ys : List Value} (h : Arr w g n xs) (hy : ys.length = n) : Arr (w.setCells g 0 ys) g n ys := by
  have ht := h.there
  have hr := World.rangeAt_setCells_same w g 0 ys (by rw [hy]; exact ht)
  refine ⟨hy, fun j u hu => ?_, fun j hj => (World.frozen?_setCells _ _ _ _ _).trans (h.free j hj)⟩
  have := hr j u hu
  rwa [Nat.zero_add] at this
theorem Arr.aside {w : World} {g k n : Nat} {xs ys : List Value} (h : Arr w g n xs) (hk : g ≠ k) (o : Nat) : Arr (w.setCells k o ys) g n xs :=
  h.keep (fun _ => World.cell?_setCells_out k ys o w _ (fun e => absurd e hk)) (fun _ => World.frozen?_setCells _ _ _ _ _)

end Hash
end Go.Proofs.YthpkeaafgabjiaaDoor

/- What a block contributes to the rounds: the words, of the package and of the reference. -/
namespace Go.Proofs.YthpkeaafgabjiaaDoor
open Go.RowKit
namespace Hash

def zw (k : Nat) : List Value := List.replicate k (wv 0)
/-- The words so far lie in the third new block; the block in the first. -/
structure ExpW (w wr : World) (b : List UInt8) (r : List Nat) : Prop where
  blk : Arr wr w.heap.size 64 (b.map Wire.bv)
  res : Arr wr (w.heap.size + 1) 64 (zw 64)
  wds : Arr wr (w.heap.size + 1 + 1) 64 (r.reverse.map wv ++ zw (64 - r.length))
  below : Below w.heap.size w wr
  most : r.length ≤ 64

theorem word_of {b : List UInt8} {k : Nat} {x0 x1 x2 x3 : UInt8} (h0 : b[4 * k]? = some x0) (h1 : b[4 * k + 1]? = some x1) (h2 : b[4 * k + 2]? = some x2) (h3 : b[4 * k + 3]? = some x3) :
    word b k = ((x0.toNat * 16777216 ||| x1.toNat * 65536) ||| x2.toNat * 256) ||| x3.toNat := by
  simp only [word, List.getD_eq_getElem?_getD, h0, h1, h2, h3, Option.getD_some]
theorem word_steps {b : List UInt8} {k : Nat} {x0 x1 x2 x3 : UInt8} (h : word b k = ((x0.toNat * 16777216 ||| x1.toNat * 65536) ||| x2.toNat * 256) ||| x3.toNat) :
    ∃ m0 m1 m2 n1 n2 : Nat, IntKind.u32.wrap ((x0.toNat : Int) * 16777216) = (m0 : Int) ∧ IntKind.u32.wrap ((x1.toNat : Int) * 65536) = (m1 : Int) ∧ IntKind.u32.wrap ((x2.toNat : Int) * 256) = (m2 : Int) ∧
      bits .or .u32 (m0 : Int) (m1 : Int) = (n1 : Int) ∧ bits .or .u32 (n1 : Int) (m2 : Int) = (n2 : Int) ∧ bits .or .u32 (n2 : Int) (x3.toNat : Int) = (word b k : Int) ∧ word b k < 4294967296 := by
  have g0 := x0.toNat_lt
  have g1 := x1.toNat_lt
  have g2 := x2.toNat_lt
  have g3 := x3.toNat_lt
  have l1 : x0.toNat * 16777216 ||| x1.toNat * 65536 < 4294967296 := or_lt (by omega) (by omega)
  have l2 : (x0.toNat * 16777216 ||| x1.toNat * 65536) ||| x2.toNat * 256 < 4294967296 := or_lt l1 (by omega)
  have l3 : ((x0.toNat * 16777216 ||| x1.toNat * 65536) ||| x2.toNat * 256) ||| x3.toNat < 4294967296 := or_lt l2 (by omega)
  refine ⟨x0.toNat * 16777216, x1.toNat * 65536, x2.toNat * 256, _, _, ?_, ?_, ?_, or32 (by omega) (by omega), or32 l1 (by omega), ?_, by rw [h]; exact l3⟩
  · rw [IntKind.wrap_u32]; omega
  · rw [IntKind.wrap_u32]; omega
  · rw [IntKind.wrap_u32]; omega
  · rw [h]; exact or32 l2 (by omega)
theorem wrap_u8 (x : UInt8) : IntKind.u32.wrap (x.toNat : Int) = (x.toNat : Int) := by
  have := x.toNat_lt
  rw [IntKind.wrap_u32]; omega

theorem arr_end {w wr : World} {g : Nat} {xs : List Value} (ty : TypeId) {d : TypeDesc} (hb : Below w.heap.size w wr) (hg : w.heap.size ≤ g) (ht : wr.there g 0 xs.length) (hu : Tryd.prog.underlying ty = some d) (hd : d.isRow = true)
    (hi : (Tryd.prog.info? ty).map (·.size) = some xs.length) : (loadVar ty ⟨g, 0, none⟩).run Tryd.prog (wr.setCells g 0 xs) = .ok (.agg xs.toArray) (wr.setCells g 0 xs) ∧ Below w.heap.size w (wr.setCells g 0 xs) :=
  ⟨run_loadVar_mid _ _ _ _ _ d (World.rangeAt_setCells_same wr g 0 xs ht) hu hd hi, hb.trans (below_cells hg xs 0 wr)⟩
theorem firsts_length (b : List UInt8) : ∀ k, (firsts b k).length = k
  | 0 => rfl
  | k + 1 => by simp [firsts, firsts_length b k]
theorem wds_at {r : List Nat} {k : Nat} (hl : r.length = k) (hk : k < 64) : (r.reverse.map wv ++ zw (64 - r.length))[k]? = some (wv 0) := by
  rw [List.getElem?_append_right (by simp; omega)]
  obtain ⟨d, hd⟩ : ∃ d, 64 - r.length = d + 1 := ⟨63 - r.length, by omega⟩
  rw [hd]
  simp [zw, hl, List.replicate_succ]
theorem wds_put {r : List Nat} {k : Nat} (hl : r.length = k) (hk : k < 64) (y : Nat) : (r.reverse.map wv ++ zw (64 - r.length)).set k (wv y) = (y :: r).reverse.map wv ++ zw (64 - (y :: r).length) := by
  rw [List.set_append_right _ _ (by simp; omega)]
  obtain ⟨d, hd⟩ : ∃ d, 64 - r.length = d + 1 := ⟨63 - r.length, by omega⟩
  have e : 64 - (y :: r).length = d := by simp; omega
  rw [hd, e]
  simp [zw, hl, List.replicate_succ]
theorem ExpW.drew {w wr : World} {b : List UInt8} {r : List Nat} (h : ExpW w wr b r) : ExpW w wr.drew b r :=
  ⟨h.blk.drew 1, h.res.drew 1, h.wds.drew 1, h.below.drew, h.most⟩
theorem ExpW.drewN {w wr : World} {b : List UInt8} {r : List Nat} (h : ExpW w wr b r) (k : Nat) : ExpW w (wr.drewN k) b r :=
  ⟨h.blk.drew k, h.res.drew k, h.wds.drew k, ⟨h.below.os, h.below.tape, h.below.output, h.below.size, h.below.block⟩, h.most⟩
theorem ExpW.put {w wr : World} {b : List UInt8} {r : List Nat} {k : Nat} (h : ExpW w wr b r) (hl : r.length = k) (hk : k < 64) (y : Nat) : ExpW w (wr.setCell ⟨w.heap.size + 1 + 1, k, none⟩ (wv y)) b (y :: r) := by
  have hw := h.wds.set (i := k) hk (wv y)
  rw [wds_put hl hk y] at hw
  exact ⟨h.blk.other (by omega) _, h.res.other (by omega) _, hw, h.below.setCell (by simp; omega) _, by simp; omega⟩

theorem exp_start (w : World) (b : List UInt8) (hb : b.length = 64) (c1 c2 : Array Value) (h1 : c1.toList = zw 64) (h2 : c2.toList = zw 64) (t1 t2 t3 : TypeId) :
    ExpW w (((w.alloc (.cells (b.map Wire.bv).toArray t1)).alloc (.cells c1 t2)).alloc (.cells c2 t3)) b [] := by
  have s1 : c1.size = 64 := by rw [← Array.length_toList, h1]; rfl
  have s2 : c2.size = 64 := by rw [← Array.length_toList, h2]; rfl
  refine ⟨?_, ?_, ?_, (((Below.refl _ _).alloc (Nat.le_refl _) _).alloc (by simp) _).alloc (by simp; omega) _, by simp⟩
  · have h := ((arr_new w (b.map Wire.bv).toArray t1).alloc (by simp) (.cells c1 t2)).alloc (by simp; omega) (.cells c2 t3)
    simpa [hb] using h
  · have h := (arr_new (w.alloc (.cells (b.map Wire.bv).toArray t1)) c1 t2).alloc (by simp) (.cells c2 t3)
    rw [s1, h1] at h
    simpa using h
  · have h := arr_new ((w.alloc (.cells (b.map Wire.bv).toArray t1)).alloc (.cells c1 t2)) c2 t3
    rw [s2, h2] at h
    simpa using h
theorem firsts_lt (b : List UInt8) : ∀ k, ∀ x ∈ firsts b k, x < 4294967296
  | 0 => by simp [firsts]
  | k + 1 => by
    intro x hx
    rcases List.mem_cons.1 hx with rfl | hx
    · have g0 := (b.getD (4 * k) 0).toNat_lt
      have g1 := (b.getD (4 * k + 1) 0).toNat_lt
      have g2 := (b.getD (4 * k + 2) 0).toNat_lt
      have g3 := (b.getD (4 * k + 3) 0).toNat_lt
      exact or_lt (or_lt (or_lt (by omega) (by omega)) (by omega)) (by omega)
    · exact firsts_lt b k x hx
theorem sch_lt (b : List UInt8) : ∀ k, ∀ x ∈ sch b k, x < 4294967296
  | 0 => firsts_lt b 16
  | k + 1 => by
    intro x hx
    rcases List.mem_cons.1 hx with rfl | hx
    · exact add_lt _ _
    · exact sch_lt b k x hx
theorem sch_length (b : List UInt8) : ∀ k, (sch b k).length = 16 + k
  | 0 => firsts_length b 16
  | k + 1 => by simp [sch, sch_length b k]; omega
theorem word_at {w wr : World} {b : List UInt8} {r : List Nat} {t i j : Nat} (h : ExpW w wr b r) (hl : r.length = t) (hb : ∀ x ∈ r, x < 4294967296) (hij : i + j + 1 = t) :
    ∃ x, r.getD j 0 = x ∧ wr.cell? ⟨w.heap.size + 1 + 1, i, none⟩ = some (wv x) ∧ x < 4294967296 := by
  have hj : j < r.length := by omega
  refine ⟨r[j], by rw [List.getD_eq_getElem?_getD, List.getElem?_eq_getElem hj]; rfl, (h.wds.at_ (i := i) ?_).1, hb _ (List.getElem_mem hj)⟩
  rw [List.getElem?_append_left (by simp; omega), List.getElem?_map, List.getElem?_reverse (by omega), show r.length - 1 - i = j by omega, List.getElem?_eq_getElem hj]
  rfl
theorem nxt_of {r : List Nat} {u x v z : Nat} (h15 : r.getD 15 0 = u) (h14 : r.getD 14 0 = x) (h6 : r.getD 6 0 = v) (h1 : r.getD 1 0 = z) : nxt r = add (add (add u (sm0 x)) v) (sm1 z) := by
  unfold nxt; rw [h15, h14, h6, h1]
theorem nxt_steps (u x v z : Nat) (_lu : u < 4294967296) (lx : x < 4294967296) (_lv : v < 4294967296) (lz : z < 4294967296) :
    ∃ p7 p18 s1 d1 s2 a1 a2 p17 p19 s3 d2 s4 y : Nat,
      (∀ W, Calls Tryd.prog 86 #[.int .u32 (x : Int), .int .i64 7] W fun e w' => e = .returned (.int .u32 (p7 : Int)) ∧ w' = W) ∧
      (∀ W, Calls Tryd.prog 86 #[.int .u32 (x : Int), .int .i64 18] W fun e w' => e = .returned (.int .u32 (p18 : Int)) ∧ w' = W) ∧
      (∀ W, Calls Tryd.prog 86 #[.int .u32 (z : Int), .int .i64 17] W fun e w' => e = .returned (.int .u32 (p17 : Int)) ∧ w' = W) ∧
      (∀ W, Calls Tryd.prog 86 #[.int .u32 (z : Int), .int .i64 19] W fun e w' => e = .returned (.int .u32 (p19 : Int)) ∧ w' = W) ∧
      bits .xor .u32 (p7 : Int) (p18 : Int) = (s1 : Int) ∧ (x : Int) / 8 = (d1 : Int) ∧ bits .xor .u32 (s1 : Int) (d1 : Int) = (s2 : Int) ∧ IntKind.u32.wrap ((u : Int) + (s2 : Int)) = (a1 : Int) ∧ IntKind.u32.wrap ((a1 : Int) + (v : Int)) = (a2 : Int) ∧
      bits .xor .u32 (p17 : Int) (p19 : Int) = (s3 : Int) ∧ (z : Int) / 1024 = (d2 : Int) ∧ bits .xor .u32 (s3 : Int) (d2 : Int) = (s4 : Int) ∧ IntKind.u32.wrap ((a2 : Int) + (s4 : Int)) = (y : Int) ∧ y = add (add (add u (sm0 x)) v) (sm1 z) ∧ y < 4294967296 :=
  ⟨rotr x 7, rotr x 18, _, x / 8, _, _, _, rotr z 17, rotr z 19, _, z / 1024, _, _,
    fun W => (rotr_any x 7 W lx (by omega) (by omega)).mono fun _ _ ⟨h1, h2⟩ => ⟨h1, h2.symm⟩, fun W => (rotr_any x 18 W lx (by omega) (by omega)).mono fun _ _ ⟨h1, h2⟩ => ⟨h1, h2.symm⟩,
    fun W => (rotr_any z 17 W lz (by omega) (by omega)).mono fun _ _ ⟨h1, h2⟩ => ⟨h1, h2.symm⟩, fun W => (rotr_any z 19 W lz (by omega) (by omega)).mono fun _ _ ⟨h1, h2⟩ => ⟨h1, h2.symm⟩,
    xor32 (rotr_lt 7 lx) (rotr_lt 18 lx), rfl, xor32 (xor_lt (rotr_lt 7 lx) (rotr_lt 18 lx)) (div_lt 8 lx), add32 _ _, add32 _ _,
    xor32 (rotr_lt 17 lz) (rotr_lt 19 lz), rfl, xor32 (xor_lt (rotr_lt 17 lz) (rotr_lt 19 lz)) (div_lt 1024 lz), add32 _ _, rfl, add_lt _ _⟩

set_option maxRecDepth 100000 in
set_option maxHeartbeats 1000000 in
theorem expand_any (b : List UInt8) (w : World) (hb : b.length = 64) :
    Calls Tryd.prog 85 #[.agg (b.map Wire.bv).toArray] w (GivesA ((ws b).map wv) w) := by
  have HB := Lib.hid hb; clear hb
  go_enter Tryd.func85, Tryd.ntmps85
  go_wp2
  go_loopw [8] (fun iv wr => ∃ (k : Nat), k ≤ 16 ∧ iv = .int .i64 (k : Int) ∧ ExpW w wr b (firsts b k)) (fun iv _ => (16 - intOf iv).toNat)
  case atStart =>
    exact ⟨0, by omega, rfl, exp_start w b HB.out _ _ rfl rfl _ _ _⟩
  case round =>
    obtain ⟨k, hk, rfl, hr⟩ := hrel
    by_cases hlt : k < 16
    · obtain ⟨x0, h0⟩ : ∃ x, b[4 * k]? = some x := ⟨_, List.getElem?_eq_getElem (by have := HB.out; omega)⟩
      obtain ⟨x1, h1⟩ : ∃ x, b[4 * k + 1]? = some x := ⟨_, List.getElem?_eq_getElem (by have := HB.out; omega)⟩
      obtain ⟨x2, h2⟩ : ∃ x, b[4 * k + 2]? = some x := ⟨_, List.getElem?_eq_getElem (by have := HB.out; omega)⟩
      obtain ⟨x3, h3⟩ : ∃ x, b[4 * k + 3]? = some x := ⟨_, List.getElem?_eq_getElem (by have := HB.out; omega)⟩
      have hword := word_of h0 h1 h2 h3
      have c0 := (hr.blk.at_ (i := 4 * k) (u := Wire.bv x0) (by rw [List.getElem?_map, h0]; rfl)).1
      have c1 := (hr.blk.at_ (i := 4 * k + 1) (u := Wire.bv x1) (by rw [List.getElem?_map, h1]; rfl)).1
      have c2 := (hr.blk.at_ (i := 4 * k + 2) (u := Wire.bv x2) (by rw [List.getElem?_map, h2]; rfl)).1
      have c3 := (hr.blk.at_ (i := 4 * k + 3) (u := Wire.bv x3) (by rw [List.getElem?_map, h3]; rfl)).1
      clear h0 h1 h2 h3
      have e0 : IntKind.i64.wrap (4 * (k : Int)) = ((4 * k : Nat) : Int) := by rw [IntWalk.i64_in _ (by omega)]; omega
      have e1 : IntKind.i64.wrap (((4 * k : Nat) : Int) + 1) = ((4 * k + 1 : Nat) : Int) := by rw [IntWalk.i64_in _ (by omega)]; omega
      have e2 : IntKind.i64.wrap (((4 * k : Nat) : Int) + 2) = ((4 * k + 2 : Nat) : Int) := by rw [IntWalk.i64_in _ (by omega)]; omega
      have e3 : IntKind.i64.wrap (((4 * k : Nat) : Int) + 3) = ((4 * k + 3 : Nat) : Int) := by rw [IntWalk.i64_in _ (by omega)]; omega
      obtain ⟨m0, m1, m2, n1, n2, v0, v1, v2, o1, o2, o3, hy⟩ := word_steps hword
      obtain ⟨y, hyw⟩ : ∃ y, y = word b k := ⟨_, rfl⟩
      rw [← hyw] at o3 hy
      have HW := Lib.hid hyw; clear hyw hword
      obtain ⟨p1, hp1⟩ : ∃ p, p = 4 * k + 1 := ⟨_, rfl⟩
      obtain ⟨p2, hp2⟩ : ∃ p, p = 4 * k + 2 := ⟨_, rfl⟩
      obtain ⟨p3, hp3⟩ : ∃ p, p = 4 * k + 3 := ⟨_, rfl⟩
      obtain ⟨p0, hp0⟩ : ∃ p, p = 4 * k := ⟨_, rfl⟩
      rw [← hp1] at c1 e1
      rw [← hp2] at c2 e2
      rw [← hp3] at c3 e3
      rw [← hp0] at c0 e0 e1 e2 e3
      have z0 : (0 : Int) ≤ (p0 : Int) := by omega
      have z1 : (p0 : Int) < 64 := by omega
      have z2 : (0 : Int) ≤ (p1 : Int) := by omega
      have z3 : (p1 : Int) < 64 := by omega
      have z4 : (0 : Int) ≤ (p2 : Int) := by omega
      have z5 : (p2 : Int) < 64 := by omega
      have z6 : (0 : Int) ≤ (p3 : Int) := by omega
      have z7 : (p3 : Int) < 64 := by omega
      have z8 : (0 : Int) ≤ (k : Int) := by omega
      have z9 : (k : Int) < 64 := by omega
      have w0 := wrap_u8 x0
      have w1 := wrap_u8 x1
      have w2 := wrap_u8 x2
      have w3 := wrap_u8 x3
      clear hp0 hp1 hp2 hp3
      unfold Wire.bv at c0 c1 c2 c3
      have hr2 := hr.drew
      have hfin : ∀ w2, ExpW w w2 b (firsts b k) → ExpW w (w2.setCell ⟨w.heap.size + 1 + 1, k, none⟩ (.int .u32 (y : Int))) b (firsts b (k + 1)) := fun w2 h2 => by
        rw [show firsts b (k + 1) = y :: firsts b k by rw [HW.out]; rfl]
        exact h2.put (firsts_length b k) (by omega) y
      have HF := Lib.hid hfin; clear hfin
      go_wp2
      go_still_tail 31, (by kernel_rfl)
      change wpList _ _ _ _ _ wr.drew
      revert hr2
      generalize wr.drew = w2
      intro hr2
      obtain ⟨q1, q2⟩ := hr2.wds.at_ (i := k) (u := wv 0) (wds_at (firsts_length b k) (by omega))
      clear c0 c1 c2 c3 hr
      unfold wv at q1
      go_wp2
      go_roundw
      case rel => exact ⟨k + 1, by omega, by go_num, HF.out _ hr2⟩
      case measure => simp [intOf]; omega
    · have hk16 : k = 16 := by omega
      have hr0 : ExpW w wr b (sch b 0) := by rw [hk16] at hr; exact hr
      have z16 : ¬ (k : Int) < 16 := by omega
      clear hr hk16 hlt hk
      go_wp2
      go_loopw [5] (fun iv wq => ∃ (j : Nat), j ≤ 48 ∧ iv = .int .i64 (((16 + j : Nat) : Nat) : Int) ∧ ExpW w wq b (sch b j)) (fun iv _ => (64 - intOf iv).toNat)
      case atStart => exact ⟨0, by omega, rfl, hr0⟩
      case round =>
        obtain ⟨j, hj, rfl, hq⟩ := hrel
        clear hr0
        obtain ⟨t, ht⟩ : ∃ t, t = 16 + j := ⟨_, rfl⟩
        rw [← ht]
        have HT := Lib.hid ht
        by_cases hjt : j < 48
        · have ht1 : 16 ≤ t := by omega
          have ht2 : t < 64 := by omega
          clear ht
          obtain ⟨r, hrs⟩ : ∃ r, r = sch b j := ⟨_, rfl⟩
          have hrl : r.length = t := by rw [hrs, sch_length, HT.out]
          have hrb : ∀ x ∈ r, x < 4294967296 := by rw [hrs]; exact sch_lt b j
          have hsn : sch b (j + 1) = nxt r :: r := by rw [hrs]; rfl
          rw [← hrs] at hq
          obtain ⟨x, g14, c14, l14⟩ := word_at hq hrl hrb (i := t - 15) (j := 14) (by omega)
          obtain ⟨z, g1, c1, l1⟩ := word_at hq hrl hrb (i := t - 2) (j := 1) (by omega)
          obtain ⟨u, g15, c15, l15⟩ := word_at hq hrl hrb (i := t - 16) (j := 15) (by omega)
          obtain ⟨v, g6, c6, l6⟩ := word_at hq hrl hrb (i := t - 7) (j := 6) (by omega)
          have hnx := nxt_of g15 g14 g6 g1
          obtain ⟨p7, p18, s1, d1, s2, a1, a2, p17, p19, s3, d2, s4, y, cc7, cc18, cc17, cc19, e1, e2, e3, e4, e5, e6, e7, e8, e9, hy, hyl⟩ := nxt_steps u x v z l15 l14 l6 l1
          have HN := Lib.hid (hy.trans hnx.symm)
          have HS := Lib.hid hsn
          have HR := Lib.hid hrl
          have f0 : IntKind.i64.wrap ((t : Int) - 15) = ((t - 15 : Nat) : Int) := by rw [IntWalk.i64_in _ (by omega)]; omega
          have f1 : IntKind.i64.wrap ((t : Int) - 2) = ((t - 2 : Nat) : Int) := by rw [IntWalk.i64_in _ (by omega)]; omega
          have f2 : IntKind.i64.wrap ((t : Int) - 16) = ((t - 16 : Nat) : Int) := by rw [IntWalk.i64_in _ (by omega)]; omega
          have f3 : IntKind.i64.wrap ((t : Int) - 7) = ((t - 7 : Nat) : Int) := by rw [IntWalk.i64_in _ (by omega)]; omega
          obtain ⟨t15, h15⟩ : ∃ p, p = t - 15 := ⟨_, rfl⟩
          obtain ⟨t2, h2⟩ : ∃ p, p = t - 2 := ⟨_, rfl⟩
          obtain ⟨t16, h16⟩ : ∃ p, p = t - 16 := ⟨_, rfl⟩
          obtain ⟨t7, h7⟩ : ∃ p, p = t - 7 := ⟨_, rfl⟩
          rw [← h15] at f0 c14
          rw [← h2] at f1 c1
          rw [← h16] at f2 c15
          rw [← h7] at f3 c6
          have z0 : (0 : Int) ≤ (t15 : Int) := by omega
          have z1 : (t15 : Int) < 64 := by omega
          have z2 : (0 : Int) ≤ (t2 : Int) := by omega
          have z3 : (t2 : Int) < 64 := by omega
          have z4 : (0 : Int) ≤ (t16 : Int) := by omega
          have z5 : (t16 : Int) < 64 := by omega
          have z6 : (0 : Int) ≤ (t7 : Int) := by omega
          have z7 : (t7 : Int) < 64 := by omega
          have z8 : (0 : Int) ≤ (t : Int) := by omega
          have z9 : (t : Int) < 64 := by omega
          clear h15 h2 h16 h7 hy hnx hsn hrl hrb hrs g15 g14 g6 g1
          unfold wv at c14 c1 c15 c6
          go_wp2
          go_quiet (fail)
          go_wp2
          have hq2 := hq.drewN nq
          have d15 : (wr.drewN nq).cell? ⟨w.heap.size + 1 + 1, t16, none⟩ = some (.int .u32 (u : Int)) := c15
          have d6 : (wr.drewN nq).cell? ⟨w.heap.size + 1 + 1, t7, none⟩ = some (.int .u32 (v : Int)) := c6
          clear c14 c1 c15 c6 hq
          revert hq2 d15 d6
          generalize wr.drewN nq = w3
          intro hq2 d15 d6
          replace hq2 := hq2.drew
          refine wp_region_still_tail 29 (by kernel_rfl) (by kernel_rfl) ?_
          simp only [List.take_succ_cons, List.take_zero, List.drop_succ_cons, List.drop_zero]
          repeat (first
            | still_step
            | (refine wpStill_step (fun K hK => ?_); go_simp; (first | (with_reducible refine ⟨_, cc7 _, hK _ ?_⟩) | (with_reducible refine ⟨_, cc18 _, hK _ ?_⟩) | (with_reducible refine ⟨_, cc17 _, hK _ ?_⟩) | (with_reducible refine ⟨_, cc19 _, hK _ ?_⟩)); clear hK K))
          refine wpStill_nil ?_
          change wpList _ _ _ _ _ w3.drew
          clear d15 d6
          revert hq2
          generalize w3.drew = w2
          intro hq2
          obtain ⟨q1, q2⟩ := hq2.wds.at_ (i := t) (u := wv 0) (wds_at HR.out (by omega))
          unfold wv at q1
          have hfin : ExpW w (w2.setCell ⟨w.heap.size + 1 + 1, t, none⟩ (.int .u32 (y : Int))) b (sch b (j + 1)) := by
            rw [HS.out, ← HN.out]
            exact hq2.put HR.out (by omega) y
          have HF := Lib.hid hfin; clear hfin
          go_wp2
          go_roundw
          case rel => exact ⟨j + 1, by omega, congrArg (Value.int .i64) (by have := HT.out; omega), HF.out⟩
          case measure => simp [intOf]; omega
        · obtain rfl : j = 48 := by omega
          obtain rfl : t = 64 := HT.out
          have hrg : wr.rangeAt (w.heap.size + 1 + 1) 0 ((ws b).map wv) := by
            have h := hq.wds.range
            rwa [show 64 - (sch b 48).length = 0 by rw [sch_length], show zw 0 = [] from rfl, List.append_nil] at h
          have hth : wr.there (w.heap.size + 1) 0 64 := hq.res.there
          have hsz : ((ws b).map wv).length = 64 := by simp [ws, sch_length]
          have hv : Tryd.prog.underlying 113 = some (.array 64 95) := by kernel_rfl
          have hi : (Tryd.prog.info? 113).map (·.size) = some ((ws b).map wv).length := by rw [hsz]; kernel_rfl
          have hi2 : (Tryd.prog.info? 113).map (·.size) = some ((ws b).map wv).toArray.size := by rw [List.size_toArray]; exact hi
          have hsz2 : ((ws b).map wv).toArray.size = 64 := by simp [ws, sch_length]
          have hth2 : wr.there (w.heap.size + 1) 0 ((ws b).map wv).toArray.size := by rw [hsz2]; exact hth
          have hend := arr_end (w := w) (wr := wr) (g := w.heap.size + 1) (xs := (ws b).map wv) 113 hq.below (by omega) (by rw [hsz]; exact hth) hv rfl hi
          have HG := Lib.hid hrg
          have HTH := Lib.hid hth2
          have HE := Lib.hid hend
          have HV := Lib.hid hv
          have HI := Lib.hid hi
          have HI2 := Lib.hid hi2
          clear hrg hth hth2 hsz hsz2 hq hend hv hi hi2
          go_wp2_with (first
            | ((with_reducible refine at_slot 84 rfl ?_); refine wpList_load_mid rfl 113 (.tmp 3) rfl (w.heap.size + 1 + 1) 0 rfl ((ws b).map wv) _ HG.out HV.out rfl HI.out ?_)
            | ((with_reducible refine at_store 113 (.tmp 2) (.tmp 84) rfl ?_); refine wpList_store_mid rfl 113 (.tmp 2) (.tmp 84) rfl (w.heap.size + 1) 0 ((ws b).map wv).toArray rfl rfl HTH.out HI2.out (words_one _) ?_))
          refine bodyPost_ret (v := .agg ((ws b).map wv).toArray) ?_ rfl ⟨rfl, HE.out.2⟩
          simp [results, Tryd.results85, asAddr]
          rw [HE.out.1]

end Hash
end Go.Proofs.YthpkeaafgabjiaaDoor

/- What a block does to the hash value: compress, of the package. Condition: the table of round constants reads as the program lays it. -/
namespace Go.Proofs.YthpkeaafgabjiaaDoor
open Go.RowKit
namespace Hash

/-- The package's table of constants lies where the program has it. -/
def Table (g : Nat) (w : World) : Prop := ∀ j, j < 64 → w.cell? ⟨g, j, none⟩ = some (wv (ks.getD j 0))
theorem Table.below {g : Nat} {w w' : World} {B : Nat} (h : Table g w) (hb : Below B w w') (hg : g < B) : Table g w' := fun j hj => (hb.cell (p := ⟨g, j, none⟩) hg).trans (h j hj)
theorem Table.drew {g : Nat} {w : World} (h : Table g w) (k : Nat) : Table g (w.drewN k) := h
theorem Table.size {g : Nat} {w : World} (h : Table g w) : g < w.heap.size := World.block_lt_of_cell? w _ (h 0 (by omega))

theorem ks_lt : ∀ j, ks.getD j 0 < 4294967296 := by
  intro j
  by_cases h : j < 64
  · have : ∀ i : Fin 64, ks.getD i.val 0 < 4294967296 := by decide +kernel
    exact this ⟨j, h⟩
  · rw [List.getD_eq_getElem?_getD, List.getElem?_eq_none (by have : ks.length = 64 := rfl; omega)]
    decide

/-- Each word fits. -/
structure Fits (s : St) : Prop where
  a : s.a < 4294967296
  b : s.b < 4294967296
  c : s.c < 4294967296
  d : s.d < 4294967296
  e : s.e < 4294967296
  f : s.f < 4294967296
  g : s.g < 4294967296
  h : s.h < 4294967296
theorem rnd_fits {s : St} (h : Fits s) (kw : Nat × Nat) : Fits (rnd s kw) := ⟨add_lt _ _, h.a, h.b, h.c, add_lt _ _, h.e, h.f, h.g⟩
/-- The words of the rounds so far. -/
def after (hs : List Nat) (b : List UInt8) (t : Nat) : St := ((List.zip ks (ws b)).take t).foldl rnd (St.of hs)
theorem ws_length (b : List UInt8) : (ws b).length = 64 := by simp [ws, sch_length]
theorem ws_lt (b : List UInt8) : ∀ x ∈ ws b, x < 4294967296 := fun x hx => sch_lt b 48 x (by simpa [ws] using hx)
theorem after_succ (hs : List Nat) (b : List UInt8) {t : Nat} (ht : t < 64) : after hs b (t + 1) = rnd (after hs b t) (ks.getD t 0, (ws b).getD t 0) := by
  have h1 : t < ks.length := ht
  have h2 : t < (ws b).length := by rw [ws_length]; exact ht
  unfold after
  rw [List.take_add_one, List.foldl_append]
  have : (List.zip ks (ws b))[t]? = some (ks.getD t 0, (ws b).getD t 0) := by
    rw [List.getElem?_zip_eq_some, List.getD_eq_getElem?_getD, List.getD_eq_getElem?_getD, List.getElem?_eq_getElem h1, List.getElem?_eq_getElem h2]
    exact ⟨rfl, rfl⟩
  rw [this]; rfl
theorem after_all (hs : List Nat) (b : List UInt8) : comp hs b = List.zipWith add hs (after hs b 64).list := by
  unfold comp after
  rw [List.take_of_length_le (by rw [List.length_zip, ws_length]; exact Nat.min_le_right _ _)]
theorem after_fits {hs : List Nat} (b : List UInt8) (hh : ∀ x ∈ hs, x < 4294967296) : ∀ t, Fits (after hs b t) := by
  have h0 : ∀ l : List (Nat × Nat), ∀ s, Fits s → Fits (l.foldl rnd s) := by
    intro l
    induction l with
    | nil => intro s h; exact h
    | cons x l ih => intro s h; exact ih _ (rnd_fits h x)
  have hg : ∀ j, hs.getD j 0 < 4294967296 := by
    intro j
    rw [List.getD_eq_getElem?_getD]
    cases hx : hs[j]? with
    | none => decide
    | some x => exact hh x (List.mem_of_getElem? hx)
  intro t
  exact h0 _ _ ⟨hg 0, hg 1, hg 2, hg 3, hg 4, hg 5, hg 6, hg 7⟩

structure CompW (w wr : World) (gT g : Nat) (hs : List Nat) (b : List UInt8) : Prop where
  wds : Arr wr w.heap.size 8 (hs.map wv)
  res : Arr wr (w.heap.size + 1 + 1) 8 (List.replicate 8 (wv 0))
  sch : Arr wr g 64 ((ws b).map wv)
  tab : Table gT wr
  below : Below w.heap.size w wr
  far : w.heap.size + 1 + 1 < g
structure CompS (w wr : World) (gT : Nat) (hs : List Nat) (b : List UInt8) : Prop where
  wds : Arr wr w.heap.size 8 (hs.map wv)
  blk : Arr wr (w.heap.size + 1) 64 (b.map Wire.bv)
  res : Arr wr (w.heap.size + 1 + 1) 8 (List.replicate 8 (wv 0))
  tab : Table gT wr
  below : Below w.heap.size w wr

theorem comp_start {w : World} {gT : Nat} {hs : List Nat} {b : List UInt8} (hl : hs.length = 8) (hb : b.length = 64) (ht : Table gT w) (c : Array Value) (hc : c.toList = List.replicate 8 (wv 0)) (t1 t2 t3 : TypeId) :
    CompS w (((w.alloc (.cells (hs.map wv).toArray t1)).alloc (.cells (b.map Wire.bv).toArray t2)).alloc (.cells c t3)) gT hs b := by
  have s2 : c.size = 8 := by rw [← Array.length_toList, hc]; rfl
  have hbel : Below w.heap.size w (((w.alloc (.cells (hs.map wv).toArray t1)).alloc (.cells (b.map Wire.bv).toArray t2)).alloc (.cells c t3)) := (((Below.refl _ _).alloc (Nat.le_refl _) _).alloc (by simp) _).alloc (by simp; omega) _
  refine ⟨?_, ?_, ?_, ht.below hbel ht.size, hbel⟩
  · have h := ((arr_new w (hs.map wv).toArray t1).alloc (by simp) (.cells (b.map Wire.bv).toArray t2)).alloc (by simp; omega) (.cells c t3)
    simpa [hl] using h
  · have h := (arr_new (w.alloc (.cells (hs.map wv).toArray t1)) (b.map Wire.bv).toArray t2).alloc (by simp) (.cells c t3)
    simpa [hb] using h
  · have h := arr_new ((w.alloc (.cells (hs.map wv).toArray t1)).alloc (.cells (b.map Wire.bv).toArray t2)) c t3
    rw [s2, hc] at h
    simpa using h
theorem CompS.on {w W w1 : World} {gT : Nat} {hs : List Nat} {b : List UInt8} (h : CompS w W gT hs b) (hb : Below W.heap.size W w1) : CompS w w1 gT hs b :=
  ⟨h.wds.below hb (h.wds.size (by omega)), h.blk.below hb (h.blk.size (by omega)), h.res.below hb (h.res.size (by omega)), h.tab.below hb h.tab.size, h.below.trans (hb.mono h.below.size)⟩
theorem CompS.sched {w w1 : World} {gT : Nat} {hs : List Nat} {b : List UInt8} (h : CompS w w1 gT hs b) (c : Array Value) (hc : c.size = 64) (t : TypeId) :
    CompW w ((w1.alloc (.cells c t)).setCells w1.heap.size 0 ((ws b).map wv)) gT w1.heap.size hs b := by
  have hlt := h.res.size (by omega)
  have hba : Below w1.heap.size w1 (w1.alloc (.cells c t)) := (Below.refl _ _).alloc (Nat.le_refl _) _
  have hbb : Below w1.heap.size w1 ((w1.alloc (.cells c t)).setCells w1.heap.size 0 ((ws b).map wv)) := hba.trans (below_cells (Nat.le_refl _) _ _ _)
  have hn := arr_new w1 c t
  rw [hc] at hn
  exact ⟨h.wds.below hbb (by omega), h.res.below hbb hlt, hn.over (by rw [List.length_map, ws_length]), h.tab.below hbb h.tab.size, h.below.trans (hbb.mono h.below.size), hlt⟩
theorem fresh64 (w1 : World) (c : Array Value) (t : TypeId) (b : List UInt8) (hc : c.size = 64) : (w1.alloc (.cells c t)).there w1.heap.size 0 ((ws b).map wv).toArray.size := by
  have h := (arr_new w1 c t).there
  rw [hc] at h
  rw [show ((ws b).map wv).toArray.size = 64 by simp [ws, sch_length]]
  exact h
theorem CompW.drewN {w wr : World} {gT g : Nat} {hs : List Nat} {b : List UInt8} (h : CompW w wr gT g hs b) (k : Nat) : CompW w (wr.drewN k) gT g hs b :=
  ⟨h.wds.drew k, h.res.drew k, h.sch.drew k, h.tab.drew k, ⟨h.below.os, h.below.tape, h.below.output, h.below.size, h.below.block⟩, h.far⟩

theorem info64w : (Tryd.prog.info? 113).map (·.size) = some 64 := by kernel_rfl
theorem info8w : (Tryd.prog.info? 96).map (·.size) = some 8 := by kernel_rfl
theorem info64b : (Tryd.prog.info? 97).map (·.size) = some 64 := by kernel_rfl
theorem und64w : Tryd.prog.underlying 113 = some (.array 64 95) := by kernel_rfl
theorem und8w : Tryd.prog.underlying 96 = some (.array 8 95) := by kernel_rfl
theorem und64b : Tryd.prog.underlying 97 = some (.array 64 5) := by kernel_rfl
theorem ib (b : List UInt8) (hb : b.length = 64) : (Tryd.prog.info? 97).map (·.size) = some (b.map Wire.bv).length := by rw [List.length_map, hb]; exact info64b
theorem iw (b : List UInt8) : (Tryd.prog.info? 113).map (·.size) = some ((ws b).map wv).toArray.size := by rw [show ((ws b).map wv).toArray.size = 64 by simp [ws, sch_length]]; exact info64w
theorem eight {hs : List Nat} (hl : hs.length = 8) : ∃ a b c d e f g h, hs = [a, b, c, d, e, f, g, h] := by
  match hs, hl with
  | [a, b, c, d, e, f, g, h], _ => exact ⟨a, b, c, d, e, f, g, h, rfl⟩

theorem gen_world {W' : World} {Pq G : World → Prop} (h : Pq W') (k : ∀ W, Pq W → G W) : G W' := k _ h
theorem CompW.word {w wr : World} {gT g : Nat} {hs : List Nat} {b : List UInt8} (h : CompW w wr gT g hs b) (hl : hs.length = 8) (i : Nat) (hi : i < 8) {x : Nat} (hx : x = hs.getD i 0) : wr.cell? ⟨w.heap.size, i, none⟩ = some (.int .u32 (x : Int)) := by
  subst hx
  refine (h.wds.at_ (i := i) (u := wv (hs.getD i 0)) ?_).1
  rw [List.getElem?_map, List.getElem?_eq_getElem (by omega), List.getD_eq_getElem?_getD, List.getElem?_eq_getElem (by omega)]
  rfl

theorem add_mod (a b : Nat) : ((a : Int) + (b : Int)) % 4294967296 = ((add a b : Nat) : Int) := by unfold add; omega
theorem rotr_call (x n : Nat) (hx : x < 4294967296) (h1 : 1 ≤ n) (h2 : n ≤ 31) (W : World) :
    Calls Tryd.prog 86 #[.int .u32 (x : Int), .int .i64 (n : Int)] W fun e w' => e = .returned (.int .u32 (rotr x n : Int)) ∧ w' = W :=
  (rotr_any x n W hx h1 h2).mono fun _ _ ⟨h1, h2⟩ => ⟨h1, h2.symm⟩
theorem rnd_steps {s : St} (hs : Fits s) (k w : Nat) :
    ∃ p6 p11 p25 p2 p13 p22 s1 s2 q1 n1 m1 n2 s3 q2 q3 x s4 s5 o1 o2 o3 s6 s7 y e' a' : Nat,
      (∀ W, Calls Tryd.prog 86 #[.int .u32 (s.e : Int), .int .i64 6] W fun e w' => e = .returned (.int .u32 (p6 : Int)) ∧ w' = W) ∧
      (∀ W, Calls Tryd.prog 86 #[.int .u32 (s.e : Int), .int .i64 11] W fun e w' => e = .returned (.int .u32 (p11 : Int)) ∧ w' = W) ∧
      (∀ W, Calls Tryd.prog 86 #[.int .u32 (s.e : Int), .int .i64 25] W fun e w' => e = .returned (.int .u32 (p25 : Int)) ∧ w' = W) ∧
      (∀ W, Calls Tryd.prog 86 #[.int .u32 (s.a : Int), .int .i64 2] W fun e w' => e = .returned (.int .u32 (p2 : Int)) ∧ w' = W) ∧
      (∀ W, Calls Tryd.prog 86 #[.int .u32 (s.a : Int), .int .i64 13] W fun e w' => e = .returned (.int .u32 (p13 : Int)) ∧ w' = W) ∧
      (∀ W, Calls Tryd.prog 86 #[.int .u32 (s.a : Int), .int .i64 22] W fun e w' => e = .returned (.int .u32 (p22 : Int)) ∧ w' = W) ∧
      bits .xor .u32 (p6 : Int) (p11 : Int) = (s1 : Int) ∧ bits .xor .u32 (s1 : Int) (p25 : Int) = (s2 : Int) ∧ IntKind.u32.wrap ((s.h : Int) + (s2 : Int)) = (q1 : Int) ∧
      bits .and .u32 (s.e : Int) (s.f : Int) = (n1 : Int) ∧ bits .xor .u32 (if IntKind.u32.signed = true then -1 else IntKind.u32.max) (s.e : Int) = (m1 : Int) ∧ bits .and .u32 (m1 : Int) (s.g : Int) = (n2 : Int) ∧ bits .xor .u32 (n1 : Int) (n2 : Int) = (s3 : Int) ∧
      IntKind.u32.wrap ((q1 : Int) + (s3 : Int)) = (q2 : Int) ∧ IntKind.u32.wrap ((q2 : Int) + (k : Int)) = (q3 : Int) ∧ IntKind.u32.wrap ((q3 : Int) + (w : Int)) = (x : Int) ∧
      bits .xor .u32 (p2 : Int) (p13 : Int) = (s4 : Int) ∧ bits .xor .u32 (s4 : Int) (p22 : Int) = (s5 : Int) ∧ bits .and .u32 (s.a : Int) (s.b : Int) = (o1 : Int) ∧ bits .and .u32 (s.a : Int) (s.c : Int) = (o2 : Int) ∧
      bits .xor .u32 (o1 : Int) (o2 : Int) = (s6 : Int) ∧ bits .and .u32 (s.b : Int) (s.c : Int) = (o3 : Int) ∧ bits .xor .u32 (s6 : Int) (o3 : Int) = (s7 : Int) ∧
      ((s5 : Int) + (s7 : Int)) % 4294967296 = (y : Int) ∧ ((s.d : Int) + (x : Int)) % 4294967296 = (e' : Int) ∧ ((x : Int) + (y : Int)) % 4294967296 = (a' : Int) ∧
      rnd s (k, w) = ⟨a', s.a, s.b, s.c, e', s.e, s.f, s.g⟩ :=
  ⟨rotr s.e 6, rotr s.e 11, rotr s.e 25, rotr s.a 2, rotr s.a 13, rotr s.a 22, _, _, _, _, s.e ^^^ 4294967295, _, _, _, _, _, _, _, _, _, _, _, _, _, _, _,
    rotr_call s.e 6 hs.e (by omega) (by omega), rotr_call s.e 11 hs.e (by omega) (by omega), rotr_call s.e 25 hs.e (by omega) (by omega), rotr_call s.a 2 hs.a (by omega) (by omega), rotr_call s.a 13 hs.a (by omega) (by omega), rotr_call s.a 22 hs.a (by omega) (by omega),
    xor32 (rotr_lt 6 hs.e) (rotr_lt 11 hs.e), xor32 (xor_lt (rotr_lt 6 hs.e) (rotr_lt 11 hs.e)) (rotr_lt 25 hs.e), add32 _ _,
    and32 hs.e hs.f, (by rw [Nat.xor_comm]; exact xor32 (a := 4294967295) (by omega) hs.e), and32 (xor_lt hs.e (by omega)) hs.g, xor32 (and_lt hs.f) (and_lt hs.g), add32 _ _, add32 _ _, add32 _ _,
    xor32 (rotr_lt 2 hs.a) (rotr_lt 13 hs.a), xor32 (xor_lt (rotr_lt 2 hs.a) (rotr_lt 13 hs.a)) (rotr_lt 22 hs.a), and32 hs.a hs.b, and32 hs.a hs.c, xor32 (and_lt hs.b) (and_lt hs.c), and32 hs.b hs.c, xor32 (xor_lt (and_lt hs.b) (and_lt hs.c)) (and_lt hs.c),
    add_mod _ _, add_mod _ _, add_mod _ _, rfl⟩

/-- The words of which the first ones have been added. -/
def sums (hs : List Nat) (s : St) (i : Nat) : List Nat := (List.zipWith add hs s.list).take i ++ hs.drop i
theorem sums_zero (hs : List Nat) (s : St) : sums hs s 0 = hs := by simp [sums]
structure CompE (w wr : World) (xs : List Nat) : Prop where
  wds : Arr wr w.heap.size 8 (xs.map wv)
  res : Arr wr (w.heap.size + 1 + 1) 8 (List.replicate 8 (wv 0))
  below : Below w.heap.size w wr

theorem idx8 (s : St) (W : World) : ∀ i : Nat, i < 8 → (Instr.index 96 (.agg #[.int .u32 (s.a : Int), .int .u32 (s.b : Int), .int .u32 (s.c : Int), .int .u32 (s.d : Int), .int .u32 (s.e : Int), .int .u32 (s.f : Int), .int .u32 (s.g : Int), .int .u32 (s.h : Int)]) (.int .i64 (i : Int))).run Tryd.prog W = .ok (.int .u32 ((s.list.getD i 0 : Nat) : Int)) W
  | 0, _ => by kernel_rfl
  | 1, _ => by kernel_rfl
  | 2, _ => by kernel_rfl
  | 3, _ => by kernel_rfl
  | 4, _ => by kernel_rfl
  | 5, _ => by kernel_rfl
  | 6, _ => by kernel_rfl
  | 7, _ => by kernel_rfl
  | n + 8, h => by omega
theorem sums_at {hs : List Nat} {s : St} {i : Nat} (hl : hs.length = 8) (hi : i < 8) : (sums hs s i)[i]? = some (hs.getD i 0) := by
  have hz : (List.zipWith add hs s.list).length = 8 := by simp [hl, St.list]
  unfold sums
  rw [List.getElem?_append_right (by rw [List.length_take]; omega), List.length_take, List.getElem?_drop, show i + (i - min i (List.zipWith add hs s.list).length) = i by omega, List.getD_eq_getElem?_getD, List.getElem?_eq_getElem (by omega)]
  rfl
theorem sums_put {hs : List Nat} {s : St} {i : Nat} (hl : hs.length = 8) (hi : i < 8) : (sums hs s i).set i (add (hs.getD i 0) (s.list.getD i 0)) = sums hs s (i + 1) := by
  have hsl : s.list.length = 8 := rfl
  have hz : (List.zipWith add hs s.list).length = 8 := by simp [hl, hsl]
  have hd : hs.drop i = hs.getD i 0 :: hs.drop (i + 1) := by
    rw [List.drop_eq_getElem_cons (by omega), List.getD_eq_getElem?_getD, List.getElem?_eq_getElem (by omega)]; rfl
  have ht : (List.zipWith add hs s.list)[i]? = some (add (hs.getD i 0) (s.list.getD i 0)) := by
    rw [List.getElem?_zipWith, List.getD_eq_getElem?_getD, List.getD_eq_getElem?_getD, List.getElem?_eq_getElem (by omega : i < hs.length), List.getElem?_eq_getElem (by omega : i < s.list.length)]
    rfl
  unfold sums
  rw [List.set_append_right _ _ (by rw [List.length_take]; omega), List.length_take, show i - min i (List.zipWith add hs s.list).length = 0 by omega, hd, List.set_cons_zero, List.take_add_one, ht]
  simp
theorem sums_all {hs : List Nat} {s : St} (hl : hs.length = 8) : sums hs s 8 = List.zipWith add hs s.list := by
  have hz : (List.zipWith add hs s.list).length = 8 := by simp [hl, St.list]
  unfold sums
  rw [List.take_of_length_le (by omega), List.drop_of_length_le (by omega), List.append_nil]
theorem CompE.put {w wr : World} {hs : List Nat} {s : St} {i : Nat} (h : CompE w wr (sums hs s i)) (hl : hs.length = 8) (hi : i < 8) :
    CompE w (wr.setCell ⟨w.heap.size, i, none⟩ (wv (add (hs.getD i 0) (s.list.getD i 0)))) (sums hs s (i + 1)) := by
  have hw := h.wds.set (i := i) hi (wv (add (hs.getD i 0) (s.list.getD i 0)))
  rw [← List.map_set, sums_put hl hi] at hw
  exact ⟨hw, h.res.other (by omega) _, h.below.setCell (by simp) _⟩

set_option maxRecDepth 100000 in
set_option maxHeartbeats 1000000 in
theorem compress_any (hs : List Nat) (b : List UInt8) (w : World) (hl : hs.length = 8) (hh : ∀ x ∈ hs, x < 4294967296) (hb : b.length = 64) (ht : Table 3 w) :
    Calls Tryd.prog 75 #[.agg (hs.map wv).toArray, .agg (b.map Wire.bv).toArray] w (GivesA ((comp hs b).map wv) w) := by
  have S0 := comp_start hl hb ht #[.int .u32 0, .int .u32 0, .int .u32 0, .int .u32 0, .int .u32 0, .int .u32 0, .int .u32 0, .int .u32 0] rfl 96 97 96
  have hfit := after_fits b hh
  have HF := Lib.hid hfit; clear hfit
  have HB := Lib.hid hb; clear hb
  have HL := Lib.hid hl; clear hl
  have HH := Lib.hid hh; clear hh ht
  go_enter Tryd.func75, Tryd.ntmps75
  go_wp2_with (first
    | ((with_reducible refine at_slot 19 rfl ?_); refine wpList_load_mid rfl 97 (.tmp 3) rfl (w.heap.size + 1) 0 rfl (b.map Wire.bv) _ S0.blk.range und64b rfl (ib b HB.out) ?_)
    | ((with_reducible refine at_store 113 (.tmp 5) (.tmp 20) rfl ?_); refine wpList_store_mid rfl 113 (.tmp 5) (.tmp 20) rfl w1.heap.size 0 ((ws b).map wv).toArray rfl rfl (fresh64 _ _ _ _ rfl) (iw b) (words_one _) ?_; refine gen_world (Pq := fun W => CompW w W _ w1.heap.size hs b) (G := fun W => wpList _ _ _ _ _ W) (S1.sched _ rfl _) ?_; intro w2 S2; clear S1)
    | (go_at_call 85; (with_reducible refine (expand_any b _ HB.out).mono ?_); rintro e w1 ⟨rfl, hb1⟩; have S1 := S0.on hb1; clear hb1 S0))
  obtain ⟨a0, ha0⟩ : ∃ x, x = (after hs b 0).a := ⟨_, rfl⟩
  obtain ⟨b0, hb0⟩ : ∃ x, x = (after hs b 0).b := ⟨_, rfl⟩
  obtain ⟨c0, hc0⟩ : ∃ x, x = (after hs b 0).c := ⟨_, rfl⟩
  obtain ⟨d0, hd0⟩ : ∃ x, x = (after hs b 0).d := ⟨_, rfl⟩
  obtain ⟨e0, he0⟩ : ∃ x, x = (after hs b 0).e := ⟨_, rfl⟩
  obtain ⟨f0, hf0⟩ : ∃ x, x = (after hs b 0).f := ⟨_, rfl⟩
  obtain ⟨g0, hg0⟩ : ∃ x, x = (after hs b 0).g := ⟨_, rfl⟩
  obtain ⟨h0, hh0⟩ : ∃ x, x = (after hs b 0).h := ⟨_, rfl⟩
  have c0 := S2.word HL.out 0 (by omega) ha0
  have c1 := S2.word HL.out 1 (by omega) hb0
  have c2 := S2.word HL.out 2 (by omega) hc0
  have c3 := S2.word HL.out 3 (by omega) hd0
  have c4 := S2.word HL.out 4 (by omega) he0
  have c5 := S2.word HL.out 5 (by omega) hf0
  have c6 := S2.word HL.out 6 (by omega) hg0
  have c7 := S2.word HL.out 7 (by omega) hh0
  have HA0 := Lib.hid ha0; clear ha0
  have HB0 := Lib.hid hb0; clear hb0
  have HC0 := Lib.hid hc0; clear hc0
  have HD0 := Lib.hid hd0; clear hd0
  have HE0 := Lib.hid he0; clear he0
  have HF0 := Lib.hid hf0; clear hf0
  have HG0 := Lib.hid hg0; clear hg0
  have HH0 := Lib.hid hh0; clear hh0
  go_wp2
  go_quiet (fail)
  go_wp2
  have S3 := S2.drewN nq
  clear c0 c1 c2 c3 c4 c5 c6 c7 S2
  revert S3
  generalize w2.drewN nq = w3
  intro S3
  obtain ⟨gS, hgS⟩ : ∃ g, g = w1.heap.size := ⟨_, rfl⟩
  rw [← hgS] at S3 ⊢
  clear hgS
  go_loopw [6, 7, 8, 9, 10, 11, 12, 13, 37] (fun v1 v2 v3 v4 v5 v6 v7 v8 iv wr => ∃ (t : Nat), t ≤ 64 ∧ v1 = .int .u32 ((after hs b t).a : Int) ∧ v2 = .int .u32 ((after hs b t).b : Int) ∧ v3 = .int .u32 ((after hs b t).c : Int) ∧ v4 = .int .u32 ((after hs b t).d : Int) ∧ v5 = .int .u32 ((after hs b t).e : Int) ∧ v6 = .int .u32 ((after hs b t).f : Int) ∧ v7 = .int .u32 ((after hs b t).g : Int) ∧ v8 = .int .u32 ((after hs b t).h : Int) ∧
      iv = .int .i64 (t : Int) ∧ CompW w wr 3 gS hs b) (fun _ _ _ _ _ _ _ _ iv _ => (64 - intOf iv).toNat)
  case atStart => exact ⟨0, by omega, by rw [HA0.out], by rw [HB0.out], by rw [HC0.out], by rw [HD0.out], by rw [HE0.out], by rw [HF0.out], by rw [HG0.out], by rw [HH0.out], rfl, S3⟩
  case round =>
    obtain ⟨t, ht, rfl, rfl, rfl, rfl, rfl, rfl, rfl, rfl, rfl, hr⟩ := hrel
    by_cases hlt : t < 64
    · have hfs := HF.out t
      have hsucc := after_succ hs b hlt
      have ck : wr.cell? ⟨3, t, none⟩ = some (wv (ks.getD t 0)) := hr.tab t hlt
      have cw : wr.cell? ⟨gS, t, none⟩ = some (wv ((ws b).getD t 0)) := (hr.sch.at_ (i := t) (by rw [List.getElem?_map, List.getD_eq_getElem?_getD, List.getElem?_eq_getElem (by rw [ws_length]; exact hlt)]; rfl)).1
      generalize ks.getD t 0 = k at hsucc ck
      generalize (ws b).getD t 0 = x0 at hsucc cw
      generalize after hs b t = s at hfs hsucc ⊢
      obtain ⟨p6, p11, p25, p2, p13, p22, s1, s2, q1, n1, m1, n2, s3, q2, q3, x, s4, s5, o1, o2, o3, s6, s7, y, e', a', c6, c11, c25, c2, c13, c22, e1, e2, e3, e4, e5, e6, e7, e8, e9, e10, e11, e12, e13, e14, e15, e16, e17, e18, e19, e20, hrnd⟩ := rnd_steps hfs k x0
      have hnext := hsucc.trans hrnd
      have HN := Lib.hid hnext; clear hnext hsucc hrnd hfs
      obtain ⟨a, b1, c, d, e, f, g, h⟩ := s
      have z0 : (0 : Int) ≤ (t : Int) := by omega
      have z1 : (t : Int) < 64 := by omega
      simp only at c6 c11 c25 c2 c13 c22 e3 e4 e5 e6 e13 e14 e16 e19
      unfold wv at ck cw
      go_wp2
      go_quiet ((first
        | (with_reducible exact Calls.quiet_of_same (c6 _))
        | (with_reducible exact Calls.quiet_of_same (c11 _))
        | (with_reducible exact Calls.quiet_of_same (c25 _))))
      go_wp2_with (first
        | (go_at_call 86; (with_reducible refine (c2 _).mono ?_); rintro e w' ⟨rfl, rfl⟩)
        | (go_at_call 86; (with_reducible refine (c13 _).mono ?_); rintro e w' ⟨rfl, rfl⟩)
        | (go_at_call 86; (with_reducible refine (c22 _).mono ?_); rintro e w' ⟨rfl, rfl⟩))
      go_roundw
      case rel =>
        refine ⟨t + 1, by omega, (congrArg (Value.int .u32) e20).trans (by rw [HN.out]), ?_, ?_, ?_, (congrArg (Value.int .u32) e19).trans (by rw [HN.out]), ?_, ?_, ?_, by go_num, hr.drewN _⟩ <;> rw [HN.out]
      case measure => simp [intOf]; omega
    · have ht64 : t = 64 := by omega
      have hall : comp hs b = List.zipWith add hs (after hs b t).list := by rw [ht64]; exact after_all hs b
      have z64 : ¬ (t : Int) < 64 := by omega
      generalize after hs b t = s at hall ⊢
      have HA := Lib.hid hall; clear hall S3 ht64 hlt ht
      have hw0 := hr.wds
      have hw1 := hr.res
      have hw2 := hr.below
      clear hr
      go_wp2
      go_loopw [109] (fun iv wq => ∃ (i : Nat), i ≤ 8 ∧ iv = .int .i64 (i : Int) ∧ CompE w wq (sums hs s i)) (fun iv _ => (8 - intOf iv).toNat)
      case atStart => exact ⟨0, by omega, rfl, by rw [sums_zero]; exact ⟨hw0, hw1, hw2⟩⟩
      case round =>
        obtain ⟨i, hi, rfl, hq⟩ := hrel
        clear hw0 hw1 hw2
        by_cases hi8 : i < 8
        · have y0 : (0 : Int) ≤ (i : Int) := by omega
          have y1 : (i : Int) < 8 := by omega
          have hcell := (hq.wds.at_ (i := i) (u := wv (hs.getD i 0)) (by rw [List.getElem?_map, sums_at HL.out hi8]; rfl)).1
          have hfrz := hq.wds.free i hi8
          have hidx : ∀ W, (Instr.index 96 (.agg #[.int .u32 (s.a : Int), .int .u32 (s.b : Int), .int .u32 (s.c : Int), .int .u32 (s.d : Int), .int .u32 (s.e : Int), .int .u32 (s.f : Int), .int .u32 (s.g : Int), .int .u32 (s.h : Int)]) (.int .i64 (i : Int))).run Tryd.prog W = .ok (.int .u32 ((s.list.getD i 0 : Nat) : Int)) W := fun W => idx8 s W i hi8
          have hput := hq.put HL.out hi8
          rw [show wv (add (hs.getD i 0) (s.list.getD i 0)) = .int .u32 ((((hs.getD i 0 : Nat) : Int) + ((s.list.getD i 0 : Nat) : Int)) % 4294967296) from congrArg (Value.int .u32) (add_mod _ _).symm] at hput
          unfold wv at hcell
          generalize hs.getD i 0 = u at hcell hput
          generalize s.list.getD i 0 = x at hidx hput
          have HP := Lib.hid hput; clear hput hq
          go_wp2
          go_roundw
          case rel => exact ⟨i + 1, by omega, by go_num, HP.out⟩
          case measure => simp [intOf]; omega
        · obtain rfl : i = 8 := by omega
          rw [sums_all HL.out, ← HA.out] at hq
          have hcl : ((comp hs b).map wv).length = 8 := hq.wds.len
          have hi1 : (Tryd.prog.info? 96).map (·.size) = some ((comp hs b).map wv).length := by rw [hcl]; exact info8w
          have hi2 : (Tryd.prog.info? 96).map (·.size) = some ((comp hs b).map wv).toArray.size := by rw [show ((comp hs b).map wv).toArray.size = 8 by rw [List.size_toArray]; exact hcl]; exact info8w
          have hth : wr.there (w.heap.size + 1 + 1) 0 ((comp hs b).map wv).toArray.size := by rw [show ((comp hs b).map wv).toArray.size = 8 by rw [List.size_toArray]; exact hcl]; exact hq.res.there
          have hend := arr_end (w := w) (wr := wr) (g := w.heap.size + 1 + 1) (xs := (comp hs b).map wv) 96 hq.below (by omega) (by rw [hcl]; exact hq.res.there) und8w rfl hi1
          have hrg := hq.wds.range
          have HE := Lib.hid hend
          have HG := Lib.hid hrg
          have HTH := Lib.hid hth
          have HI := Lib.hid hi1
          have HI2 := Lib.hid hi2
          have z8 : ¬ ((8 : Nat) : Int) < 8 := by omega
          clear hq hcl hi1 hi2 hth hend hrg
          go_wp2_with (first
            | ((with_reducible refine at_slot 120 rfl ?_); refine wpList_load_mid rfl 96 (.tmp 2) rfl w.heap.size 0 rfl ((comp hs b).map wv) _ HG.out und8w rfl HI.out ?_)
            | ((with_reducible refine at_store 96 (.tmp 4) (.tmp 120) rfl ?_); refine wpList_store_mid rfl 96 (.tmp 4) (.tmp 120) rfl (w.heap.size + 1 + 1) 0 ((comp hs b).map wv).toArray rfl rfl HTH.out HI2.out (words_one _) ?_))
          refine bodyPost_ret (v := .agg ((comp hs b).map wv).toArray) ?_ rfl ⟨rfl, HE.out.2⟩
          simp [results, Tryd.results75, asAddr]
          rw [HE.out.1]

end Hash
end Go.Proofs.YthpkeaafgabjiaaDoor

/- A stream after its block: next, of the package. Condition: the table of round constants reads as the program lays it. -/
namespace Go.Proofs.YthpkeaafgabjiaaDoor
open Go.RowKit
namespace Hash

theorem Arr.mid {w : World} {g n : Nat} {p cs q : List Value} (h : Arr w g n (p ++ (cs ++ q))) : w.rangeAt g p.length cs := fun j u hu => by
  refine h.cells _ u ?_
  rw [List.getElem?_append_right (by omega), Nat.add_sub_cancel_left, List.getElem?_append_left (List.getElem?_eq_some_iff.1 hu).1, hu]
theorem Arr.midThere {w : World} {g n : Nat} {p cs q : List Value} (h : Arr w g n (p ++ (cs ++ q))) : w.there g p.length cs.length := fun j hj => by
  have hl := h.len
  simp only [List.length_append] at hl
  exact ⟨by rw [h.mid j _ (List.getElem?_eq_getElem hj)]; rfl, h.free _ (by omega)⟩
/-- A part of an array that was stored over. -/
theorem Arr.patch {w : World} {g n : Nat} {p cs q vs : List Value} (h : Arr w g n (p ++ (cs ++ q))) (hv : vs.length = cs.length) : Arr (w.setCells g p.length vs) g n (p ++ (vs ++ q)) := by
  have hl := h.len
  simp only [List.length_append] at hl
  refine ⟨by simp only [List.length_append]; omega, fun j u hu => ?_, fun j hj => (World.frozen?_setCells _ _ _ _ _).trans (h.free j hj)⟩
  by_cases h1 : j < p.length
  · rw [World.cell?_setCells_out g vs p.length w _ (fun _ _ => .inl h1)]
    refine h.cells j u ?_
    rw [List.getElem?_append_left h1] at hu ⊢
    exact hu
  · by_cases h2 : j < p.length + vs.length
    · have := World.rangeAt_setCells_same w g p.length vs (by rw [hv]; exact h.midThere) (j - p.length) u (by
        rw [List.getElem?_append_right (by omega), List.getElem?_append_left (by omega)] at hu
        exact hu)
      rwa [show p.length + (j - p.length) = j by omega] at this
    · rw [World.cell?_setCells_out g vs p.length w _ (fun _ _ => .inr (by show p.length + vs.length ≤ j; omega))]
      refine h.cells j u ?_
      rw [List.getElem?_append_right (by omega), List.getElem?_append_right (by omega)] at hu ⊢
      rw [← hv]; exact hu

/-- A stream's cells: the words, the bytes of the last block, the length. -/
def sval (hs : List Nat) (rest : List UInt8) (n : Nat) : List Value := hs.map wv ++ (rest.map Wire.bv ++ [.int .u64 (n : Int)])
theorem sval_length {hs : List Nat} {rest : List UInt8} {n : Nat} (hl : hs.length = 8) (hr : rest.length = 64) : (sval hs rest n).length = 73 := by simp [sval, hl, hr]
theorem sval_one (hs : List Nat) (rest : List UInt8) (n : Nat) : ((sval hs rest n).toArray).all (·.oneCell') = true := all_oneCell_toArray (by
  intro v hv
  unfold sval at hv
  rcases List.mem_append.1 hv with hv | hv
  · obtain ⟨c, _, rfl⟩ := List.mem_map.1 hv; rfl
  · rcases List.mem_append.1 hv with hv | hv
    · obtain ⟨c, _, rfl⟩ := List.mem_map.1 hv; rfl
    · obtain rfl := List.mem_singleton.1 hv; rfl)
theorem infoS : (Tryd.prog.info? 100).map (·.size) = some 73 := by kernel_rfl
theorem infoS_of {xs : List Value} (h : xs.length = 73) : (Tryd.prog.info? 100).map (·.size) = some xs.length := by rw [h]; exact infoS
theorem infoS_ofA {xs : List Value} (h : xs.length = 73) : (Tryd.prog.info? 100).map (·.size) = some xs.toArray.size := by rw [List.size_toArray, h]; exact infoS

structure NextS (w wr : World) (gT : Nat) (xs : List Value) : Prop where
  val : Arr wr w.heap.size 73 xs
  res : ∃ ys, Arr wr (w.heap.size + 1) 73 ys
  tab : Table gT wr
  below : Below w.heap.size w wr

theorem next_start {w : World} {gT : Nat} {xs : List Value} (hl : xs.length = 73) (ht : Table gT w) (c : Array Value) (hc : c.size = 73) (t1 t2 : TypeId) :
    NextS w ((w.alloc (.cells xs.toArray t1)).alloc (.cells c t2)) gT xs := by
  have hbel : Below w.heap.size w ((w.alloc (.cells xs.toArray t1)).alloc (.cells c t2)) := ((Below.refl _ _).alloc (Nat.le_refl _) _).alloc (by simp) _
  refine ⟨?_, ⟨c.toList, ?_⟩, ht.below hbel ht.size, hbel⟩
  · have h := (arr_new w xs.toArray t1).alloc (by simp) (.cells c t2)
    simpa [hl] using h
  · have h := arr_new (w.alloc (.cells xs.toArray t1)) c t2
    rw [hc] at h
    simpa using h
theorem NextS.on {w W w1 : World} {gT : Nat} {xs : List Value} (h : NextS w W gT xs) (hb : Below W.heap.size W w1) : NextS w w1 gT xs := by
  obtain ⟨ys, hy⟩ := h.res
  exact ⟨h.val.below hb (h.val.size (by omega)), ⟨ys, hy.below hb (hy.size (by omega))⟩, h.tab.below hb h.tab.size, h.below.trans (hb.mono h.below.size)⟩
theorem NextS.patch {w W : World} {gT : Nat} {p cs q vs : List Value} (h : NextS w W gT (p ++ (cs ++ q))) (hv : vs.length = cs.length) (hg : gT < w.heap.size) : NextS w (W.setCells w.heap.size p.length vs) gT (p ++ (vs ++ q)) := by
  obtain ⟨ys, hy⟩ := h.res
  have hb := below_cells (B := w.heap.size) (Nat.le_refl _) vs p.length W
  exact ⟨h.val.patch hv, ⟨ys, hy.aside (by omega) _⟩, h.tab.below hb hg, h.below.trans hb⟩
theorem NextS.fin {w W : World} {gT : Nat} {xs : List Value} (h : NextS w W gT xs) :
    (loadVar 100 ⟨w.heap.size + 1, 0, none⟩).run Tryd.prog (W.setCells (w.heap.size + 1) 0 xs) = .ok (.agg xs.toArray) (W.setCells (w.heap.size + 1) 0 xs) ∧ Below w.heap.size w (W.setCells (w.heap.size + 1) 0 xs) := by
  obtain ⟨ys, hy⟩ := h.res
  exact arr_end (w := w) (wr := W) (g := w.heap.size + 1) (xs := xs) 100 h.below (by omega) (by rw [h.val.len]; exact hy.there) Tryd.underlying100 rfl (infoS_of h.val.len)
theorem NextS.thereRes {w W : World} {gT : Nat} {xs : List Value} (h : NextS w W gT xs) : W.there (w.heap.size + 1) 0 xs.toArray.size := by
  obtain ⟨ys, hy⟩ := h.res
  have e : xs.toArray.size = 73 := by rw [List.size_toArray]; exact h.val.len
  rw [e]; exact hy.there
/-- The empty stream's cells, each zero. -/
def zS : Array Value := (sval (List.replicate 8 0) (zeros 64) 0).toArray
theorem zS_size : zS.size = 73 := by rfl
theorem zeroS (W : World) : (zeroValue 100).run Tryd.prog W = .ok (.agg zS) W := by kernel_rfl
def zB : Array Value := ((zeros 64).map Wire.bv).toArray
theorem zB_size : zB.size = 64 := by rfl
theorem i8 {xs : List Nat} (h : xs.length = 8) : (Tryd.prog.info? 96).map (·.size) = some (xs.map wv).length := by rw [List.length_map, h]; exact info8w
theorem i8A {xs : List Nat} (h : xs.length = 8) : (Tryd.prog.info? 96).map (·.size) = some (xs.map wv).toArray.size := by rw [List.size_toArray]; exact i8 h
theorem i64A {xs : List UInt8} (h : xs.length = 64) : (Tryd.prog.info? 97).map (·.size) = some (xs.map Wire.bv).toArray.size := by rw [List.size_toArray, List.length_map, h]; exact info64b
theorem NextS.words {w W : World} {gT : Nat} {hs : List Nat} {rest : List UInt8} {n : Nat} (h : NextS w W gT (sval hs rest n)) : W.rangeAt w.heap.size 0 (hs.map wv) := Arr.mid (p := []) h.val
theorem NextS.bytes {w W : World} {gT : Nat} {hs : List Nat} {rest : List UInt8} {n : Nat} (h : NextS w W gT (sval hs rest n)) (hl : hs.length = 8) : W.rangeAt w.heap.size 8 (rest.map Wire.bv) := by
  have := Arr.mid (p := hs.map wv) h.val
  rwa [List.length_map, hl] at this
theorem NextS.setWords {w W : World} {gT : Nat} {hs ys : List Nat} {rest : List UInt8} {n : Nat} (h : NextS w W gT (sval hs rest n)) (hl : hs.length = 8) (hy : ys.length = 8) (hg : gT < w.heap.size) :
    NextS w (W.setCells w.heap.size 0 (ys.map wv).toArray.toList) gT (sval ys rest n) := NextS.patch (p := []) h (by simp [hl, hy]) hg
theorem NextS.setBytes {w W : World} {gT : Nat} {hs : List Nat} {rest ys : List UInt8} {n : Nat} (h : NextS w W gT (sval hs rest n)) (hl : hs.length = 8) (hr : rest.length = ys.length) (hg : gT < w.heap.size) :
    NextS w (W.setCells w.heap.size 8 (ys.map Wire.bv).toArray.toList) gT (sval hs ys n) := by
  have := NextS.patch (p := hs.map wv) (vs := ys.map Wire.bv) h (by simp [hr]) hg
  rwa [List.length_map, hl] at this
theorem NextS.thereW {w W : World} {gT : Nat} {hs ys : List Nat} {rest : List UInt8} {n : Nat} (h : NextS w W gT (sval hs rest n)) (hl : hs.length = 8) (hy : ys.length = 8) : W.there w.heap.size 0 (ys.map wv).toArray.size := by
  have := Arr.midThere (p := []) h.val
  have e : (ys.map wv).toArray.size = (hs.map wv).length := by simp [hl, hy]
  rw [e]; exact this
theorem NextS.thereB {w W : World} {gT : Nat} {hs : List Nat} {rest ys : List UInt8} {n : Nat} (h : NextS w W gT (sval hs rest n)) (hl : hs.length = 8) (hr : rest.length = ys.length) : W.there w.heap.size 8 (ys.map Wire.bv).toArray.size := by
  have := Arr.midThere (p := hs.map wv) h.val
  rw [List.length_map, hl] at this
  have e : (ys.map Wire.bv).toArray.size = (rest.map Wire.bv).length := by simp [hr]
  rw [e]; exact this

set_option maxRecDepth 100000 in
set_option maxHeartbeats 1000000 in
theorem next_any (hs : List Nat) (rest : List UInt8) (n : Nat) (w : World) (hl : hs.length = 8) (hh : ∀ x ∈ hs, x < 4294967296) (hr : rest.length = 64) (ht : Table 3 w) :
    Calls Tryd.prog 72 #[.agg (sval hs rest n).toArray] w (GivesA (sval (comp hs rest) (zeros 64) n) w) := by
  have hg := ht.size
  have hcl : (comp hs rest).length = 8 := by rw [after_all]; simp [hl, St.list]
  have S0 := next_start (xs := sval hs rest n) (sval_length hl hr) ht zS zS_size 100 100
  have hz := zeroS
  have hcomp : ∀ W, Table 3 W → Calls Tryd.prog 75 #[.agg (hs.map wv).toArray, .agg (rest.map Wire.bv).toArray] W (GivesA ((comp hs rest).map wv) W) := fun W hW => compress_any hs rest W hl hh hr hW
  have HC := Lib.hid hcomp
  have HL := Lib.hid hl
  have HR := Lib.hid hr
  have HCL := Lib.hid hcl
  have HZ := Lib.hid (hr.trans (show (zeros 64).length = 64 from rfl).symm)
  have HSL := Lib.hid (sval_length (n := n) hcl (show (zeros 64).length = 64 from rfl))
  clear hl hh hr hcl ht hcomp
  go_enter Tryd.func72, Tryd.ntmps72
  go_wp2_with (first
    | ((with_reducible refine at_slot 4 rfl ?_); refine wpList_load_mid rfl 96 (.tmp 3) rfl w.heap.size 0 rfl (hs.map wv) _ S0.words und8w rfl (i8 HL.out) ?_)
    | ((with_reducible refine at_slot 6 rfl ?_); refine wpList_load_mid rfl 97 (.tmp 5) rfl w.heap.size 8 rfl (rest.map Wire.bv) _ (S0.bytes HL.out) und64b rfl (ib rest HR.out) ?_)
    | (go_at_call 75; (with_reducible refine (HC.out _ S0.tab).mono ?_); rintro e w1 ⟨rfl, hb1⟩; have S1 := S0.on hb1; clear hb1 S0)
    | ((with_reducible refine at_store 96 (.tmp 8) (.tmp 7) rfl ?_); refine wpList_store_mid rfl 96 (.tmp 8) (.tmp 7) rfl w.heap.size 0 ((comp hs rest).map wv).toArray rfl rfl (S1.thereW HL.out HCL.out) (i8A HCL.out) (words_one _) ?_; refine gen_world (Pq := fun W => NextS w W 3 (sval (comp hs rest) rest n)) (G := fun W => wpList _ _ _ _ _ W) (S1.setWords HL.out HCL.out hg) ?_; intro w2 S2; clear S1)
    | ((with_reducible refine at_store 97 (.tmp 10) (.tmp 9) rfl ?_); refine wpList_store_mid rfl 97 (.tmp 10) (.tmp 9) rfl w.heap.size 8 ((zeros 64).map Wire.bv).toArray rfl rfl (S2.thereB HCL.out HZ.out) (i64A rfl) (bytes_all _) ?_; refine gen_world (Pq := fun W => NextS w W 3 (sval (comp hs rest) (zeros 64) n)) (G := fun W => wpList _ _ _ _ _ W) (S2.setBytes HCL.out HZ.out hg) ?_; intro w3 S3; clear S2)
    | ((with_reducible refine at_slot 11 rfl ?_); refine wpList_load_mid rfl 100 (.tmp 1) rfl w.heap.size 0 rfl (sval (comp hs rest) (zeros 64) n) _ S3.val.range Tryd.underlying100 rfl (infoS_of HSL.out) ?_)
    | ((with_reducible refine at_store 100 (.tmp 2) (.tmp 11) rfl ?_); refine wpList_store_mid rfl 100 (.tmp 2) (.tmp 11) rfl (w.heap.size + 1) 0 (sval (comp hs rest) (zeros 64) n).toArray rfl rfl S3.thereRes (infoS_ofA HSL.out) (sval_one _ _ _) ?_))
  refine bodyPost_ret (v := .agg (sval (comp hs rest) (zeros 64) n).toArray) ?_ rfl ⟨rfl, S3.fin.2⟩
  simp [results, Tryd.results72, asAddr, Act.put]
  rw [S3.fin.1]

end Hash
end Go.Proofs.YthpkeaafgabjiaaDoor

