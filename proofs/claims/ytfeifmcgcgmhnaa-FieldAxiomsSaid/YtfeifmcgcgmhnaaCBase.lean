/- Words of 32 bits and bytes in the model, arrays in memory that read as lists, for the proofs over the package cipher. No condition. -/
import Derived.Test.YtfeifmcgcgmhnaaProg
import Derived.Test.YtfeifmcgcgmhnaaCha
import Derived.WalkKit
import Derived.WalkSpells
import Derived.WalkLawsBesides
import Derived.OwnWalk
import Derived.IntWalk
import Derived.Lib.Hide
import Derived.Lib.AppendStr
import Derived.Lib.ConvBytes
import Derived.Laws.BytesArg
import Derived.Deep.QuietTactic
import Derived.BigQuiet
import Derived.Deep.Draws
import Derived.Deep.MidRow
import Derived.StillTailTactics
namespace Go.Proofs.Ytfeifmcgcgmhnaa
open Go.RowKit
namespace Cha

/-- A byte as a cell holds it. -/
def bv (c : UInt8) : Value := .int .u8 (c.toNat : Int)
/-- A text as a value. -/
def sv (l : List UInt8) : Value := .string ⟨l.toArray⟩
theorem strOf (l : List UInt8) : Value.string (strOfNums (l.map fun c => (c.toNat : Int))) = sv l := by
  unfold sv strOfNums
  simp [List.map_map, Function.comp_def]
theorem bytes_one (l : List UInt8) : ∀ u ∈ l.map bv, u.oneCell' = true := by
  intro u hu
  obtain ⟨c, _, rfl⟩ := List.mem_map.1 hu
  rfl
def wv (x : Nat) : Value := .int .u32 (x : Int)

theorem wrap32 (n : Nat) : IntKind.u32.wrap (n : Int) = ((n % 4294967296 : Nat) : Int) := by rw [IntKind.wrap_u32]; omega
theorem ofInt32 {a : Nat} (h : a < 4294967296) : (BitVec.ofInt 32 (a : Int)).toNat = a := by
  rw [BitVec.ofInt_natCast, BitVec.toNat_ofNat]; exact Nat.mod_eq_of_lt (by omega)
theorem xor32 {a b : Nat} (ha : a < 4294967296) (hb : b < 4294967296) : bits .xor .u32 (a : Int) (b : Int) = ((a ^^^ b : Nat) : Int) := by
  show IntKind.u32.wrap ((BitVec.ofInt 32 (a : Int) ^^^ BitVec.ofInt 32 (b : Int)).toNat : Int) = _
  rw [BitVec.toNat_xor, ofInt32 ha, ofInt32 hb, wrap32, Nat.mod_eq_of_lt (Nat.xor_lt_two_pow (n := 32) ha hb)]
theorem and32 {a b : Nat} (ha : a < 4294967296) (hb : b < 4294967296) : bits .and .u32 (a : Int) (b : Int) = ((a &&& b : Nat) : Int) := by
  show IntKind.u32.wrap ((BitVec.ofInt 32 (a : Int) &&& BitVec.ofInt 32 (b : Int)).toNat : Int) = _
  rw [BitVec.toNat_and, ofInt32 ha, ofInt32 hb, wrap32, Nat.mod_eq_of_lt (Nat.and_lt_two_pow (n := 32) _ hb)]
theorem or32 {a b : Nat} (ha : a < 4294967296) (hb : b < 4294967296) : bits .or .u32 (a : Int) (b : Int) = ((a ||| b : Nat) : Int) := by
  show IntKind.u32.wrap ((BitVec.ofInt 32 (a : Int) ||| BitVec.ofInt 32 (b : Int)).toNat : Int) = _
  rw [BitVec.toNat_or, ofInt32 ha, ofInt32 hb, wrap32, Nat.mod_eq_of_lt (Nat.or_lt_two_pow (n := 32) ha hb)]
theorem add32 (a b : Nat) : IntKind.u32.wrap ((a : Int) + (b : Int)) = ((add a b : Nat) : Int) := by
  rw [IntKind.wrap_u32]; unfold add; omega

theorem at_slot {P : Program} {ops : Array Oper} {rest : List Oper} {o : Oper} {a : Act} {w : World} {Q : Exit → Act → World → Prop} (k : Tmp) (_hd : o.dst = some k) (h : wpList P ops Q (o :: rest) a w) : wpList P ops Q (o :: rest) a w := h
theorem at_store {P : Program} {ops : Array Oper} {rest : List Oper} {o : Oper} {a : Act} {w : World} {Q : Exit → Act → World → Prop} (t : TypeId) (x y : Operand) (_ho : o.op = .store t x y) (h : wpList P ops Q (o :: rest) a w) : wpList P ops Q (o :: rest) a w := h

/-- An array that lies in block g from its head on. -/
structure Arr (w : World) (g n : Nat) (xs : List Value) : Prop where
  len : xs.length = n
  cells : ∀ (j : Nat) (u : Value), xs[j]? = some u → w.cell? ⟨g, j, none⟩ = some u
  free : ∀ j, j < n → w.frozen? ⟨g, j, none⟩ = false

theorem Arr.size {w : World} {g n : Nat} {xs : List Value} (h : Arr w g n xs) (hn : 0 < n) : g < w.heap.size := by
  have hl := h.len
  exact World.block_lt_of_cell? w _ (h.cells 0 (xs[0]'(by omega)) (List.getElem?_eq_getElem _))
theorem arr_new (w : World) (cs : Array Value) (t : TypeId) : Arr (w.alloc (.cells cs t)) w.heap.size cs.size cs.toList := by
  refine ⟨by simp, fun j u hu => ?_, fun j _ => frozen_of_row (w.alloc (.cells cs t)) w.heap.size j cs t (heap_alloc_new w _)⟩
  rw [cell_of_row (w.alloc (.cells cs t)) w.heap.size j cs t (0, 0) (heap_alloc_new w _)]
  simpa using hu
theorem Arr.keep {w w' : World} {g n : Nat} {xs : List Value} (h : Arr w g n xs) (hc : ∀ j, w'.cell? ⟨g, j, none⟩ = w.cell? ⟨g, j, none⟩) (hf : ∀ j, w'.frozen? ⟨g, j, none⟩ = w.frozen? ⟨g, j, none⟩) : Arr w' g n xs :=
  ⟨h.len, fun j u hu => (hc j).trans (h.cells j u hu), fun j hj => (hf j).trans (h.free j hj)⟩
theorem Arr.below {w w' : World} {B g n : Nat} {xs : List Value} (h : Arr w g n xs) (hb : Below B w w') (hg : g < B) : Arr w' g n xs :=
  h.keep (fun j => hb.cell (p := ⟨g, j, none⟩) hg) (fun j => hb.frozen (p := ⟨g, j, none⟩) hg)
theorem Arr.alloc {w : World} {g n : Nat} {xs : List Value} (h : Arr w g n xs) (hg : g < w.heap.size) (o : Obj) : Arr (w.alloc o) g n xs :=
  h.below ((Below.refl w.heap.size w).alloc (Nat.le_refl _) o) hg
theorem Arr.other {w : World} {g n k i : Nat} {xs : List Value} (h : Arr w g n xs) (hk : g ≠ k) (v : Value) : Arr (w.setCell ⟨k, i, none⟩ v) g n xs :=
  h.keep (fun j => World.cell?_setCell_other _ _ _ _ (by intro e; cases e; exact hk rfl)) (fun j => World.frozen?_setCell _ _ _ _)
theorem Arr.drew {w : World} {g n : Nat} {xs : List Value} (h : Arr w g n xs) (k : Nat) : Arr (w.drewN k) g n xs := h.keep (fun _ => rfl) (fun _ => rfl)
theorem Arr.set {w : World} {g n i : Nat} {xs : List Value} (h : Arr w g n xs) (hi : i < n) (v : Value) : Arr (w.setCell ⟨g, i, none⟩ v) g n (xs.set i v) := by
  refine ⟨by rw [List.length_set]; exact h.len, fun j u hu => ?_, fun j hj => (World.frozen?_setCell _ _ _ _).trans (h.free j hj)⟩
  rw [List.getElem?_set] at hu
  have hl := h.len
  split at hu
  · rename_i e
    subst e
    rw [if_pos (by omega)] at hu
    cases hu
    exact World.cell?_setCell_same _ _ _ (h.cells i _ (List.getElem?_eq_getElem (by omega)))
  · rename_i e
    rw [World.cell?_setCell_other _ _ _ _ (by intro e2; cases e2; exact e rfl)]
    exact h.cells j u hu
theorem Arr.at_ {w : World} {g n i : Nat} {xs : List Value} (h : Arr w g n xs) {u : Value} (hu : xs[i]? = some u) : w.cell? ⟨g, i, none⟩ = some u ∧ w.frozen? ⟨g, i, none⟩ = false :=
  ⟨h.cells i u hu, h.free i (by have := h.len; have := (List.getElem?_eq_some_iff.1 hu).1; omega)⟩
theorem Arr.range {w : World} {g n : Nat} {xs : List Value} (h : Arr w g n xs) : w.rangeAt g 0 xs := fun j u hu => by rw [Nat.zero_add]; exact h.cells j u hu
theorem Arr.there {w : World} {g n : Nat} {xs : List Value} (h : Arr w g n xs) : w.there g 0 n := fun j hj => by
  rw [Nat.zero_add]
  exact ⟨by rw [h.cells j _ (List.getElem?_eq_getElem (by rw [h.len]; exact hj))]; rfl, h.free j hj⟩

/-- An array of words is returned; the memory that was there is as it was. -/
def GivesA (xs : List Value) (w : World) (e : Ending) (w' : World) : Prop := e = .returned (.agg xs.toArray) ∧ Below w.heap.size w w'

theorem below_cells {B g : Nat} (hg : B ≤ g) : ∀ (vs : List Value) (o : Nat) (w : World), Below B w (w.setCells g o vs)
  | [], _, w => Below.refl B w
  | v :: r, o, w => ((Below.refl B w).setCell (p := ⟨g, o, none⟩) hg v).trans (below_cells hg r (o + 1) _)
theorem words_one (l : List Nat) : ((l.map wv).toArray).all (·.oneCell') = true := all_oneCell_toArray (by
  intro v hv
  obtain ⟨c, _, rfl⟩ := List.mem_map.1 hv
  rfl)
theorem bytes_all (l : List UInt8) : ((l.map bv).toArray).all (·.oneCell') = true := all_oneCell_toArray (by
  intro v hv
  obtain ⟨c, _, rfl⟩ := List.mem_map.1 hv
  rfl)
/-- An array that was stored over another one. -/
theorem Arr.over {w : World} {g n : Nat} {xs ys : List Value} (h : Arr w g n xs) (hy : ys.length = n) : Arr (w.setCells g 0 ys) g n ys := by
  have ht := h.there
  have hr := World.rangeAt_setCells_same w g 0 ys (by rw [hy]; exact ht)
  refine ⟨hy, fun j u hu => ?_, fun j hj => (World.frozen?_setCells _ _ _ _ _).trans (h.free j hj)⟩
  have := hr j u hu
  rwa [Nat.zero_add] at this
theorem Arr.aside {w : World} {g k n : Nat} {xs ys : List Value} (h : Arr w g n xs) (hk : g ≠ k) (o : Nat) : Arr (w.setCells k o ys) g n xs :=
  h.keep (fun _ => World.cell?_setCells_out k ys o w _ (fun e => absurd e hk)) (fun _ => World.frozen?_setCells _ _ _ _ _)

theorem gen_world {W' : World} {Pq G : World → Prop} (h : Pq W') (k : ∀ W, Pq W → G W) : G W' := k _ h
theorem arr_end {w wr : World} {g : Nat} {xs : List Value} (ty : TypeId) {d : TypeDesc} (hb : Below w.heap.size w wr) (hg : w.heap.size ≤ g) (ht : wr.there g 0 xs.length) (hu : Try.prog.underlying ty = some d) (hd : d.isRow = true)
    (hi : (Try.prog.info? ty).map (·.size) = some xs.length) : (loadVar ty ⟨g, 0, none⟩).run Try.prog (wr.setCells g 0 xs) = .ok (.agg xs.toArray) (wr.setCells g 0 xs) ∧ Below w.heap.size w (wr.setCells g 0 xs) :=
  ⟨run_loadVar_mid _ _ _ _ _ d (World.rangeAt_setCells_same wr g 0 xs ht) hu hd hi, hb.trans (below_cells hg xs 0 wr)⟩
theorem wrap_u8 (x : UInt8) : IntKind.u32.wrap (x.toNat : Int) = (x.toNat : Int) := by
  have := x.toNat_lt
  rw [IntKind.wrap_u32]; omega

theorem convA {W : World} {g n : Nat} {l : List UInt8} (h : Arr W g n (l.map bv)) : (convert 30 9 (.slice (some ⟨g, 0, none⟩) n n)).run Try.prog W = .ok (.string ⟨l.toArray⟩) W := by
  have hn : l.length = n := by have := h.len; simpa using this
  have := run_convert_bytes_arg (P := Try.prog) (w := W) 30 5 Try.underlying30 Try.underlying5 g 0 n n (l.map fun c => (c.toNat : Int)) (by simpa using hn) ?_ 9 Try.underlying9
  · rw [this, strOf]; rfl
  · intro i hi
    have hx : l[i]? = some (l[i]'(by omega)) := List.getElem?_eq_getElem _
    have hc := h.cells i (bv (l[i]'(by omega))) (by rw [List.getElem?_map, hx]; rfl)
    rw [Nat.zero_add, hc]
    simp [List.getD, hx, bv]
/-- A text is returned; the memory that was there is as it was. -/
def GivesT (s : List UInt8) (w : World) (e : Ending) (w' : World) : Prop := e = .returned (.string ⟨s.toArray⟩) ∧ Below w.heap.size w w'
theorem bcj {w w1 w2 : World} (h1 : Below w.heap.size w w1) (h2 : Below w1.heap.size w1 w2) : Below w.heap.size w w2 := h1.trans (h2.mono h1.size)
theorem Arr.some_ {w : World} {g n i : Nat} {xs : List Value} (h : Arr w g n xs) (hi : i < n) : (∃ u, w.cell? ⟨g, i, none⟩ = some u) ∧ w.frozen? ⟨g, i, none⟩ = false :=
  ⟨⟨_, h.cells i _ (List.getElem?_eq_getElem (by rw [h.len]; exact hi))⟩, h.free i hi⟩
theorem bv_u8 (n k : Nat) : Value.int .u8 ((n : Int) / (k : Int) % 256) = bv (u8 (n / k)) := by unfold bv u8; congr 1
theorem bv_u8' (n : Nat) : Value.int .u8 ((n : Int) % 256) = bv (u8 n) := by unfold bv u8; congr 1
theorem sizeS (l : List UInt8) : (⟨l.toArray⟩ : ByteArray).size = l.length := by simp [ByteArray.size]
theorem sub32 {a b : Nat} (hb : b < 4294967296) : IntKind.u32.wrap ((a : Int) - (b : Int)) = ((sub a b : Nat) : Int) := by
  rw [IntKind.wrap_u32]; unfold sub; omega
theorem add_mod (a b : Nat) : ((a : Int) + (b : Int)) % 4294967296 = ((add a b : Nat) : Int) := by unfold add; omega

end Cha
end Go.Proofs.Ytfeifmcgcgmhnaa
