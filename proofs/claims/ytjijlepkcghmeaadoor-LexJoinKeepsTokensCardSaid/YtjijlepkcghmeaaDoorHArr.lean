/- Arrays in memory read as lists. No condition. -/
import Derived.Test.YtjijlepkcghmeaaDoorBase
import Derived.Deep.MidRow
namespace Go.Proofs.YtjijlepkcghmeaaDoor
open Go.RowKit
namespace Hash

theorem at_slot {P : Program} {ops : Array Oper} {rest : List Oper} {o : Oper} {a : Act} {w : World} {Q : Exit → Act → World → Prop} (k : Tmp) (_hd : o.dst = some k) (h : wpList P ops Q (o :: rest) a w) : wpList P ops Q (o :: rest) a w := h
theorem at_store {P : Program} {ops : Array Oper} {rest : List Oper} {o : Oper} {a : Act} {w : World} {Q : Exit → Act → World → Prop} (t : TypeId) (x y : Operand) (_ho : o.op = .store t x y) (h : wpList P ops Q (o :: rest) a w) : wpList P ops Q (o :: rest) a w := h

/-- An array that lies in block g from its head on. -/
structure Arr (w : World) (g n : Nat) (xs : List Value) : Prop where
  len : xs.length = n
  cells : ∀ (j : Nat) (u : Value), xs[j]? = some u → w.cell? ⟨g, j, none⟩ = some u
  free : ∀ j, j < n → w.frozen? ⟨g, j, none⟩ = false

theorem Arr.size {w : World} {g n : Nat} {xs : List Value} (h : Arr w g n xs) (hn : 0 < n) : g < w.heap.size := by
  have hl := h.len
  exact World.block_lt_of_cell? w _ (h.cells 0 (xs[0]'(by omega)) (List.getElem?_eq_getElem _))
theorem arr_new (w : World) (cs : Array Value) (t : TypeId) : Arr (w.alloc (.cells cs t)) w.heap.size cs.size cs.toList := by
  refine ⟨by simp, fun j u hu => ?_, fun j _ => frozen_of_row (w.alloc (.cells cs t)) w.heap.size j cs t (heap_alloc_new w _)⟩
  rw [cell_of_row (w.alloc (.cells cs t)) w.heap.size j cs t (0, 0) (heap_alloc_new w _)]
  simpa using hu
theorem Arr.keep {w w' : World} {g n : Nat} {xs : List Value} (h : Arr w g n xs) (hc : ∀ j, w'.cell? ⟨g, j, none⟩ = w.cell? ⟨g, j, none⟩) (hf : ∀ j, w'.frozen? ⟨g, j, none⟩ = w.frozen? ⟨g, j, none⟩) : Arr w' g n xs :=
  ⟨h.len, fun j u hu => (hc j).trans (h.cells j u hu), fun j hj => (hf j).trans (h.free j hj)⟩
theorem Arr.below {w w' : World} {B g n : Nat} {xs : List Value} (h : Arr w g n xs) (hb : Below B w w') (hg : g < B) : Arr w' g n xs :=
  h.keep (fun j => hb.cell (p := ⟨g, j, none⟩) hg) (fun j => hb.frozen (p := ⟨g, j, none⟩) hg)
theorem Arr.alloc {w : World} {g n : Nat} {xs : List Value} (h : Arr w g n xs) (hg : g < w.heap.size) (o : Obj) : Arr (w.alloc o) g n xs :=
  h.below ((Below.refl w.heap.size w).alloc (Nat.le_refl _) o) hg
theorem Arr.other {w : World} {g n k i : Nat} {xs : List Value} (h : Arr w g n xs) (hk : g ≠ k) (v : Value) : Arr (w.setCell ⟨k, i, none⟩ v) g n xs :=
  h.keep (fun j => World.cell?_setCell_other _ _ _ _ (by intro e; cases e; exact hk rfl)) (fun j => World.frozen?_setCell _ _ _ _)
theorem Arr.drew {w : World} {g n : Nat} {xs : List Value} (h : Arr w g n xs) (k : Nat) : Arr (w.drewN k) g n xs := h.keep (fun _ => rfl) (fun _ => rfl)
theorem Arr.set {w : World} {g n i : Nat} {xs : List Value} (h : Arr w g n xs) (hi : i < n) (v : Value) : Arr (w.setCell ⟨g, i, none⟩ v) g n (xs.set i v) := by
  refine ⟨by rw [List.length_set]; exact h.len, fun j u hu => ?_, fun j hj => (World.frozen?_setCell _ _ _ _).trans (h.free j hj)⟩
  rw [List.getElem?_set] at hu
  have hl := h.len
  split at hu
  · rename_i e
    subst e
    rw [if_pos (by omega)] at hu
    cases hu
    exact World.cell?_setCell_same _ _ _ (h.cells i _ (List.getElem?_eq_getElem (by omega)))
  · rename_i e
    rw [World.cell?_setCell_other _ _ _ _ (by intro e2; cases e2; exact e rfl)]
    exact h.cells j u hu
theorem Arr.at_ {w : World} {g n i : Nat} {xs : List Value} (h : Arr w g n xs) {u : Value} (hu : xs[i]? = some u) : w.cell? ⟨g, i, none⟩ = some u ∧ w.frozen? ⟨g, i, none⟩ = false :=
  ⟨h.cells i u hu, h.free i (by have := h.len; have := (List.getElem?_eq_some_iff.1 hu).1; omega)⟩
theorem Arr.range {w : World} {g n : Nat} {xs : List Value} (h : Arr w g n xs) : w.rangeAt g 0 xs := fun j u hu => by rw [Nat.zero_add]; exact h.cells j u hu
theorem Arr.there {w : World} {g n : Nat} {xs : List Value} (h : Arr w g n xs) : w.there g 0 n := fun j hj => by
  rw [Nat.zero_add]
  exact ⟨by rw [h.cells j _ (List.getElem?_eq_getElem (by rw [h.len]; exact hj))]; rfl, h.free j hj⟩

/-- An array of words is returned; the memory that was there is as it was. -/
def GivesA (xs : List Value) (w : World) (e : Ending) (w' : World) : Prop := e = .returned (.agg xs.toArray) ∧ Below w.heap.size w w'

theorem below_cells {B g : Nat} (hg : B ≤ g) : ∀ (vs : List Value) (o : Nat) (w : World), Below B w (w.setCells g o vs)
  | [], _, w => Below.refl B w
  | v :: r, o, w => ((Below.refl B w).setCell (p := ⟨g, o, none⟩) hg v).trans (below_cells hg r (o + 1) _)
theorem bytes_all (l : List UInt8) : ((l.map Wire.bv).toArray).all (·.oneCell') = true := all_oneCell_toArray (by
  intro v hv
  obtain ⟨c, _, rfl⟩ := List.mem_map.1 hv
  rfl)
/-- An array that was stored over another one. -/
theorem Arr.over {w : World} {g n : Nat} {xs ys : List Value} (h : Arr w g n xs) (hy : ys.length = n) : Arr (w.setCells g 0 ys) g n ys := by
  have ht := h.there
  have hr := World.rangeAt_setCells_same w g 0 ys (by rw [hy]; exact ht)
  refine ⟨hy, fun j u hu => ?_, fun j hj => (World.frozen?_setCells _ _ _ _ _).trans (h.free j hj)⟩
  have := hr j u hu
  rwa [Nat.zero_add] at this
theorem Arr.aside {w : World} {g k n : Nat} {xs ys : List Value} (h : Arr w g n xs) (hk : g ≠ k) (o : Nat) : Arr (w.setCells k o ys) g n xs :=
  h.keep (fun _ => World.cell?_setCells_out k ys o w _ (fun e => absurd e hk)) (fun _ => World.frozen?_setCells _ _ _ _ _)

end Hash
end Go.Proofs.YtjijlepkcghmeaaDoor
