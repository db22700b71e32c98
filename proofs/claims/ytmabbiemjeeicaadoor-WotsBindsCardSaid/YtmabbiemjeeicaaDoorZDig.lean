/- A digest in a block of its own: loaded, stored, returned. No condition. -/
import Derived.Test.YtmabbiemjeeicaaDoorZHRefOf
import Derived.Test.YtmabbiemjeeicaaDoorZHOf
import Derived.Test.YtmabbiemjeeicaaDoorZQTail
namespace Go.Proofs.YtmabbiemjeeicaaDoor
open Go.RowKit
namespace Mk
open Wire (bv sv Lies)
open Hash (Arr GivesA bcj)

/-- A digest as a value. -/
def dv (d : List UInt8) : Value := .agg (d.map bv).toArray
theorem und_d : Tryd.prog.underlying 23 = some (.array 16 5) := by kernel_rfl
theorem info_d {d : List UInt8} (h : d.length = 16) : (Tryd.prog.info? 23).map (·.size) = some (d.map bv).length := by
  rw [List.length_map, h]; kernel_rfl
theorem info_dA {d : List UInt8} (h : d.length = 16) : (Tryd.prog.info? 23).map (·.size) = some (d.map bv).toArray.size := by
  rw [List.size_toArray]; exact info_d h
theorem one_d (d : List UInt8) : ((d.map bv).toArray).all (·.oneCell') = true := all_oneCell_toArray (fun v hv => by
  obtain ⟨c, _, rfl⟩ := List.mem_map.1 hv; rfl)
/-- A digest lies in a block of its own. -/
structure Dg (W : World) (g : Nat) (d : List UInt8) : Prop where
  arr : Arr W g 16 (d.map bv)
section
variable {W W' : World} {g : Nat} {d e : List UInt8}
theorem Dg.len (h : Dg W g d) : d.length = 16 := by have := h.arr.len; simpa using this
theorem Dg.lt (h : Dg W g d) : g < W.heap.size := h.arr.size (by omega)
theorem Dg.on (h : Dg W g d) (hb : Below W.heap.size W W') : Dg W' g d := ⟨h.arr.below hb h.lt⟩
theorem Dg.range (h : Dg W g d) : W.rangeAt g 0 (d.map bv) := h.arr.range
theorem Dg.there (h : Dg W g d) : W.there g 0 16 := h.arr.there
theorem Dg.thereA (h : Dg W g d) (he : e.length = 16) : W.there g 0 (e.map bv).toArray.size := by
  rw [List.size_toArray, List.length_map, he]; exact h.there
theorem Dg.put (h : Dg W g d) (he : e.length = 16) : Dg (W.setCells g 0 (e.map bv)) g e := ⟨h.arr.over (by rw [List.length_map]; exact he)⟩
theorem Dg.aside {k : Nat} (h : Dg W g d) (hk : g ≠ k) (xs : List Value) : Dg (W.setCells k 0 xs) g d := ⟨h.arr.aside hk _⟩
theorem dg_new (W : World) (hd : d.length = 16) (t : TypeId) : Dg (W.alloc (.cells (d.map bv).toArray t)) W.heap.size d := by
  have h := Hash.arr_new W (d.map bv).toArray t
  have hs : (d.map bv).toArray.size = 16 := by simp [hd]
  rw [hs] at h
  exact ⟨h⟩
def zero : List UInt8 := List.replicate 16 0
theorem zero_length : zero.length = 16 := rfl
theorem dg_zero (W : World) (t : TypeId) : Dg (W.alloc (.cells #[.int .u8 0, .int .u8 0, .int .u8 0, .int .u8 0, .int .u8 0, .int .u8 0, .int .u8 0, .int .u8 0, .int .u8 0, .int .u8 0, .int .u8 0, .int .u8 0, .int .u8 0, .int .u8 0, .int .u8 0, .int .u8 0] t)) W.heap.size zero :=
  dg_new W zero_length t
end
/-- A digest is returned; the memory that was there is as it was. -/
def GivesD (d : List UInt8) (w : World) (e : Ending) (w' : World) : Prop := e = .returned (dv d) ∧ Below w.heap.size w w'
section
variable {ops : Array Oper} {rest : List Oper} {o : Oper} {a : Act} {w : World} {Q : Exit → Act → World → Prop}
theorem load_d (k : Tmp) (_hk : o.dst = some k) (hgd : o.guard = none) (x : Operand) (ho : o.op = .load 23 x) (g off : Nat) (hx : a.eval x = .pointer (some ⟨g, off, none⟩)) (d : List UInt8) (hd : d.length = 16) (hr : w.rangeAt g off (d.map bv))
    (h : wpList Tryd.prog ops Q rest (a.put o.dst (dv d)) w) : wpList Tryd.prog ops Q (o :: rest) a w :=
  wpList_load_mid hgd 23 x ho g off hx (d.map bv) _ hr und_d rfl (info_d hd) h
theorem store_d (x y : Operand) (ho : o.op = .store 23 x y) (hgd : o.guard = none) (g off : Nat) (hx : a.eval x = .pointer (some ⟨g, off, none⟩)) (d : List UInt8) (hy : a.eval y = dv d) (hd : d.length = 16) (ht : w.there g off 16)
    (h : wpList Tryd.prog ops Q rest (a.put o.dst undef) (w.setCells g off (d.map bv))) : wpList Tryd.prog ops Q (o :: rest) a w :=
  wpList_store_mid hgd 23 x y ho g off (d.map bv).toArray hx hy (by rw [List.size_toArray, List.length_map, hd]; exact ht) (info_dA hd) (one_d d) h
end
/-- What is stored last in the result's block is returned. -/
theorem dg_end {w W : World} {g : Nat} {d e : List UInt8} (h : Dg W g d) (he : e.length = 16) (hb : Below w.heap.size w W) (hg : w.heap.size ≤ g) :
    (loadVar 23 ⟨g, 0, none⟩).run Tryd.prog (W.setCells g 0 (e.map bv)) = .ok (dv e) (W.setCells g 0 (e.map bv)) ∧ Below w.heap.size w (W.setCells g 0 (e.map bv)) :=
  Hash.arr_end (w := w) (wr := W) (g := g) (xs := e.map bv) 23 hb hg (by rw [List.length_map, he]; exact h.there) und_d rfl (info_d he)
end Mk
end Go.Proofs.YtmabbiemjeeicaaDoor
