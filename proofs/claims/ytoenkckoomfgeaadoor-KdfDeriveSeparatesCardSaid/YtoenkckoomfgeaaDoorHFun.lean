/- The hash of bytes: Sum, of the package. Condition: the table of round constants reads as the program lays it; the slice's cells read as the bytes. -/
import Derived.Test.YtoenkckoomfgeaaDoorHSum
namespace Go.Proofs.YtoenkckoomfgeaaDoor
open Go.RowKit
namespace Hash

theorem lies_on {w w' : World} {size n c : Nat} {A : Option Addr} {xs : List Value} (h : Wire.Lies w w.heap.size size A n c xs) (hb : Below w.heap.size w w') : Wire.Lies w' w'.heap.size size A n c xs := (h.below hb).more hb.size
/-- A result's block, the first new one, and the table. -/
structure Room (w W : World) (gT n : Nat) : Prop where
  res : ∃ ys, Arr W w.heap.size n ys
  tab : Table gT W
  below : Below w.heap.size w W
theorem Room.on {w W W2 : World} {gT n : Nat} (h : Room w W gT n) (hn : 0 < n) (hb : Below W.heap.size W W2) : Room w W2 gT n := by
  obtain ⟨ys, hy⟩ := h.res
  exact ⟨⟨ys, hy.below hb (hy.size hn)⟩, h.tab.below hb h.tab.size, h.below.trans (hb.mono h.below.size)⟩
theorem room_new {w : World} {gT n : Nat} (ht : Table gT w) (c : Array Value) (hc : c.size = n) (t : TypeId) : Room w (w.alloc (.cells c t)) gT n := by
  have hb : Below w.heap.size w (w.alloc (.cells c t)) := (Below.refl _ _).alloc (Nat.le_refl _) _
  have h := arr_new w c t
  rw [hc] at h
  exact ⟨⟨_, h⟩, ht.below hb ht.size, hb⟩
theorem Room.thereR {w W : World} {gT n : Nat} (h : Room w W gT n) {xs : List Value} (hl : xs.length = n) : W.there w.heap.size 0 xs.toArray.size := by
  obtain ⟨ys, hy⟩ := h.res
  rw [show xs.toArray.size = n by rw [List.size_toArray]; exact hl]; exact hy.there
theorem Room.fin {w W : World} {gT n : Nat} (h : Room w W gT n) {xs : List Value} (hl : xs.length = n) (ty : TypeId) {d : TypeDesc} (hu : Tryd.prog.underlying ty = some d) (hd : d.isRow = true) (hi : (Tryd.prog.info? ty).map (·.size) = some xs.length) :
    (loadVar ty ⟨w.heap.size, 0, none⟩).run Tryd.prog (W.setCells w.heap.size 0 xs) = .ok (.agg xs.toArray) (W.setCells w.heap.size 0 xs) ∧ Below w.heap.size w (W.setCells w.heap.size 0 xs) := by
  obtain ⟨ys, hy⟩ := h.res
  exact arr_end (w := w) (wr := W) (g := w.heap.size) (xs := xs) ty h.below (Nat.le_refl _) (by rw [hl]; exact hy.there) hu hd hi
theorem sha_length (l : List UInt8) : (sha l).length = 32 := by unfold sha; rw [flat4, blocks_length]
theorem shaV_length (l : List UInt8) : ((sha l).map Wire.bv).length = 32 := by rw [List.length_map, sha_length]

end Hash
end Go.Proofs.YtoenkckoomfgeaaDoor
