/- A block as a text, and a text XORed with blocks: Block and Xor, of the package cipher. Conditions: those that each theorem names. -/
import Derived.Test.YtdlcoajjhcbffaaDoorZCBlock
namespace Go.Proofs.YtdlcoajjhcbffaaDoor
open Go.RowKit
namespace Cha

/-- A text and an error number are returned; the memory that was there is as it was. -/
def GivesE (s : List UInt8) (n : Nat) (w : World) (e : Ending) (w' : World) : Prop := e = .returned (.tuple #[.string ⟨s.toArray⟩, .int .i64 (n : Int)]) ∧ Below w.heap.size w w'
/-- A state lies in block g. -/
structure HasS (w W : World) (g : Nat) (l : List Nat) : Prop where
  arr : Arr W g 16 (l.map wv)
  below : Below w.heap.size w W
theorem hasS_new {w W : World} (hb : Below w.heap.size w W) (l : List Nat) (hl : l.length = 16) (t : TypeId) : HasS w ((W.alloc (.cells z16 t)).setCells W.heap.size 0 (l.map wv).toArray.toList) W.heap.size l := by
  have h := arr_new W z16 t
  rw [show z16.size = 16 from rfl] at h
  exact ⟨h.over (by rw [List.length_map]; exact hl), bcj hb (((Below.refl _ _).alloc (Nat.le_refl _) _).trans (below_cells (Nat.le_refl _) _ _ _))⟩
theorem fresh16W (W : World) (l : List Nat) (hl : l.length = 16) (t : TypeId) : (W.alloc (.cells z16 t)).there W.heap.size 0 (l.map wv).toArray.size := by
  have h := (arr_new W z16 t).there
  rw [show z16.size = 16 from rfl] at h
  rw [show (l.map wv).toArray.size = 16 by rw [List.size_toArray, List.length_map]; exact hl]
  exact h
theorem fresh64W (W : World) (bs : List UInt8) (hl : bs.length = 64) (t : TypeId) : (W.alloc (.cells z64 t)).there W.heap.size 0 (bs.map bv).toArray.size := by
  have h := (arr_new W z64 t).there
  rw [z64_size] at h
  rw [show (bs.map bv).toArray.size = 64 by rw [List.size_toArray, List.length_map]; exact hl]
  exact h
theorem new64 {W : World} (bs : List UInt8) (hl : bs.length = 64) (t : TypeId) : Arr ((W.alloc (.cells z64 t)).setCells W.heap.size 0 (bs.map bv).toArray.toList) W.heap.size 64 (bs.map bv) ∧ Below W.heap.size W ((W.alloc (.cells z64 t)).setCells W.heap.size 0 (bs.map bv).toArray.toList) := by
  have h := arr_new W z64 t
  rw [z64_size] at h
  exact ⟨h.over (by rw [List.length_map]; exact hl), ((Below.refl _ _).alloc (Nat.le_refl _) _).trans (below_cells (Nat.le_refl _) _ _ _)⟩
theorem convC {W : World} {g n : Nat} {l : List UInt8} (h : Arr W g n (l.map bv)) (c : Nat) : (convert 47 9 (.slice (some ⟨g, 0, none⟩) n c)).run Tryd.prog W = .ok (.string ⟨l.toArray⟩) W := by
  have hn : l.length = n := by have := h.len; simpa using this
  have := run_convert_bytes_arg (P := Tryd.prog) (w := W) 47 5 Tryd.underlying47 Tryd.underlying5 g 0 n c (l.map fun c => (c.toNat : Int)) (by simpa using hn) ?_ 9 Tryd.underlying9
  · rw [this, strOf]; rfl
  · intro i hi
    have hx : l[i]? = some (l[i]'(by omega)) := List.getElem?_eq_getElem _
    have hc := h.cells i (bv (l[i]'(by omega))) (by rw [List.getElem?_map, hx]; rfl)
    rw [Nat.zero_add, hc]
    simp [List.getD, hx, bv]

end Cha
end Go.Proofs.YtdlcoajjhcbffaaDoor
