/- The reference's order of quarter rounds: a new slice of eight new slices. No condition. -/
import Derived.Test.YtdlcoajjhcbffaaDoorZCRefQ
namespace Go.Proofs.YtdlcoajjhcbffaaDoor
open Go.RowKit
namespace Cha

def place (k : Nat) : Nat × Nat × Nat × Nat := places.getD k (0, 0, 0, 0)
def ordL (k : Nat) : List Value := [.int .i64 ((place k).1 : Int), .int .i64 ((place k).2.1 : Int), .int .i64 ((place k).2.2.1 : Int), .int .i64 ((place k).2.2.2 : Int)]
def ordS (g k : Nat) : Value := .slice (some ⟨g + k, 0, none⟩) 4 4
/-- The first m of the slices lie in new blocks. -/
structure OrdP (w W : World) (m : Nat) : Prop where
  size : W.heap.size = w.heap.size + m
  rows : ∀ k, k < m → Arr W (w.heap.size + k) 4 (ordL k)
  below : Below w.heap.size w W
theorem ordP0 (w : World) : OrdP w w 0 := ⟨rfl, fun k h => by omega, Below.refl _ _⟩
theorem OrdP.step {w W : World} {m : Nat} (h : OrdP w W m) (t : TypeId) : OrdP w (W.alloc (.cells (ordL m).toArray t)) (m + 1) := by
  have hs := h.size
  refine ⟨by simp; omega, fun k hk => ?_, h.below.alloc (by omega) _⟩
  by_cases hkm : k = m
  · subst hkm
    have := arr_new W (ordL k).toArray t
    rw [hs] at this
    exact this
  · exact (h.rows k (by omega)).alloc (by omega) _
/-- The slice of slices lies in block g + 8. -/
structure Ord8 (W : World) (g : Nat) : Prop where
  rows : ∀ k, k < 8 → Arr W (g + k) 4 (ordL k)
  top : Arr W (g + 8) 8 [ordS g 0, ordS g 1, ordS g 2, ordS g 3, ordS g 4, ordS g 5, ordS g 6, ordS g 7]
  lt : g + 8 < W.heap.size
theorem OrdP.last {w W : World} (h : OrdP w W 8) (t : TypeId) :
    Ord8 (W.alloc (.cells #[ordS w.heap.size 0, ordS w.heap.size 1, ordS w.heap.size 2, ordS w.heap.size 3, ordS w.heap.size 4, ordS w.heap.size 5, ordS w.heap.size 6, ordS w.heap.size 7] t)) w.heap.size ∧
    Below w.heap.size w (W.alloc (.cells #[ordS w.heap.size 0, ordS w.heap.size 1, ordS w.heap.size 2, ordS w.heap.size 3, ordS w.heap.size 4, ordS w.heap.size 5, ordS w.heap.size 6, ordS w.heap.size 7] t)) := by
  have hs := h.size
  refine ⟨⟨fun k hk => (h.rows k hk).alloc (by omega) _, ?_, by simp; omega⟩, h.below.alloc (by omega) _⟩
  have := arr_new W #[ordS w.heap.size 0, ordS w.heap.size 1, ordS w.heap.size 2, ordS w.heap.size 3, ordS w.heap.size 4, ordS w.heap.size 5, ordS w.heap.size 6, ordS w.heap.size 7] t
  rw [hs] at this
  exact this
theorem Ord8.below {W W2 : World} {g : Nat} (h : Ord8 W g) (hb : Below W.heap.size W W2) : Ord8 W2 g :=
  ⟨fun k hk => (h.rows k hk).below hb (by have := h.lt; omega), h.top.below hb h.lt, Nat.lt_of_lt_of_le h.lt hb.size⟩
/-- The four numbers of place k, each read through the slice of slices. -/
theorem Ord8.at_ {W : World} {g k : Nat} (h : Ord8 W g) (hk : k < 8) : W.cell? ⟨g + 8, k, none⟩ = some (.slice (some ⟨g + k, 0, none⟩) 4 4) ∧ W.cell? ⟨g + k, 0, none⟩ = some (.int .i64 ((place k).1 : Int)) ∧
    W.cell? ⟨g + k, 1, none⟩ = some (.int .i64 ((place k).2.1 : Int)) ∧ W.cell? ⟨g + k, 2, none⟩ = some (.int .i64 ((place k).2.2.1 : Int)) ∧ W.cell? ⟨g + k, 3, none⟩ = some (.int .i64 ((place k).2.2.2 : Int)) := by
  refine ⟨(h.top.at_ (i := k) (u := ordS g k) ?_).1, ((h.rows k hk).at_ (i := 0) rfl).1, ((h.rows k hk).at_ (i := 1) rfl).1, ((h.rows k hk).at_ (i := 2) rfl).1, ((h.rows k hk).at_ (i := 3) rfl).1⟩
  match k, hk with
  | 0, _ => rfl
  | 1, _ => rfl
  | 2, _ => rfl
  | 3, _ => rfl
  | 4, _ => rfl
  | 5, _ => rfl
  | 6, _ => rfl
  | 7, _ => rfl
theorem place_apart {k : Nat} (hk : k < 8) : Apart (place k) := places_apart _ (by
  unfold place
  rw [List.getD_eq_getElem?_getD, List.getElem?_eq_getElem (by show k < 8; exact hk)]
  exact List.getElem_mem _)
/-- A slice of slices is returned; the memory that was there is as it was. -/
def GivesO (w : World) (e : Ending) (w' : World) : Prop := e = .returned (.slice (some ⟨w.heap.size + 8, 0, none⟩) 8 8) ∧ Ord8 w' w.heap.size ∧ Below w.heap.size w w'

set_option maxRecDepth 100000 in
set_option maxHeartbeats 1000000 in
theorem order_any (w : World) : Calls Tryd.prog 69 #[] w (GivesO w) := by
  go_enter Tryd.func69, Tryd.ntmps69
  go_wp2
  go_ret
  exact ⟨rfl, (((((((((ordP0 w).step 3).step 3).step 3).step 3).step 3).step 3).step 3).step 3).last 101⟩

end Cha
end Go.Proofs.YtdlcoajjhcbffaaDoor
