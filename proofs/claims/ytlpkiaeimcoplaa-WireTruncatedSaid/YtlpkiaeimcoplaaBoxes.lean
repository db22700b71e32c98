/- The variables that the closure of wire.list captures, and the new list, while the loop runs. No condition. -/
import Derived.Test.YtlpkiaeimcoplaaBase
namespace Go.Proofs.Ytlpkiaeimcoplaa
open Go.RowKit
namespace Wire

structure Boxes (w wr : World) (fn : FuncId) (A : Option Addr) (n c to : Nat) : Prop where
  sl : wr.cell? ⟨w.heap.size, 0, none⟩ = some (.slice A n c)
  fn_ : wr.cell? ⟨w.heap.size + 1, 0, none⟩ = some (.func (.func fn) #[] #[])
  to_ : wr.cell? ⟨w.heap.size + 1 + 1, 0, none⟩ = some (.int .i64 (to : Int))
  free : wr.frozen? ⟨w.heap.size + 1 + 1, 0, none⟩ = false
  below : Below w.heap.size w wr
  size : w.heap.size + 1 + 1 < wr.heap.size

theorem cell_new (w : World) (u : Value) (t : TypeId) : (w.alloc (.cells #[u] t)).cell? ⟨w.heap.size, 0, none⟩ = some u :=
  (cell_of_row (w.alloc (.cells #[u] t)) w.heap.size 0 #[u] t (0, 0) (heap_alloc_new w _)).trans rfl
theorem frozen_new (w : World) (cs : Array Value) (t : TypeId) : (w.alloc (.cells cs t)).frozen? ⟨w.heap.size, 0, none⟩ = false :=
  frozen_of_row (w.alloc (.cells cs t)) w.heap.size 0 cs t (heap_alloc_new w _)
theorem size_alloc (w : World) (o : Obj) : (w.alloc o).heap.size = w.heap.size + 1 := by simp
theorem cell_old (w : World) (o : Obj) (p : Addr) (h : p.block < w.heap.size) : (w.alloc o).cell? p = w.cell? p := World.cell?_of_block (w := w) (Below.heap_alloc w o p.block h)

theorem boxes_start (w w4 : World) (fn : FuncId) (A : Option Addr) (n c u : Nat) (t1 t2 t3 : TypeId)
    (hg : (((w.alloc (.cells #[.slice A n c] t1)).alloc (.cells #[.func (.func fn) #[] #[]] t2)).alloc (.cells #[.int .i64 (u : Int)] t3)).grownBy w4 none) : Boxes w w4 fn A n c u := by
  have hc : ∀ p : Addr, p.block < w.heap.size + 1 + 1 + 1 → w4.cell? p = (((w.alloc (.cells #[.slice A n c] t1)).alloc (.cells #[.func (.func fn) #[] #[]] t2)).alloc (.cells #[.int .i64 (u : Int)] t3)).cell? p :=
    fun p hp => World.cell?_of_block (hg.block p.block (by simp only [size_alloc]; omega) (by simp))
  have hz : ((w.alloc (.cells #[.slice A n c] t1)).alloc (.cells #[.func (.func fn) #[] #[]] t2)).heap.size = w.heap.size + 1 + 1 := by simp only [size_alloc]
  refine ⟨?_, ?_, ?_, ?_, ?_, ?_⟩
  · rw [hc _ (by simp; omega), cell_old _ _ _ (by simp only [size_alloc]; omega), cell_old _ _ _ (by simp only [size_alloc]; omega), cell_new]
  · rw [hc _ (by simp), cell_old _ _ _ (by simp only [size_alloc]; omega)]
    have := cell_new (w.alloc (.cells #[.slice A n c] t1)) (.func (.func fn) #[] #[]) t2
    rwa [size_alloc] at this
  · rw [hc _ (by simp)]
    have := cell_new ((w.alloc (.cells #[.slice A n c] t1)).alloc (.cells #[.func (.func fn) #[] #[]] t2)) (.int .i64 (u : Int)) t3
    rwa [hz] at this
  · rw [World.frozen?_of_block (hg.block (w.heap.size + 1 + 1) (by simp only [size_alloc]; omega) (by simp))]
    have := frozen_new ((w.alloc (.cells #[.slice A n c] t1)).alloc (.cells #[.func (.func fn) #[] #[]] t2)) #[.int .i64 (u : Int)] t3
    rwa [hz] at this
  · exact ((((Below.refl _ _).alloc (Nat.le_refl _) _).alloc (by simp) _).alloc (by simp; omega) _).grown hg (by simp only [size_alloc]; omega) (by simp)
  · have := hg.size
    simp only [size_alloc] at this
    omega

section
variable {w wr : World} {fn : FuncId} {A : Option Addr} {n c to : Nat}
theorem Boxes.moved (h : Boxes w wr fn A n c to) (to' : Nat) : Boxes w ((wr.setCell ⟨w.heap.size + 1 + 1, 0, none⟩ (.int .i64 (to' : Int))).drew) fn A n c to' := by
  have hs := h.size
  have hb : ∀ k, k ≠ w.heap.size + 1 + 1 → ((wr.setCell ⟨w.heap.size + 1 + 1, 0, none⟩ (.int .i64 (to' : Int))).drew).heap[k]? = wr.heap[k]? := fun k hk => Below.heap_setCell wr _ _ k hk
  refine ⟨?_, ?_, ?_, ?_, ?_, ?_⟩
  · rw [World.cell?_of_block (w := wr) (hb _ (by show w.heap.size ≠ _; omega))]; exact h.sl
  · rw [World.cell?_of_block (w := wr) (hb _ (by show w.heap.size + 1 ≠ _; omega))]; exact h.fn_
  · show (wr.setCell ⟨w.heap.size + 1 + 1, 0, none⟩ (.int .i64 (to' : Int))).cell? _ = _
    exact World.cell?_setCell_same wr _ _ h.to_
  · show (wr.setCell ⟨w.heap.size + 1 + 1, 0, none⟩ (.int .i64 (to' : Int))).frozen? _ = _
    rw [World.frozen?_setCell]; exact h.free
  · exact (h.below.setCell (p := ⟨w.heap.size + 1 + 1, 0, none⟩) (by show w.heap.size ≤ w.heap.size + 1 + 1; omega) _).drew
  · simpa [World.setCell, World.drew] using hs
theorem Boxes.far (h : Boxes w wr fn A n c to) {w2 : World} {g : Nat} (hg : w.heap.size + 1 + 1 < g) (hgr : wr.grownBy w2 (some g)) : Boxes w w2 fn A n c to := by
  have hs := h.size
  have hb : ∀ k, k ≤ w.heap.size + 1 + 1 → w2.heap[k]? = wr.heap[k]? := fun k hk => hgr.block k (by omega) (by simp; omega)
  refine ⟨?_, ?_, ?_, ?_, ?_, ?_⟩
  · rw [World.cell?_of_block (w := wr) (hb _ (by show w.heap.size ≤ _; omega))]; exact h.sl
  · rw [World.cell?_of_block (w := wr) (hb _ (by show w.heap.size + 1 ≤ _; omega))]; exact h.fn_
  · rw [World.cell?_of_block (w := wr) (hb _ (Nat.le_refl _))]; exact h.to_
  · rw [World.frozen?_of_block (w := wr) (hb _ (Nat.le_refl _))]; exact h.free
  · exact h.below.grown hgr (by omega) (fun k hk => by simp at hk; omega)
  · have := hgr.size; omega
end

theorem set_rep {α : Type} (f : α → Value) (xs : List α) (v : α) (z : Value) {k i : Nat} (hi : xs.length = i) (hk : i < k) :
    (xs.map f ++ List.replicate (k - i) z).set i (f v) = (xs ++ [v]).map f ++ List.replicate (k - (i + 1)) z := by
  obtain ⟨d, hd⟩ : ∃ d, k - i = d + 1 := ⟨k - i - 1, by omega⟩
  have hd2 : k - (i + 1) = d := by omega
  subst hi
  rw [hd, hd2, List.set_append_right _ _ (by simp)]
  simp [List.replicate_succ]
theorem get_rep {α : Type} (f : α → Value) (xs : List α) (z : Value) {k i : Nat} (hi : xs.length = i) (hk : i < k) :
    (xs.map f ++ List.replicate (k - i) z)[i]? = some z := by
  subst hi
  rw [List.getElem?_append_right (by simp)]
  simp only [List.length_map, Nat.sub_self]
  rw [List.getElem?_replicate, if_pos (by omega)]

end Wire
end Go.Proofs.Ytlpkiaeimcoplaa
