/- Small words that the walks over slices share: memory below, slices that a literal makes, how long texts are in all. No condition. -/
import Derived.Test.YtjijlepkcghmeaaDoorBase
namespace Go.Proofs.YtjijlepkcghmeaaDoor
open Go.RowKit
namespace Wire

theorem size_alloc (w : World) (o : Obj) : (w.alloc o).heap.size = w.heap.size + 1 := by simp
theorem b1 (w : World) (o : Obj) : Below w.heap.size w (w.alloc o) := (Below.refl _ _).alloc (Nat.le_refl _) _
theorem bc {w w1 w2 : World} (h1 : Below w.heap.size w w1) (h2 : Below w1.heap.size w1 w2) : Below w.heap.size w w2 := h1.trans (h2.mono h1.size)
theorem bd (w : World) (k : Nat) : Below w.heap.size w (w.drewN k) := ⟨rfl, rfl, rfl, Nat.le_refl _, fun _ _ => rfl⟩
theorem Lies.on {w w' : World} {size n c : Nat} {A : Option Addr} {xs : List Value} (h : Lies w w.heap.size size A n c xs) (hb : Below w.heap.size w w') : Lies w' w'.heap.size size A n c xs := (h.below hb).more hb.size
theorem lies_lit (w : World) (cs : Array Value) (t : TypeId) (xs : List Value) (h : cs = xs.toArray) (hm : xs.length ≤ maxLen) :
    Lies (w.alloc (.cells cs t)) (w.alloc (.cells cs t)).heap.size 1 (some ⟨w.heap.size, 0, none⟩) xs.length xs.length xs := by
  subst h
  refine ⟨by simp, Nat.le_refl _, hm, fun _ => ⟨_, _, rfl⟩, fun _ => ⟨w.heap.size, 0, rfl, by rw [size_alloc]; omega, fun j u hu => ?_⟩⟩
  rw [Nat.zero_add]
  refine (cell_of_row (w.alloc (.cells xs.toArray t)) w.heap.size j xs.toArray t (0, 0) (heap_alloc_new w _)).trans ?_
  simpa using hu
/-- How long texts are in all. -/
def total (l : List (List UInt8)) : Nat := (l.map List.length).sum
theorem total_snoc {l : List (List UInt8)} {i : Nat} {x : List UInt8} (hx : l[i]? = some x) : total (l.take (i + 1)) = total (l.take i) + x.length := by
  unfold total
  rw [List.take_add_one, hx]
  simp
theorem total_take (l : List (List UInt8)) (i : Nat) : total (l.take i) ≤ total l := by
  have h := List.take_append_drop i l
  have h2 : total l = total (l.take i) + total (l.drop i) := by
    unfold total
    rw [← List.sum_append, ← List.map_append, h]
  omega
theorem total_mem {l : List (List UInt8)} {x : List UInt8} (hx : x ∈ l) : x.length ≤ total l := by
  obtain ⟨i, hi⟩ := List.getElem?_of_mem hx
  have h1 := total_snoc hi
  have h2 := total_take l (i + 1)
  omega
theorem total_bound {k : Nat} : ∀ (l : List (List UInt8)), (∀ x ∈ l, x.length ≤ k) → total l ≤ l.length * k
  | [], _ => by simp [total]
  | x :: l, h => by
    have h1 := total_bound l fun y hy => h y (by simp [hy])
    have h2 := h x (by simp)
    have h3 : total (x :: l) = x.length + total l := rfl
    rw [h3, List.length_cons, Nat.succ_mul]
    omega
/-- It is true; the memory that was there is as it was. -/
def Yes (W : World) (e : Ending) (w' : World) : Prop := e = .returned (.bool true) ∧ Below W.heap.size W w'

end Wire
end Go.Proofs.YtjijlepkcghmeaaDoor
