/- A new row of bytes that is written in place. No condition. -/
import Derived.Test.YtfeifmcgcgmhnaaFRefW
import Derived.Test.YtfeifmcgcgmhnaaFNewt
namespace Go.Proofs.Ytfeifmcgcgmhnaa
open Go.RowKit
namespace Gf
open Wire (Lies bv own_below lies_own bytes_one)

theorem cell_new (w : World) (u : Value) (t : TypeId) : (w.alloc (.cells #[u] t)).cell? ⟨w.heap.size, 0, none⟩ = some u :=
  (cell_of_row (w.alloc (.cells #[u] t)) w.heap.size 0 #[u] t (0, 0) (heap_alloc_new w _)).trans rfl
theorem cell_old (w : World) (o : Obj) (p : Addr) (h : p.block < w.heap.size) : (w.alloc o).cell? p = w.cell? p := World.cell?_of_block (w := w) (Below.heap_alloc w o p.block h)

/-- A slice of n bytes in block g, from base on, that nobody else has. -/
structure Row (w : World) (base g n : Nat) (l : List UInt8) : Prop where
  own : w.ownsRow base 5 1 (.slice (some ⟨g, 0, none⟩) n n) n (l.map bv)
section
variable {w w' : World} {base g n : Nat} {l : List UInt8}
theorem Row.len (h : Row w base g n l) : l.length = n := by have := h.own.1; simpa using this
theorem Row.at_ (h : Row w base g n l) {j : Nat} {x : UInt8} (hx : l[j]? = some x) : w.cell? ⟨g, j, none⟩ = some (.int .u8 (x.toNat : Int)) ∧ w.frozen? ⟨g, j, none⟩ = false := by
  have hj : j < n * 1 := by have := h.len; have := (List.getElem?_eq_some_iff.1 hx).1; omega
  refine ⟨?_, h.own.frozenAt j⟩
  rw [h.own.cellAt j hj, List.getElem?_map, hx]; rfl
theorem Row.on (h : Row w base g n l) (hb : Below w.heap.size w w') : Row w' base g n l := ⟨own_below h.own hb⟩
theorem Row.set (h : Row w base g n l) (j : Nat) (x : UInt8) : Row (w.setCell ⟨g, j, none⟩ (.int .u8 (x.toNat : Int))) base g n (l.set j x) := by
  refine ⟨?_⟩
  rw [List.map_set]
  exact (h.own.stored j (bv x)).1
theorem Row.lies (h : Row w base g n l) : Lies w w.heap.size 1 (some ⟨g, 0, none⟩) n n (l.map bv) := lies_own h.own
theorem Row.from_ (h : Row w base g n l) : base ≤ g := by
  rcases h.own.2 with ⟨h0, _⟩ | ⟨g', cap, cur, he, hb, _⟩
  · cases h0
  · simp only [Value.slice.injEq, Option.some.injEq, Addr.mk.injEq, and_true, true_and] at he
    omega
theorem Row.size (h : Row w base g n l) : g < w.heap.size := by
  rcases h.own.2 with ⟨h0, _⟩ | ⟨g', cap, cur, he, hb, hg, _⟩
  · cases h0
  · simp only [Value.slice.injEq, Option.some.injEq, Addr.mk.injEq, and_true, true_and] at he
    have := (Array.getElem?_eq_some_iff.1 hg).1
    omega
theorem row_made (h : w'.ownsRow base 5 1 (.slice (some ⟨g, 0, none⟩) n n) n (madeCells (Value.int .u8 0).cells (n * 1)).toList) : Row w' base g n (List.replicate n 0) := by
  rw [show (Value.int .u8 0).cells = #[.int .u8 0] from rfl, Nat.mul_one, toList_madeCells_one] at h
  exact ⟨by rw [List.map_replicate]; exact h⟩
end
/-- The list of weights, of which the first k are there. -/
def wsofar (xs : List UInt8) (x : UInt8) (k : Nat) : List UInt8 := firstW xs x k ++ List.replicate (xs.length - k) 0
theorem wsofar_zero (xs : List UInt8) (x : UInt8) : wsofar xs x 0 = List.replicate xs.length 0 := by simp [wsofar, firstW]
theorem wsofar_all (xs : List UInt8) (x : UInt8) : wsofar xs x xs.length = weights xs x := by simp [wsofar, firstW, weights]
theorem wsofar_next {xs : List UInt8} {x : UInt8} {k : Nat} (h : k < xs.length) : (wsofar xs x k)[k]? = some 0 ∧ wsofar xs x (k + 1) = (wsofar xs x k).set k (weight xs x k) := by
  obtain ⟨d, hd⟩ : ∃ d, xs.length - k = d + 1 := ⟨xs.length - k - 1, by omega⟩
  have hl : (firstW xs x k).length = k := firstW_length xs x k
  unfold wsofar
  refine ⟨?_, ?_⟩
  · rw [List.getElem?_append_right (by omega), hl, hd]; simp
  · rw [firstW_succ, hd, List.replicate_succ, List.set_append_right _ _ (by omega), hl, Nat.sub_self, show xs.length - (k + 1) = d by omega]
    simp
end Gf
end Go.Proofs.Ytfeifmcgcgmhnaa
