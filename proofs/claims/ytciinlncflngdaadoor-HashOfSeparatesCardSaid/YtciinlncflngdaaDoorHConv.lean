/- A slice of bytes as a text, and the reference's Sum of a text's bytes. Condition: at most a million bytes; the table of the reference's constants reads as the program lays it. -/
import Derived.Test.YtciinlncflngdaaDoorHRefSum
import Derived.Test.YtciinlncflngdaaDoorHLawKeys
import Derived.Test.YtciinlncflngdaaDoorRow
namespace Go.Proofs.YtciinlncflngdaaDoor
open Go.RowKit
namespace Hash
open Wire (Lies)

theorem conv_none (w : World) (A : Option Addr) (c : Nat) : (convert 22 9 (.slice A 0 c)).run Tryd.prog w = .ok (.string ⟨#[]⟩) w := by
  cases A with
  | none => kernel_rfl
  | some a => kernel_rfl
theorem convL {w : World} {A : Option Addr} {n c : Nat} {l : List UInt8} (h : Lies w w.heap.size 1 A n c (l.map Wire.bv)) : (convert 22 9 (.slice A n c)).run Tryd.prog w = .ok (.string ⟨l.toArray⟩) w := by
  have hn : l.length = n := by have := h.len; simpa using this
  rcases Nat.eq_zero_or_pos n with h0 | h0
  · subst h0
    obtain rfl := List.eq_nil_of_length_eq_zero hn
    exact conv_none w A c
  · obtain ⟨g, o, rfl, _, hc⟩ := h.cells h0
    have := run_convert_bytes_arg (P := Tryd.prog) (w := w) 22 5 Tryd.underlying22 Tryd.underlying5 g o n c (l.map fun c => (c.toNat : Int)) (by simpa using hn) ?_ 9 Tryd.underlying9
    · rw [this, Wire.strOf]; rfl
    · intro i hi
      have hx : l[i]? = some (l[i]'(by omega)) := List.getElem?_eq_getElem _
      rw [hc i (Wire.bv (l[i]'(by omega))) (by rw [List.getElem?_map, hx]; rfl)]
      simp [List.getD, hx, Wire.bv]

theorem refSumKey (x : List UInt8) (hx : x.length ≤ 1000000) (W : World) (ht : Table 0 W) :
    Calls Tryd.prog 12 #[.slice (some ⟨W.heap.size, 0, none⟩) x.length (grownCap W x.length 0 5)] (Lib.bytesWorld W 5 ⟨x.toArray⟩) fun e w' => e = .returned (.agg ((sha x).map Wire.bv).toArray) ∧ Below W.heap.size W w' :=
  (refSum_any x _ _ _ _ (convKey_lies x (by omega) W) hx (tabj ht (bytesB W x))).mono fun _ _ ⟨he, hw⟩ => ⟨he, bcj (bytesB W x) hw⟩

end Hash
end Go.Proofs.YtciinlncflngdaaDoor
