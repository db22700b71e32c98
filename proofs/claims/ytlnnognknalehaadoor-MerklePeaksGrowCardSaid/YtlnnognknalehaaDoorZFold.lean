/- The block of a literal slice of one array, as it is made cell by cell. No condition. -/
import Derived.Test.YtlnnognknalehaaDoorProg
namespace Go.Proofs.YtlnnognknalehaaDoor
namespace Wire
theorem fold_cells_aux (cs : List Value) : ∀ (k : Nat) (z : Array Value), z.size = k + cs.length → List.foldl (fun c (x : Value × Nat) => c.setIfInBounds x.snd x.fst) z (cs.zipIdx k) = (z.toList.take k ++ cs).toArray := by
  induction cs with
  | nil =>
    intro k z hz
    have : z.toList.length ≤ k := by simp at hz ⊢; omega
    simp [List.take_of_length_le this]
  | cons x cs ih =>
    intro k z hz
    have hk : k < z.toList.length := by simp at hz ⊢; omega
    rw [List.zipIdx_cons, List.foldl_cons, ih (k + 1) _ (by simp at hz ⊢; omega)]
    congr 1
    have hk2 : k < (z.toList.set k x).length := by simpa using hk
    simp only [Array.toList_setIfInBounds]
    rw [List.take_add_one, List.take_set_of_le (Nat.le_refl _), List.getElem?_set_self hk]
    simp
theorem fold_cells {cs : List Value} {m : Nat} (hl : cs.length = m) (z : Array Value) (hz : z.size = m) : List.foldl (fun c (x : Value × Nat) => c.setIfInBounds x.snd x.fst) z cs.zipIdx = cs.toArray := by
  rw [fold_cells_aux cs 0 z (by omega)]; simp

end Wire
end Go.Proofs.YtlnnognknalehaaDoor
