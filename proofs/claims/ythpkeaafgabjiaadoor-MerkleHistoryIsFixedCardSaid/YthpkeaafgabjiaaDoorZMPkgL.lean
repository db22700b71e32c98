/- The package merkle as landed: all that it answers. No condition but those that each part names. -/
import Derived.Test.YthpkeaafgabjiaaDoorM21
import Derived.Test.YthpkeaafgabjiaaDoorM26
import Derived.Test.YthpkeaafgabjiaaDoorM27
import Derived.Test.YthpkeaafgabjiaaDoorM25
namespace Go.Proofs.YthpkeaafgabjiaaDoor
open Go.RowKit
namespace Mk
theorem pkg : Pkg where
  root := fun n c A l w _ hl ht => pRoot_any n l c A w hl ht
  proveNo := fun n c A _ i w _ _ _ h => prove_no n c A i h w
  prove := fun n c i A l w _ hl ht h => prove_any n c i A l w hl ht h
  verify := fun root d n i q c A p w hr hd hn _ hl ht => verify_any root d n i q c A p w hr hd hn hl ht
  provePreNo := fun n c A _ m w _ _ _ h => provePrefix_no n c A m h w
  provePre := fun n c m A l w _ hl ht h1 hm => provePrefix_any n c m A l w hl ht h1 hm
  verifyPre := fun old root m n q c A p w ho hr hn _ hl ht => by
    by_cases h : 1 ≤ m ∧ m ≤ n
    · obtain ⟨a, rfl⟩ : ∃ a : Nat, n = (a : Int) := ⟨n.toNat, by omega⟩
      obtain ⟨b, rfl⟩ : ∃ b : Nat, m = (b : Int) := ⟨m.toNat, by omega⟩
      exact verifyPrefix_any old root ho hr p b a q c A w hl ht (by omega) (by omega) (by omega)
    · rw [show preI m n old root p = false by unfold preI; rw [if_neg h]]
      exact verifyPrefix_no old root ho hr m n q c A w (by omega)
  clash := fun n i a b q c q2 c2 A B p p2 w ha hb hn hq hq2 hl hl2 ht => clash_any n i a b q c q2 c2 A B p p2 w ha hb hn hq hq2 hl hl2 ht
  addNo := fun n A k c _ d w hd _ _ h => add_bad n A k c d hd h w
  add := fun m A k c l d w hd hl ht h hm => add_any m A k c l d w hd hl ht h hm
  topNo := fun n A k c _ w _ _ h => top_bad n A k c h w
  top := fun n A k c l w hl ht h => by
    cases k with
    | zero =>
      obtain rfl := List.eq_nil_of_length_eq_zero hl.len
      obtain ⟨h0, h1, h2⟩ := pkOk_some h
      have hz : n = 0 := by
        by_cases e : n.toNat = 0
        · omega
        · have := ones_pos e; omega
      subst hz
      exact top_nil A c w ht
    | succ j => exact top_some n A j c l h w hl ht
end Mk
end Go.Proofs.YthpkeaafgabjiaaDoor
