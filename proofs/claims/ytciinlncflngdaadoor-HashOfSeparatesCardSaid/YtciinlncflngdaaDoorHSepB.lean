/- The walk of the statement HashOfSeparates, for an array of tags as it comes in. Condition: the table of round constants reads as the program lays it. -/
import Derived.Test.YtciinlncflngdaaDoorHSepW
namespace Go.Proofs.YtciinlncflngdaaDoor
open Go.RowKit
namespace Hash
open Wire (sv Lies)

theorem sepLawB (xs : List Int) (hl : xs.length = 2) (hw : ∀ x ∈ xs, (Lit.int .u8 x).wf = true) (a b : List (List UInt8)) (n c m d : Nat) (A B : Option Addr) (w : World) (hla : Lies w w.heap.size 1 A n c (a.map sv)) (hlb : Lies w w.heap.size 1 B m d (b.map sv)) (ht : Table 1 w) :
    Calls Tryd.prog 8 #[.agg (xs.map (Value.int .u8)).toArray, .slice A n c, .slice B m d] w (YesH w) := by
  obtain ⟨x, y, rfl⟩ : ∃ x y, xs = [x, y] := by
    match xs, hl with
    | [x, y], _ => exact ⟨x, y, rfl⟩
  have hr : ∀ z ∈ [x, y], 0 ≤ z ∧ z < 256 := by
    intro z hz
    have h := hw z hz
    simp [Lit.wf, IntKind.min, IntKind.max, IntKind.signed, IntKind.bits] at h
    omega
  obtain ⟨t0, rfl⟩ : ∃ k : Nat, x = (k : Int) := ⟨x.toNat, by have := hr x (by simp); omega⟩
  obtain ⟨t1, rfl⟩ : ∃ k : Nat, y = (k : Int) := ⟨y.toNat, by have := hr y (by simp); omega⟩
  exact sepLaw t0 t1 a b n c m d A B w (by have := hr _ (List.mem_cons_self ..); omega) (by have := hr (t1 : Int) (by simp); omega) hla hlb ht

end Hash
end Go.Proofs.YtciinlncflngdaaDoor
