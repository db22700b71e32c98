/- Weights at an element, and of the elements turned. No condition but those that are named. -/
import Derived.Test.YtfeifmcgcgmhnaaFRow
namespace Go.Proofs.Ytfeifmcgcgmhnaa
namespace Gf

theorem sum_take {l : List UInt8} {i : Nat} {a : UInt8} (h : l[i]? = some a) : sum (l.take (i + 1)) = sum (l.take i) ^^^ a := by
  rw [List.take_add_one, h]; exact sum_snoc _ _
theorem weights_self {xs : List UInt8} (hn : xs.Nodup) {k : Nat} {a : UInt8} (h : xs[k]? = some a) {i : Nat} (hi : i < xs.length) :
    (weights xs a)[i]? = some (if i = k then 1 else 0) := by
  rw [weights_at hi]
  by_cases hik : i = k
  · subst hik
    rw [if_pos rfl, weight_self hn h]
  · rw [if_neg hik, weight_other h (fun e => hik e.symm)]
theorem turned_fit {xs : List UInt8} (h : fit xs) {k : Nat} : fit (xs.drop k ++ xs.take k) := by
  have hl : (xs.drop k ++ xs.take k).length = xs.length := by rw [List.length_append, List.length_drop, List.length_take]; omega
  refine ⟨by rw [hl]; exact h.1, by rw [hl]; exact h.2.1, ?_⟩
  have h2 : (xs.take k ++ xs.drop k).Nodup := by rw [List.take_append_drop]; exact h.2.2
  exact (List.perm_append_comm (l₁ := xs.take k) (l₂ := xs.drop k)).nodup_iff.1 h2
theorem turned_len (xs : List UInt8) (k : Nat) : (xs.drop k ++ xs.take k).length = xs.length := by rw [List.length_append, List.length_drop, List.length_take]; omega
theorem turned_zero {xs : List UInt8} {k : Nat} {a : UInt8} (h : xs[k]? = some a) (x : UInt8) : (weights (xs.drop k ++ xs.take k) x)[0]? = some (weight xs x k) := by
  rw [weights_at (by rw [turned_len]; have := (List.getElem?_eq_some_iff.1 h).1; omega), weight_turned h]
end Gf
end Go.Proofs.Ytfeifmcgcgmhnaa
