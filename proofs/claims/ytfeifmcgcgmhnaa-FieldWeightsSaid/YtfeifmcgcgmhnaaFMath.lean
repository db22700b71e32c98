/- Weights step by step, as mathematics. No condition. -/
import Derived.Test.YtfeifmcgcgmhnaaGfL
namespace Go.Proofs.Ytfeifmcgcgmhnaa
namespace Gf

theorem others_skip {xs : List UInt8} {i k : Nat} (h : k = i) : others (xs.take (k + 1)) i = others (xs.take k) i := by
  subst h
  unfold others
  rw [List.take_take, List.take_take, Nat.min_eq_left (by omega), Nat.min_self]
  congr 1
  rw [List.drop_of_length_le (by rw [List.length_take]; omega), List.drop_of_length_le (by rw [List.length_take]; omega)]
theorem others_step {xs : List UInt8} {i k : Nat} {a : UInt8} (h : xs[k]? = some a) (hk : k ≠ i) : others (xs.take (k + 1)) i = others (xs.take k) i ++ [a] := by
  have hl : k < xs.length := (List.getElem?_eq_some_iff.1 h).1
  have e : xs.take (k + 1) = xs.take k ++ [a] := by rw [List.take_add_one, h]; rfl
  have hlen : (xs.take k).length = k := by rw [List.length_take]; omega
  unfold others
  rw [e]
  by_cases hki : k < i
  · have e1 : (xs.take k ++ [a]).take i = xs.take k ++ [a] := List.take_of_length_le (by rw [List.length_append, hlen]; simp; omega)
    have e2 : (xs.take k ++ [a]).drop (i + 1) = [] := List.drop_of_length_le (by rw [List.length_append, hlen]; simp; omega)
    have e3 : (xs.take k).take i = xs.take k := List.take_of_length_le (by omega)
    have e4 : (xs.take k).drop (i + 1) = [] := List.drop_of_length_le (by omega)
    rw [e1, e2, e3, e4, List.append_nil, List.append_nil]
  · rw [List.take_append_of_le_length (by omega), List.drop_append_of_le_length (by omega), List.append_assoc]
theorem others_zero (xs : List UInt8) (i : Nat) : others (xs.take 0) i = [] := by simp [others]
theorem away_nil (x : UInt8) : away x [] = 1 := rfl
theorem away_snoc (x a : UInt8) (l : List UInt8) : away x (l ++ [a]) = mul (away x l) (x ^^^ a) := by
  unfold away
  rw [List.map_append]
  exact prod_snoc _ _
theorem weight_at {xs : List UInt8} {i : Nat} {a : UInt8} (h : xs[i]? = some a) (x : UInt8) : weight xs x i = mul (away x (others xs i)) (inv (away a (others xs i))) := by
  unfold weight
  rw [List.getD_eq_getElem?_getD, h]; rfl
/-- The first k weights. -/
def firstW (xs : List UInt8) (x : UInt8) (k : Nat) : List UInt8 := (List.range k).map (weight xs x)
theorem firstW_succ (xs : List UInt8) (x : UInt8) (k : Nat) : firstW xs x (k + 1) = firstW xs x k ++ [weight xs x k] := by
  unfold firstW
  rw [List.range_succ, List.map_append]; rfl
theorem firstW_length (xs : List UInt8) (x : UInt8) (k : Nat) : (firstW xs x k).length = k := by simp [firstW]
theorem weights_length (xs : List UInt8) (x : UInt8) : (weights xs x).length = xs.length := by simp [weights]
theorem weights_at {xs : List UInt8} {x : UInt8} {i : Nat} (h : i < xs.length) : (weights xs x)[i]? = some (weight xs x i) := by
  unfold weights
  rw [List.getElem?_map, List.getElem?_range h]; rfl
theorem upto_next (xs : List UInt8) (x : UInt8) {ys : List UInt8} {k : Nat} {a : UInt8} (h : ys[k]? = some a) : upto xs ys x (k + 1) = upto xs ys x k ^^^ mul (weight xs x k) a := by
  rw [upto, List.getD_eq_getElem?_getD, h]
  first | rfl | (rw [mul_comm]; rfl)
end Gf
end Go.Proofs.Ytfeifmcgcgmhnaa
