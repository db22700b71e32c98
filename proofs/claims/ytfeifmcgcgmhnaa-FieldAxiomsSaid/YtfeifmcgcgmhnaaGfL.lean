/- The polynomial through points, and its weights, as mathematics. Conditions: the elements are different. -/
import Derived.Test.YtfeifmcgcgmhnaaGfP
namespace Go.Proofs.Ytfeifmcgcgmhnaa
namespace Gf

def prod (l : List UInt8) : UInt8 := l.foldr mul 1
theorem prod_append (l m : List UInt8) : prod (l ++ m) = mul (prod l) (prod m) := by
  induction l with
  | nil => exact (one_mul _).symm
  | cons a l ih =>
    show mul a (prod (l ++ m)) = mul (mul a (prod l)) (prod m)
    rw [ih, mul_assoc]
theorem prod_comm (l m : List UInt8) : prod (l ++ m) = prod (m ++ l) := by rw [prod_append, prod_append, mul_comm]
theorem prod_snoc (l : List UInt8) (a : UInt8) : prod (l ++ [a]) = mul (prod l) a := by
  rw [prod_append]
  show mul (prod l) (mul a 1) = _
  rw [mul_one]
theorem prod_ne {l : List UInt8} (h : ∀ a ∈ l, a ≠ 0) : prod l ≠ 0 := by
  induction l with
  | nil => exact (by decide : (1 : UInt8) ≠ 0)
  | cons a l ih =>
    intro e
    rcases mul_eq_zero.1 (show mul a (prod l) = 0 from e) with h1 | h1
    · exact h a (List.mem_cons_self ..) h1
    · exact ih (fun b hb => h b (List.mem_cons_of_mem _ hb)) h1
theorem prod_zero {l : List UInt8} (h : (0 : UInt8) ∈ l) : prod l = 0 := by
  induction l with
  | nil => cases h
  | cons a l ih =>
    show mul a (prod l) = 0
    rcases List.mem_cons.1 h with rfl | h
    · exact zero_mul _
    · rw [ih h, mul_zero]
/-- The sum of a list. -/
def sum (l : List UInt8) : UInt8 := l.foldr (· ^^^ ·) 0
theorem sum_append (l m : List UInt8) : sum (l ++ m) = sum l ^^^ sum m := by
  induction l with
  | nil => exact (zero_xor _).symm
  | cons a l ih =>
    show a ^^^ sum (l ++ m) = (a ^^^ sum l) ^^^ sum m
    rw [ih, xor_assoc]
theorem sum_snoc (l : List UInt8) (a : UInt8) : sum (l ++ [a]) = sum l ^^^ a := by
  rw [sum_append]
  show sum l ^^^ (a ^^^ 0) = _
  rw [xor_zero]

/-- The product of all (x + a). -/
def away (x : UInt8) (l : List UInt8) : UInt8 := prod (l.map (x ^^^ ·))
theorem away_ne {x : UInt8} {l : List UInt8} (h : x ∉ l) : away x l ≠ 0 := prod_ne fun a ha e => by
  obtain ⟨b, hb, rfl⟩ := List.mem_map.1 ha
  exact h ((xor_eq_zero.1 e) ▸ hb)
theorem away_zero {x : UInt8} {l : List UInt8} (h : x ∈ l) : away x l = 0 := prod_zero (List.mem_map.2 ⟨x, h, xor_self x⟩)
theorem away_comm (x : UInt8) (l m : List UInt8) : away x (l ++ m) = away x (m ++ l) := by
  unfold away
  rw [List.map_append, List.map_append, prod_comm]
/-- The polynomial with these roots. -/
def monic (l : List UInt8) : List UInt8 := l.foldl times [1]
theorem monic_snoc (l : List UInt8) (a : UInt8) : monic (l ++ [a]) = times (monic l) a := by unfold monic; rw [List.foldl_append]; rfl
theorem monic_length (l : List UInt8) : (monic l).length = l.length + 1 := by
  have : ∀ (l p : List UInt8), (l.foldl times p).length = p.length + l.length := by
    intro l
    induction l with
    | nil => intro p; rfl
    | cons a l ih => intro p; rw [List.foldl_cons, ih, times_length, List.length_cons]; omega
  unfold monic
  rw [this]
  simp only [List.length_cons, List.length_nil]
  omega
theorem eval_monic (x : UInt8) (l : List UInt8) : eval x (monic l) = away x l := by
  have : ∀ (l p : List UInt8), eval x (l.foldl times p) = mul (away x l) (eval x p) := by
    intro l
    induction l with
    | nil => intro p; exact (one_mul _).symm
    | cons a l ih =>
      intro p
      rw [List.foldl_cons, ih, eval_times, ← mul_assoc, mul_comm (away x l)]
      rfl
  unfold monic
  rw [this, eval, eval, mul_zero, xor_zero, mul_one]

/-- The other elements. -/
def others (xs : List UInt8) (i : Nat) : List UInt8 := xs.take i ++ xs.drop (i + 1)
theorem others_length {xs : List UInt8} {i : Nat} (h : i < xs.length) : (others xs i).length = xs.length - 1 := by
  unfold others
  rw [List.length_append, List.length_take, List.length_drop]
  omega
theorem split_at {xs : List UInt8} {i : Nat} {a : UInt8} (h : xs[i]? = some a) : xs = xs.take i ++ a :: xs.drop (i + 1) := by
  have hi := (List.getElem?_eq_some_iff.1 h).1
  have he := (List.getElem?_eq_some_iff.1 h).2
  conv => lhs; rw [← List.take_append_drop i xs, List.drop_eq_getElem_cons hi, he]
theorem not_others {xs : List UInt8} (hn : xs.Nodup) {i : Nat} {a : UInt8} (h : xs[i]? = some a) : a ∉ others xs i := by
  have e := split_at h
  rw [e] at hn
  obtain ⟨_, h2, h3⟩ := List.nodup_append.1 hn
  intro hm
  rcases List.mem_append.1 hm with hm | hm
  · exact h3 a hm a (List.mem_cons_self ..) rfl
  · exact (List.nodup_cons.1 h2).1 hm
theorem in_others {xs : List UInt8} {i j : Nat} {b : UInt8} (h : xs[j]? = some b) (hij : j ≠ i) : b ∈ others xs i := by
  unfold others
  rcases Nat.lt_or_ge j i with hlt | hge
  · exact List.mem_append_left _ (List.mem_of_getElem? (i := j) (by rw [List.getElem?_take, if_pos hlt]; exact h))
  · exact List.mem_append_right _ (List.mem_of_getElem? (i := j - (i + 1)) (by rw [List.getElem?_drop, show i + 1 + (j - (i + 1)) = j by omega]; exact h))
/-- The weight of an element. -/
def weight (xs : List UInt8) (x : UInt8) (i : Nat) : UInt8 := mul (away x (others xs i)) (inv (away (xs.getD i 0) (others xs i)))
def weights (xs : List UInt8) (x : UInt8) : List UInt8 := (List.range xs.length).map (weight xs x)
theorem weight_self {xs : List UInt8} (hn : xs.Nodup) {i : Nat} {a : UInt8} (h : xs[i]? = some a) : weight xs a i = 1 := by
  unfold weight
  rw [List.getD_eq_getElem?_getD, h]
  exact mul_inv (away_ne (not_others hn h))
theorem weight_other {xs : List UInt8} {i j : Nat} {b : UInt8} (h : xs[j]? = some b) (hij : j ≠ i) : weight xs b i = 0 := by
  unfold weight
  rw [away_zero (in_others h hij), zero_mul]
/-- The value at x of the polynomial through points: the first k shares. -/
def upto (xs ys : List UInt8) (x : UInt8) : Nat → UInt8
  | 0 => 0
  | k + 1 => upto xs ys x k ^^^ mul (weight xs x k) (ys.getD k 0)
def interp (xs ys : List UInt8) (x : UInt8) : UInt8 := upto xs ys x xs.length
theorem upto_at {xs ys : List UInt8} (hn : xs.Nodup) {j : Nat} {b : UInt8} (h : xs[j]? = some b) : ∀ k, upto xs ys b k = if j < k then ys.getD j 0 else 0
  | 0 => by simp [upto]
  | k + 1 => by
    rw [upto, upto_at hn h k]
    by_cases e : j = k
    · subst e
      rw [weight_self hn h, one_mul, if_neg (by omega), if_pos (by omega), zero_xor]
    · rw [weight_other h e, zero_mul, xor_zero]
      by_cases hlt : j < k
      · rw [if_pos hlt, if_pos (by omega)]
      · rw [if_neg hlt, if_neg (by omega)]
theorem interp_at {xs ys : List UInt8} (hn : xs.Nodup) {j : Nat} {b : UInt8} (h : xs[j]? = some b) : interp xs ys b = ys.getD j 0 := by
  unfold interp
  rw [upto_at hn h, if_pos (List.getElem?_eq_some_iff.1 h).1]
/-- The coefficients: the first k shares. -/
def share (xs ys : List UInt8) (i : Nat) : List UInt8 := scale (mul (ys.getD i 0) (inv (away (xs.getD i 0) (others xs i)))) (monic (others xs i))
def coefs (xs ys : List UInt8) : Nat → List UInt8
  | 0 => List.replicate xs.length 0
  | k + 1 => padd (coefs xs ys k) (share xs ys k)
def coeff (xs ys : List UInt8) : List UInt8 := coefs xs ys xs.length
theorem share_length {xs ys : List UInt8} {i : Nat} (h : i < xs.length) : (share xs ys i).length = xs.length := by
  unfold share
  rw [scale_length, monic_length, others_length h]
  omega
theorem coefs_length {xs ys : List UInt8} : ∀ k, k ≤ xs.length → (coefs xs ys k).length = xs.length
  | 0, _ => by simp [coefs]
  | k + 1, h => by
    have ih := coefs_length (xs := xs) (ys := ys) k (by omega)
    rw [coefs, padd_length (by rw [ih, share_length (by omega)]), ih]
theorem eval_coefs {xs ys : List UInt8} (x : UInt8) : ∀ k, k ≤ xs.length → eval x (coefs xs ys k) = upto xs ys x k
  | 0, _ => eval_zero (fun a h => List.eq_of_mem_replicate h) x
  | k + 1, h => by
    have ih := eval_coefs (xs := xs) (ys := ys) x k (by omega)
    rw [coefs, eval_padd x (by rw [coefs_length k (by omega), share_length (by omega)]), ih, upto]
    congr 1
    unfold share weight
    rw [eval_scale, eval_monic, mul_comm (ys.getD k 0), ← mul_assoc]
theorem coeff_length (xs ys : List UInt8) : (coeff xs ys).length = xs.length := coefs_length _ (Nat.le_refl _)
theorem eval_coeff (xs ys : List UInt8) (x : UInt8) : eval x (coeff xs ys) = interp xs ys x := eval_coefs x _ (Nat.le_refl _)
theorem coeff_at {xs ys : List UInt8} (hn : xs.Nodup) {j : Nat} {b : UInt8} (h : xs[j]? = some b) : eval b (coeff xs ys) = ys.getD j 0 := by rw [eval_coeff, interp_at hn h]
/-- A polynomial is found again from its values. -/
theorem coeff_eval {xs p : List UInt8} (hn : xs.Nodup) (hp : p.length = xs.length) : coeff xs (xs.map fun x => eval x p) = p := by
  refine unique hn (coeff_length _ _) hp fun x hx => ?_
  obtain ⟨j, hj⟩ := List.getElem?_of_mem hx
  rw [coeff_at hn hj, List.getD_eq_getElem?_getD, List.getElem?_map, hj]
  rfl
theorem interp_eval {xs p : List UInt8} (hn : xs.Nodup) (hp : p.length = xs.length) (x : UInt8) : interp xs (xs.map fun x => eval x p) x = eval x p := by rw [← eval_coeff, coeff_eval hn hp]
/-- Whatever goes through the points is the polynomial through them. -/
theorem coeff_unique {xs ys p : List UInt8} (hn : xs.Nodup) (hp : p.length = xs.length) (h : ∀ j b, xs[j]? = some b → eval b p = ys.getD j 0) : p = coeff xs ys :=
  unique hn hp (coeff_length _ _) fun x hx => by
    obtain ⟨j, hj⟩ := List.getElem?_of_mem hx
    rw [h j x hj, coeff_at hn hj]
theorem upto_sum (xs ys : List UInt8) (x : UInt8) (k : Nat) (hy : ∀ i, i < k → ys.getD i 0 = 1) : upto xs ys x k = sum ((List.range k).map (weight xs x)) := by
  induction k with
  | zero => rfl
  | succ k ih => rw [upto, ih (fun i hi => hy i (by omega)), hy k (by omega), mul_one, List.range_succ, List.map_append, List.map_singleton, sum_snoc]
/-- The weights add up to 1. -/
theorem weights_sum {xs : List UInt8} (hn : xs.Nodup) (h0 : xs ≠ []) (x : UInt8) : sum (weights xs x) = 1 := by
  have hl : 0 < xs.length := List.length_pos_iff.2 h0
  have e := interp_eval hn (p := 1 :: List.replicate (xs.length - 1) 0) (by simp; omega) x
  have ev : ∀ z : UInt8, eval z (1 :: List.replicate (xs.length - 1) 0) = 1 := fun z => by
    rw [eval, eval_zero (fun a h => List.eq_of_mem_replicate h), mul_zero, xor_zero]
  unfold weights
  rw [← upto_sum xs (xs.map fun z => eval z (1 :: List.replicate (xs.length - 1) 0)) x xs.length (fun i hi => by
    rw [List.getD_eq_getElem?_getD, List.getElem?_map, List.getElem?_eq_getElem hi]
    exact ev _)]
  rw [ev] at e
  exact e
/-- The weights do not depend on the order of the others. -/
theorem weight_turned {xs : List UInt8} {k : Nat} {a : UInt8} (h : xs[k]? = some a) (x : UInt8) : weight (xs.drop k ++ xs.take k) x 0 = weight xs x k := by
  have hk := (List.getElem?_eq_some_iff.1 h).1
  have he := (List.getElem?_eq_some_iff.1 h).2
  have e : xs.drop k ++ xs.take k = a :: (xs.drop (k + 1) ++ xs.take k) := by rw [List.drop_eq_getElem_cons hk, he]; rfl
  rw [e]
  unfold weight
  have o1 : others (a :: (xs.drop (k + 1) ++ xs.take k)) 0 = xs.drop (k + 1) ++ xs.take k := by simp [others]
  have o2 : others xs k = xs.take k ++ xs.drop (k + 1) := rfl
  rw [o1, o2, away_comm x, show xs.getD k 0 = a by rw [List.getD_eq_getElem?_getD, h]; rfl]
  show mul _ (inv (away a (xs.drop (k + 1) ++ xs.take k))) = _
  rw [away_comm a (xs.drop (k + 1))]
/-- Fewer points say nothing about the value at 0: two polynomials through them with other values at 0 differ everywhere else. -/
theorem hides {xs p q : List UInt8} (hn : (0 :: xs).Nodup) (hp : p.length = xs.length + 1) (hq : q.length = xs.length + 1) (h : ∀ x ∈ xs, eval x p = eval x q) (x : UInt8) :
    (eval x p = eval x q) ↔ (x ∈ xs ∨ eval 0 p = eval 0 q) := by
  have hpq : p.length = q.length := hp.trans hq.symm
  constructor
  · intro hx
    by_cases hm : x ∈ xs
    · exact .inl hm
    · right
      have hr : isZero (padd p q) := roots (x :: xs) _ (List.nodup_cons.2 ⟨hm, (List.nodup_cons.1 hn).2⟩) (by rw [padd_length hpq, List.length_cons]; omega) (fun z hz => by
        rw [eval_padd z hpq]
        rcases List.mem_cons.1 hz with rfl | hz
        · rw [hx, xor_self]
        · rw [h z hz, xor_self])
      rw [padd_zero hpq hr]
  · rintro (hm | h0)
    · exact h x hm
    · have : p = q := unique hn (by rw [hp]; rfl) (by rw [hq]; rfl) (fun z hz => by
        rcases List.mem_cons.1 hz with rfl | hz
        · exact h0
        · exact h z hz)
      rw [this]

end Gf
end Go.Proofs.Ytfeifmcgcgmhnaa
