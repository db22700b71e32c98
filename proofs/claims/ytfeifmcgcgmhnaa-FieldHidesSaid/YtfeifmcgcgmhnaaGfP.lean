/- Polynomials over the field with 256 elements as mathematics: values, roots, the polynomial through points. No condition but those that are named. -/
import Derived.Test.YtfeifmcgcgmhnaaGf
namespace Go.Proofs.Ytfeifmcgcgmhnaa
namespace Gf

/-- The value of a polynomial. -/
def eval (x : UInt8) : List UInt8 → UInt8
  | [] => 0
  | a :: r => a ^^^ mul x (eval x r)
def isZero (p : List UInt8) : Prop := ∀ a ∈ p, a = 0
theorem eval_zero {p : List UInt8} (h : isZero p) (x : UInt8) : eval x p = 0 := by
  induction p with
  | nil => rfl
  | cons a r ih =>
    rw [eval, ih (fun b hb => h b (List.mem_cons_of_mem _ hb)), mul_zero, h a (List.mem_cons_self ..), xor_zero]
/-- The sum of two polynomials of one length. -/
def padd (p q : List UInt8) : List UInt8 := List.zipWith (· ^^^ ·) p q
theorem padd_length {p q : List UInt8} (h : p.length = q.length) : (padd p q).length = p.length := by simp [padd, h]
theorem eval_padd (x : UInt8) : ∀ {p q : List UInt8}, p.length = q.length → eval x (padd p q) = eval x p ^^^ eval x q
  | [], [], _ => by simp [padd, eval]
  | a :: p, b :: q, h => by
    have ih := eval_padd x (p := p) (q := q) (by simpa using h)
    rw [show padd (a :: p) (b :: q) = (a ^^^ b) :: padd p q from rfl, eval, eval, eval, ih, mul_add, xor_swap]
theorem padd_zero : ∀ {p q : List UInt8}, p.length = q.length → isZero (padd p q) → p = q
  | [], [], _, _ => rfl
  | a :: p, b :: q, h, hz => by
    have h1 : a ^^^ b = 0 := hz _ (List.mem_cons_self ..)
    have h2 := padd_zero (p := p) (q := q) (by simpa using h) (fun c hc => hz c (List.mem_cons_of_mem _ hc))
    rw [xor_eq_zero.1 h1, h2]
/-- A polynomial times an element. -/
def scale (c : UInt8) (p : List UInt8) : List UInt8 := p.map (mul · c)
theorem scale_length (c : UInt8) (p : List UInt8) : (scale c p).length = p.length := by simp [scale]
theorem eval_scale (c x : UInt8) (p : List UInt8) : eval x (scale c p) = mul (eval x p) c := by
  induction p with
  | nil => simp [scale, eval, zero_mul]
  | cons a r ih =>
    rw [show scale c (a :: r) = mul a c :: scale c r from rfl, eval, eval, ih, add_mul, mul_assoc]
/-- A polynomial times x + a. -/
def times (p : List UInt8) (a : UInt8) : List UInt8 := padd (scale a p ++ [0]) (0 :: p)
theorem eval_append_zero (x : UInt8) (p : List UInt8) : eval x (p ++ [0]) = eval x p := by
  induction p with
  | nil => simp [eval, mul_zero]
  | cons a r ih => rw [List.cons_append, eval, ih, eval]
theorem times_length (p : List UInt8) (a : UInt8) : (times p a).length = p.length + 1 := by
  unfold times
  rw [padd_length (by simp [scale_length])]
  simp [scale_length]
theorem eval_times (x a : UInt8) (p : List UInt8) : eval x (times p a) = mul (x ^^^ a) (eval x p) := by
  unfold times
  rw [eval_padd x (by simp [scale_length]), eval_append_zero, eval_scale, add_mul, xor_comm]
  rw [eval, zero_xor, mul_comm (eval x p) a]

/-- p = p(c) + (x + c) * quot. -/
def quot (c : UInt8) : List UInt8 → List UInt8
  | [] => []
  | [_] => []
  | _ :: b :: r => eval c (b :: r) :: quot c (b :: r)
theorem quot_length (c : UInt8) : ∀ p : List UInt8, (quot c p).length = p.length - 1
  | [] => rfl
  | [_] => rfl
  | _ :: b :: r => by
    have := quot_length c (b :: r)
    simp only [quot, List.length_cons] at this ⊢
    omega
theorem eval_quot (c x : UInt8) : ∀ p : List UInt8, eval x p = eval c p ^^^ mul (x ^^^ c) (eval x (quot c p))
  | [] => by simp [eval, quot, mul_zero]
  | [a] => by simp [eval, quot, mul_zero]
  | a :: b :: r => by
    have ih := eval_quot c x (b :: r)
    have e1 : eval x (a :: b :: r) = a ^^^ mul x (eval x (b :: r)) := rfl
    have e2 : eval c (a :: b :: r) = a ^^^ mul c (eval c (b :: r)) := rfl
    have e3 : eval x (quot c (a :: b :: r)) = eval c (b :: r) ^^^ mul x (eval x (quot c (b :: r))) := rfl
    rw [e1, e2, e3, ih]
    generalize eval c (b :: r) = A
    generalize eval x (quot c (b :: r)) = B
    rw [mul_add, mul_add, add_mul x c A, xor_assoc a, ← xor_assoc (mul c A), ← xor_assoc (mul c A), xor_comm (mul c A) (mul x A), xor_assoc (mul x A), xor_self, xor_zero, ← mul_assoc, ← mul_assoc, mul_comm x (x ^^^ c)]
theorem quot_zero (c : UInt8) : ∀ p : List UInt8, eval c p = 0 → isZero (quot c p) → isZero p
  | [], _, _ => fun _ h => by cases h
  | [a], h, _ => by
    intro b hb
    simp at hb
    subst hb
    simpa [eval, mul_zero] using h
  | a :: b :: r, h, hz => by
    have h1 : eval c (b :: r) = 0 := hz _ (List.mem_cons_self ..)
    have ih := quot_zero c (b :: r) h1 (fun d hd => hz d (List.mem_cons_of_mem _ hd))
    have h2 : a ^^^ mul c (eval c (b :: r)) = 0 := h
    rw [h1, mul_zero, xor_zero] at h2
    intro d hd
    rcases List.mem_cons.1 hd with rfl | hd
    · exact h2
    · exact ih d hd
/-- A polynomial of at most as many coefficients as it has roots is zero. -/
theorem roots : ∀ (xs p : List UInt8), xs.Nodup → p.length ≤ xs.length → (∀ x ∈ xs, eval x p = 0) → isZero p
  | [], p, _, hl, _ => by
    have : p = [] := List.eq_nil_of_length_eq_zero (by simpa using hl)
    subst this
    intro _ h; cases h
  | c :: xs, p, hn, hl, hr => by
    have hc := hr c (List.mem_cons_self ..)
    refine quot_zero c p hc (roots xs (quot c p) (List.nodup_cons.1 hn).2 ?_ fun x hx => ?_)
    · rw [quot_length]
      simp only [List.length_cons] at hl
      omega
    · have h1 := eval_quot c x p
      rw [hr x (List.mem_cons_of_mem _ hx), hc, zero_xor] at h1
      rcases mul_eq_zero.1 h1.symm with h2 | h2
      · exact absurd (xor_eq_zero.1 h2) (fun e => (List.nodup_cons.1 hn).1 (e ▸ hx))
      · exact h2
/-- Through n points there is at most one polynomial of n coefficients. -/
theorem unique {xs p q : List UInt8} (hn : xs.Nodup) (hp : p.length = xs.length) (hq : q.length = xs.length) (h : ∀ x ∈ xs, eval x p = eval x q) : p = q := by
  refine padd_zero (hp.trans hq.symm) (roots xs _ hn (by rw [padd_length (hp.trans hq.symm)]; omega) fun x hx => ?_)
  rw [eval_padd x (hp.trans hq.symm), h x hx, xor_self]

end Gf
end Go.Proofs.Ytfeifmcgcgmhnaa
