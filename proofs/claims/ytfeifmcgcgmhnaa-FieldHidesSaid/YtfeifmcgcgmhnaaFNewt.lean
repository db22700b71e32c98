/- Steps of polynomials as the program takes them: a multiple is added in place, a root is put in, points are gone through one by one. No condition but those that are named. -/
import Derived.Test.YtfeifmcgcgmhnaaGfL
namespace Go.Proofs.Ytfeifmcgcgmhnaa
namespace Gf

/-- A multiple of r is added to the first coefficients of p. -/
def mixin (f : UInt8) : List UInt8 → List UInt8 → List UInt8
  | p, [] => p
  | [], _ :: _ => []
  | a :: p, b :: r => (a ^^^ mul b f) :: mixin f p r
theorem mixin_nil (f : UInt8) (p : List UInt8) : mixin f p [] = p := by cases p <;> rfl
theorem mixin_length (f : UInt8) : ∀ p r : List UInt8, (mixin f p r).length = p.length
  | [], [] => rfl
  | [], _ :: _ => rfl
  | _ :: _, [] => rfl
  | a :: p, b :: r => by simp [mixin, mixin_length f p r]
theorem eval_mixin (f x : UInt8) : ∀ p r : List UInt8, r.length ≤ p.length → eval x (mixin f p r) = eval x p ^^^ mul (eval x r) f
  | p, [], _ => by rw [mixin_nil, eval, zero_mul, xor_zero]
  | [], b :: r, h => by simp at h
  | a :: p, b :: r, h => by
    have ih := eval_mixin f x p r (by simpa using h)
    rw [mixin, eval, ih, eval, eval, mul_add, add_mul, xor_swap, mul_assoc]
theorem mixin_at (f : UInt8) : ∀ (p r : List UInt8) (j : Nat), r.length ≤ j → (mixin f p r)[j]? = p[j]?
  | p, [], j, _ => by rw [mixin_nil]
  | [], b :: r, j, _ => by simp [mixin]
  | a :: p, b :: r, 0, h => by simp at h
  | a :: p, b :: r, j + 1, h => by
    rw [mixin, List.getElem?_cons_succ, List.getElem?_cons_succ]
    exact mixin_at f p r j (by simpa using h)
theorem mixin_snoc (f c : UInt8) : ∀ (p r : List UInt8) (a : UInt8), p[r.length]? = some a → mixin f p (r ++ [c]) = (mixin f p r).set r.length (a ^^^ mul c f)
  | [], r, a, h => by simp at h
  | b :: p, [], a, h => by
    simp only [List.length_nil, List.getElem?_cons_zero, Option.some.injEq] at h
    subst h
    simp [mixin, mixin_nil]
  | b :: p, d :: r, a, h => by
    simp only [List.length_cons, List.getElem?_cons_succ] at h
    rw [List.cons_append, mixin, mixin_snoc f c p r a h, mixin]
    rfl
/-- One coefficient more. -/
theorem mixin_step {f c a : UInt8} {p r : List UInt8} {j : Nat} (hp : p[j]? = some a) (hr : r[j]? = some c) :
    mixin f p (r.take (j + 1)) = (mixin f p (r.take j)).set j (a ^^^ mul c f) := by
  have hj : j < r.length := (List.getElem?_eq_some_iff.1 hr).1
  have hl : (r.take j).length = j := by simp; omega
  have h := mixin_snoc f c p (r.take j) a (by rw [hl]; exact hp)
  rw [hl] at h
  rw [← h, List.take_add_one, hr]
  rfl
theorem mixin_take_at {f a : UInt8} {p r : List UInt8} {j : Nat} (hp : p[j]? = some a) : (mixin f p (r.take j))[j]? = some a := by
  rw [mixin_at f p _ j (by simp; omega), hp]
theorem mixin_padd (f : UInt8) : ∀ p r : List UInt8, p.length = r.length → mixin f p r = padd p (scale f r)
  | [], [], _ => rfl
  | a :: p, b :: r, h => by
    have ih := mixin_padd f p r (by simpa using h)
    rw [mixin, ih]
    rfl

/-- times, coefficient by coefficient, with what is carried. -/
def tfrom (a : UInt8) : UInt8 → List UInt8 → List UInt8
  | z, [] => [z]
  | z, c :: p => (mul c a ^^^ z) :: tfrom a c p
theorem tfrom_eq (a : UInt8) : ∀ (p : List UInt8) (z : UInt8), tfrom a z p = padd (scale a p ++ [0]) (z :: p)
  | [], z => by simp [tfrom, scale, padd]
  | c :: p, z => by
    rw [tfrom, tfrom_eq a p c]
    rfl
theorem tfrom_snoc (a : UInt8) : ∀ (p : List UInt8) (z : UInt8), ∃ l u, l.length = p.length ∧ tfrom a z p = l ++ [u] ∧ ∀ c, tfrom a z (p ++ [c]) = l ++ [u ^^^ mul c a, c]
  | [], z => ⟨[], z, rfl, rfl, fun c => by simp [tfrom, xor_comm]⟩
  | d :: p, z => by
    obtain ⟨l, u, h1, h2, h3⟩ := tfrom_snoc a p d
    refine ⟨(mul d a ^^^ z) :: l, u, by simp [h1], by rw [tfrom, h2]; rfl, fun c => ?_⟩
    rw [List.cons_append, tfrom, h3 c]
    rfl
theorem times_snoc (a : UInt8) (p : List UInt8) : ∃ l u, l.length = p.length ∧ times p a = l ++ [u] ∧ ∀ c, times (p ++ [c]) a = l ++ [u ^^^ mul c a, c] := by
  obtain ⟨l, u, h1, h2, h3⟩ := tfrom_snoc a p 0
  exact ⟨l, u, h1, by rw [← h2, tfrom_eq]; rfl, fun c => by rw [← h3, tfrom_eq]; rfl⟩
/-- What withRoot and times have made when i coefficients are gone through. -/
def tstep (p : List UInt8) (a : UInt8) (i : Nat) : List UInt8 := times (p.take i) a ++ List.replicate (p.length - i) 0
theorem tstep_zero (p : List UInt8) (a : UInt8) : tstep p a 0 = List.replicate (p.length + 1) 0 := by
  simp [tstep, times, scale, padd, ← List.replicate_succ]
theorem tstep_all (p : List UInt8) (a : UInt8) : tstep p a p.length = times p a := by simp [tstep]
theorem tstep_length {p : List UInt8} {a : UInt8} {i : Nat} (h : i ≤ p.length) : (tstep p a i).length = p.length + 1 := by
  simp [tstep, times_length]; omega
theorem tstep_next {p : List UInt8} {a c : UInt8} {i : Nat} (h : p[i]? = some c) :
    ∃ u, (tstep p a i)[i]? = some u ∧ (tstep p a i)[i + 1]? = some 0 ∧ tstep p a (i + 1) = ((tstep p a i).set i (u ^^^ mul c a)).set (i + 1) c ∧ tstep p a (i + 1) = ((tstep p a i).set (i + 1) c).set i (u ^^^ mul c a) := by
  have hi : i < p.length := (List.getElem?_eq_some_iff.1 h).1
  obtain ⟨l, u, h1, h2, h3⟩ := times_snoc a (p.take i)
  have hl : l.length = i := by rw [h1]; simp; omega
  have ht : p.take (i + 1) = p.take i ++ [c] := by rw [List.take_add_one, h]; rfl
  obtain ⟨d, hd⟩ : ∃ d, p.length - i = d + 1 := ⟨p.length - i - 1, by omega⟩
  have e1 : tstep p a i = l ++ u :: 0 :: List.replicate d 0 := by
    unfold tstep
    rw [h2, hd, List.replicate_succ]
    simp
  have e2 : tstep p a (i + 1) = l ++ (u ^^^ mul c a) :: c :: List.replicate d 0 := by
    unfold tstep
    rw [ht, h3 c, show p.length - (i + 1) = d by omega]
    simp
  have s0 : ∀ (x y z : UInt8) (q : List UInt8), (l ++ x :: y :: q).set i z = l ++ z :: y :: q := by
    intro x y z q
    rw [← hl, List.set_append_right _ _ (Nat.le_refl _)]; simp
  have s1 : ∀ (x y z : UInt8) (q : List UInt8), (l ++ x :: y :: q).set (i + 1) z = l ++ x :: z :: q := by
    intro x y z q
    rw [← hl, List.set_append_right _ _ (by omega)]; simp [show l.length + 1 - l.length = 1 by omega]
  refine ⟨u, ?_, ?_, ?_, ?_⟩
  · rw [e1, ← hl, List.getElem?_append_right (Nat.le_refl _)]; simp
  · rw [e1, ← hl, List.getElem?_append_right (by omega)]; simp [show l.length + 1 - l.length = 1 by omega]
  · rw [e1, e2, s0, s1]
  · rw [e1, e2, s1, s0]

/-- p goes through the first k points. -/
def Meets (xs ys : List UInt8) (k : Nat) (p : List UInt8) : Prop := p.length = xs.length ∧ ∀ j b, j < k → xs[j]? = some b → eval b p = ys.getD j 0
theorem meets_zero (xs ys : List UInt8) : Meets xs ys 0 (List.replicate xs.length 0) := ⟨by simp, fun j b h => absurd h (Nat.not_lt_zero j)⟩
theorem nodup_take {xs : List UInt8} (hn : xs.Nodup) {k : Nat} {x : UInt8} (h : xs[k]? = some x) : x ∉ xs.take k := by
  intro hx
  obtain ⟨j, hj, he⟩ := List.mem_iff_getElem.1 hx
  have hj3 : j < k := by rw [List.length_take] at hj; omega
  have hk : k < xs.length := (List.getElem?_eq_some_iff.1 h).1
  rw [List.getElem_take] at he
  have hlen : j < xs.length := by omega
  have : xs[j]? = xs[k]? := by rw [List.getElem?_eq_getElem hlen, he, h]
  have := (List.getElem?_inj hlen hn).1 this
  omega
theorem meets_next {xs ys p : List UInt8} (hn : xs.Nodup) {k : Nat} {x y : UInt8} (hx : xs[k]? = some x) (hy : ys[k]? = some y) (h : Meets xs ys k p) :
    Meets xs ys (k + 1) (mixin (mul (y ^^^ eval x p) (inv (eval x (monic (xs.take k))))) p (monic (xs.take k))) := by
  have hk : k < xs.length := (List.getElem?_eq_some_iff.1 hx).1
  have hl : (monic (xs.take k)).length ≤ p.length := by rw [monic_length, h.1, List.length_take]; omega
  refine ⟨by rw [mixin_length]; exact h.1, fun j b hj hb => ?_⟩
  rw [eval_mixin _ _ _ _ hl]
  by_cases hjk : j = k
  · subst hjk
    rw [hx] at hb
    cases hb
    have ha : eval x (monic (xs.take j)) ≠ 0 := by rw [eval_monic]; exact away_ne (nodup_take hn hx)
    rw [mul_comm (y ^^^ eval x p), ← mul_assoc, mul_inv ha, one_mul, List.getD_eq_getElem?_getD, hy]
    show eval x p ^^^ (y ^^^ eval x p) = y
    rw [xor_comm y, ← xor_assoc, xor_self, zero_xor]
  · have hz : eval b (monic (xs.take k)) = 0 := by
      rw [eval_monic]
      refine away_zero (List.mem_of_getElem? (i := j) ?_)
      rw [List.getElem?_take_of_lt (by omega), hb]
    rw [hz, zero_mul, xor_zero]
    exact h.2 j b (by omega) hb
theorem meets_all {xs ys p : List UInt8} (hn : xs.Nodup) (h : Meets xs ys xs.length p) : p = coeff xs ys :=
  coeff_unique hn h.1 fun j b hb => h.2 j b (List.getElem?_eq_some_iff.1 hb).1 hb
theorem monic_take {xs : List UInt8} {k : Nat} {x : UInt8} (h : xs[k]? = some x) : monic (xs.take (k + 1)) = times (monic (xs.take k)) x := by
  rw [List.take_add_one, h]; exact monic_snoc _ _
end Gf
end Go.Proofs.Ytfeifmcgcgmhnaa
