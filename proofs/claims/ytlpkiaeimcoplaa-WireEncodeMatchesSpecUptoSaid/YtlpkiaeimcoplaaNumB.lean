/- Lists at the beginning of a byte sequence: mathematics only, no program. No condition. -/
import Derived.Test.YtlpkiaeimcoplaaNum
namespace Go.Proofs.Ytlpkiaeimcoplaa
namespace Wire

/-- A number of elements, one behind the other, from a place on. -/
def decMany {α : Type} (g : List UInt8 → Except Nat (α × Nat)) (bs : List UInt8) : Nat → Nat → Except Nat (List α × Nat)
  | 0, at_ => .ok ([], at_)
  | n + 1, at_ =>
    match g (bs.drop at_) with
    | .error e => .error e
    | .ok (v, k) =>
      match decMany g bs n (at_ + k) with
      | .error e => .error e
      | .ok (vs, to) => .ok (v :: vs, to)
/-- The elements before, those that follow. -/
def pre {α : Type} (xs : List α) (r : Except Nat (List α × Nat)) : Except Nat (List α × Nat) :=
  match r with
  | .error e => .error e
  | .ok (vs, to) => .ok (xs ++ vs, to)
theorem pre_nil {α : Type} (r : Except Nat (List α × Nat)) : pre [] r = r := by cases r <;> rfl
theorem pre_zero {α : Type} (g : List UInt8 → Except Nat (α × Nat)) (bs : List UInt8) (xs : List α) (at_ : Nat) : pre xs (decMany g bs 0 at_) = .ok (xs, at_) := by simp [pre, decMany]
theorem pre_ok {α : Type} {g : List UInt8 → Except Nat (α × Nat)} {bs : List UInt8} {xs : List α} {n at_ k : Nat} {v : α} (h : g (bs.drop at_) = .ok (v, k)) :
    pre xs (decMany g bs (n + 1) at_) = pre (xs ++ [v]) (decMany g bs n (at_ + k)) := by
  simp only [decMany, h]
  cases decMany g bs n (at_ + k) <;> simp [pre]
theorem pre_err {α : Type} {g : List UInt8 → Except Nat (α × Nat)} {bs : List UInt8} {xs : List α} {n at_ e : Nat} (h : g (bs.drop at_) = .error e) :
    pre xs (decMany g bs (n + 1) at_) = .error e := by
  simp only [decMany, h]; rfl
/-- A list at the beginning of a byte sequence. -/
def decList {α : Type} (g : List UInt8 → Except Nat (α × Nat)) (size : Nat) (bs : List UInt8) : Except Nat (List α × Nat) :=
  match declen size bs with
  | .error e => .error e
  | .ok (n, u) => decMany g bs n.toNat u

theorem decStr_used {b : List UInt8} {l : List UInt8} {u : Nat} (h : decStr b = .ok (l, u)) : 1 ≤ u ∧ u ≤ b.length := by
  unfold decStr at h
  cases hd : declen 1 b with
  | error e => rw [hd] at h; cases h
  | ok p =>
    obtain ⟨n, k⟩ := p
    rw [hd] at h
    simp only [Except.ok.injEq, Prod.mk.injEq] at h
    obtain ⟨h1, h2, h3⟩ := declen_ok hd
    have := dec_used h1
    simp at h3
    omega
theorem decStr_err {b : List UInt8} {e : Nat} (h : decStr b = .error e) : e = 5 ∨ e = 6 := by
  unfold decStr at h
  cases hd : declen 1 b with
  | error x => rw [hd] at h; cases h; exact declen_err hd
  | ok p => rw [hd] at h; cases h

end Wire
end Go.Proofs.Ytlpkiaeimcoplaa
