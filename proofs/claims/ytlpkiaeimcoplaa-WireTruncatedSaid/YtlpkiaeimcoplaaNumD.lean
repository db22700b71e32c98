/- What is decoded has the bytes that were consumed as its encoding: mathematics only. No condition. -/
import Derived.Test.YtlpkiaeimcoplaaNumC
namespace Go.Proofs.Ytlpkiaeimcoplaa
namespace Wire

/-- Either there was an error, or the consumed bytes are the encoding. -/
def Cons (bs c : List UInt8) (u x : Nat) : Prop := x ≠ 0 ∨ (x = 0 ∧ c = bs.take u ∧ u ≤ bs.length)

theorem dec_take {b : List UInt8} {n : Int} {u : Nat} (h : dec b = .ok (n, u)) : enc n = b.take u := by
  obtain ⟨h1, h2, _⟩ := dec_ok h
  conv => rhs; rw [h1]
  rw [h2, List.take_left]
theorem decStr_take {b s : List UInt8} {u : Nat} (h : decStr b = .ok (s, u)) : encStr s = b.take u ∧ u ≤ b.length ∧ s.length ≤ b.length := by
  unfold decStr at h
  cases hd : declen 1 b with
  | error e => rw [hd] at h; cases h
  | ok p =>
    obtain ⟨n, k⟩ := p
    rw [hd] at h
    simp only [Except.ok.injEq, Prod.mk.injEq] at h
    obtain ⟨rfl, rfl⟩ := h
    obtain ⟨h1, h2, h3⟩ := declen_ok hd
    have hu := dec_used h1
    simp at h3
    obtain ⟨m, rfl⟩ : ∃ m : Nat, n = m := ⟨n.toNat, by omega⟩
    simp only [Int.toNat_natCast]
    have hl : ((b.drop k).take m).length = m := by simp; omega
    refine ⟨?_, by omega, by rw [hl]; omega⟩
    unfold encStr
    rw [hl, dec_take h1, List.take_add]
theorem decMany_take {α : Type} {g : List UInt8 → Except Nat (α × Nat)} {f : α → List UInt8} {b : List UInt8} (hg : ∀ c v k, g c = .ok (v, k) → f v = c.take k) : ∀ (n at_ : Nat) (l : List α) (to : Nat),
    decMany g b n at_ = .ok (l, to) → l.length = n ∧ at_ ≤ to ∧ l.flatMap f = (b.drop at_).take (to - at_)
  | 0, at_, l, to, h => by
    simp only [decMany, Except.ok.injEq, Prod.mk.injEq] at h
    obtain ⟨rfl, rfl⟩ := h
    simp
  | n + 1, at_, l, to, h => by
    simp only [decMany] at h
    cases hv : g (b.drop at_) with
    | error e => rw [hv] at h; cases h
    | ok p =>
      obtain ⟨v, k⟩ := p
      rw [hv] at h
      simp only at h
      cases hr : decMany g b n (at_ + k) with
      | error e => rw [hr] at h; cases h
      | ok q =>
        obtain ⟨vs, to'⟩ := q
        rw [hr] at h
        simp only [Except.ok.injEq, Prod.mk.injEq] at h
        obtain ⟨rfl, rfl⟩ := h
        obtain ⟨h1, h2, h3⟩ := decMany_take hg n (at_ + k) vs to' hr
        refine ⟨by simp [h1], by omega, ?_⟩
        rw [List.flatMap_cons, h3, hg _ _ _ hv, show to' - at_ = k + (to' - (at_ + k)) by omega, List.take_add, List.drop_drop]
theorem decMany_le {α : Type} {g : List UInt8 → Except Nat (α × Nat)} {b : List UInt8} (hg : ∀ c v k, g c = .ok (v, k) → k ≤ c.length) : ∀ (n at_ : Nat) (l : List α) (to : Nat),
    at_ ≤ b.length → decMany g b n at_ = .ok (l, to) → to ≤ b.length
  | 0, at_, l, to, ha, h => by
    simp only [decMany, Except.ok.injEq, Prod.mk.injEq] at h
    omega
  | n + 1, at_, l, to, ha, h => by
    simp only [decMany] at h
    cases hv : g (b.drop at_) with
    | error e => rw [hv] at h; cases h
    | ok p =>
      obtain ⟨v, k⟩ := p
      rw [hv] at h
      simp only at h
      have hk := hg _ _ _ hv
      simp at hk
      cases hr : decMany g b n (at_ + k) with
      | error e => rw [hr] at h; cases h
      | ok q =>
        obtain ⟨vs, to'⟩ := q
        rw [hr] at h
        simp only [Except.ok.injEq, Prod.mk.injEq] at h
        obtain ⟨rfl, rfl⟩ := h
        exact decMany_le hg n (at_ + k) vs to' (by omega) hr
theorem decMany_all {α : Type} {g : List UInt8 → Except Nat (α × Nat)} {b : List UInt8} {P : α → Prop} (hg : ∀ c v k, g c = .ok (v, k) → P v) : ∀ (n at_ : Nat) (l : List α) (to : Nat),
    decMany g b n at_ = .ok (l, to) → ∀ v ∈ l, P v
  | 0, at_, l, to, h => by
    simp only [decMany, Except.ok.injEq, Prod.mk.injEq] at h
    obtain ⟨rfl, rfl⟩ := h
    simp
  | n + 1, at_, l, to, h => by
    simp only [decMany] at h
    cases hv : g (b.drop at_) with
    | error e => rw [hv] at h; cases h
    | ok p =>
      obtain ⟨v, k⟩ := p
      rw [hv] at h
      simp only at h
      cases hr : decMany g b n (at_ + k) with
      | error e => rw [hr] at h; cases h
      | ok q =>
        obtain ⟨vs, to'⟩ := q
        rw [hr] at h
        simp only [Except.ok.injEq, Prod.mk.injEq] at h
        obtain ⟨rfl, rfl⟩ := h
        intro x hx
        rcases List.mem_cons.1 hx with rfl | hx
        · exact hg _ _ _ hv
        · exact decMany_all hg n (at_ + k) vs to' hr x hx
theorem decList_take {α : Type} {g : List UInt8 → Except Nat (α × Nat)} {f : α → List UInt8} {size : Nat} {b : List UInt8} {l : List α} {u : Nat} (hg : ∀ c v k, g c = .ok (v, k) → f v = c.take k) (h : decList g size b = .ok (l, u)) :
    encList f l = b.take u ∧ l.length ≤ (b.length) / size ∧ ∃ k, decMany g b l.length k = .ok (l, u) ∧ k ≤ b.length ∧ l.length ≤ (b.length - k) / size := by
  unfold decList at h
  cases hd : declen size b with
  | error e => rw [hd] at h; cases h
  | ok p =>
    obtain ⟨n, k⟩ := p
    rw [hd] at h
    simp only at h
    obtain ⟨h1, h2, h3⟩ := declen_ok hd
    obtain ⟨m, rfl⟩ : ∃ m : Nat, n = m := ⟨n.toNat, by omega⟩
    simp only [Int.toNat_natCast] at h
    obtain ⟨h4, h5, h6⟩ := decMany_take hg _ _ _ _ h
    have hu := dec_used h1
    have h7 : m ≤ (b.length - k) / size := by omega
    have h8 : (b.length - k) / size ≤ b.length / size := Nat.div_le_div_right (by omega)
    refine ⟨?_, by omega, k, by rw [h4]; exact h, by omega, by omega⟩
    unfold encList
    rw [h6, h4, dec_take h1]
    conv => rhs; rw [show u = k + (u - k) by omega, List.take_add]

end Wire
end Go.Proofs.Ytlpkiaeimcoplaa
