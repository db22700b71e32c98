/- What is encoded is decoded, whatever follows it: mathematics only. Condition: lengths have 63 bits. -/
import Derived.Test.YtlpkiaeimcoplaaNumB
namespace Go.Proofs.Ytlpkiaeimcoplaa
namespace Wire

theorem declen_enc {size k : Nat} {rest : List UInt8} (hk : k ≤ 9223372036854775807) (hs : 0 < size) (h : k * size ≤ rest.length) : declen size (enc (k : Int) ++ rest) = .ok ((k : Int), (enc (k : Int)).length) := by
  have hd := dec_enc (n := (k : Int)) (by omega) rest
  unfold declen
  rw [hd]
  simp only
  rw [if_neg (by omega), if_neg]
  rw [List.length_append, Nat.add_sub_cancel_left]
  have : k ≤ rest.length / size := (Nat.le_div_iff_mul_le hs).2 h
  omega

theorem decStr_enc (s t : List UInt8) (hs : s.length ≤ 9223372036854775807) : decStr (encStr s ++ t) = .ok (s, (encStr s).length) := by
  unfold decStr encStr
  rw [List.append_assoc, declen_enc hs (by omega) (by simp)]
  simp

theorem decMany_enc {α : Type} {g : List UInt8 → Except Nat (α × Nat)} {f : α → List UInt8} (bs t : List UInt8) : ∀ (l : List α) (at_ : Nat), (∀ x ∈ l, ∀ t, g (f x ++ t) = .ok (x, (f x).length)) → bs.drop at_ = l.flatMap f ++ t → decMany g bs l.length at_ = .ok (l, at_ + (l.flatMap f).length)
  | [], at_, _, _ => by simp [decMany]
  | x :: l, at_, hg, h => by
    have h1 : bs.drop at_ = f x ++ (l.flatMap f ++ t) := by rw [h]; simp
    have h2 : bs.drop (at_ + (f x).length) = l.flatMap f ++ t := by rw [← List.drop_drop, h1, List.drop_left]
    have ih := decMany_enc (g := g) (f := f) bs t l (at_ + (f x).length) (fun y hy => hg y (by simp [hy])) h2
    simp only [List.length_cons, decMany, h1, hg x (by simp) (l.flatMap f ++ t), ih]
    simp [Nat.add_assoc]

theorem flat_ge {α : Type} {f : α → List UInt8} {size : Nat} : ∀ (l : List α), (∀ x ∈ l, size ≤ (f x).length) → l.length * size ≤ (l.flatMap f).length
  | [], _ => by simp
  | x :: l, h => by
    have h1 := h x (by simp)
    have h2 := flat_ge (f := f) (size := size) l (fun y hy => h y (by simp [hy]))
    simp only [List.length_cons, List.flatMap_cons, List.length_append, Nat.add_mul]
    omega

theorem decList_enc {α : Type} {g : List UInt8 → Except Nat (α × Nat)} {f : α → List UInt8} {size : Nat} (l : List α) (t : List UInt8) (hs : 0 < size) (hl : l.length ≤ 9223372036854775807)
    (hg : ∀ x ∈ l, ∀ t, g (f x ++ t) = .ok (x, (f x).length)) (hf : ∀ x ∈ l, size ≤ (f x).length) : decList g size (encList f l ++ t) = .ok (l, (encList f l).length) := by
  have h1 := flat_ge l hf
  have e : encList f l ++ t = enc (l.length : Int) ++ (l.flatMap f ++ t) := by simp [encList]
  unfold decList
  rw [e, declen_enc hl hs (by rw [List.length_append]; omega)]
  simp only [Int.toNat_natCast]
  rw [decMany_enc _ t l _ hg (by rw [List.drop_left])]
  simp [encList]

theorem encStr_le (s : List UInt8) (hs : s.length ≤ 9223372036854775807) : (encStr s).length ≤ 9 + s.length ∧ 1 ≤ (encStr s).length := by
  have := enc_length_le (n := (s.length : Int)) (by omega)
  simp only [encStr, List.length_append]
  omega
theorem encInts_le (l : List Int) (hl : l.length ≤ 9223372036854775807) (hr : ∀ x ∈ l, -9223372036854775808 ≤ x ∧ x ≤ 9223372036854775807) : (encList enc l).length ≤ 9 + 9 * l.length ∧ 1 ≤ (encList enc l).length := by
  have h1 := enc_length_le (n := (l.length : Int)) (by omega)
  have h2 : ∀ l : List Int, (∀ x ∈ l, -9223372036854775808 ≤ x ∧ x ≤ 9223372036854775807) → (l.flatMap enc).length ≤ 9 * l.length := by
    intro l
    induction l with
    | nil => intro _; simp
    | cons x l ih =>
      intro h
      have h3 := enc_length_le (h x (by simp))
      have h4 := ih (fun y hy => h y (by simp [hy]))
      simp only [List.flatMap_cons, List.length_append, List.length_cons]
      omega
  have := h2 l hr
  simp only [encList, List.length_append]
  omega

end Wire
end Go.Proofs.Ytlpkiaeimcoplaa
