/- What is cut short is reported as cut short: mathematics only. Condition: lengths have 63 bits. -/
import Derived.Test.YtlpkiaeimcoplaaNumC
namespace Go.Proofs.Ytlpkiaeimcoplaa
namespace Wire

theorem declen_cut {size k : Nat} (hk : k ≤ 9223372036854775807) (r : List UInt8) {i : Nat} (hi : i < (enc (k : Int)).length ∨ ((r.take (i - (enc (k : Int)).length)).length < k * size)) : declen size ((enc (k : Int) ++ r).take i) = .error 5 := by
  by_cases hlt : i < (enc (k : Int)).length
  · have hd := dec_short (n := (k : Int)) (by omega) hlt
    rw [List.take_append_of_le_length (by omega)]
    unfold declen
    rw [hd]
  · have h2 := hi.resolve_left hlt
    rw [List.take_append, List.take_of_length_le (by omega)]
    have hd := dec_enc (n := (k : Int)) (by omega) (r.take (i - (enc (k : Int)).length))
    unfold declen
    rw [hd]
    simp only
    rw [if_neg (by omega), if_pos]
    rw [List.length_append, Nat.add_sub_cancel_left]
    have := Nat.div_lt_of_lt_mul (m := (r.take (i - (enc (k : Int)).length)).length) (n := size) (k := k) (by rw [Nat.mul_comm]; exact h2)
    omega

theorem decStr_short (s : List UInt8) (hs : s.length ≤ 9223372036854775807) {i : Nat} (hi : i < (encStr s).length) : decStr ((encStr s).take i) = .error 5 := by
  have hl : (encStr s).length = (enc (s.length : Int)).length + s.length := by simp [encStr]
  have h := declen_cut (size := 1) hs s (i := i) (by
    by_cases h : i < (enc (s.length : Int)).length
    · exact .inl h
    · right; simp; omega)
  unfold decStr
  rw [show encStr s = enc (s.length : Int) ++ s from rfl, h]

theorem decMany_short {α : Type} {g : List UInt8 → Except Nat (α × Nat)} {f : α → List UInt8} (b : List UInt8) : ∀ (l : List α) (at_ j : Nat), (∀ x ∈ l, ∀ t, g (f x ++ t) = .ok (x, (f x).length)) → (∀ x ∈ l, ∀ i, i < (f x).length → g ((f x).take i) = .error 5) →
    j < (l.flatMap f).length → b.drop at_ = (l.flatMap f).take j → decMany g b l.length at_ = .error 5
  | [], _, j, _, _, h, _ => by simp at h
  | x :: l, at_, j, hg, hs, h, hb => by
    rw [List.flatMap_cons] at h hb
    rw [List.length_append] at h
    by_cases hj : j < (f x).length
    · rw [List.take_append_of_le_length (by omega)] at hb
      simp only [List.length_cons, decMany, hb, hs x (by simp) j hj]
    · rw [List.take_append, List.take_of_length_le (by omega)] at hb
      have h2 : b.drop (at_ + (f x).length) = (l.flatMap f).take (j - (f x).length) := by rw [← List.drop_drop, hb, List.drop_left]
      have ih := decMany_short (g := g) (f := f) b l (at_ + (f x).length) (j - (f x).length) (fun y hy => hg y (by simp [hy])) (fun y hy => hs y (by simp [hy])) (by omega) h2
      simp only [List.length_cons, decMany, hb, hg x (by simp), ih]

theorem decList_short {α : Type} {g : List UInt8 → Except Nat (α × Nat)} {f : α → List UInt8} (l : List α) (hl : l.length ≤ 9223372036854775807)
    (hg : ∀ x ∈ l, ∀ t, g (f x ++ t) = .ok (x, (f x).length)) (hs : ∀ x ∈ l, ∀ i, i < (f x).length → g ((f x).take i) = .error 5) {i : Nat} (hi : i < (encList f l).length) : decList g 1 ((encList f l).take i) = .error 5 := by
  have hlen : (encList f l).length = (enc (l.length : Int)).length + (l.flatMap f).length := by simp [encList]
  unfold decList
  by_cases hc : i < (enc (l.length : Int)).length ∨ (((l.flatMap f).take (i - (enc (l.length : Int)).length)).length < l.length * 1)
  · rw [show encList f l = enc (l.length : Int) ++ l.flatMap f from rfl, declen_cut hl _ hc]
  · have h1 : ¬ i < (enc (l.length : Int)).length := fun h => hc (.inl h)
    have h2 : ¬ ((l.flatMap f).take (i - (enc (l.length : Int)).length)).length < l.length * 1 := fun h => hc (.inr h)
    have e : (encList f l).take i = enc (l.length : Int) ++ (l.flatMap f).take (i - (enc (l.length : Int)).length) := by
      rw [show encList f l = enc (l.length : Int) ++ l.flatMap f from rfl, List.take_append, List.take_of_length_le (by omega)]
    rw [e, declen_enc hl (by omega) (by omega)]
    simp only [Int.toNat_natCast]
    exact decMany_short _ l _ (i - (enc (l.length : Int)).length) hg hs (by omega) (by rw [List.drop_left])

theorem flat16 : ∀ (l : List (List UInt8)), (∀ d ∈ l, d.length = 16) → (l.flatMap fun d => d).length = l.length * 16
  | [], _ => by simp
  | x :: l, h => by
    have h1 := h x (by simp)
    have h2 := flat16 l (fun y hy => h y (by simp [hy]))
    simp only [List.flatMap_cons, List.length_append, List.length_cons]
    omega
theorem decDig_short {g : List UInt8 → Except Nat (List UInt8 × Nat)} (l : List (List UInt8)) (hl : l.length ≤ 9223372036854775807) (h16 : ∀ d ∈ l, d.length = 16) {i : Nat} (hi : i < (encList (fun d => d) l).length) : decList g 16 ((encList (fun d => d) l).take i) = .error 5 := by
  have hf := flat16 l h16
  have hlen : (encList (fun d : List UInt8 => d) l).length = (enc (l.length : Int)).length + (l.flatMap fun d => d).length := by simp only [encList, List.length_append]
  unfold decList
  rw [show encList (fun d : List UInt8 => d) l = enc (l.length : Int) ++ l.flatMap (fun d => d) from rfl, declen_cut hl _ (by
    by_cases h : i < (enc (l.length : Int)).length
    · exact .inl h
    · right; rw [List.length_take]; omega)]

end Wire
end Go.Proofs.Ytlpkiaeimcoplaa
