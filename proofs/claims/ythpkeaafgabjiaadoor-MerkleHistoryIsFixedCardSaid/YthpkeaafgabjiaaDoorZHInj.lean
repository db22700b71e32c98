/- Encoded texts, one written after the other, say which texts they are. Mathematics; texts of at most 400 bytes. -/
import Derived.Test.YthpkeaafgabjiaaDoorZEncB
namespace Go.Proofs.YthpkeaafgabjiaaDoor
namespace Hash
open Wire (encStr enc dec)

theorem enc_inj {n m : Int} {t r : List UInt8} (hn : -9223372036854775808 ≤ n ∧ n ≤ 9223372036854775807) (hm : -9223372036854775808 ≤ m ∧ m ≤ 9223372036854775807) (h : enc n ++ t = enc m ++ r) : n = m ∧ t = r := by
  have h1 := Wire.dec_enc hn t
  have h2 := Wire.dec_enc hm r
  rw [h] at h1
  have e := h1.symm.trans h2
  simp only [Except.ok.injEq, Prod.mk.injEq] at e
  obtain ⟨rfl, _⟩ := e
  exact ⟨rfl, List.append_cancel_left h⟩
theorem encStr_inj {s s' r r' : List UInt8} (hs : s.length ≤ 400) (hs' : s'.length ≤ 400) (h : encStr s ++ r = encStr s' ++ r') : s = s' ∧ r = r' := by
  have h2 : enc (s.length : Int) ++ (s ++ r) = enc (s'.length : Int) ++ (s' ++ r') := by simpa [encStr] using h
  obtain ⟨h3, h4⟩ := enc_inj (by omega) (by omega) h2
  exact List.append_inj h4 (by omega)
theorem flat_inj : ∀ (l l' : List (List UInt8)), (∀ s ∈ l, s.length ≤ 400) → (∀ s ∈ l', s.length ≤ 400) → l.flatMap encStr = l'.flatMap encStr → l = l'
  | [], [], _, _, _ => rfl
  | [], s :: l', _, _, h => by
    have := congrArg List.length h
    have h2 := Wire.enc_length (s.length : Int)
    rw [List.flatMap_cons, List.length_append] at this
    simp only [encStr, List.length_append, List.flatMap_nil, List.length_nil] at this
    omega
  | s :: l, [], _, _, h => by
    have := congrArg List.length h
    have h2 := Wire.enc_length (s.length : Int)
    rw [List.flatMap_cons, List.length_append] at this
    simp only [encStr, List.length_append, List.flatMap_nil, List.length_nil] at this
    omega
  | s :: l, s' :: l', h1, h2, h => by
    rw [List.flatMap_cons, List.flatMap_cons] at h
    obtain ⟨rfl, h3⟩ := encStr_inj (h1 s (List.mem_cons_self ..)) (h2 s' (List.mem_cons_self ..)) h
    rw [flat_inj l l' (fun t ht => h1 t (List.mem_cons_of_mem _ ht)) (fun t ht => h2 t (List.mem_cons_of_mem _ ht)) h3]

end Hash
end Go.Proofs.YthpkeaafgabjiaaDoor
