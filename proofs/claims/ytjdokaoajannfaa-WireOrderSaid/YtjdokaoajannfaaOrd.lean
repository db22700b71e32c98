/- The order of the integers' encodings, compared byte by byte: mathematics only. Condition: the integers have 64 bits. -/
import Derived.Test.YtjdokaoajannfaaNum
import Derived.Laws.Strings
namespace Go.Proofs.Ytjdokaoajannfaa
namespace Wire

theorem less_cons (a b : UInt8) (x y : List UInt8) : Op.bytesLess (a :: x) (b :: y) = (decide (a < b) || (a == b && Op.bytesLess x y)) := by simp [Op.bytesLess]
theorem less_head {a b : UInt8} (x y : List UInt8) (h : a.toNat < b.toNat) : Op.bytesLess (a :: x) (b :: y) = true := by
  rw [less_cons, decide_eq_true (UInt8.lt_iff_toNat_lt.2 h)]; rfl
theorem less_head_not {a b : UInt8} (x y : List UInt8) (h : b.toNat < a.toNat) : Op.bytesLess (a :: x) (b :: y) = false := by
  have h1 : ¬ a < b := by rw [UInt8.lt_iff_toNat_lt]; omega
  have h2 : (a == b) = false := by
    rw [beq_eq_false_iff_ne]; intro e; rw [e] at h; omega
  rw [less_cons, decide_eq_false h1, h2]; rfl
theorem less_same (a : UInt8) (x y : List UInt8) : Op.bytesLess (a :: x) (a :: y) = Op.bytesLess x y := by
  have h1 : ¬ a < a := by rw [UInt8.lt_iff_toNat_lt]; omega
  rw [less_cons, decide_eq_false h1]; simp

theorem val_cons (c : UInt8) (l : List UInt8) : val (c :: l) = c.toNat * 256 ^ l.length + val l := by
  induction h : l.length generalizing l with
  | zero =>
    have : l = [] := List.eq_nil_of_length_eq_zero h
    subst this; simp [val]
  | succ k ih =>
    obtain ⟨l', d, rfl, hk⟩ := snoc_of h
    rw [← List.cons_append, val_snoc, val_snoc, ih l' hk, Nat.pow_succ, Nat.add_mul, Nat.mul_assoc]
    omega

/-- Of two lists of one length the lesser is the one with the lesser value. -/
theorem less_val : ∀ (x y : List UInt8), x.length = y.length → Op.bytesLess x y = decide (val x < val y)
  | [], [], _ => by simp [Op.bytesLess]
  | a :: x, b :: y, h => by
    have hl : x.length = y.length := by simpa using h
    have hx := val_lt x
    have hy := val_lt y
    rw [hl] at hx
    rw [val_cons, val_cons, hl]
    rcases Nat.lt_trichotomy a.toNat b.toNat with h1 | h1 | h1
    · rw [less_head x y h1]
      have h2 : (a.toNat + 1) * 256 ^ y.length ≤ b.toNat * 256 ^ y.length := Nat.mul_le_mul_right _ h1
      rw [Nat.add_mul] at h2
      rw [eq_comm, decide_eq_true_iff]
      omega
    · obtain rfl : a = b := UInt8.toNat_inj.1 h1
      rw [less_same, less_val x y hl]
      congr 1
      simp
    · rw [less_head_not x y h1]
      have h2 : (b.toNat + 1) * 256 ^ y.length ≤ a.toNat * 256 ^ y.length := Nat.mul_le_mul_right _ h1
      rw [Nat.add_mul] at h2
      rw [eq_comm, decide_eq_false_iff_not]
      omega
  | [], _ :: _, h => by simp at h
  | _ :: _, [], h => by simp at h

theorem val_flip : ∀ (l : List UInt8), val (l.map (flip true)) + val l + 1 = 256 ^ l.length
  | [] => by simp [val]
  | c :: l => by
    have ih := val_flip l
    have hc := u8_lt c
    rw [List.map_cons, val_cons, val_cons, List.length_map, List.length_cons, Nat.pow_succ]
    have e : (flip true c).toNat = 255 - c.toNat := by simp only [flip, if_true, sub_toNat]
    rw [e]
    have h1 : (255 - c.toNat) * 256 ^ l.length + c.toNat * 256 ^ l.length = 255 * 256 ^ l.length := by rw [← Nat.add_mul]; congr 1; omega
    omega

theorem digs_longer {m n : Nat} (h : (digs m).length < (digs n).length) : m < n := by
  rcases Nat.lt_or_ge m n with h1 | h1
  · exact h1
  · exfalso
    have h2 : m < 256 ^ (digs m).length := by have := val_lt (digs m); rwa [val_digs] at this
    have := digs_length_le (digs m).length n (by omega)
    omega

/-- The order of the integers is that of their encodings. -/
theorem enc_less {m n : Int} (hm : -9223372036854775808 ≤ m ∧ m ≤ 9223372036854775807) (hn : -9223372036854775808 ≤ n ∧ n ≤ 9223372036854775807) : Op.bytesLess (enc m) (enc n) = decide (m < n) := by
  have h8 := digs_magn_le hm
  have h9 := digs_magn_le hn
  unfold enc
  by_cases h0 : m < 0 <;> by_cases h1 : n < 0
  · rw [decide_eq_true h0, decide_eq_true h1]
    have e0 : (magn m : Int) = -1 - m := by unfold magn; rw [if_pos h0]; omega
    have e1 : (magn n : Int) = -1 - n := by unfold magn; rw [if_pos h1]; omega
    rcases Nat.lt_trichotomy (digs (magn m)).length (digs (magn n)).length with h2 | h2 | h2
    · have h3 := digs_longer h2
      rw [less_head_not _ _ (by simp [head]; omega), eq_comm, decide_eq_false_iff_not]; omega
    · rw [h2, less_same, less_val _ _ (by simp [h2])]
      have f0 := val_flip (digs (magn m))
      have f1 := val_flip (digs (magn n))
      rw [val_digs] at f0 f1
      rw [h2] at f0
      congr 1
      rw [eq_iff_iff]; omega
    · have h3 := digs_longer h2
      rw [less_head _ _ (by simp [head]; omega), eq_comm, decide_eq_true_iff]; omega
  · rw [decide_eq_true h0, decide_eq_false h1, less_head _ _ (by simp [head]; omega), eq_comm, decide_eq_true_iff]; omega
  · rw [decide_eq_false h0, decide_eq_true h1, less_head_not _ _ (by simp [head]; omega), eq_comm, decide_eq_false_iff_not]; omega
  · rw [decide_eq_false h0, decide_eq_false h1]
    have e0 : (magn m : Int) = m := by unfold magn; rw [if_neg h0]; omega
    have e1 : (magn n : Int) = n := by unfold magn; rw [if_neg h1]; omega
    have hid : ∀ l : List UInt8, l.map (flip false) = l := fun l => by
      conv => rhs; rw [← List.map_id l]
      exact List.map_congr_left fun c _ => rfl
    rw [hid, hid]
    rcases Nat.lt_trichotomy (digs (magn m)).length (digs (magn n)).length with h2 | h2 | h2
    · have h3 := digs_longer h2
      rw [less_head _ _ (by simp [head]; omega), eq_comm, decide_eq_true_iff]; omega
    · rw [h2, less_same, less_val _ _ h2, val_digs, val_digs]
      congr 1
      rw [eq_iff_iff]; omega
    · have h3 := digs_longer h2
      rw [less_head_not _ _ (by simp [head]; omega), eq_comm, decide_eq_false_iff_not]; omega

theorem enc_prefix {m n : Int} (hm : -9223372036854775808 ≤ m ∧ m ≤ 9223372036854775807) (hn : -9223372036854775808 ≤ n ∧ n ≤ 9223372036854775807) {t : List UInt8} (h : enc n = enc m ++ t) : m = n := by
  have h1 := dec_enc hm t
  have h2 := dec_enc hn []
  rw [List.append_nil, h, h1] at h2
  simp only [Except.ok.injEq, Prod.mk.injEq] at h2
  exact h2.1
theorem enc_inj {m n : Int} (hm : -9223372036854775808 ≤ m ∧ m ≤ 9223372036854775807) (hn : -9223372036854775808 ≤ n ∧ n ≤ 9223372036854775807) : enc m = enc n ↔ m = n :=
  ⟨fun h => enc_prefix (t := []) hm hn (by simp [h]), fun h => by rw [h]⟩
theorem enc_take {m n : Int} (hm : -9223372036854775808 ≤ m ∧ m ≤ 9223372036854775807) (hn : -9223372036854775808 ≤ n ∧ n ≤ 9223372036854775807) :
    (enc m).take (min (enc m).length (enc n).length) = (enc n).take (min (enc m).length (enc n).length) ↔ m = n := by
  constructor
  · intro h
    rcases Nat.le_total (enc m).length (enc n).length with h1 | h1
    · rw [Nat.min_eq_left h1, List.take_length] at h
      exact enc_prefix (t := (enc n).drop (enc m).length) hm hn (by conv => lhs; rw [← List.take_append_drop (enc m).length (enc n), ← h])
    · rw [Nat.min_eq_right h1, List.take_length] at h
      exact (enc_prefix (t := (enc m).drop (enc n).length) hn hm (by conv => lhs; rw [← List.take_append_drop (enc n).length (enc m), h])).symm
  · rintro rfl; rfl

end Wire
end Go.Proofs.Ytjdokaoajannfaa
