/- The encodings of integers, texts and lists as plain lists of bytes, and what their decoding gives: mathematics only, no program. No condition. -/
import Derived.KernelRfl
namespace Go.Proofs.YtjijlepkcghmeaaDoor
namespace Wire

/-- The digits of a number to the base 256, the greatest first, no leading zero. -/
def digs (m : Nat) : List UInt8 := if m = 0 then [] else digs (m / 256) ++ [UInt8.ofNat (m % 256)]
termination_by m
decreasing_by omega

theorem digs_zero : digs 0 = [] := by rw [digs]; simp
theorem digs_pos {m : Nat} (h : m ≠ 0) : digs m = digs (m / 256) ++ [UInt8.ofNat (m % 256)] := by rw [digs]; simp [h]
theorem digs_nil {m : Nat} : digs m = [] ↔ m = 0 := by
  constructor
  · intro h
    by_cases hm : m = 0
    · exact hm
    · rw [digs_pos hm] at h; simp at h
  · rintro rfl; exact digs_zero

theorem digs_length_le : ∀ (k m : Nat), m < 256 ^ k → (digs m).length ≤ k
  | 0, m, h => by
    have : m = 0 := by simpa using h
    subst this; simp [digs_zero]
  | k + 1, m, h => by
    by_cases hm : m = 0
    · subst hm; simp [digs_zero]
    · rw [digs_pos hm]
      have := digs_length_le k (m / 256) (by rw [Nat.pow_succ] at h; omega)
      simp; omega

def val (l : List UInt8) : Nat := l.foldl (fun a c => a * 256 + c.toNat) 0
theorem val_nil : val [] = 0 := rfl
theorem val_snoc (l : List UInt8) (c : UInt8) : val (l ++ [c]) = val l * 256 + c.toNat := by simp [val]
theorem u8_lt (c : UInt8) : c.toNat < 256 := c.toNat_lt
theorem toNat_ofNat (m : Nat) : (UInt8.ofNat (m % 256)).toNat = m % 256 := by simp

theorem val_digs (m : Nat) : val (digs m) = m := by
  induction m using Nat.strongRecOn with
  | ind m ih =>
    by_cases hm : m = 0
    · subst hm; simp [digs_zero, val_nil]
    · rw [digs_pos hm, val_snoc, ih (m / 256) (by omega), toNat_ofNat]; omega

theorem snoc_of {l : List UInt8} {k : Nat} (h : l.length = k + 1) : ∃ l' c, l = l' ++ [c] ∧ l'.length = k := by
  rcases List.eq_nil_or_concat l with rfl | ⟨l', c, rfl⟩
  · simp at h
  · rw [List.concat_eq_append] at h ⊢
    exact ⟨l', c, rfl, by simpa using h⟩

theorem val_lt : ∀ (l : List UInt8), val l < 256 ^ l.length := by
  intro l
  induction h : l.length generalizing l with
  | zero =>
    have : l = [] := List.eq_nil_of_length_eq_zero h
    subst this; simp [val_nil]
  | succ k ih =>
    obtain ⟨l', c, rfl, hk⟩ := snoc_of h
    rw [val_snoc]
    have h1 := ih l' hk
    have h2 := u8_lt c
    rw [Nat.pow_succ]; omega

theorem val_cons_ge (c : UInt8) (l : List UInt8) : c.toNat * 256 ^ l.length ≤ val (c :: l) := by
  induction h : l.length generalizing l with
  | zero =>
    have : l = [] := List.eq_nil_of_length_eq_zero h
    subst this; simp [val]
  | succ k ih =>
    obtain ⟨l', d, rfl, hk⟩ := snoc_of h
    have h1 := ih l' hk
    rw [← List.cons_append, val_snoc, Nat.pow_succ, ← Nat.mul_assoc]
    exact Nat.le_trans (Nat.mul_le_mul_right 256 h1) (Nat.le_add_right _ _)

theorem digs_val (l : List UInt8) (h : ∀ c t, l = c :: t → c ≠ 0) : digs (val l) = l := by
  induction hl : l.length generalizing l with
  | zero =>
    have : l = [] := List.eq_nil_of_length_eq_zero hl
    subst this; simp [val_nil, digs_zero]
  | succ k ih =>
    obtain ⟨l', d, rfl, hk⟩ := snoc_of hl
    have hlt := u8_lt d
    have hnz : val (l' ++ [d]) ≠ 0 := by
      cases hc : l' ++ [d] with
      | nil => simp at hc
      | cons c t =>
        have hc0 := h c t hc
        have h1 := val_cons_ge c t
        have h2 : 0 < c.toNat := by
          rcases Nat.eq_zero_or_pos c.toNat with h0 | h0
          · exact absurd (UInt8.toNat_inj.1 (by simpa using h0)) hc0
          · exact h0
        have h3 : 0 < c.toNat * 256 ^ t.length := Nat.mul_pos h2 (Nat.pow_pos (by omega))
        omega
    rw [digs_pos hnz, val_snoc]
    have h4 : (val l' * 256 + d.toNat) / 256 = val l' := by omega
    have h5 : (val l' * 256 + d.toNat) % 256 = d.toNat := by omega
    rw [h4, h5, UInt8.ofNat_toNat, ih l' (fun c t e => h c (t ++ [d]) (by rw [e]; rfl)) hk]

theorem digs_head (m : Nat) : ∀ c t, digs m = c :: t → c ≠ 0 := by
  induction m using Nat.strongRecOn with
  | ind m ih =>
    intro c t h
    by_cases hm : m = 0
    · subst hm; rw [digs_zero] at h; cases h
    · rw [digs_pos hm] at h
      cases hd : digs (m / 256) with
      | nil =>
        rw [hd] at h
        have h0 := digs_nil.1 hd
        simp at h
        obtain ⟨rfl, _⟩ := h
        intro e
        have := congrArg UInt8.toNat e
        rw [UInt8.toNat_ofNat] at this
        simp at this
        omega
      | cons c' t' =>
        rw [hd] at h
        simp at h
        obtain ⟨rfl, _⟩ := h
        exact ih (m / 256) (by omega) c' t' hd

/-- What is encoded of an integer besides its sign. -/
def magn (n : Int) : Nat := if n < 0 then (-1 - n).toNat else n.toNat
def flip (neg : Bool) (c : UInt8) : UInt8 := if neg then 255 - c else c
def head (neg : Bool) (k : Nat) : UInt8 := if neg then UInt8.ofNat (127 - k) else UInt8.ofNat (128 + k)
def enc (n : Int) : List UInt8 := head (decide (n < 0)) (digs (magn n)).length :: (digs (magn n)).map (flip (decide (n < 0)))

theorem sub_toNat (c : UInt8) : (255 - c).toNat = 255 - c.toNat := by
  have := u8_lt c
  rw [UInt8.toNat_sub_of_le _ _ (by rw [UInt8.le_iff_toNat_le]; simp; omega)]; rfl
theorem flip_flip (neg : Bool) (c : UInt8) : flip neg (flip neg c) = c := by
  cases neg
  · rfl
  · apply UInt8.toNat_inj.1
    have := u8_lt c
    simp only [flip, if_true, sub_toNat]; omega
theorem flip_map (neg : Bool) (l : List UInt8) : (l.map (flip neg)).map (flip neg) = l := by
  rw [List.map_map]
  conv => rhs; rw [← List.map_id l]
  exact List.map_congr_left fun c _ => flip_flip neg c
theorem flip_zero (neg : Bool) (c : UInt8) : flip neg c = flip neg 0 ↔ c = 0 :=
  ⟨fun h => by have := congrArg (flip neg) h; rwa [flip_flip, flip_flip] at this, fun h => by rw [h]⟩

theorem magn_lt {n : Int} (h : -9223372036854775808 ≤ n ∧ n ≤ 9223372036854775807) : magn n < 9223372036854775808 := by
  unfold magn; split <;> omega
theorem digs_magn_le {n : Int} (h : -9223372036854775808 ≤ n ∧ n ≤ 9223372036854775807) : (digs (magn n)).length ≤ 8 :=
  digs_length_le 8 _ (by have := magn_lt h; omega)
theorem enc_length (n : Int) : (enc n).length = 1 + (digs (magn n)).length := by simp [enc]; omega
theorem enc_length_le {n : Int} (h : -9223372036854775808 ≤ n ∧ n ≤ 9223372036854775807) : 1 ≤ (enc n).length ∧ (enc n).length ≤ 9 := by
  have := digs_magn_le h; rw [enc_length]; omega

/-- The first byte: its sign, how many bytes follow. -/
def hneg (h : UInt8) : Bool := decide (h.toNat < 128)
def hlen (h : UInt8) : Nat := if h.toNat < 128 then 127 - h.toNat else h.toNat - 128

theorem head_neg (neg : Bool) {k : Nat} (hk : k ≤ 8) : hneg (head neg k) = neg := by
  cases neg <;> simp [hneg, head] <;> omega
theorem head_len (neg : Bool) {k : Nat} (hk : k ≤ 8) : hlen (head neg k) = k := by
  cases neg <;> simp [hlen, head] <;> split <;> omega
theorem head_of (h : UInt8) (hk : hlen h ≤ 8) : head (hneg h) (hlen h) = h := by
  have hl := u8_lt h
  apply UInt8.toNat_inj.1
  unfold hlen at hk
  by_cases c : h.toNat < 128
  · rw [if_pos c] at hk
    simp [head, hneg, hlen, c]; omega
  · rw [if_neg c] at hk
    simp [head, hneg, hlen, c]; omega

/-- An integer at the beginning of a byte sequence: the integer and how many bytes it takes, or the error's number. -/
def dec : List UInt8 → Except Nat (Int × Nat)
  | [] => .error 5
  | h :: t =>
    if 8 < hlen h then .error 6
    else if t.length < hlen h then .error 5
    else if (0 < hlen h ∧ t.head? = some (flip (hneg h) 0)) ∨ 9223372036854775807 < val ((t.take (hlen h)).map (flip (hneg h))) then .error 6
    else .ok (if hneg h then -1 - (val ((t.take (hlen h)).map (flip (hneg h))) : Int) else (val ((t.take (hlen h)).map (flip (hneg h))) : Int), 1 + hlen h)

theorem dec_far {h : UInt8} {t : List UInt8} (h1 : 8 < hlen h) : dec (h :: t) = .error 6 := by simp only [dec]; rw [if_pos h1]
theorem dec_less {h : UInt8} {t : List UInt8} (h1 : ¬ 8 < hlen h) (h2 : t.length < hlen h) : dec (h :: t) = .error 5 := by simp only [dec]; rw [if_neg h1, if_pos h2]
theorem dec_bad {h : UInt8} {t : List UInt8} (h1 : ¬ 8 < hlen h) (h2 : ¬ t.length < hlen h)
    (h3 : (0 < hlen h ∧ t.head? = some (flip (hneg h) 0)) ∨ 9223372036854775807 < val ((t.take (hlen h)).map (flip (hneg h)))) : dec (h :: t) = .error 6 := by
  simp only [dec]; rw [if_neg h1, if_neg h2, if_pos h3]
theorem dec_good {h : UInt8} {t : List UInt8} (h1 : ¬ 8 < hlen h) (h2 : ¬ t.length < hlen h)
    (h3 : ¬ ((0 < hlen h ∧ t.head? = some (flip (hneg h) 0)) ∨ 9223372036854775807 < val ((t.take (hlen h)).map (flip (hneg h))))) :
    dec (h :: t) = .ok (if hneg h then -1 - (val ((t.take (hlen h)).map (flip (hneg h))) : Int) else (val ((t.take (hlen h)).map (flip (hneg h))) : Int), 1 + hlen h) := by
  simp only [dec]; rw [if_neg h1, if_neg h2, if_neg h3]

theorem dec_enc {n : Int} (h : -9223372036854775808 ≤ n ∧ n ≤ 9223372036854775807) (t : List UInt8) : dec (enc n ++ t) = .ok (n, (enc n).length) := by
  have h8 := digs_magn_le h
  have hm := magn_lt h
  rw [enc_length]
  simp only [enc, List.cons_append, dec]
  rw [head_len _ h8, head_neg _ h8]
  rw [if_neg (by omega), if_neg (by simp), List.take_left' (by simp), flip_map, val_digs]
  rw [if_neg]
  · congr 2
    unfold magn
    by_cases c : n < 0
    · simp [c]; omega
    · simp [c]; omega
  · rintro (⟨h0, h1⟩ | h1)
    · cases hd : digs (magn n) with
      | nil => rw [hd] at h0; simp at h0
      | cons c l =>
        rw [hd] at h1
        simp only [List.map_cons, List.cons_append, List.head?_cons, Option.some.injEq] at h1
        exact digs_head _ c l hd ((flip_zero _ c).1 h1)
    · omega

theorem dec_ok {b : List UInt8} {n : Int} {u : Nat} (h : dec b = .ok (n, u)) :
    b = enc n ++ b.drop u ∧ u = (enc n).length ∧ -9223372036854775808 ≤ n ∧ n ≤ 9223372036854775807 := by
  cases b with
  | nil => simp [dec] at h
  | cons c t =>
    simp only [dec] at h
    split at h
    · cases h
    · rename_i h1
      split at h
      · cases h
      · rename_i h2
        split at h
        · cases h
        · rename_i h3
          simp only [Except.ok.injEq, Prod.mk.injEq] at h
          obtain ⟨hn, hu⟩ := h
          have hz : ¬ 9223372036854775807 < val ((t.take (hlen c)).map (flip (hneg c))) := fun e => h3 (Or.inr e)
          have hd : digs (val ((t.take (hlen c)).map (flip (hneg c)))) = (t.take (hlen c)).map (flip (hneg c)) := by
            refine digs_val _ ?_
            intro x l e
            rintro rfl
            apply h3
            refine Or.inl ⟨?_, ?_⟩
            · rcases Nat.eq_zero_or_pos (hlen c) with h0 | h0
              · rw [h0] at e; simp at e
              · exact h0
            · cases t with
              | nil => simp at e
              | cons y t' =>
                have hpos : 0 < hlen c := by
                  rcases Nat.eq_zero_or_pos (hlen c) with h0 | h0
                  · rw [h0] at e; simp at e
                  · exact h0
                obtain ⟨k, hk⟩ : ∃ k, hlen c = k + 1 := ⟨hlen c - 1, by omega⟩
                rw [hk] at e
                simp only [List.take_succ_cons, List.map_cons, List.cons.injEq] at e
                simp only [List.head?_cons, Option.some.injEq]
                have := congrArg (flip (hneg c)) e.1
                rwa [flip_flip] at this
          have hmag : magn n = val ((t.take (hlen c)).map (flip (hneg c))) ∧ decide (n < 0) = hneg c := by
            generalize val ((t.take (hlen c)).map (flip (hneg c))) = q at hn hz ⊢
            cases hb : hneg c
            · rw [hb] at hn; simp only [Bool.false_eq_true, if_false] at hn; subst hn; simp [magn]; omega
            · rw [hb] at hn; simp only [if_true] at hn; subst hn; unfold magn; rw [if_pos (by omega)]; simp; omega
          have hlen' : (digs (magn n)).length = hlen c := by rw [hmag.1, hd]; simp; omega
          refine ⟨?_, ?_, ?_⟩
          · subst hu
            rw [enc, hlen', hmag.2, head_of c (by omega), hmag.1, hd, flip_map, List.cons_append, Nat.add_comm 1, List.drop_succ_cons, List.take_append_drop]
          · rw [enc_length, hlen', ← hu]
          · generalize val ((t.take (hlen c)).map (flip (hneg c))) = q at hn hz
            cases hb : hneg c <;> rw [hb] at hn <;> simp only [Bool.false_eq_true, if_false, if_true] at hn <;> omega

theorem dec_used {b : List UInt8} {n : Int} {u : Nat} (h : dec b = .ok (n, u)) : 1 ≤ u ∧ u ≤ 9 ∧ u ≤ b.length := by
  obtain ⟨h1, h2, h3⟩ := dec_ok h
  have := enc_length_le h3
  have h4 := congrArg List.length h1
  rw [List.length_append] at h4
  omega
theorem dec_err {b : List UInt8} {e : Nat} (h : dec b = .error e) : e = 5 ∨ e = 6 := by
  cases b with
  | nil => simp [dec] at h; omega
  | cons c t =>
    simp only [dec] at h
    split at h
    · cases h; omega
    · split at h
      · cases h; omega
      · split at h
        · cases h; omega
        · cases h

/-- A proper beginning of an encoding is too short. -/
theorem dec_short {n : Int} (h : -9223372036854775808 ≤ n ∧ n ≤ 9223372036854775807) {i : Nat} (hi : i < (enc n).length) : dec ((enc n).take i) = .error 5 := by
  have h8 := digs_magn_le h
  rw [enc_length] at hi
  cases i with
  | zero => simp [dec]
  | succ j =>
    simp only [enc, List.take_succ_cons, dec]
    rw [head_len _ h8, if_neg (by omega), if_pos (by simp; omega)]

/-- A number of things, each of which takes at least 'size' of the bytes that follow. -/
def declen (size : Nat) (bs : List UInt8) : Except Nat (Int × Nat) :=
  match dec bs with
  | .error e => .error e
  | .ok (n, u) => if n < 0 then .error 6 else if (((bs.length - u) / size : Nat) : Int) < n then .error 5 else .ok (n, u)

theorem declen_ok {size : Nat} {bs : List UInt8} {n : Int} {u : Nat} (h : declen size bs = .ok (n, u)) :
    dec bs = .ok (n, u) ∧ 0 ≤ n ∧ n ≤ (((bs.length - u) / size : Nat) : Int) := by
  unfold declen at h
  cases hd : dec bs with
  | error e => rw [hd] at h; cases h
  | ok p =>
    obtain ⟨m, k⟩ := p
    rw [hd] at h
    simp only at h
    split at h
    · cases h
    · split at h
      · cases h
      · cases h
        exact ⟨rfl, by omega, by omega⟩
theorem declen_err {size : Nat} {bs : List UInt8} {e : Nat} (h : declen size bs = .error e) : e = 5 ∨ e = 6 := by
  unfold declen at h
  cases hd : dec bs with
  | error x => rw [hd] at h; cases h; exact dec_err hd
  | ok p =>
    obtain ⟨m, k⟩ := p
    rw [hd] at h
    simp only at h
    split at h
    · cases h; omega
    · split at h
      · cases h; omega
      · cases h

/-- A text at the beginning of a byte sequence. -/
def decStr (bs : List UInt8) : Except Nat (List UInt8 × Nat) :=
  match declen 1 bs with
  | .error e => .error e
  | .ok (n, u) => .ok ((bs.drop u).take n.toNat, u + n.toNat)

/-- The encodings of a text and of a list. -/
def encStr (l : List UInt8) : List UInt8 := enc (l.length : Int) ++ l
def encList {α : Type} (f : α → List UInt8) (l : List α) : List UInt8 := enc (l.length : Int) ++ l.flatMap f

theorem flat_snoc {α : Type} (f : α → List UInt8) (l : List α) {i : Nat} {x : α} (h : l[i]? = some x) : (l.take (i + 1)).flatMap f = (l.take i).flatMap f ++ f x := by
  rw [List.take_add_one, h]; simp
theorem flat_le {α : Type} (f : α → List UInt8) (l : List α) (i : Nat) : ((l.take i).flatMap f).length ≤ (l.flatMap f).length := by
  have h : l.flatMap f = (l.take i).flatMap f ++ (l.drop i).flatMap f := by rw [← List.flatMap_append, List.take_append_drop]
  rw [h, List.length_append]; omega

end Wire
end Go.Proofs.YtjijlepkcghmeaaDoor
