/- Winternitz signatures as mathematics: chains are advanced in parts; a signature leads to the public key; two digests' digits are incomparable. No condition but lengths. -/
import Derived.Test.YtmabbiemjeeicaaDoorZHOf
import Derived.Test.YtmabbiemjeeicaaDoorM12
namespace Go.Proofs.YtmabbiemjeeicaaDoor
namespace Wo
open Hash (ofDig ofIn sha sha_length)
open Wire (enc encStr)

def zero : List UInt8 := List.replicate 16 0
def chainL : List UInt8 := [99, 104, 97, 105, 110]
def start (seed : List UInt8) (k : Nat) : List UInt8 := (Kdf.derive seed chainL [enc (k : Int)]).take 16
def link (k h : Nat) (v : List UInt8) : List UInt8 := ofDig 4 [enc (k : Int), enc (h : Int), v]
/-- The value n heights above that at the height a. -/
def climb (k a : Nat) (v : List UInt8) : Nat → List UInt8
  | 0 => v
  | n + 1 => link k (a + n) (climb k a v n)
def adv (k a b : Nat) (v : List UInt8) : List UInt8 := climb k a v (b - a)
def advI (k a b : Int) (v : List UInt8) : List UInt8 := if (0 ≤ k ∧ k ≤ 34) ∧ (0 ≤ a ∧ a ≤ 15) ∧ 0 ≤ b ∧ b ≤ 15 then adv k.toNat a.toNat b.toNat v else zero

theorem ofDig_length (t : Int) (p : List (List UInt8)) : (ofDig t p).length = 16 := by
  unfold ofDig; rw [List.length_take, sha_length]; rfl
theorem zero_length : zero.length = 16 := rfl
theorem start_length (s : List UInt8) (k : Nat) : (start s k).length = 16 := by
  unfold start; rw [List.length_take, Kdf.derive_length]; rfl
theorem climb_length {k a : Nat} {v : List UInt8} (hv : v.length = 16) : ∀ n, (climb k a v n).length = 16
  | 0 => hv
  | _ + 1 => ofDig_length _ _
theorem adv_length {k a b : Nat} {v : List UInt8} (hv : v.length = 16) : (adv k a b v).length = 16 := climb_length hv _
theorem advI_length {k a b : Int} {v : List UInt8} (hv : v.length = 16) : (advI k a b v).length = 16 := by
  unfold advI; split
  · exact adv_length hv
  · rfl
theorem climb_add (k a : Nat) (v : List UInt8) (m : Nat) : ∀ n, climb k a v (m + n) = climb k (a + m) (climb k a v m) n
  | 0 => rfl
  | n + 1 => by
    show link k (a + (m + n)) (climb k a v (m + n)) = link k (a + m + n) (climb k (a + m) (climb k a v m) n)
    rw [climb_add k a v m n, Nat.add_assoc]
theorem adv_adv {a b c : Nat} (hab : a ≤ b) (hbc : b ≤ c) (k : Nat) (v : List UInt8) : adv k b c (adv k a b v) = adv k a c v := by
  have h := climb_add k a v (b - a) (c - b)
  rw [show b - a + (c - b) = c - a by omega, show a + (b - a) = b by omega] at h
  exact h.symm
theorem advI_advI {k a b c : Int} (h0 : 0 ≤ k) (h1 : k ≤ 34) (h2 : 0 ≤ a) (h3 : a ≤ b) (h4 : b ≤ c) (h5 : c ≤ 15) (v : List UInt8) : advI k b c (advI k a b v) = advI k a c v := by
  unfold advI
  rw [if_pos (by omega), if_pos (by omega), if_pos (by omega)]
  exact adv_adv (by omega) (by omega) _ _
theorem advI_nat {k a b : Nat} (h0 : k ≤ 34) (h1 : a ≤ 15) (h2 : b ≤ 15) (v : List UInt8) : advI (k : Int) (a : Int) (b : Int) v = adv k a b v := by
  unfold advI
  rw [if_pos (by omega)]; rfl

/-! ### Steps of a chain -/
theorem adv_self (k a : Nat) (v : List UInt8) : adv k a a v = v := by unfold adv; rw [Nat.sub_self]; rfl
theorem adv_step {k a j : Nat} (h : a ≤ j) (v : List UInt8) : adv k a (j + 1) v = link k j (adv k a j v) := by
  unfold adv
  rw [show j + 1 - a = (j - a) + 1 by omega]
  show link k (a + (j - a)) (climb k a v (j - a)) = _
  rw [show a + (j - a) = j by omega]
theorem adv_down {k a b : Nat} (h : b ≤ a) (v : List UInt8) : adv k a b v = v := by unfold adv; rw [Nat.sub_eq_zero_of_le h]; rfl

/-! ### One value of each chain -/
def part (v : Nat → List UInt8) : Nat → List UInt8
  | 0 => []
  | k + 1 => part v k ++ v k
theorem part_length {v : Nat → List UInt8} : ∀ {n : Nat}, (∀ k, k < n → (v k).length = 16) → (part v n).length = 16 * n
  | 0, _ => rfl
  | n + 1, h => by
    show (part v n ++ v n).length = _
    rw [List.length_append, part_length (fun k hk => h k (by omega)), h n (by omega)]; omega
theorem part_congr {v u : Nat → List UInt8} : ∀ {n : Nat}, (∀ k, k < n → v k = u k) → part v n = part u n
  | 0, _ => rfl
  | n + 1, h => by
    show part v n ++ v n = part u n ++ u n
    rw [part_congr (fun k hk => h k (by omega)), h n (by omega)]
/-- The bytes of chain k. -/
def piece (s : List UInt8) (k : Nat) : List UInt8 := (s.drop (16 * k)).take 16
theorem piece_length {s : List UInt8} (hs : s.length = 560) {k : Nat} (hk : k < 35) : (piece s k).length = 16 := by
  unfold piece; rw [List.length_take, List.length_drop, hs]; omega
theorem piece_part {v : Nat → List UInt8} : ∀ {n k : Nat}, (∀ j, j < n → (v j).length = 16) → k < n → piece (part v n) k = v k
  | 0, _, _, hk => absurd hk (by omega)
  | n + 1, k, h, hk => by
    have hl := part_length (v := v) (n := n) (fun j hj => h j (by omega))
    show ((part v n ++ v n).drop (16 * k)).take 16 = v k
    by_cases hkn : k < n
    · have ih := piece_part (v := v) (fun j hj => h j (by omega)) hkn
      unfold piece at ih
      rw [List.drop_append_of_le_length (by rw [hl]; omega), List.take_append_of_le_length (by rw [List.length_drop, hl]; omega)]
      exact ih
    · obtain rfl : k = n := by omega
      rw [List.drop_append, List.drop_eq_nil_of_le (by rw [hl]; omega), hl, Nat.sub_self, List.drop_zero, List.nil_append]
      exact List.take_of_length_le (by rw [h k (by omega)]; omega)
theorem piece_at {s : List UInt8} {k i : Nat} (hi : i < 16) : (piece s k)[i]? = s[16 * k + i]? := by
  unfold piece
  rw [List.getElem?_take_of_lt hi, List.getElem?_drop]
/-- A text of 560 bytes is made of its pieces. -/
theorem part_piece (s : List UInt8) : ∀ {n : Nat}, 16 * n ≤ s.length → part (piece s) n = s.take (16 * n)
  | 0, _ => by simp [part]
  | n + 1, h => by
    show part (piece s) n ++ piece s n = _
    rw [part_piece s (by omega), piece, show 16 * (n + 1) = 16 * n + 16 by omega, List.take_add]

/-! ### Digits -/
def two (b : UInt8) : List Nat := [b.toNat / 16, b.toNat % 16]
def lack (b : UInt8) : Nat := 30 - b.toNat / 16 - b.toNat % 16
def flat (d : List UInt8) : List Nat := d.flatMap two
def csum : List UInt8 → Nat
  | [] => 0
  | b :: r => lack b + csum r
def last (s : Nat) : List Nat := [s / 256, s / 16 % 16, s % 16]
def digs (d : List UInt8) : List Nat := flat d ++ last (csum d)
def dig (d : List UInt8) (k : Nat) : Nat := (digs d).getD k 0
theorem flat_length (d : List UInt8) : (flat d).length = 2 * d.length := by
  induction d with
  | nil => rfl
  | cons b r ih => show (two b ++ flat r).length = _; rw [List.length_append, ih]; show 2 + _ = _; rw [List.length_cons]; omega
theorem digs_length {d : List UInt8} (hd : d.length = 16) : (digs d).length = 35 := by
  show (flat d ++ last _).length = _
  rw [List.length_append, flat_length, hd]; rfl
theorem digs_at {d : List UInt8} (hd : d.length = 16) {k : Nat} (hk : k < 35) : (digs d)[k]? = some (dig d k) := by
  have : k < (digs d).length := by rw [digs_length hd]; exact hk
  unfold dig
  rw [List.getD_eq_getElem?_getD, List.getElem?_eq_getElem this]; rfl
theorem lack_le (b : UInt8) : lack b ≤ 30 := by unfold lack; omega
theorem csum_le (d : List UInt8) : csum d ≤ 30 * d.length := by
  induction d with
  | nil => exact Nat.le_refl _
  | cons b r ih => have := lack_le b; show lack b + csum r ≤ _; rw [List.length_cons]; omega
theorem csum_append (a b : List UInt8) : csum (a ++ b) = csum a + csum b := by
  induction a with
  | nil => simp [csum]
  | cons x r ih => show lack x + csum (r ++ b) = lack x + csum r + csum b; rw [ih]; omega
theorem flat_append (a b : List UInt8) : flat (a ++ b) = flat a ++ flat b := by simp [flat]
theorem digs_mem {d : List UInt8} (hd : d.length = 16) {x : Nat} (hx : x ∈ digs d) : x ≤ 15 := by
  have hc := csum_le d
  rw [hd] at hc
  rcases List.mem_append.1 hx with h | h
  · obtain ⟨b, _, hb⟩ := List.mem_flatMap.1 h
    have := b.toNat_lt
    simp only [two, List.mem_cons, List.not_mem_nil, or_false] at hb
    omega
  · simp only [last, List.mem_cons, List.not_mem_nil, or_false] at h
    omega
theorem dig_le {d : List UInt8} (hd : d.length = 16) (k : Nat) : dig d k ≤ 15 := by
  by_cases hk : k < 35
  · exact digs_mem hd (List.mem_of_getElem? (digs_at hd hk))
  · unfold dig
    rw [List.getD_eq_getElem?_getD, List.getElem?_eq_none (by rw [digs_length hd]; omega)]
    exact Nat.zero_le _

/-! ### Keys and signatures -/
def ends (seed : List UInt8) (k : Nat) : List UInt8 := adv k 0 15 (start seed k)
def shown (seed d : List UInt8) (k : Nat) : List UInt8 := adv k 0 (dig d k) (start seed k)
def led (d s : List UInt8) (k : Nat) : List UInt8 := adv k (dig d k) 15 (piece s k)
def pub (seed : List UInt8) : List UInt8 := ofDig 5 [part (ends seed) 35]
def sign (seed d : List UInt8) : List UInt8 := part (shown seed d) 35
def recov (d s : List UInt8) : List UInt8 := ofDig 5 [part (led d s) 35]
theorem sign_length (seed d : List UInt8) : (sign seed d).length = 560 := part_length (n := 35) (fun _ _ => adv_length (start_length _ _))
theorem pub_length (seed : List UInt8) : (pub seed).length = 16 := ofDig_length _ _
theorem recov_length (d s : List UInt8) : (recov d s).length = 16 := ofDig_length _ _
theorem piece_sign (seed d : List UInt8) {k : Nat} (hk : k < 35) : piece (sign seed d) k = shown seed d k := piece_part (fun _ _ => adv_length (start_length _ _)) hk
theorem led_sign (seed : List UInt8) {d : List UInt8} (hd : d.length = 16) {k : Nat} (hk : k < 35) : led d (sign seed d) k = ends seed k := by
  unfold led
  rw [piece_sign seed d hk]
  exact adv_adv (Nat.zero_le _) (dig_le hd k) _ _
theorem recov_sign (seed : List UInt8) {d : List UInt8} (hd : d.length = 16) : recov d (sign seed d) = pub seed := by
  unfold recov pub
  rw [part_congr (fun k hk => led_sign seed hd hk)]

/-! ### No digest's digits are under another's -/
theorem flat_le {a b : List UInt8} (hl : a.length = b.length) (h : ∀ k, k < 2 * a.length → (flat a).getD k 0 ≤ (flat b).getD k 0) : csum b ≤ csum a ∧ (csum a = csum b → a = b) := by
  induction a generalizing b with
  | nil =>
    cases b with
    | nil => exact ⟨Nat.le_refl _, fun _ => rfl⟩
    | cons x r => cases hl
  | cons x r ih =>
    cases b with
    | nil => cases hl
    | cons y t =>
      have h0 := h 0 (by rw [List.length_cons]; omega)
      have h1 := h 1 (by rw [List.length_cons]; omega)
      have h0' : x.toNat / 16 ≤ y.toNat / 16 := h0
      have h1' : x.toNat % 16 ≤ y.toNat % 16 := h1
      obtain ⟨i1, i2⟩ := ih (b := t) (by simpa using hl) (fun k hk => h (k + 2) (by rw [List.length_cons]; omega))
      have hx := x.toNat_lt
      have hy := y.toNat_lt
      have e1 : lack x = 30 - x.toNat / 16 - x.toNat % 16 := rfl
      have e2 : lack y = 30 - y.toNat / 16 - y.toNat % 16 := rfl
      have c1 : csum (x :: r) = lack x + csum r := rfl
      have c2 : csum (y :: t) = lack y + csum t := rfl
      refine ⟨by omega, fun he => ?_⟩
      have e3 : x.toNat = y.toNat := by omega
      rw [UInt8.toNat_inj.1 e3, i2 (by omega)]
theorem dig_flat {d : List UInt8} {k : Nat} (hk : k < 2 * d.length) : dig d k = (flat d).getD k 0 := by
  unfold dig digs
  rw [List.getD_eq_getElem?_getD, List.getD_eq_getElem?_getD, List.getElem?_append_left (by rw [flat_length]; exact hk)]
theorem dig_last {d : List UInt8} (hd : d.length = 16) {j : Nat} : dig d (32 + j) = (last (csum d)).getD j 0 := by
  unfold dig digs
  rw [List.getD_eq_getElem?_getD, List.getD_eq_getElem?_getD, List.getElem?_append_right (by rw [flat_length, hd]; omega), flat_length, hd, Nat.add_sub_cancel_left]
theorem sum_digs {d : List UInt8} (hd : d.length = 16) : csum d = 256 * dig d 32 + 16 * dig d 33 + dig d 34 := by
  have h0 := dig_last hd (j := 0)
  have h1 := dig_last hd (j := 1)
  have h2 := dig_last hd (j := 2)
  have e0 : dig d 32 = csum d / 256 := h0
  have e1 : dig d 33 = csum d / 16 % 16 := h1
  have e2 : dig d 34 = csum d % 16 := h2
  omega
theorem digs_under {a b : List UInt8} (ha : a.length = 16) (hb : b.length = 16) (h : ∀ k, k < 35 → dig a k ≤ dig b k) : a = b := by
  obtain ⟨h1, h2⟩ := flat_le (a := a) (b := b) (by omega) (fun k hk => by rw [← dig_flat hk, ← dig_flat (by omega)]; exact h k (by omega))
  have s1 := sum_digs ha
  have s2 := sum_digs hb
  have k1 := h 32 (by omega)
  have k2 := h 33 (by omega)
  have k3 := h 34 (by omega)
  exact h2 (by omega)
/-- Some digit of the first is less than the second's. -/
def less (x y : Nat → Nat) : Nat → Bool
  | 0 => false
  | k + 1 => less x y k || decide (x k < y k)
theorem less_false {x y : Nat → Nat} : ∀ {n : Nat}, less x y n = false → ∀ k, k < n → y k ≤ x k
  | n + 1, h, k, hk => by
    have h2 : (less x y n || decide (x n < y n)) = false := h
    rw [Bool.or_eq_false_iff] at h2
    have h3 := of_decide_eq_false h2.2
    by_cases hkn : k < n
    · exact less_false h2.1 k hkn
    · obtain rfl : k = n := by omega
      omega
theorem less_same {x : Nat → Nat} : ∀ n, less x x n = false
  | 0 => rfl
  | n + 1 => by
    show (less x x n || decide (x n < x n)) = false
    rw [less_same n, decide_eq_false (Nat.lt_irrefl _)]; rfl
theorem less_digs {a b : List UInt8} (ha : a.length = 16) (hb : b.length = 16) : less (dig a) (dig b) 35 = decide (a ≠ b) := by
  by_cases h : a = b
  · subst h; rw [less_same]; simp
  · rw [decide_eq_true h]
    cases h2 : less (dig a) (dig b) 35 with
    | true => rfl
    | false => exact absurd (digs_under hb ha (less_false h2)).symm h
/-- What the digits lack, so far. -/
def lacks (d : List UInt8) : Nat → Nat
  | 0 => 0
  | k + 1 => lacks d k + (15 - dig d k)
theorem lacks_le {d : List UInt8} : ∀ n, lacks d n ≤ 15 * n
  | 0 => Nat.le_refl _
  | n + 1 => by have := lacks_le (d := d) n; show lacks d n + (15 - dig d n) ≤ _; omega
def lacksF (l : List Nat) : Nat → Nat
  | 0 => 0
  | k + 1 => lacksF l k + (15 - l.getD k 0)
theorem lacksF_two (a b : Nat) (l : List Nat) : ∀ n, lacksF (a :: b :: l) (n + 2) = (15 - a) + (15 - b) + lacksF l n
  | 0 => by show 0 + (15 - a) + (15 - b) = _; simp [lacksF]
  | n + 1 => by
    show lacksF (a :: b :: l) (n + 2) + (15 - l.getD n 0) = _ + (lacksF l n + (15 - l.getD n 0))
    rw [lacksF_two a b l n]; omega
theorem lacksF_flat (d : List UInt8) : lacksF (flat d) (2 * d.length) = csum d := by
  induction d with
  | nil => rfl
  | cons x r ih =>
    show lacksF (x.toNat / 16 :: x.toNat % 16 :: flat r) (2 * (r.length + 1)) = lack x + csum r
    rw [show 2 * (r.length + 1) = 2 * r.length + 2 by omega, lacksF_two, ih]
    have hx := x.toNat_lt
    unfold lack; omega
theorem lacks_flat {d : List UInt8} : ∀ {n : Nat}, n ≤ 2 * d.length → lacks d n = lacksF (flat d) n
  | 0, _ => rfl
  | n + 1, h => by
    show lacks d n + (15 - dig d n) = lacksF (flat d) n + (15 - (flat d).getD n 0)
    rw [lacks_flat (by omega), dig_flat (by omega)]
theorem lacks_all {d : List UInt8} (hd : d.length = 16) : lacks d 32 = csum d := by
  rw [lacks_flat (by omega), show 32 = 2 * d.length by omega, lacksF_flat]

/-! ### Two signatures with the same key -/
theorem same_ends {a s b t : List UInt8} (h : recov a s ≠ recov b t) : part (led a s) 35 ≠ part (led b t) 35 := fun he => h (by unfold recov; rw [he])

end Wo
end Go.Proofs.YtmabbiemjeeicaaDoor
