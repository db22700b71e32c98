/- Package lex: letters, digits, blanks, signs, parts of words. No condition. -/
import Derived.Test.YtjijlepkcghmeaaDoorLxS

namespace Go.Proofs.YtjijlepkcghmeaaDoor
open Go.RowKit
namespace Lx
open Wire (bv sv)

set_option maxRecDepth 100000 in
set_option maxHeartbeats 1000000 in
theorem isLetter_any (c : UInt8) (w : World) : Calls Tryd.prog 27 #[.int .u8 (c.toNat : Int)] w (Is (.bool (letter c)) w) := by
  rw [letter_int]
  generalize (c.toNat : Int) = x
  by_cases h1 : 97 ≤ x
  all_goals
    go_enter Tryd.func27, Tryd.ntmps27
    go_wp2
    go_ret
    exact ⟨by simp [h1] <;> omega, rfl⟩
set_option maxRecDepth 100000 in
set_option maxHeartbeats 1000000 in
theorem isDigit_any (c : UInt8) (w : World) : Calls Tryd.prog 29 #[.int .u8 (c.toNat : Int)] w (Is (.bool (digit c)) w) := by
  rw [digit_int]
  generalize (c.toNat : Int) = x
  by_cases h1 : 48 ≤ x
  all_goals
    go_enter Tryd.func29, Tryd.ntmps29
    go_wp2
    go_ret
    exact ⟨by simp [h1] <;> omega, rfl⟩
theorem blank_int (c : UInt8) : blank c = (((c.toNat : Int) == 32) || ((c.toNat : Int) == 9) || ((c.toNat : Int) == 10)) := by
  have e : ∀ (n : Nat) (d : UInt8), d.toNat = n → (c == d) = ((c.toNat : Int) == (n : Int)) := fun n d hd => by
    rw [Bool.eq_iff_iff, beq_iff_eq, beq_iff_eq, ← hd, ← UInt8.toNat_inj]; omega
  unfold blank
  rw [e 32 32 rfl, e 9 9 rfl, e 10 10 rfl]
  rfl
set_option maxRecDepth 100000 in
set_option maxHeartbeats 1000000 in
theorem isBlank_any (c : UInt8) (w : World) : Calls Tryd.prog 26 #[.int .u8 (c.toNat : Int)] w (Is (.bool (blank c)) w) := by
  rw [blank_int]
  generalize (c.toNat : Int) = x
  by_cases h1 : x = 32
  · subst h1
    go_enter Tryd.func26, Tryd.ntmps26
    go_wp2
    go_ret
    exact ⟨rfl, rfl⟩
  by_cases h2 : x = 9
  · subst h2
    go_enter Tryd.func26, Tryd.ntmps26
    go_wp2
    go_ret
    exact ⟨rfl, rfl⟩
  have h3 : (x == 32) = false := by simpa using h1
  have h4 : (x == 9) = false := by simpa using h2
  rw [h3, h4]
  go_enter Tryd.func26, Tryd.ntmps26
  go_wp2
  go_ret
  exact ⟨by simp, rfl⟩
set_option maxRecDepth 100000 in
set_option maxHeartbeats 1000000 in
theorem isPart_any (t : List UInt8) (k : Nat) (w : World) : Calls Tryd.prog 46 #[.string ⟨t.toArray⟩, .int .i64 (k : Int)] w (Is (.bool (isW (hd (t.drop k)))) w) := by
  have hs := size_of t
  by_cases h : k < t.length
  · have hi := index_at t k h
    have z0 : (k : Int) < (t.length : Int) := by omega
    have hw : isW (hd (t.drop k)) = (letter (hd (t.drop k)) || digit (hd (t.drop k))) := rfl
    have H1 := Lib.hid (isLetter_any (hd (t.drop k)))
    have H2 := Lib.hid (isDigit_any (hd (t.drop k)))
    rw [hw]
    generalize (⟨t.toArray⟩ : ByteArray) = T at *
    generalize letter (hd (t.drop k)) = b1 at *
    generalize digit (hd (t.drop k)) = b2 at *
    clear hw
    cases b1
    all_goals
      go_enter Tryd.func46, Tryd.ntmps46
      go_wp2_with (first
        | (go_at_call 27; (with_reducible refine (H1.out _).mono ?_); rintro e w1 ⟨rfl, rfl⟩)
        | (go_at_call 29; (with_reducible refine (H2.out _).mono ?_); rintro e w1 ⟨rfl, rfl⟩))
      go_ret
      exact ⟨rfl, rfl⟩
  · have z0 : ¬ (k : Int) < (t.length : Int) := by omega
    rw [List.drop_eq_nil_of_le (Nat.le_of_not_lt h)]
    generalize (⟨t.toArray⟩ : ByteArray) = T at *
    go_enter Tryd.func46, Tryd.ntmps46
    go_wp2
    go_ret
    exact ⟨rfl, rfl⟩
end Lx
end Go.Proofs.YtjijlepkcghmeaaDoor
