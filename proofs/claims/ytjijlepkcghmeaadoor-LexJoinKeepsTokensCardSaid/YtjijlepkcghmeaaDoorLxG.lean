/- The reference of package lex: signs. Condition: the text is of at most 2^20 bytes. -/
import Derived.Test.YtjijlepkcghmeaaDoorLxN
namespace Go.Proofs.YtjijlepkcghmeaaDoor
open Go.RowKit
namespace Lx
open Wire (bv sv)

theorem sgn_at (t : List UInt8) (i : Nat) : sgn (t.drop i) = if hd (t.drop i) = 45 ∧ hd (t.drop (i + 1)) = 62 then 2 else if mark (hd (t.drop i)) = true then 1 else 0 := by
  unfold sgn
  rw [List.tail_drop]

set_option maxRecDepth 100000 in
set_option maxHeartbeats 2000000 in
theorem refSign_any (t : List UInt8) (i : Nat) (hi : i < t.length) (hl : t.length ≤ 1048576) (w : World) :
    Calls Tryd.prog 37 #[.string ⟨t.toArray⟩, .int .i64 (i : Int)] w (Is (.int .i64 ((i + sgn (t.drop i) : Nat) : Int)) w) := by
  have ix := index_at t i hi
  have HA2 : Hid (∀ W, Calls Tryd.prog 51 #[.string ⟨t.toArray⟩, .int .i64 ((i : Int) + 1)] W (Is (.int .u8 ((hd (t.drop (i + 1))).toNat : Int)) W)) := Lib.hid (fun W => refAt_any t (i + 1) W)
  rw [sgn_at]
  generalize (⟨t.toArray⟩ : ByteArray) = T at *
  generalize hd (t.drop i) = c at *
  generalize hd (t.drop (i + 1)) = d at *
  have z0 : (i : Int) ≤ 1048576 := by omega
  clear hi hl
  by_cases h : c = 45 ∧ d = 62
  · rw [if_pos h]
    obtain ⟨rfl, rfl⟩ := h
    go_enter Tryd.func37, Tryd.ntmps37
    go_wp2_with (first
      | (go_at_call 51; (with_reducible refine (HA2.out _).mono ?_); rintro e w1 ⟨rfl, rfl⟩))
    go_ret
    exact ⟨rfl, rfl⟩
  · rw [if_neg h]
    by_cases hm : mark c = true
    · rw [if_pos hm]
      simp only [mark, Bool.or_eq_true, beq_iff_eq] at hm
      clear h
      rcases hm with (((((rfl | rfl) | rfl) | rfl) | rfl) | rfl) | rfl
      all_goals
        go_enter Tryd.func37, Tryd.ntmps37
        go_wp2_with (first
          | (go_at_call 51; (with_reducible refine (HA2.out _).mono ?_); rintro e w1 ⟨rfl, rfl⟩))
        go_ret
        exact ⟨rfl, rfl⟩
    · rw [if_neg hm]
      have hb : ∀ (n : Nat) (e : UInt8), e.toNat = n → c ≠ e → ((c.toNat : Int) == (n : Int)) = false := fun n e he hne => by
        simp only [beq_eq_false_iff_ne, ne_eq]
        intro h1
        exact hne (UInt8.toNat_inj.1 (by rw [he]; omega))
      simp only [mark, Bool.or_eq_true, beq_iff_eq, not_or] at hm
      obtain ⟨⟨⟨⟨⟨⟨m1, m2⟩, m3⟩, m4⟩, m5⟩, m6⟩, m7⟩ := hm
      have b1 : ((c.toNat : Int) == 123) = false := hb 123 123 rfl m1
      have b2 : ((c.toNat : Int) == 125) = false := hb 125 125 rfl m2
      have b3 : ((c.toNat : Int) == 40) = false := hb 40 40 rfl m3
      have b4 : ((c.toNat : Int) == 41) = false := hb 41 41 rfl m4
      have b5 : ((c.toNat : Int) == 59) = false := hb 59 59 rfl m5
      have b6 : ((c.toNat : Int) == 44) = false := hb 44 44 rfl m6
      have b7 : ((c.toNat : Int) == 61) = false := hb 61 61 rfl m7
      have hcs : ((c.toNat : Int) == 45) = false ∨ (((c.toNat : Int) == 45) = true ∧ ((d.toNat : Int) == 62) = false) := by
        by_cases h1 : c = 45
        · refine .inr ⟨by rw [h1]; rfl, ?_⟩
          simp only [beq_eq_false_iff_ne, ne_eq]
          intro h2
          exact h ⟨h1, UInt8.toNat_inj.1 (by show d.toNat = 62; omega)⟩
        · exact .inl (hb 45 45 rfl h1)
      clear hb m1 m2 m3 m4 m5 m6 m7 h
      rcases hcs with h1 | ⟨h1, h2⟩
      all_goals
        go_enter Tryd.func37, Tryd.ntmps37
        go_wp2_with (first
          | (go_at_call 51; (with_reducible refine (HA2.out _).mono ?_); rintro e w1 ⟨rfl, rfl⟩))
        go_ret
        exact ⟨rfl, rfl⟩
end Lx
end Go.Proofs.YtjijlepkcghmeaaDoor
