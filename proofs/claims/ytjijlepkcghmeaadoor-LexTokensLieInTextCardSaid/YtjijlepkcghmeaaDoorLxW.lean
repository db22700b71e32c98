/- The reference of package lex: words. Condition: the text is of at most 2^20 bytes. -/
import Derived.Test.YtjijlepkcghmeaaDoorLxS
namespace Go.Proofs.YtjijlepkcghmeaaDoor
open Go.RowKit
namespace Lx
open Wire (bv sv)

theorem wlen_hd (t : List UInt8) (k : Nat) : ((isW (hd (t.drop k)) || (hd (t.drop k) == 45 && isW (hd (t.drop (k + 1))))) = true → k < t.length ∧ wlen (t.drop k) = wlen (t.drop (k + 1)) + 1) ∧
    ((isW (hd (t.drop k)) || (hd (t.drop k) == 45 && isW (hd (t.drop (k + 1))))) = false → wlen (t.drop k) = 0) := by
  rcases Nat.lt_or_ge k t.length with h | h
  · have e := drop_one h
    refine ⟨fun hc => ⟨h, ?_⟩, fun hc => ?_⟩
    · conv => lhs; rw [e]
      rw [wlen, if_pos hc]
    · conv => lhs; rw [e]
      rw [wlen, if_neg (by rw [hc]; simp)]
  · rw [List.drop_eq_nil_of_le h]
    exact ⟨fun hc => absurd hc (by simp [hd, isW, letter, digit]), fun _ => rfl⟩
theorem is45 {c : UInt8} {b : Bool} (h : ((c.toNat : Int) == 45) = b) : (c == 45) = b := by
  rw [← h]
  have := nat_of (c := c) (d := 45)
  rw [Bool.eq_iff_iff]
  simp only [beq_iff_eq]
  exact this.symm

set_option maxRecDepth 100000 in
set_option maxHeartbeats 2000000 in
theorem refWord_any (t : List UInt8) (i : Nat) (hi : i ≤ t.length) (hl : t.length ≤ 1048576) (w : World) :
    Calls Tryd.prog 34 #[.string ⟨t.toArray⟩, .int .i64 (i : Int)] w (Is (.int .i64 ((i + wlen (t.drop i) : Nat) : Int)) w) := by
  have HX := Lib.hid (fun k => refAt_any t k)
  generalize (⟨t.toArray⟩ : ByteArray) = T at *
  go_enter Tryd.func34, Tryd.ntmps34
  go_wp2
  go_loopw [1] (fun iv wr => ∃ (k : Nat), Hid (k ≤ t.length ∧ k + wlen (t.drop k) = i + wlen (t.drop i)) ∧ iv = .int .i64 (k : Int) ∧ wr = w) (fun iv _ => ((t.length : Int) - intOf iv).toNat)
  case atStart => exact ⟨i, Lib.hid ⟨hi, rfl⟩, rfl, rfl⟩
  case round =>
    obtain ⟨k, HK, rfl, rfl⟩ := hrel
    have HA1 := Lib.hid (HX.out k)
    have HA2 : Hid (∀ W, Calls Tryd.prog 51 #[.string T, .int .i64 ((k : Int) + 1)] W (Is (.int .u8 ((hd (t.drop (k + 1))).toNat : Int)) W)) := Lib.hid (fun W => HX.out (k + 1) W)
    have z0 : (k : Int) ≤ 1048576 := by have := HK.out.1; omega
    have HW := Lib.hid (wlen_hd t k)
    generalize hd (t.drop k) = c at *
    generalize hd (t.drop (k + 1)) = d at *
    have HL1 := Lib.hid (refLetter_any c)
    have HD1 := Lib.hid (refDigit_any c)
    have HL2 := Lib.hid (refLetter_any d)
    have HD2 := Lib.hid (refDigit_any d)
    have hcs : (letter c = true) ∨ (letter c = false ∧ digit c = true) ∨ (letter c = false ∧ digit c = false ∧ ((c.toNat : Int) == 45) = false) ∨
        (letter c = false ∧ digit c = false ∧ ((c.toNat : Int) == 45) = true ∧ letter d = true) ∨ (letter c = false ∧ digit c = false ∧ ((c.toNat : Int) == 45) = true ∧ letter d = false ∧ digit d = true) ∨
        (letter c = false ∧ digit c = false ∧ ((c.toNat : Int) == 45) = true ∧ letter d = false ∧ digit d = false) := by
      cases letter c <;> cases digit c <;> cases ((c.toNat : Int) == 45) <;> cases letter d <;> cases digit d <;> simp
    have HC : Hid (((c.toNat : Int) == 45) = true → (c == 45) = true) := Lib.hid is45
    have HC0 : Hid (((c.toNat : Int) == 45) = false → (c == 45) = false) := Lib.hid is45
    clear hi hl
    rcases hcs with h1 | ⟨h1, h2⟩ | ⟨h1, h2, h3⟩ | ⟨h1, h2, h3, h4⟩ | ⟨h1, h2, h3, h4, h5⟩ | ⟨h1, h2, h3, h4, h5⟩
    · have H := Lib.hid (HW.out.1 (by simp [isW, h1]))
      rw [h1] at HL1
      clear h1
      go_wp2_with (first
        | (go_at_call 51; (with_reducible refine (HA1.out _).mono ?_); rintro e w1 ⟨rfl, rfl⟩)
        | (go_at_call 33; (with_reducible refine (HL1.out _).mono ?_); rintro e w1 ⟨rfl, rfl⟩))
      go_roundw
      case rel => exact ⟨k + 1, Lib.hid ⟨H.out.1, by have := HK.out.2; have := H.out.2; omega⟩, by go_num, (by first | trivial | rfl)⟩
      case measure => have := H.out.1; simp [intOf]; omega
    · have H := Lib.hid (HW.out.1 (by simp [isW, h2]))
      rw [h1] at HL1
      rw [h2] at HD1
      clear h1 h2
      go_wp2_with (first
        | (go_at_call 51; (with_reducible refine (HA1.out _).mono ?_); rintro e w1 ⟨rfl, rfl⟩)
        | (go_at_call 33; (with_reducible refine (HL1.out _).mono ?_); rintro e w1 ⟨rfl, rfl⟩)
        | (go_at_call 35; (with_reducible refine (HD1.out _).mono ?_); rintro e w1 ⟨rfl, rfl⟩))
      go_roundw
      case rel => exact ⟨k + 1, Lib.hid ⟨H.out.1, by have := HK.out.2; have := H.out.2; omega⟩, by go_num, (by first | trivial | rfl)⟩
      case measure => have := H.out.1; simp [intOf]; omega
    · have H := Lib.hid (HW.out.2 (by simp only [isW, h1, h2, HC0.out h3, Bool.false_or, Bool.false_and]))
      rw [h1] at HL1
      rw [h2] at HD1
      clear h1 h2
      have HE : Hid (k = i + wlen (t.drop i)) := Lib.hid (by have := HK.out.2; have := H.out; omega)
      go_wp2_with (first
        | (go_at_call 51; (with_reducible refine (HA1.out _).mono ?_); rintro e w1 ⟨rfl, rfl⟩)
        | (go_at_call 33; (with_reducible refine (HL1.out _).mono ?_); rintro e w1 ⟨rfl, rfl⟩)
        | (go_at_call 35; (with_reducible refine (HD1.out _).mono ?_); rintro e w1 ⟨rfl, rfl⟩))
      go_ret
      exact ⟨by rw [← HE.out]; rfl, rfl⟩
    · have H := Lib.hid (HW.out.1 (by simp only [isW, h1, h2, h4, HC.out h3]; rfl))
      rw [h1] at HL1
      rw [h2] at HD1
      rw [h4] at HL2
      clear h1 h2 h4
      go_wp2_with (first
        | (go_at_call 51; (with_reducible refine (HA1.out _).mono ?_); rintro e w1 ⟨rfl, rfl⟩)
        | (go_at_call 51; (with_reducible refine (HA2.out _).mono ?_); rintro e w1 ⟨rfl, rfl⟩)
        | (go_at_call 33; (with_reducible refine (HL1.out _).mono ?_); rintro e w1 ⟨rfl, rfl⟩)
        | (go_at_call 35; (with_reducible refine (HD1.out _).mono ?_); rintro e w1 ⟨rfl, rfl⟩)
        | (go_at_call 33; (with_reducible refine (HL2.out _).mono ?_); rintro e w1 ⟨rfl, rfl⟩))
      go_roundw
      case rel => exact ⟨k + 1, Lib.hid ⟨H.out.1, by have := HK.out.2; have := H.out.2; omega⟩, by go_num, (by first | trivial | rfl)⟩
      case measure => have := H.out.1; simp [intOf]; omega
    · have H := Lib.hid (HW.out.1 (by simp only [isW, h1, h2, h4, h5, HC.out h3]; rfl))
      rw [h1] at HL1
      rw [h2] at HD1
      rw [h4] at HL2
      rw [h5] at HD2
      clear h1 h2 h4 h5
      go_wp2_with (first
        | (go_at_call 51; (with_reducible refine (HA1.out _).mono ?_); rintro e w1 ⟨rfl, rfl⟩)
        | (go_at_call 51; (with_reducible refine (HA2.out _).mono ?_); rintro e w1 ⟨rfl, rfl⟩)
        | (go_at_call 33; (with_reducible refine (HL1.out _).mono ?_); rintro e w1 ⟨rfl, rfl⟩)
        | (go_at_call 35; (with_reducible refine (HD1.out _).mono ?_); rintro e w1 ⟨rfl, rfl⟩)
        | (go_at_call 33; (with_reducible refine (HL2.out _).mono ?_); rintro e w1 ⟨rfl, rfl⟩)
        | (go_at_call 35; (with_reducible refine (HD2.out _).mono ?_); rintro e w1 ⟨rfl, rfl⟩))
      go_roundw
      case rel => exact ⟨k + 1, Lib.hid ⟨H.out.1, by have := HK.out.2; have := H.out.2; omega⟩, by go_num, (by first | trivial | rfl)⟩
      case measure => have := H.out.1; simp [intOf]; omega
    · have H := Lib.hid (HW.out.2 (by simp only [isW, h1, h2, h4, h5, HC.out h3]; rfl))
      rw [h1] at HL1
      rw [h2] at HD1
      rw [h4] at HL2
      rw [h5] at HD2
      clear h1 h2 h4 h5
      have HE : Hid (k = i + wlen (t.drop i)) := Lib.hid (by have := HK.out.2; have := H.out; omega)
      go_wp2_with (first
        | (go_at_call 51; (with_reducible refine (HA1.out _).mono ?_); rintro e w1 ⟨rfl, rfl⟩)
        | (go_at_call 51; (with_reducible refine (HA2.out _).mono ?_); rintro e w1 ⟨rfl, rfl⟩)
        | (go_at_call 33; (with_reducible refine (HL1.out _).mono ?_); rintro e w1 ⟨rfl, rfl⟩)
        | (go_at_call 35; (with_reducible refine (HD1.out _).mono ?_); rintro e w1 ⟨rfl, rfl⟩)
        | (go_at_call 33; (with_reducible refine (HL2.out _).mono ?_); rintro e w1 ⟨rfl, rfl⟩)
        | (go_at_call 35; (with_reducible refine (HD2.out _).mono ?_); rintro e w1 ⟨rfl, rfl⟩))
      go_ret
      exact ⟨by rw [← HE.out]; rfl, rfl⟩
end Lx
end Go.Proofs.YtjijlepkcghmeaaDoor
