/- The reference of package lex: what is skipped. Condition: the text is of at most 2^20 bytes. -/
import Derived.Test.YtjijlepkcghmeaaDoorLxR
namespace Go.Proofs.YtjijlepkcghmeaaDoor
open Go.RowKit
namespace Lx
open Wire (bv sv)

theorem drop_one {t : List UInt8} {k : Nat} (h : k < t.length) : t.drop k = hd (t.drop k) :: t.drop (k + 1) := by
  rw [List.drop_eq_getElem_cons h]; rfl
theorem nat_of {c : UInt8} {d : UInt8} : (c.toNat : Int) = (d.toNat : Int) ↔ c = d := by rw [← UInt8.toNat_inj]; omega

set_option maxRecDepth 100000 in
set_option maxHeartbeats 2000000 in
theorem refSkip_any (t : List UInt8) (i : Nat) (hi : i ≤ t.length) (hl : t.length ≤ 1048576) (w : World) :
    Calls Tryd.prog 19 #[.string ⟨t.toArray⟩, .int .i64 (i : Int)] w (Is (.int .i64 ((t.length - (skip false (t.drop i)).length : Nat) : Int)) w) := by
  have hs := size_of t
  have HX := Lib.hid (fun k h => index_at t k h)
  generalize (⟨t.toArray⟩ : ByteArray) = T at *
  obtain ⟨S, hS⟩ : ∃ S, S = skip false (t.drop i) := ⟨_, rfl⟩
  rw [← hS]
  have HS := Lib.hid hS.symm
  have HI := Lib.hid hi
  clear hS hi
  go_enter Tryd.func19, Tryd.ntmps19
  go_wp2
  go_loopw [1, 5] (fun iv _ wr => ∃ (k : Nat), Hid (k ≤ t.length) ∧ iv = .int .i64 (k : Int) ∧ Hid (skip false (t.drop k) = S) ∧ wr = w) (fun iv _ _ => ((t.length : Int) - intOf iv).toNat)
  case atStart => exact ⟨i, HI, rfl, HS, rfl⟩
  case round =>
    obtain ⟨k, HK, rfl, HSK, rfl⟩ := hrel
    by_cases hk : k < t.length
    · have z0 : (k : Int) < (t.length : Int) := by omega
      have ix := HX.out k hk
      have HD := Lib.hid (drop_one hk)
      have HKL := Lib.hid hk
      obtain ⟨c, hc⟩ : ∃ c, c = hd (t.drop k) := ⟨_, rfl⟩
      rw [← hc] at ix HD
      clear hc hk
      by_cases h1 : (c.toNat : Int) = 35
      · have HC : Hid (c = 35) := Lib.hid (nat_of (d := 35) |>.1 h1)
        have HS1 : Hid (skip true (t.drop k) = S) := Lib.hid (by rw [← HSK.out, HD.out, skip, skip, HC.out, if_neg (by decide), if_pos rfl])
        go_wp2
        clear ix
        go_loopw [1] (fun iv w2 => ∃ (j : Nat), Hid (k ≤ j ∧ j ≤ t.length) ∧ iv = .int .i64 (j : Int) ∧ Hid (skip true (t.drop j) = S) ∧ w2 = wr) (fun iv _ => ((t.length : Int) - intOf iv).toNat)
        case atStart => exact ⟨k, Lib.hid ⟨Nat.le_refl _, HK.out⟩, rfl, HS1, rfl⟩
        case round =>
          obtain ⟨j, HJ, rfl, HSJ, rfl⟩ := hrel
          by_cases hj : j < t.length
          · have z1 : (j : Int) < (t.length : Int) := by omega
            have ix := HX.out j hj
            have HD2 := Lib.hid (drop_one hj)
            have HJL := Lib.hid hj
            obtain ⟨d, hdd⟩ : ∃ d, d = hd (t.drop j) := ⟨_, rfl⟩
            have HDD := Lib.hid hdd
            rw [← hdd] at ix HD2
            clear hdd hj
            by_cases h2 : (d.toNat : Int) = 10
            · have HC2 : Hid (d = 10) := Lib.hid (nat_of (d := 10) |>.1 h2)
              go_wp2
              go_roundw
              case rel => exact ⟨j, Lib.hid HJ.out.2, rfl, Lib.hid (by rw [← HSJ.out, HD2.out, skip, skip, HC2.out, if_pos rfl, if_neg (by decide), if_pos (by decide)]), (by first | trivial | rfl)⟩
              case measure =>
                have hjk : k < j := by
                  rcases Nat.lt_or_ge k j with h | h
                  · exact h
                  · have e : j = k := by have := HJ.out.1; omega
                    have e2 := HDD.out
                    rw [e, HD.out] at e2
                    have e3 : d = c := e2
                    rw [HC.out, HC2.out] at e3
                    exact absurd e3 (by decide)
                simp [intOf]; omega
            · have HC2 : Hid (¬ d = 10) := Lib.hid (fun e => h2 (by rw [e]; rfl))
              go_wp2
              go_roundw
              case rel => exact ⟨j + 1, Lib.hid ⟨Nat.le_succ_of_le HJ.out.1, HJL.out⟩, by go_num, Lib.hid (by rw [← HSJ.out, HD2.out, skip, if_neg HC2.out]), (by first | trivial | rfl)⟩
              case measure => simp [intOf]; omega
          · have z1 : ¬ (j : Int) < (t.length : Int) := by omega
            have HJE : Hid (j = t.length) := Lib.hid (by have := HJ.out.2; omega)
            go_wp2
            go_roundw
            case rel => exact ⟨j, Lib.hid HJ.out.2, rfl, Lib.hid (by rw [← HSJ.out, HJE.out, List.drop_length, skip, skip]), (by first | trivial | rfl)⟩
            case measure => have := HJE.out; simp [intOf]; omega
      · have HC : Hid (¬ c = 35) := Lib.hid (fun e => h1 (by rw [e]; rfl))
        by_cases h2 : (c.toNat : Int) = 32 ∨ (c.toNat : Int) = 9 ∨ (c.toNat : Int) = 10
        · have HB : Hid (blank c = true) := Lib.hid (by
            simp only [blank, Bool.or_eq_true, beq_iff_eq]
            rcases h2 with h | h | h
            · exact .inl (.inl (nat_of (d := 32) |>.1 h))
            · exact .inl (.inr (nat_of (d := 9) |>.1 h))
            · exact .inr (nat_of (d := 10) |>.1 h))
          have h3 : (c.toNat : Int) = 32 ∨ (¬ (c.toNat : Int) = 32 ∧ (c.toNat : Int) = 9) ∨ (¬ (c.toNat : Int) = 32 ∧ ¬ (c.toNat : Int) = 9 ∧ (c.toNat : Int) = 10) := by omega
          clear h2
          rcases h3 with h2 | ⟨h2, h3⟩ | ⟨h2, h3, h4⟩
          all_goals
            go_wp2
            go_roundw
            case rel => exact ⟨k + 1, Lib.hid HKL.out, by go_num, Lib.hid (by rw [← HSK.out, HD.out, skip, if_neg HC.out, if_pos HB.out]), (by first | trivial | rfl)⟩
            case measure => have := HKL.out; simp [intOf]; omega
        · have HB : Hid (¬ blank c = true) := Lib.hid (fun h => by
            simp only [blank, Bool.or_eq_true, beq_iff_eq] at h
            rcases h with (h | h) | h
            · exact h2 (.inl (by rw [h]; rfl))
            · exact h2 (.inr (.inl (by rw [h]; rfl)))
            · exact h2 (.inr (.inr (by rw [h]; rfl))))
          have h3 : ((c.toNat : Int) == 32) = false := by simpa using fun h => h2 (.inl h)
          have h4 : ((c.toNat : Int) == 9) = false := by simpa using fun h => h2 (.inr (.inl h))
          have h5 : ((c.toNat : Int) == 10) = false := by simpa using fun h => h2 (.inr (.inr h))
          clear h2
          have HL : Hid (t.length - S.length = k) := Lib.hid (by
            have e : S = t.drop k := by rw [← HSK.out]; conv => lhs; rw [HD.out]
                                        rw [skip, if_neg HC.out, if_neg HB.out]; exact HD.out.symm
            rw [e, List.length_drop]
            have := HK.out
            omega)
          go_wp2
          go_ret
          exact ⟨by rw [HL.out]; rfl, rfl⟩
    · have z0 : ¬ (k : Int) < (t.length : Int) := by omega
      have HL : Hid (t.length - S.length = k) := Lib.hid (by
        have e : k = t.length := by have := HK.out; omega
        rw [← HSK.out, e, List.drop_length, skip]
        rfl)
      go_wp2
      go_ret
      exact ⟨by rw [HL.out]; rfl, rfl⟩
end Lx
end Go.Proofs.YtjijlepkcghmeaaDoor
