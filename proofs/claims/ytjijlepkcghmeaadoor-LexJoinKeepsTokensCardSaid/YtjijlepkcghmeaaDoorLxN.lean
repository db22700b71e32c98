/- The reference of package lex: numbers. Condition: the text is of at most 2^20 bytes. -/
import Derived.Test.YtjijlepkcghmeaaDoorLxW
namespace Go.Proofs.YtjijlepkcghmeaaDoor
open Go.RowKit
namespace Lx
open Wire (bv sv)

theorem dlen_hd (t : List UInt8) (k : Nat) : (digit (hd (t.drop k)) = true → k < t.length ∧ dlen (t.drop k) = dlen (t.drop (k + 1)) + 1 ∧ ∀ n, val n (t.drop k) = val (min (10 * n + ((hd (t.drop k)).toNat - 48)) cap) (t.drop (k + 1))) ∧
    (digit (hd (t.drop k)) = false → dlen (t.drop k) = 0 ∧ ∀ n, val n (t.drop k) = n) := by
  rcases Nat.lt_or_ge k t.length with h | h
  · have e := drop_one h
    refine ⟨fun hc => ⟨h, ?_, fun n => ?_⟩, fun hc => ⟨?_, fun n => ?_⟩⟩
    · conv => lhs; rw [e]
      rw [dlen, if_pos hc]
    · conv => lhs; rw [e]
      rw [val, if_pos hc]
    · conv => lhs; rw [e]
      rw [dlen, if_neg (by rw [hc]; simp)]
    · conv => lhs; rw [e]
      rw [val, if_neg (by rw [hc]; simp)]
  · rw [List.drop_eq_nil_of_le h]
    exact ⟨fun hc => absurd hc (by decide), fun _ => ⟨rfl, fun _ => rfl⟩⟩
theorem digit_range {c : UInt8} (h : digit c = true) : 48 ≤ c.toNat ∧ c.toNat ≤ 57 := by
  unfold digit at h
  simp only [Bool.and_eq_true, decide_eq_true_eq] at h
  exact h
theorem unit_le (c : UInt8) : unit c ≤ 86400 := by
  unfold unit
  repeat' split
  all_goals decide
/-- What it answers: the index behind the number, and its value. -/
def numR (i : Nat) (s : List UInt8) : Nat × Nat := match num s with
  | some (m, n) => (i + m, n)
  | none => (i, 0)
/-- What it answers, case by case; k: the index behind the digits, n: their value. -/
theorem num_cases (t : List UInt8) (i k n : Nat) (hk : k = i + dlen (t.drop i)) (hv : val 0 (t.drop i) = n) :
    (1 < k - i ∧ hd (t.drop i) = 48 → numR i (t.drop i) = (i, 0)) ∧
    (¬ (1 < k - i ∧ hd (t.drop i) = 48) → (0 < unit (hd (t.drop k)) → (isW (hd (t.drop (k + 1))) = true → numR i (t.drop i) = (i, 0)) ∧ (isW (hd (t.drop (k + 1))) = false → numR i (t.drop i) = (k + 1, min (n * unit (hd (t.drop k))) cap))) ∧
      (¬ 0 < unit (hd (t.drop k)) → (isW (hd (t.drop k)) = true → numR i (t.drop i) = (i, 0)) ∧ (isW (hd (t.drop k)) = false → numR i (t.drop i) = (k, n)))) := by
  have e1 : (t.drop i).drop (dlen (t.drop i)) = t.drop k := by rw [List.drop_drop, hk]
  have e2 : (t.drop i).drop (dlen (t.drop i) + 1) = t.drop (k + 1) := by rw [List.drop_drop, hk, Nat.add_assoc]
  have e3 : k - i = dlen (t.drop i) := by omega
  unfold numR num
  rw [e1, e2, e3, hv]
  refine ⟨fun h => by rw [if_pos h], fun h => ⟨fun hu => ⟨fun hw => ?_, fun hw => ?_⟩, fun hu => ⟨fun hw => ?_, fun hw => ?_⟩⟩⟩
  · rw [if_neg h, if_pos hu, if_pos hw]
  · rw [if_neg h, if_pos hu, if_neg (by rw [hw]; simp)]
    show (i + (dlen (t.drop i) + 1), _) = _
    rw [hk, Nat.add_assoc]
  · rw [if_neg h, if_neg hu, if_pos hw]
  · rw [if_neg h, if_neg hu, if_neg (by rw [hw]; simp)]
    show (i + dlen (t.drop i), _) = _
    rw [hk]
/-- Two numbers are returned; the memory is as it was. -/
def IsP (a b : Nat) (w : World) (e : Ending) (w' : World) : Prop := e = .returned (.tuple #[.int .i64 (a : Int), .int .i64 (b : Int)]) ∧ w' = w

set_option maxRecDepth 100000 in
set_option maxHeartbeats 2000000 in
theorem refNumber_any (t : List UInt8) (i : Nat) (hi : i < t.length) (hl : t.length ≤ 1048576) (w : World) :
    Calls Tryd.prog 36 #[.string ⟨t.toArray⟩, .int .i64 (i : Int)] w (IsP (numR i (t.drop i)).1 (numR i (t.drop i)).2 w) := by
  have HX := Lib.hid (fun k => refAt_any t k)
  have HN := Lib.hid (fun k h => index_at t k h)
  have HHI := Lib.hid hi
  have HHL := Lib.hid hl
  generalize (⟨t.toArray⟩ : ByteArray) = T at *
  clear hi hl
  go_enter Tryd.func36, Tryd.ntmps36
  go_wp2
  go_loopw [6, 7] (fun kv nv wr => ∃ (k n : Nat), Hid (i ≤ k ∧ k ≤ t.length ∧ k + dlen (t.drop k) = i + dlen (t.drop i) ∧ val 0 (t.drop i) = val n (t.drop k) ∧ n ≤ 1099511627777) ∧ kv = .int .i64 (k : Int) ∧ nv = .int .i64 (n : Int) ∧ wr = w) (fun kv _ _ => ((t.length : Int) - intOf kv).toNat)
  case atStart => exact ⟨i, 0, Lib.hid ⟨Nat.le_refl _, Nat.le_of_lt HHI.out, rfl, rfl, by decide⟩, rfl, rfl, rfl⟩
  case round =>
    obtain ⟨k, n, HK, rfl, rfl, rfl⟩ := hrel
    have HA1 := Lib.hid (HX.out k)
    have HDH := Lib.hid (dlen_hd t k)
    have z0 : (k : Int) ≤ 1048576 := by have := HK.out.2.1; have := HHL.out; omega
    have z1 : (n : Int) ≤ 1099511627777 := by have := HK.out.2.2.2.2; omega
    obtain ⟨c, hc⟩ : ∃ c, c = hd (t.drop k) := ⟨_, rfl⟩
    have HCC := Lib.hid hc
    rw [← hc] at HA1 HDH
    have HD1 := Lib.hid (refDigit_any c)
    clear hc
    by_cases h1 : digit c = true
    · have H := Lib.hid (HDH.out.1 h1)
      have ix := HN.out k H.out.1
      rw [← HCC.out] at ix
      obtain ⟨r1, r2⟩ := digit_range h1
      rw [h1] at HD1
      have z2 : (48 : Int) ≤ (c.toNat : Int) := by omega
      have z3 : (c.toNat : Int) ≤ 57 := by omega
      clear h1 r1 r2
      go_wp2_with (first
        | (go_at_call 51; (with_reducible refine (HA1.out _).mono ?_); rintro e w1 ⟨rfl, rfl⟩)
        | (go_at_call 35; (with_reducible refine (HD1.out _).mono ?_); rintro e w1 ⟨rfl, rfl⟩))
      go_roundw
      case rel => exact ⟨k + 1, min (10 * n + (c.toNat - 48)) cap, Lib.hid ⟨Nat.le_succ_of_le HK.out.1, H.out.1, by have := HK.out.2.2.1; have := H.out.2.1; omega, by rw [HK.out.2.2.2.1, H.out.2.2, HCC.out], Nat.min_le_right _ _⟩, by go_num, congrArg (Value.int .i64) (by unfold cap; split <;> omega), (by first | trivial | rfl)⟩
      case measure => have := H.out.1; simp [intOf]; omega
    · have h0 : digit c = false := by simpa using h1
      have H := Lib.hid (HDH.out.2 h0)
      have HE : Hid (k = i + dlen (t.drop i)) := Lib.hid (by have := HK.out.2.2.1; have := H.out.1; omega)
      have HV : Hid (val 0 (t.drop i) = n) := Lib.hid (by rw [HK.out.2.2.2.1, H.out.2])
      have ix := HN.out i HHI.out
      have HA2 : Hid (∀ W, Calls Tryd.prog 51 #[.string T, .int .i64 ((k : Int) + 1)] W (Is (.int .u8 ((hd (t.drop (k + 1))).toNat : Int)) W)) := Lib.hid (fun W => HX.out (k + 1) W)
      have HNM := Lib.hid (num_cases t i k n HE.out HV.out)
      have hdr : hd (t.drop k) = c := HCC.out.symm
      rw [hdr] at HNM
      generalize hd (t.drop (k + 1)) = d at *
      have HL1 := Lib.hid (refLetter_any c)
      have HD2 := Lib.hid (refDigit_any d)
      have HL2 := Lib.hid (refLetter_any d)
      have HU := Lib.hid (refUnit_any c)
      have hle := unit_le c
      rw [h0] at HD1
      generalize unit c = u at *
      generalize hd (t.drop i) = f at *
      have z2 : (i : Int) ≤ 1048576 := by have := HHI.out; have := HHL.out; omega
      have z3 : (u : Int) ≤ 86400 := by omega
      have p0 : (0 : Int) ≤ (n : Int) * (u : Int) := Int.mul_nonneg (by omega) (by omega)
      have p1 : (n : Int) * (u : Int) ≤ 1099511627777 * 86400 := Int.mul_le_mul z1 z3 (by omega) (by decide)
      have hw : isW c = letter c := by unfold isW; rw [h0, Bool.or_false]
      rw [hw] at HNM
      clear h1 h0 hle hw hdr
      by_cases hz1 : (i : Int) + 1 < (k : Int)
      · by_cases hz2 : (f.toNat : Int) = 48
        · have HR := Lib.hid (HNM.out.1 ⟨by omega, (nat_of (d := 48)).1 hz2⟩)
          go_wp2_with (first
            | (go_at_call 51; (with_reducible refine (HA1.out _).mono ?_); rintro e w1 ⟨rfl, rfl⟩)
            | (go_at_call 51; (with_reducible refine (HA2.out _).mono ?_); rintro e w1 ⟨rfl, rfl⟩)
            | (go_at_call 35; (with_reducible refine (HD1.out _).mono ?_); rintro e w1 ⟨rfl, rfl⟩)
            | (go_at_call 33; (with_reducible refine (HL1.out _).mono ?_); rintro e w1 ⟨rfl, rfl⟩)
            | (go_at_call 35; (with_reducible refine (HD2.out _).mono ?_); rintro e w1 ⟨rfl, rfl⟩)
            | (go_at_call 33; (with_reducible refine (HL2.out _).mono ?_); rintro e w1 ⟨rfl, rfl⟩)
            | (go_at_call 52; (with_reducible refine (HU.out _).mono ?_); rintro e w1 ⟨rfl, rfl⟩))
          go_ret2
          exact ⟨by rw [HR.out]; rfl, rfl⟩
        · have HG := Lib.hid (HNM.out.2 (fun h => hz2 ((nat_of (d := 48)).2 h.2)))
          clear HNM
          by_cases hu : (0 : Int) < (u : Int)
          · have HG2 := Lib.hid (HG.out.1 (by omega))
            have hcs : letter d = true ∨ (letter d = false ∧ digit d = true) ∨ (letter d = false ∧ digit d = false) := by cases letter d <;> cases digit d <;> simp
            obtain ⟨M, hmM⟩ : ∃ M : Int, ((min (n * u) cap : Nat) : Int) = M := ⟨_, rfl⟩
            have HM := Lib.hid hmM
            have hmm : (1099511627777 < (n : Int) * (u : Int) ∧ M = 1099511627777) ∨ (¬ 1099511627777 < (n : Int) * (u : Int) ∧ M = (n : Int) * (u : Int)) := by rw [← hmM, ← Int.natCast_mul]; unfold cap; omega
            clear hmM
            rcases hmm with ⟨hm, rfl⟩ | ⟨hm, rfl⟩
            all_goals
              rcases hcs with h1 | ⟨h1, h2⟩ | ⟨h1, h2⟩
              · have HR := Lib.hid (HG2.out.1 (by simp [isW, h1]))
                rw [h1] at HL2
                clear HG HG2 h1
                go_wp2_with (first
                  | (go_at_call 51; (with_reducible refine (HA1.out _).mono ?_); rintro e w1 ⟨rfl, rfl⟩)
                  | (go_at_call 51; (with_reducible refine (HA2.out _).mono ?_); rintro e w1 ⟨rfl, rfl⟩)
                  | (go_at_call 35; (with_reducible refine (HD1.out _).mono ?_); rintro e w1 ⟨rfl, rfl⟩)
                  | (go_at_call 33; (with_reducible refine (HL1.out _).mono ?_); rintro e w1 ⟨rfl, rfl⟩)
                  | (go_at_call 35; (with_reducible refine (HD2.out _).mono ?_); rintro e w1 ⟨rfl, rfl⟩)
                  | (go_at_call 33; (with_reducible refine (HL2.out _).mono ?_); rintro e w1 ⟨rfl, rfl⟩)
                  | (go_at_call 52; (with_reducible refine (HU.out _).mono ?_); rintro e w1 ⟨rfl, rfl⟩))
                go_ret2
                exact ⟨by rw [HR.out]; rfl, rfl⟩
              · have HR := Lib.hid (HG2.out.1 (by simp [isW, h1, h2]))
                rw [h1] at HL2
                rw [h2] at HD2
                clear HG HG2 h1 h2
                go_wp2_with (first
                  | (go_at_call 51; (with_reducible refine (HA1.out _).mono ?_); rintro e w1 ⟨rfl, rfl⟩)
                  | (go_at_call 51; (with_reducible refine (HA2.out _).mono ?_); rintro e w1 ⟨rfl, rfl⟩)
                  | (go_at_call 35; (with_reducible refine (HD1.out _).mono ?_); rintro e w1 ⟨rfl, rfl⟩)
                  | (go_at_call 33; (with_reducible refine (HL1.out _).mono ?_); rintro e w1 ⟨rfl, rfl⟩)
                  | (go_at_call 35; (with_reducible refine (HD2.out _).mono ?_); rintro e w1 ⟨rfl, rfl⟩)
                  | (go_at_call 33; (with_reducible refine (HL2.out _).mono ?_); rintro e w1 ⟨rfl, rfl⟩)
                  | (go_at_call 52; (with_reducible refine (HU.out _).mono ?_); rintro e w1 ⟨rfl, rfl⟩))
                go_ret2
                exact ⟨by rw [HR.out]; rfl, rfl⟩
              · have HR := Lib.hid (HG2.out.2 (by simp [isW, h1, h2]))
                rw [h1] at HL2
                rw [h2] at HD2
                clear HG HG2 h1 h2
                go_wp2_with (first
                  | (go_at_call 51; (with_reducible refine (HA1.out _).mono ?_); rintro e w1 ⟨rfl, rfl⟩)
                  | (go_at_call 51; (with_reducible refine (HA2.out _).mono ?_); rintro e w1 ⟨rfl, rfl⟩)
                  | (go_at_call 35; (with_reducible refine (HD1.out _).mono ?_); rintro e w1 ⟨rfl, rfl⟩)
                  | (go_at_call 33; (with_reducible refine (HL1.out _).mono ?_); rintro e w1 ⟨rfl, rfl⟩)
                  | (go_at_call 35; (with_reducible refine (HD2.out _).mono ?_); rintro e w1 ⟨rfl, rfl⟩)
                  | (go_at_call 33; (with_reducible refine (HL2.out _).mono ?_); rintro e w1 ⟨rfl, rfl⟩)
                  | (go_at_call 52; (with_reducible refine (HU.out _).mono ?_); rintro e w1 ⟨rfl, rfl⟩))
                go_ret2
                exact ⟨by rw [HR.out]; show _ = Ending.returned (.tuple #[.int .i64 ((k + 1 : Nat) : Int), .int .i64 ((min (n * u) cap : Nat) : Int)]); rw [HM.out]; rfl, rfl⟩
          · have HG2 := Lib.hid (HG.out.2 (by omega))
            cases h1 : letter c with
            | true =>
              have HR := Lib.hid (HG2.out.1 h1)
              rw [h1] at HL1
              clear HG HG2 h1
              go_wp2_with (first
                | (go_at_call 51; (with_reducible refine (HA1.out _).mono ?_); rintro e w1 ⟨rfl, rfl⟩)
                | (go_at_call 51; (with_reducible refine (HA2.out _).mono ?_); rintro e w1 ⟨rfl, rfl⟩)
                | (go_at_call 35; (with_reducible refine (HD1.out _).mono ?_); rintro e w1 ⟨rfl, rfl⟩)
                | (go_at_call 33; (with_reducible refine (HL1.out _).mono ?_); rintro e w1 ⟨rfl, rfl⟩)
                | (go_at_call 35; (with_reducible refine (HD2.out _).mono ?_); rintro e w1 ⟨rfl, rfl⟩)
                | (go_at_call 33; (with_reducible refine (HL2.out _).mono ?_); rintro e w1 ⟨rfl, rfl⟩)
                | (go_at_call 52; (with_reducible refine (HU.out _).mono ?_); rintro e w1 ⟨rfl, rfl⟩))
              go_ret2
              exact ⟨by rw [HR.out]; rfl, rfl⟩
            | false =>
              have HR := Lib.hid (HG2.out.2 h1)
              rw [h1] at HL1
              clear HG HG2 h1
              go_wp2_with (first
                | (go_at_call 51; (with_reducible refine (HA1.out _).mono ?_); rintro e w1 ⟨rfl, rfl⟩)
                | (go_at_call 51; (with_reducible refine (HA2.out _).mono ?_); rintro e w1 ⟨rfl, rfl⟩)
                | (go_at_call 35; (with_reducible refine (HD1.out _).mono ?_); rintro e w1 ⟨rfl, rfl⟩)
                | (go_at_call 33; (with_reducible refine (HL1.out _).mono ?_); rintro e w1 ⟨rfl, rfl⟩)
                | (go_at_call 35; (with_reducible refine (HD2.out _).mono ?_); rintro e w1 ⟨rfl, rfl⟩)
                | (go_at_call 33; (with_reducible refine (HL2.out _).mono ?_); rintro e w1 ⟨rfl, rfl⟩)
                | (go_at_call 52; (with_reducible refine (HU.out _).mono ?_); rintro e w1 ⟨rfl, rfl⟩))
              go_ret2
              exact ⟨by rw [HR.out]; rfl, rfl⟩
      · have HG := Lib.hid (HNM.out.2 (fun h => hz1 (by omega)))
        clear HNM
        by_cases hu : (0 : Int) < (u : Int)
        · have HG2 := Lib.hid (HG.out.1 (by omega))
          have hcs : letter d = true ∨ (letter d = false ∧ digit d = true) ∨ (letter d = false ∧ digit d = false) := by cases letter d <;> cases digit d <;> simp
          obtain ⟨M, hmM⟩ : ∃ M : Int, ((min (n * u) cap : Nat) : Int) = M := ⟨_, rfl⟩
          have HM := Lib.hid hmM
          have hmm : (1099511627777 < (n : Int) * (u : Int) ∧ M = 1099511627777) ∨ (¬ 1099511627777 < (n : Int) * (u : Int) ∧ M = (n : Int) * (u : Int)) := by rw [← hmM, ← Int.natCast_mul]; unfold cap; omega
          clear hmM
          rcases hmm with ⟨hm, rfl⟩ | ⟨hm, rfl⟩
          all_goals
            rcases hcs with h1 | ⟨h1, h2⟩ | ⟨h1, h2⟩
            · have HR := Lib.hid (HG2.out.1 (by simp [isW, h1]))
              rw [h1] at HL2
              clear HG HG2 h1
              go_wp2_with (first
                | (go_at_call 51; (with_reducible refine (HA1.out _).mono ?_); rintro e w1 ⟨rfl, rfl⟩)
                | (go_at_call 51; (with_reducible refine (HA2.out _).mono ?_); rintro e w1 ⟨rfl, rfl⟩)
                | (go_at_call 35; (with_reducible refine (HD1.out _).mono ?_); rintro e w1 ⟨rfl, rfl⟩)
                | (go_at_call 33; (with_reducible refine (HL1.out _).mono ?_); rintro e w1 ⟨rfl, rfl⟩)
                | (go_at_call 35; (with_reducible refine (HD2.out _).mono ?_); rintro e w1 ⟨rfl, rfl⟩)
                | (go_at_call 33; (with_reducible refine (HL2.out _).mono ?_); rintro e w1 ⟨rfl, rfl⟩)
                | (go_at_call 52; (with_reducible refine (HU.out _).mono ?_); rintro e w1 ⟨rfl, rfl⟩))
              go_ret2
              exact ⟨by rw [HR.out]; rfl, rfl⟩
            · have HR := Lib.hid (HG2.out.1 (by simp [isW, h1, h2]))
              rw [h1] at HL2
              rw [h2] at HD2
              clear HG HG2 h1 h2
              go_wp2_with (first
                | (go_at_call 51; (with_reducible refine (HA1.out _).mono ?_); rintro e w1 ⟨rfl, rfl⟩)
                | (go_at_call 51; (with_reducible refine (HA2.out _).mono ?_); rintro e w1 ⟨rfl, rfl⟩)
                | (go_at_call 35; (with_reducible refine (HD1.out _).mono ?_); rintro e w1 ⟨rfl, rfl⟩)
                | (go_at_call 33; (with_reducible refine (HL1.out _).mono ?_); rintro e w1 ⟨rfl, rfl⟩)
                | (go_at_call 35; (with_reducible refine (HD2.out _).mono ?_); rintro e w1 ⟨rfl, rfl⟩)
                | (go_at_call 33; (with_reducible refine (HL2.out _).mono ?_); rintro e w1 ⟨rfl, rfl⟩)
                | (go_at_call 52; (with_reducible refine (HU.out _).mono ?_); rintro e w1 ⟨rfl, rfl⟩))
              go_ret2
              exact ⟨by rw [HR.out]; rfl, rfl⟩
            · have HR := Lib.hid (HG2.out.2 (by simp [isW, h1, h2]))
              rw [h1] at HL2
              rw [h2] at HD2
              clear HG HG2 h1 h2
              go_wp2_with (first
                | (go_at_call 51; (with_reducible refine (HA1.out _).mono ?_); rintro e w1 ⟨rfl, rfl⟩)
                | (go_at_call 51; (with_reducible refine (HA2.out _).mono ?_); rintro e w1 ⟨rfl, rfl⟩)
                | (go_at_call 35; (with_reducible refine (HD1.out _).mono ?_); rintro e w1 ⟨rfl, rfl⟩)
                | (go_at_call 33; (with_reducible refine (HL1.out _).mono ?_); rintro e w1 ⟨rfl, rfl⟩)
                | (go_at_call 35; (with_reducible refine (HD2.out _).mono ?_); rintro e w1 ⟨rfl, rfl⟩)
                | (go_at_call 33; (with_reducible refine (HL2.out _).mono ?_); rintro e w1 ⟨rfl, rfl⟩)
                | (go_at_call 52; (with_reducible refine (HU.out _).mono ?_); rintro e w1 ⟨rfl, rfl⟩))
              go_ret2
              exact ⟨by rw [HR.out]; show _ = Ending.returned (.tuple #[.int .i64 ((k + 1 : Nat) : Int), .int .i64 ((min (n * u) cap : Nat) : Int)]); rw [HM.out]; rfl, rfl⟩
        · have HG2 := Lib.hid (HG.out.2 (by omega))
          cases h1 : letter c with
          | true =>
            have HR := Lib.hid (HG2.out.1 h1)
            rw [h1] at HL1
            clear HG HG2 h1
            go_wp2_with (first
              | (go_at_call 51; (with_reducible refine (HA1.out _).mono ?_); rintro e w1 ⟨rfl, rfl⟩)
              | (go_at_call 51; (with_reducible refine (HA2.out _).mono ?_); rintro e w1 ⟨rfl, rfl⟩)
              | (go_at_call 35; (with_reducible refine (HD1.out _).mono ?_); rintro e w1 ⟨rfl, rfl⟩)
              | (go_at_call 33; (with_reducible refine (HL1.out _).mono ?_); rintro e w1 ⟨rfl, rfl⟩)
              | (go_at_call 35; (with_reducible refine (HD2.out _).mono ?_); rintro e w1 ⟨rfl, rfl⟩)
              | (go_at_call 33; (with_reducible refine (HL2.out _).mono ?_); rintro e w1 ⟨rfl, rfl⟩)
              | (go_at_call 52; (with_reducible refine (HU.out _).mono ?_); rintro e w1 ⟨rfl, rfl⟩))
            go_ret2
            exact ⟨by rw [HR.out]; rfl, rfl⟩
          | false =>
            have HR := Lib.hid (HG2.out.2 h1)
            rw [h1] at HL1
            clear HG HG2 h1
            go_wp2_with (first
              | (go_at_call 51; (with_reducible refine (HA1.out _).mono ?_); rintro e w1 ⟨rfl, rfl⟩)
              | (go_at_call 51; (with_reducible refine (HA2.out _).mono ?_); rintro e w1 ⟨rfl, rfl⟩)
              | (go_at_call 35; (with_reducible refine (HD1.out _).mono ?_); rintro e w1 ⟨rfl, rfl⟩)
              | (go_at_call 33; (with_reducible refine (HL1.out _).mono ?_); rintro e w1 ⟨rfl, rfl⟩)
              | (go_at_call 35; (with_reducible refine (HD2.out _).mono ?_); rintro e w1 ⟨rfl, rfl⟩)
              | (go_at_call 33; (with_reducible refine (HL2.out _).mono ?_); rintro e w1 ⟨rfl, rfl⟩)
              | (go_at_call 52; (with_reducible refine (HU.out _).mono ?_); rintro e w1 ⟨rfl, rfl⟩))
            go_ret2
            exact ⟨by rw [HR.out]; rfl, rfl⟩
end Lx
end Go.Proofs.YtjijlepkcghmeaaDoor
