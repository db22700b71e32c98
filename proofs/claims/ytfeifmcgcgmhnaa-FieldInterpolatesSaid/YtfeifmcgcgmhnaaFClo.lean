/- The package field as landed: the closure of Weights. Condition: what it has captured reads as said. -/
import Derived.Test.YtfeifmcgcgmhnaaFEval
import Derived.Test.YtfeifmcgcgmhnaaFDiff
import Derived.Test.YtfeifmcgcgmhnaaFRefW
namespace Go.Proofs.Ytfeifmcgcgmhnaa
open Go.RowKit
namespace Gf
open Wire (Lies bv)

set_option maxRecDepth 100000 in
set_option maxHeartbeats 1000000 in
theorem clo_any (xs : List UInt8) (x : UInt8) (n c i B p0 p1 : Nat) (A : Option Addr) (w : World) (hB : B ≤ w.heap.size) (hl : Lies w B 1 A n c (xs.map bv)) (hil : i < n)
    (h0 : w.cell? ⟨p0, 0, none⟩ = some (.slice A n c)) (h1 : w.cell? ⟨p1, 0, none⟩ = some (.int .u8 (x.toNat : Int))) :
    Calls Try.prog 28 #[.int .i64 (i : Int), .pointer (some ⟨p0, 0, none⟩), .pointer (some ⟨p1, 0, none⟩)] w (GivesB (weight xs x i) w) := by
  have hmost : c ≤ 9223372036854775807 := by have := hl.most; unfold maxLen at this; omega
  have hle := hl.le
  have hpn : xs.length = n := by have := hl.len; simpa using this
  obtain ⟨b, o, u, rfl, hbb, hu, hcx⟩ := hl.at_ (j := i) hil
  obtain ⟨a, ha⟩ : ∃ a, xs[i]? = some a := ⟨_, List.getElem?_eq_getElem (by rw [hpn]; omega)⟩
  have HW := Lib.hid (weight_at ha x)
  have HPN := Lib.hid hpn
  have HL := Lib.hid hl
  have HA := Lib.hid ha
  have b0 := World.block_lt_of_cell? w _ h0
  have b1 := World.block_lt_of_cell? w _ h1
  have z8 : (0 : Int) ≤ (i : Int) := by omega
  have z9 : (i : Int) < (n : Int) := by omega
  rw [List.getElem?_map, ha] at hu
  cases hu
  unfold bv at hcx
  have HC : Hid (∀ W, Below w.heap.size w W → W.cell? ⟨p0, 0, none⟩ = some (.slice (some ⟨b, o, none⟩) n c) ∧ W.cell? ⟨p1, 0, none⟩ = some (.int .u8 (x.toNat : Int)) ∧ W.cell? ⟨b, o + i, none⟩ = some (.int .u8 (a.toNat : Int))) :=
    Lib.hid (fun W h => ⟨(h.cell b0).trans h0, (h.cell b1).trans h1, (h.cell (by show b < w.heap.size; omega)).trans hcx⟩)
  clear hpn hl ha hcx
  go_enter Try.func28, Try.ntmps28
  go_wp2
  go_loopw [5, 6, 11] (fun uv dv kv wq => ∃ (k : Nat), k ≤ n ∧ uv = .int .u8 ((away x (others (xs.take k) i)).toNat : Int) ∧ dv = .int .u8 ((away a (others (xs.take k) i)).toNat : Int) ∧ kv = .int .i64 (k : Int) ∧ Below w.heap.size w wq) (fun _ _ kv _ => (n - intOf kv).toNat)
  case atStart => exact ⟨0, by omega, by rw [others_zero]; rfl, by rw [others_zero]; rfl, rfl, Below.refl _ _⟩
  case round =>
    obtain ⟨k, hk, rfl, rfl, rfl, hbq⟩ := hrel
    clear h0 h1
    by_cases hkn : k < n
    · have y2 : (0 : Int) ≤ (k : Int) := by omega
      have y3 : (k : Int) < (n : Int) := by omega
      obtain ⟨c0, c1, c2⟩ := HC.out wr hbq
      obtain ⟨b2, o2, u2, he, -, hu2, hcy⟩ := (HL.out.below (hbq.mono hB)).at_ (j := k) hkn
      cases he
      obtain ⟨d, hd⟩ : ∃ d, xs[k]? = some d := ⟨_, List.getElem?_eq_getElem (by rw [HPN.out]; omega)⟩
      rw [List.getElem?_map, hd] at hu2
      cases hu2
      unfold bv at hcy
      by_cases hki : k = i
      · have hs := others_skip (xs := xs) hki
        subst hki
        have HS := Lib.hid hs
        clear hs hd
        go_wp2
        go_roundw
        case rel => exact ⟨k + 1, by omega, by rw [HS.out], by rw [HS.out], by go_num, hbq⟩
        case measure => simp [intOf]; omega
      · have hs := others_step hd hki
        have HS1 : Hid (mul (away x (others (xs.take k) i)) (x ^^^ d) = away x (others (xs.take (k + 1)) i)) := Lib.hid (by rw [hs, away_snoc])
        have HS2 : Hid (mul (away a (others (xs.take k) i)) (a ^^^ d) = away a (others (xs.take (k + 1)) i)) := Lib.hid (by rw [hs, away_snoc])
        have hki2 : ¬ (k : Int) = (i : Int) := by omega
        have e1 := xor8 x d
        have e2 := xor8 a d
        have HM1 := Lib.hid (fun W => mul_any (away x (others (xs.take k) i)) (x ^^^ d) W)
        have HM2 := Lib.hid (fun W => mul_any (away a (others (xs.take k) i)) (a ^^^ d) W)
        generalize x ^^^ d = Z1 at e1 HM1 HS1
        generalize a ^^^ d = Z2 at e2 HM2 HS2
        generalize away x (others (xs.take k) i) = U at *
        generalize away a (others (xs.take k) i) = D at *
        clear hs hd
        go_wp2_with (first
          | (go_at_call 14; (with_reducible refine (HM1.out _).mono ?_); rintro e w2 ⟨rfl, hb2⟩; clear c0 c1 c2; obtain ⟨c0, c1, c2⟩ := HC.out w2 (hbq.trans (hb2.mono hbq.size)))
          | (go_at_call 14; (with_reducible refine (HM2.out _).mono ?_); rintro e w3 ⟨rfl, hb3⟩))
        go_roundw
        case rel => exact ⟨k + 1, by omega, by rw [← HS1.out], by rw [← HS2.out], by go_num, hbq.trans ((bcj hb2 hb3).mono hbq.size)⟩
        case measure => simp [intOf]; omega
    · obtain rfl : k = n := by omega
      have y3 : ¬ (k : Int) < (k : Int) := by omega
      have hT : xs.take k = xs := List.take_of_length_le (by rw [HPN.out]; omega)
      rw [hT]
      have HI := Lib.hid (fun W => inverse_any (away a (others xs i)) W)
      have HM := Lib.hid (fun W => mul_any (away x (others xs i)) (inv (away a (others xs i))) W)
      rw [← HW.out] at HM
      clear hT
      go_wp2_with (first
        | (go_at_call 26; (with_reducible refine (HI.out _).mono ?_); rintro e w2 ⟨rfl, hb2⟩)
        | (go_at_call 14; (with_reducible refine (HM.out _).mono ?_); rintro e w3 ⟨rfl, hb3⟩))
      go_ret
      exact ⟨rfl, hbq.trans ((bcj hb2 hb3).mono hbq.size)⟩
end Gf
end Go.Proofs.Ytfeifmcgcgmhnaa
