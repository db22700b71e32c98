/- The walks of FieldMatchesSpec, FieldAxioms, FieldPolynomialsMatchSpec. Conditions: the slices read as lists. -/
import Derived.Test.YtfeifmcgcgmhnaaFSane
namespace Go.Proofs.Ytfeifmcgcgmhnaa
open Go.RowKit
namespace Gf
open Wire (Lies bv)

/-- An inverse, or none, by the package and by the reference. -/
theorem inv_both (a : UInt8) : ∃ v k, (∀ W, Calls Try.prog 9 #[.int .u8 (a.toNat : Int)] W (GivesE v k W)) ∧ (∀ W, Calls Try.prog 10 #[.int .u8 (a.toNat : Int)] W (GivesE v k W)) := by
  by_cases h : a = 0
  · subst h
    exact ⟨0, 1, fun W => inv_no W, fun W => refInv_no W⟩
  · exact ⟨inv a, 0, fun W => inv_any a h W, fun W => refInv_any a h W⟩
theorem div_both (a b : UInt8) : ∃ v k, (∀ W, Calls Try.prog 11 #[.int .u8 (a.toNat : Int), .int .u8 (b.toNat : Int)] W (GivesE v k W)) ∧ (∀ W, Calls Try.prog 12 #[.int .u8 (a.toNat : Int), .int .u8 (b.toNat : Int)] W (GivesE v k W)) := by
  by_cases h : b = 0
  · subst h
    exact ⟨0, 1, fun W => div_no a W, fun W => refDiv_no a W⟩
  · exact ⟨mul a (inv b), 0, fun W => div_any a b h W, fun W => refDiv_any a b h W⟩

set_option maxRecDepth 100000 in
set_option maxHeartbeats 1000000 in
theorem matchLaw (a b : UInt8) (w : World) : Calls Try.prog 3 #[.int .u8 (a.toNat : Int), .int .u8 (b.toNat : Int)] w (Tells true w) := by
  obtain ⟨v, k, h1, h2⟩ := inv_both a
  obtain ⟨v2, k2, h3, h4⟩ := div_both a b
  have H1 := Lib.hid h1
  have H2 := Lib.hid h2
  have H3 := Lib.hid h3
  have H4 := Lib.hid h4
  have H5 := Lib.hid (fun W => mul_any a b W)
  have H6 := Lib.hid (fun W => refMul_any a b W)
  have HS := Lib.hid sanity_any
  generalize mul a b = P at *
  have Z := Below.refl w.heap.size w
  clear h1 h2 h3 h4
  go_enter Try.func3, Try.ntmps3
  go_wp2_with (first
    | (go_at_call 9; (with_reducible refine (H1.out _).mono ?_); rintro e w1 ⟨rfl, hb⟩; replace Z := bcj Z hb; clear hb)
    | (go_at_call 10; (with_reducible refine (H2.out _).mono ?_); rintro e w2 ⟨rfl, hb⟩; replace Z := bcj Z hb; clear hb)
    | (go_at_call 11; (with_reducible refine (H3.out _).mono ?_); rintro e w3 ⟨rfl, hb⟩; replace Z := bcj Z hb; clear hb)
    | (go_at_call 12; (with_reducible refine (H4.out _).mono ?_); rintro e w4 ⟨rfl, hb⟩; replace Z := bcj Z hb; clear hb)
    | (go_at_call 13; (with_reducible refine (HS.out _).mono ?_); rintro e w5 ⟨rfl, hb⟩; replace Z := bcj Z hb; clear hb)
    | (go_at_call 14; (with_reducible refine (H5.out _).mono ?_); rintro e w6 ⟨rfl, hb⟩; replace Z := bcj Z hb; clear hb)
    | (go_at_call 15; (with_reducible refine (H6.out _).mono ?_); rintro e w7 ⟨rfl, hb⟩; replace Z := bcj Z hb; clear hb))
  go_ret
  exact ⟨rfl, Z⟩

set_option maxRecDepth 100000 in
set_option maxHeartbeats 2000000 in
theorem axLaw (a b c : UInt8) (w : World) : Calls Try.prog 4 #[.int .u8 (a.toNat : Int), .int .u8 (b.toNat : Int), .int .u8 (c.toNat : Int)] w (Tells true w) := by
  have H1 := Lib.hid (fun W => mul_any a b W)
  have H2 : Hid (∀ W, Calls Try.prog 14 #[.int .u8 (b.toNat : Int), .int .u8 (a.toNat : Int)] W (GivesB (mul a b) W)) := Lib.hid (fun W => by have h := mul_any b a W; rwa [mul_comm b a] at h)
  have H3 := Lib.hid (fun W => mul_any (mul a b) c W)
  have H4 := Lib.hid (fun W => mul_any b c W)
  have H5 : Hid (∀ W, Calls Try.prog 14 #[.int .u8 (a.toNat : Int), .int .u8 ((mul b c).toNat : Int)] W (GivesB (mul (mul a b) c) W)) := Lib.hid (fun W => by rw [mul_assoc]; exact mul_any a (mul b c) W)
  have H6 : Hid (∀ W, Calls Try.prog 14 #[.int .u8 (a.toNat : Int), .int .u8 ((b ^^^ c).toNat : Int)] W (GivesB (mul a b ^^^ mul a c) W)) := Lib.hid (fun W => by rw [← mul_add]; exact mul_any a (b ^^^ c) W)
  have H7 := Lib.hid (fun W => mul_any a c W)
  have H8 : Hid (∀ W, Calls Try.prog 14 #[.int .u8 (a.toNat : Int), .int .u8 1] W (GivesB a W)) := Lib.hid (fun W => by have h := mul_any a 1 W; rwa [mul_one] at h)
  have HS := Lib.hid sanity_any
  have e1 := xor8 b c
  have e2 := xor8 (mul a b) (mul a c)
  have Z := Below.refl w.heap.size w
  have bt : ∀ x : UInt8, x = 0 → ((x.toNat : Int) == 0) = true ∧ ((x.toNat : Int) != 0) = false := fun x h => by subst h; exact ⟨rfl, rfl⟩
  have bf : ∀ x : UInt8, x ≠ 0 → ((x.toNat : Int) == 0) = false ∧ ((x.toNat : Int) != 0) = true := fun x h => by
    have : ¬ (x.toNat : Int) = 0 := fun h2 => h (UInt8.toNat_inj.1 (by simpa using h2))
    exact ⟨by simpa using this, by simpa using this⟩
  have D : ∃ q k, (∀ W, Calls Try.prog 11 #[.int .u8 ((mul a b).toNat : Int), .int .u8 (b.toNat : Int)] W (GivesE q k W)) ∧
      ((q = a ∧ k = 0 ∧ ((b.toNat : Int) == 0) = false ∧ ((b.toNat : Int) != 0) = true ∧ (((mul a b).toNat : Int) != 0) = true ∧ ((a.toNat : Int) == 0) = false) ∨
       (q = a ∧ k = 0 ∧ ((b.toNat : Int) == 0) = false ∧ ((b.toNat : Int) != 0) = true ∧ (((mul a b).toNat : Int) != 0) = false ∧ ((a.toNat : Int) == 0) = true) ∨
       (q = 0 ∧ k = 1 ∧ ((b.toNat : Int) == 0) = true ∧ ((b.toNat : Int) != 0) = false ∧ (((mul a b).toNat : Int) != 0) = false ∧ ((a.toNat : Int) == 0) = true) ∨
       (q = 0 ∧ k = 1 ∧ ((b.toNat : Int) == 0) = true ∧ ((b.toNat : Int) != 0) = false ∧ (((mul a b).toNat : Int) != 0) = false ∧ ((a.toNat : Int) == 0) = false)) := by
    by_cases hb : b = 0
    · refine ⟨0, 1, fun W => by subst hb; exact div_no _ W, .inr (.inr ?_)⟩
      have hP : mul a b = 0 := by rw [hb]; exact mul_zero a
      by_cases ha : a = 0
      · exact .inl ⟨rfl, rfl, (bt b hb).1, (bt b hb).2, (bt _ hP).2, (bt a ha).1⟩
      · exact .inr ⟨rfl, rfl, (bt b hb).1, (bt b hb).2, (bt _ hP).2, (bf a ha).1⟩
    · refine ⟨a, 0, fun W => ?_, ?_⟩
      · have h := div_any (mul a b) b hb W
        rwa [mul_assoc, mul_inv hb, mul_one] at h
      · by_cases ha : a = 0
        · exact .inr (.inl ⟨rfl, rfl, (bf b hb).1, (bf b hb).2, (bt _ (by rw [ha]; exact zero_mul b)).2, (bt a ha).1⟩)
        · exact .inl ⟨rfl, rfl, (bf b hb).1, (bf b hb).2, (bf _ (fun h => (mul_eq_zero.1 h).elim ha hb)).2, (bf a ha).1⟩
  obtain ⟨q, k, hd, D⟩ := D
  have HD := Lib.hid hd
  clear hd bt bf
  generalize mul (mul a b) c = T at *
  generalize mul a b ^^^ mul a c = U at *
  generalize b ^^^ c = Z1 at *
  generalize mul a b = P at *
  generalize mul b c = S at *
  generalize mul a c = V at *
  rcases D with ⟨rfl, rfl, d1, d2, d3, d4⟩ | ⟨rfl, rfl, d1, d2, d3, d4⟩ | ⟨rfl, rfl, d1, d2, d3, d4⟩ | ⟨rfl, rfl, d1, d2, d3, d4⟩
  all_goals
    go_enter Try.func4, Try.ntmps4
    go_wp2_with (first
      | (go_at_call 14; (with_reducible refine (H1.out _).mono ?_); rintro e w1 ⟨rfl, hb⟩; replace Z := bcj Z hb; clear hb)
      | (go_at_call 11; (with_reducible refine (HD.out _).mono ?_); rintro e w2 ⟨rfl, hb⟩; replace Z := bcj Z hb; clear hb)
      | (go_at_call 13; (with_reducible refine (HS.out _).mono ?_); rintro e w3 ⟨rfl, hb⟩; replace Z := bcj Z hb; clear hb)
      | (go_at_call 14; (with_reducible refine (H2.out _).mono ?_); rintro e w4 ⟨rfl, hb⟩; replace Z := bcj Z hb; clear hb)
      | (go_at_call 14; (with_reducible refine (H3.out _).mono ?_); rintro e w5 ⟨rfl, hb⟩; replace Z := bcj Z hb; clear hb)
      | (go_at_call 14; (with_reducible refine (H4.out _).mono ?_); rintro e w6 ⟨rfl, hb⟩; replace Z := bcj Z hb; clear hb)
      | (go_at_call 14; (with_reducible refine (H5.out _).mono ?_); rintro e w7 ⟨rfl, hb⟩; replace Z := bcj Z hb; clear hb)
      | (go_at_call 14; (with_reducible refine (H6.out _).mono ?_); rintro e w8 ⟨rfl, hb⟩; replace Z := bcj Z hb; clear hb)
      | (go_at_call 14; (with_reducible refine (H7.out _).mono ?_); rintro e w9 ⟨rfl, hb⟩; replace Z := bcj Z hb; clear hb)
      | (go_at_call 14; (with_reducible refine (H8.out _).mono ?_); rintro e w10 ⟨rfl, hb⟩; replace Z := bcj Z hb; clear hb))
    all_goals (go_ret; exact ⟨rfl, Z⟩)
end Gf
end Go.Proofs.Ytfeifmcgcgmhnaa
