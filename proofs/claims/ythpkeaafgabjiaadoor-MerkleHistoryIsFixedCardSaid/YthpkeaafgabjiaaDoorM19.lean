/- MPop; MOne; MVal: what each of these parts proves stands ahead of it. -/
import Derived.Test.YthpkeaafgabjiaaDoorM5
import Derived.Test.YthpkeaafgabjiaaDoorZBase
import Derived.Laws.Bits64b
import Derived.Test.YthpkeaafgabjiaaDoorM13
/- How many ones a number has, by parallel sums of its bits. No condition but those that are named. -/
namespace Go.Proofs.YthpkeaafgabjiaaDoor
namespace Mk

def pc8 (b : Nat) : Nat := b % 2 + b / 2 % 2 + b / 4 % 2 + b / 8 % 2 + b / 16 % 2 + b / 32 % 2 + b / 64 % 2 + b / 128 % 2
def pc4 (b : Nat) : Nat := b % 2 + b / 2 % 2 + b / 4 % 2 + b / 8 % 2
theorem ones_nibble (n : Nat) : ones n = pc4 (n % 16) + ones (n / 16) := by
  rw [ones_half n, ones_half (n / 2), ones_half (n / 2 / 2), ones_half (n / 2 / 2 / 2), show n / 2 / 2 / 2 / 2 = n / 16 by omega]
  generalize ones (n / 16) = q
  unfold pc4
  omega
theorem pc8_pc4 : ∀ b : Fin 256, pc8 b.val = pc4 (b.val % 16) + pc4 (b.val / 16) := by decide +kernel
theorem ones_byte (n : Nat) : ones n = pc8 (n % 256) + ones (n / 256) := by
  have h := pc8_pc4 ⟨n % 256, Nat.mod_lt _ (by omega)⟩
  simp only at h
  rw [ones_nibble n, ones_nibble (n / 16), h, show n % 256 % 16 = n % 16 by omega, show n % 256 / 16 = n / 16 % 16 by omega, show n / 16 / 16 = n / 256 by omega]
  omega
theorem and_split {b r u v : Nat} (hb : b < 256) (hu : u < 256) : (b + 256 * r) &&& (u + 256 * v) = (b &&& u) + 256 * (r &&& v) := by
  have h1 : ((b + 256 * r) &&& (u + 256 * v)) % 2 ^ 8 = (b &&& u) := by
    rw [Nat.and_mod_two_pow, show (b + 256 * r) % 2 ^ 8 = b by omega, show (u + 256 * v) % 2 ^ 8 = u by omega]
  have h2 : ((b + 256 * r) &&& (u + 256 * v)) / 2 ^ 8 = (r &&& v) := by
    rw [Nat.and_div_two_pow, show (b + 256 * r) / 2 ^ 8 = r by omega, show (u + 256 * v) / 2 ^ 8 = v by omega]
  omega
/-- A mask of k bytes u. -/
def mask (u : Nat) : Nat → Nat
  | 0 => 0
  | k + 1 => u + 256 * mask u k
theorem mask_succ (u k : Nat) : mask u (k + 1) = u + 256 * mask u k := rfl
def s1 (k x : Nat) : Nat := (x / 2 &&& mask 85 k) + (x &&& mask 85 k)
def s2 (k y : Nat) : Nat := (y / 4 &&& mask 51 k) + (y &&& mask 51 k)
def s3 (k z : Nat) : Nat := (z / 16 + z) &&& mask 15 k
def b1 (b : Nat) : Nat := (b / 2 &&& 85) + (b &&& 85)
def b2 (b : Nat) : Nat := (b1 b / 4 &&& 51) + (b1 b &&& 51)
theorem byte_facts : ∀ b : Fin 256, b1 b.val < 256 ∧ b2 b.val < 256 ∧ b2 b.val % 16 ≤ 4 ∧ b2 b.val / 16 ≤ 4 := by decide +kernel
theorem half_facts : ∀ (b : Fin 256) (t : Fin 2), ((b.val / 2 + 128 * t.val) &&& 85) = (b.val / 2 &&& 85) ∧ b.val / 2 + 128 * t.val < 256 := by decide +kernel
theorem quarter_facts : ∀ (b : Fin 256) (t : Fin 4), ((b.val / 4 + 64 * t.val) &&& 51) = (b.val / 4 &&& 51) ∧ b.val / 4 + 64 * t.val < 256 := by decide +kernel
theorem last_facts : ∀ (b : Fin 256) (t : Fin 5), ((b2 b.val / 16 + 16 * t.val + b2 b.val) &&& 15) = pc8 b.val ∧ b2 b.val / 16 + 16 * t.val + b2 b.val < 256 := by decide +kernel
theorem s1_split (k : Nat) {b : Nat} (r : Nat) (hb : b < 256) : s1 (k + 1) (b + 256 * r) = b1 b + 256 * s1 k r := by
  obtain ⟨h1, h2⟩ := half_facts ⟨b, hb⟩ ⟨r % 2, Nat.mod_lt _ (by omega)⟩
  simp only at h1 h2
  unfold s1 b1
  rw [mask_succ, show (b + 256 * r) / 2 = (b / 2 + 128 * (r % 2)) + 256 * (r / 2) by omega, and_split h2 (by omega), and_split hb (by omega), h1]
  omega
theorem s2_split (k : Nat) {y : Nat} (r : Nat) (hy : y < 256) : s2 (k + 1) (y + 256 * r) = ((y / 4 &&& 51) + (y &&& 51)) + 256 * s2 k r := by
  obtain ⟨h1, h2⟩ := quarter_facts ⟨y, hy⟩ ⟨r % 4, Nat.mod_lt _ (by omega)⟩
  simp only at h1 h2
  unfold s2
  rw [mask_succ, show (y + 256 * r) / 4 = (y / 4 + 64 * (r % 4)) + 256 * (r / 4) by omega, and_split h2 (by omega), and_split hy (by omega), h1]
  omega
/-- The sums of the bytes' ones. -/
def sum8 : Nat → Nat → Nat
  | 0, _ => 0
  | k + 1, x => pc8 (x % 256) + 256 * sum8 k (x / 256)
theorem s12_split (k : Nat) {b : Nat} (r : Nat) (hb : b < 256) : s2 (k + 1) (s1 (k + 1) (b + 256 * r)) = b2 b + 256 * s2 k (s1 k r) := by
  rw [s1_split k r hb, s2_split k _ (byte_facts ⟨b, hb⟩).1]
  rfl
theorem s12_zero (x : Nat) : s2 0 (s1 0 x) = 0 := by simp [s1, s2, mask]
theorem s12_low : ∀ (k x : Nat), s2 k (s1 k x) % 16 ≤ 4
  | 0, x => by rw [s12_zero]; omega
  | k + 1, x => by
    have e : x = x % 256 + 256 * (x / 256) := by omega
    have h := byte_facts ⟨x % 256, Nat.mod_lt _ (by omega)⟩
    simp only at h
    rw [e, s12_split k _ (Nat.mod_lt _ (by omega))]
    omega
theorem s3_sum : ∀ (k x : Nat), s3 k (s2 k (s1 k x)) = sum8 k x
  | 0, x => by simp [s3, mask, sum8]
  | k + 1, x => by
    have hx : x % 256 < 256 := Nat.mod_lt _ (by omega)
    have e : x = x % 256 + 256 * (x / 256) := by omega
    have hl := s12_low k (x / 256)
    have h := last_facts ⟨x % 256, hx⟩ ⟨s2 k (s1 k (x / 256)) % 16, by omega⟩
    simp only at h
    have h0 : s2 (k + 1) (s1 (k + 1) x) = b2 (x % 256) + 256 * s2 k (s1 k (x / 256)) := by
      conv => lhs; rw [e]
      exact s12_split k _ hx
    have ih := s3_sum k (x / 256)
    rw [h0]
    unfold s3 at *
    rw [sum8, mask_succ]
    generalize s2 k (s1 k (x / 256)) = z at *
    rw [show (b2 (x % 256) + 256 * z) / 16 + (b2 (x % 256) + 256 * z) = (b2 (x % 256) / 16 + 16 * (z % 16) + b2 (x % 256)) + 256 * (z / 16 + z) by omega, and_split h.2 (by omega), h.1, ih]
theorem pc8_le (b : Nat) : pc8 b ≤ 8 := by unfold pc8; omega
theorem sums_facts (x : Nat) (hx : x < 1099511627776) : ∃ p0 p1 p2 p3 p4, p0 ≤ 8 ∧ p1 ≤ 8 ∧ p2 ≤ 8 ∧ p3 ≤ 8 ∧ p4 ≤ 8 ∧ sum8 8 x = p0 + 256 * p1 + 65536 * p2 + 16777216 * p3 + 4294967296 * p4 ∧ ones x = p0 + p1 + p2 + p3 + p4 := by
  refine ⟨pc8 (x % 256), pc8 (x / 256 % 256), pc8 (x / 256 / 256 % 256), pc8 (x / 256 / 256 / 256 % 256), pc8 (x / 256 / 256 / 256 / 256 % 256), pc8_le _, pc8_le _, pc8_le _, pc8_le _, pc8_le _, ?_, ?_⟩
  · have h0 : x / 256 / 256 / 256 / 256 / 256 = 0 := by omega
    have hz : pc8 0 = 0 := rfl
    simp only [sum8, h0, Nat.zero_div, Nat.zero_mod, hz]
    omega
  · have h0 : x / 256 / 256 / 256 / 256 / 256 = 0 := by omega
    rw [ones_byte x, ones_byte (x / 256), ones_byte (x / 256 / 256), ones_byte (x / 256 / 256 / 256), ones_byte (x / 256 / 256 / 256 / 256), h0, ones_zero]
    omega
end Mk
end Go.Proofs.YthpkeaafgabjiaaDoor

/- math/bits.OnesCount of a number below 2^40. -/
namespace Go.Proofs.YthpkeaafgabjiaaDoor
open Go.RowKit
namespace Mk
theorem mask85 : mask 85 8 = 6148914691236517205 := by decide
theorem mask51 : mask 51 8 = 3689348814741910323 := by decide
theorem mask15 : mask 15 8 = 1085102592571150095 := by decide
theorem and_i64 (a : Nat) (ha : a < 128) : ∀ r : Nat, a + 128 * r < 9223372036854775808 → bits .and .i64 ((a + 128 * r : Nat) : Int) 127 = (a : Int) := fun r hr => by
  have h1 : (BitVec.ofInt 64 ((a + 128 * r : Nat) : Int)).toNat = a + 128 * r := by
    rw [BitVec.ofInt_natCast, BitVec.toNat_ofNat]; exact Nat.mod_eq_of_lt (by omega)
  have h2 : (BitVec.ofInt 64 (127 : Int)).toNat = 127 := by decide
  have h3 : (a + 128 * r) &&& 127 = a := by
    have := Nat.and_two_pow_sub_one_eq_mod (a + 128 * r) 7
    rw [show (2 : Nat) ^ 7 - 1 = 127 from rfl] at this
    rw [this]
    omega
  show IntKind.i64.wrap ((BitVec.ofInt 64 ((a + 128 * r : Nat) : Int) &&& BitVec.ofInt 64 127).toNat : Int) = _
  rw [BitVec.toNat_and, h1, h2, h3, IntKind.wrap_i64]
  omega

set_option maxRecDepth 100000 in
set_option maxHeartbeats 1000000 in
theorem onesCount64_any (x : Nat) (hx : x ≤ 4294967296) (w : World) :
    Calls Tryd.prog 83 #[.int .u64 (x : Int)] w fun e w' => e = .returned (.int .i64 (ones x : Int)) ∧ w' = w := by
  obtain ⟨p0, p1, p2, p3, p4, h0, h1, h2, h3, h4, hs, ho⟩ := sums_facts x (by omega)
  have hsum := s3_sum 8 x
  rw [hs] at hsum
  obtain ⟨a1, ha1⟩ : ∃ a, a = x / 2 &&& 6148914691236517205 := ⟨_, rfl⟩
  obtain ⟨a2, ha2⟩ : ∃ a, a = x &&& 6148914691236517205 := ⟨_, rfl⟩
  have hy : s1 8 x = a1 + a2 := by unfold s1; rw [mask85, ha1, ha2]
  have la1 : a1 ≤ x / 2 := by rw [ha1]; exact Nat.and_le_left
  have la2 : a2 ≤ x := by rw [ha2]; exact Nat.and_le_left
  rw [hy] at hsum
  obtain ⟨y, hy2⟩ : ∃ y, y = a1 + a2 := ⟨_, rfl⟩
  rw [← hy2] at hsum
  obtain ⟨c1, hc1⟩ : ∃ a, a = y / 4 &&& 3689348814741910323 := ⟨_, rfl⟩
  obtain ⟨c2, hc2⟩ : ∃ a, a = y &&& 3689348814741910323 := ⟨_, rfl⟩
  have hz : s2 8 y = c1 + c2 := by unfold s2; rw [mask51, hc1, hc2]
  have lc1 : c1 ≤ y / 4 := by rw [hc1]; exact Nat.and_le_left
  have lc2 : c2 ≤ y := by rw [hc2]; exact Nat.and_le_left
  rw [hz] at hsum
  obtain ⟨z, hz2⟩ : ∃ z, z = c1 + c2 := ⟨_, rfl⟩
  rw [← hz2] at hsum
  obtain ⟨s, hs2⟩ : ∃ s, s = z / 16 + z := ⟨_, rfl⟩
  have hT : s3 8 z = s &&& 1085102592571150095 := by unfold s3; rw [mask15, hs2]
  rw [hT] at hsum
  obtain ⟨T, hT2⟩ : ∃ T, T = s &&& 1085102592571150095 := ⟨_, rfl⟩
  rw [← hT2] at hsum
  have f1 : bits .and .u64 ((x : Int) / 2) 6148914691236517205 = (a1 : Int) := by rw [ha1]; exact bits_and_u64_nat (x / 2) 6148914691236517205 (by omega) (by omega)
  have f2 : bits .and .u64 (x : Int) 6148914691236517205 = (a2 : Int) := by rw [ha2]; exact bits_and_u64_nat x 6148914691236517205 (by omega) (by omega)
  have f3 : (a1 : Int) + (a2 : Int) = (y : Int) := by omega
  have f4 : bits .and .u64 ((y : Int) / 4) 3689348814741910323 = (c1 : Int) := by rw [hc1]; exact bits_and_u64_nat (y / 4) 3689348814741910323 (by omega) (by omega)
  have f5 : bits .and .u64 (y : Int) 3689348814741910323 = (c2 : Int) := by rw [hc2]; exact bits_and_u64_nat y 3689348814741910323 (by omega) (by omega)
  have f6 : (c1 : Int) + (c2 : Int) = (z : Int) := by omega
  have f7 : (z : Int) / 16 + (z : Int) = (s : Int) := by omega
  have f8 : bits .and .u64 (s : Int) 1085102592571150095 = (T : Int) := by rw [hT2]; exact bits_and_u64_nat s 1085102592571150095 (by omega) (by omega)
  obtain ⟨T4, hT4⟩ : ∃ t, t = T + T / 256 := ⟨_, rfl⟩
  obtain ⟨T5, hT5⟩ : ∃ t, t = T4 + T4 / 65536 := ⟨_, rfl⟩
  obtain ⟨T6, hT6⟩ : ∃ t, t = T5 + T5 / 4294967296 := ⟨_, rfl⟩
  have f9 : (T : Int) + (T : Int) / 256 = (T4 : Int) := by omega
  have f10 : (T4 : Int) + (T4 : Int) / 65536 = (T5 : Int) := by omega
  have f11 : (T5 : Int) + (T5 : Int) / 4294967296 = (T6 : Int) := by omega
  have b1 : a1 + a2 ≤ 18446744073709551615 := by omega
  have b2 : y ≤ 18446744073709551615 := by omega
  have b3 : z ≤ 18446744073709551615 := by omega
  have b4 : s ≤ 18446744073709551615 := by omega
  have b5 : T4 ≤ 1000000000000000 := by omega
  have b6 : T5 ≤ 1000000000000000 := by omega
  have b7 : T6 ≤ 1000000000000000 := by omega
  have f12 : bits .and .i64 (T6 : Int) 127 = (ones x : Int) := by
    have q4 : T4 = (p0 + p1) + 256 * (p1 + p2) + 65536 * (p2 + p3) + 16777216 * (p3 + p4) + 4294967296 * p4 := by omega
    have q5 : T5 = (p0 + p1 + p2 + p3) + 256 * (p1 + p2 + p3 + p4) + 65536 * (p2 + p3 + p4) + 16777216 * (p3 + p4) + 4294967296 * p4 := by omega
    have q6 : T6 = (p0 + p1 + p2 + p3 + p4) + 256 * (p1 + p2 + p3 + p4) + 65536 * (p2 + p3 + p4) + 16777216 * (p3 + p4) + 4294967296 * p4 := by omega
    obtain ⟨r, hr⟩ : ∃ r, T6 = (p0 + p1 + p2 + p3 + p4) + 128 * r := ⟨2 * (p1 + p2 + p3 + p4) + 512 * (p2 + p3 + p4) + 131072 * (p3 + p4) + 33554432 * p4, by omega⟩
    rw [ho, hr]
    exact and_i64 _ (by omega) r (by omega)
  clear ha1 ha2 hy la1 la2 hy2 hc1 hc2 hz lc1 lc2 hz2 hs2 hT hT2 hsum hs ho h0 h1 h2 h3 h4 hT4 hT5 hT6 b1
  go_enter Tryd.func83, Tryd.ntmps83
  go_wp2
  go_ret
  exact ⟨rfl, rfl⟩
set_option maxRecDepth 100000 in
theorem onesCount_any (x : Nat) (hx : x ≤ 4294967296) (w : World) :
    Calls Tryd.prog 67 #[.int .u64 (x : Int)] w fun e w' => e = .returned (.int .i64 (ones x : Int)) ∧ w' = w := by
  have HL := Lib.hid (fun W => onesCount64_any x hx W)
  clear hx
  go_enter Tryd.func67, Tryd.ntmps67
  go_wp2_with (go_at_call 83; (with_reducible refine (HL.out _).mono ?_); rintro e w1 ⟨rfl, rfl⟩)
  go_ret
  exact ⟨rfl, rfl⟩
end Mk
end Go.Proofs.YthpkeaafgabjiaaDoor

/- The package merkle: valid. No condition. -/
namespace Go.Proofs.YthpkeaafgabjiaaDoor
open Go.RowKit
namespace Mk
open Wire (bv sv Lies)
open Hash (Arr bcj)

set_option maxRecDepth 100000 in
set_option maxHeartbeats 1000000 in
theorem valid_any (n : Int) (A : Option Addr) (k c : Nat) (w : World) :
    Calls Tryd.prog 54 #[pkv n A k c] w (GivesT (pkOk n k) w) := by
  have Y : Pa w (w.alloc (.cells #[.int .i64 n, .slice A k c] 56)) n A k c := ⟨pk_new w n A k c _, Wire.b1 _ _⟩
  have HN : Hid (∀ W, Pa w W n A k c → W.cell? ⟨w.heap.size, 0, none⟩ = some (.int .i64 n)) := Lib.hid (fun W h => h.p.size)
  have HK : Hid (∀ W, Pa w W n A k c → W.cell? ⟨w.heap.size, 1, none⟩ = some (.slice A k c)) := Lib.hid (fun W h => h.p.roots)
  unfold pkv
  by_cases h0 : 0 ≤ n
  · by_cases h1 : n ≤ 4294967296
    · obtain ⟨m, rfl⟩ : ∃ m : Nat, n = (m : Int) := ⟨n.toNat, by omega⟩
      have HO : Hid (∀ W, Pa w W (m : Int) A k c → Calls Tryd.prog 67 #[.int .u64 (m : Int)] W fun e w1 => e = .returned (.int .i64 (ones m : Int)) ∧ Below W.heap.size W w1) := Lib.hid (fun W _ => (onesCount_any m (by omega) W).mono fun e w1 ⟨h1, h2⟩ => ⟨h1, by rw [h2]; exact Below.refl _ _⟩)
      have hR : pkOk (m : Int) k = ((k : Int) == (ones m : Int)) := (by
        unfold pkOk
        rw [decide_eq_true h0, decide_eq_true h1, Int.toNat_natCast]
        rw [Bool.eq_iff_iff]
        simp; omega)
      rw [hR]
      clear hR
      have w2 : (0 : Int) ≤ (m : Int) := h0
      have w3 : IntKind.u64.wrap (m : Int) = (m : Int) := by rw [IntKind.wrap_u64]; omega
      go_enter Tryd.func54, Tryd.ntmps54
      go_wp2
      refine QTail.whole (fun W => Pa w W (m : Int) A k c) (by kernel_rfl) (by kernel_rfl) (Y.on (Hash.belowD _)) ?_
      (refine wpQuiet_step (fun K hK => ?_); go_simp; (first | refine hK _ ?_ | refine ⟨_, fun _ _ => rfl, hK _ ?_⟩); clear hK K)
      (refine wpQuiet_step (fun K hK => ?_); go_simp; refine ⟨(.int .i64 (m : Int)), fun W hW => ?_, hK _ ?_⟩; (first | (rw [HN.out W hW]; exact ⟨rfl, rfl⟩) | (rw [HN.out W hW]; rfl)); clear hK K)
      (refine wpQuiet_step (fun K hK => ?_); go_simp; (first | refine hK _ ?_ | refine ⟨_, fun _ _ => rfl, hK _ ?_⟩); clear hK K)
      (refine wpQuiet_step (fun K hK => ?_); go_simp; (first | refine hK _ ?_ | refine ⟨_, fun _ _ => rfl, hK _ ?_⟩); clear hK K)
      (refine wpQuiet_step (fun K hK => ?_); go_simp; (first | refine hK _ ?_ | refine ⟨_, fun _ _ => rfl, hK _ ?_⟩); clear hK K)
      (refine wpQuiet_step (fun K hK => ?_); go_simp; refine ⟨(.int .i64 (m : Int)), fun W hW => ?_, hK _ ?_⟩; (first | (rw [HN.out W hW]; exact ⟨rfl, rfl⟩) | (rw [HN.out W hW]; rfl)); clear hK K)
      (refine wpQuiet_step (fun K hK => ?_); go_simp; (first | refine hK _ ?_ | refine ⟨_, fun _ _ => rfl, hK _ ?_⟩); clear hK K)
      (refine wpQuiet_step (fun K hK => ?_); go_simp; (first | refine hK _ ?_ | refine ⟨_, fun _ _ => rfl, hK _ ?_⟩); clear hK K)
      (refine wpQuiet_step (fun K hK => ?_); go_simp; (first | refine hK _ ?_ | refine ⟨_, fun _ _ => rfl, hK _ ?_⟩); clear hK K)
      (refine wpQuiet_step (fun K hK => ?_); go_simp; (first | refine hK _ ?_ | refine ⟨_, fun _ _ => rfl, hK _ ?_⟩); clear hK K)
      (refine wpQuiet_step (fun K hK => ?_); go_simp; refine ⟨(.slice A k c), fun W hW => ?_, hK _ ?_⟩; (first | (rw [HK.out W hW]; exact ⟨rfl, rfl⟩) | (rw [HK.out W hW]; rfl)); clear hK K)
      (refine wpQuiet_step (fun K hK => ?_); go_simp; (first | refine hK _ ?_ | refine ⟨_, fun _ _ => rfl, hK _ ?_⟩); clear hK K)
      (refine wpQuiet_step (fun K hK => ?_); go_simp; (first | refine hK _ ?_ | refine ⟨_, fun _ _ => rfl, hK _ ?_⟩); clear hK K)
      (refine wpQuiet_step (fun K hK => ?_); go_simp; refine ⟨(.int .i64 (m : Int)), fun W hW => ?_, hK _ ?_⟩; (first | (rw [HN.out W hW]; exact ⟨rfl, rfl⟩) | (rw [HN.out W hW]; rfl)); clear hK K)
      (refine wpQuiet_step (fun K hK => ?_); go_simp; (first | refine hK _ ?_ | refine ⟨_, fun _ _ => rfl, hK _ ?_⟩); clear hK K)
      (refine wpQuiet_step (fun K hK => ?_); go_simp; refine ⟨_, fun W hW => (HO.out W hW).mono fun e w' ⟨he, hb⟩ => ⟨he, hW.on hb⟩, hK _ ?_⟩; clear hK K)
      (refine wpQuiet_step (fun K hK => ?_); go_simp; (first | refine hK _ ?_ | refine ⟨_, fun _ _ => rfl, hK _ ?_⟩); clear hK K)
      (refine wpQuiet_step (fun K hK => ?_); go_simp; (first | refine hK _ ?_ | refine ⟨_, fun _ _ => rfl, hK _ ?_⟩); clear hK K)
      (refine wpQuiet_step (fun K hK => ?_); go_simp; (first | refine hK _ ?_ | refine ⟨_, fun _ _ => rfl, hK _ ?_⟩); clear hK K)
      refine wpQuiet_nil ?_
      clear Y
      intro w7 Y
      go_wp2
      go_ret
      exact ⟨rfl, Y.z⟩
    · have hR : pkOk n k = false := (by
        unfold pkOk
        rw [decide_eq_true h0, decide_eq_false h1]
        rfl)
      rw [hR]
      clear hR
      have hdd := decide_eq_false h1
      go_enter Tryd.func54, Tryd.ntmps54
      go_wp2
      refine QTail.whole (fun W => Pa w W n A k c) (by kernel_rfl) (by kernel_rfl) (Y.on (Hash.belowD _)) ?_
      (refine wpQuiet_step (fun K hK => ?_); go_simp; (first | refine hK _ ?_ | refine ⟨_, fun _ _ => rfl, hK _ ?_⟩); clear hK K)
      (refine wpQuiet_step (fun K hK => ?_); go_simp; refine ⟨(.int .i64 n), fun W hW => ?_, hK _ ?_⟩; (first | (rw [HN.out W hW]; exact ⟨rfl, rfl⟩) | (rw [HN.out W hW]; rfl)); clear hK K)
      (refine wpQuiet_step (fun K hK => ?_); go_simp; (first | refine hK _ ?_ | refine ⟨_, fun _ _ => rfl, hK _ ?_⟩); clear hK K)
      (refine wpQuiet_step (fun K hK => ?_); go_simp; (first | refine hK _ ?_ | refine ⟨_, fun _ _ => rfl, hK _ ?_⟩); clear hK K)
      (refine wpQuiet_step (fun K hK => ?_); go_simp; (first | refine hK _ ?_ | refine ⟨_, fun _ _ => rfl, hK _ ?_⟩); clear hK K)
      (refine wpQuiet_step (fun K hK => ?_); go_simp; refine ⟨(.int .i64 n), fun W hW => ?_, hK _ ?_⟩; (first | (rw [HN.out W hW]; exact ⟨rfl, rfl⟩) | (rw [HN.out W hW]; rfl)); clear hK K)
      (refine wpQuiet_step (fun K hK => ?_); go_simp; (first | refine hK _ ?_ | refine ⟨_, fun _ _ => rfl, hK _ ?_⟩); clear hK K)
      (refine wpQuiet_step (fun K hK => ?_); go_simp; (first | refine hK _ ?_ | refine ⟨_, fun _ _ => rfl, hK _ ?_⟩); clear hK K)
      (refine wpQuiet_step (fun K hK => ?_); go_simp; (first | refine hK _ ?_ | refine ⟨_, fun _ _ => rfl, hK _ ?_⟩); clear hK K)
      (with_reducible refine wpQuiet_step (fun K hK => ?_)); go_simp; (with_reducible refine hK _ ?_); clear hK K
      (with_reducible refine wpQuiet_step (fun K hK => ?_)); go_simp; (with_reducible refine hK _ ?_); clear hK K
      (with_reducible refine wpQuiet_step (fun K hK => ?_)); go_simp; (with_reducible refine hK _ ?_); clear hK K
      (with_reducible refine wpQuiet_step (fun K hK => ?_)); go_simp; (with_reducible refine hK _ ?_); clear hK K
      (with_reducible refine wpQuiet_step (fun K hK => ?_)); go_simp; (with_reducible refine hK _ ?_); clear hK K
      (with_reducible refine wpQuiet_step (fun K hK => ?_)); go_simp; (with_reducible refine hK _ ?_); clear hK K
      (with_reducible refine wpQuiet_step (fun K hK => ?_)); go_simp; (with_reducible refine hK _ ?_); clear hK K
      (with_reducible refine wpQuiet_step (fun K hK => ?_)); go_simp; (with_reducible refine hK _ ?_); clear hK K
      (refine wpQuiet_step (fun K hK => ?_); go_simp; (first | refine hK _ ?_ | refine ⟨_, fun _ _ => rfl, hK _ ?_⟩); clear hK K)
      (refine wpQuiet_step (fun K hK => ?_); go_simp; (first | refine hK _ ?_ | refine ⟨_, fun _ _ => rfl, hK _ ?_⟩); clear hK K)
      refine wpQuiet_nil ?_
      clear Y
      intro w7 Y
      go_wp2
      go_ret
      exact ⟨rfl, Y.z⟩
  · have hR : pkOk n k = false := (by
      unfold pkOk
      rw [decide_eq_false h0]
      rfl)
    rw [hR]
    clear hR
    have hdd := decide_eq_false h0
    go_enter Tryd.func54, Tryd.ntmps54
    go_wp2
    refine QTail.whole (fun W => Pa w W n A k c) (by kernel_rfl) (by kernel_rfl) (Y.on (Hash.belowD _)) ?_
    (refine wpQuiet_step (fun K hK => ?_); go_simp; (first | refine hK _ ?_ | refine ⟨_, fun _ _ => rfl, hK _ ?_⟩); clear hK K)
    (refine wpQuiet_step (fun K hK => ?_); go_simp; refine ⟨(.int .i64 n), fun W hW => ?_, hK _ ?_⟩; (first | (rw [HN.out W hW]; exact ⟨rfl, rfl⟩) | (rw [HN.out W hW]; rfl)); clear hK K)
    (refine wpQuiet_step (fun K hK => ?_); go_simp; (first | refine hK _ ?_ | refine ⟨_, fun _ _ => rfl, hK _ ?_⟩); clear hK K)
    (refine wpQuiet_step (fun K hK => ?_); go_simp; (first | refine hK _ ?_ | refine ⟨_, fun _ _ => rfl, hK _ ?_⟩); clear hK K)
    (with_reducible refine wpQuiet_step (fun K hK => ?_)); go_simp; (with_reducible refine hK _ ?_); clear hK K
    (with_reducible refine wpQuiet_step (fun K hK => ?_)); go_simp; (with_reducible refine hK _ ?_); clear hK K
    (with_reducible refine wpQuiet_step (fun K hK => ?_)); go_simp; (with_reducible refine hK _ ?_); clear hK K
    (refine wpQuiet_step (fun K hK => ?_); go_simp; (first | refine hK _ ?_ | refine ⟨_, fun _ _ => rfl, hK _ ?_⟩); clear hK K)
    (refine wpQuiet_step (fun K hK => ?_); go_simp; (first | refine hK _ ?_ | refine ⟨_, fun _ _ => rfl, hK _ ?_⟩); clear hK K)
    (with_reducible refine wpQuiet_step (fun K hK => ?_)); go_simp; (with_reducible refine hK _ ?_); clear hK K
    (with_reducible refine wpQuiet_step (fun K hK => ?_)); go_simp; (with_reducible refine hK _ ?_); clear hK K
    (with_reducible refine wpQuiet_step (fun K hK => ?_)); go_simp; (with_reducible refine hK _ ?_); clear hK K
    (with_reducible refine wpQuiet_step (fun K hK => ?_)); go_simp; (with_reducible refine hK _ ?_); clear hK K
    (with_reducible refine wpQuiet_step (fun K hK => ?_)); go_simp; (with_reducible refine hK _ ?_); clear hK K
    (with_reducible refine wpQuiet_step (fun K hK => ?_)); go_simp; (with_reducible refine hK _ ?_); clear hK K
    (with_reducible refine wpQuiet_step (fun K hK => ?_)); go_simp; (with_reducible refine hK _ ?_); clear hK K
    (with_reducible refine wpQuiet_step (fun K hK => ?_)); go_simp; (with_reducible refine hK _ ?_); clear hK K
    (refine wpQuiet_step (fun K hK => ?_); go_simp; (first | refine hK _ ?_ | refine ⟨_, fun _ _ => rfl, hK _ ?_⟩); clear hK K)
    (refine wpQuiet_step (fun K hK => ?_); go_simp; (first | refine hK _ ?_ | refine ⟨_, fun _ _ => rfl, hK _ ?_⟩); clear hK K)
    refine wpQuiet_nil ?_
    clear Y
    intro w7 Y
    go_wp2
    go_ret
    exact ⟨rfl, Y.z⟩
end Mk
end Go.Proofs.YthpkeaafgabjiaaDoor

