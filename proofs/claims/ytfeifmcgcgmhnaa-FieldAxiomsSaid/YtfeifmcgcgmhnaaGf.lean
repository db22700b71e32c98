/- The field with 256 elements as mathematics: products, inverses, powers. No condition. -/
import Derived.Test.YtfeifmcgcgmhnaaProg
namespace Go.Proofs.Ytfeifmcgcgmhnaa
namespace Gf

/-- A share that is taken or not; times z. -/
def sel (p : Bool) (a : UInt8) : UInt8 := if p then a else 0
def xt (a : UInt8) : UInt8 := (a <<< 1) ^^^ sel (a.toNat.testBit 7) 29
def xts (a : UInt8) : Nat → UInt8
  | 0 => a
  | i + 1 => xt (xts a i)
/-- The sum of the first k shares of a product. -/
def part (a b : UInt8) : Nat → UInt8
  | 0 => 0
  | i + 1 => part a b i ^^^ sel (b.toNat.testBit i) (xts a i)
def mul (a b : UInt8) : UInt8 := part a b 8

theorem xor_assoc (a b c : UInt8) : a ^^^ b ^^^ c = a ^^^ (b ^^^ c) := UInt8.xor_assoc a b c
theorem xor_comm (a b : UInt8) : a ^^^ b = b ^^^ a := UInt8.xor_comm a b
theorem xor_self (a : UInt8) : a ^^^ a = 0 := UInt8.xor_self
theorem xor_zero (a : UInt8) : a ^^^ 0 = a := UInt8.xor_zero
theorem zero_xor (a : UInt8) : 0 ^^^ a = a := UInt8.zero_xor
theorem xor_swap (a b c d : UInt8) : (a ^^^ b) ^^^ (c ^^^ d) = (a ^^^ c) ^^^ (b ^^^ d) := by
  rw [xor_assoc, ← xor_assoc b, xor_comm b c, xor_assoc c, ← xor_assoc]
theorem xor_cancel {a b c : UInt8} (h : a ^^^ b = a ^^^ c) : b = c := by
  have := congrArg (a ^^^ ·) h
  simpa only [← xor_assoc, xor_self, zero_xor] using this
theorem xor_eq_zero {a b : UInt8} : a ^^^ b = 0 ↔ a = b := by
  constructor
  · intro h
    exact (xor_cancel (h.trans (xor_self a).symm)).symm
  · rintro rfl; exact xor_self _

theorem all1 {p : UInt8 → Prop} (h : ∀ i : Fin 256, p (UInt8.ofNat i)) (a : UInt8) : p a := by
  have := h ⟨a.toNat, a.toNat_lt⟩
  simpa using this

theorem sel_bne (p q : Bool) (a : UInt8) : sel (p ^^ q) a = sel p a ^^^ sel q a := by cases p <;> cases q <;> simp [sel]
theorem xt_xor (a b : UInt8) : xt (a ^^^ b) = xt a ^^^ xt b := by
  unfold xt
  rw [UInt8.shiftLeft_xor, UInt8.toNat_xor, Nat.testBit_xor, sel_bne, xor_swap]
theorem xt_zero : xt 0 = 0 := by decide
theorem xts_xor (a b : UInt8) (i : Nat) : xts (a ^^^ b) i = xts a i ^^^ xts b i := by
  induction i with
  | zero => rfl
  | succ i ih => rw [xts, ih, xt_xor]; rfl
theorem xts_zero (i : Nat) : xts 0 i = 0 := by
  induction i with
  | zero => rfl
  | succ i ih => rw [xts, ih, xt_zero]
theorem xts_xt (a : UInt8) (i : Nat) : xts (xt a) i = xt (xts a i) := by
  induction i with
  | zero => rfl
  | succ i ih => rw [xts, ih]; rfl
theorem sel_xor (p : Bool) (a b : UInt8) : sel p (a ^^^ b) = sel p a ^^^ sel p b := by cases p <;> simp [sel]
theorem sel_zero (p : Bool) : sel p 0 = 0 := by cases p <;> rfl
theorem xt_sel (p : Bool) (a : UInt8) : xt (sel p a) = sel p (xt a) := by cases p <;> simp [sel, xt_zero]

theorem part_left (a b c : UInt8) (i : Nat) : part (a ^^^ b) c i = part a c i ^^^ part b c i := by
  induction i with
  | zero => simp [part]
  | succ i ih => rw [part, ih, xts_xor, sel_xor, xor_swap]; rfl
theorem part_right (a b c : UInt8) (i : Nat) : part a (b ^^^ c) i = part a b i ^^^ part a c i := by
  induction i with
  | zero => simp [part]
  | succ i ih => rw [part, ih, UInt8.toNat_xor, Nat.testBit_xor, sel_bne, xor_swap]; rfl
theorem part_zero (c : UInt8) (i : Nat) : part 0 c i = 0 := by
  induction i with
  | zero => rfl
  | succ i ih => rw [part, ih, xts_zero, sel_zero, xor_zero]
theorem part_xt (a c : UInt8) (i : Nat) : part (xt a) c i = xt (part a c i) := by
  induction i with
  | zero => rw [part, part, xt_zero]
  | succ i ih => rw [part, ih, xts_xt, ← xt_sel, ← xt_xor]; rfl
theorem add_mul (a b c : UInt8) : mul (a ^^^ b) c = mul a c ^^^ mul b c := part_left a b c 8
theorem mul_add (a b c : UInt8) : mul a (b ^^^ c) = mul a b ^^^ mul a c := part_right a b c 8
theorem zero_mul (c : UInt8) : mul 0 c = 0 := part_zero c 8
theorem mul_xt (a c : UInt8) : mul (xt a) c = xt (mul a c) := part_xt a c 8
theorem mul_xts (a c : UInt8) (i : Nat) : mul (xts a i) c = xts (mul a c) i := by
  induction i with
  | zero => rfl
  | succ i ih => rw [xts, mul_xt, ih]; rfl
theorem mul_sel (p : Bool) (a c : UInt8) : mul (sel p a) c = sel p (mul a c) := by cases p <;> simp [sel, zero_mul]
theorem mul_part (a b c : UInt8) (i : Nat) : mul (part a b i) c = part (mul a c) b i := by
  induction i with
  | zero => rw [part, zero_mul]; rfl
  | succ i ih => rw [part, add_mul, ih, mul_sel, mul_xts]; rfl
/-- (a * b) * c = (a * c) * b. -/
theorem mul_right_comm (a b c : UInt8) : mul (mul a b) c = mul (mul a c) b := mul_part a b c 8
theorem one_mul (a : UInt8) : mul 1 a = a := all1 (p := fun a => mul 1 a = a) (by decide +kernel) a
theorem mul_comm (a b : UInt8) : mul a b = mul b a := by
  have := mul_right_comm 1 a b
  rwa [one_mul, one_mul] at this
theorem mul_assoc (a b c : UInt8) : mul (mul a b) c = mul a (mul b c) := by
  rw [mul_comm a b, mul_right_comm b a c, mul_comm]
theorem mul_one (a : UInt8) : mul a 1 = a := by rw [mul_comm, one_mul]
theorem mul_zero (a : UInt8) : mul a 0 = 0 := by rw [mul_comm, zero_mul]

def pow (a : UInt8) : Nat → UInt8
  | 0 => 1
  | n + 1 => mul (pow a n) a
def inv (a : UInt8) : UInt8 := pow a 254
/-- The powers of z, and which power an element is. -/
def exps : List UInt8 := [1, 2, 4, 8, 16, 32, 64, 128, 29, 58, 116, 232, 205, 135, 19, 38, 76, 152, 45, 90, 180, 117, 234, 201, 143, 3, 6, 12, 24, 48, 96, 192, 157, 39, 78, 156, 37, 74, 148, 53, 106, 212, 181, 119, 238, 193, 159, 35, 70, 140, 5, 10, 20, 40, 80, 160, 93, 186, 105, 210, 185, 111, 222, 161, 95, 190, 97, 194, 153, 47, 94, 188, 101, 202, 137, 15, 30, 60, 120, 240, 253, 231, 211, 187, 107, 214, 177, 127, 254, 225, 223, 163, 91, 182, 113, 226, 217, 175, 67, 134, 17, 34, 68, 136, 13, 26, 52, 104, 208, 189, 103, 206, 129, 31, 62, 124, 248, 237, 199, 147, 59, 118, 236, 197, 151, 51, 102, 204, 133, 23, 46, 92, 184, 109, 218, 169, 79, 158, 33, 66, 132, 21, 42, 84, 168, 77, 154, 41, 82, 164, 85, 170, 73, 146, 57, 114, 228, 213, 183, 115, 230, 209, 191, 99, 198, 145, 63, 126, 252, 229, 215, 179, 123, 246, 241, 255, 227, 219, 171, 75, 150, 49, 98, 196, 149, 55, 110, 220, 165, 87, 174, 65, 130, 25, 50, 100, 200, 141, 7, 14, 28, 56, 112, 224, 221, 167, 83, 166, 81, 162, 89, 178, 121, 242, 249, 239, 195, 155, 43, 86, 172, 69, 138, 9, 18, 36, 72, 144, 61, 122, 244, 245, 247, 243, 251, 235, 203, 139, 11, 22, 44, 88, 176, 125, 250, 233, 207, 131, 27, 54, 108, 216, 173, 71, 142]
def logs : List Nat := [0, 0, 1, 25, 2, 50, 26, 198, 3, 223, 51, 238, 27, 104, 199, 75, 4, 100, 224, 14, 52, 141, 239, 129, 28, 193, 105, 248, 200, 8, 76, 113, 5, 138, 101, 47, 225, 36, 15, 33, 53, 147, 142, 218, 240, 18, 130, 69, 29, 181, 194, 125, 106, 39, 249, 185, 201, 154, 9, 120, 77, 228, 114, 166, 6, 191, 139, 98, 102, 221, 48, 253, 226, 152, 37, 179, 16, 145, 34, 136, 54, 208, 148, 206, 143, 150, 219, 189, 241, 210, 19, 92, 131, 56, 70, 64, 30, 66, 182, 163, 195, 72, 126, 110, 107, 58, 40, 84, 250, 133, 186, 61, 202, 94, 155, 159, 10, 21, 121, 43, 78, 212, 229, 172, 115, 243, 167, 87, 7, 112, 192, 247, 140, 128, 99, 13, 103, 74, 222, 237, 49, 197, 254, 24, 227, 165, 153, 119, 38, 184, 180, 124, 17, 68, 146, 217, 35, 32, 137, 46, 55, 63, 209, 91, 149, 188, 207, 205, 144, 135, 151, 178, 220, 252, 190, 97, 242, 86, 211, 171, 20, 42, 93, 158, 132, 60, 57, 83, 71, 109, 65, 162, 31, 45, 67, 216, 183, 123, 164, 118, 196, 23, 73, 236, 127, 12, 111, 246, 108, 161, 59, 82, 41, 157, 85, 170, 251, 96, 134, 177, 187, 204, 62, 90, 203, 89, 95, 176, 156, 169, 160, 81, 11, 245, 22, 235, 122, 117, 44, 215, 79, 174, 213, 233, 230, 231, 173, 232, 116, 214, 244, 234, 168, 80, 88, 175]
theorem exps_step : ((exps.zip exps.tail).all fun (a, b) => b == xt a) = true := by decide +kernel
theorem exps_last : xt 142 = 1 := by decide
theorem exps_len : exps.length = 255 := by decide +kernel
theorem exps_logs : ((List.range 255).all fun i => exps[logs.getD (i + 1) 0]? == some (UInt8.ofNat (i + 1)) && logs.getD (i + 1) 0 < 255) = true := by decide +kernel
theorem exps_at : ∀ k, k < 255 → exps[k]? = some (xts 1 k)
  | 0, _ => rfl
  | k + 1, h => by
    have ih := exps_at k (by omega)
    have hl := exps_len
    have h1 : exps[k + 1]? = some (exps[k + 1]'(by omega)) := List.getElem?_eq_getElem _
    have h2 : (exps.zip exps.tail)[k]? = some (xts 1 k, exps[k + 1]'(by omega)) := by
      rw [List.getElem?_zip_eq_some, List.getElem?_tail]
      exact ⟨ih, h1⟩
    have h3 := List.all_eq_true.1 exps_step _ (List.mem_of_getElem? h2)
    have h4 : exps[k + 1]'(by omega) = xt (xts 1 k) := by simpa using h3
    rw [h1, h4]
    rfl
theorem two_eq : (2 : UInt8) = xt 1 := by decide
theorem two_mul (a : UInt8) : mul 2 a = xt a := by rw [two_eq, mul_xt, one_mul]
theorem is_exp {a : UInt8} (h : a ≠ 0) : ∃ k, k < 255 ∧ a = xts 1 k := by
  have hn : a.toNat ≠ 0 := fun e => h (UInt8.toNat_inj.1 e)
  have hlt := a.toNat_lt
  have h1 := List.all_eq_true.1 exps_logs (a.toNat - 1) (by simp; omega)
  rw [show a.toNat - 1 + 1 = a.toNat by omega] at h1
  simp only [Bool.and_eq_true, beq_iff_eq, decide_eq_true_eq] at h1
  refine ⟨_, h1.2, ?_⟩
  have h2 := h1.1
  rw [exps_at _ h1.2, UInt8.ofNat_toNat] at h2
  exact (Option.some.inj h2).symm
theorem xts_add (a : UInt8) (i j : Nat) : xts a (i + j) = xts (xts a i) j := by
  induction j with
  | zero => rfl
  | succ j ih => rw [← Nat.add_assoc, xts, ih]; rfl
theorem xts_mul (i j : Nat) : mul (xts 1 i) (xts 1 j) = xts 1 (i + j) := by rw [mul_xts, one_mul, ← xts_add, Nat.add_comm]
theorem xts_255 : xts 1 255 = 1 := by
  have h := exps_at 254 (by omega)
  have h2 : exps[254]? = some 142 := by decide +kernel
  rw [h2] at h
  show xt (xts 1 254) = 1
  rw [← Option.some.inj h]
  exact exps_last
theorem xts_mul255 (k : Nat) : xts 1 (255 * k) = 1 := by
  induction k with
  | zero => rfl
  | succ k ih => rw [Nat.mul_succ, xts_add, ih, xts_255]
theorem pow_xts (k n : Nat) : pow (xts 1 k) n = xts 1 (k * n) := by
  induction n with
  | zero => rfl
  | succ n ih => rw [pow, ih, xts_mul, Nat.mul_succ]
theorem mul_inv {a : UInt8} (h : a ≠ 0) : mul a (inv a) = 1 := by
  obtain ⟨k, _, rfl⟩ := is_exp h
  unfold inv
  rw [pow_xts, xts_mul, show k + k * 254 = 255 * k by omega, xts_mul255]
theorem inv_mul {a : UInt8} (h : a ≠ 0) : mul (inv a) a = 1 := by rw [mul_comm, mul_inv h]
theorem mul_cancel {a b c : UInt8} (h : a ≠ 0) (e : mul a b = mul a c) : b = c := by
  have := congrArg (mul (inv a)) e
  rwa [← mul_assoc, ← mul_assoc, inv_mul h, one_mul, one_mul] at this
theorem mul_eq_zero {a b : UInt8} : mul a b = 0 ↔ a = 0 ∨ b = 0 := by
  constructor
  · intro h
    by_cases ha : a = 0
    · exact .inl ha
    · exact .inr (mul_cancel ha (h.trans (mul_zero a).symm))
  · rintro (rfl | rfl)
    · exact zero_mul _
    · exact mul_zero _
theorem inv_ne {a : UInt8} (h : a ≠ 0) : inv a ≠ 0 := fun e => by
  have := mul_inv h
  rw [e, mul_zero] at this
  exact absurd this (by decide)
theorem inv_unique {a b : UInt8} (h : mul a b = 1) : b = inv a := by
  have ha : a ≠ 0 := fun e => by rw [e, zero_mul] at h; exact absurd h (by decide)
  exact mul_cancel ha (h.trans (mul_inv ha).symm)
theorem inv_prod {a b : UInt8} (ha : a ≠ 0) (hb : b ≠ 0) : inv (mul a b) = mul (inv a) (inv b) := by
  refine (inv_unique ?_).symm
  rw [mul_assoc, ← mul_assoc b, mul_comm b (inv a), mul_assoc (inv a), mul_inv hb, mul_one, mul_inv ha]

end Gf
end Go.Proofs.Ytfeifmcgcgmhnaa
