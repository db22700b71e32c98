/- What wire.GetBytes returns. Condition: the slice's cells are bytes and lie where they are said to lie. -/
import Derived.Test.YtlpkiaeimcoplaaLen
namespace Go.Proofs.Ytlpkiaeimcoplaa
open Go.RowKit
namespace Wire

theorem len_ok {bs : List UInt8} {n c size : Nat} {A : Option Addr} {w : World} {B : Nat} {v : Int} {u : Nat} (hl : Lies w B 1 A n c (bs.map bv)) (hs : 1 ≤ size ∧ size ≤ 16) (h : declen size bs = .ok (v, u)) :
    Calls Try.prog 38 #[.slice A n c, .int .i64 (size : Int)] w fun e w' => e = .returned (.tuple #[.int .i64 v, .int .i64 (u : Int), .int .i64 0]) ∧ w = w' :=
  (len_any bs n c A w B size hl hs).mono fun _ _ ⟨he, hw⟩ => ⟨by rw [he, h]; rfl, hw⟩
theorem len_err {bs : List UInt8} {n c size : Nat} {A : Option Addr} {w : World} {B : Nat} {x : Nat} (hl : Lies w B 1 A n c (bs.map bv)) (hs : 1 ≤ size ∧ size ≤ 16) (h : declen size bs = .error x) :
    Calls Try.prog 38 #[.slice A n c, .int .i64 (size : Int)] w fun e w' => e = .returned (.tuple #[.int .i64 0, .int .i64 0, .int .i64 (x : Int)]) ∧ w = w' :=
  (len_any bs n c A w B size hl hs).mono fun _ _ ⟨he, hw⟩ => ⟨by rw [he, h]; rfl, hw⟩

/-- Three results: a text, how many bytes it takes, the error's number. -/
def resS (r : Except Nat (List UInt8 × Nat)) : Value :=
  match r with
  | .ok (l, u) => .tuple #[sv l, .int .i64 (u : Int), .int .i64 0]
  | .error e => .tuple #[sv [], .int .i64 0, .int .i64 (e : Int)]
def GotS (w : World) (r : Except Nat (List UInt8 × Nat)) (e : Ending) (w' : World) : Prop := e = .returned (resS r) ∧ w = w'

set_option maxRecDepth 100000 in
set_option maxHeartbeats 400000 in
theorem str_any (bs : List UInt8) (n c : Nat) (A : Option Addr) (w : World) (B : Nat) (hl : Lies w B 1 A n c (bs.map bv)) :
    Calls Try.prog 26 #[.slice A n c] w (GotS w (decStr bs)) := by
  have hmost : c ≤ 9223372036854775807 := by have := hl.most; unfold maxLen at this; omega
  have hle := hl.le
  have hbl : bs.length = n := by have := hl.len; simpa using this
  cases hd : declen 1 bs with
  | error x =>
    have hx := declen_err hd
    have hx0 : ¬ (x : Int) = 0 := by omega
    have hr : decStr bs = .error x := by unfold decStr; rw [hd]
    have hcl := len_err hl (size := 1) (by omega) hd
    have HC := Lib.hid hcl; clear hcl hd
    have HR := Lib.hid hr; clear hr
    have HX := Lib.hid hx; clear hx
    have HB := Lib.hid hbl; clear hbl
    go_enter Try.func26, Try.ntmps26
    go_wp2_with (go_at_call 38; refine HC.out.mono ?_; rintro e w' ⟨rfl, rfl⟩)
    go_ret3
    exact ⟨by rw [HR.out]; rfl, rfl⟩
  | ok p =>
    obtain ⟨v, u⟩ := p
    obtain ⟨hd1, hv0, hv1⟩ := declen_ok hd
    have hu := dec_used hd1
    obtain ⟨k, rfl⟩ : ∃ k : Nat, v = k := ⟨v.toNat, by omega⟩
    have hk : u + k ≤ n := by simp at hv1; omega
    have hu1 := hu.1
    have hr : decStr bs = .ok ((bs.drop u).take k, u + k) := by unfold decStr; rw [hd]; simp
    have hcl := len_ok hl (size := 1) (by omega) hd
    obtain ⟨b, o, rfl, -, -⟩ := hl.cells (by omega)
    have hcv : ∀ o', (k = 0 ∨ o' = o + u) → ∀ cc, (convert 28 9 (.slice (some ⟨b, o', none⟩) k cc)).run Try.prog w = .ok (sv ((bs.drop u).take k)) w := by
      intro o' ho cc
      have := run_convert_bytes_arg (P := Try.prog) (w := w) 28 5 Try.underlying28 Try.underlying5 b o' k cc (((bs.drop u).take k).map fun c => (c.toNat : Int)) (by simp; omega) ?_ 9 Try.underlying9
      · rw [this, strOf]
      · intro i hi
        rcases ho with rfl | rfl
        · omega
        · have hx : bs[u + i]? = some (bs[u + i]'(by omega)) := List.getElem?_eq_getElem _
          have hc := hl.cell rfl (u + i) _ hx
          rw [show o + u + i = o + (u + i) by omega, hc]
          simp [List.getD, List.getElem?_drop, hi, hx]
    have HC := Lib.hid hcl; clear hcl hd
    have HR := Lib.hid hr; clear hr
    have HD := Lib.hid hd1; clear hd1 hv1 hv0
    have HU := Lib.hid hu; clear hu
    have HB := Lib.hid hbl; clear hbl
    by_cases hcu : c = u
    · subst hcu
      obtain rfl : k = 0 := by omega
      have hcv2 := hcv o (.inl rfl)
      clear hcv
      go_enter Try.func26, Try.ntmps26
      go_wp2_with (go_at_call 38; refine HC.out.mono ?_; rintro e w' ⟨rfl, rfl⟩)
      go_ret3
      exact ⟨by rw [HR.out]; rfl, rfl⟩
    · have hcu2 : ¬ (c : Int) = u := by omega
      have hcv2 := hcv (o + u) (.inr rfl)
      clear hcv
      go_enter Try.func26, Try.ntmps26
      go_wp2_with (go_at_call 38; refine HC.out.mono ?_; rintro e w' ⟨rfl, rfl⟩)
      go_ret3
      exact ⟨by rw [HR.out]; rfl, rfl⟩

end Wire
end Go.Proofs.Ytlpkiaeimcoplaa
