/- What wire.length returns. Condition: the slice's cells are bytes and lie where they are said to lie; the size is 1 to 16. -/
import Derived.Test.YtlpkiaeimcoplaaGet
namespace Go.Proofs.Ytlpkiaeimcoplaa
open Go.RowKit
namespace Wire

theorem get_ok {bs : List UInt8} {n c : Nat} {A : Option Addr} {w : World} {B : Nat} {v : Int} {u : Nat} (hl : Lies w B 1 A n c (bs.map bv)) (h : dec bs = .ok (v, u)) :
    Calls Try.prog 24 #[.slice A n c] w fun e w' => e = .returned (.tuple #[.int .i64 v, .int .i64 (u : Int), .int .i64 0]) ∧ w = w' :=
  (get_any bs n c A w B hl).mono fun _ _ ⟨he, hw⟩ => ⟨by rw [he, h]; rfl, hw⟩
theorem get_err {bs : List UInt8} {n c : Nat} {A : Option Addr} {w : World} {B : Nat} {x : Nat} (hl : Lies w B 1 A n c (bs.map bv)) (h : dec bs = .error x) :
    Calls Try.prog 24 #[.slice A n c] w fun e w' => e = .returned (.tuple #[.int .i64 0, .int .i64 0, .int .i64 (x : Int)]) ∧ w = w' :=
  (get_any bs n c A w B hl).mono fun _ _ ⟨he, hw⟩ => ⟨by rw [he, h]; rfl, hw⟩

set_option maxRecDepth 100000 in
set_option maxHeartbeats 400000 in
theorem len_any (bs : List UInt8) (n c : Nat) (A : Option Addr) (w : World) (B size : Nat) (hl : Lies w B 1 A n c (bs.map bv)) (hs : 1 ≤ size ∧ size ≤ 16) :
    Calls Try.prog 38 #[.slice A n c, .int .i64 (size : Int)] w (Got w (declen size bs)) := by
  have hmost : c ≤ 9223372036854775807 := by have := hl.most; unfold maxLen at this; omega
  have hle := hl.le
  have hbl : bs.length = n := by have := hl.len; simpa using this
  obtain ⟨hs1, hs2⟩ := hs
  cases hd : dec bs with
  | error x =>
    have hx := dec_err hd
    have hx0 : ¬ (x : Int) = 0 := by omega
    have hr : declen size bs = .error x := by unfold declen; rw [hd]
    have HD := Lib.hid hd; clear hd
    have HR := Lib.hid hr; clear hr
    have HX := Lib.hid hx; clear hx
    have HB := Lib.hid hbl; clear hbl
    go_enter Try.func38, Try.ntmps38
    go_wp2_with (go_at_call 24; refine (get_err hl HD.out).mono ?_; rintro e w' ⟨rfl, rfl⟩)
    go_ret3
    exact ⟨by rw [HR.out]; rfl, rfl⟩
  | ok p =>
    obtain ⟨v, u⟩ := p
    have hu := dec_used hd
    have hu2 : u ≤ n := by omega
    have hv := (dec_ok hd).2.2
    have HD := Lib.hid hd
    have HB := Lib.hid hbl; clear hbl
    by_cases hv0 : v < 0
    · have hr : declen size bs = .error 6 := by unfold declen; rw [hd]; simp only; rw [if_pos hv0]
      have HR := Lib.hid hr; clear hr hd
      go_enter Try.func38, Try.ntmps38
      go_wp2_with (go_at_call 24; refine (get_ok hl HD.out).mono ?_; rintro e w' ⟨rfl, rfl⟩)
      go_ret3
      exact ⟨by rw [HR.out]; rfl, rfl⟩
    · by_cases hq : ((n - u) / size : Nat) < v
      · have hr : declen size bs = .error 5 := by unfold declen; rw [hd]; simp only; rw [if_neg hv0, HB.out, if_pos hq]
        have HR := Lib.hid hr; clear hr hd
        have hq2 : ((n : Int) - u) / size < v := by
          have e : ((n : Int) - u) / size = (((n - u) / size : Nat) : Int) := by rw [Int.natCast_ediv]; congr 1; omega
          rw [e]; exact hq
        clear hq
        go_enter Try.func38, Try.ntmps38
        go_wp2_with (go_at_call 24; refine (get_ok hl HD.out).mono ?_; rintro e w' ⟨rfl, rfl⟩)
        go_ret3
        exact ⟨by rw [HR.out]; rfl, rfl⟩
      · have hr : declen size bs = .ok (v, u) := by unfold declen; rw [hd]; simp only; rw [if_neg hv0, HB.out, if_neg hq]
        have HR := Lib.hid hr; clear hr hd
        have hq2 : ¬ ((n : Int) - u) / size < v := by
          have e : ((n : Int) - u) / size = (((n - u) / size : Nat) : Int) := by rw [Int.natCast_ediv]; congr 1; omega
          rw [e]; exact hq
        clear hq
        go_enter Try.func38, Try.ntmps38
        go_wp2_with (go_at_call 24; refine (get_ok hl HD.out).mono ?_; rintro e w' ⟨rfl, rfl⟩)
        go_ret3
        exact ⟨by rw [HR.out]; rfl, rfl⟩

end Wire
end Go.Proofs.Ytlpkiaeimcoplaa
