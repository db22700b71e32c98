/- The closure of wire.list that decodes one element. Condition: what it has captured reads as said. -/
import Derived.Test.YtlpkiaeimcoplaaStr
import Derived.Deep.RegionWith
namespace Go.Proofs.Ytlpkiaeimcoplaa
open Go.RowKit
namespace Wire

/-- Two results, an element and an error's number; the place moves on. -/
def Clo (w : World) (p2 : Nat) (v : Value) (x : Nat) (to : Nat) (e : Ending) (w' : World) : Prop :=
  e = .returned (.tuple #[v, .int .i64 (x : Int)]) ∧ w' = (w.setCell ⟨p2, 0, none⟩ (.int .i64 (to : Int))).drew

theorem str_ok {bs : List UInt8} {n c : Nat} {A : Option Addr} {w : World} {B : Nat} {v : List UInt8} {u : Nat} (hl : Lies w B 1 A n c (bs.map bv)) (h : decStr bs = .ok (v, u)) :
    Calls Try.prog 26 #[.slice A n c] w fun e w' => e = .returned (.tuple #[sv v, .int .i64 (u : Int), .int .i64 0]) ∧ w = w' :=
  (str_any bs n c A w B hl).mono fun _ _ ⟨he, hw⟩ => ⟨by rw [he, h]; rfl, hw⟩
theorem str_err {bs : List UInt8} {n c : Nat} {A : Option Addr} {w : World} {B : Nat} {x : Nat} (hl : Lies w B 1 A n c (bs.map bv)) (h : decStr bs = .error x) :
    Calls Try.prog 26 #[.slice A n c] w fun e w' => e = .returned (.tuple #[sv [], .int .i64 0, .int .i64 (x : Int)]) ∧ w = w' :=
  (str_any bs n c A w B hl).mono fun _ _ ⟨he, hw⟩ => ⟨by rw [he, h]; rfl, hw⟩

set_option maxRecDepth 100000 in
set_option maxHeartbeats 1000000 in
theorem clo_int_ok (bs : List UInt8) (n c : Nat) (A : Option Addr) (w : World) (B : Nat) (hl : Lies w B 1 A n c (bs.map bv)) (p0 p1 p2 at_ : Nat)
    (h0 : w.cell? ⟨p0, 0, none⟩ = some (.func (.func 24) #[] #[])) (h1 : w.cell? ⟨p1, 0, none⟩ = some (.slice A n c)) (h2 : w.cell? ⟨p2, 0, none⟩ = some (.int .i64 (at_ : Int)))
    (hf : w.frozen? ⟨p2, 0, none⟩ = false) (hat : at_ ≤ n) (v : Int) (u : Nat) (hd : dec (bs.drop at_) = .ok (v, u)) (hu1 : 1 ≤ u) (hu2 : at_ + u ≤ n) :
    Calls Try.prog 44 #[.pointer (some ⟨p0, 0, none⟩), .pointer (some ⟨p1, 0, none⟩), .pointer (some ⟨p2, 0, none⟩)] w (Clo w p2 (iv v) 0 (at_ + u)) := by
  have hmost : c ≤ 9223372036854775807 := by have := hl.most; unfold maxLen at this; omega
  have hle := hl.le
  have hlt : at_ < n := by omega
  have hne : ¬ c = at_ := by omega
  have hne2 : ¬ (c : Int) = at_ := by omega
  obtain ⟨b, o, rfl, -, -⟩ := hl.cells (by omega)
  have hl2 := hl.drop hat
  have hl3 : Lies w.drew B 1 (some ⟨b, o + at_, none⟩) (n - at_) (c - at_) ((bs.drop at_).map bv) := hl2.keep fun _ _ => rfl
  have HD := Lib.hid hd; clear hd
  go_enter Try.func44, Try.ntmps44
  go_wp2
  go_region_with (go_at_call 24; refine (get_ok hl3 HD.out).mono ?_; rintro e w' ⟨rfl, rfl⟩)
  all_goals
    go_wp2
    go_ret2
    exact ⟨rfl, rfl⟩

set_option maxRecDepth 100000 in
set_option maxHeartbeats 1000000 in
theorem clo_int_err (bs : List UInt8) (n c : Nat) (A : Option Addr) (w : World) (B : Nat) (hl : Lies w B 1 A n c (bs.map bv)) (p0 p1 p2 at_ : Nat)
    (h0 : w.cell? ⟨p0, 0, none⟩ = some (.func (.func 24) #[] #[])) (h1 : w.cell? ⟨p1, 0, none⟩ = some (.slice A n c)) (h2 : w.cell? ⟨p2, 0, none⟩ = some (.int .i64 (at_ : Int)))
    (hf : w.frozen? ⟨p2, 0, none⟩ = false) (hat : at_ ≤ n) (x : Nat) (hd : dec (bs.drop at_) = .error x) :
    Calls Try.prog 44 #[.pointer (some ⟨p0, 0, none⟩), .pointer (some ⟨p1, 0, none⟩), .pointer (some ⟨p2, 0, none⟩)] w (Clo w p2 (iv 0) x at_) := by
  have hmost : c ≤ 9223372036854775807 := by have := hl.most; unfold maxLen at this; omega
  have hle := hl.le
  by_cases hc : c = at_
  · subst hc
    obtain rfl : n = c := by omega
    have hdn : bs.drop n = [] := List.drop_eq_nil_of_le (by have := hl.len; simp at this; omega)
    rw [hdn] at hd
    have HD := Lib.hid hd; clear hd hdn
    have hl3 := lies_empty w.drew B A
    have hl4 : ∀ a, Lies w.drew B 1 a 0 0 (([] : List UInt8).map bv) := lies_empty w.drew B
    go_enter Try.func44, Try.ntmps44
    go_wp2
    go_region_with (go_at_call 24; refine (get_err (hl4 _) HD.out).mono ?_; rintro e w' ⟨rfl, rfl⟩)
    all_goals
      go_wp2
      go_ret2
      exact ⟨rfl, rfl⟩
  · have hne2 : ¬ (c : Int) = at_ := by omega
    obtain ⟨b, o, rfl⟩ := hl.some_ (by omega)
    have hl2 := hl.drop hat
    have hl3 : Lies w.drew B 1 (some ⟨b, o + at_, none⟩) (n - at_) (c - at_) ((bs.drop at_).map bv) := hl2.keep fun _ _ => rfl
    have HD := Lib.hid hd; clear hd
    go_enter Try.func44, Try.ntmps44
    go_wp2
    go_region_with (go_at_call 24; refine (get_err hl3 HD.out).mono ?_; rintro e w' ⟨rfl, rfl⟩)
    all_goals
      go_wp2
      go_ret2
      exact ⟨rfl, rfl⟩

set_option maxRecDepth 100000 in
set_option maxHeartbeats 1000000 in
theorem clo_str_ok (bs : List UInt8) (n c : Nat) (A : Option Addr) (w : World) (B : Nat) (hl : Lies w B 1 A n c (bs.map bv)) (p0 p1 p2 at_ : Nat)
    (h0 : w.cell? ⟨p0, 0, none⟩ = some (.func (.func 26) #[] #[])) (h1 : w.cell? ⟨p1, 0, none⟩ = some (.slice A n c)) (h2 : w.cell? ⟨p2, 0, none⟩ = some (.int .i64 (at_ : Int)))
    (hf : w.frozen? ⟨p2, 0, none⟩ = false) (hat : at_ ≤ n) (v : List UInt8) (u : Nat) (hd : decStr (bs.drop at_) = .ok (v, u)) (hu1 : 1 ≤ u) (hu2 : at_ + u ≤ n) :
    Calls Try.prog 45 #[.pointer (some ⟨p0, 0, none⟩), .pointer (some ⟨p1, 0, none⟩), .pointer (some ⟨p2, 0, none⟩)] w (Clo w p2 (sv v) 0 (at_ + u)) := by
  have hmost : c ≤ 9223372036854775807 := by have := hl.most; unfold maxLen at this; omega
  have hle := hl.le
  have hlt : at_ < n := by omega
  have hne : ¬ c = at_ := by omega
  have hne2 : ¬ (c : Int) = at_ := by omega
  obtain ⟨b, o, rfl, -, -⟩ := hl.cells (by omega)
  have hl2 := hl.drop hat
  have hl3 : Lies w.drew B 1 (some ⟨b, o + at_, none⟩) (n - at_) (c - at_) ((bs.drop at_).map bv) := hl2.keep fun _ _ => rfl
  have HD := Lib.hid hd; clear hd
  go_enter Try.func45, Try.ntmps45
  go_wp2
  go_region_with (go_at_call 26; refine (str_ok hl3 HD.out).mono ?_; rintro e w' ⟨rfl, rfl⟩)
  all_goals
    go_wp2
    go_ret2
    exact ⟨rfl, rfl⟩

set_option maxRecDepth 100000 in
set_option maxHeartbeats 1000000 in
theorem clo_str_err (bs : List UInt8) (n c : Nat) (A : Option Addr) (w : World) (B : Nat) (hl : Lies w B 1 A n c (bs.map bv)) (p0 p1 p2 at_ : Nat)
    (h0 : w.cell? ⟨p0, 0, none⟩ = some (.func (.func 26) #[] #[])) (h1 : w.cell? ⟨p1, 0, none⟩ = some (.slice A n c)) (h2 : w.cell? ⟨p2, 0, none⟩ = some (.int .i64 (at_ : Int)))
    (hf : w.frozen? ⟨p2, 0, none⟩ = false) (hat : at_ ≤ n) (x : Nat) (hd : decStr (bs.drop at_) = .error x) :
    Calls Try.prog 45 #[.pointer (some ⟨p0, 0, none⟩), .pointer (some ⟨p1, 0, none⟩), .pointer (some ⟨p2, 0, none⟩)] w (Clo w p2 (sv []) x at_) := by
  have hmost : c ≤ 9223372036854775807 := by have := hl.most; unfold maxLen at this; omega
  have hle := hl.le
  by_cases hc : c = at_
  · subst hc
    obtain rfl : n = c := by omega
    have hdn : bs.drop n = [] := List.drop_eq_nil_of_le (by have := hl.len; simp at this; omega)
    rw [hdn] at hd
    have HD := Lib.hid hd; clear hd hdn
    have hl3 := lies_empty w.drew B A
    have hl4 : ∀ a, Lies w.drew B 1 a 0 0 (([] : List UInt8).map bv) := lies_empty w.drew B
    go_enter Try.func45, Try.ntmps45
    go_wp2
    go_region_with (go_at_call 26; refine (str_err (hl4 _) HD.out).mono ?_; rintro e w' ⟨rfl, rfl⟩)
    all_goals
      go_wp2
      go_ret2
      exact ⟨rfl, rfl⟩
  · have hne2 : ¬ (c : Int) = at_ := by omega
    obtain ⟨b, o, rfl⟩ := hl.some_ (by omega)
    have hl2 := hl.drop hat
    have hl3 : Lies w.drew B 1 (some ⟨b, o + at_, none⟩) (n - at_) (c - at_) ((bs.drop at_).map bv) := hl2.keep fun _ _ => rfl
    have HD := Lib.hid hd; clear hd
    go_enter Try.func45, Try.ntmps45
    go_wp2
    go_region_with (go_at_call 26; refine (str_err hl3 HD.out).mono ?_; rintro e w' ⟨rfl, rfl⟩)
    all_goals
      go_wp2
      go_ret2
      exact ⟨rfl, rfl⟩

end Wire
end Go.Proofs.Ytlpkiaeimcoplaa
