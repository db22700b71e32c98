/- The walk of the statement that what is decoded has the consumed bytes as its encoding. -/
import Derived.Test.YtlpkiaeimcoplaaTail
import Derived.Test.YtlpkiaeimcoplaaNumD
namespace Go.Proofs.Ytlpkiaeimcoplaa
open Go.RowKit
namespace Wire

theorem decMany_dig (b : List UInt8) : ∀ (n at_ : Nat) (l : List (List UInt8)) (to : Nat), at_ + 16 * n ≤ b.length → decMany decDig b n at_ = .ok (l, to) → to = at_ + 16 * n ∧ ∀ d ∈ l, d.length = 16
  | 0, at_, l, to, _, h => by
    simp only [decMany, Except.ok.injEq, Prod.mk.injEq] at h
    obtain ⟨rfl, rfl⟩ := h
    simp
  | n + 1, at_, l, to, ha, h => by
    have hd : decDig (b.drop at_) = .ok ((b.drop at_).take 16, 16) := rfl
    simp only [decMany, hd] at h
    cases hr : decMany decDig b n (at_ + 16) with
    | error e => rw [hr] at h; cases h
    | ok q =>
      obtain ⟨vs, to'⟩ := q
      obtain ⟨h1, h2⟩ := decMany_dig b n (at_ + 16) vs to' (by omega) hr
      rw [hr] at h
      simp only [Except.ok.injEq, Prod.mk.injEq] at h
      obtain ⟨rfl, rfl⟩ := h
      refine ⟨by omega, ?_⟩
      intro d hd
      rcases List.mem_cons.1 hd with rfl | hd
      · simp; omega
      · exact h2 d hd

theorem lies_none (w : World) (B size : Nat) : Lies w B size none 0 0 [] := ⟨by simp, by omega, by unfold maxLen; omega, fun h => absurd h (by omega), fun h => absurd h (by omega)⟩
theorem Lies.first {w : World} {B n c : Nat} {A : Option Addr} {bs : List UInt8} (h : Lies w B 1 A n c (bs.map bv)) {u : Nat} (hu : u ≤ n) : Lies w B 1 A u c ((bs.take u).map bv) := by
  have hn := h.len
  simp at hn
  refine ⟨by simp; omega, by have := h.le; omega, h.most, h.some_, fun hp => ?_⟩
  obtain ⟨b, o, e, hb, hc⟩ := h.cells (by omega)
  refine ⟨b, o, e, hb, fun j v hv => hc j v ?_⟩
  rw [List.map_take, List.getElem?_take] at hv
  split at hv
  · exact hv
  · cases hv

set_option maxRecDepth 100000 in
set_option maxHeartbeats 1000000 in
theorem is_any (bs c : List UInt8) (n cap g k kc u x P : Nat) (A : Option Addr) (W : World) (hl : Lies W W.heap.size 1 A n cap (bs.map bv)) (hc : Lies W W.heap.size 1 (some ⟨g, 0, none⟩) k kc (c.map bv))
    (hb : W.cell? ⟨P, 0, none⟩ = some (.slice A n cap)) (h : Cons bs c u x) (hn : n ≤ 2000) (hx : x ≤ 10) :
    Calls Try.prog 37 #[.slice (some ⟨g, 0, none⟩) k kc, .int .i64 (u : Int), .int .i64 (x : Int), .pointer (some ⟨P, 0, none⟩)] W (Yes W) := by
  have hle := hl.le
  have hmost : cap ≤ 9223372036854775807 := by have := hl.most; unfold maxLen at this; omega
  have hbl : bs.length = n := by have := hl.len; simpa using this
  rcases h with h | ⟨rfl, h1, h2⟩
  · have hx0 : ¬ (x : Int) = 0 := by omega
    have HB := Lib.hid hbl; clear hbl
    go_enter Try.func37, Try.ntmps37
    go_wp2
    go_ret
    exact ⟨rfl, Below.refl _ _⟩
  · have hu : u ≤ n := by omega
    have hf := hl.first hu
    have cS : Calls Try.prog 13 #[.slice (some ⟨g, 0, none⟩) k kc, .slice A u cap] W (Yes W) :=
      (same_bytes _ _ _ _ _ _ _ _ _ _ hc hf).mono fun e w' hh => yes_of hh (by simp [h1]) (Below.refl _ _)
    have CS := Lib.hid cS; clear cS
    have H1 := Lib.hid h1; clear h1
    have HB := Lib.hid hbl; clear hbl
    have u0 : (0 : Int) ≤ (u : Int) := by omega
    have u3 : (u : Int) ≤ (cap : Int) := by omega
    clear h2
    rcases Nat.eq_zero_or_pos u with h0 | h0
    · subst h0
      rcases Nat.eq_zero_or_pos n with h3 | h3
      · subst h3
        go_enter Try.func37, Try.ntmps37
        go_wp2_with (go_at_call 13; (with_reducible refine CS.out.mono ?_); rintro e w1 ⟨rfl, hb1⟩)
        go_ret
        exact ⟨rfl, hb1⟩
      · have u1 : (0 : Int) < (n : Int) := by omega
        go_enter Try.func37, Try.ntmps37
        go_wp2_with (go_at_call 13; (with_reducible refine CS.out.mono ?_); rintro e w1 ⟨rfl, hb1⟩)
        go_ret
        exact ⟨rfl, hb1⟩
    · have u2 : (0 : Int) < (u : Int) := by omega
      rcases Nat.lt_or_ge u n with hlt | hge
      · have u1 : (u : Int) < (n : Int) := by omega
        go_enter Try.func37, Try.ntmps37
        go_wp2_with (go_at_call 13; (with_reducible refine CS.out.mono ?_); rintro e w1 ⟨rfl, hb1⟩)
        go_ret
        exact ⟨rfl, hb1⟩
      · obtain rfl : u = n := by omega
        go_enter Try.func37, Try.ntmps37
        go_wp2_with (go_at_call 13; (with_reducible refine CS.out.mono ?_); rintro e w1 ⟨rfl, hb1⟩)
        go_ret
        exact ⟨rfl, hb1⟩

end Wire
end Go.Proofs.Ytlpkiaeimcoplaa
