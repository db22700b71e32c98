/- The reference of package field: Same. Condition: the slices read as lists. -/
import Derived.Test.YtfeifmcgcgmhnaaFRefD
import Derived.Test.YtfeifmcgcgmhnaaQTail
import Derived.Test.YtfeifmcgcgmhnaaWUtil
import Derived.Lib.ConvBytes
namespace Go.Proofs.Ytfeifmcgcgmhnaa
open Go.RowKit
namespace Gf
open Wire (Lies bv)

theorem conv_none (W : World) : (convert 30 9 (.slice none 0 0)).run Try.prog W = .ok (.string ⟨#[]⟩) W := by kernel_rfl
theorem conv_some (W : World) (p : Addr) (c : Nat) : (convert 30 9 (.slice (some p) 0 c)).run Try.prog W = .ok (.string ⟨#[]⟩) W := by kernel_rfl
theorem conv_lies {W : World} {B n c : Nat} {A : Option Addr} {l : List UInt8} (h : Lies W B 1 A n c (l.map bv)) :
    (convert 30 9 (.slice A n c)).run Try.prog W = .ok (.string ⟨l.toArray⟩) W := by
  have hn : l.length = n := by have := h.len; simpa using this
  cases A with
  | none =>
    have hc : c = 0 := by
      rcases Nat.eq_zero_or_pos c with h0 | h0
      · exact h0
      · obtain ⟨b, o, e⟩ := h.some_ h0; cases e
    have hle := h.le
    have hn0 : n = 0 := by omega
    subst hc hn0
    obtain rfl := List.eq_nil_of_length_eq_zero hn
    exact conv_none W
  | some p =>
    rcases Nat.eq_zero_or_pos n with h0 | h0
    · subst h0
      obtain rfl := List.eq_nil_of_length_eq_zero hn
      exact conv_some W p c
    · obtain ⟨b, o, e, -, hc⟩ := h.cells h0
      cases e
      have := run_convert_bytes_arg (P := Try.prog) (w := W) 30 5 Try.underlying30 Try.underlying5 b o n c (l.map fun c => (c.toNat : Int)) (by simpa using hn) ?_ 9 Try.underlying9
      · rw [this, Wire.strOf]; rfl
      · intro i hi
        have hx : l[i]? = some (l[i]'(by omega)) := List.getElem?_eq_getElem _
        rw [hc i (bv (l[i]'(by omega))) (by rw [List.getElem?_map, hx]; rfl)]
        simp [List.getD, hx, bv]

set_option maxRecDepth 100000 in
set_option maxHeartbeats 1000000 in
theorem refSame_any (a b : List UInt8) (n c m d : Nat) (A B : Option Addr) (w : World) (ha : Lies w w.heap.size 1 A n c (a.map bv)) (hb : Lies w w.heap.size 1 B m d (b.map bv)) :
    Calls Try.prog 25 #[.slice A n c, .slice B m d] w (Tells (decide (a = b)) w) := by
  have ca := conv_lies ha
  have cb := conv_lies hb
  clear ha hb
  go_enter Try.func25, Try.ntmps25
  go_wp2
  rw [show (a == b) = decide (a = b) by rw [Bool.eq_iff_iff]; simp]
  go_ret
  exact ⟨rfl, Below.refl _ _⟩
end Gf
end Go.Proofs.Ytfeifmcgcgmhnaa
