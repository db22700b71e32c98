/- Three statements' walks, their texts as values. The conditions are those of the walks. -/
import Derived.Test.YtlpkiaeimcoplaaLrtW
import Derived.Test.YtlpkiaeimcoplaaTruW
namespace Go.Proofs.Ytlpkiaeimcoplaa
open Go.RowKit
namespace Wire

theorem truncLaw (a : Int) (s : ByteArray) (l : List Int) (x d : List (List UInt8)) (c c2 c3 : Nat) (A A2 A3 : Option Addr) (w : World)
    (ha : -9223372036854775808 ≤ a ∧ a ≤ 9223372036854775807) (hs : s.data.toList.length ≤ 140737488355328)
    (hl : Lies w w.heap.size 1 A l.length c (l.map iv)) (hr : ∀ x ∈ l, -9223372036854775808 ≤ x ∧ x ≤ 9223372036854775807) (hn : l.length ≤ 140737488355328)
    (hx : Lies w w.heap.size 1 A2 x.length c2 (x.map sv)) (ht : ∀ y ∈ x, y.length ≤ 140737488355328)
    (hd : Lies w w.heap.size 16 A3 d.length c3 (digCells d)) (h16 : ∀ y ∈ d, y.length = 16) (hn3 : d.length ≤ 140737488355328) :
    Calls Try.prog 9 #[.int .i64 a, .string s, .slice A l.length c, .slice A2 x.length c2, .slice A3 d.length c3] w (Yes w) := by
  have h := trunc_any a s.data.toList l x d c c2 c3 A A2 A3 w ha hs hl hr hn hx ht hd h16 hn3
  rw [Array.toArray_toList] at h
  exact h
theorem encodeLaw (a : Int) (s : ByteArray) (l : List Int) (x d : List (List UInt8)) (c c2 c3 : Nat) (A A2 A3 : Option Addr) (w : World)
    (ha : -9223372036854775808 ≤ a ∧ a ≤ 9223372036854775807) (hs : s.data.toList.length ≤ 140737488355328)
    (hl : Lies w w.heap.size 1 A l.length c (l.map iv)) (hr : ∀ x ∈ l, -9223372036854775808 ≤ x ∧ x ≤ 9223372036854775807) (hn : l.length ≤ 140737488355328)
    (hx : Lies w w.heap.size 1 A2 x.length c2 (x.map sv)) (ht : x.length + total x ≤ 4611686018427387904)
    (hd : Lies w w.heap.size 16 A3 d.length c3 (digCells d)) (h16 : ∀ y ∈ d, y.length = 16) (hn3 : d.length ≤ 140737488355328) :
    Calls Try.prog 3 #[.int .i64 a, .string s, .slice A l.length c, .slice A2 x.length c2, .slice A3 d.length c3] w (Yes w) := by
  have h := encode_any a s.data.toList l x d _ c _ c2 _ c3 A A2 A3 w ha hs hl hr hn hx ht hd rfl h16 hn3
  rw [Array.toArray_toList] at h
  exact h
theorem listLaw (s : ByteArray) (l : List Int) (x d : List (List UInt8)) (ys : List UInt8) (c c2 c3 n4 c4 : Nat) (A A2 A3 A4 : Option Addr) (w : World)
    (hs : s.data.toList.length ≤ 140737488355328)
    (hl : Lies w w.heap.size 1 A l.length c (l.map iv)) (hr : ∀ x ∈ l, -9223372036854775808 ≤ x ∧ x ≤ 9223372036854775807) (hn : l.length ≤ 140737488355328)
    (hx : Lies w w.heap.size 1 A2 x.length c2 (x.map sv)) (ht : x.length + total x ≤ 4611686018427387904)
    (hd : Lies w w.heap.size 16 A3 d.length c3 (digCells d)) (h16 : ∀ y ∈ d, y.length = 16) (hn3 : d.length ≤ 140737488355328)
    (hy : Lies w w.heap.size 1 A4 n4 c4 (ys.map bv)) (hn4 : n4 ≤ 140737488355328) :
    Calls Try.prog 8 #[.string s, .slice A l.length c, .slice A2 x.length c2, .slice A3 d.length c3, .slice A4 n4 c4] w (Yes w) := by
  have h := listRound_any s.data.toList l x d ys c c2 c3 n4 c4 A A2 A3 A4 w hs hl hr hn hx ht hd h16 hn3 hy hn4
  rw [Array.toArray_toList] at h
  exact h

end Wire
end Go.Proofs.Ytlpkiaeimcoplaa
