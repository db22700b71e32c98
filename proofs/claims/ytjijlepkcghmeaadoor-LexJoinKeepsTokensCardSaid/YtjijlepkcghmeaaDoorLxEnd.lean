/- The statements' walks for texts as they come in. Conditions: as in the walks. -/
import Derived.Test.YtjijlepkcghmeaaDoorLxZ
import Derived.Test.YtjijlepkcghmeaaDoorRow
namespace Go.Proofs.YtjijlepkcghmeaaDoor
open Go.RowKit
namespace Lx
open Wire (Lies)
theorem ofData (a : ByteArray) : (⟨a.data.toList.toArray⟩ : ByteArray) = a := by
  cases a
  simp
theorem tokensB {T : World → Prop} (pk : Pkg T) (a : ByteArray) (w : World) (ht : T w) : Calls Tryd.prog 3 #[.string a] w (GivesB true w) := by
  rw [← ofData a]; exact law_tokens pk _ w ht
theorem spotB {T : World → Prop} (pk : Pkg T) (a : ByteArray) (i : Int) (h1 : -9223372036854775808 ≤ i ∧ i ≤ 9223372036854775807) (w : World) (ht : T w) : Calls Tryd.prog 4 #[.string a, .int .i64 i] w (GivesB true w) := by
  rw [← ofData a]; exact law_spot pk _ i h1.1 h1.2 w ht
theorem joinB {T : World → Prop} (pk : Pkg T) (l : List TI) (n c : Nat) (A : Option Addr) (w : World) (hl : Lies w w.heap.size 4 A n c (cellsK l)) (ht : T w) : Calls Tryd.prog 5 #[.slice A n c] w (GivesB true w) := law_join pk l n c A w hl ht
theorem lieB {T : World → Prop} (pk : Pkg T) (a : ByteArray) (w : World) (ht : T w) : Calls Tryd.prog 6 #[.string a] w (GivesB true w) := by
  rw [← ofData a]; exact law_lie pk _ w ht
theorem keepsB {T : World → Prop} (pk : Pkg T) (a : ByteArray) (w : World) (ht : T w) : Calls Tryd.prog 7 #[.string a] w (GivesB true w) := by
  rw [← ofData a]; exact law_keeps pk _ w ht
theorem gapsB {T : World → Prop} (pk : Pkg T) (a b c : ByteArray) (w : World) (ht : T w) : Calls Tryd.prog 8 #[.string a, .string b, .string c] w (GivesB true w) := by
  rw [← ofData a, ← ofData b, ← ofData c]; exact law_gaps pk _ _ _ w ht
end Lx
end Go.Proofs.YtjijlepkcghmeaaDoor
