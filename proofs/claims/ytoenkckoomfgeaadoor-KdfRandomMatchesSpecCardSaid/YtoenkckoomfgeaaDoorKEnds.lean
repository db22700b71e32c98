/- The statements on kdf at values: texts and numbers as they come in. Conditions: as each walk says; the package's contracts are a hypothesis here. -/
import Derived.Test.YtoenkckoomfgeaaDoorKSep
import Derived.Test.YtoenkckoomfgeaaDoorKNext
namespace Go.Proofs.YtoenkckoomfgeaaDoor
open Go.RowKit
namespace Kdf
open Hash (Table)
open Wire (Lies sv)

theorem ofData (a : ByteArray) : (⟨a.data.toList.toArray⟩ : ByteArray) = a := ByteArray.ext rfl
theorem u8_nat {x : Int} (h : (Lit.int .u8 x).wf = true) : ∃ n : Nat, x = (n : Int) ∧ n < 256 := by
  have hr : 0 ≤ x ∧ x ≤ 255 := by simpa [Lit.wf, IntKind.min, IntKind.max, IntKind.signed, IntKind.bits] using h
  exact ⟨x.toNat, by omega, by omega⟩
theorem t2_of {W : World} (h : Table 0 W ∧ Table 1 W) : T2 W W := ⟨h.2, h.1, Below.refl _ _⟩
theorem t1_of {W : World} (h : Table 1 W) : T1 W W := ⟨h, Below.refl _ _⟩
theorem deriveLawB (P : Pkg) (a b : ByteArray) (l : List (List UInt8)) (n c : Nat) (A : Option Addr) (w : World) (hl : Lies w w.heap.size 1 A n c (l.map sv)) (ha : a.data.toList.length ≤ 140737488355328) (hb : b.data.toList.length ≤ 140737488355328) (h : T2 w w) :
    Calls Tryd.prog 3 #[.string a, .string b, .slice A n c] w (Yes w) := by
  have := deriveLaw P a.data.toList b.data.toList l n c A w hl ha hb h
  rwa [ofData, ofData] at this
theorem pathLawB (P : Pkg) (a : ByteArray) (l : List (List UInt8)) (t : Int) (n c : Nat) (A : Option Addr) (w : World) (hl : Lies w w.heap.size 1 A n c (l.map sv)) (ha : a.data.toList.length ≤ 140737488355328) (ht : (Lit.int .u8 t).wf = true) (h : T2 w w) :
    Calls Tryd.prog 4 #[.string a, .slice A n c, .int .u8 t] w (Yes w) := by
  obtain ⟨k, rfl, hk⟩ := u8_nat ht
  have := pathLaw P a.data.toList l k n c A w hl ha hk h
  rwa [ofData] at this
theorem sepLawB (P : Pkg) (a : ByteArray) (l m : List (List UInt8)) (n c n2 c2 : Nat) (A B : Option Addr) (w : World) (hl : Lies w w.heap.size 1 A n c (l.map sv)) (hm : Lies w w.heap.size 1 B n2 c2 (m.map sv)) (ha : a.data.toList.length ≤ 140737488355328) (h : T2 w w) :
    Calls Tryd.prog 5 #[.string a, .slice A n c, .slice B n2 c2] w (Yes w) := by
  have := sepLaw P a.data.toList l m n c n2 c2 A B w hl hm ha h
  rwa [ofData] at this
theorem randLawB (P : Pkg) (a : ByteArray) (n : Int) (w : World) (ha : a.data.toList.length ≤ 140737488355328) (h : T2 w w) :
    Calls Tryd.prog 6 #[.string a, .int .i64 n] w (Yes w) := by
  have := randLaw P a.data.toList n w ha h
  rwa [ofData] at this
theorem partsLawB (P : Pkg) (a : ByteArray) (t n : Int) (w : World) (ha : a.data.toList.length ≤ 140737488355328) (ht : (Lit.int .u8 t).wf = true) (hn : (Lit.int .u8 n).wf = true) (h : T1 w w) :
    Calls Tryd.prog 7 #[.string a, .int .u8 t, .int .u8 n] w (Yes w) := by
  obtain ⟨k, rfl, hk⟩ := u8_nat ht
  obtain ⟨j, rfl, hj⟩ := u8_nat hn
  have := partsLaw P a.data.toList k j w ha hk hj h
  rwa [ofData] at this
theorem nextLawB (P : Pkg) (a : ByteArray) (t : Int) (w : World) (ha : a.data.toList.length ≤ 140737488355328) (ht : (Lit.int .u8 t).wf = true) (h : T1 w w) :
    Calls Tryd.prog 8 #[.string a, .int .u8 t] w (Yes w) := by
  obtain ⟨k, rfl, hk⟩ := u8_nat ht
  have := nextLaw P a.data.toList k w ha hk h
  rwa [ofData] at this

end Kdf
end Go.Proofs.YtoenkckoomfgeaaDoor
