/- Small words that the walks over package hash share: conversions, sizes, what is told. No condition but lengths. -/
import Derived.Test.YthpkeaafgabjiaaDoorM4
import Derived.Test.YthpkeaafgabjiaaDoorZInt
import Derived.Test.YthpkeaafgabjiaaDoorZRow
import Derived.Lib.ConvBytes
import Derived.Laws.AppendOwn
import Derived.Stop.BytesEq
namespace Go.Proofs.YthpkeaafgabjiaaDoor
open Go.RowKit
namespace Hash
open Wire (bv Lies sv)
def YesH (W : World) (e : Ending) (w' : World) : Prop := e = .returned (.bool true) ∧ Below W.heap.size W w'
theorem tells_yes {W : World} {b : Bool} {e : Ending} {w' : World} (h : Tells b W e w') : e = .returned (.bool b) ∧ Below W.heap.size W w' := by
  obtain ⟨h1, k, rfl⟩ := h
  exact ⟨h1, ⟨rfl, rfl, rfl, Nat.le_refl _, fun _ _ => rfl⟩⟩
theorem belowD (W : World) : Below W.heap.size W W.drew := ⟨rfl, rfl, rfl, Nat.le_refl _, fun _ _ => rfl⟩
theorem onA {W W2 : World} {g n : Nat} {xs : List Value} (h : Arr W g n xs) (hb : Below W.heap.size W W2) (hn : 0 < n) : Arr W2 g n xs := h.below hb (h.size hn)
theorem byteSz (w : World) : (sizeOf 5).run Tryd.prog w = .ok 1 w := by kernel_rfl
theorem eqA (A : List UInt8) (hA : A.length = 32) (W : World) : (Op.equalIn 10000 84 (.agg (A.map Wire.bv).toArray) (.agg (A.map Wire.bv).toArray)).run Tryd.prog W = .ok true W := by
  have h := run_equalIn_bytes W 9998 84 5 32 und32 Tryd.underlying5 byteSz A A hA hA
  rwa [show (A == A) = true by simp] at h
theorem convO {w : World} {base g n c : Nat} {l : List UInt8} (h : w.ownsRow base 5 1 (.slice (some ⟨g, 0, none⟩) n c) n (l.map bv)) (hn : l.length = n) :
    (convert 38 9 (.slice (some ⟨g, 0, none⟩) n c)).run Tryd.prog w = .ok (.string ⟨l.toArray⟩) w := by
  have := run_convert_bytes_arg (P := Tryd.prog) (w := w) 38 5 Tryd.underlying38 Tryd.underlying5 g 0 n c (l.map fun c => (c.toNat : Int)) (by simpa using hn) ?_ 9 Tryd.underlying9
  · rw [this, Wire.strOf]; rfl
  · intro i hi
    have hx : l[i]? = some (l[i]'(by omega)) := List.getElem?_eq_getElem _
    rw [Nat.zero_add, h.cellAt i (by omega), List.getElem?_map, hx]
    simp [List.getD, hx, bv]
theorem convZ (w : World) : (convert 38 9 (.slice none 0 0)).run Tryd.prog w = .ok (.string ⟨#[]⟩) w := by kernel_rfl
theorem sizeS (a : List UInt8) : (⟨a.toArray⟩ : ByteArray).size = a.length := by simp [ByteArray.size]
theorem appNil (a : List UInt8) : (⟨a.toArray⟩ : ByteArray) ++ (⟨#[]⟩ : ByteArray) = ⟨a.toArray⟩ := by
  apply ByteArray.ext
  simp
theorem convKey (key : List UInt8) (W : World) : (convert 9 38 (.string ⟨key.toArray⟩)).run Tryd.prog W = .ok (.slice (some ⟨W.heap.size, 0, none⟩) key.length (grownCap W key.length 0 5)) (Lib.bytesWorld W 5 ⟨key.toArray⟩) :=
  Lib.run_convert_string_bytes (P := Tryd.prog) W 9 38 5 ⟨key.toArray⟩ (u := .string) Tryd.underlying9 Tryd.underlying38 Tryd.underlying5
theorem convKey_lies (key : List UInt8) (hk : key.length ≤ 9223372036854775807) (W : World) : Wire.Lies (Lib.bytesWorld W 5 ⟨key.toArray⟩) (Lib.bytesWorld W 5 ⟨key.toArray⟩).heap.size 1 (some ⟨W.heap.size, 0, none⟩) key.length (grownCap W key.length 0 5) (key.map Wire.bv) where
  len := by simp
  le := grownCap_ge _ _ _ _
  most := grownCap_le_maxLen _ _ _ _ (by unfold maxLen; omega)
  some_ := fun _ => ⟨_, _, rfl⟩
  cells := fun _ => ⟨_, _, rfl, by rw [Lib.bytesWorld_size]; omega, fun j u hu => by
    have hj : j < key.length := by
      have := (List.getElem?_eq_some_iff.1 hu).1
      simpa using this
    rw [Nat.zero_add, Lib.bytesWorld_cell W 5 ⟨key.toArray⟩ j (by rw [sizeS]; exact hj)]
    simp [hj] at hu
    simp [List.getD, hj, ← hu, Wire.bv]⟩
theorem bytesB (W : World) (key : List UInt8) : Below W.heap.size W (Lib.bytesWorld W 5 ⟨key.toArray⟩) :=
  ⟨rfl, rfl, rfl, by rw [Lib.bytesWorld_size]; omega, fun k hk => Lib.bytesWorld_at_old W 5 ⟨key.toArray⟩ k hk⟩
theorem conv_none (w : World) (A : Option Addr) (c : Nat) : (convert 38 9 (.slice A 0 c)).run Tryd.prog w = .ok (.string ⟨#[]⟩) w := by
  cases A with
  | none => kernel_rfl
  | some a => kernel_rfl
theorem convL {w : World} {A : Option Addr} {n c : Nat} {l : List UInt8} (h : Lies w w.heap.size 1 A n c (l.map Wire.bv)) : (convert 38 9 (.slice A n c)).run Tryd.prog w = .ok (.string ⟨l.toArray⟩) w := by
  have hn : l.length = n := by have := h.len; simpa using this
  rcases Nat.eq_zero_or_pos n with h0 | h0
  · subst h0
    obtain rfl := List.eq_nil_of_length_eq_zero hn
    exact conv_none w A c
  · obtain ⟨g, o, rfl, _, hc⟩ := h.cells h0
    have := run_convert_bytes_arg (P := Tryd.prog) (w := w) 38 5 Tryd.underlying38 Tryd.underlying5 g o n c (l.map fun c => (c.toNat : Int)) (by simpa using hn) ?_ 9 Tryd.underlying9
    · rw [this, Wire.strOf]; rfl
    · intro i hi
      have hx : l[i]? = some (l[i]'(by omega)) := List.getElem?_eq_getElem _
      rw [hc i (Wire.bv (l[i]'(by omega))) (by rw [List.getElem?_map, hx]; rfl)]
      simp [List.getD, hx, Wire.bv]
theorem sameS (a : List UInt8) (W : World) : (Op.equalIn 10000 9 (.string ⟨a.toArray⟩) (.string ⟨a.toArray⟩)).run Tryd.prog W = .ok true W := by
  rw [run_equalIn_string W 9999 9 _ _ Tryd.underlying9]
  simp
theorem index_any (a : List UInt8) (kd : IntKind) (k : Nat) (x : UInt8) (hx : a[k]? = some x) (W : World) : (Instr.index 9 (.string ⟨a.toArray⟩) (.int kd (k : Int))).run Tryd.prog W = .ok (.int .u8 (x.toNat : Int)) W := by
  have hk := (List.getElem?_eq_some_iff.1 hx).1
  have hs : (⟨a.toArray⟩ : ByteArray).size = a.length := by simp [ByteArray.size]
  have hxx := (List.getElem?_eq_some_iff.1 hx).2
  rw [run_index_string (h := Tryd.underlying9)]
  rw [dif_pos ⟨by omega, by rw [hs]; omega⟩]
  rw [← hxx]
  rfl

end Hash
end Go.Proofs.YthpkeaafgabjiaaDoor
