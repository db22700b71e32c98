/- The reference of package lex: letters, digits, bytes, units. No condition. -/
import Derived.Test.YtjijlepkcghmeaaDoorBase
import Derived.Test.YtjijlepkcghmeaaDoorWUtil
import Derived.Test.YtjijlepkcghmeaaDoorLx
namespace Go.Proofs.YtjijlepkcghmeaaDoor
open Go.RowKit
namespace Lx
open Wire (bv sv)

/-- A value is returned; the memory is as it was. -/
def Is (v : Value) (w : World) (e : Ending) (w' : World) : Prop := e = .returned v ∧ w' = w
theorem letter_int (c : UInt8) : letter c = (decide (97 ≤ (c.toNat : Int)) && decide ((c.toNat : Int) ≤ 122)) := by
  unfold letter
  congr 1 <;> (rw [decide_eq_decide]; omega)
theorem digit_int (c : UInt8) : digit c = (decide (48 ≤ (c.toNat : Int)) && decide ((c.toNat : Int) ≤ 57)) := by
  unfold digit
  congr 1 <;> (rw [decide_eq_decide]; omega)

set_option maxRecDepth 100000 in
set_option maxHeartbeats 1000000 in
theorem refLetter_any (c : UInt8) (w : World) : Calls Tryd.prog 33 #[.int .u8 (c.toNat : Int)] w (Is (.bool (letter c)) w) := by
  rw [letter_int]
  generalize (c.toNat : Int) = x
  by_cases h1 : 97 ≤ x
  all_goals
    go_enter Tryd.func33, Tryd.ntmps33
    go_wp2
    go_ret
    exact ⟨by simp [h1] <;> omega, rfl⟩
set_option maxRecDepth 100000 in
set_option maxHeartbeats 1000000 in
theorem refDigit_any (c : UInt8) (w : World) : Calls Tryd.prog 35 #[.int .u8 (c.toNat : Int)] w (Is (.bool (digit c)) w) := by
  rw [digit_int]
  generalize (c.toNat : Int) = x
  by_cases h1 : 48 ≤ x
  all_goals
    go_enter Tryd.func35, Tryd.ntmps35
    go_wp2
    go_ret
    exact ⟨by simp [h1] <;> omega, rfl⟩
theorem index_at (t : List UInt8) (k : Nat) (hk : k < t.length) (W : World) : (Instr.index 9 (.string ⟨t.toArray⟩) (.int .i64 (k : Int))).run Tryd.prog W = .ok (.int .u8 ((hd (t.drop k)).toNat : Int)) W := by
  have hs : (⟨t.toArray⟩ : ByteArray).size = t.length := by simp [ByteArray.size]
  rw [run_index_string (h := Tryd.underlying9), dif_pos ⟨by omega, by rw [hs]; omega⟩, List.drop_eq_getElem_cons hk]
  rfl
theorem size_of (t : List UInt8) : (⟨t.toArray⟩ : ByteArray).size = t.length := by simp [ByteArray.size]
set_option maxRecDepth 100000 in
set_option maxHeartbeats 1000000 in
theorem refAt_any (t : List UInt8) (k : Nat) (w : World) : Calls Tryd.prog 51 #[.string ⟨t.toArray⟩, .int .i64 (k : Int)] w (Is (.int .u8 ((hd (t.drop k)).toNat : Int)) w) := by
  have hs := size_of t
  by_cases h : k < t.length
  · have hi := index_at t k h
    have z0 : (k : Int) < (t.length : Int) := by omega
    generalize (⟨t.toArray⟩ : ByteArray) = T at *
    go_enter Tryd.func51, Tryd.ntmps51
    go_wp2
    go_ret
    exact ⟨rfl, rfl⟩
  · have z0 : ¬ (k : Int) < (t.length : Int) := by omega
    rw [List.drop_eq_nil_of_le (Nat.le_of_not_lt h)]
    generalize (⟨t.toArray⟩ : ByteArray) = T at *
    go_enter Tryd.func51, Tryd.ntmps51
    go_wp2
    go_ret
    exact ⟨rfl, rfl⟩
theorem unit_int (c : UInt8) : (unit c : Int) = if (c.toNat : Int) = 115 then 1 else if (c.toNat : Int) = 109 then 60 else if (c.toNat : Int) = 104 then 3600 else if (c.toNat : Int) = 100 then 86400 else 0 := by
  have e : ∀ (n : Nat) (d : UInt8), d.toNat = n → (c = d ↔ (c.toNat : Int) = (n : Int)) := fun n d hd => by rw [← hd, ← UInt8.toNat_inj]; omega
  unfold unit
  simp only [e 115 115 rfl, e 109 109 rfl, e 104 104 rfl, e 100 100 rfl]
  repeat' split
  all_goals (first | rfl | contradiction)
set_option maxRecDepth 100000 in
set_option maxHeartbeats 1000000 in
theorem refUnit_any (c : UInt8) (w : World) : Calls Tryd.prog 52 #[.int .u8 (c.toNat : Int)] w (Is (.int .i64 (unit c : Int)) w) := by
  rw [unit_int]
  generalize (c.toNat : Int) = x
  by_cases h1 : x = 115
  · rw [if_pos h1]
    go_enter Tryd.func52, Tryd.ntmps52
    go_wp2
    go_ret
    exact ⟨rfl, rfl⟩
  rw [if_neg h1]
  by_cases h2 : x = 109
  · rw [if_pos h2]
    go_enter Tryd.func52, Tryd.ntmps52
    go_wp2
    go_ret
    exact ⟨rfl, rfl⟩
  rw [if_neg h2]
  by_cases h3 : x = 104
  · rw [if_pos h3]
    go_enter Tryd.func52, Tryd.ntmps52
    go_wp2
    go_ret
    exact ⟨rfl, rfl⟩
  rw [if_neg h3]
  by_cases h4 : x = 100
  · rw [if_pos h4]
    go_enter Tryd.func52, Tryd.ntmps52
    go_wp2
    go_ret
    exact ⟨rfl, rfl⟩
  rw [if_neg h4]
  go_enter Tryd.func52, Tryd.ntmps52
  go_wp2
  go_ret
  exact ⟨rfl, rfl⟩
end Lx
end Go.Proofs.YtjijlepkcghmeaaDoor
