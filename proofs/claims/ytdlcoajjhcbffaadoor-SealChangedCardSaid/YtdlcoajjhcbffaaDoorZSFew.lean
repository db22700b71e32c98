/- What few of the statements on seal returns. Condition: the lengths of the texts add up to at most 2^62. -/
import Derived.Test.YtdlcoajjhcbffaaDoorZWUtil
namespace Go.Proofs.YtdlcoajjhcbffaaDoor
open Go.RowKit
namespace Seal
open Wire (Lies sv total total_snoc total_take)

set_option maxHeartbeats 400000 in
theorem few_any (l : List (List UInt8)) (n c : Nat) (A : Option Addr) (w : World) (hl : Lies w w.heap.size 1 A n c (l.map sv)) (ht : total l ≤ 4611686018427387904) :
    Calls Tryd.prog 8 #[.slice A n c] w (fun e w' => e = .returned (.bool (decide (total l ≤ 3000))) ∧ w = w') := by
  have hnl : l.length = n := by have := hl.len; simpa using this
  have hmost : c ≤ 9223372036854775807 := by have := hl.most; unfold maxLen at this; omega
  have hle := hl.le
  have HNL := Lib.hid hnl; clear hnl
  have HT := Lib.hid ht; clear ht
  go_enter Tryd.func8, Tryd.ntmps8
  go_wp2
  go_loopw [3, 8] (fun v jv wr => ∃ (i s : Nat), i ≤ n ∧ jv = .int .i64 (i : Int) ∧ v = .int .i64 (s : Int) ∧ s = total (l.take i) ∧ w = wr) (fun _ jv _ => (n - (intOf jv)).toNat)
  case atStart => exact ⟨0, 0, by omega, rfl, rfl, by simp [total], rfl⟩
  case round =>
    obtain ⟨i, s, hi2, rfl, rfl, hs, rfl⟩ := hrel
    by_cases hlt : i < n
    · obtain ⟨b, o, u, rfl, hbB, hu, hcell⟩ := hl.at_ hlt
      rw [List.getElem?_map] at hu
      obtain ⟨x, hx, rfl⟩ : ∃ x, l[i]? = some x ∧ sv x = u := by
        cases hxx : l[i]? with
        | none => rw [hxx] at hu; cases hu
        | some x => rw [hxx] at hu; exact ⟨x, rfl, by simpa using hu⟩
      have hsn := total_snoc hx
      have htl := total_take l (i + 1)
      have hbd : s + x.length ≤ 4611686018427387904 := by have := HT.out; omega
      have hsz : (⟨x.toArray⟩ : ByteArray).size = x.length := by simp [ByteArray.size]
      have hs2 : s + x.length = total (l.take (i + 1)) := by omega
      have HS := Lib.hid hs2; clear hs2 hs hsn htl hu hx
      unfold sv at hcell
      go_wp2
      go_roundw
      case rel => exact ⟨i + 1, s + x.length, by omega, by go_num, by go_num, HS.out, trivial⟩
      case measure => simp [intOf]; omega
    · obtain rfl : i = n := by omega
      have hs2 : s = total l := by rw [hs, List.take_of_length_le (by rw [HNL.out]; omega)]
      clear hs
      go_wp2
      go_ret
      have he : decide ((total l : Int) ≤ 3000) = decide (total l ≤ 3000) := by rw [decide_eq_decide]; omega
      subst hs2
      exact ⟨congrArg (fun b => Ending.returned (Value.bool b)) he, rfl⟩

end Seal
end Go.Proofs.YtdlcoajjhcbffaaDoor
