/- What few returns. Condition: the lengths of the texts add up to at most 2^62. -/
import Derived.Test.YtlpkiaeimcoplaaBase
namespace Go.Proofs.Ytlpkiaeimcoplaa
open Go.RowKit
namespace Wire

/-- How long texts are in all. -/
def total (l : List (List UInt8)) : Nat := (l.map List.length).sum
theorem total_snoc {l : List (List UInt8)} {i : Nat} {x : List UInt8} (hx : l[i]? = some x) : total (l.take (i + 1)) = total (l.take i) + x.length := by
  unfold total
  rw [List.take_add_one, hx]
  simp
theorem total_take (l : List (List UInt8)) (i : Nat) : total (l.take i) ≤ total l := by
  have h := List.take_append_drop i l
  have h2 : total l = total (l.take i) + total (l.drop i) := by
    unfold total
    rw [← List.sum_append, ← List.map_append, h]
  omega
theorem total_mem {l : List (List UInt8)} {x : List UInt8} (hx : x ∈ l) : x.length ≤ total l := by
  obtain ⟨i, hi⟩ := List.getElem?_of_mem hx
  have h1 := total_snoc hi
  have h2 := total_take l (i + 1)
  omega
theorem total_bound {k : Nat} : ∀ (l : List (List UInt8)), (∀ x ∈ l, x.length ≤ k) → total l ≤ l.length * k
  | [], _ => by simp [total]
  | x :: l, h => by
    have h1 := total_bound l fun y hy => h y (by simp [hy])
    have h2 := h x (by simp)
    have h3 : total (x :: l) = x.length + total l := rfl
    rw [h3, List.length_cons, Nat.succ_mul]
    omega

set_option maxHeartbeats 400000 in
theorem few_any (l : List (List UInt8)) (n c : Nat) (A : Option Addr) (w : World) (hl : Lies w w.heap.size 1 A n c (l.map sv)) (ht : n + total l ≤ 4611686018427387904) :
    Calls Try.prog 11 #[.slice A n c] w (fun e w' => e = .returned (.bool (decide (n + total l ≤ 2000))) ∧ w = w') := by
  have hnl : l.length = n := by have := hl.len; simpa using this
  have hmost : c ≤ 9223372036854775807 := by have := hl.most; unfold maxLen at this; omega
  have hle := hl.le
  have HNL := Lib.hid hnl; clear hnl
  have HT := Lib.hid ht; clear ht
  go_enter Try.func11, Try.ntmps11
  go_wp2
  go_loopw [3, 10] (fun v jv wr => ∃ (i s : Nat), i ≤ n ∧ jv = .int .i64 (i : Int) ∧ v = .int .i64 (s : Int) ∧ s = n + total (l.take i) ∧ w = wr) (fun _ jv _ => (n - (intOf jv)).toNat)
  case atStart => exact ⟨0, n, by omega, rfl, rfl, by simp [total], rfl⟩
  case round =>
    obtain ⟨i, s, hi2, rfl, rfl, hs, rfl⟩ := hrel
    by_cases hlt : i < n
    · obtain ⟨b, o, u, rfl, hbB, hu, hcell⟩ := hl.at_ hlt
      rw [List.getElem?_map] at hu
      obtain ⟨x, hx, rfl⟩ : ∃ x, l[i]? = some x ∧ sv x = u := by
        cases hxx : l[i]? with
        | none => rw [hxx] at hu; cases hu
        | some x => rw [hxx] at hu; exact ⟨x, rfl, by simpa using hu⟩
      have hsn := total_snoc hx
      have htl := total_take l (i + 1)
      have hbd : s + x.length ≤ 4611686018427387904 := by have := HT.out; omega
      have hsz : (⟨x.toArray⟩ : ByteArray).size = x.length := by simp [ByteArray.size]
      have hs2 : s + x.length = n + total (l.take (i + 1)) := by omega
      have HS := Lib.hid hs2; clear hs2 hs hsn htl hu hx
      unfold sv at hcell
      go_wp2
      go_roundw
      case rel => exact ⟨i + 1, s + x.length, by omega, by go_num, by go_num, HS.out, trivial⟩
      case measure => simp [intOf]; omega
    · obtain rfl : i = n := by omega
      have hs2 : s = i + total l := by rw [hs, List.take_of_length_le (by rw [HNL.out]; omega)]
      clear hs
      go_wp2
      go_ret
      have he : decide (((i : Int) + (total l : Int)) ≤ 2000) = decide (i + total l ≤ 2000) := by rw [decide_eq_decide]; omega
      subst hs2
      exact ⟨congrArg (fun b => Ending.returned (Value.bool b)) he, rfl⟩

end Wire
end Go.Proofs.Ytlpkiaeimcoplaa
