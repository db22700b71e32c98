/- The package field as landed: different. Condition: the slice reads as a list. -/
import Derived.Test.YtfeifmcgcgmhnaaFInv
import Derived.Test.YtfeifmcgcgmhnaaFRefD
namespace Go.Proofs.Ytfeifmcgcgmhnaa
open Go.RowKit
namespace Gf
open Wire (Lies bv)
open Cha (Arr)

/-- What is kept of the elements seen so far. -/
def marks (l : List UInt8) : List Value := (List.range 256).map fun v => .bool (decide (UInt8.ofNat v ∈ l))
theorem marks_length (l : List UInt8) : (marks l).length = 256 := by simp [marks]
theorem marks_at (l : List UInt8) (x : UInt8) : (marks l)[x.toNat]? = some (.bool (decide (x ∈ l))) := by
  have hx := x.toNat_lt
  unfold marks
  rw [List.getElem?_map, List.getElem?_range (by omega)]
  simp
theorem marks_next {l : List UInt8} {x : UInt8} : (marks l).set x.toNat (.bool true) = marks (l ++ [x]) := by
  have hx := x.toNat_lt
  apply List.ext_getElem?
  intro i
  rw [List.getElem?_set]
  by_cases hi : i < 256
  · have e : ∀ m : List UInt8, (marks m)[i]? = some (.bool (decide (UInt8.ofNat i ∈ m))) := fun m => by
      unfold marks
      rw [List.getElem?_map, List.getElem?_range hi]; rfl
    rw [e, e, marks_length]
    by_cases h : x.toNat = i
    · subst h
      simp [hi]
    · have hne : UInt8.ofNat i ≠ x := fun h2 => h (by rw [← h2, UInt8.toNat_ofNat', Nat.mod_eq_of_lt hi])
      simp [h, hne]
  · have e : ∀ m : List UInt8, (marks m)[i]? = none := fun m => List.getElem?_eq_none (by rw [marks_length]; omega)
    rw [e, e, marks_length]
    by_cases h : x.toNat = i
    · omega
    · simp [h]
def z256 : Array Value := (List.replicate 256 (.bool false)).toArray
theorem z256_marks : z256.toList = marks [] := by unfold z256 marks; simp [List.map_const']
theorem zero256 (W : World) : (zeroValue 46).run Try.prog W = .ok (.agg z256) W := by kernel_rfl
theorem take_nodup2 {xs : List UInt8} {i : Nat} {a : UInt8} (h : xs[i]? = some a) (hn : (xs.take i).Nodup) (hj : a ∉ xs.take i) : (xs.take (i + 1)).Nodup := by
  rw [List.take_add_one, h]
  show (xs.take i ++ [a]).Nodup
  rw [List.nodup_append]
  refine ⟨hn, by simp, ?_⟩
  intro y hy z hz e
  simp only [List.mem_singleton] at hz
  subst hz e
  exact hj hy
theorem not_nodup2 {xs : List UInt8} {i : Nat} {a : UInt8} (h : xs[i]? = some a) (hj : a ∈ xs.take i) : ¬ xs.Nodup := by
  obtain ⟨k, hk2, he⟩ := List.mem_iff_getElem.1 hj
  have hk3 : k < i := by rw [List.length_take] at hk2; omega
  have hkl : k < xs.length := by rw [List.length_take] at hk2; omega
  rw [List.getElem_take] at he
  exact not_nodup h (by rw [List.getElem?_eq_getElem hkl, he]) hk3

set_option maxRecDepth 100000 in
set_option maxHeartbeats 1000000 in
theorem different_any (xs : List UInt8) (n c : Nat) (A : Option Addr) (w : World) (hl : Lies w w.heap.size 1 A n c (xs.map bv)) :
    Calls Try.prog 27 #[.slice A n c] w (Tells (decide (fit xs)) w) := by
  have hmost : c ≤ 9223372036854775807 := by have := hl.most; unfold maxLen at this; omega
  have hle := hl.le
  have hpn : xs.length = n := by have := hl.len; simpa using this
  by_cases h0 : n = 0
  · subst h0
    have hf : decide (fit xs) = false := decide_eq_false (fun h => by have := h.1; omega)
    rw [hf]
    clear hf hpn hl
    go_enter Try.func27, Try.ntmps27
    go_wp2
    go_ret
    exact ⟨rfl, Below.refl _ _⟩
  by_cases h1 : 255 < n
  · have hf : decide (fit xs) = false := decide_eq_false (fun h => by have := h.2.1; omega)
    rw [hf]
    clear hf hpn hl
    have y0 : ¬ (n : Int) < 1 := by omega
    have y1 : (255 : Int) < (n : Int) := by omega
    go_enter Try.func27, Try.ntmps27
    go_wp2
    all_goals (go_ret; exact ⟨rfl, Below.refl _ _⟩)
  have HPN := Lib.hid hpn
  have HL := Lib.hid hl
  obtain ⟨B, hB⟩ : ∃ B, B = decide (fit xs) := ⟨_, rfl⟩
  rw [← hB]
  have HB := Lib.hid hB
  clear hB
  have y0 : ¬ (n : Int) < 1 := by omega
  have y1 : ¬ (255 : Int) < (n : Int) := by omega
  have hz := zero256
  clear hpn hl
  go_enter Try.func27, Try.ntmps27
  go_wp2
  go_loopw [16] (fun iv wr => ∃ (k : Nat), k ≤ n ∧ iv = .int .i64 (k : Int) ∧ Hid ((xs.take k).Nodup) ∧ Arr wr w.heap.size 256 (marks (xs.take k)) ∧ Below w.heap.size w wr) (fun iv _ => (n - intOf iv).toNat)
  case atStart =>
    refine ⟨0, by omega, rfl, Lib.hid (by simp), ?_, (Below.refl _ _).alloc (Nat.le_refl _) _⟩
    have h := Cha.arr_new w z256 46
    rw [z256_marks] at h
    exact h
  case round =>
    obtain ⟨k, hk, rfl, HN, hr, hbw⟩ := hrel
    by_cases hlt : k < n
    · obtain ⟨b, o, u, rfl, hbb, hu, hcx⟩ := (HL.out.below hbw).at_ (j := k) hlt
      obtain ⟨a, ha⟩ : ∃ a, xs[k]? = some a := ⟨_, List.getElem?_eq_getElem (by rw [HPN.out]; omega)⟩
      rw [List.getElem?_map, ha] at hu
      cases hu
      have HA := Lib.hid ha
      have hm := marks_at (xs.take k) a
      obtain ⟨q1, q2⟩ := hr.at_ hm
      have hal := a.toNat_lt
      have z0 : (0 : Int) ≤ (k : Int) := by omega
      have z1 : (k : Int) < (n : Int) := by omega
      have z2 : (0 : Int) ≤ (a.toNat : Int) := by omega
      have z3 : (a.toNat : Int) < 256 := by omega
      unfold bv at hcx
      by_cases hin : a ∈ xs.take k
      · have hf : B = false := HB.out.trans (decide_eq_false (fun h => not_nodup2 HA.out hin h.2.2))
        subst hf
        rw [decide_eq_true hin] at q1
        have HR := Lib.hid hr
        clear ha hm hr hin
        go_wp2
        go_ret
        exact ⟨rfl, hbw⟩
      · have HIN := Lib.hid hin
        rw [decide_eq_false hin] at q1
        have HR := Lib.hid hr
        clear ha hm hr hin
        go_wp2
        go_roundw
        case rel =>
          refine ⟨k + 1, by omega, by go_num, Lib.hid (take_nodup2 HA.out HN.out HIN.out), ?_, hbw.setCell (Nat.le_refl _) _⟩
          rw [show xs.take (k + 1) = xs.take k ++ [a] by rw [List.take_add_one, HA.out]; rfl, ← marks_next]
          exact HR.out.set (by omega) _
        case measure => simp [intOf]; omega
    · obtain rfl : k = n := by omega
      have z1 : ¬ (k : Int) < (k : Int) := by omega
      have hf : B = true := HB.out.trans <| decide_eq_true ⟨by rw [HPN.out]; omega, by rw [HPN.out]; omega, by have := HN.out; rwa [List.take_of_length_le (by rw [HPN.out]; omega)] at this⟩
      subst hf
      go_wp2
      go_ret
      exact ⟨rfl, hbw⟩
end Gf
end Go.Proofs.Ytfeifmcgcgmhnaa
