/- The reference's Few, with its mathematics. Condition: the slice of texts reads as a list. -/
import Derived.Test.YtoenkckoomfgeaaDoorHUtil
import Derived.Test.YtoenkckoomfgeaaDoorWUtil
namespace Go.Proofs.YtoenkckoomfgeaaDoor
open Go.RowKit
namespace Hash
open Wire (bv sv Made Lies encStr)

def fewB (l : List (List UInt8)) : Bool := decide (l.length ≤ 12) && l.all fun s => decide (s.length ≤ 400)
theorem fewB_all {l : List (List UInt8)} (h : fewB l = true) : l.length ≤ 12 ∧ ∀ s ∈ l, s.length ≤ 400 := by
  simp only [fewB, Bool.and_eq_true, decide_eq_true_eq, List.all_eq_true] at h
  exact h
theorem fewB_no {l : List (List UInt8)} {s : List UInt8} (hs : s ∈ l) (h : ¬ s.length ≤ 400) : fewB l = false := by
  cases hf : fewB l with
  | false => rfl
  | true => exact absurd ((fewB_all hf).2 s hs) h

set_option maxRecDepth 100000 in
set_option maxHeartbeats 1000000 in
theorem few_any (l : List (List UInt8)) (n c : Nat) (A : Option Addr) (w : World) (hl : Lies w w.heap.size 1 A n c (l.map sv)) :
    Calls Tryd.prog 10 #[.slice A n c] w fun e w' => e = .returned (.bool (fewB l)) ∧ w = w' := by
  have hn : l.length = n := by have := hl.len; simpa using this
  have hmost : c ≤ 9223372036854775807 := by have := hl.most; unfold maxLen at this; omega
  have hle := hl.le
  by_cases h12 : (12 : Int) < (n : Int)
  · have hf : fewB l = false := by
      cases hf : fewB l with
      | false => rfl
      | true => have := (fewB_all hf).1; omega
    rw [hf]
    clear hf hn hl
    go_enter Tryd.func10, Tryd.ntmps10
    go_wp2
    go_ret
    exact ⟨rfl, rfl⟩
  · have HN := Lib.hid hn
    have HL := Lib.hid hl
    have HF : Hid ((∀ s ∈ l, s.length ≤ 400) → fewB l = true) := Lib.hid (fun h => by simp only [fewB, Bool.and_eq_true, decide_eq_true_eq, List.all_eq_true]; exact ⟨by omega, h⟩)
    have HNO := Lib.hid (fun s (hs : s ∈ l) (h : ¬ s.length ≤ 400) => fewB_no hs h)
    generalize fewB l = B at HF HNO ⊢
    clear hn hl
    go_enter Tryd.func10, Tryd.ntmps10
    go_wp2
    go_loop [3] (fun iv => ∃ (k : Nat), k ≤ n ∧ iv = .int .i64 (k : Int) ∧ ∀ s ∈ l.take k, s.length ≤ 400) (fun iv => n - (intOf iv).toNat)
    case atStart => exact ⟨0, by omega, rfl, by simp⟩
    case round =>
      obtain ⟨k, hk, rfl, hall⟩ := hrel
      have HA := Lib.hid hall
      clear hall
      by_cases hkn : k < n
      · obtain ⟨b, o, u, rfl, hbw, hu, hcx⟩ := HL.out.at_ hkn
        obtain ⟨x, hx⟩ : ∃ x, l[k]? = some x := ⟨_, List.getElem?_eq_getElem (by rw [HN.out]; exact hkn)⟩
        rw [List.getElem?_map, hx] at hu
        cases hu
        have hxs := sizeS x
        have HX := Lib.hid hx
        have y0 : (0 : Int) ≤ (k : Int) := by omega
        have y1 : (k : Int) < (n : Int) := by omega
        unfold sv at hcx
        clear hx
        by_cases hbig : (400 : Int) < (x.length : Int)
        · have HB : Hid (B = false) := Lib.hid (HNO.out x (List.mem_of_getElem? HX.out) (by omega))
          go_wp2
          go_ret
          exact ⟨by rw [HB.out]; rfl, rfl⟩
        · go_wp2
          go_round
          case rel =>
            refine ⟨k + 1, by omega, by go_num, fun s hs => ?_⟩
            rw [List.take_add_one, HX.out] at hs
            rcases List.mem_append.1 hs with h | h
            · exact HA.out s h
            · simp at h; subst h; omega
          case measure => simp [intOf]; omega
      · have hk2 : k = n := by omega
        have y1 : ¬ (k : Int) < (n : Int) := by omega
        have HB : Hid (B = true) := Lib.hid (HF.out fun s hs => HA.out s (by rw [List.take_of_length_le (by rw [HN.out]; omega)]; exact hs))
        clear hk2 hkn
        go_wp2
        go_ret
        exact ⟨by rw [HB.out]; rfl, rfl⟩

end Hash
end Go.Proofs.YtoenkckoomfgeaaDoor
