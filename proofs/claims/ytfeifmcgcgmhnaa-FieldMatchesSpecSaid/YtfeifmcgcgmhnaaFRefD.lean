/- The reference of package field: distinct. Condition: the slice reads as a list. -/
import Derived.Test.YtfeifmcgcgmhnaaFRefE
namespace Go.Proofs.Ytfeifmcgcgmhnaa
open Go.RowKit
namespace Gf
open Wire (Lies bv)

/-- 1 to 255 elements, all different. -/
def fit (xs : List UInt8) : Prop := 0 < xs.length ∧ xs.length ≤ 255 ∧ xs.Nodup
instance (xs : List UInt8) : Decidable (fit xs) := inferInstanceAs (Decidable (0 < xs.length ∧ xs.length ≤ 255 ∧ xs.Nodup))
/-- A bool is returned; what was there is as it was. -/
def Tells (b : Bool) (w : World) (e : Ending) (w1 : World) : Prop := e = .returned (.bool b) ∧ Below w.heap.size w w1
theorem take_nodup {xs : List UInt8} {i : Nat} {a : UInt8} (h : xs[i]? = some a) (hn : (xs.take i).Nodup) (hj : ∀ j, j < i → xs[j]? ≠ some a) : (xs.take (i + 1)).Nodup := by
  rw [List.take_add_one, h]
  show (xs.take i ++ [a]).Nodup
  rw [List.nodup_append]
  refine ⟨hn, by simp, ?_⟩
  intro y hy z hz e
  simp only [List.mem_singleton] at hz
  subst hz
  obtain ⟨j, hj2, he⟩ := List.mem_iff_getElem.1 hy
  have hj3 : j < i := by rw [List.length_take] at hj2; omega
  apply hj j hj3
  rw [List.getElem_take] at he
  have hlen : j < xs.length := by rw [List.length_take] at hj2; omega
  rw [List.getElem?_eq_getElem hlen, he, e]
theorem not_nodup {xs : List UInt8} {i k : Nat} {a : UInt8} (h : xs[i]? = some a) (hk : xs[k]? = some a) (hi : k < i) : ¬ xs.Nodup := by
  intro hn
  have hki : k < xs.length := (List.getElem?_eq_some_iff.1 hk).1
  have := (List.getElem?_inj hki hn).1 (hk.trans h.symm)
  omega

set_option maxRecDepth 100000 in
set_option maxHeartbeats 1000000 in
theorem refDistinct_any (xs : List UInt8) (n c : Nat) (A : Option Addr) (w : World) (hl : Lies w w.heap.size 1 A n c (xs.map bv)) :
    Calls Try.prog 29 #[.slice A n c] w (Tells (decide (fit xs)) w) := by
  have hmost : c ≤ 9223372036854775807 := by have := hl.most; unfold maxLen at this; omega
  have hle := hl.le
  have hpn : xs.length = n := by have := hl.len; simpa using this
  by_cases h0 : n = 0
  · subst h0
    have hf : decide (fit xs) = false := decide_eq_false (fun h => by have := h.1; omega)
    rw [hf]
    clear hf hpn hl
    go_enter Try.func29, Try.ntmps29
    go_wp2
    go_ret
    exact ⟨rfl, Below.refl _ _⟩
  by_cases h1 : 255 < n
  · have hf : decide (fit xs) = false := decide_eq_false (fun h => by have := h.2.1; omega)
    rw [hf]
    clear hf hpn hl
    have y0 : ¬ (n : Int) = 0 := by omega
    have y1 : (255 : Int) < (n : Int) := by omega
    go_enter Try.func29, Try.ntmps29
    go_wp2
    all_goals (go_ret; exact ⟨rfl, Below.refl _ _⟩)
  have HPN := Lib.hid hpn
  have HL := Lib.hid hl
  obtain ⟨B, hB⟩ : ∃ B, B = decide (fit xs) := ⟨_, rfl⟩
  rw [← hB]
  have HB := Lib.hid hB
  clear hB
  have y0 : ¬ (n : Int) = 0 := by omega
  have yd : ((n : Int) == 0) = false := by simpa using h0
  have y1 : ¬ (255 : Int) < (n : Int) := by omega
  clear hpn hl
  go_enter Try.func29, Try.ntmps29
  go_wp2
  go_loopw [3] (fun iv wr => ∃ (i : Nat), i ≤ n ∧ iv = .int .i64 (i : Int) ∧ Hid ((xs.take i).Nodup) ∧ Below w.heap.size w wr) (fun iv _ => (n - intOf iv).toNat)
  case atStart => exact ⟨0, by omega, rfl, Lib.hid (by simp), Below.refl _ _⟩
  case round =>
    obtain ⟨i, hi, rfl, HN, hbw⟩ := hrel
    by_cases hlt : i < n
    · obtain ⟨b, o, u, rfl, hbb, hu, hcx⟩ := (HL.out.below hbw).at_ hlt
      obtain ⟨a, ha⟩ : ∃ a, xs[i]? = some a := ⟨_, List.getElem?_eq_getElem (by rw [HPN.out]; exact hlt)⟩
      rw [List.getElem?_map, ha] at hu
      cases hu
      have HA := Lib.hid ha
      have z0 : (0 : Int) ≤ (i : Int) := by omega
      have z1 : (i : Int) < (n : Int) := by omega
      have hin : i ≤ 9223372036854775807 := by omega
      unfold bv at hcx
      clear ha
      go_wp2
      go_loopw [4] (fun kv wq => ∃ (k : Nat), k ≤ i ∧ kv = .int .i64 (k : Int) ∧ Hid (∀ j, j < k → xs[j]? ≠ some a) ∧ Below w.heap.size w wq) (fun kv _ => (i - intOf kv).toNat)
      case atStart => exact ⟨0, by omega, rfl, Lib.hid (fun j hj => by omega), hbw⟩
      case round =>
        obtain ⟨k, hk, rfl, HK, hbq⟩ := hrel
        by_cases hki : k < i
        · obtain ⟨b2, o2, u2, he, -, hu2, hcy⟩ := (HL.out.below hbq).at_ (j := k) (by omega)
          cases he
          obtain ⟨b3, o3, u3, he, -, hu3, hcz⟩ := (HL.out.below hbq).at_ (j := i) hlt
          cases he
          obtain ⟨d, hd⟩ : ∃ d, xs[k]? = some d := ⟨_, List.getElem?_eq_getElem (by rw [HPN.out]; omega)⟩
          rw [List.getElem?_map, hd] at hu2
          rw [List.getElem?_map, HA.out] at hu3
          cases hu2
          cases hu3
          unfold bv at hcy hcz
          have y2 : (0 : Int) ≤ (k : Int) := by omega
          have y3 : (k : Int) < (n : Int) := by omega
          have y4 : (k : Int) < (i : Int) := by omega
          have HD := Lib.hid hd
          clear hd hcx
          by_cases hda : a = d
          · subst hda
            have hf : B = false := HB.out.trans (decide_eq_false (fun h => not_nodup HA.out HD.out hki h.2.2))
            subst hf
            go_wp2
            go_quiet (fail)
            go_wp2
            go_ret
            exact ⟨rfl, belowN hbq _⟩
          · have hne : ((a.toNat : Int) == (d.toNat : Int)) = false := by
              rw [beq_eq_false_iff_ne]; intro h; exact hda (UInt8.toNat_inj.1 (by omega))
            go_wp2
            go_quiet (fail)
            go_wp2
            go_roundw
            case rel =>
              refine ⟨k + 1, by omega, by go_num, Lib.hid ?_, belowN hbq _⟩
              intro j hj e
              by_cases hjk : j < k
              · exact HK.out j hjk e
              · have : j = k := by omega
                subst this
                rw [HD.out] at e
                exact hda (Option.some.inj e).symm
            case measure => simp [intOf]; omega
        · obtain rfl : k = i := by omega
          have z2 : ¬ (k : Int) < (k : Int) := by omega
          go_wp2
          go_roundw
          case rel => exact ⟨k + 1, by omega, by go_num, Lib.hid (take_nodup HA.out HN.out HK.out), hbq⟩
          case measure => simp [intOf]; omega
    · obtain rfl : i = n := by omega
      have z1 : ¬ (i : Int) < (i : Int) := by omega
      have hf : B = true := HB.out.trans <| decide_eq_true ⟨by rw [HPN.out]; omega, by rw [HPN.out]; omega, by have := HN.out; rwa [List.take_of_length_le (by rw [HPN.out]; omega)] at this⟩
      subst hf
      go_wp2
      go_ret
      exact ⟨rfl, hbw⟩
end Gf
end Go.Proofs.Ytfeifmcgcgmhnaa
