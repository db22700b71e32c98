/- What the comparisons of the reference return. Condition: the slices' cells read as the two lists. -/
import Derived.Test.YtlpkiaeimcoplaaBase
import Derived.Deep.QuietTactic
import Derived.BigQuiet
import Derived.Deep.Draws
namespace Go.Proofs.Ytlpkiaeimcoplaa
open Go.RowKit
namespace Wire

/-- A bool is returned; the memory is as it was. -/
def Told (w : World) (b : Bool) (e : Ending) (w' : World) : Prop := e = .returned (.bool b) ∧ ∃ k, w' = w.drewN k

set_option maxRecDepth 100000 in
set_option maxHeartbeats 1000000 in
theorem same_bytes (xs ys : List UInt8) (n m c d : Nat) (A E : Option Addr) (w : World) (B : Nat) (hx : Lies w B 1 A n c (xs.map bv)) (hy : Lies w B 1 E m d (ys.map bv)) :
    Calls Try.prog 13 #[.slice A n c, .slice E m d] w (Told w (decide (xs = ys))) := by
  have hmx : c ≤ 9223372036854775807 := by have := hx.most; unfold maxLen at this; omega
  have hmy : d ≤ 9223372036854775807 := by have := hy.most; unfold maxLen at this; omega
  have hlx := hx.le
  have hly := hy.le
  have hnx : xs.length = n := by have := hx.len; simpa using this
  have hny : ys.length = m := by have := hy.len; simpa using this
  by_cases hnm : n = m
  · subst hnm
    have HNX := Lib.hid hnx; clear hnx
    have HNY := Lib.hid hny; clear hny
    go_enter Try.func13, Try.ntmps13
    go_wp2
    go_loopw [5] (fun jv wr => ∃ (i q : Nat), i ≤ n ∧ jv = .int .i64 (i : Int) ∧ wr = w.drewN q ∧ xs.take i = ys.take i) (fun jv _ => (n - (intOf jv)).toNat)
    case atStart => exact ⟨0, 0, by omega, rfl, rfl, by simp⟩
    case round =>
      obtain ⟨i, q, hi, rfl, rfl, htk⟩ := hrel
      have HTK := Lib.hid htk; clear htk
      by_cases hlt : i < n
      · obtain ⟨b, o, u, rfl, -, hu, hcx⟩ := hx.at_ hlt
        obtain ⟨b2, o2, u2, rfl, -, hu2, hcy⟩ := hy.at_ hlt
        rw [List.getElem?_map] at hu hu2
        obtain ⟨x, hxx⟩ : ∃ x, xs[i]? = some x := ⟨xs[i]'(by rw [HNX.out]; exact hlt), List.getElem?_eq_getElem _⟩
        obtain ⟨y, hyy⟩ : ∃ y, ys[i]? = some y := ⟨ys[i]'(by rw [HNY.out]; exact hlt), List.getElem?_eq_getElem _⟩
        rw [hxx] at hu
        rw [hyy] at hu2
        simp only [Option.map_some, Option.some.injEq] at hu hu2
        subst hu
        subst hu2
        have hi0 : (0 : Int) ≤ (i : Int) := by omega
        have hi1 : (i : Int) < (n : Int) := by omega
        have HXX := Lib.hid hxx; clear hxx
        have HYY := Lib.hid hyy; clear hyy
        unfold bv at hcx hcy
        by_cases he : x = y
        · subst he
          skip
          go_wp2
          go_quiet (fail)
          go_wp2
          go_roundw
          case rel =>
            refine ⟨i + 1, _, by omega, by go_num, rfl, ?_⟩
            rw [List.take_add_one, List.take_add_one, HTK.out, HXX.out, HYY.out]
          case measure => simp [intOf]; omega
        · have hni : ¬ (x.toNat : Int) = (y.toNat : Int) := fun e => he (UInt8.toNat_inj.1 (by omega))
          have hnb : ((x.toNat : Int) == (y.toNat : Int)) = false := by simpa using hni
          have hnb2 : ((x.toNat : Int) != (y.toNat : Int)) = true := by simpa using hni
          have hfin : ∀ nq, Told w (decide (xs = ys)) (.returned (.bool false)) ((w.drewN q).drewN nq) := by
            intro nq
            rw [World.drewN_drewN]
            have hne : ¬ xs = ys := by
              intro e
              have h1 := HXX.out
              rw [e, HYY.out] at h1
              simp only [Option.some.injEq] at h1
              exact he h1.symm
            rw [decide_eq_false hne]
            exact ⟨rfl, _, rfl⟩
          have HF := Lib.hid hfin; clear hfin
          have HE := Lib.hid he; clear he
          go_wp2
          go_quiet (fail)
          go_wp2
          go_ret
          exact HF.out _
      · obtain rfl : i = n := by omega
        have hfin : ∀ nq, Told w (decide (xs = ys)) (.returned (.bool true)) (w.drewN nq) := by
          intro nq
          have he : xs = ys := by
            have h1 := HTK.out
            rwa [List.take_of_length_le (by rw [HNX.out]; omega), List.take_of_length_le (by rw [HNY.out]; omega)] at h1
          rw [decide_eq_true he]
          exact ⟨rfl, _, rfl⟩
        have HF := Lib.hid hfin; clear hfin
        go_wp2
        go_ret
        exact HF.out _
  · have hne : ¬ xs = ys := by intro e; apply hnm; rw [← hnx, ← hny, e]
    have hnmi : ¬ (n : Int) = m := by omega
    have hfin : Told w (decide (xs = ys)) (.returned (.bool false)) w := by rw [decide_eq_false hne]; exact ⟨rfl, 0, rfl⟩
    have HF := Lib.hid hfin; clear hfin
    have HNE := Lib.hid hne; clear hne
    have HNX := Lib.hid hnx; clear hnx
    have HNY := Lib.hid hny; clear hny
    go_enter Try.func13, Try.ntmps13
    go_wp2
    go_ret
    exact HF.out

set_option maxRecDepth 100000 in
set_option maxHeartbeats 1000000 in
theorem same_ints (xs ys : List Int) (n m c d : Nat) (A E : Option Addr) (w : World) (B : Nat) (hx : Lies w B 1 A n c (xs.map iv)) (hy : Lies w B 1 E m d (ys.map iv)) :
    Calls Try.prog 30 #[.slice A n c, .slice E m d] w (Told w (decide (xs = ys))) := by
  have hmx : c ≤ 9223372036854775807 := by have := hx.most; unfold maxLen at this; omega
  have hmy : d ≤ 9223372036854775807 := by have := hy.most; unfold maxLen at this; omega
  have hlx := hx.le
  have hly := hy.le
  have hnx : xs.length = n := by have := hx.len; simpa using this
  have hny : ys.length = m := by have := hy.len; simpa using this
  by_cases hnm : n = m
  · subst hnm
    have HNX := Lib.hid hnx; clear hnx
    have HNY := Lib.hid hny; clear hny
    go_enter Try.func30, Try.ntmps30
    go_wp2
    go_loopw [5] (fun jv wr => ∃ (i q : Nat), i ≤ n ∧ jv = .int .i64 (i : Int) ∧ wr = w.drewN q ∧ xs.take i = ys.take i) (fun jv _ => (n - (intOf jv)).toNat)
    case atStart => exact ⟨0, 0, by omega, rfl, rfl, by simp⟩
    case round =>
      obtain ⟨i, q, hi, rfl, rfl, htk⟩ := hrel
      have HTK := Lib.hid htk; clear htk
      by_cases hlt : i < n
      · obtain ⟨b, o, u, rfl, -, hu, hcx⟩ := hx.at_ hlt
        obtain ⟨b2, o2, u2, rfl, -, hu2, hcy⟩ := hy.at_ hlt
        rw [List.getElem?_map] at hu hu2
        obtain ⟨x, hxx⟩ : ∃ x, xs[i]? = some x := ⟨xs[i]'(by rw [HNX.out]; exact hlt), List.getElem?_eq_getElem _⟩
        obtain ⟨y, hyy⟩ : ∃ y, ys[i]? = some y := ⟨ys[i]'(by rw [HNY.out]; exact hlt), List.getElem?_eq_getElem _⟩
        rw [hxx] at hu
        rw [hyy] at hu2
        simp only [Option.map_some, Option.some.injEq] at hu hu2
        subst hu
        subst hu2
        have hi0 : (0 : Int) ≤ (i : Int) := by omega
        have hi1 : (i : Int) < (n : Int) := by omega
        have HXX := Lib.hid hxx; clear hxx
        have HYY := Lib.hid hyy; clear hyy
        unfold iv at hcx hcy
        by_cases he : x = y
        · subst he
          skip
          go_wp2
          go_quiet (fail)
          go_wp2
          go_roundw
          case rel =>
            refine ⟨i + 1, _, by omega, by go_num, rfl, ?_⟩
            rw [List.take_add_one, List.take_add_one, HTK.out, HXX.out, HYY.out]
          case measure => simp [intOf]; omega
        · have hnb : (x == y) = false := by simpa using he
          have hnb2 : (x != y) = true := by simpa using he
          have hfin : ∀ nq, Told w (decide (xs = ys)) (.returned (.bool false)) ((w.drewN q).drewN nq) := by
            intro nq
            rw [World.drewN_drewN]
            have hne : ¬ xs = ys := by
              intro e
              have h1 := HXX.out
              rw [e, HYY.out] at h1
              simp only [Option.some.injEq] at h1
              exact he h1.symm
            rw [decide_eq_false hne]
            exact ⟨rfl, _, rfl⟩
          have HF := Lib.hid hfin; clear hfin
          have HE := Lib.hid he; clear he
          go_wp2
          go_quiet (fail)
          go_wp2
          go_ret
          exact HF.out _
      · obtain rfl : i = n := by omega
        have hfin : ∀ nq, Told w (decide (xs = ys)) (.returned (.bool true)) (w.drewN nq) := by
          intro nq
          have he : xs = ys := by
            have h1 := HTK.out
            rwa [List.take_of_length_le (by rw [HNX.out]; omega), List.take_of_length_le (by rw [HNY.out]; omega)] at h1
          rw [decide_eq_true he]
          exact ⟨rfl, _, rfl⟩
        have HF := Lib.hid hfin; clear hfin
        go_wp2
        go_ret
        exact HF.out _
  · have hne : ¬ xs = ys := by intro e; apply hnm; rw [← hnx, ← hny, e]
    have hnmi : ¬ (n : Int) = m := by omega
    have hfin : Told w (decide (xs = ys)) (.returned (.bool false)) w := by rw [decide_eq_false hne]; exact ⟨rfl, 0, rfl⟩
    have HF := Lib.hid hfin; clear hfin
    have HNE := Lib.hid hne; clear hne
    have HNX := Lib.hid hnx; clear hnx
    have HNY := Lib.hid hny; clear hny
    go_enter Try.func30, Try.ntmps30
    go_wp2
    go_ret
    exact HF.out

set_option maxRecDepth 100000 in
set_option maxHeartbeats 1000000 in
theorem same_texts (xs ys : List (List UInt8)) (n m c d : Nat) (A E : Option Addr) (w : World) (B : Nat) (hx : Lies w B 1 A n c (xs.map sv)) (hy : Lies w B 1 E m d (ys.map sv)) :
    Calls Try.prog 33 #[.slice A n c, .slice E m d] w (Told w (decide (xs = ys))) := by
  have hmx : c ≤ 9223372036854775807 := by have := hx.most; unfold maxLen at this; omega
  have hmy : d ≤ 9223372036854775807 := by have := hy.most; unfold maxLen at this; omega
  have hlx := hx.le
  have hly := hy.le
  have hnx : xs.length = n := by have := hx.len; simpa using this
  have hny : ys.length = m := by have := hy.len; simpa using this
  by_cases hnm : n = m
  · subst hnm
    have HNX := Lib.hid hnx; clear hnx
    have HNY := Lib.hid hny; clear hny
    go_enter Try.func33, Try.ntmps33
    go_wp2
    go_loopw [5] (fun jv wr => ∃ (i q : Nat), i ≤ n ∧ jv = .int .i64 (i : Int) ∧ wr = w.drewN q ∧ xs.take i = ys.take i) (fun jv _ => (n - (intOf jv)).toNat)
    case atStart => exact ⟨0, 0, by omega, rfl, rfl, by simp⟩
    case round =>
      obtain ⟨i, q, hi, rfl, rfl, htk⟩ := hrel
      have HTK := Lib.hid htk; clear htk
      by_cases hlt : i < n
      · obtain ⟨b, o, u, rfl, -, hu, hcx⟩ := hx.at_ hlt
        obtain ⟨b2, o2, u2, rfl, -, hu2, hcy⟩ := hy.at_ hlt
        rw [List.getElem?_map] at hu hu2
        obtain ⟨x, hxx⟩ : ∃ x, xs[i]? = some x := ⟨xs[i]'(by rw [HNX.out]; exact hlt), List.getElem?_eq_getElem _⟩
        obtain ⟨y, hyy⟩ : ∃ y, ys[i]? = some y := ⟨ys[i]'(by rw [HNY.out]; exact hlt), List.getElem?_eq_getElem _⟩
        rw [hxx] at hu
        rw [hyy] at hu2
        simp only [Option.map_some, Option.some.injEq] at hu hu2
        subst hu
        subst hu2
        have hi0 : (0 : Int) ≤ (i : Int) := by omega
        have hi1 : (i : Int) < (n : Int) := by omega
        have HXX := Lib.hid hxx; clear hxx
        have HYY := Lib.hid hyy; clear hyy
        unfold sv at hcx hcy
        by_cases he : x = y
        · subst he
          have hq : (x == x) = true := by simp
          have hq2 : (!(x == x)) = false := by simp
          go_wp2
          go_quiet (fail)
          go_wp2
          go_roundw
          case rel =>
            refine ⟨i + 1, _, by omega, by go_num, rfl, ?_⟩
            rw [List.take_add_one, List.take_add_one, HTK.out, HXX.out, HYY.out]
          case measure => simp [intOf]; omega
        · have hq : (x == y) = false := by simpa using he
          have hq2 : (!(x == y)) = true := by simpa using he
          have hnl : ¬ (⟨x.toArray⟩ : ByteArray).toList = (⟨y.toArray⟩ : ByteArray).toList := by rw [ByteArray.toList_eq, ByteArray.toList_eq]; exact he
          have hnb : ((⟨x.toArray⟩ : ByteArray).toList == (⟨y.toArray⟩ : ByteArray).toList) = false := by simpa using hnl
          have hnb2 : ((⟨x.toArray⟩ : ByteArray).toList != (⟨y.toArray⟩ : ByteArray).toList) = true := by simpa using hnl
          have hfin : ∀ nq, Told w (decide (xs = ys)) (.returned (.bool false)) ((w.drewN q).drewN nq) := by
            intro nq
            rw [World.drewN_drewN]
            have hne : ¬ xs = ys := by
              intro e
              have h1 := HXX.out
              rw [e, HYY.out] at h1
              simp only [Option.some.injEq] at h1
              exact he h1.symm
            rw [decide_eq_false hne]
            exact ⟨rfl, _, rfl⟩
          have HF := Lib.hid hfin; clear hfin
          have HE := Lib.hid he; clear he
          go_wp2
          go_quiet (fail)
          go_wp2
          go_ret
          exact HF.out _
      · obtain rfl : i = n := by omega
        have hfin : ∀ nq, Told w (decide (xs = ys)) (.returned (.bool true)) (w.drewN nq) := by
          intro nq
          have he : xs = ys := by
            have h1 := HTK.out
            rwa [List.take_of_length_le (by rw [HNX.out]; omega), List.take_of_length_le (by rw [HNY.out]; omega)] at h1
          rw [decide_eq_true he]
          exact ⟨rfl, _, rfl⟩
        have HF := Lib.hid hfin; clear hfin
        go_wp2
        go_ret
        exact HF.out _
  · have hne : ¬ xs = ys := by intro e; apply hnm; rw [← hnx, ← hny, e]
    have hnmi : ¬ (n : Int) = m := by omega
    have hfin : Told w (decide (xs = ys)) (.returned (.bool false)) w := by rw [decide_eq_false hne]; exact ⟨rfl, 0, rfl⟩
    have HF := Lib.hid hfin; clear hfin
    have HNE := Lib.hid hne; clear hne
    have HNX := Lib.hid hnx; clear hnx
    have HNY := Lib.hid hny; clear hny
    go_enter Try.func33, Try.ntmps33
    go_wp2
    go_ret
    exact HF.out

end Wire
end Go.Proofs.Ytlpkiaeimcoplaa
