/- Package lex: Spot, Join. Condition: the text is of at most 2^20 bytes; the slice reads as a list of tokens, their texts are not long. -/
import Derived.Test.YtjijlepkcghmeaaDoorLxB1
namespace Go.Proofs.YtjijlepkcghmeaaDoor
open Go.RowKit
namespace Lx
open Wire (bv sv Lies)

theorem spot_last (l : List UInt8) : ∀ k : Nat, k ≤ l.length → spot (1, 1) (l.take k) = (1 + (l.take k).count 10, ((k : Int) - Lib.lastIdx ⟨l.toArray⟩ 10 k).toNat) ∧ -1 ≤ Lib.lastIdx ⟨l.toArray⟩ 10 k ∧ Lib.lastIdx ⟨l.toArray⟩ 10 k < (k : Int)
  | 0, _ => by
    refine ⟨rfl, by simp [Lib.lastIdx], by simp [Lib.lastIdx]⟩
  | k + 1, hk => by
    obtain ⟨h1, h2, h3⟩ := spot_last l k (by omega)
    have hb : (⟨l.toArray⟩ : ByteArray).data[k]! = hd (l.drop k) := by
      rw [List.drop_eq_getElem_cons (by omega)]
      simp [hd, show k < l.length by omega]
    have hc : (l.take k ++ [hd (l.drop k)]).count 10 = (l.take k).count 10 + if hd (l.drop k) = 10 then 1 else 0 := by
      rw [List.count_append, List.count_singleton]
      simp
    rw [take_one (by omega), spot_snoc, h1, hc]
    by_cases hx : hd (l.drop k) = 10
    · rw [if_pos hx, if_pos hx, Lib.lastIdx_hit _ _ _ (by rw [hb, hx]; rfl)]
      refine ⟨?_, by omega, by omega⟩
      exact Prod.ext (by simp; omega) (by simp; try omega)
    · rw [if_neg hx, if_neg hx, Lib.lastIdx_miss _ _ _ (by rw [hb]; exact fun e => hx ((nat_of (d := 10)).1 e))]
      refine ⟨?_, h2, by omega⟩
      exact Prod.ext rfl (by simp; omega)
theorem spot_all (l : List UInt8) : spot (1, 1) l = (1 + l.count 10, ((l.length : Int) - Lib.lastIndexByte ⟨l.toArray⟩ 10).toNat) ∧ -1 ≤ Lib.lastIndexByte ⟨l.toArray⟩ 10 ∧ Lib.lastIndexByte ⟨l.toArray⟩ 10 < (l.length : Int) := by
  have h := spot_last l l.length (Nat.le_refl _)
  rw [List.take_length] at h
  unfold Lib.lastIndexByte
  rw [size_of]
  exact h
theorem ext_zero (t : List UInt8) (j : Nat) : (⟨t.toArray⟩ : ByteArray).extract 0 j = ⟨(t.take j).toArray⟩ := by
  have h := ext_take t 0 j
  rw [Nat.zero_add, List.drop_zero] at h
  exact h

set_option maxRecDepth 100000 in
set_option maxHeartbeats 2000000 in
theorem spot_any (t : List UInt8) (i : Int) (w : World) (hl : t.length ≤ 1048576) (h0 : -9223372036854775808 ≤ i) (h1 : i ≤ 9223372036854775807) :
    Calls Tryd.prog 13 #[.string ⟨t.toArray⟩, .int .i64 i] w (GivesP2 (spot (1, 1) (t.take i.toNat)).1 (spot (1, 1) (t.take i.toNat)).2 w) := by
  have hs := size_of t
  obtain ⟨j, hj, hjl, hjt⟩ : ∃ j : Nat, min (max i 0) (t.length : Int) = (j : Int) ∧ j ≤ t.length ∧ t.take i.toNat = t.take j := by
    refine ⟨(min (max i 0) (t.length : Int)).toNat, by omega, by omega, ?_⟩
    by_cases h : i.toNat ≤ t.length
    · congr 1; omega
    · rw [List.take_of_length_le (by omega), List.take_of_length_le (by omega)]
  rw [hjt]
  have hp := spot_all (t.take j)
  have hlen : (t.take j).length = j := by rw [List.length_take]; omega
  rw [hlen] at hp
  have hcl : (t.take j).count 10 ≤ j := by have := List.count_le_length (a := (10 : UInt8)) (l := t.take j); omega
  have HC : Hid (∀ W, Calls Tryd.prog 21 #[.string ((⟨t.toArray⟩ : ByteArray).extract 0 j), .string ⟨#[10]⟩] W fun e w' => e = .returned (.int .i64 ((t.take j).count 10 : Nat)) ∧ w' = W) := Lib.hid (fun W => by
    have h := Tryd.strings_Count_one ⟨(t.take j).toArray⟩ 10 W
    rw [ext_zero]
    exact h)
  have HL : Hid (∀ W, Calls Tryd.prog 22 #[.string ((⟨t.toArray⟩ : ByteArray).extract 0 j), .int .u8 10] W fun e w' => e = .returned (.int .i64 (Lib.lastIndexByte ⟨(t.take j).toArray⟩ 10)) ∧ w' = W) := Lib.hid (fun W => by
    rw [ext_zero]
    exact Tryd.strings_LastIndexByte ⟨(t.take j).toArray⟩ 10 (by rw [size_of, hlen]; omega) W)
  have hsz : ((⟨t.toArray⟩ : ByteArray).extract 0 j).size = j := by rw [ext_zero, size_of, hlen]
  generalize Lib.lastIndexByte ⟨(t.take j).toArray⟩ 10 = I at *
  generalize (t.take j).count 10 = C at *
  obtain ⟨hp, i1, i2⟩ := hp
  rw [hp]
  clear hp hlen hjt
  generalize t.length = L at *
  generalize (⟨t.toArray⟩ : ByteArray) = T at *
  go_enter Tryd.func13, Tryd.ntmps13
  go_wp2_with (first
    | (go_at_call 21; (with_reducible refine (HC.out _).mono ?_); rintro e w1 ⟨rfl, rfl⟩)
    | (go_at_call 22; (with_reducible refine (HL.out _).mono ?_); rintro e w1 ⟨rfl, rfl⟩))
  go_ret2
  exact ⟨by simp; omega, Below.refl _ _⟩
end Lx
end Go.Proofs.YtjijlepkcghmeaaDoor
