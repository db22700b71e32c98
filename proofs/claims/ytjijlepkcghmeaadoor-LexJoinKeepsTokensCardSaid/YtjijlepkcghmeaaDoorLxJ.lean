/- The reference of package lex: Spot, Join. Condition: the text is of at most 2^20 bytes; the slice reads as a list of tokens, their texts are not long. -/
import Derived.Test.YtjijlepkcghmeaaDoorLxT
namespace Go.Proofs.YtjijlepkcghmeaaDoor
open Go.RowKit
namespace Lx
open Wire (bv sv Lies)

theorem spot_snoc : ∀ (l : List UInt8) (p : Nat × Nat) (c : UInt8), spot p (l ++ [c]) = if c = 10 then ((spot p l).1 + 1, 1) else ((spot p l).1, (spot p l).2 + 1)
  | [], p, c => by simp [spot]
  | d :: l, p, c => by rw [List.cons_append, spot, spot]; exact spot_snoc l _ c
theorem take_one {t : List UInt8} {k : Nat} (h : k < t.length) : t.take (k + 1) = t.take k ++ [hd (t.drop k)] := by
  rw [List.take_add_one, List.drop_eq_getElem_cons h, List.getElem?_eq_getElem h]; rfl

set_option maxRecDepth 100000 in
set_option maxHeartbeats 2000000 in
theorem refSpot_any (t : List UInt8) (i : Int) (hl : t.length ≤ 1048576) (w : World) :
    Calls Tryd.prog 14 #[.string ⟨t.toArray⟩, .int .i64 i] w (IsP (spot (1, 1) (t.take i.toNat)).1 (spot (1, 1) (t.take i.toNat)).2 w) := by
  have hs := size_of t
  have HX := Lib.hid (fun k h => index_at t k h)
  generalize (⟨t.toArray⟩ : ByteArray) = T at *
  go_enter Tryd.func14, Tryd.ntmps14
  go_wp2
  go_loopw [6, 7, 8] (fun lv cv kv wr => ∃ (k ln cn : Nat), Hid (k ≤ t.length ∧ ((k : Int) ≤ i ∨ k = 0) ∧ spot (1, 1) (t.take k) = (ln, cn) ∧ ln ≤ k + 1 ∧ cn ≤ k + 1) ∧ lv = .int .i64 (ln : Int) ∧ cv = .int .i64 (cn : Int) ∧ kv = .int .i64 (k : Int) ∧ wr = w) (fun _ _ kv _ => ((t.length : Int) - intOf kv).toNat)
  case atStart => exact ⟨0, 1, 1, Lib.hid ⟨Nat.zero_le _, .inr rfl, rfl, Nat.le_refl _, Nat.le_refl _⟩, rfl, rfl, rfl, rfl⟩
  case round =>
    obtain ⟨k, ln, cn, HK, rfl, rfl, rfl, rfl⟩ := hrel
    have z2 : (ln : Int) ≤ 1048577 := by have := HK.out; omega
    have z3 : (cn : Int) ≤ 1048577 := by have := HK.out; omega
    have z4 : (k : Int) ≤ 1048576 := by have := HK.out; omega
    by_cases h1 : (k : Int) < i
    · by_cases h2 : k < t.length
      · have z1 : (k : Int) < (t.length : Int) := by omega
        have ix := HX.out k h2
        have HT := Lib.hid (take_one h2)
        have HKL := Lib.hid h2
        generalize hd (t.drop k) = c at *
        clear h2
        by_cases h3 : (c.toNat : Int) = 10
        · have HC : Hid (c = 10) := Lib.hid ((nat_of (d := 10)).1 h3)
          go_wp2
          go_roundw
          case rel => exact ⟨k + 1, ln + 1, 1, Lib.hid ⟨HKL.out, .inl (by omega), by rw [HT.out, spot_snoc, HC.out, if_pos rfl, HK.out.2.2.1], by have := HK.out.2.2.2.1; omega, by omega⟩, by go_num, rfl, by go_num, (by first | trivial | rfl)⟩
          case measure => have := HKL.out; simp [intOf]; omega
        · have HC : Hid (¬ c = 10) := Lib.hid (fun e => h3 (by rw [e]; rfl))
          go_wp2
          go_roundw
          case rel => exact ⟨k + 1, ln, cn + 1, Lib.hid ⟨HKL.out, .inl (by omega), by rw [HT.out, spot_snoc, if_neg HC.out, HK.out.2.2.1], by have := HK.out.2.2.2.1; omega, by have := HK.out.2.2.2.2; omega⟩, rfl, by go_num, by go_num, (by first | trivial | rfl)⟩
          case measure => have := HKL.out; simp [intOf]; omega
      · have z1 : ¬ (k : Int) < (t.length : Int) := by omega
        have HR : Hid (spot (1, 1) (t.take i.toNat) = (ln, cn)) := Lib.hid (by rw [← HK.out.2.2.1, List.take_of_length_le (by omega), List.take_of_length_le (by omega)])
        go_wp2
        go_ret2
        exact ⟨by rw [HR.out]; rfl, rfl⟩
    · have HR : Hid (spot (1, 1) (t.take i.toNat) = (ln, cn)) := Lib.hid (by
        have := HK.out.2.1
        rw [← HK.out.2.2.1, show i.toNat = k by omega])
      go_wp2
      go_ret2
      exact ⟨by rw [HR.out]; rfl, rfl⟩

/-! ### Join -/
theorem join_snoc : ∀ (l : List (List UInt8)) (x : List UInt8), l ≠ [] → join (l ++ [x]) = join l ++ 32 :: x
  | [], _, h => absurd rfl h
  | [y], x, _ => rfl
  | y :: z :: r, x, _ => by
    show y ++ 32 :: join (z :: r ++ [x]) = (y ++ 32 :: join (z :: r)) ++ 32 :: x
    rw [join_snoc (z :: r) x (by simp), List.append_assoc, List.cons_append]
theorem join_len : ∀ (l : List (List UInt8)) (B : Nat), (∀ x ∈ l, x.length ≤ B) → (join l).length ≤ l.length * (B + 1)
  | [], B, _ => by simp [join]
  | [x], B, h => by have := h x (by simp); simp [join]; omega
  | x :: y :: r, B, h => by
    have h1 := h x (by simp)
    have h2 := join_len (y :: r) B (fun z hz => h z (by simp at hz ⊢; exact .inr hz))
    show (x ++ 32 :: join (y :: r)).length ≤ _
    rw [List.length_append, List.length_cons, List.length_cons (a := x), Nat.succ_mul]
    omega
set_option maxRecDepth 100000 in
set_option maxHeartbeats 2000000 in
theorem refJoin_any (l : List TI) (n c : Nat) (A : Option Addr) (w : World) (hl : Lies w w.heap.size 4 A n c (cellsK l)) (hn : n ≤ 4200) (hx : ∀ t ∈ l, t.text.length ≤ 4200) :
    Calls Tryd.prog 16 #[.slice A n c] w (Is (.string ⟨(join (l.map (·.text))).toArray⟩) w) := by
  have hln := lies_len hl
  have hmost : c ≤ 9223372036854775807 := by have := hl.most; unfold maxLen at this; omega
  have hle := hl.le
  have HLN := Lib.hid hln
  have HL := Lib.hid (fun (j : Nat) (t : TI) (h : l[j]? = some t) => lies_tok hl h)
  have HX := Lib.hid hx
  clear hl hln hx
  go_enter Tryd.func16, Tryd.ntmps16
  go_wp2
  go_loopw [3, 4] (fun sv iv wr => ∃ (i : Nat), Hid (i ≤ n) ∧ sv = .string ⟨(join ((l.map (·.text)).take i)).toArray⟩ ∧ iv = .int .i64 (i : Int) ∧ wr = w) (fun _ iv _ => ((n : Int) - intOf iv).toNat)
  case atStart => exact ⟨0, Lib.hid (Nat.zero_le _), rfl, rfl, rfl⟩
  case round =>
    obtain ⟨i, HI, rfl, rfl, rfl⟩ := hrel
    have z0 : (i : Int) ≤ 4200 := by have := HI.out; omega
    by_cases hi : i < n
    · have z1 : (i : Int) < (n : Int) := by omega
      obtain ⟨t, ht⟩ : ∃ t, l[i]? = some t := ⟨_, List.getElem?_eq_getElem (by rw [HLN.out]; exact hi)⟩
      obtain ⟨b, o, rfl, hb, hcl⟩ := HL.out i t ht
      have hc1 : wr.cell? ⟨b, o + i * 4 + 1, none⟩ = some (.string ⟨t.text.toArray⟩) := by rw [Nat.add_assoc]; exact hcl 1 _ rfl
      have HT : Hid ((l.map (·.text)).take (i + 1) = (l.map (·.text)).take i ++ [t.text]) := Lib.hid (by
        have ht2 : (l.map (·.text))[i]? = some t.text := by rw [List.getElem?_map, ht]; rfl
        rw [List.take_add_one, ht2]; rfl)
      have HIL := Lib.hid hi
      have htx := HX.out t (List.mem_of_getElem? ht)
      have hjl : (join ((l.map (·.text)).take i)).length ≤ 100000000 := by
        have h1 := join_len ((l.map (·.text)).take i) 4200 (fun x hx => by
          obtain ⟨t2, h2, rfl⟩ := List.mem_map.1 (List.mem_of_mem_take hx)
          exact HX.out t2 h2)
        have h2 : ((l.map (·.text)).take i).length ≤ 4200 := by rw [List.length_take, List.length_map, HLN.out]; omega
        have h3 := Nat.mul_le_mul_right 4201 h2
        omega
      clear hcl ht
      by_cases h0 : 0 < i
      · have z2 : (0 : Int) < (i : Int) := by omega
        have HNE : Hid ((l.map (·.text)).take i ≠ []) := Lib.hid (by
          intro e
          have := congrArg List.length e
          rw [List.length_take, List.length_map, HLN.out, List.length_nil] at this
          omega)
        have g1 : ¬ 9223372036854775807 < (join ((l.map (·.text)).take i)).length + 1 := by omega
        have g2 : ¬ 9223372036854775807 < (join ((l.map (·.text)).take i)).length + 1 + t.text.length := by omega
        clear hjl htx
        go_wp2
        go_roundw
        case rel => exact ⟨i + 1, Lib.hid HIL.out, by rw [HT.out, join_snoc _ _ HNE.out]; exact congrArg Value.string (ba_two _ _), by go_num, (by first | trivial | rfl)⟩
        case measure => have := HIL.out; simp [intOf]; omega
      · have z2 : ¬ (0 : Int) < (i : Int) := by omega
        obtain rfl : i = 0 := by omega
        have g1 : ¬ 9223372036854775807 < (join []).length + t.text.length := by show ¬ _ < 0 + _; omega
        clear hjl htx
        go_wp2
        go_roundw
        case rel => exact ⟨1, Lib.hid HIL.out, by rw [HT.out]; exact congrArg Value.string (ba_nil _), by go_num, (by first | trivial | rfl)⟩
        case measure => have := HIL.out; simp [intOf]; omega
    · have z1 : ¬ (i : Int) < (n : Int) := by omega
      have HR : Hid ((l.map (·.text)).take i = l.map (·.text)) := Lib.hid (List.take_of_length_le (by rw [List.length_map, HLN.out]; omega))
      go_wp2
      go_ret
      exact ⟨by rw [HR.out]; rfl, rfl⟩
end Lx
end Go.Proofs.YtjijlepkcghmeaaDoor
