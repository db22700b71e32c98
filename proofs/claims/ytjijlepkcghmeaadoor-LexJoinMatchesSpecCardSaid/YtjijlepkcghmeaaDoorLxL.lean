/- The statements on Tokens, Spot and Join against the reference, walked. Conditions: what the package answers, what came in. -/
import Derived.Test.YtjijlepkcghmeaaDoorLxP
namespace Go.Proofs.YtjijlepkcghmeaaDoor
open Go.RowKit
namespace Lx
open Wire (bv sv Lies)

theorem eqT_refl (wh : Bool) (x : TI) : eqT wh x x = true := by simp [eqT]
theorem sameK_refl (wh : Bool) : ∀ l : List TI, sameK wh l l = true
  | [] => rfl
  | x :: l => by rw [sameK, eqT_refl, sameK_refl wh l]; rfl
theorem refRead (t : List UInt8) (w : World) : Calls Tryd.prog 11 #[.string ⟨t.toArray⟩] w (fun e w' => ∃ A n c, e = .returned (.agg #[.slice A n c, .int .i64 ((read t).at_ : Int), .int .i64 ((read t).err : Int)]) ∧ OwnK w' w.heap.size (.slice A n c) n ((read t).list.map Tok.ti) ∧ Below w.heap.size w w') := by
  have h : Calls Tryd.prog 11 #[.string ⟨t.toArray⟩] w (GivesRd (read t) w) := by
    by_cases hl : 4000 < t.length
    · exact refTokens_long t hl w
    · have := refTokens_any t (Nat.le_of_not_lt hl) w
      unfold read
      rw [if_neg hl]
      exact this
  refine h.mono fun e w' ⟨v, n, he, ho, hb⟩ => ?_
  obtain ⟨A, c, rfl, _⟩ := ho.form
  exact ⟨A, n, c, he, ho, hb⟩
theorem pkgRead {T : World → Prop} (pk : Pkg T) (t : List UInt8) (w : World) (hl : t.length ≤ 1048576) (ht : T w) : Calls Tryd.prog 10 #[.string ⟨t.toArray⟩] w (fun e w' => ∃ A n c, e = .returned (.tuple #[.slice A n c, .int .i64 ((read t).at_ : Int), .int .i64 ((read t).err : Int)]) ∧ OwnK w' w.heap.size (.slice A n c) n ((read t).list.map Tok.ti) ∧ Below w.heap.size w w') := by
  refine (pk.tokens t w hl ht).mono fun e w' ⟨v, n, he, ho, hb⟩ => ?_
  obtain ⟨A, c, rfl, _⟩ := ho.form
  exact ⟨A, n, c, he, ho, hb⟩
theorem same_own {W : World} {b1 b2 : Nat} {A B : Option Addr} {n c k d : Nat} {l m : List TI} (wh : Bool) (h1 : OwnK W b1 (.slice A n c) n l) (h2 : OwnK W b2 (.slice B k d) k m) : Calls Tryd.prog 12 #[.slice A n c, .slice B k d, .bool wh] W (GivesB (sameK wh l m) W) := by
  obtain ⟨A', c', e1, l1⟩ := h1.form
  obtain ⟨B', d', e2, l2⟩ := h2.form
  cases e1
  cases e2
  exact refSameK_any l m n c k d A B wh W l1 l2

set_option maxRecDepth 100000 in
set_option maxHeartbeats 4000000 in
theorem law_tokens {T : World → Prop} (pk : Pkg T) (t : List UInt8) (w : World) (ht : T w) : Calls Tryd.prog 3 #[.string ⟨t.toArray⟩] w (GivesB true w) := by
  have Z := Below.refl w.heap.size w
  have hs := size_of t
  have HSA := Lib.hid (fun W (h : Below w.heap.size w W) => sanity_any pk W (pk.on _ _ h ht))
  by_cases hl : 4100 < t.length
  · have z0 : (4100 : Int) < (t.length : Int) := by omega
    generalize (⟨t.toArray⟩ : ByteArray) = X at *
    clear hl ht
    go_enter Tryd.func3, Tryd.ntmps3
    go_wp2_with (first
      | (go_at_call 9; (with_reducible refine (HSA.out _ Z).mono ?_); rintro e w1 ⟨rfl, hb⟩; replace Z := Wire.bc Z hb; clear hb))
    go_ret
    exact ⟨rfl, Z⟩
  · have z0 : ¬ (4100 : Int) < (t.length : Int) := by omega
    have HT := Lib.hid (fun W (h : Below w.heap.size w W) => pkgRead pk t W (by omega) (pk.on _ _ h ht))
    have HR := Lib.hid (fun W => refRead t W)
    have HSM := Lib.hid (fun W b1 b2 A B n c k d (h1 : OwnK W b1 (.slice A n c) n ((read t).list.map Tok.ti)) (h2 : OwnK W b2 (.slice B k d) k ((read t).list.map Tok.ti)) => (sameK_refl true ((read t).list.map Tok.ti)) ▸ same_own (W := W) true h1 h2)
    generalize (read t).list.map Tok.ti = L at *
    generalize (read t).at_ = p at *
    generalize (read t).err = q at *
    generalize (⟨t.toArray⟩ : ByteArray) = X at *
    clear hl ht
    go_enter Tryd.func3, Tryd.ntmps3
    go_wp2_with (first
      | (go_at_call 9; (with_reducible refine (HSA.out _ Z).mono ?_); rintro e w1 ⟨rfl, hb⟩; replace Z := Wire.bc Z hb; clear hb)
      | (go_at_call 10; (with_reducible refine (HT.out _ Z).mono ?_); rintro e w2 ⟨A, n, c, rfl, ho, hb⟩; have O1 := Lib.hid ho; replace Z := Wire.bc Z hb; clear ho hb)
      | (go_at_call 11; (with_reducible refine (HR.out _).mono ?_); rintro e w3 ⟨B, k, d, rfl, ho, hb⟩; replace O1 := Lib.hid (O1.out.on hb); have O2 := Lib.hid ho; replace Z := Wire.bc Z hb; clear ho hb)
      | (go_at_call 12; (with_reducible refine (HSM.out _ _ _ _ _ _ _ _ _ (O1.out.on (Wire.b1 _ _)) (O2.out.on (Wire.b1 _ _))).mono ?_); rintro e w4 ⟨rfl, hb⟩; replace Z := Wire.bc (Wire.bc Z (Wire.b1 _ _)) hb; clear hb))
    go_ret
    exact ⟨rfl, Z⟩

set_option maxRecDepth 100000 in
set_option maxHeartbeats 4000000 in
theorem law_spot {T : World → Prop} (pk : Pkg T) (t : List UInt8) (i : Int) (hi1 : -9223372036854775808 ≤ i) (hi2 : i ≤ 9223372036854775807) (w : World) (ht : T w) : Calls Tryd.prog 4 #[.string ⟨t.toArray⟩, .int .i64 i] w (GivesB true w) := by
  have Z := Below.refl w.heap.size w
  have hs := size_of t
  have HSA := Lib.hid (fun W (h : Below w.heap.size w W) => sanity_any pk W (pk.on _ _ h ht))
  by_cases hl : 4100 < t.length
  · have z0 : (4100 : Int) < (t.length : Int) := by omega
    generalize (⟨t.toArray⟩ : ByteArray) = X at *
    clear hl ht
    go_enter Tryd.func4, Tryd.ntmps4
    go_wp2_with (first
      | (go_at_call 9; (with_reducible refine (HSA.out _ Z).mono ?_); rintro e w1 ⟨rfl, hb⟩; replace Z := Wire.bc Z hb; clear hb))
    go_ret
    exact ⟨rfl, Z⟩
  · have z0 : ¬ (4100 : Int) < (t.length : Int) := by omega
    have HT := Lib.hid (fun W (h : Below w.heap.size w W) => pk.spot t i W (by omega) hi1 hi2 (pk.on _ _ h ht))
    have HR := Lib.hid (fun W => refSpot_any t i (by omega) W)
    generalize (spot (1, 1) (t.take i.toNat)).1 = p at *
    generalize (spot (1, 1) (t.take i.toNat)).2 = q at *
    generalize (⟨t.toArray⟩ : ByteArray) = X at *
    clear hl ht
    go_enter Tryd.func4, Tryd.ntmps4
    go_wp2_with (first
      | (go_at_call 9; (with_reducible refine (HSA.out _ Z).mono ?_); rintro e w1 ⟨rfl, hb⟩; replace Z := Wire.bc Z hb; clear hb)
      | (go_at_call 13; (with_reducible refine (HT.out _ Z).mono ?_); rintro e w2 ⟨rfl, hb⟩; replace Z := Wire.bc Z hb; clear hb)
      | (go_at_call 14; (with_reducible refine (HR.out _).mono ?_); rintro e w3 ⟨rfl, rfl⟩))
    go_ret
    exact ⟨rfl, Z⟩

set_option maxRecDepth 100000 in
set_option maxHeartbeats 4000000 in
theorem law_join {T : World → Prop} (pk : Pkg T) (l : List TI) (n c : Nat) (A : Option Addr) (w : World) (hl : Lies w w.heap.size 4 A n c (cellsK l)) (ht : T w) : Calls Tryd.prog 5 #[.slice A n c] w (GivesB true w) := by
  have Z := Below.refl w.heap.size w
  have hln := lies_len hl
  have hmost : c ≤ 9223372036854775807 := by have := hl.most; unfold maxLen at this; omega
  have hle := hl.le
  have HLN := Lib.hid hln
  have HSA := Lib.hid (fun W (h : Below w.heap.size w W) => sanity_any pk W (pk.on _ _ h ht))
  have HL := Lib.hid (fun (j : Nat) (t : TI) (h : l[j]? = some t) => lies_tok hl h)
  by_cases hn : 400 < n
  · have z0 : (400 : Int) < (n : Int) := by omega
    clear hl ht hln hn HL HLN
    go_enter Tryd.func5, Tryd.ntmps5
    go_wp2_with (first
      | (go_at_call 9; (with_reducible refine (HSA.out _ Z).mono ?_); rintro e w1 ⟨rfl, hb⟩; replace Z := Wire.bc Z hb; clear hb))
    go_ret
    exact ⟨rfl, Z⟩
  · have z0 : ¬ (400 : Int) < (n : Int) := by omega
    have HJ := Lib.hid (fun W (h : Below w.heap.size w W) (hx : ∀ t ∈ l, t.text.length ≤ 100) => pk.join l n c A W ((hl.below h).more h.size) (by omega) (fun t htm => Nat.le_trans (hx t htm) (by decide)) (pk.on _ _ h ht))
    have HR := Lib.hid (fun W (h : Below w.heap.size w W) (hx : ∀ t ∈ l, t.text.length ≤ 100) => refJoin_any l n c A W ((hl.below h).more h.size) (by omega) (fun t htm => Nat.le_trans (hx t htm) (by decide)))
    generalize Lx.join (l.map (·.text)) = J at *
    clear hl ht hln hn
    go_enter Tryd.func5, Tryd.ntmps5
    go_wp2_with (first
      | (go_at_call 9; (with_reducible refine (HSA.out _ Z).mono ?_); rintro e w1 ⟨rfl, hb⟩; replace Z := Wire.bc Z hb; clear hb))
    go_loopw [4] (fun iv wr => ∃ (i : Nat), Hid (i ≤ n ∧ ∀ j t, j < i → l[j]? = some t → t.text.length ≤ 100) ∧ iv = .int .i64 (i : Int) ∧ Below w.heap.size w wr) (fun iv _ => ((n : Int) - intOf iv).toNat)
    case atStart => exact ⟨0, Lib.hid ⟨Nat.zero_le _, fun j t h => absurd h (Nat.not_lt_zero _)⟩, rfl, Z⟩
    case round =>
      clear Z
      obtain ⟨i, HI, rfl, Z⟩ := hrel
      by_cases hi : i < n
      · have z1 : (i : Int) < (n : Int) := by omega
        have z2 : (0 : Int) ≤ (i : Int) := by omega
        obtain ⟨t, htt⟩ : ∃ t, l[i]? = some t := ⟨_, List.getElem?_eq_getElem (by rw [HLN.out]; exact hi)⟩
        obtain ⟨b, o, rfl, hb, hcl⟩ := HL.out i t htt
        have hc1 : wr.cell? ⟨b, o + i * 4 + 1, none⟩ = some (.string ⟨t.text.toArray⟩) := by rw [Nat.add_assoc, Z.cell (p := ⟨b, o + (i * 4 + 1), none⟩) hb]; exact hcl 1 _ rfl
        have hts := size_of t.text
        have HIL := Lib.hid hi
        by_cases hx : 100 < t.text.length
        · have z3 : (100 : Int) < (t.text.length : Int) := by omega
          clear hcl htt hi
          generalize (⟨t.text.toArray⟩ : ByteArray) = X at *
          go_wp2
          go_ret
          exact ⟨rfl, Z⟩
        · have z3 : ¬ (100 : Int) < (t.text.length : Int) := by omega
          have HN : Hid (∀ j u, j < i + 1 → l[j]? = some u → u.text.length ≤ 100) := Lib.hid (fun j u hj hu => by
            rcases Nat.lt_or_ge j i with h | h
            · exact HI.out.2 j u h hu
            · obtain rfl : j = i := by omega
              rw [htt] at hu
              cases hu
              exact Nat.le_of_not_lt hx)
          clear hcl htt hi hx
          generalize (⟨t.text.toArray⟩ : ByteArray) = X at *
          go_wp2
          go_roundw
          case rel => exact ⟨i + 1, Lib.hid ⟨HIL.out, HN.out⟩, by go_num, Z⟩
          case measure => have := HIL.out; simp [intOf]; omega
      · have z1 : ¬ (i : Int) < (n : Int) := by omega
        have HX : Hid (∀ t ∈ l, t.text.length ≤ 100) := Lib.hid (fun t htm => by
          obtain ⟨j, hj⟩ := List.getElem?_of_mem htm
          have := (List.getElem?_eq_some_iff.1 hj).1
          exact HI.out.2 j t (by rw [HLN.out] at this; omega) hj)
        clear hi
        go_wp2_with (first
          | (go_at_call 15; (with_reducible refine (HJ.out _ Z HX.out).mono ?_); rintro e w2 ⟨rfl, hb⟩; replace Z := Wire.bc Z hb; clear hb)
          | (go_at_call 16; (with_reducible refine (HR.out _ Z HX.out).mono ?_); rintro e w3 ⟨rfl, rfl⟩))
        go_ret
        exact ⟨by simp, Z⟩
end Lx
end Go.Proofs.YtjijlepkcghmeaaDoor
