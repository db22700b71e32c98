/- The walk of FieldInterpolates. Conditions: the slices read as lists. -/
import Derived.Test.YtfeifmcgcgmhnaaFApp
import Derived.Test.YtfeifmcgcgmhnaaFLawP
namespace Go.Proofs.Ytfeifmcgcgmhnaa
open Go.RowKit
namespace Gf
open Wire (Lies bv own_below fresh_one bytes_one)

/-- The values of a polynomial at the first k elements. -/
def vals (p xs : List UInt8) (k : Nat) : List UInt8 := (xs.take k).map fun x => eval x p
theorem vals_next {p xs : List UInt8} {k : Nat} {a : UInt8} (h : xs[k]? = some a) : vals p xs (k + 1) = vals p xs k ++ [eval a p] := by
  unfold vals
  rw [List.take_add_one, h, List.map_append]; rfl

set_option maxRecDepth 100000 in
set_option maxHeartbeats 2000000 in
theorem interLaw (p xs : List UInt8) (x : UInt8) (n c m d : Nat) (A B : Option Addr) (w : World) (hl : Lies w w.heap.size 1 A n c (p.map bv)) (hy : Lies w w.heap.size 1 B m d (xs.map bv)) :
    Calls Try.prog 6 #[.slice A n c, .slice B m d, .int .u8 (x.toNat : Int)] w (Tells true w) := by
  have HS := Lib.hid sanity_any
  have HFW := Lib.hid (few_any n c m d A B)
  have Z := Below.refl w.heap.size w
  obtain ⟨i0, hi, hz0, hz1, hz2⟩ := info_parts byte_info
  by_cases hfew : n ≤ 40 ∧ m ≤ 40
  · rw [decide_eq_true hfew] at HFW
    by_cases hnm : n = m
    · subst hnm
      have hn40 := hfew.1
      have hpn : p.length = n := by have := hl.len; simpa using this
      have hxn : xs.length = n := by have := hy.len; simpa using this
      have HPN := Lib.hid hpn
      have HXN := Lib.hid hxn
      have HL := Lib.hid hl
      have HY := Lib.hid hy
      have hmost : d ≤ 9223372036854775807 := by have := hy.most; unfold maxLen at this; omega
      have hle := hy.le
      clear hfew hpn hxn hl hy
      go_enter Try.func6, Try.ntmps6
      go_wp2_with (first
        | (go_at_call 16; (with_reducible refine (HFW.out _).mono ?_); rintro e w0 ⟨rfl, hb⟩; replace Z := bcj Z hb; clear hb))
      have hsz0 := Z.size
      go_loopw [8, 9] (fun v iv wr => ∃ (k : Nat), k ≤ n ∧ iv = .int .i64 (k : Int) ∧ wr.ownsRow w0.heap.size 5 1 v k ((vals p xs k).map bv) ∧ Below w0.heap.size w0 wr) (fun _ iv _ => (n - intOf iv).toNat)
      case atStart => exact ⟨0, by omega, rfl, World.ownsRow_nil _ _ _ _, Below.refl _ _⟩
      case round =>
        obtain ⟨k, hk, rfl, hown, hbw⟩ := hrel
        by_cases hlt : k < n
        · have z0 : (0 : Int) ≤ (k : Int) := by omega
          have z1 : (k : Int) < (n : Int) := by omega
          have hbW := Z.trans (hbw.mono hsz0)
          obtain ⟨b, o, u, rfl, hbb, hu, hcx⟩ := (HY.out.below hbW).at_ hlt
          obtain ⟨a, ha⟩ : ∃ a, xs[k]? = some a := ⟨_, List.getElem?_eq_getElem (by rw [HXN.out]; exact hlt)⟩
          rw [List.getElem?_map, ha] at hu
          cases hu
          unfold bv at hcx
          have HVN := Lib.hid (vals_next (p := p) ha)
          have HE := Lib.hid (eval_any p a n c A wr (lies_up (HL.out.below hbW) hbW.size))
          have HO := Lib.hid hown
          have hown3 := hown.lt
          have fin : ∀ v' w' wm (E : UInt8), vals p xs (k + 1) = vals p xs k ++ [E] → Below wr.heap.size wr wm → w'.ownsRow w0.heap.size 5 1 v' (k + 1) ((vals p xs k).map bv ++ [bv E]) → (wm.alloc (.cells #[bv E] 5)).grownBy w' u8.ownBlock →
              ∃ (j : Nat), j ≤ n ∧ Value.int .i64 ((k : Int) + 1) = .int .i64 (j : Int) ∧ w'.ownsRow w0.heap.size 5 1 v' j ((vals p xs j).map bv) ∧ Below w0.heap.size w0 w' := by
            intro v' w' wm E he hm h1 h2
            have hB2 := hbw.trans (hm.mono hbw.size)
            exact ⟨k + 1, by omega, by go_num, by rw [he, List.map_append]; exact h1, (hB2.alloc hB2.size _).grown h2 (by have := hB2.size; simp; omega) (fun p hp => (hown3 p hp).1)⟩
          have FIN := Lib.hid fin
          clear ha hown hown3 fin
          generalize eval a p = E at HE HVN
          go_wp2_with (first
            | (go_at_call 23; (with_reducible refine HE.out.mono ?_); rintro e w2 ⟨rfl, hb2⟩)
            | (at_builtin; refine wpList_append_own _ rfl (.tmp 33) (.tmp 40) _ rfl w0.heap.size 5 i0 (.int .u8 0) 1 1 Try.underlying30 hi hz0 hz1 hz2 rfl (by decide) _ k _ rfl ((own_below HO.out hb2).alloc _) ⟨w2.heap.size, 0, none⟩ 1 1 [.int .u8 (E.toNat : Int)] rfl rfl (fresh_one _ _ _) (by intro u hu; simp at hu; subst hu; rfl) (by unfold maxLen; omega) (by omega) (by have := hbw.size; have := hb2.size; simp; omega) ?_; intro v4 w4 ho4 hg4 _))
          go_roundw
          case rel => exact FIN.out _ _ _ _ HVN.out hb2 ho4 hg4
          case measure => simp [intOf]; omega
        · obtain rfl : k = n := by omega
          have z1 : ¬ (k : Int) < (k : Int) := by omega
          have hv : vals p xs k = xs.map fun x => eval x p := by unfold vals; rw [List.take_of_length_le (by rw [HXN.out]; omega)]
          obtain ⟨A3, c3, rfl, hl3⟩ := own_lies hown
          have hbW := Z.trans (hbw.mono hsz0)
          have hl := (lies_up (HL.out.below hbW) hbW.size)
          have hy := (lies_up (HY.out.below hbW) hbW.size)
          clear Z hbw hown
          have HT : ((∀ W, Lies W W.heap.size 1 B k d (xs.map bv) → Lies W W.heap.size 1 A3 k c3 ((vals p xs k).map bv) → Calls Try.prog 21 #[.slice B k d, .slice A3 k c3] W (GivesM p 0 W)) ∧
              (∀ W, Lies W W.heap.size 1 B k d (xs.map bv) → Lies W W.heap.size 1 A3 k c3 ((vals p xs k).map bv) → Calls Try.prog 19 #[.slice B k d, .slice A3 k c3, .int .u8 (x.toNat : Int)] W (GivesE (eval x p) 0 W))) ∨
              ((∀ W, Lies W W.heap.size 1 B k d (xs.map bv) → Lies W W.heap.size 1 A3 k c3 ((vals p xs k).map bv) → Calls Try.prog 21 #[.slice B k d, .slice A3 k c3] W (GivesN 1 W)) ∧
              (∀ W, Lies W W.heap.size 1 B k d (xs.map bv) → Lies W W.heap.size 1 A3 k c3 ((vals p xs k).map bv) → Calls Try.prog 19 #[.slice B k d, .slice A3 k c3, .int .u8 (x.toNat : Int)] W (GivesE 0 1 W))) := by
            rw [hv]
            by_cases hf : fit xs
            · refine .inl ⟨fun W h1 h2 => ?_, fun W h1 h2 => ?_⟩
              · have h := coefficients_any xs (xs.map fun x => eval x p) k d c3 B A3 W h1 h2 hf
                rw [coeff_eval hf.2.2 (by rw [HPN.out, HXN.out])] at h
                exact h
              · have h := interpolate_any xs (xs.map fun x => eval x p) x k d c3 B A3 W h1 h2 hf
                rw [interp_eval hf.2.2 (by rw [HPN.out, HXN.out])] at h
                exact h
            · exact .inr ⟨fun W h1 h2 => coefficients_bad xs k d c3 B A3 W h1 hf, fun W h1 h2 => interpolate_bad xs x k d c3 B A3 W h1 hf⟩
          have HEV := Lib.hid (fun W h => eval_any p x k c A W h)
          clear hv
          rcases HT with ⟨ht1, ht2⟩ | ⟨ht1, ht2⟩
          · have H1 := Lib.hid ht1
            have H2 := Lib.hid ht2
            clear ht1 ht2
            generalize eval x p = E at *
            go_wp2_with (first
              | (go_at_call 21; (with_reducible refine (H1.out _ hy hl3).mono ?_); rintro e w1 ⟨A5, n5, c5, rfl, r5, hb⟩; replace hbW := bcj hbW hb; replace hl := hl.on hb; replace hy := hy.on hb; replace hl3 := hl3.on hb; clear hb)
              | (go_at_call 19; (with_reducible refine (H2.out _ hy hl3).mono ?_); rintro e w3 ⟨rfl, hb⟩; replace hbW := bcj hbW hb; replace hl := hl.on hb; replace r5 := r5.on hb; clear hb hy hl3)
              | (go_at_call 13; (with_reducible refine (HS.out _).mono ?_); rintro e w7 ⟨rfl, hb⟩; replace hbW := bcj hbW hb; replace hl := hl.on hb; replace r5 := r5.on hb; clear hb)
              | (go_at_call 25; (with_reducible refine (same_any _ _ _ _ _ _ _ _ r5 hl).mono ?_); rintro e w10 ⟨rfl, hb⟩; replace hbW := bcj hbW hb; replace hl := hl.on hb; clear hb r5)
              | (go_at_call 23; (with_reducible refine (HEV.out _ hl).mono ?_); rintro e w8 ⟨rfl, hb⟩; replace hbW := bcj hbW hb; clear hb hl))
            go_ret
            exact ⟨rfl, hbW⟩
          · have H1 := Lib.hid ht1
            have H2 := Lib.hid ht2
            clear HEV ht1 ht2
            go_wp2_with (first
              | (go_at_call 21; (with_reducible refine (H1.out _ hy hl3).mono ?_); rintro e w1 ⟨rfl, hb⟩; replace hbW := bcj hbW hb; replace hl := hl.on hb; replace hy := hy.on hb; replace hl3 := hl3.on hb; clear hb)
              | (go_at_call 19; (with_reducible refine (H2.out _ hy hl3).mono ?_); rintro e w3 ⟨rfl, hb⟩; replace hbW := bcj hbW hb; clear hb hy hl3 hl)
              | (go_at_call 13; (with_reducible refine (HS.out _).mono ?_); rintro e w7 ⟨rfl, hb⟩; replace hbW := bcj hbW hb; clear hb))
            go_ret
            exact ⟨rfl, hbW⟩
    · have hnm2 : ¬ (n : Int) = (m : Int) := by omega
      clear hfew hl hy
      go_enter Try.func6, Try.ntmps6
      go_wp2_with (first
        | (go_at_call 16; (with_reducible refine (HFW.out _).mono ?_); rintro e w0 ⟨rfl, hb⟩; replace Z := bcj Z hb; clear hb)
        | (go_at_call 13; (with_reducible refine (HS.out _).mono ?_); rintro e w7 ⟨rfl, hb⟩; replace Z := bcj Z hb; clear hb))
      go_ret
      exact ⟨rfl, Z⟩
  · rw [decide_eq_false hfew] at HFW
    clear hfew hl hy
    go_enter Try.func6, Try.ntmps6
    go_wp2_with (first
      | (go_at_call 16; (with_reducible refine (HFW.out _).mono ?_); rintro e w0 ⟨rfl, hb⟩; replace Z := bcj Z hb; clear hb)
      | (go_at_call 13; (with_reducible refine (HS.out _).mono ?_); rintro e w7 ⟨rfl, hb⟩; replace Z := bcj Z hb; clear hb))
    go_ret
    exact ⟨rfl, Z⟩
end Gf
end Go.Proofs.Ytfeifmcgcgmhnaa
