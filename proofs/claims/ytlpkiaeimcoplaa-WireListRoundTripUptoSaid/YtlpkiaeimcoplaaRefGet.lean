/- What the reference's GetInt returns. Condition: the slice's cells are bytes and lie where they are said to lie. -/
import Derived.Test.YtlpkiaeimcoplaaRefInt
import Derived.Test.YtlpkiaeimcoplaaGet
import Derived.Test.YtlpkiaeimcoplaaCanonW
import Derived.Deep.RegionWith
namespace Go.Proofs.Ytlpkiaeimcoplaa
open Go.RowKit
namespace Wire

/-- Three results; the memory that was there is as it was. -/
def GotB (w : World) (r : Except Nat (Int × Nat)) (e : Ending) (w' : World) : Prop := e = .returned (res r) ∧ Below w.heap.size w w'

theorem val_take_le {T : Bool} {i k : Nat} (t : List UInt8) (h : i ≤ k) : val ((t.take i).map (flip T)) ≤ val ((t.take k).map (flip T)) := by
  obtain ⟨d, rfl⟩ : ∃ d, k = i + d := ⟨k - i, by omega⟩
  clear h
  induction d with
  | zero => exact Nat.le_refl _
  | succ d ih =>
    rw [← Nat.add_assoc, List.take_add_one]
    cases hx : t[i + d]? with
    | none => simpa using ih
    | some x =>
      simp only [Option.toList_some, List.map_append, List.map_cons, List.map_nil, val_snoc]
      omega

set_option maxRecDepth 100000 in
set_option maxHeartbeats 2000000 in
theorem refGet_true (h : UInt8) (t : List UInt8) (n c : Nat) (A : Option Addr) (w : World) (hl : Lies w w.heap.size 1 A n c ((h :: t).map bv)) (hn : hneg h = true) :
    Calls Try.prog 25 #[.slice A n c] w (GotB w (dec (h :: t))) := by
  have hln := hl.len
  have hle := hl.le
  have hmost : c ≤ 9223372036854775807 := by have := hl.most; unfold maxLen at this; omega
  simp at hln
  obtain ⟨b, o, rfl, -, -⟩ := hl.cells (by omega)
  have hc0 := hl.cell rfl 0 h rfl
  simp at hc0
  have hh := u8_lt h
  have hlt : (h.toNat : Int) < 128 := by simp [hneg] at hn; omega
  obtain ⟨k, hk⟩ : ∃ k, k = hlen h := ⟨_, rfl⟩
  have hkk : (127 : Int) - (h.toNat : Int) = (k : Int) := by rw [hk]; unfold hlen; rw [if_pos (by omega)]; omega
  have hn1 : ¬ (n : Int) = 0 := by omega
  have hk128 : k ≤ 127 := by omega
  by_cases h8 : 8 < k
  · have hd : dec (h :: t) = .error 6 := dec_far (by rw [← hk]; exact h8)
    have hr : (h.toNat : Int) < 119 := by omega
    
    have HD := Lib.hid hd; clear hd hk hn hln
    go_enter Try.func25, Try.ntmps25
    go_wp2
    go_ret3
    exact ⟨by rw [HD.out]; rfl, Below.refl _ _⟩
  · have hr1 : ¬ (h.toNat : Int) < 119 := by omega
    have hr2 : ¬ (136 : Int) < (h.toNat : Int) := by omega
    by_cases h2 : t.length < k
    · have hd : dec (h :: t) = .error 5 := dec_less (by rw [← hk]; exact h8) (by rw [← hk]; exact h2)
      have h2' : (n : Int) < (k : Int) + 1 := by omega
      have HD := Lib.hid hd; clear hd hk hn hln
      go_enter Try.func25, Try.ntmps25
      go_wp2
      go_ret3
      exact ⟨by rw [HD.out]; rfl, Below.refl _ _⟩
    · have h2' : ¬ (n : Int) < (k : Int) + 1 := by omega
      have h2'' : k + 1 ≤ n := by omega
      have hbad : ∀ i, i ≤ k → 9223372036854775807 < val ((t.take i).map (flip true)) → dec (h :: t) = .error 6 := by
        intro i hi hv
        refine dec_bad (by rw [← hk]; exact h8) (by rw [← hk]; exact h2) (.inr ?_)
        rw [← hk, hn]
        exact Nat.lt_of_lt_of_le hv (val_take_le _ hi)
      have hfull : ∀ m, m = val ((t.take k).map (flip true)) → m ≤ 9223372036854775807 → (enc (-1 - (m : Int)) = (h :: t).take (k + 1) → dec (h :: t) = .ok (-1 - (m : Int), 1 + k)) ∧ (¬ enc (-1 - (m : Int)) = (h :: t).take (k + 1) → dec (h :: t) = .error 6) := by
        intro m hm hm8
        constructor
        · intro he
          have hd := dec_enc (n := -1 - (m : Int)) (by omega) ((h :: t).drop (k + 1))
          rw [he, List.take_append_drop, List.length_take] at hd
          rw [hd]
          congr 2
          simp; omega
        · intro he
          by_cases hb : (0 < hlen h ∧ t.head? = some (flip (hneg h) 0)) ∨ 9223372036854775807 < val ((t.take (hlen h)).map (flip (hneg h)))
          · exact dec_bad (by rw [← hk]; exact h8) (by rw [← hk]; exact h2) hb
          · have hd := dec_good (by rw [← hk]; exact h8) (by rw [← hk]; exact h2) hb
            have ht := dec_take hd
            rw [← hk, hn, ← hm] at ht
            exact absurd (by rw [Nat.add_comm k 1]; exact ht) he
      have HFULL := Lib.hid hfull; clear hfull
      have HBAD := Lib.hid hbad; clear hbad
      have HLN := Lib.hid hln; clear hln
      have HK := Lib.hid hk; clear hk
      have HN := Lib.hid hn; clear hn
      go_enter Try.func25, Try.ntmps25
      go_wp2
      go_loop [7, 8] (fun mv iv => ∃ (i : Nat) (s : Int), i ≤ k ∧ s = (i : Int) + 1 ∧ iv = .int .i64 s ∧ mv = .int .i64 ((val ((t.take i).map (flip true)) : Nat) : Int) ∧ val ((t.take i).map (flip true)) ≤ 9223372036854775807) (fun _ iv => (k + 1 - (intOf iv)).toNat)
      case atStart => exact ⟨0, 1, by omega, rfl, rfl, rfl, by simp [val_nil]⟩
      case round =>
        obtain ⟨i, s, hi, hs, rfl, rfl, hm9⟩ := hrel
        obtain ⟨m, hm⟩ : ∃ m, m = val ((t.take i).map (flip true)) := ⟨_, rfl⟩
        rw [← hm] at hm9 ⊢
        by_cases hik : i < k
        · obtain ⟨x, hx⟩ : ∃ x, t[i]? = some x := ⟨t[i]'(by have := HLN.out; omega), List.getElem?_eq_getElem _⟩
          have hcx := hl.cell rfl (i + 1) x (by simpa using hx)
          have hfl : (255 : Int) - (x.toNat : Int) = ((flip true x).toNat : Int) := by simp only [flip, if_true, sub_toNat]; have := u8_lt x; omega
          have hf := u8_lt (flip true x)
          have hvs : val ((t.take (i + 1)).map (flip true)) = m * 256 + (flip true x).toNat := by
            rw [List.take_add_one, hx, hm]; simp [val_snoc]
          obtain rfl : s = ((i + 1 : Nat) : Int) := by omega
          have hsk : ((i + 1 : Nat) : Int) ≤ (k : Int) := by omega
          have hsn : ((i + 1 : Nat) : Int) < (n : Int) := by omega
          have HX := Lib.hid hx; clear hx
          have HM := Lib.hid hm; clear hm
          by_cases hmb : 36028797018963967 < m
          · have hd := HBAD.out (i + 1) (by omega) (by rw [hvs]; omega)
            have hmi : (36028797018963967 : Int) < m := by omega
            have HD := Lib.hid hd; clear hd hmb
            have HV := Lib.hid hvs; clear hvs
            go_wp2
            go_ret3
            exact ⟨by rw [HD.out]; rfl, Below.refl _ _⟩
          · have hmi : ¬ (36028797018963967 : Int) < m := by omega
            have hx255 := u8_lt x
            have hv2 : (256 : Int) * m + ((flip true x).toNat : Int) = ((val ((t.take (i + 1)).map (flip true)) : Nat) : Int) := by
              rw [hvs]
              show _ = ((m * 256 + (flip true x).toNat : Nat) : Int)
              omega
            have hv3 : val ((t.take (i + 1)).map (flip true)) ≤ 9223372036854775807 := by rw [hvs]; omega
            have HV2 := Lib.hid hv2; clear hv2 hmb
            have HV3 := Lib.hid hv3; clear hv3
            have HV := Lib.hid hvs; clear hvs
            go_wp2
            go_round
            case rel => exact ⟨i + 1, _, by omega, rfl, rfl, by rw [HV2.out], HV3.out⟩
            case measure => simp [intOf]; omega
        · obtain rfl : i = k := by omega
          obtain rfl : s = (i : Int) + 1 := by omega
          obtain ⟨hy, hno⟩ := HFULL.out m hm hm9
          have HM := Lib.hid hm; clear hm
          have hrg : -9223372036854775808 ≤ -1 - (m : Int) ∧ -1 - (m : Int) ≤ 9223372036854775807 := by omega
          have IR := fun W => Lib.hid (refInt_any (-1 - (m : Int)) W hrg)
          have hf := hl.first (u := i + 1) (by omega)
          have same : ∀ (B : Bool), decide (enc (-1 - (m : Int)) = (h :: t).take (i + 1)) = B → ∀ (W : World) (g cap : Nat), Lies W W.heap.size 1 (some ⟨g, 0, none⟩) (enc (-1 - (m : Int))).length cap ((enc (-1 - (m : Int))).map bv) → Below w.heap.size w W →
              Calls Try.prog 13 #[.slice (some ⟨g, 0, none⟩) (enc (-1 - (m : Int))).length cap, .slice (some ⟨b, o, none⟩) (i + 1) c] W fun e w' => e = .returned (.bool B) ∧ Below W.heap.size W w' := fun B hB W g cap q hb =>
            (same_bytes _ _ _ _ _ _ _ _ _ _ q (hf.on hb)).mono fun e w' ⟨he, kk, hw⟩ => ⟨by rw [he, hB], by rw [hw]; exact bd W kk⟩
          have j0 : (0 : Int) ≤ (i : Int) + 1 := by omega
          have j1 : (i : Int) + 1 ≤ (c : Int) := by omega
          by_cases he : enc (-1 - (m : Int)) = (h :: t).take (i + 1)
          · have hd := hy he
            have SAME := Lib.hid (same true (decide_eq_true he))
            have HD := Lib.hid hd
            clear hd hy hno same he
            go_wp2
            have hw1 : IntKind.i64.wrap ((i : Int) + 1) = (i : Int) + 1 := IntWalk.i64_in _ (by omega)
            have htn : ((i : Int) + 1).toNat = i + 1 := by omega
            go_region_with (first
              | (go_at_call 15; (with_reducible refine (IR _).out.mono ?_); rintro e w1 hM; obtain ⟨g1, cap1, rfl, hb1, q1⟩ := made_row hM; clear hM; have hbz : Below w.heap.size w w1 := ⟨hb1.os, hb1.tape, hb1.output, hb1.size, hb1.block⟩)
              | (go_at_call 13; (with_reducible refine (SAME.out _ _ _ q1 hbz).mono ?_); rintro e w2 ⟨rfl, hb2⟩))
            all_goals
              clear hw1 htn
              go_wp2
              go_ret3
              exact ⟨by rw [HD.out]; simp only [res]; congr 2; simp; omega, bc hbz hb2⟩
          · have hd := hno he
            have SAME := Lib.hid (same false (decide_eq_false he))
            have HD := Lib.hid hd
            clear hd hy hno same he
            go_wp2
            have hw1 : IntKind.i64.wrap ((i : Int) + 1) = (i : Int) + 1 := IntWalk.i64_in _ (by omega)
            have htn : ((i : Int) + 1).toNat = i + 1 := by omega
            go_region_with (first
              | (go_at_call 15; (with_reducible refine (IR _).out.mono ?_); rintro e w1 hM; obtain ⟨g1, cap1, rfl, hb1, q1⟩ := made_row hM; clear hM; have hbz : Below w.heap.size w w1 := ⟨hb1.os, hb1.tape, hb1.output, hb1.size, hb1.block⟩)
              | (go_at_call 13; (with_reducible refine (SAME.out _ _ _ q1 hbz).mono ?_); rintro e w2 ⟨rfl, hb2⟩))
            all_goals
              clear hw1 htn
              go_wp2
              go_ret3
              exact ⟨by rw [HD.out]; rfl, bc hbz hb2⟩

set_option maxRecDepth 100000 in
set_option maxHeartbeats 2000000 in
theorem refGet_false (h : UInt8) (t : List UInt8) (n c : Nat) (A : Option Addr) (w : World) (hl : Lies w w.heap.size 1 A n c ((h :: t).map bv)) (hn : hneg h = false) :
    Calls Try.prog 25 #[.slice A n c] w (GotB w (dec (h :: t))) := by
  have hln := hl.len
  have hle := hl.le
  have hmost : c ≤ 9223372036854775807 := by have := hl.most; unfold maxLen at this; omega
  simp at hln
  obtain ⟨b, o, rfl, -, -⟩ := hl.cells (by omega)
  have hc0 := hl.cell rfl 0 h rfl
  simp at hc0
  have hh := u8_lt h
  have hlt : ¬ (h.toNat : Int) < 128 := by simp [hneg] at hn; omega
  obtain ⟨k, hk⟩ : ∃ k, k = hlen h := ⟨_, rfl⟩
  have hkk : (h.toNat : Int) - 128 = (k : Int) := by rw [hk]; unfold hlen; rw [if_neg (by omega)]; omega
  have hn1 : ¬ (n : Int) = 0 := by omega
  have hk128 : k ≤ 127 := by omega
  by_cases h8 : 8 < k
  · have hd : dec (h :: t) = .error 6 := dec_far (by rw [← hk]; exact h8)
    have hr : (136 : Int) < (h.toNat : Int) := by omega
    have hr2 : ¬ (h.toNat : Int) < 119 := by omega
    have HD := Lib.hid hd; clear hd hk hn hln
    go_enter Try.func25, Try.ntmps25
    go_wp2
    go_ret3
    exact ⟨by rw [HD.out]; rfl, Below.refl _ _⟩
  · have hr1 : ¬ (h.toNat : Int) < 119 := by omega
    have hr2 : ¬ (136 : Int) < (h.toNat : Int) := by omega
    by_cases h2 : t.length < k
    · have hd : dec (h :: t) = .error 5 := dec_less (by rw [← hk]; exact h8) (by rw [← hk]; exact h2)
      have h2' : (n : Int) < (k : Int) + 1 := by omega
      have HD := Lib.hid hd; clear hd hk hn hln
      go_enter Try.func25, Try.ntmps25
      go_wp2
      go_ret3
      exact ⟨by rw [HD.out]; rfl, Below.refl _ _⟩
    · have h2' : ¬ (n : Int) < (k : Int) + 1 := by omega
      have h2'' : k + 1 ≤ n := by omega
      have hbad : ∀ i, i ≤ k → 9223372036854775807 < val ((t.take i).map (flip false)) → dec (h :: t) = .error 6 := by
        intro i hi hv
        refine dec_bad (by rw [← hk]; exact h8) (by rw [← hk]; exact h2) (.inr ?_)
        rw [← hk, hn]
        exact Nat.lt_of_lt_of_le hv (val_take_le _ hi)
      have hfull : ∀ m, m = val ((t.take k).map (flip false)) → m ≤ 9223372036854775807 → (enc ((m : Int)) = (h :: t).take (k + 1) → dec (h :: t) = .ok ((m : Int), 1 + k)) ∧ (¬ enc ((m : Int)) = (h :: t).take (k + 1) → dec (h :: t) = .error 6) := by
        intro m hm hm8
        constructor
        · intro he
          have hd := dec_enc (n := (m : Int)) (by omega) ((h :: t).drop (k + 1))
          rw [he, List.take_append_drop, List.length_take] at hd
          rw [hd]
          congr 2
          simp; omega
        · intro he
          by_cases hb : (0 < hlen h ∧ t.head? = some (flip (hneg h) 0)) ∨ 9223372036854775807 < val ((t.take (hlen h)).map (flip (hneg h)))
          · exact dec_bad (by rw [← hk]; exact h8) (by rw [← hk]; exact h2) hb
          · have hd := dec_good (by rw [← hk]; exact h8) (by rw [← hk]; exact h2) hb
            have ht := dec_take hd
            rw [← hk, hn, ← hm] at ht
            exact absurd (by rw [Nat.add_comm k 1]; exact ht) he
      have HFULL := Lib.hid hfull; clear hfull
      have HBAD := Lib.hid hbad; clear hbad
      have HLN := Lib.hid hln; clear hln
      have HK := Lib.hid hk; clear hk
      have HN := Lib.hid hn; clear hn
      go_enter Try.func25, Try.ntmps25
      go_wp2
      go_loop [7, 8] (fun mv iv => ∃ (i : Nat) (s : Int), i ≤ k ∧ s = (i : Int) + 1 ∧ iv = .int .i64 s ∧ mv = .int .i64 ((val ((t.take i).map (flip false)) : Nat) : Int) ∧ val ((t.take i).map (flip false)) ≤ 9223372036854775807) (fun _ iv => (k + 1 - (intOf iv)).toNat)
      case atStart => exact ⟨0, 1, by omega, rfl, rfl, rfl, by simp [val_nil]⟩
      case round =>
        obtain ⟨i, s, hi, hs, rfl, rfl, hm9⟩ := hrel
        obtain ⟨m, hm⟩ : ∃ m, m = val ((t.take i).map (flip false)) := ⟨_, rfl⟩
        rw [← hm] at hm9 ⊢
        by_cases hik : i < k
        · obtain ⟨x, hx⟩ : ∃ x, t[i]? = some x := ⟨t[i]'(by have := HLN.out; omega), List.getElem?_eq_getElem _⟩
          have hcx := hl.cell rfl (i + 1) x (by simpa using hx)
          have hfl : flip false x = x := rfl
          have hf := u8_lt (flip false x)
          have hvs : val ((t.take (i + 1)).map (flip false)) = m * 256 + (flip false x).toNat := by
            rw [List.take_add_one, hx, hm]; simp [val_snoc]
          obtain rfl : s = ((i + 1 : Nat) : Int) := by omega
          have hsk : ((i + 1 : Nat) : Int) ≤ (k : Int) := by omega
          have hsn : ((i + 1 : Nat) : Int) < (n : Int) := by omega
          have HX := Lib.hid hx; clear hx
          have HM := Lib.hid hm; clear hm
          by_cases hmb : 36028797018963967 < m
          · have hd := HBAD.out (i + 1) (by omega) (by rw [hvs]; omega)
            have hmi : (36028797018963967 : Int) < m := by omega
            have HD := Lib.hid hd; clear hd hmb
            have HV := Lib.hid hvs; clear hvs
            go_wp2
            go_ret3
            exact ⟨by rw [HD.out]; rfl, Below.refl _ _⟩
          · have hmi : ¬ (36028797018963967 : Int) < m := by omega
            have hx255 := u8_lt x
            have hv2 : (256 : Int) * m + (x.toNat : Int) = ((val ((t.take (i + 1)).map (flip false)) : Nat) : Int) := by
              rw [hvs]
              show _ = ((m * 256 + x.toNat : Nat) : Int)
              omega
            have hv3 : val ((t.take (i + 1)).map (flip false)) ≤ 9223372036854775807 := by rw [hvs]; omega
            have HV2 := Lib.hid hv2; clear hv2 hmb
            have HV3 := Lib.hid hv3; clear hv3
            have HV := Lib.hid hvs; clear hvs
            go_wp2
            go_round
            case rel => exact ⟨i + 1, _, by omega, rfl, rfl, by rw [HV2.out], HV3.out⟩
            case measure => simp [intOf]; omega
        · obtain rfl : i = k := by omega
          obtain rfl : s = (i : Int) + 1 := by omega
          obtain ⟨hy, hno⟩ := HFULL.out m hm hm9
          have HM := Lib.hid hm; clear hm
          have hrg : -9223372036854775808 ≤ (m : Int) ∧ (m : Int) ≤ 9223372036854775807 := by omega
          have IR := fun W => Lib.hid (refInt_any ((m : Int)) W hrg)
          have hf := hl.first (u := i + 1) (by omega)
          have same : ∀ (B : Bool), decide (enc ((m : Int)) = (h :: t).take (i + 1)) = B → ∀ (W : World) (g cap : Nat), Lies W W.heap.size 1 (some ⟨g, 0, none⟩) (enc ((m : Int))).length cap ((enc ((m : Int))).map bv) → Below w.heap.size w W →
              Calls Try.prog 13 #[.slice (some ⟨g, 0, none⟩) (enc ((m : Int))).length cap, .slice (some ⟨b, o, none⟩) (i + 1) c] W fun e w' => e = .returned (.bool B) ∧ Below W.heap.size W w' := fun B hB W g cap q hb =>
            (same_bytes _ _ _ _ _ _ _ _ _ _ q (hf.on hb)).mono fun e w' ⟨he, kk, hw⟩ => ⟨by rw [he, hB], by rw [hw]; exact bd W kk⟩
          have j0 : (0 : Int) ≤ (i : Int) + 1 := by omega
          have j1 : (i : Int) + 1 ≤ (c : Int) := by omega
          by_cases he : enc ((m : Int)) = (h :: t).take (i + 1)
          · have hd := hy he
            have SAME := Lib.hid (same true (decide_eq_true he))
            have HD := Lib.hid hd
            clear hd hy hno same he
            go_wp2
            have hw1 : IntKind.i64.wrap ((i : Int) + 1) = (i : Int) + 1 := IntWalk.i64_in _ (by omega)
            have htn : ((i : Int) + 1).toNat = i + 1 := by omega
            go_region_with (first
              | (go_at_call 15; (with_reducible refine (IR _).out.mono ?_); rintro e w1 hM; obtain ⟨g1, cap1, rfl, hb1, q1⟩ := made_row hM; clear hM; have hbz : Below w.heap.size w w1 := ⟨hb1.os, hb1.tape, hb1.output, hb1.size, hb1.block⟩)
              | (go_at_call 13; (with_reducible refine (SAME.out _ _ _ q1 hbz).mono ?_); rintro e w2 ⟨rfl, hb2⟩))
            all_goals
              clear hw1 htn
              go_wp2
              go_ret3
              exact ⟨by rw [HD.out]; simp only [res]; congr 2; simp; omega, bc hbz hb2⟩
          · have hd := hno he
            have SAME := Lib.hid (same false (decide_eq_false he))
            have HD := Lib.hid hd
            clear hd hy hno same he
            go_wp2
            have hw1 : IntKind.i64.wrap ((i : Int) + 1) = (i : Int) + 1 := IntWalk.i64_in _ (by omega)
            have htn : ((i : Int) + 1).toNat = i + 1 := by omega
            go_region_with (first
              | (go_at_call 15; (with_reducible refine (IR _).out.mono ?_); rintro e w1 hM; obtain ⟨g1, cap1, rfl, hb1, q1⟩ := made_row hM; clear hM; have hbz : Below w.heap.size w w1 := ⟨hb1.os, hb1.tape, hb1.output, hb1.size, hb1.block⟩)
              | (go_at_call 13; (with_reducible refine (SAME.out _ _ _ q1 hbz).mono ?_); rintro e w2 ⟨rfl, hb2⟩))
            all_goals
              clear hw1 htn
              go_wp2
              go_ret3
              exact ⟨by rw [HD.out]; rfl, bc hbz hb2⟩

set_option maxHeartbeats 400000 in
theorem refGet_empty (A : Option Addr) (c : Nat) (w : World) : Calls Try.prog 25 #[.slice A 0 c] w (GotB w (dec [])) := by
  go_enter Try.func25, Try.ntmps25
  go_wp2
  go_ret3
  exact ⟨rfl, Below.refl _ _⟩

/-- custodyref01.GetInt, for every slice. -/
theorem refGet_any (bs : List UInt8) (n c : Nat) (A : Option Addr) (w : World) (hl : Lies w w.heap.size 1 A n c (bs.map bv)) :
    Calls Try.prog 25 #[.slice A n c] w (GotB w (dec bs)) := by
  cases bs with
  | nil =>
    obtain rfl : n = 0 := by have := hl.len; simp at this; omega
    exact refGet_empty A c w
  | cons h t =>
    cases hn : hneg h
    · exact refGet_false h t n c A w hl hn
    · exact refGet_true h t n c A w hl hn
theorem refGet_ok {bs : List UInt8} {n c : Nat} {A : Option Addr} {w : World} {v : Int} {u : Nat} (hl : Lies w w.heap.size 1 A n c (bs.map bv)) (h : dec bs = .ok (v, u)) :
    Calls Try.prog 25 #[.slice A n c] w fun e w' => e = .returned (.tuple #[.int .i64 v, .int .i64 (u : Int), .int .i64 0]) ∧ Below w.heap.size w w' :=
  (refGet_any bs n c A w hl).mono fun _ _ ⟨he, hw⟩ => ⟨by rw [he, h]; rfl, hw⟩
theorem refGet_err {bs : List UInt8} {n c : Nat} {A : Option Addr} {w : World} {x : Nat} (hl : Lies w w.heap.size 1 A n c (bs.map bv)) (h : dec bs = .error x) :
    Calls Try.prog 25 #[.slice A n c] w fun e w' => e = .returned (.tuple #[.int .i64 0, .int .i64 0, .int .i64 (x : Int)]) ∧ Below w.heap.size w w' :=
  (refGet_any bs n c A w hl).mono fun _ _ ⟨he, hw⟩ => ⟨by rw [he, h]; rfl, hw⟩

end Wire
end Go.Proofs.Ytlpkiaeimcoplaa
