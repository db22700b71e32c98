/- What wire.GetInt returns. Condition: the slice's cells are bytes and lie where they are said to lie. -/
import Derived.Test.YtlpkiaeimcoplaaBase
namespace Go.Proofs.Ytlpkiaeimcoplaa
open Go.RowKit
namespace Wire

/-- Three results: an integer, how many bytes it takes, the error's number. -/
def res (r : Except Nat (Int × Nat)) : Value :=
  match r with
  | .ok (n, u) => .tuple #[.int .i64 n, .int .i64 (u : Int), .int .i64 0]
  | .error e => .tuple #[.int .i64 0, .int .i64 0, .int .i64 (e : Int)]
def Got (w : World) (r : Except Nat (Int × Nat)) (e : Ending) (w' : World) : Prop := e = .returned (res r) ∧ w = w'

set_option maxRecDepth 100000 in
set_option maxHeartbeats 400000 in
theorem get_empty (A : Option Addr) (c : Nat) (w : World) : Calls Try.prog 24 #[.slice A 0 c] w (Got w (dec [])) := by
  go_enter Try.func24, Try.ntmps24
  go_wp2
  go_ret3
  exact ⟨rfl, rfl⟩

set_option maxRecDepth 100000 in
set_option maxHeartbeats 1000000 in
theorem get_true (h : UInt8) (t : List UInt8) (n c : Nat) (A : Option Addr) (w : World) (B : Nat) (hl : Lies w B 1 A n c ((h :: t).map bv)) (hn : hneg h = true) :
    Calls Try.prog 24 #[.slice A n c] w (Got w (dec (h :: t))) := by
  have hln := hl.len
  have hle := hl.le
  have hmost : c ≤ 9223372036854775807 := by have := hl.most; unfold maxLen at this; omega
  simp at hln
  obtain ⟨b, o, rfl, -, -⟩ := hl.cells (by omega)
  have hc0 := hl.cell rfl 0 h rfl
  simp at hc0
  have hh := u8_lt h
  have hlt : (h.toNat : Int) < 128 := by simp [hneg] at hn; omega
  obtain ⟨k, hk⟩ : ∃ k, k = hlen h := ⟨_, rfl⟩
  have hx0 : bits .xor .u8 (h.toNat : Int) 255 = (k : Int) + 128 := by
    rw [xor_full, hk]; simp only [flip, hlen]; simp only [if_true, sub_toNat]; rw [if_pos (by omega)]; omega
  have hxk : (k : Int) + 128 - 128 = k := by omega
  have hn1 : ¬ (n : Int) = 0 := by omega
  have hkk : k ≤ 127 := by rw [hk]; unfold hlen; split <;> omega
  by_cases h8 : 8 < k
  · have hd : dec (h :: t) = .error 6 := dec_far (by rw [← hk]; exact h8)
    have HD := Lib.hid hd; clear hd hk hn hln
    go_enter Try.func24, Try.ntmps24
    go_wp2
    go_ret3
    exact ⟨by rw [HD.out]; rfl, rfl⟩
  · by_cases h2 : t.length < k
    · have hd : dec (h :: t) = .error 5 := dec_less (by rw [← hk]; exact h8) (by rw [← hk]; exact h2)
      have h2' : (n : Int) - 1 < k := by omega
      have HD := Lib.hid hd; clear hd hk hn hln
      go_enter Try.func24, Try.ntmps24
      go_wp2
      go_ret3
      exact ⟨by rw [HD.out]; rfl, rfl⟩
    · have h2' : ¬ (n : Int) - 1 < k := by omega
      have h2'' : k + 1 ≤ n := by omega
      have HLN := Lib.hid hln; clear hln
      have HK := Lib.hid hk; clear hk
      have HN := Lib.hid hn; clear hn
      rcases Nat.eq_zero_or_pos k with hk0 | hk0
      · have hd : dec (h :: t) = .ok (-1, 1) := by
          rw [hk0] at HK
          rw [dec_good (by rw [← HK.out]; omega) (by rw [← HK.out]; omega) (by rw [← HK.out]; simp [val_nil]), ← HK.out, HN.out]; simp [val_nil]
        have HD := Lib.hid hd; clear hd
        subst hk0
        by_cases hc1 : c = 1
        · subst hc1
          obtain rfl : n = 1 := by omega
          go_enter Try.func24, Try.ntmps24
          go_wp2
          go_loop [7, 37] (fun mv iv => iv = .int .i64 0 ∧ mv = .int .u64 0) (fun _ _ => 0)
          case atStart => exact ⟨rfl, rfl⟩
          case round =>
            obtain ⟨rfl, rfl⟩ := hrel
            go_wp2
            go_ret3
            exact ⟨by rw [HD.out]; rfl, rfl⟩
        · have hc2 : ¬ (c : Int) = 1 := by omega

          go_enter Try.func24, Try.ntmps24
          go_wp2
          go_loop [7, 37] (fun mv iv => iv = .int .i64 0 ∧ mv = .int .u64 0) (fun _ _ => 0)
          case atStart => exact ⟨rfl, rfl⟩
          case round =>
            obtain ⟨rfl, rfl⟩ := hrel
            go_wp2
            go_ret3
            exact ⟨by rw [HD.out]; rfl, rfl⟩
      · have hcap : ¬ c = 1 := by omega
        have hcap2 : ¬ (c : Int) = 1 := by omega
        have hk1 : (0 : Int) < k := by omega
        obtain ⟨x0, hx0'⟩ : ∃ x0, t[0]? = some x0 := ⟨t[0]'(by have := HLN.out; omega), List.getElem?_eq_getElem _⟩
        have hc1 := hl.cell rfl 1 x0 (by simpa using hx0')
        have HX := Lib.hid hx0'; clear hx0'
        go_enter Try.func24, Try.ntmps24
        go_wp2
        go_loop [7, 37] (fun mv iv => ∃ i : Nat, i ≤ k ∧ iv = .int .i64 (i : Int) ∧ mv = .int .u64 ((val ((t.take i).map (flip true)) : Nat) : Int)) (fun _ iv => (k - (intOf iv)).toNat)
        case atStart => exact ⟨0, by omega, rfl, rfl⟩
        case round =>
          obtain ⟨i, hi, rfl, rfl⟩ := hrel
          by_cases hik : i < k
          · obtain ⟨x, hx⟩ : ∃ x, t[i]? = some x := ⟨t[i]'(by have := HLN.out; omega), List.getElem?_eq_getElem _⟩
            have hcx := hl.cell rfl (i + 1) x (by simpa using hx)
            rw [show o + (i + 1) = o + 1 + i by omega] at hcx
            have hvl : val ((t.take i).map (flip true)) < 256 ^ 7 := by
              refine Nat.lt_of_lt_of_le (val_lt _) (Nat.pow_le_pow_right (by omega) ?_)
              simp; omega
            have hvs : val ((t.take (i + 1)).map (flip true)) = val ((t.take i).map (flip true)) * 256 + (flip true x).toNat := by
              rw [List.take_add_one, hx]; simp [val_snoc]
            obtain ⟨m, hm⟩ : ∃ m, m = val ((t.take i).map (flip true)) := ⟨_, rfl⟩
            rw [← hm] at hvl hvs ⊢
            have hm7 : m < 72057594037927936 := by omega
            have hxx := xor_full x
            have hso := shl_or (x := flip true x) hm7
            have hvs2 : (m : Int) * 256 + ((flip true x).toNat : Int) = ((val ((t.take (i + 1)).map (flip true)) : Nat) : Int) := by rw [hvs]; simp
            have hf := u8_lt (flip true x)
            have HX2 := Lib.hid hx; clear hx
            have HM := Lib.hid hm; clear hm
            have HV := Lib.hid hvs2; clear hvs hvs2 hvl
            go_wp2
            go_round
            case rel => exact ⟨i + 1, by omega, by go_num, by rw [HV.out]⟩
            case measure => simp [intOf]; omega
          · obtain rfl : i = k := by omega
            obtain ⟨m, hm⟩ : ∃ m, m = val ((t.take i).map (flip true)) := ⟨_, rfl⟩
            rw [← hm]
            have h8' : ¬ 8 < hlen h := by rw [← HK.out]; exact h8
            have h2x : ¬ t.length < hlen h := by rw [← HK.out]; exact h2
            have hxh : t.head? = some x0 := by rw [List.head?_eq_getElem?]; exact HX.out
            have h8h := Lib.hid h8'; clear h8'
            have h2h := Lib.hid h2x; clear h2x
            have HXH := Lib.hid hxh; clear hxh
            have HM := Lib.hid hm; clear hm
            have hxlt := u8_lt x0
            by_cases hb : x0.toNat = 255
            · have hd : dec (h :: t) = .error 6 := by
                refine dec_bad h8h.out h2h.out (.inl ⟨by rw [← HK.out]; exact hk0, ?_⟩)
                rw [HXH.out, HN.out]; congr 1
                exact UInt8.toNat_inj.1 hb
              have HD := Lib.hid hd; clear hd
              rw [hb] at hc1
              have HB := Lib.hid hb; clear hb
              go_wp2
              go_ret3
              exact ⟨by rw [HD.out]; rfl, rfl⟩
            · have hbi : ¬ (x0.toNat : Int) = 255 := by omega
              by_cases hm8 : 9223372036854775807 < m
              · have hd : dec (h :: t) = .error 6 := by
                  refine dec_bad h8h.out h2h.out (.inr ?_)
                  rw [← HK.out, HN.out, ← HM.out]; exact hm8
                have HD := Lib.hid hd; clear hd
                have hm9 : (9223372036854775807 : Int) < m := by omega
                clear hm8
                go_wp2
                go_ret3
                exact ⟨by rw [HD.out]; rfl, rfl⟩
              · have hd : dec (h :: t) = .ok (-1 - (m : Int), 1 + i) := by
                  rw [dec_good h8h.out h2h.out ?_]
                  · rw [← HK.out, HN.out, ← HM.out]; rfl
                  · rintro (⟨_, e⟩ | e)
                    · rw [HXH.out, HN.out] at e
                      simp only [Option.some.injEq] at e
                      exact hb (by rw [e]; rfl)
                    · rw [← HK.out, HN.out, ← HM.out] at e; exact hm8 e
                have HD := Lib.hid hd; clear hd
                have hm9 : ¬ (9223372036854775807 : Int) < m := by omega
                clear hm8
                go_wp2
                go_ret3
                exact ⟨by rw [HD.out]; rfl, rfl⟩

set_option maxRecDepth 100000 in
set_option maxHeartbeats 1000000 in
theorem get_false (h : UInt8) (t : List UInt8) (n c : Nat) (A : Option Addr) (w : World) (B : Nat) (hl : Lies w B 1 A n c ((h :: t).map bv)) (hn : hneg h = false) :
    Calls Try.prog 24 #[.slice A n c] w (Got w (dec (h :: t))) := by
  have hln := hl.len
  have hle := hl.le
  have hmost : c ≤ 9223372036854775807 := by have := hl.most; unfold maxLen at this; omega
  simp at hln
  obtain ⟨b, o, rfl, -, -⟩ := hl.cells (by omega)
  have hc0 := hl.cell rfl 0 h rfl
  simp at hc0
  have hh := u8_lt h
  have hlt : ¬ (h.toNat : Int) < 128 := by simp [hneg] at hn; omega
  obtain ⟨k, hk⟩ : ∃ k, k = hlen h := ⟨_, rfl⟩
  have hx0 : bits .xor .u8 (h.toNat : Int) 0 = (k : Int) + 128 := by
    rw [xor_zero, hk]; simp only [flip, hlen]; simp only [Bool.false_eq_true, if_false]; rw [if_neg (by omega)]; omega
  have hxk : (k : Int) + 128 - 128 = k := by omega
  have hn1 : ¬ (n : Int) = 0 := by omega
  have hkk : k ≤ 127 := by rw [hk]; unfold hlen; split <;> omega
  by_cases h8 : 8 < k
  · have hd : dec (h :: t) = .error 6 := dec_far (by rw [← hk]; exact h8)
    have HD := Lib.hid hd; clear hd hk hn hln
    go_enter Try.func24, Try.ntmps24
    go_wp2
    go_ret3
    exact ⟨by rw [HD.out]; rfl, rfl⟩
  · by_cases h2 : t.length < k
    · have hd : dec (h :: t) = .error 5 := dec_less (by rw [← hk]; exact h8) (by rw [← hk]; exact h2)
      have h2' : (n : Int) - 1 < k := by omega
      have HD := Lib.hid hd; clear hd hk hn hln
      go_enter Try.func24, Try.ntmps24
      go_wp2
      go_ret3
      exact ⟨by rw [HD.out]; rfl, rfl⟩
    · have h2' : ¬ (n : Int) - 1 < k := by omega
      have h2'' : k + 1 ≤ n := by omega
      have HLN := Lib.hid hln; clear hln
      have HK := Lib.hid hk; clear hk
      have HN := Lib.hid hn; clear hn
      rcases Nat.eq_zero_or_pos k with hk0 | hk0
      · have hd : dec (h :: t) = .ok (0, 1) := by
          rw [hk0] at HK
          rw [dec_good (by rw [← HK.out]; omega) (by rw [← HK.out]; omega) (by rw [← HK.out]; simp [val_nil]), ← HK.out, HN.out]; simp [val_nil]
        have HD := Lib.hid hd; clear hd
        subst hk0
        by_cases hc1 : c = 1
        · subst hc1
          obtain rfl : n = 1 := by omega
          go_enter Try.func24, Try.ntmps24
          go_wp2
          go_loop [7, 37] (fun mv iv => iv = .int .i64 0 ∧ mv = .int .u64 0) (fun _ _ => 0)
          case atStart => exact ⟨rfl, rfl⟩
          case round =>
            obtain ⟨rfl, rfl⟩ := hrel
            go_wp2
            go_ret3
            exact ⟨by rw [HD.out]; rfl, rfl⟩
        · have hc2 : ¬ (c : Int) = 1 := by omega

          go_enter Try.func24, Try.ntmps24
          go_wp2
          go_loop [7, 37] (fun mv iv => iv = .int .i64 0 ∧ mv = .int .u64 0) (fun _ _ => 0)
          case atStart => exact ⟨rfl, rfl⟩
          case round =>
            obtain ⟨rfl, rfl⟩ := hrel
            go_wp2
            go_ret3
            exact ⟨by rw [HD.out]; rfl, rfl⟩
      · have hcap : ¬ c = 1 := by omega
        have hcap2 : ¬ (c : Int) = 1 := by omega
        have hk1 : (0 : Int) < k := by omega
        obtain ⟨x0, hx0'⟩ : ∃ x0, t[0]? = some x0 := ⟨t[0]'(by have := HLN.out; omega), List.getElem?_eq_getElem _⟩
        have hc1 := hl.cell rfl 1 x0 (by simpa using hx0')
        have HX := Lib.hid hx0'; clear hx0'
        go_enter Try.func24, Try.ntmps24
        go_wp2
        go_loop [7, 37] (fun mv iv => ∃ i : Nat, i ≤ k ∧ iv = .int .i64 (i : Int) ∧ mv = .int .u64 ((val ((t.take i).map (flip false)) : Nat) : Int)) (fun _ iv => (k - (intOf iv)).toNat)
        case atStart => exact ⟨0, by omega, rfl, rfl⟩
        case round =>
          obtain ⟨i, hi, rfl, rfl⟩ := hrel
          by_cases hik : i < k
          · obtain ⟨x, hx⟩ : ∃ x, t[i]? = some x := ⟨t[i]'(by have := HLN.out; omega), List.getElem?_eq_getElem _⟩
            have hcx := hl.cell rfl (i + 1) x (by simpa using hx)
            rw [show o + (i + 1) = o + 1 + i by omega] at hcx
            have hvl : val ((t.take i).map (flip false)) < 256 ^ 7 := by
              refine Nat.lt_of_lt_of_le (val_lt _) (Nat.pow_le_pow_right (by omega) ?_)
              simp; omega
            have hvs : val ((t.take (i + 1)).map (flip false)) = val ((t.take i).map (flip false)) * 256 + (flip false x).toNat := by
              rw [List.take_add_one, hx]; simp [val_snoc]
            obtain ⟨m, hm⟩ : ∃ m, m = val ((t.take i).map (flip false)) := ⟨_, rfl⟩
            rw [← hm] at hvl hvs ⊢
            have hm7 : m < 72057594037927936 := by omega
            have hxx := xor_zero x
            have hso := shl_or (x := flip false x) hm7
            have hvs2 : (m : Int) * 256 + ((flip false x).toNat : Int) = ((val ((t.take (i + 1)).map (flip false)) : Nat) : Int) := by rw [hvs]; simp
            have hf := u8_lt (flip false x)
            have HX2 := Lib.hid hx; clear hx
            have HM := Lib.hid hm; clear hm
            have HV := Lib.hid hvs2; clear hvs hvs2 hvl
            go_wp2
            go_round
            case rel => exact ⟨i + 1, by omega, by go_num, by rw [HV.out]⟩
            case measure => simp [intOf]; omega
          · obtain rfl : i = k := by omega
            obtain ⟨m, hm⟩ : ∃ m, m = val ((t.take i).map (flip false)) := ⟨_, rfl⟩
            rw [← hm]
            have h8' : ¬ 8 < hlen h := by rw [← HK.out]; exact h8
            have h2x : ¬ t.length < hlen h := by rw [← HK.out]; exact h2
            have hxh : t.head? = some x0 := by rw [List.head?_eq_getElem?]; exact HX.out
            have h8h := Lib.hid h8'; clear h8'
            have h2h := Lib.hid h2x; clear h2x
            have HXH := Lib.hid hxh; clear hxh
            have HM := Lib.hid hm; clear hm
            have hxlt := u8_lt x0
            by_cases hb : x0.toNat = 0
            · have hd : dec (h :: t) = .error 6 := by
                refine dec_bad h8h.out h2h.out (.inl ⟨by rw [← HK.out]; exact hk0, ?_⟩)
                rw [HXH.out, HN.out]; congr 1
                exact UInt8.toNat_inj.1 hb
              have HD := Lib.hid hd; clear hd
              rw [hb] at hc1
              have HB := Lib.hid hb; clear hb
              go_wp2
              go_ret3
              exact ⟨by rw [HD.out]; rfl, rfl⟩
            · have hbi : ¬ (x0.toNat : Int) = 0 := by omega
              by_cases hm8 : 9223372036854775807 < m
              · have hd : dec (h :: t) = .error 6 := by
                  refine dec_bad h8h.out h2h.out (.inr ?_)
                  rw [← HK.out, HN.out, ← HM.out]; exact hm8
                have HD := Lib.hid hd; clear hd
                have hm9 : (9223372036854775807 : Int) < m := by omega
                clear hm8
                go_wp2
                go_ret3
                exact ⟨by rw [HD.out]; rfl, rfl⟩
              · have hd : dec (h :: t) = .ok ((m : Int), 1 + i) := by
                  rw [dec_good h8h.out h2h.out ?_]
                  · rw [← HK.out, HN.out, ← HM.out]; rfl
                  · rintro (⟨_, e⟩ | e)
                    · rw [HXH.out, HN.out] at e
                      simp only [Option.some.injEq] at e
                      exact hb (by rw [e]; rfl)
                    · rw [← HK.out, HN.out, ← HM.out] at e; exact hm8 e
                have HD := Lib.hid hd; clear hd
                have hm9 : ¬ (9223372036854775807 : Int) < m := by omega
                clear hm8
                go_wp2
                go_ret3
                exact ⟨by rw [HD.out]; rfl, rfl⟩

/-- wire.GetInt, for every slice. -/
theorem get_any (bs : List UInt8) (n c : Nat) (A : Option Addr) (w : World) (B : Nat) (hl : Lies w B 1 A n c (bs.map bv)) :
    Calls Try.prog 24 #[.slice A n c] w (Got w (dec bs)) := by
  cases bs with
  | nil =>
    obtain rfl : n = 0 := by have := hl.len; simp at this; omega
    exact get_empty A c w
  | cons h t =>
    cases hn : hneg h
    · exact get_false h t n c A w B hl hn
    · exact get_true h t n c A w B hl hn

end Wire
end Go.Proofs.Ytlpkiaeimcoplaa
