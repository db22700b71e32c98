/- The walk of the statement that every proper prefix of an encoding is too short. Condition: the texts are of at most 2^47 bytes, and so are the slices. -/
import Derived.Test.YtlpkiaeimcoplaaEncW
import Derived.Test.YtlpkiaeimcoplaaNumE
namespace Go.Proofs.Ytlpkiaeimcoplaa
open Go.RowKit
namespace Wire

/-- The first bytes of a slice. -/
theorem Lies.take {w : World} {B n c : Nat} {A : Option Addr} {bs : List UInt8} (h : Lies w B 1 A n c (bs.map bv)) {i : Nat} (hi : i ≤ n) : Lies w B 1 A i c ((bs.take i).map bv) := by
  have hn := h.len
  simp at hn
  refine ⟨by simp; omega, by have := h.le; omega, h.most, h.some_, fun hp => ?_⟩
  obtain ⟨b, o, e, hb, hc⟩ := h.cells (by omega)
  refine ⟨b, o, e, hb, fun j u hu => hc j u ?_⟩
  rw [List.getElem?_map] at hu ⊢
  have hj : j < i := by
    rcases Nat.lt_or_ge j i with h | h
    · exact h
    · rw [List.getElem?_eq_none (by simp; omega)] at hu; cases hu
  rwa [List.getElem?_take_of_lt hj] at hu

theorem few5 {k : Nat} (h : k ≤ 500) : k ≤ 1099511627776 := by omega
theorem gI_err {bs : List UInt8} {n c : Nat} {A : Option Addr} {w : World} {x : Nat} (hl : Lies w w.heap.size 1 A n c (bs.map bv)) (hn : n ≤ 1099511627776) (h : decList dec 1 bs = .error x) :
    Calls Try.prog 28 #[.slice A n c] w fun e w' => e = .returned (.tuple #[.slice none 0 0, .int .i64 0, .int .i64 (x : Int)]) ∧ Below w.heap.size w w' := by
  have := getInts_any bs n c A w hl hn; rw [h] at this; exact this
theorem gS_err {bs : List UInt8} {n c : Nat} {A : Option Addr} {w : World} {x : Nat} (hl : Lies w w.heap.size 1 A n c (bs.map bv)) (hn : n ≤ 1099511627776) (h : decList decStr 1 bs = .error x) :
    Calls Try.prog 31 #[.slice A n c] w fun e w' => e = .returned (.tuple #[.slice none 0 0, .int .i64 0, .int .i64 (x : Int)]) ∧ Below w.heap.size w w' := by
  have := getStrings_any bs n c A w hl hn; rw [h] at this; exact this
theorem gD_err {bs : List UInt8} {n c : Nat} {A : Option Addr} {w : World} {x : Nat} (hl : Lies w w.heap.size 1 A n c (bs.map bv)) (hn : n ≤ 1099511627776) (h : decList decDig 16 bs = .error x) :
    Calls Try.prog 34 #[.slice A n c] w fun e w' => e = .returned (.tuple #[.slice none 0 0, .int .i64 0, .int .i64 (x : Int)]) ∧ Below w.heap.size w w' := by
  have := getDigests_any bs n c A w hl hn; rw [h] at this; exact this

/-- What is too short for decoder k. -/
def Short (k : Nat) (b : List UInt8) : Prop :=
  (k = 0 ∧ dec b = .error 5) ∨ (k = 1 ∧ decStr b = .error 5) ∨ (k = 2 ∧ decList dec 1 b = .error 5) ∨ (k = 3 ∧ decList decStr 1 b = .error 5) ∨ (k = 4 ∧ decList decDig 16 b = .error 5)

set_option maxRecDepth 100000 in
set_option maxHeartbeats 4000000 in
theorem trunc_any (a : Int) (s : List UInt8) (l : List Int) (x d : List (List UInt8)) (c c2 c3 : Nat) (A A2 A3 : Option Addr) (w : World)
    (ha : -9223372036854775808 ≤ a ∧ a ≤ 9223372036854775807) (hs : s.length ≤ 140737488355328)
    (hl : Lies w w.heap.size 1 A l.length c (l.map iv)) (hr : ∀ x ∈ l, -9223372036854775808 ≤ x ∧ x ≤ 9223372036854775807) (hn : l.length ≤ 140737488355328)
    (hx : Lies w w.heap.size 1 A2 x.length c2 (x.map sv)) (ht : ∀ y ∈ x, y.length ≤ 140737488355328)
    (hd : Lies w w.heap.size 16 A3 d.length c3 (digCells d)) (h16 : ∀ y ∈ d, y.length = 16) (hn3 : d.length ≤ 140737488355328) :
    Calls Try.prog 9 #[.int .i64 a, .string ⟨s.toArray⟩, .slice A l.length c, .slice A2 x.length c2, .slice A3 d.length c3] w (Yes w) := by
  have hc1 : c ≤ 9223372036854775807 := by have := hl.most; unfold maxLen at this; omega
  have hc2 : c2 ≤ 9223372036854775807 := by have := hx.most; unfold maxLen at this; omega
  have hc3 : c3 ≤ 9223372036854775807 := by have := hd.most; unfold maxLen at this; omega
  have hle1 := hl.le
  have hle2 := hx.le
  have hle3 := hd.le
  have hsz : (⟨s.toArray⟩ : ByteArray).size = s.length := by simp [ByteArray.size]
  by_cases h2 : (400 : Int) < s.length + 9 * l.length + 16 * d.length
  · go_enter Try.func9, Try.ntmps9
    go_wp2_with (go_at_call 12; refine (sanity_any _).mono ?_; rintro e w1 ⟨rfl, hb⟩)
    go_ret
    exact ⟨rfl, hb⟩
  by_cases h4 : (40 : Int) < x.length
  · go_enter Try.func9, Try.ntmps9
    go_wp2_with (go_at_call 12; refine (sanity_any _).mono ?_; rintro e w1 ⟨rfl, hb⟩)
    go_ret
    exact ⟨rfl, hb⟩
  have htt : x.length + total x ≤ 4611686018427387904 := by
    have h5 := total_bound x ht
    have h6 : x.length * 140737488355328 ≤ 40 * 140737488355328 := Nat.mul_le_mul_right _ (by omega)
    omega
  by_cases h3 : x.length + total x ≤ 2000
  · have k1 := encStr_le s (by omega)
    have k2 := encInts_le l (by omega) hr
    have k3 := encStrs_le x (by omega)
    have k4 := encDigs_le d (by omega) h16
    have k0 := enc_length_le ha
    obtain ⟨pN, hpN⟩ : ∃ p, p = (enc a).length := ⟨_, rfl⟩
    obtain ⟨pS, hpS⟩ : ∃ p, p = (encStr s).length := ⟨_, rfl⟩
    obtain ⟨pL, hpL⟩ : ∃ p, p = (encList enc l).length := ⟨_, rfl⟩
    obtain ⟨pX, hpX⟩ : ∃ p, p = (encList encStr x).length := ⟨_, rfl⟩
    obtain ⟨pD, hpD⟩ : ∃ p, p = (encList (fun d => d) d).length := ⟨_, rfl⟩
    rw [← hpN] at k0
    rw [← hpS] at k1
    rw [← hpL] at k2
    rw [← hpX] at k3
    rw [← hpD] at k4
    have bb0 : pN ≤ 20000 := by omega
    have bb1 : pS ≤ 20000 := by omega
    have bb2 : pL ≤ 20000 := by omega
    have bb3 : pX ≤ 50000 := by omega
    have bb4 : pD ≤ 50000 := by omega
    clear k0 k1 k2 k3 k4
    have FEW := Lib.hid (few_any x x.length c2 A2 w hx htt)
    rw [decide_eq_true h3] at FEW
    have CN := Lib.hid (show ∀ W : World, Calls Try.prog 14 #[.int .i64 a] W (Made W pN (enc a)) by intro W; rw [hpN]; exact int_any a W ha)
    have CB := Lib.hid (show ∀ W : World, Calls Try.prog 16 #[.string ⟨s.toArray⟩] W (Made W pS (encStr s)) by intro W; rw [hpS]; exact bytes_any s W (by omega))
    have CL := Lib.hid (show ∀ W : World, Below w.heap.size w W → Calls Try.prog 18 #[.slice A l.length c] W (Made W pL (encList enc l)) by intro W hb; rw [hpL]; exact ints_any l _ c A W (hl.on hb) (by omega) hr)
    have CX := Lib.hid (show ∀ W : World, Below w.heap.size w W → Calls Try.prog 20 #[.slice A2 x.length c2] W (Made W pX (encList encStr x)) by intro W hb; rw [hpX]; exact strings_any x _ c2 A2 W (hx.on hb) (by omega))
    have CD := Lib.hid (show ∀ W : World, Below w.heap.size w W → Calls Try.prog 22 #[.slice A3 d.length c3] W (Made W pD (encList (fun d => d) d)) by intro W hb; rw [hpD]; exact digests_any d _ c3 A3 W (hd.on hb) rfl h16 (by omega))
    have HTR : Hid (∀ y ∈ x, y.length ≤ 9223372036854775807) := Lib.hid (fun y hy => by have := total_mem hy; omega)
    have H0 := Lib.hid hpN; clear hpN
    have H1 := Lib.hid hpS; clear hpS
    have H2 := Lib.hid hpL; clear hpL
    have H3 := Lib.hid hpX; clear hpX
    have H4 := Lib.hid hpD; clear hpD
    have zb := Below.refl w.heap.size w
    go_enter Try.func9, Try.ntmps9
    go_wp2_with (first
      | (go_at_call 11; (with_reducible refine FEW.out.mono ?_); rintro e w1 ⟨rfl, rfl⟩)
      | (go_at_call 14; (with_reducible refine (CN.out _).mono ?_); rintro e w0 hM; obtain ⟨g0, cap0, rfl, hb, q0⟩ := made_row hM; clear hM; replace zb := bc zb hb; clear hb)
      | (go_at_call 16; (with_reducible refine (CB.out _).mono ?_); rintro e w1 hM; obtain ⟨g1, cap1, rfl, hb, q1⟩ := made_row hM; clear hM; replace zb := bc zb hb; replace q0 := q0.on hb; clear hb)
      | (go_at_call 18; (with_reducible refine (CL.out _ zb).mono ?_); rintro e w2 hM; obtain ⟨g2, cap2, rfl, hb, q2⟩ := made_row hM; clear hM; replace zb := bc zb hb; replace q0 := q0.on hb; replace q1 := q1.on hb; clear hb)
      | (go_at_call 20; (with_reducible refine (CX.out _ zb).mono ?_); rintro e w3 hM; obtain ⟨g3, cap3, rfl, hb, q3⟩ := made_row hM; clear hM; replace zb := bc zb hb; replace q0 := q0.on hb; replace q1 := q1.on hb; replace q2 := q2.on hb; clear hb)
      | (go_at_call 22; (with_reducible refine (CD.out _ zb).mono ?_); rintro e w4 hM; obtain ⟨g4, cap4, rfl, hb, q4⟩ := made_row hM; clear hM; replace zb := bc zb hb; replace q0 := q0.on hb; replace q1 := q1.on hb; replace q2 := q2.on hb; replace q3 := q3.on hb; clear hb))
    have F : ∀ k : Nat, k < 5 → ∃ (g p cap : Nat) (E : List UInt8), (∀ W : World, Below (w4.alloc (.cells #[.slice (some ⟨g0, 0, none⟩) pN cap0, .slice (some ⟨g1, 0, none⟩) pS cap1, .slice (some ⟨g2, 0, none⟩) pL cap2, .slice (some ⟨g3, 0, none⟩) pX cap3, .slice (some ⟨g4, 0, none⟩) pD cap4] 28)).heap.size (w4.alloc (.cells #[.slice (some ⟨g0, 0, none⟩) pN cap0, .slice (some ⟨g1, 0, none⟩) pS cap1, .slice (some ⟨g2, 0, none⟩) pL cap2, .slice (some ⟨g3, 0, none⟩) pX cap3, .slice (some ⟨g4, 0, none⟩) pD cap4] 28)) W →
        W.cell? ⟨w4.heap.size, k, none⟩ = some (.slice (some ⟨g, 0, none⟩) p cap) ∧ Lies W W.heap.size 1 (some ⟨g, 0, none⟩) p cap (E.map bv)) ∧ (∀ i, i < p → Short k (E.take i)) ∧ p ≤ 50000 := by
      have cell : ∀ (W : World) (k : Nat) (u : Value), Below (w4.alloc (.cells #[.slice (some ⟨g0, 0, none⟩) pN cap0, .slice (some ⟨g1, 0, none⟩) pS cap1, .slice (some ⟨g2, 0, none⟩) pL cap2, .slice (some ⟨g3, 0, none⟩) pX cap3, .slice (some ⟨g4, 0, none⟩) pD cap4] 28)).heap.size (w4.alloc (.cells #[.slice (some ⟨g0, 0, none⟩) pN cap0, .slice (some ⟨g1, 0, none⟩) pS cap1, .slice (some ⟨g2, 0, none⟩) pL cap2, .slice (some ⟨g3, 0, none⟩) pX cap3, .slice (some ⟨g4, 0, none⟩) pD cap4] 28)) W →
          [Value.slice (some ⟨g0, 0, none⟩) pN cap0, .slice (some ⟨g1, 0, none⟩) pS cap1, .slice (some ⟨g2, 0, none⟩) pL cap2, .slice (some ⟨g3, 0, none⟩) pX cap3, .slice (some ⟨g4, 0, none⟩) pD cap4][k]? = some u → W.cell? ⟨w4.heap.size, k, none⟩ = some u := by
        intro W k u hb hu
        rw [hb.cell (p := ⟨w4.heap.size, k, none⟩) (by rw [size_alloc]; show w4.heap.size < _; omega)]
        have h := fresh_many w4 _ 28 k u hu
        rwa [Addr.add_mid, Nat.zero_add] at h
      intro k hk
      have hkk : k = 0 ∨ k = 1 ∨ k = 2 ∨ k = 3 ∨ k = 4 := by omega
      rcases hkk with rfl | rfl | rfl | rfl | rfl
      · exact ⟨g0, pN, cap0, enc a, fun W hb => ⟨cell W _ _ hb rfl, (q0.on (b1 _ _)).on hb⟩, fun i hi => .inl ⟨rfl, dec_short ha (by rw [← H0.out]; exact hi)⟩, by omega⟩
      · exact ⟨g1, pS, cap1, encStr s, fun W hb => ⟨cell W _ _ hb rfl, (q1.on (b1 _ _)).on hb⟩, fun i hi => .inr (.inl ⟨rfl, decStr_short s (by omega) (by rw [← H1.out]; exact hi)⟩), by omega⟩
      · exact ⟨g2, pL, cap2, encList enc l, fun W hb => ⟨cell W _ _ hb rfl, (q2.on (b1 _ _)).on hb⟩, fun i hi => .inr (.inr (.inl ⟨rfl, decList_short l (by omega) (fun x hx t => dec_enc (hr x hx) t) (fun x hx i hi => dec_short (hr x hx) hi) (by rw [← H2.out]; exact hi)⟩)), by omega⟩
      · exact ⟨g3, pX, cap3, encList encStr x, fun W hb => ⟨cell W _ _ hb rfl, (q3.on (b1 _ _)).on hb⟩, fun i hi => .inr (.inr (.inr (.inl ⟨rfl, decList_short x (by omega) (fun y hy t => decStr_enc y t (HTR.out y hy)) (fun y hy i hi => decStr_short y (HTR.out y hy) hi) (by rw [← H3.out]; exact hi)⟩))), by omega⟩
      · exact ⟨g4, pD, cap4, encList (fun d => d) d, fun W hb => ⟨cell W _ _ hb rfl, (q4.on (b1 _ _)).on hb⟩, fun i hi => .inr (.inr (.inr (.inr ⟨rfl, decDig_short d (by omega) h16 (by rw [← H4.out]; exact hi)⟩))), by omega⟩
    have zb1 := bc zb (b1 w4 (.cells #[.slice (some ⟨g0, 0, none⟩) pN cap0, .slice (some ⟨g1, 0, none⟩) pS cap1, .slice (some ⟨g2, 0, none⟩) pL cap2, .slice (some ⟨g3, 0, none⟩) pX cap3, .slice (some ⟨g4, 0, none⟩) pD cap4] 28))
    generalize (w4.alloc (.cells #[.slice (some ⟨g0, 0, none⟩) pN cap0, .slice (some ⟨g1, 0, none⟩) pS cap1, .slice (some ⟨g2, 0, none⟩) pL cap2, .slice (some ⟨g3, 0, none⟩) pX cap3, .slice (some ⟨g4, 0, none⟩) pD cap4] 28)) = W1 at F zb1 ⊢
    have FF := Lib.hid F; clear F
    clear zb q0 q1 q2 q3 q4 CN CB CL CX CD FEW HTR H0 H1 H2 H3 H4
    go_loopw [49] (fun jv wr => ∃ (k : Nat), k ≤ 5 ∧ jv = .int .i64 (k : Int) ∧ Below W1.heap.size W1 wr) (fun jv _ => (5 - (intOf jv)).toNat)
    case atStart => exact ⟨0, by omega, rfl, Below.refl _ _⟩
    case round =>
      obtain ⟨k, hk, rfl, hbk⟩ := hrel
      by_cases hlt : k < 5
      · obtain ⟨g, p, cap, E, hF, hcut, hp⟩ := FF.out k hlt
        have hcell := (hF _ hbk).1
        have hlp := (hF _ hbk).2
        have hcp := hlp.le
        have hcm : cap ≤ 9223372036854775807 := by have := hlp.most; unfold maxLen at this; omega
        clear hlp
        have HF := Lib.hid hF; clear hF
        have HCUT := Lib.hid hcut; clear hcut
        have hd5 : decide ((k : Int) < 5) = true := by simp; omega
        by_cases hp5 : (p : Int) ≤ 500
        all_goals (
          go_wp2
          (try simp only [hd5])
          go_loopw [57] (fun jv wq => ∃ (i : Nat), i ≤ p ∧ i ≤ 500 ∧ jv = .int .i64 (i : Int) ∧ Below W1.heap.size W1 wq) (fun jv _ => (500 - (intOf jv)).toNat)
          case atStart => exact ⟨0, by omega, by omega, rfl, hbk⟩
          case round =>
            obtain ⟨i, hip, hi5, rfl, hbq⟩ := hrel
            by_cases hi : i < p ∧ i < 500
            · obtain ⟨hi1, hi2⟩ := hi
              have hsh := HCUT.out i hi1
              have hq := ((HF.out _ hbq).2).take hip
              rcases hsh with ⟨hk0, h5⟩ | ⟨hk0, h5⟩ | ⟨hk0, h5⟩ | ⟨hk0, h5⟩ | ⟨hk0, h5⟩
              · have l1 : 0 ≤ k := by omega
                have l2 : k ≤ 0 := by omega
                clear hk0
                go_wp2_with (go_at_call 24; (with_reducible refine (get_err hq h5).mono ?_); rintro e w6 ⟨rfl, rfl⟩)
                go_roundw
                case rel => exact ⟨i + 1, by omega, by omega, by go_num, hbq⟩
                case measure => simp [intOf]; omega
              · have l1 : 1 ≤ k := by omega
                have l2 : k ≤ 1 := by omega
                clear hk0
                go_wp2_with (go_at_call 26; (with_reducible refine (str_err hq h5).mono ?_); rintro e w6 ⟨rfl, rfl⟩)
                go_roundw
                case rel => exact ⟨i + 1, by omega, by omega, by go_num, hbq⟩
                case measure => simp [intOf]; omega
              · have l1 : 2 ≤ k := by omega
                have l2 : k ≤ 2 := by omega
                clear hk0
                go_wp2_with (go_at_call 28; (with_reducible refine (gI_err hq (few5 hi5) h5).mono ?_); rintro e w6 ⟨rfl, hb⟩)
                go_roundw
                case rel => exact ⟨i + 1, by omega, by omega, by go_num, (bc hbq hb)⟩
                case measure => simp [intOf]; omega
              · have l1 : 3 ≤ k := by omega
                have l2 : k ≤ 3 := by omega
                clear hk0
                go_wp2_with (go_at_call 31; (with_reducible refine (gS_err hq (few5 hi5) h5).mono ?_); rintro e w6 ⟨rfl, hb⟩)
                go_roundw
                case rel => exact ⟨i + 1, by omega, by omega, by go_num, (bc hbq hb)⟩
                case measure => simp [intOf]; omega
              · have l1 : 4 ≤ k := by omega
                have l2 : k ≤ 4 := by omega
                clear hk0
                go_wp2_with (go_at_call 34; (with_reducible refine (gD_err hq (few5 hi5) h5).mono ?_); rintro e w6 ⟨rfl, hb⟩)
                go_roundw
                case rel => exact ⟨i + 1, by omega, by omega, by go_num, (bc hbq hb)⟩
                case measure => simp [intOf]; omega
            · go_wp2
              go_roundw
              case rel => exact ⟨k + 1, by omega, by go_num, hbq⟩
              case measure => simp [intOf]; omega)
      · obtain rfl : k = 5 := by omega
        go_wp2_with (go_at_call 12; (with_reducible refine (sanity_any _).mono ?_); rintro e w6 ⟨rfl, hb⟩)
        go_ret
        exact ⟨rfl, bc (bc zb1 hbk) hb⟩
  · have FEW := Lib.hid (few_any x x.length c2 A2 w hx htt)
    rw [decide_eq_false h3] at FEW
    go_enter Try.func9, Try.ntmps9
    go_wp2_with (first
      | (go_at_call 11; (with_reducible refine FEW.out.mono ?_); rintro e w1 ⟨rfl, rfl⟩)
      | (go_at_call 12; refine (sanity_any _).mono ?_; rintro e w1 ⟨rfl, hb⟩))
    go_ret
    exact ⟨rfl, hb⟩

end Wire
end Go.Proofs.Ytlpkiaeimcoplaa
