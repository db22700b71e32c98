/- The walk of the statement HashOfSeparates. Condition: the table of round constants reads as the program lays it. -/
import Derived.Test.YtciinlncflngdaaDoorHSep
namespace Go.Proofs.YtciinlncflngdaaDoor
open Go.RowKit
namespace Hash
open Wire (bv sv Made Lies encStr)

def sameTo (t0 t1 : Nat) (a b : List (List UInt8)) (i : Nat) : Bool := decide (t0 = t1 ∧ a.length = b.length ∧ a.take i = b.take i)
theorem sameTo_next {t0 t1 : Nat} {a b : List (List UInt8)} {i : Nat} {x y : List UInt8} (h : sameTo t0 t1 a b i = true) (hx : a[i]? = some x) (hy : b[i]? = some y) : decide (x = y) = sameTo t0 t1 a b (i + 1) := by
  simp only [sameTo, decide_eq_true_eq] at h ⊢
  obtain ⟨h1, h2, h3⟩ := h
  by_cases e : x = y
  · rw [decide_eq_true e, decide_eq_true]
    exact ⟨h1, h2, by rw [List.take_add_one, List.take_add_one, hx, hy, h3, e]⟩
  · rw [decide_eq_false e, decide_eq_false]
    rintro ⟨_, _, h4⟩
    rw [List.take_add_one, List.take_add_one, hx, hy, h3] at h4
    have := List.append_cancel_left h4
    simp at this
    exact e this

set_option maxRecDepth 100000 in
set_option maxHeartbeats 4000000 in
theorem sepLaw (t0 t1 : Nat) (a b : List (List UInt8)) (n c m d : Nat) (A B : Option Addr) (w : World) (h0 : t0 < 256) (h1 : t1 < 256) (hla : Lies w w.heap.size 1 A n c (a.map sv)) (hlb : Lies w w.heap.size 1 B m d (b.map sv)) (ht : Table 1 w) :
    Calls Tryd.prog 8 #[.agg #[.int .u8 (t0 : Int), .int .u8 (t1 : Int)], .slice A n c, .slice B m d] w (YesH w) := by
  have hb0 : Below w.heap.size w (w.alloc (.cells #[.int .u8 (t0 : Int), .int .u8 (t1 : Int)] 48)) := (Below.refl _ _).alloc (Nat.le_refl _) _
  have S0 : SepT w (w.alloc (.cells #[.int .u8 (t0 : Int), .int .u8 (t1 : Int)] 48)) A n c a B m d b t0 t1 := ⟨tabj ht hb0, lies_on hla hb0, lies_on hlb hb0, arr_new w #[.int .u8 (t0 : Int), .int .u8 (t1 : Int)] 48, hb0⟩
  have EA := Lib.hid (fun W (h : SepT w W A n c a B m d b t0 t1) => few_any a n c A W h.ta)
  have EB := Lib.hid (fun W (h : SepT w W A n c a B m d b t0 t1) => few_any b m d B W h.tb)
  have hna : a.length = n := by have := hla.len; simpa using this
  have hnb : b.length = m := by have := hlb.len; simpa using this
  have hca : c ≤ 9223372036854775807 := by have := hla.most; unfold maxLen at this; omega
  have hcb : d ≤ 9223372036854775807 := by have := hlb.most; unfold maxLen at this; omega
  have hlea := hla.le
  have hleb := hlb.le
  clear ht hla hlb hb0
  cases hfa : fewB a with
  | false =>
    rw [hfa] at EA
    clear hfa hna hnb
    go_enter Tryd.func8, Tryd.ntmps8
    go_wp2_with (first
      | (go_at_call 10; refine gen_world (G := fun W => Calls _ _ _ W _) (Pq := fun W => SepT w W A n c a B m d b t0 t1) S0 ?_; clear S0; intro w0 S0; (with_reducible refine (sanity_any _ S0.tab).mono ?_); rintro e w1 ⟨rfl, hb⟩; replace S0 := S0.on hb; clear hb)
      | (go_at_call 13; (with_reducible refine (EA.out _ S0).mono ?_); rintro e w2 ⟨rfl, rfl⟩))
    go_ret
    exact ⟨rfl, S0.below⟩
  | true =>
    cases hfb : fewB b with
    | false =>
      rw [hfa] at EA
      rw [hfb] at EB
      clear hfa hfb hna hnb
      go_enter Tryd.func8, Tryd.ntmps8
      go_wp2_with (first
        | (go_at_call 10; refine gen_world (G := fun W => Calls _ _ _ W _) (Pq := fun W => SepT w W A n c a B m d b t0 t1) S0 ?_; clear S0; intro w0 S0; (with_reducible refine (sanity_any _ S0.tab).mono ?_); rintro e w1 ⟨rfl, hb⟩; replace S0 := S0.on hb; clear hb)
        | (go_at_call 13; (with_reducible refine (EA.out _ S0).mono ?_); rintro e w2 ⟨rfl, rfl⟩)
        | (go_at_call 13; (with_reducible refine (EB.out _ S0).mono ?_); rintro e w2 ⟨rfl, rfl⟩))
      go_ret
      exact ⟨rfl, S0.below⟩
    | true =>
      obtain ⟨ha12, ha4⟩ := fewB_all hfa
      obtain ⟨hb12, hb4⟩ := fewB_all hfb
      rw [hfa] at EA
      rw [hfb] at EB
      have HN := Lib.hid hna
      have HM := Lib.hid hnb
      have HINJ := Lib.hid (fun h => ofIn_inj h0 h1 ha4 hb4 h)
      have HA := Lib.hid (ofIn_le (t0 : Int) ha12 ha4)
      have HB := Lib.hid (ofIn_le (t1 : Int) hb12 hb4)
      have u0 : (0 : Int) ≤ (t0 : Int) := by omega
      have u1 : (t0 : Int) < 256 := by omega
      have u2 : (0 : Int) ≤ (t1 : Int) := by omega
      have u3 : (t1 : Int) < 256 := by omega
      have hz := zero16v
      have hz2 := zero32
      obtain ⟨sf, hsf⟩ : ∃ sf, sf = sameTo t0 t1 a b := ⟨_, rfl⟩
      have HSF := Lib.hid hsf
      have hs0 : sf 0 = decide (t0 = t1 ∧ n = m) := by rw [hsf]; unfold sameTo; rw [hna, hnb]; simp
      clear hfa hfb ha12 hb12 ha4 hb4 hna hnb hsf
      by_cases htt : (t0 : Int) = (t1 : Int)
      case' pos => by_cases hnm : (n : Int) = (m : Int)
      case' pos =>
        have e1 : ((t0 : Int) == (t1 : Int)) = true := by simpa using htt
        have e2 : ((n : Int) == (m : Int)) = true := by simpa using hnm
        have HS0 : Hid (sf 0 = true) := Lib.hid (by rw [hs0]; exact decide_eq_true ⟨by omega, by omega⟩)
        clear htt hnm hs0
      case' neg =>
        have e1 : ((t0 : Int) == (t1 : Int)) = true := by simpa using htt
        have e2 : ((n : Int) == (m : Int)) = false := by simpa using hnm
        have HS0 : Hid (sf 0 = false) := Lib.hid (by rw [hs0]; exact decide_eq_false (by omega))
        clear htt hnm hs0
      rotate_left 2
      have e1 : ((t0 : Int) == (t1 : Int)) = false := by simpa using htt
      have HS0 : Hid (sf 0 = false) := Lib.hid (by rw [hs0]; exact decide_eq_false (by omega))
      clear htt hs0
      rotate_left 1
      all_goals
        go_enter Tryd.func8, Tryd.ntmps8
        go_wp2_with (first
          | (go_at_call 10; refine gen_world (G := fun W => Calls _ _ _ W _) (Pq := fun W => SepT w W A n c a B m d b t0 t1) S0 ?_; clear S0; intro w0 S0; (with_reducible refine (sanity_any _ S0.tab).mono ?_); rintro e w1 ⟨rfl, hb⟩; replace S0 := S0.on hb; clear hb)
          | (go_at_call 13; (with_reducible refine (EA.out _ S0).mono ?_); rintro e w2 ⟨rfl, rfl⟩)
          | (go_at_call 13; (with_reducible refine (EB.out _ S0).mono ?_); rintro e w2 ⟨rfl, rfl⟩; obtain ⟨c0, c1⟩ := S0.cells))
        clear c0 c1 EA EB e1
        try clear e2
        go_loopw [8, 9] (fun bv_ iv wr => ∃ (i : Nat), i ≤ n ∧ iv = .int .i64 (i : Int) ∧ bv_ = .bool (sf i) ∧ SepT w wr A n c a B m d b t0 t1) (fun _ iv _ => n - (intOf iv).toNat)
        case atStart => exact ⟨0, by omega, rfl, by rw [HS0.out], S0⟩
        case round =>
          clear S0
          obtain ⟨i, hin0, rfl, rfl, hq⟩ := hrel
          cases hsi : sf i with
          | true =>
            have HSI := Lib.hid hsi
            clear hsi
            by_cases hin : i < n
            · obtain ⟨h3, h4, h5⟩ : t0 = t1 ∧ a.length = b.length ∧ a.take i = b.take i := by have := HSI.out; rw [HSF.out] at this; simpa only [sameTo, decide_eq_true_eq] using this
              have him : i < m := by have := HN.out; have := HM.out; omega
              obtain ⟨b1, o1, v1, rfl, hbw1, hv1, hcx⟩ := hq.ta.at_ hin
              obtain ⟨b2, o2, v2, rfl, hbw2, hv2, hcy⟩ := hq.tb.at_ him
              obtain ⟨x, hx⟩ : ∃ x, a[i]? = some x := ⟨_, List.getElem?_eq_getElem (by rw [HN.out]; exact hin)⟩
              obtain ⟨y, hy⟩ : ∃ y, b[i]? = some y := ⟨_, List.getElem?_eq_getElem (by rw [HM.out]; exact him)⟩
              rw [List.getElem?_map, hx] at hv1
              rw [List.getElem?_map, hy] at hv2
              cases hv1
              cases hv2
              have hnx := sameTo_next (show sameTo t0 t1 a b i = true by rw [← HSF.out]; exact HSI.out) hx hy
              rw [← HSF.out] at hnx
              have HBE : Hid ((x == y) = sf (i + 1)) := Lib.hid (by rw [← hnx, Bool.eq_iff_iff]; simp)
              have HQ := Lib.hid hq
              unfold sv at hcx hcy
              have y0 : (0 : Int) ≤ (i : Int) := by omega
              have y1 : (i : Int) < (n : Int) := by omega
              have y2 : (i : Int) < (m : Int) := by omega
              clear hnx hx hy h3 h4 h5 hq
              go_wp2
              go_quiet (fail)
              go_wp2
              go_roundw
              case rel => exact ⟨i + 1, by omega, by go_num, congrArg Value.bool HBE.out, HQ.out.drewN nq⟩
              case measure => simp [intOf]; omega
            · have hin2 : i = n := by omega
              have y1 : ¬ (i : Int) < (n : Int) := by omega
              have hXY : ofIn (t0 : Int) a = ofIn (t1 : Int) b := by
                have h := HSI.out
                rw [HSF.out] at h
                obtain ⟨h3, h4, h5⟩ : t0 = t1 ∧ a.length = b.length ∧ a.take i = b.take i := by simpa only [sameTo, decide_eq_true_eq] using h
                rw [List.take_of_length_le (by rw [HN.out]; omega), List.take_of_length_le (by rw [← h4, HN.out]; omega)] at h5
                rw [h3, h5]
              have IA := Lib.hid (fun W (h : SepT w W A n c a B m d b t0 t1) => input_any (t0 : Int) a n c A W h.ta HA.out.1)
              have IB := Lib.hid (fun W (h : SepT w W A n c a B m d b t0 t1) => input_any (t1 : Int) b m d B W h.tb HB.out.1)
              rw [← hXY] at IB
              generalize ofIn (t0 : Int) a = X at IA IB
              have heq := sameS X
              obtain ⟨c0, c1⟩ := hq.cells
              clear hXY hin2 hin
              go_wp2_with (first
                | (go_at_call 23; (with_reducible refine (IA.out _ hq).mono ?_); rintro e w3 ⟨g3, k3, rfl, ho3, hb3⟩; replace ho3 := Wire.own_more ho3 hq.below.size; replace hq := hq.on hb3; clear c0 c1 hb3; obtain ⟨c0, c1⟩ := hq.cells)
                | (go_at_call 23; (with_reducible refine (IB.out _ hq).mono ?_); rintro e w4 ⟨g4, k4, rfl, ho4, hb4⟩; replace ho4 := Wire.own_more ho4 hq.below.size; replace hq := hq.on hb4; replace ho3 := Wire.own_below ho3 hb4; have hv3 := convO ho3 rfl; have hv4 := convO ho4 rfl; clear c0 c1 hb4 ho3 ho4))
              go_ret
              exact ⟨rfl, hq.below⟩
          | false =>
            have hXY : ofIn (t0 : Int) a ≠ ofIn (t1 : Int) b := by
              intro h
              obtain ⟨h3, h4⟩ := HINJ.out h
              rw [HSF.out] at hsi
              simp only [sameTo, decide_eq_false_iff_not] at hsi
              exact hsi ⟨h3, by rw [h4], by rw [h4]⟩
            have IA := Lib.hid (fun W (h : SepT w W A n c a B m d b t0 t1) => input_any (t0 : Int) a n c A W h.ta HA.out.1)
            have IB := Lib.hid (fun W (h : SepT w W A n c a B m d b t0 t1) => input_any (t1 : Int) b m d B W h.tb HB.out.1)
            have OA := Lib.hid (fun W (h : SepT w W A n c a B m d b t0 t1) => of_any (t0 : Int) a n c A W h.ta (fun s hs => Nat.le_trans (HA.out.2 s hs) (by omega)) h.tab)
            have OB := Lib.hid (fun W (h : SepT w W A n c a B m d b t0 t1) => of_any (t1 : Int) b m d B W h.tb (fun s hs => Nat.le_trans (HB.out.2 s hs) (by omega)) h.tab)
            rw [show ofDig (t0 : Int) a = (sha (ofIn (t0 : Int) a)).take 16 from rfl] at OA
            rw [show ofDig (t1 : Int) b = (sha (ofIn (t1 : Int) b)).take 16 from rfl] at OB
            generalize ofIn (t0 : Int) a = X at IA OA hXY
            generalize ofIn (t1 : Int) b = Y at IB OB hXY
            have SX := Lib.hid (fun W k A c (h : Lies W W.heap.size 1 A k c (X.map bv)) hT => sum_any X k c A W h hT)
            have SY := Lib.hid (fun W k A c (h : Lies W W.heap.size 1 A k c (Y.map bv)) hT => sum_any Y k c A W h hT)
            have hneq : (X == Y) = false := by simpa using hXY
            have hGL := sha_length X
            have hHL := sha_length Y
            generalize sha X = G at OA SX hGL
            generalize sha Y = H at OB SY hHL
            obtain ⟨D, hD⟩ : ∃ D, D = G.take 16 := ⟨_, rfl⟩
            obtain ⟨E, hE⟩ : ∃ E, E = H.take 16 := ⟨_, rfl⟩
            rw [← hD] at OA
            rw [← hE] at OB
            have hDL : D.length = 16 := by rw [hD, List.length_take]; omega
            have hEL : E.length = 16 := by rw [hE, List.length_take]; omega
            obtain ⟨q, hqd⟩ : ∃ q : Nat → Bool, q = fun i => decide (G.take i = H.take i) := ⟨_, rfl⟩
            have hde : ∀ W, (Op.equalIn 10000 44 (.agg (D.map bv).toArray) (.agg (E.map bv).toArray)).run Tryd.prog W = .ok (q 16) W := fun W => by
              have := eqD D E hDL hEL W
              rw [this, hqd]
              congr 1
              rw [hD, hE]
              rw [Bool.eq_iff_iff]; simp
            have HQD := Lib.hid hqd
            have HGL := Lib.hid hGL
            have HHL := Lib.hid hHL
            have HDL := Lib.hid hDL
            have HEL := Lib.hid hEL
            have HDL2 : Hid ((D.map bv).length = 16) := Lib.hid (by rw [List.length_map]; exact hDL)
            have HEL2 : Hid ((E.map bv).length = 16) := Lib.hid (by rw [List.length_map]; exact hEL)
            clear hXY hD hE hDL hEL hGL hHL hqd hsi
            by_cases hin : (i : Int) < (n : Int)
            all_goals
              obtain ⟨c0, c1⟩ := hq.cells
              go_wp2_with (first
                | (go_at_call 23; (with_reducible refine (IA.out _ hq).mono ?_); rintro e w3 ⟨g3, k3, rfl, ho3, hb3⟩; replace ho3 := Wire.own_more ho3 hq.below.size; replace hq := hq.on hb3; clear c0 c1 hb3; obtain ⟨c0, c1⟩ := hq.cells)
                | (go_at_call 23; (with_reducible refine (IB.out _ hq).mono ?_); rintro e w4 ⟨g4, k4, rfl, ho4, hb4⟩; replace ho4 := Wire.own_more ho4 hq.below.size; replace hq := hq.on hb4; replace ho3 := Wire.own_below ho3 hb4; clear c0 c1 hb4; obtain ⟨c0, c1⟩ := hq.cells)
                | (go_at_call 21; (with_reducible refine (OA.out _ hq).mono ?_); rintro e w5 ⟨rfl, hb5⟩; replace hq := hq.on hb5; replace ho3 := Wire.own_below ho3 hb5; replace ho4 := Wire.own_below ho4 hb5; clear c0 c1 hb5)
                | ((with_reducible refine at_store 44 (.tmp 12) (.tmp 81) rfl ?_); refine wpList_store_mid rfl 44 (.tmp 12) (.tmp 81) rfl w5.heap.size 0 (D.map bv).toArray rfl rfl (fresh16 _ _ HDL.out _) (i16A HDL2.out) (bytes_all _) ?_; have hN := fresh16A w5 D HDL.out 44; refine gen_world (Pq := fun W => SepT w W _ n c a _ m d b t0 t1 ∧ W.ownsRow w.heap.size 5 1 (.slice (some ⟨g3, 0, none⟩) X.length k3) X.length (X.map bv) ∧ W.ownsRow w.heap.size 5 1 (.slice (some ⟨g4, 0, none⟩) Y.length k4) Y.length (Y.map bv) ∧ Keep W [(w5.heap.size, 16, D.map bv)]) (G := fun W => wpList _ _ _ _ _ W) ⟨hq.on hN.2, Wire.own_below ho3 hN.2, Wire.own_below ho4 hN.2, (Keep.nil _).add (by omega) hN.1⟩ ?_; clear hN ho3 ho4 hq; rintro w6 ⟨hq, ho3, ho4, KK⟩; obtain ⟨c0, c1⟩ := hq.cells)
                | (go_at_call 21; (with_reducible refine (OB.out _ hq).mono ?_); rintro e w7 ⟨rfl, hb7⟩; replace hq := hq.on hb7; replace ho3 := Wire.own_below ho3 hb7; replace ho4 := Wire.own_below ho4 hb7; replace KK := KK.on hb7; clear c0 c1 hb7)
                | ((with_reducible refine at_store 44 (.tmp 13) (.tmp 86) rfl ?_); refine wpList_store_mid rfl 44 (.tmp 13) (.tmp 86) rfl w7.heap.size 0 (E.map bv).toArray rfl rfl (fresh16 _ _ HEL.out _) (i16A HEL2.out) (bytes_all _) ?_; have hN := fresh16A w7 E HEL.out 44; refine gen_world (Pq := fun W => SepT w W _ n c a _ m d b t0 t1 ∧ W.ownsRow w.heap.size 5 1 (.slice (some ⟨g3, 0, none⟩) X.length k3) X.length (X.map bv) ∧ W.ownsRow w.heap.size 5 1 (.slice (some ⟨g4, 0, none⟩) Y.length k4) Y.length (Y.map bv) ∧ Keep W [(w7.heap.size, 16, E.map bv), (w5.heap.size, 16, D.map bv)]) (G := fun W => wpList _ _ _ _ _ W) ⟨hq.on hN.2, Wire.own_below ho3 hN.2, Wire.own_below ho4 hN.2, (KK.on hN.2).add (by omega) hN.1⟩ ?_; clear hN ho3 ho4 hq KK; rintro w8 ⟨hq, ho3, ho4, KK⟩)
                | (go_at_call 11; (with_reducible refine (SX.out _ _ _ _ (Wire.lies_own ho3) hq.tab).mono ?_); rintro e w9 ⟨rfl, hb9⟩; replace hq := hq.on hb9; replace ho3 := Wire.own_below ho3 hb9; replace ho4 := Wire.own_below ho4 hb9; replace KK := KK.on hb9; clear hb9)
                | ((with_reducible refine at_store 24 (.tmp 14) (.tmp 88) rfl ?_); refine wpList_store_mid rfl 24 (.tmp 14) (.tmp 88) rfl w9.heap.size 0 (G.map bv).toArray rfl rfl (fresh32 _ _ HGL.out _) (i32A HGL.out) (bytes_all _) ?_; have hN := fresh32A w9 G HGL.out 24; refine gen_world (Pq := fun W => SepT w W _ n c a _ m d b t0 t1 ∧ W.ownsRow w.heap.size 5 1 (.slice (some ⟨g3, 0, none⟩) X.length k3) X.length (X.map bv) ∧ W.ownsRow w.heap.size 5 1 (.slice (some ⟨g4, 0, none⟩) Y.length k4) Y.length (Y.map bv) ∧ Keep W [(w9.heap.size, 32, G.map bv), (w7.heap.size, 16, E.map bv), (w5.heap.size, 16, D.map bv)]) (G := fun W => wpList _ _ _ _ _ W) ⟨hq.on hN.2, Wire.own_below ho3 hN.2, Wire.own_below ho4 hN.2, (KK.on hN.2).add (by omega) hN.1⟩ ?_; clear hN ho3 ho4 hq KK; rintro w10 ⟨hq, ho3, ho4, KK⟩)
                | (go_at_call 11; (with_reducible refine (SY.out _ _ _ _ (Wire.lies_own ho4) hq.tab).mono ?_); rintro e w11 ⟨rfl, hb11⟩; replace hq := hq.on hb11; replace ho3 := Wire.own_below ho3 hb11; replace ho4 := Wire.own_below ho4 hb11; replace KK := KK.on hb11; clear hb11)
                | ((with_reducible refine at_store 24 (.tmp 15) (.tmp 90) rfl ?_); refine wpList_store_mid rfl 24 (.tmp 15) (.tmp 90) rfl w11.heap.size 0 (H.map bv).toArray rfl rfl (fresh32 _ _ HHL.out _) (i32A HHL.out) (bytes_all _) ?_; have hN := fresh32A w11 H HHL.out 24; refine gen_world (Pq := fun W => SepT w W _ n c a _ m d b t0 t1 ∧ W.ownsRow w.heap.size 5 1 (.slice (some ⟨g3, 0, none⟩) X.length k3) X.length (X.map bv) ∧ W.ownsRow w.heap.size 5 1 (.slice (some ⟨g4, 0, none⟩) Y.length k4) Y.length (Y.map bv) ∧ Keep W [(w11.heap.size, 32, H.map bv), (w9.heap.size, 32, G.map bv), (w7.heap.size, 16, E.map bv), (w5.heap.size, 16, D.map bv)]) (G := fun W => wpList _ _ _ _ _ W) ⟨hq.on hN.2, Wire.own_below ho3 hN.2, Wire.own_below ho4 hN.2, (KK.on hN.2).add (by omega) hN.1⟩ ?_; clear hN ho3 ho4 hq KK; rintro w12 ⟨hq, ho3, ho4, KK⟩))
              revert KK
              generalize w11.heap.size = pH
              generalize w9.heap.size = pG
              generalize w7.heap.size = pE
              generalize w5.heap.size = pD
              intro KK
              clear hz hz2 IA IB OA OB SX SY
              have hq0 : q 0 = true := by rw [HQD.out]; rfl
              have HQ0 := Lib.hid hq0
              clear hq0
              go_loopw [16, 17] (fun cv iv wr => ∃ (j : Nat), j ≤ 16 ∧ iv = .int .i64 (j : Int) ∧ cv = .bool (q j) ∧ SepT w wr _ n c a _ m d b t0 t1 ∧ wr.ownsRow w.heap.size 5 1 (.slice (some ⟨g3, 0, none⟩) X.length k3) X.length (X.map bv) ∧ wr.ownsRow w.heap.size 5 1 (.slice (some ⟨g4, 0, none⟩) Y.length k4) Y.length (Y.map bv) ∧ Keep wr [(pH, 32, H.map bv), (pG, 32, G.map bv), (pE, 16, E.map bv), (pD, 16, D.map bv)]) (fun _ iv _ => (16 - intOf iv).toNat)
              case atStart => exact ⟨0, by omega, rfl, by rw [HQ0.out], hq, ho3, ho4, KK⟩
              case round =>
                clear hq ho3 ho4 KK
                obtain ⟨j, hj16, rfl, rfl, hq, ho3, ho4, KK⟩ := hrel
                by_cases hj : j < 16
                · have y5 : (0 : Int) ≤ (j : Int) := by omega
                  have y6 : (j : Int) < 16 := by omega
                  obtain ⟨x, hx⟩ : ∃ x, G[j]? = some x := ⟨_, List.getElem?_eq_getElem (by rw [HGL.out]; omega)⟩
                  obtain ⟨y, hy⟩ : ∃ y, H[j]? = some y := ⟨_, List.getElem?_eq_getElem (by rw [HHL.out]; omega)⟩
                  have cg : wr.cell? ⟨pG, j, none⟩ = some (.int .u8 (x.toNat : Int)) := (KK.tl.at0.at_ (i := j) (u := bv x) (by rw [List.getElem?_map, hx]; rfl)).1
                  have ch : wr.cell? ⟨pH, j, none⟩ = some (.int .u8 (y.toNat : Int)) := (KK.at0.at_ (i := j) (u := bv y) (by rw [List.getElem?_map, hy]; rfl)).1
                  have HST := Lib.hid (And.intro hq (And.intro ho3 (And.intro ho4 KK)))
                  clear hq ho3 ho4 KK
                  cases hqj : q j with
                  | true =>
                    have HBE : Hid (((x.toNat : Int) == (y.toNat : Int)) = q (j + 1)) := Lib.hid (by
                      have h := hqj
                      rw [HQD.out] at h ⊢
                      simp only [decide_eq_true_eq] at h
                      rw [Bool.eq_iff_iff]
                      simp only [beq_iff_eq, decide_eq_true_eq]
                      rw [List.take_add_one, List.take_add_one, hx, hy, h]
                      constructor
                      · intro e
                        have : x = y := UInt8.toNat_inj.1 (by omega)
                        rw [this]
                      · intro e
                        have e2 := List.append_cancel_left e
                        simp at e2
                        rw [e2])
                    clear hqj hx hy
                    go_wp2
                    go_quiet (fail)
                    go_wp2
                    go_roundw
                    case rel => exact ⟨j + 1, by omega, by go_num, congrArg Value.bool HBE.out, HST.out.1.drewN nq, HST.out.2.1, HST.out.2.2.1, HST.out.2.2.2.drew nq⟩
                    case measure => simp [intOf]; omega
                  | false =>
                    have HBE : Hid (false = q (j + 1)) := Lib.hid (by
                      have h := hqj
                      rw [HQD.out] at h ⊢
                      simp only [decide_eq_false_iff_not] at h
                      rw [eq_comm, decide_eq_false_iff_not]
                      intro e
                      rw [List.take_add_one, List.take_add_one, hx, hy] at e
                      exact h (List.append_inj' e rfl).1)
                    clear hqj hx hy
                    go_wp2
                    go_quiet (fail)
                    go_wp2
                    go_roundw
                    case rel => exact ⟨j + 1, by omega, by go_num, congrArg Value.bool HBE.out, HST.out.1.drewN nq, HST.out.2.1, HST.out.2.2.1, HST.out.2.2.2.drew nq⟩
                    case measure => simp [intOf]; omega
                · obtain rfl : j = 16 := by omega
                  have y6 : ¬ ((16 : Nat) : Int) < 16 := by omega
                  have hv3 := convO ho3 rfl
                  have hv4 := convO ho4 rfl
                  have hrE := KK.tl.tl.at0.range
                  have hrD := KK.tl.tl.tl.at0.range
                  generalize q 16 = q16 at *
                  have HBL := Lib.hid hq.below
                  clear hq ho3 ho4 KK hj hj16
                  go_wp2_with (first
                    | ((with_reducible refine at_slot 114 rfl ?_); refine QTail.loadG (by rfl) 44 (.tmp 12) rfl pD 0 rfl (D.map bv) _ hrD Tryd.underlying44 rfl (i16 HDL2.out) ?_)
                    | ((with_reducible refine at_slot 115 rfl ?_); refine QTail.loadG (by rfl) 44 (.tmp 13) rfl pE 0 rfl (E.map bv) _ hrE Tryd.underlying44 rfl (i16 HEL2.out) ?_))
                  go_ret
                  exact ⟨rfl, HBL.out⟩

end Hash
end Go.Proofs.YtciinlncflngdaaDoor
