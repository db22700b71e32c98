/- The reference of package wots: Advance. Condition: the value has 16 bytes, the tables are laid. -/
import Derived.Test.YtmabbiemjeeicaaDoorM13
namespace Go.Proofs.YtmabbiemjeeicaaDoor
open Go.RowKit
namespace Wo
open Mk (dv Dg GivesD dg_new dg_zero dg_end store_d load_d und_d info_d one_d info_dA)
open Wire (bv sv Lies enc Made)
open Hash (Table GivesT tabj bcj ofDig)

set_option maxRecDepth 100000 in
set_option maxHeartbeats 1000000 in
theorem refAdvance_no (k a b : Int) (v : List UInt8) (hv : v.length = 16) (w : World) (h : ¬ ((0 ≤ k ∧ k ≤ 34) ∧ (0 ≤ a ∧ a ≤ 15) ∧ 0 ≤ b ∧ b ≤ 15)) :
    Calls Tryd.prog 22 #[.int .i64 k, .int .i64 a, .int .i64 b, dv v] w (GivesD zero w) := by
  have Y := bx_new w hv 23 23
  clear hv
  unfold dv
  by_cases c0 : k < 0
  · clear h
    go_enter Tryd.func22, Tryd.ntmps22
    go_wp2_with (refine store_d (.tmp 8) (.tmp 32) rfl rfl (w.heap.size + 1) 0 rfl zero rfl rfl Y.r.there ?_)
    have HE := dg_end Y.r zero_length Y.z (by omega)
    refine bodyPost_ret (v := dv zero) ?_ rfl ⟨rfl, HE.2⟩
    simp [results, Tryd.results22, asAddr, Act.put]
    rw [HE.1]
  ·
    by_cases c1 : 34 < k
    · clear h
      go_enter Tryd.func22, Tryd.ntmps22
      go_wp2_with (refine store_d (.tmp 8) (.tmp 32) rfl rfl (w.heap.size + 1) 0 rfl zero rfl rfl Y.r.there ?_)
      have HE := dg_end Y.r zero_length Y.z (by omega)
      refine bodyPost_ret (v := dv zero) ?_ rfl ⟨rfl, HE.2⟩
      simp [results, Tryd.results22, asAddr]
      rw [HE.1]
    ·
      by_cases c2 : a < 0
      · clear h
        go_enter Tryd.func22, Tryd.ntmps22
        go_wp2_with (refine store_d (.tmp 8) (.tmp 32) rfl rfl (w.heap.size + 1) 0 rfl zero rfl rfl Y.r.there ?_)
        have HE := dg_end Y.r zero_length Y.z (by omega)
        refine bodyPost_ret (v := dv zero) ?_ rfl ⟨rfl, HE.2⟩
        simp [results, Tryd.results22, asAddr]
        rw [HE.1]
      ·
        by_cases c3 : 15 < a
        · clear h
          go_enter Tryd.func22, Tryd.ntmps22
          go_wp2_with (refine store_d (.tmp 8) (.tmp 32) rfl rfl (w.heap.size + 1) 0 rfl zero rfl rfl Y.r.there ?_)
          have HE := dg_end Y.r zero_length Y.z (by omega)
          refine bodyPost_ret (v := dv zero) ?_ rfl ⟨rfl, HE.2⟩
          simp [results, Tryd.results22, asAddr]
          rw [HE.1]
        ·
          by_cases c4 : b < 0
          · clear h
            go_enter Tryd.func22, Tryd.ntmps22
            go_wp2_with (refine store_d (.tmp 8) (.tmp 32) rfl rfl (w.heap.size + 1) 0 rfl zero rfl rfl Y.r.there ?_)
            have HE := dg_end Y.r zero_length Y.z (by omega)
            refine bodyPost_ret (v := dv zero) ?_ rfl ⟨rfl, HE.2⟩
            simp [results, Tryd.results22, asAddr]
            rw [HE.1]
          ·
            by_cases c5 : 15 < b
            · clear h
              go_enter Tryd.func22, Tryd.ntmps22
              go_wp2_with (refine store_d (.tmp 8) (.tmp 32) rfl rfl (w.heap.size + 1) 0 rfl zero rfl rfl Y.r.there ?_)
              have HE := dg_end Y.r zero_length Y.z (by omega)
              refine bodyPost_ret (v := dv zero) ?_ rfl ⟨rfl, HE.2⟩
              simp [results, Tryd.results22, asAddr]
              rw [HE.1]
            ·
              exact absurd ⟨⟨by omega, by omega⟩, ⟨by omega, by omega⟩, by omega, by omega⟩ h
set_option maxRecDepth 100000 in
set_option maxHeartbeats 1000000 in
theorem refAdvance_nat (k a b : Nat) (hk : k ≤ 34) (ha : a ≤ 15) (hb : b ≤ 15) (v : List UInt8) (hv : v.length = 16) (w : World) (ht : TT w) :
    Calls Tryd.prog 22 #[.int .i64 (k : Int), .int .i64 (a : Int), .int .i64 (b : Int), dv v] w (GivesD (adv k a b v) w) := by
  have z1 : ¬ (k : Int) < 0 := by omega
  have z2 : ¬ 34 < (k : Int) := by omega
  have z3 : ¬ (a : Int) < 0 := by omega
  have z4 : ¬ 15 < (a : Int) := by omega
  have z5 : ¬ (b : Int) < 0 := by omega
  have z6 : ¬ 15 < (b : Int) := by omega
  have Y := bx_new w hv 23 23
  have HV := Lib.hid hv
  have HT := Lib.hid ht
  have HI1 := Lib.hid (fun W => Wire.refInt_any (k : Int) W (by omega))
  clear hv ht
  unfold dv
  go_enter Tryd.func22, Tryd.ntmps22
  go_wp2
  clear z1 z2 z3 z4 z5 z6
  go_loopw [9] (fun hv wr => ∃ (j : Nat), a ≤ j ∧ j ≤ 15 ∧ (j ≤ b ∨ j = a) ∧ hv = .int .i64 (j : Int) ∧ Bx w wr (adv k a j v)) (fun hv _ => b - (intOf hv).toNat)
  case atStart => exact ⟨a, Nat.le_refl _, ha, .inr rfl, rfl, by rw [adv_self]; exact Y⟩
  case round =>
    obtain ⟨j, haj, hj15, hjb, rfl, Y⟩ := hrel
    by_cases hlt : j < b
    · have z1 : (j : Int) < (b : Int) := by omega
      have HI2 := Lib.hid (fun W => Wire.refInt_any (j : Int) W (by omega))
      have hal := adv_length (k := k) (a := a) (b := j) HV.out
      have HL := Lib.hid hal
      have HS : Hid (adv k a (j + 1) v = link k j (adv k a j v)) := Lib.hid (adv_step haj v)
      have HO := Lib.hid (fun W h => rLink k j (adv k a j v) hk (by omega) hal W h)
      obtain ⟨D, hD⟩ : ∃ D, D = adv k a (j + 1) v := ⟨_, rfl⟩
      rw [← HS.out, ← hD] at HO
      have HDL : Hid (D.length = 16) := Lib.hid (by rw [hD]; exact adv_length HV.out)
      have HD := Lib.hid hD
      generalize adv k a j v = V at Y HL HO
      have HX : Hid (∀ W, Calls Tryd.prog 29 #[.agg (V.map bv).toArray] W (GivesT V W)) := Lib.hid (fun W => Hash.text_any V W HL.out)
      obtain ⟨E1, hE1⟩ : ∃ E, E = enc (k : Int) := ⟨_, rfl⟩
      obtain ⟨E2, hE2⟩ : ∃ E, E = enc (j : Int) := ⟨_, rfl⟩
      rw [← hE1, ← hE2] at HO
      rw [← hE1] at HI1
      rw [← hE2] at HI2
      clear hal hD hE1 hE2 HS
      go_wp2
      replace Y := Y.on (Hash.belowD _)
      refine RegC.region (fun W => Bx w W V) [8, 9, 10] (by kernel_rfl) ?_
      (refine RegC.take (i := 0) (v := ?_) rfl (by kernel_rfl) (by kernel_rfl) (by kernel_rfl) (by kernel_rfl) (by kernel_rfl) (fun _ _ _ h => h) (Or.inl ⟨by rfl, ?_⟩) Y ?_; rotate_left 1; focus (intro W hW; go_simp; try (first | with_reducible rfl | (rw [if_pos (by omega)]; done) | (rw [if_pos (by omega), if_neg (by omega)]; done) | (rw [if_neg (by omega)]; done))))
      (refine RegC.take (i := 3) (v := ?_) rfl (by kernel_rfl) (by kernel_rfl) (by kernel_rfl) (by kernel_rfl) (by kernel_rfl) (fun _ _ _ h => h) (Or.inl ⟨by rfl, ?_⟩) Y ?_; rotate_left 1; focus (intro W hW; go_simp; try (first | with_reducible rfl | (rw [if_pos (by omega)]; done) | (rw [if_pos (by omega), if_neg (by omega)]; done) | (rw [if_neg (by omega)]; done))))
      (refine RegC.take (i := 6) (v := (.agg (V.map bv).toArray)) rfl (by kernel_rfl) (by kernel_rfl) (by kernel_rfl) (by kernel_rfl) (by kernel_rfl) (fun _ _ _ h => h) (Or.inl ⟨by rfl, fun W hW => ?_⟩) Y ?_; focus (exact RegC.exec_rowC 23 (.tmp 7) rfl w.heap.size 0 rfl (V.map bv) _ hW.p.range und_d rfl (info_d HL.out)))
      refine RegC.ready (rs := [1]) (by kernel_rfl) (by simp) ?_
      refine RegC.cons rfl (fun K hK => ?_) RegC.nil
      go_simp
      go_wp2_with (go_at_call 36; (with_reducible refine (HI1.out _).mono ?_); rintro e w1 ⟨g1, c1, rfl, ho1, hb1⟩; replace Y := Y.on hb1)
      refine ⟨fun _ => Y, ?_⟩
      have Y1 := made_lies ho1 (Below.refl _ _)
      clear ho1 hb1
      refine RegC.strong (C' := fun W => Bx w W V ∧ Lies W W.heap.size 1 (some ⟨g1, 0, none⟩) E1.length c1 (E1.map bv)) (fun W h => h.1) _ _ _ _ ?_
      have CV1 : Hid (∀ W, Bx w W V ∧ Lies W W.heap.size 1 (some ⟨g1, 0, none⟩) E1.length c1 (E1.map bv) → (convert 44 9 (.slice (some ⟨g1, 0, none⟩) E1.length c1)).run Tryd.prog W = .ok (.string ⟨E1.toArray⟩) W) := Lib.hid (fun W h => Hash.convL h.2)
      replace Y := And.intro Y Y1
      clear Y1
      (refine RegC.take (i := 2) (v := (.string ⟨E1.toArray⟩)) rfl (by kernel_rfl) (by kernel_rfl) (by kernel_rfl) (by kernel_rfl) (by kernel_rfl) (fun _ _ _ h => h) (Or.inl ⟨by rfl, ?_⟩) Y ?_; focus (intro W hW; go_simp; first | (rw [CV1.out W hW]; rfl) | (rw [CV1.out W hW]; done) | (simp only [CV1.out W hW]; done)))
      refine RegC.ready (rs := [4]) (by kernel_rfl) (by simp) ?_
      refine RegC.cons rfl (fun K hK => ?_) RegC.nil
      go_simp
      go_wp2_with (go_at_call 36; (with_reducible refine (HI2.out _).mono ?_); rintro e w2 ⟨g2, c2, rfl, ho2, hb2⟩; replace Y := And.intro (Y.1.on hb2) (Y.2.on hb2))
      refine ⟨fun _ => Y, ?_⟩
      have Y1 := made_lies ho2 (Below.refl _ _)
      clear ho2 hb2
      refine RegC.strong (C' := fun W => (Bx w W V ∧ Lies W W.heap.size 1 (some ⟨g1, 0, none⟩) E1.length c1 (E1.map bv)) ∧ Lies W W.heap.size 1 (some ⟨g2, 0, none⟩) E2.length c2 (E2.map bv)) (fun W h => h.1) _ _ _ _ ?_
      have CV2 : Hid (∀ W, (Bx w W V ∧ Lies W W.heap.size 1 (some ⟨g1, 0, none⟩) E1.length c1 (E1.map bv)) ∧ Lies W W.heap.size 1 (some ⟨g2, 0, none⟩) E2.length c2 (E2.map bv) → (convert 44 9 (.slice (some ⟨g2, 0, none⟩) E2.length c2)).run Tryd.prog W = .ok (.string ⟨E2.toArray⟩) W) := Lib.hid (fun W h => Hash.convL h.2)
      replace Y := And.intro Y Y1
      clear Y1
      (refine RegC.take (i := 5) (v := (.string ⟨E2.toArray⟩)) rfl (by kernel_rfl) (by kernel_rfl) (by kernel_rfl) (by kernel_rfl) (by kernel_rfl) (fun _ _ _ h => h) (Or.inl ⟨by rfl, ?_⟩) Y ?_; focus (intro W hW; go_simp; first | (rw [CV2.out W hW]; rfl) | (rw [CV2.out W hW]; done) | (simp only [CV2.out W hW]; done)))
      refine RegC.ready (rs := [7]) (by kernel_rfl) (by simp) ?_
      refine RegC.cons rfl (fun K hK => ?_) RegC.nil
      go_simp
      go_wp2_with (go_at_call 29; (with_reducible refine (HX.out _).mono ?_); rintro e w5 ⟨rfl, hb5⟩; replace Y := And.intro (And.intro (Y.1.1.on hb5) (Y.1.2.on hb5)) (Y.2.on hb5); clear hb5)
      refine ⟨fun _ => Y, ?_⟩
      refine RegC.rest (by kernel_rfl) ?_
      refine RegC.tail 8 3 rfl (by kernel_rfl) ?_
      simp only [List.drop_succ_cons, List.drop_zero]
      replace Y := Y.1.1
      go_wp2_with (first
        | (go_at_call 24; (with_reducible refine (HO.out _ (HT.out.on Y.z)).mono ?_); rintro e w3 ⟨rfl, hb⟩; replace Y := Y.on hb; clear hb)
        | (refine store_d (.tmp 7) (.tmp 48) rfl rfl w.heap.size 0 rfl D rfl HDL.out Y.p.there ?_; refine Hash.gen_world (Pq := fun W => Bx w W D) (G := fun W => wpList _ _ _ _ _ W) (Y.put HDL.out) ?_; clear Y; intro w4 Y))
      go_roundw
      case rel => exact ⟨j + 1, by omega, by omega, .inl (by omega), by go_num, by rw [← HD.out]; exact Y⟩
      case measure => simp [intOf]; omega
    · have z1 : ¬ (j : Int) < (b : Int) := by omega
      have he : adv k a j v = adv k a b v := by
        rcases hjb with h | h
        · obtain rfl : j = b := by omega
          rfl
        · subst h; rw [adv_self, adv_down (by omega)]
      rw [he] at Y
      have hl := adv_length (k := k) (a := a) (b := b) HV.out
      obtain ⟨D, hD⟩ : ∃ D, D = adv k a b v := ⟨_, rfl⟩
      rw [← hD] at Y hl
      have HL := Lib.hid hl
      have HD := Lib.hid hD
      clear he hl hD
      go_wp2_with (first
        | (refine load_d 49 rfl rfl (.tmp 7) rfl w.heap.size 0 rfl D HL.out Y.p.range ?_)
        | (refine store_d (.tmp 8) (.tmp 49) rfl rfl (w.heap.size + 1) 0 rfl D rfl HL.out Y.r.there ?_))
      have HE := dg_end Y.r HL.out Y.z (by omega)
      refine bodyPost_ret (v := dv D) ?_ rfl ⟨by rw [HD.out], HE.2⟩
      simp [results, Tryd.results22, asAddr]
      rw [HE.1]

theorem refAdvance_any (k a b : Int) (v : List UInt8) (hv : v.length = 16) (w : World) (ht : TT w) :
    Calls Tryd.prog 22 #[.int .i64 k, .int .i64 a, .int .i64 b, dv v] w (GivesD (advI k a b v) w) := by
  unfold advI
  by_cases h : (0 ≤ k ∧ k ≤ 34) ∧ (0 ≤ a ∧ a ≤ 15) ∧ 0 ≤ b ∧ b ≤ 15
  · rw [if_pos h]
    obtain ⟨k, rfl⟩ : ∃ n : Nat, k = (n : Int) := ⟨k.toNat, by omega⟩
    obtain ⟨a, rfl⟩ : ∃ n : Nat, a = (n : Int) := ⟨a.toNat, by omega⟩
    obtain ⟨b, rfl⟩ : ∃ n : Nat, b = (n : Int) := ⟨b.toNat, by omega⟩
    exact refAdvance_nat k a b (by omega) (by omega) (by omega) v hv w ht
  · rw [if_neg h]
    exact refAdvance_no k a b v hv w h
end Wo
end Go.Proofs.YtmabbiemjeeicaaDoor
