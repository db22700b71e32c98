/- WotsReveals: the walk. Condition: the table of the package is laid. -/
import Derived.Test.YtmabbiemjeeicaaDoorZWoLD
namespace Go.Proofs.YtmabbiemjeeicaaDoor
open Go.RowKit
namespace Wo
open Mk (dv Dg GivesD dg_new dg_zero dg_end store_d load_d und_d info_d one_d info_dA)
open Wire (bv sv Lies)
open Hash (Table GivesT tabj bcj Arr at_slot)

/-- Two arrays of bytes that are being filled, behind what was there. -/
structure Rv (w W : World) (g : Nat) (P Q : List UInt8) : Prop where
  u : Arr W g 16 (P.map bv)
  v : Arr W (g + 1) 16 (Q.map bv)
  z : Below w.heap.size w W
  o : w.heap.size ≤ g
section
variable {w W W' : World} {g : Nat} {P Q : List UInt8}
theorem Rv.on (h : Rv w W g P Q) (hb : Below W.heap.size W W') : Rv w W' g P Q := ⟨h.u.below hb (h.u.size (by omega)), h.v.below hb (h.v.size (by omega)), bcj h.z hb, h.o⟩
theorem Rv.set (h : Rv w W g P Q) {i : Nat} (hi : i < 16) (x y : UInt8) : Rv w ((W.setCell ⟨g, i, none⟩ (.int .u8 (x.toNat : Int))).setCell ⟨g + 1, i, none⟩ (.int .u8 (y.toNat : Int))) g (P.set i x) (Q.set i y) := by
  have ho := h.o
  have h1 := h.u.set hi (bv x)
  rw [← List.map_set] at h1
  have h2 := (h.v.other (k := g) (i := i) (by omega) (bv x)).set hi (bv y)
  rw [← List.map_set] at h2
  exact ⟨h1.other (by omega) _, h2, (h.z.setCell (by first | exact ho | (simp; omega)) _).setCell (by first | exact Nat.le_succ_of_le ho | (simp; omega)) _, ho⟩
theorem rv_new (hb : Below w.heap.size w W) (s r : List UInt8) (t u : TypeId) : Rv w ((W.alloc (.cells #[.int .u8 0, .int .u8 0, .int .u8 0, .int .u8 0, .int .u8 0, .int .u8 0, .int .u8 0, .int .u8 0, .int .u8 0, .int .u8 0, .int .u8 0, .int .u8 0, .int .u8 0, .int .u8 0, .int .u8 0, .int .u8 0] t)).alloc (.cells #[.int .u8 0, .int .u8 0, .int .u8 0, .int .u8 0, .int .u8 0, .int .u8 0, .int .u8 0, .int .u8 0, .int .u8 0, .int .u8 0, .int .u8 0, .int .u8 0, .int .u8 0, .int .u8 0, .int .u8 0, .int .u8 0] u)) W.heap.size (over s 0) (over r 0) := by
  have h := bx_new W zero_length t u
  have e : ∀ s, over s 0 = zero := fun s => by simp [over, zero]
  rw [e, e]
  exact ⟨h.p.arr, h.r.arr, bcj hb h.z, hb.size⟩
end

set_option maxRecDepth 100000 in
set_option maxHeartbeats 4000000 in
theorem law_rev (s a b : List UInt8) (ha : a.length = 16) (hb : b.length = 16) (w : World) (ht : TP w) : Calls Tryd.prog 8 #[.string ⟨s.toArray⟩, dv a, dv b] w (GivesB true w) := by
  have Y := j2_new w ha hb 23 23
  have HS := Lib.hid (fun W (h : Below w.heap.size w W) => sanity_any W (ht.on h))
  have hz := Hash.sizeS s
  by_cases hl : (200 : Int) < (s.length : Int)
  · clear ha hb ht
    unfold dv
    go_enter Tryd.func8, Tryd.ntmps8
    go_wp2_with (first
      | (go_at_call 9; (with_reducible refine (HS.out _ Y.z).mono ?_); rintro e w7 ⟨rfl, hb⟩))
    go_ret
    exact ⟨rfl, bcj Y.z hb⟩
  · have hs : s.length ≤ 1000 := by omega
    have HG1 : Hid (∀ W, Calls Tryd.prog 13 #[dv a] W (fun e w' => ∃ A c, e = .returned (.slice A 35 c) ∧ Lies w' w'.heap.size 1 A 35 c ((digs a).map nv) ∧ Below W.heap.size W w')) := Lib.hid (fun W => (digits_any a ha W).mono fun e w' h => by
      have := gl_len h
      rwa [digs_length ha] at this)
    have HG2 : Hid (∀ W, Calls Tryd.prog 13 #[dv b] W (fun e w' => ∃ A c, e = .returned (.slice A 35 c) ∧ Lies w' w'.heap.size 1 A 35 c ((digs b).map nv) ∧ Below W.heap.size W w')) := Lib.hid (fun W => (digits_any b hb W).mono fun e w' h => by
      have := gl_len h
      rwa [digs_length hb] at this)
    have HN1 := Lib.hid (fun W (h : Below w.heap.size w W) => sign_any s a hs ha W (ht.on h))
    have HN2 := Lib.hid (fun W (h : Below w.heap.size w W) => sign_any s b hs hb W (ht.on h))
    have HX : Hid (∀ k, k < 35 → (digs a)[k]? = some (dig a k)) := Lib.hid (fun k hk => digs_at ha hk)
    have HY : Hid (∀ k, k < 35 → (digs b)[k]? = some (dig b k)) := Lib.hid (fun k hk => digs_at hb hk)
    have HP1 : Hid (∀ k, k < 35 → piece (sign s a) k = shown s a k ∧ (shown s a k).length = 16) := Lib.hid (fun k hk => ⟨piece_sign s a hk, adv_length (start_length _ _)⟩)
    have HP2 : Hid (∀ k, k < 35 → piece (sign s b) k = shown s b k ∧ (shown s b k).length = 16) := Lib.hid (fun k hk => ⟨piece_sign s b hk, adv_length (start_length _ _)⟩)
    have HADV : Hid (∀ k, k < 35 → dig a k ≤ dig b k → ∀ W, Below w.heap.size w W → Calls Tryd.prog 21 #[.int .i64 (k : Int), .int .i64 (dig a k : Int), .int .i64 (dig b k : Int), .agg ((shown s a k).map bv).toArray] W (fun e w' => e = .returned (.agg ((shown s b k).map bv).toArray) ∧ Below W.heap.size W w')) := Lib.hid (fun k hk hle W h => by
      have h1 := advance_nat k (dig a k) (dig b k) (by omega) (dig_le ha k) (dig_le hb k) (shown s a k) (adv_length (start_length _ _)) W (ht.on h)
      rwa [show adv k (dig a k) (dig b k) (shown s a k) = shown s b k from adv_adv (Nat.zero_le _) hle _ _] at h1)
    have HI1 : Hid (∀ k i, k < 35 → i < 16 → ∃ x, (shown s a k)[i]? = some x ∧ (sign s a)[16 * k + i]? = some x) := Lib.hid (fun k i hk hi => by
      have hl : (shown s a k).length = 16 := adv_length (start_length _ _)
      refine ⟨_, List.getElem?_eq_getElem (by omega), ?_⟩
      rw [← piece_at hi, piece_sign s a hk]
      exact List.getElem?_eq_getElem (by omega))
    have HI2 : Hid (∀ k i, k < 35 → i < 16 → ∃ x, (shown s b k)[i]? = some x ∧ (sign s b)[16 * k + i]? = some x) := Lib.hid (fun k i hk hi => by
      have hl : (shown s b k).length = 16 := adv_length (start_length _ _)
      refine ⟨_, List.getElem?_eq_getElem (by omega), ?_⟩
      rw [← piece_at hi, piece_sign s b hk]
      exact List.getElem?_eq_getElem (by omega))
    have HMR : Hid (less (dig b) (dig a) 35 = decide (a ≠ b)) := Lib.hid (by rw [less_digs hb ha]; congr 1; exact propext ⟨Ne.symm, Ne.symm⟩)
    have E0 : Hid (∀ W, (Op.equalIn 10000 23 (.agg (a.map bv).toArray) (.agg (b.map bv).toArray)).run Tryd.prog W = .ok (!decide (a ≠ b)) W) := Lib.hid (fun W => by
      have := Mk.eq_d a b ha hb W
      rwa [show (a == b) = !decide (a ≠ b) by by_cases h : a = b <;> simp [h]] at this)
    have EQ : Hid (∀ k, k < 35 → ∀ W, (binOp .neq 23 (.agg ((shown s b k).map bv).toArray) (.agg ((shown s b k).map bv).toArray)).run Tryd.prog W = .ok (.bool false) W) := Lib.hid (fun k hk W => by
      have hl : (shown s b k).length = 16 := adv_length (start_length _ _)
      have := Mk.neq_d _ _ hl hl W
      rwa [show (!(shown s b k == shown s b k)) = false by simp] at this)
    have hz1 : (⟨(sign s a).toArray⟩ : ByteArray).size = 560 := by rw [Hash.sizeS]; exact sign_length s a
    have hz2 : (⟨(sign s b).toArray⟩ : ByteArray).size = 560 := by rw [Hash.sizeS]; exact sign_length s b
    generalize sign s a = S1 at *
    generalize sign s b = S2 at *
    have HA := Lib.hid ha
    have HB := Lib.hid hb
    clear ha hb ht hs HP1 HP2
    unfold dv
    go_enter Tryd.func8, Tryd.ntmps8
    go_wp2_with (first
      | (refine load_d 21 rfl rfl (.tmp 4) rfl w.heap.size 0 rfl a HA.out Y.p.range ?_)
      | (refine load_d 24 rfl rfl (.tmp 5) rfl (w.heap.size + 1) 0 rfl b HB.out Y.q.range ?_)
      | (refine load_d 26 rfl rfl (.tmp 4) rfl w.heap.size 0 rfl a HA.out Y.p.range ?_)
      | (refine load_d 28 rfl rfl (.tmp 5) rfl (w.heap.size + 1) 0 rfl b HB.out Y.q.range ?_)
      | (go_at_call 17; (with_reducible refine (HN1.out _ Y.z).mono ?_); rintro e w1 ⟨rfl, hb⟩; replace Y := Y.on hb; clear hb)
      | (go_at_call 17; (with_reducible refine (HN2.out _ Y.z).mono ?_); rintro e w2 ⟨rfl, hb⟩; replace Y := Y.on hb; clear hb)
      | (go_at_call 13; (with_reducible refine (HG1.out _).mono ?_); rintro e w3 ⟨A1, c1, rfl, hl, hb⟩; have HL1 := Lib.hid hl; replace Y := Y.on hb; clear hl hb HG1)
      | (go_at_call 13; (with_reducible refine (HG2.out _).mono ?_); rintro e w4 ⟨A2, c2, rfl, hl, hb⟩; have HL2 := Lib.hid hl; replace HL1 := Lib.hid (HL1.out.on hb); replace Y := Y.on hb; clear hl hb))
    have hm1 : c1 ≤ 9223372036854775807 := by have := HL1.out.most; unfold maxLen at this; omega
    have hm2 : c2 ≤ 9223372036854775807 := by have := HL2.out.most; unfold maxLen at this; omega
    have hle1 := HL1.out.le
    have hle2 := HL2.out.le
    have HYY := Lib.hid Y
    clear Y hz hz1 hz2
    go_loopw [11, 12] (fun hv iv wr => ∃ (k : Nat), k ≤ 35 ∧ iv = .int .i64 (k : Int) ∧ hv = .bool (less (dig b) (dig a) k) ∧ Below w4.heap.size w4 wr) (fun _ iv _ => (35 - intOf iv).toNat)
    case atStart => exact ⟨0, by omega, rfl, rfl, Below.refl _ _⟩
    case round =>
      obtain ⟨k, hk, rfl, rfl, Z⟩ := hrel
      by_cases hlt : k < 35
      · have z0 : (0 : Int) ≤ (k : Int) := by omega
        have z1 : (k : Int) < 35 := by omega
        obtain ⟨ga, oa, rfl, hga, hca⟩ := nums_at HL1.out (HX.out k hlt)
        obtain ⟨gb, ob, rfl, hgb, hcb⟩ := nums_at HL2.out (HY.out k hlt)
        have CA : Hid (∀ W, Below w4.heap.size w4 W → W.cell? ⟨ga, oa + k, none⟩ = some (.int .i64 (dig a k : Int))) := Lib.hid (fun W h => (h.cell hga).trans hca)
        have CB : Hid (∀ W, Below w4.heap.size w4 W → W.cell? ⟨gb, ob + k, none⟩ = some (.int .i64 (dig b k : Int))) := Lib.hid (fun W h => (h.cell hgb).trans hcb)
        have HM : Hid (less (dig b) (dig a) (k + 1) = (less (dig b) (dig a) k || decide (dig b k < dig a k))) := Lib.hid rfl
        have HAK := Lib.hid (HADV.out k hlt)
        have EK := Lib.hid (EQ.out k hlt)
        have I1 := Lib.hid (fun i => HI1.out k i hlt)
        have I2 := Lib.hid (fun i => HI2.out k i hlt)
        have PL : Hid ((shown s a k).length = 16 ∧ (shown s b k).length = 16) := Lib.hid ⟨adv_length (start_length _ _), adv_length (start_length _ _)⟩
        generalize less (dig b) (dig a) k = hb0 at HM ⊢
        generalize dig a k = x at *
        generalize dig b k = y at *
        generalize shown s a k = P at *
        generalize shown s b k = Q at *
        clear hga hca hgb hcb
        go_wp2
        refine QTail.whole (fun W => Below w4.heap.size w4 W) (by kernel_rfl) (by kernel_rfl) (bcj Z (Hash.belowD _)) ?_
        (refine wpQuiet_step (fun K hK => ?_); go_simp; (first | refine hK _ ?_ | refine ⟨_, fun _ _ => rfl, hK _ ?_⟩); clear hK K)
        (refine wpQuiet_step (fun K hK => ?_); go_simp; (first | refine hK _ ?_ | refine ⟨_, fun _ _ => rfl, hK _ ?_⟩); clear hK K)
        (refine wpQuiet_step (fun K hK => ?_); go_simp; refine ⟨(.pointer (some ⟨gb, ob + k, none⟩)), fun W hW => ?_, hK _ ?_⟩; (first | exact ⟨rfl, rfl⟩ | rfl | (rw [if_pos (by omega)]; exact ⟨rfl, rfl⟩) | (rw [if_pos (by omega), if_neg (by omega)]; exact ⟨rfl, rfl⟩) | (rw [if_neg (by omega)]; exact ⟨rfl, rfl⟩)); clear hK K)
        (refine wpQuiet_step (fun K hK => ?_); go_simp; refine ⟨(.int .i64 (y : Int)), fun W hW => ?_, hK _ ?_⟩; (first | (rw [CB.out W hW]; exact ⟨rfl, rfl⟩) | (rw [CB.out W hW]; rfl)); clear hK K)
        (refine wpQuiet_step (fun K hK => ?_); go_simp; (first | refine hK _ ?_ | refine ⟨_, fun _ _ => rfl, hK _ ?_⟩); clear hK K)
        (refine wpQuiet_step (fun K hK => ?_); go_simp; (first | refine hK _ ?_ | refine ⟨_, fun _ _ => rfl, hK _ ?_⟩); clear hK K)
        (refine wpQuiet_step (fun K hK => ?_); go_simp; refine ⟨(.pointer (some ⟨ga, oa + k, none⟩)), fun W hW => ?_, hK _ ?_⟩; (first | exact ⟨rfl, rfl⟩ | rfl | (rw [if_pos (by omega)]; exact ⟨rfl, rfl⟩) | (rw [if_pos (by omega), if_neg (by omega)]; exact ⟨rfl, rfl⟩) | (rw [if_neg (by omega)]; exact ⟨rfl, rfl⟩)); clear hK K)
        (refine wpQuiet_step (fun K hK => ?_); go_simp; refine ⟨(.int .i64 (x : Int)), fun W hW => ?_, hK _ ?_⟩; (first | (rw [CA.out W hW]; exact ⟨rfl, rfl⟩) | (rw [CA.out W hW]; rfl)); clear hK K)
        (refine wpQuiet_step (fun K hK => ?_); go_simp; (first | refine hK _ ?_ | refine ⟨_, fun _ _ => rfl, hK _ ?_⟩); clear hK K)
        refine wpQuiet_nil ?_
        clear Z
        intro w5 Z
        by_cases hyx : y < x
        · have hh : (y : Int) < (x : Int) := by omega
          go_wp2
          go_roundw
          case rel => exact ⟨k + 1, by omega, by go_num, by rw [HM.out]; simp [hyx], Z⟩
          case measure => simp [intOf]; omega
        · have hh : ¬ (y : Int) < (x : Int) := by omega
          go_wp2
          have CA2 : Hid (∀ W, Rv w4 W w5.heap.size P Q → W.cell? ⟨ga, oa + k, none⟩ = some (.int .i64 (x : Int))) := Lib.hid (fun W h => CA.out W h.z)
          have CB2 : Hid (∀ W, Rv w4 W w5.heap.size P Q → W.cell? ⟨gb, ob + k, none⟩ = some (.int .i64 (y : Int))) := Lib.hid (fun W h => CB.out W h.z)
          have AD : Hid (∀ W, Rv w4 W w5.heap.size P Q → Calls Tryd.prog 21 #[.int .i64 (k : Int), .int .i64 (x : Int), .int .i64 (y : Int), .agg (P.map bv).toArray] W (fun e w' => e = .returned (.agg (Q.map bv).toArray) ∧ Below W.heap.size W w')) := Lib.hid (fun W h => HAK.out (by omega) W (bcj HYY.out.z h.z))
          have CP : Hid (∀ W, Rv w4 W w5.heap.size P Q → W.rangeAt w5.heap.size 0 (P.map bv)) := Lib.hid (fun W h => h.u.range)
          have CQ : Hid (∀ W, Rv w4 W w5.heap.size P Q → W.rangeAt (w5.heap.size + 1) 0 (Q.map bv)) := Lib.hid (fun W h => h.v.range)
          generalize hg5 : w5.heap.size = g5 at *
          go_loopw [15] (fun jv wq => ∃ (i : Nat), i ≤ 16 ∧ jv = .int .i64 (i : Int) ∧ Rv w4 wq g5 (over P i) (over Q i)) (fun jv _ => (16 - intOf jv).toNat)
          case atStart => exact ⟨0, by omega, rfl, by rw [← hg5]; exact rv_new Z P Q _ _⟩
          case round =>
            obtain ⟨i, hi, rfl, Y⟩ := hrel
            by_cases hit : i < 16
            · obtain ⟨b1, hp1, hs1⟩ := I1.out i hit
              obtain ⟨b2, hp2, hs2⟩ := I2.out i hit
              have hix1 : ∀ W, (Instr.index 9 (.string ⟨S1.toArray⟩) (.int .i64 (16 * (k : Int) + (i : Int)))).run Tryd.prog W = .ok (.int .u8 (b1.toNat : Int)) W := fun W => by
                have := index_s S1 (16 * k + i) b1 hs1 W
                rwa [show ((16 * k + i : Nat) : Int) = 16 * (k : Int) + (i : Int) by omega] at this
              have hix2 : ∀ W, (Instr.index 9 (.string ⟨S2.toArray⟩) (.int .i64 (16 * (k : Int) + (i : Int)))).run Tryd.prog W = .ok (.int .u8 (b2.toNat : Int)) W := fun W => by
                have := index_s S2 (16 * k + i) b2 hs2 W
                rwa [show ((16 * k + i : Nat) : Int) = 16 * (k : Int) + (i : Int) by omega] at this
              have y0 : (0 : Int) ≤ (i : Int) := by omega
              have y1 : (i : Int) < 16 := by omega
              obtain ⟨⟨q0, q1⟩, q2⟩ := Y.u.some_ (i := i) hit
              obtain ⟨⟨q3, q4⟩, q5⟩ := Y.v.some_ (i := i) hit
              have HF : Hid (Rv w4 ((wr.setCell ⟨g5, i, none⟩ (.int .u8 (b1.toNat : Int))).setCell ⟨g5 + 1, i, none⟩ (.int .u8 (b2.toNat : Int))) g5 (over P (i + 1)) (over Q (i + 1))) := Lib.hid (by
                rw [← over_set (by have := PL.out.1; omega) hit hp1, ← over_set (by have := PL.out.2; omega) hit hp2]
                exact Y.set hit b1 b2)
              clear Y hp1 hp2 hs1 hs2
              go_wp2
              go_roundw
              case rel => exact ⟨i + 1, by omega, by go_num, HF.out⟩
              case measure => simp [intOf]; omega
            · have y1 : ¬ (i : Int) < 16 := by omega
              obtain rfl : i = 16 := by omega
              rw [over_all, over_all, List.take_of_length_le (by have := PL.out.1; omega), List.take_of_length_le (by have := PL.out.2; omega)] at Y
              go_wp2
              refine QTail.whole (fun W => Rv w4 W g5 P Q) (by kernel_rfl) (by kernel_rfl) (Y.on (Hash.belowD _)) ?_
              clear Y Z
              (refine wpQuiet_step (fun K hK => ?_); go_simp; (first | refine hK _ ?_ | refine ⟨_, fun _ _ => rfl, hK _ ?_⟩); clear hK K)
              (refine wpQuiet_step (fun K hK => ?_); go_simp; (first | refine hK _ ?_ | refine ⟨_, fun _ _ => rfl, hK _ ?_⟩); clear hK K)
              (refine wpQuiet_step (fun K hK => ?_); go_simp; (first | refine hK _ ?_ | refine ⟨_, fun _ _ => rfl, hK _ ?_⟩); clear hK K)
              (refine wpQuiet_step (fun K hK => ?_); go_simp; refine ⟨(.pointer (some ⟨ga, oa + k, none⟩)), fun W hW => ?_, hK _ ?_⟩; (first | exact ⟨rfl, rfl⟩ | rfl | (rw [if_pos (by omega)]; exact ⟨rfl, rfl⟩) | (rw [if_pos (by omega), if_neg (by omega)]; exact ⟨rfl, rfl⟩) | (rw [if_neg (by omega)]; exact ⟨rfl, rfl⟩)); clear hK K)
              (refine wpQuiet_step (fun K hK => ?_); go_simp; refine ⟨(.int .i64 (x : Int)), fun W hW => ?_, hK _ ?_⟩; (first | (rw [CA2.out W hW]; exact ⟨rfl, rfl⟩) | (rw [CA2.out W hW]; rfl)); clear hK K)
              (refine wpQuiet_step (fun K hK => ?_); go_simp; (first | refine hK _ ?_ | refine ⟨_, fun _ _ => rfl, hK _ ?_⟩); clear hK K)
              (refine wpQuiet_step (fun K hK => ?_); go_simp; (first | refine hK _ ?_ | refine ⟨_, fun _ _ => rfl, hK _ ?_⟩); clear hK K)
              (refine wpQuiet_step (fun K hK => ?_); go_simp; refine ⟨(.pointer (some ⟨gb, ob + k, none⟩)), fun W hW => ?_, hK _ ?_⟩; (first | exact ⟨rfl, rfl⟩ | rfl | (rw [if_pos (by omega)]; exact ⟨rfl, rfl⟩) | (rw [if_pos (by omega), if_neg (by omega)]; exact ⟨rfl, rfl⟩) | (rw [if_neg (by omega)]; exact ⟨rfl, rfl⟩)); clear hK K)
              (refine wpQuiet_step (fun K hK => ?_); go_simp; refine ⟨(.int .i64 (y : Int)), fun W hW => ?_, hK _ ?_⟩; (first | (rw [CB2.out W hW]; exact ⟨rfl, rfl⟩) | (rw [CB2.out W hW]; rfl)); clear hK K)
              refine QTail.loadC (by go_simp) 23 (.tmp 13) rfl g5 0 (by go_simp) (P.map bv) _ CP.out und_d rfl (info_d PL.out.1) ?_
              (refine wpQuiet_step (fun K hK => ?_); go_simp; refine ⟨_, fun W hW => (AD.out W hW).mono fun e w' ⟨he, hb⟩ => ⟨he, hW.on hb⟩, hK _ ?_⟩; clear hK K)
              refine QTail.loadC (by go_simp) 23 (.tmp 14) rfl (g5 + 1) 0 (by go_simp) (Q.map bv) _ CQ.out und_d rfl (info_d PL.out.2) ?_
              refine QTail.binC (by go_simp) .neq 23 23 (.tmp 91) (.tmp 92) rfl (Q.map bv).toArray (Q.map bv).toArray (by go_simp) (by go_simp) false QTail.eqg (fun W _ => EK.out W) ?_
              refine wpQuiet_nil ?_
              intro w7 Y
              go_wp2
              go_roundw
              case rel => exact ⟨k + 1, by omega, by go_num, by rw [HM.out]; simp [hyx], Y.z⟩
              case measure => simp [intOf]; omega
      · have z1 : ¬ (k : Int) < 35 := by omega
        obtain rfl : k = 35 := by omega
        rw [HMR.out]
        have Y := HYY.out.on Z
        generalize decide (a ≠ b) = c at E0 ⊢
        have e0 := E0.out
        cases c
        all_goals (
          go_wp2_with (first
            | (go_at_call 9; (with_reducible refine (HS.out _ Y.z).mono ?_); rintro e w8 ⟨rfl, hb⟩; replace Y := Y.on hb; clear hb)
            | ((with_reducible refine at_slot 97 rfl ?_); refine QTail.loadG (by rfl) 23 (.tmp 4) rfl w.heap.size 0 rfl (a.map bv) _ Y.p.range und_d rfl (info_d HA.out) ?_)
            | ((with_reducible refine at_slot 98 rfl ?_); refine QTail.loadG (by rfl) 23 (.tmp 5) rfl (w.heap.size + 1) 0 rfl (b.map bv) _ Y.q.range und_d rfl (info_d HB.out) ?_))
          go_ret
          exact ⟨rfl, Y.z⟩)
end Wo
end Go.Proofs.YtmabbiemjeeicaaDoor
