/- The package field as landed: Coefficients. Condition: the slices read as lists. -/
import Derived.Test.YtfeifmcgcgmhnaaFRoot
import Derived.Test.YtfeifmcgcgmhnaaFInt
namespace Go.Proofs.Ytfeifmcgcgmhnaa
open Go.RowKit
namespace Gf
open Wire (Lies bv)

set_option maxRecDepth 100000 in
set_option maxHeartbeats 1000000 in
theorem coefficients_len (n c m d : Nat) (A B : Option Addr) (w : World) (hnm : n ≠ m) :
    Calls Try.prog 21 #[.slice A n c, .slice B m d] w (GivesN 1 w) := by
  have y0 : ¬ (n : Int) = (m : Int) := by omega
  go_enter Try.func21, Try.ntmps21
  go_wp2
  go_ret2
  exact ⟨rfl, Below.refl _ _⟩

set_option maxRecDepth 100000 in
set_option maxHeartbeats 1000000 in
theorem coefficients_bad (xs : List UInt8) (n c d : Nat) (A B : Option Addr) (w : World) (hl : Lies w w.heap.size 1 A n c (xs.map bv)) (hf : ¬ fit xs) :
    Calls Try.prog 21 #[.slice A n c, .slice B n d] w (GivesN 1 w) := by
  have HD : Hid (∀ W, Below w.heap.size w W → Calls Try.prog 27 #[.slice A n c] W (Tells false W)) := Lib.hid (fun W hb => by
    have := different_any xs n c A W (lies_up (hl.below hb) hb.size)
    rwa [decide_eq_false hf] at this)
  clear hf hl
  go_enter Try.func21, Try.ntmps21
  go_wp2_with (first
    | (go_at_call 27; (with_reducible refine (HD.out _ (Below.refl _ _)).mono ?_); rintro e w1 ⟨rfl, hb1⟩))
  go_ret2
  exact ⟨rfl, hb1⟩

set_option maxRecDepth 100000 in
set_option maxHeartbeats 1000000 in
theorem coefficients_any (xs ys : List UInt8) (n c d : Nat) (A B : Option Addr) (w : World) (hl : Lies w w.heap.size 1 A n c (xs.map bv)) (hy : Lies w w.heap.size 1 B n d (ys.map bv)) (hf : fit xs) :
    Calls Try.prog 21 #[.slice A n c, .slice B n d] w (GivesS (coeff xs ys) w) := by
  obtain ⟨i0, hi, hz0, hz1, hz2⟩ := info_parts byte_info
  have HD : Hid (∀ W, Below w.heap.size w W → Calls Try.prog 27 #[.slice A n c] W (Tells true W)) := Lib.hid (fun W hb => by
    have := different_any xs n c A W (lies_up (hl.below hb) hb.size)
    rwa [decide_eq_true hf] at this)
  have hxn : xs.length = n := by have := hl.len; simpa using this
  have hyn : ys.length = n := by have := hy.len; simpa using this
  have HXN := Lib.hid hxn
  have HYN := Lib.hid hyn
  have HL := Lib.hid hl
  have HY := Lib.hid hy
  have HF := Lib.hid hf
  have hn255 : n ≤ 255 := by have := hf.2.1; omega
  have hmost : c ≤ 9223372036854775807 := by have := hl.most; unfold maxLen at this; omega
  have hle := hl.le
  clear hf hl hxn hyn hy
  go_enter Try.func21, Try.ntmps21
  go_wp2_with (first
    | (go_at_call 27; (with_reducible refine (HD.out _ (Below.refl _ _)).mono ?_); rintro e w1 ⟨rfl, hb1⟩)
    | (at_make; refine wpList_make_full _ rfl _ _ 30 rfl w1.heap.size 5 i0 (.int .u8 0) 1 Try.underlying30 hi hz0 hz1 .i64 .i64 _ _ n rfl rfl rfl rfl (by rw [hz2]; omega) (by unfold maxLen; omega) (Nat.le_refl _) ?_; intro w4 hown4 hg4))
  have hR0 := row_made hown4
  rw [← HXN.out] at hR0
  have hM0 := meets_zero xs ys
  have hb5 : Below w1.heap.size w1 w4 := (Below.refl _ _).grown hg4 (Nat.le_refl _) (by simp)
  have hR1 : Row (w4.alloc (.cells #[.int .u8 1] 5)) w1.heap.size w1.heap.size n (List.replicate xs.length 0) := by rw [← HXN.out]; exact hR0.on ((Below.refl _ _).alloc (Nat.le_refl _) _)
  have hA1 : At (w4.alloc (.cells #[.int .u8 1] 5)) w4.heap.size 1 (monic (xs.take 0)) := at_lit w4 1 _
  have hb6 : Below w1.heap.size w1 (w4.alloc (.cells #[.int .u8 1] 5)) := hb5.alloc hb5.size _
  have hsz0 := hR0.size
  have HB : Hid (∀ W, Below w1.heap.size w1 W → Below w.heap.size w W) := Lib.hid (fun W h => hb1.trans (h.mono hb1.size))
  clear hown4 hg4 hR0 hb5 hb1
  generalize hG : w1.heap.size = G at *
  have HG := Lib.hid hG
  clear hG
  go_loopw [7, 29] (fun rv iv wr => ∃ (k g : Nat) (P : List UInt8), k ≤ n ∧ rv = .slice (some ⟨g, 0, none⟩) (k + 1) (k + 1) ∧ iv = .int .i64 (k : Int) ∧ G < g ∧ At wr g (k + 1) (monic (xs.take k)) ∧ Row wr G G n P ∧ Hid (Meets xs ys k P) ∧ Below G w1 wr) (fun _ iv _ => (n - intOf iv).toNat)
  case atStart => exact ⟨0, w4.heap.size, _, by omega, rfl, rfl, hsz0, hA1, hR1, Lib.hid hM0, hb6⟩
  case round =>
    clear hA1 hR1 hM0 hb6 hsz0
    obtain ⟨k, g, P, hk, rfl, rfl, hgG, hAt, hR, HM, hbw⟩ := hrel
    by_cases hlt : k < n
    · have z0 : (0 : Int) ≤ (k : Int) := by omega
      have z1 : (k : Int) < (n : Int) := by omega
      have hbW := HB.out wr hbw
      obtain ⟨b, o, u, rfl, hbb, hu, hcx⟩ := (HL.out.below hbW).at_ hlt
      obtain ⟨b2, o2, u2, rfl, hbb2, hu2, hcy⟩ := (HY.out.below hbW).at_ hlt
      obtain ⟨x, hx⟩ : ∃ a, xs[k]? = some a := ⟨_, List.getElem?_eq_getElem (by rw [HXN.out]; exact hlt)⟩
      obtain ⟨y, hy⟩ : ∃ a, ys[k]? = some a := ⟨_, List.getElem?_eq_getElem (by rw [HYN.out]; exact hlt)⟩
      rw [List.getElem?_map, hx] at hu
      rw [List.getElem?_map, hy] at hu2
      cases hu
      cases hu2
      unfold bv at hcx hcy
      have hwsz := hbW.size
      have CY : Hid (∀ W, Below wr.heap.size wr W → W.cell? ⟨b2, o2 + k, none⟩ = some (.int .u8 (y.toNat : Int))) := Lib.hid (fun W h => (h.cell (by show b2 < wr.heap.size; omega)).trans hcy)
      have HNX := Lib.hid (meets_next HF.out.2.2 hx hy HM.out)
      have HMN := Lib.hid (monic_take hx)
      have HML : Hid ((monic (xs.take k)).length = k + 1) := Lib.hid hAt.len
      have HPL : Hid (P.length = n) := Lib.hid hR.len
      generalize monic (xs.take k) = Q at *
      have HEP : Hid (∀ W, Below wr.heap.size wr W → Calls Try.prog 23 #[.slice (some ⟨G, 0, none⟩) n n, .int .u8 (x.toNat : Int)] W (GivesB (eval x P) W)) := Lib.hid (fun W h => eval_any P x n n _ W (hR.on h).lies)
      have HEQ : Hid (∀ W, Below wr.heap.size wr W → Calls Try.prog 23 #[.slice (some ⟨g, 0, none⟩) (k + 1) (k + 1), .int .u8 (x.toNat : Int)] W (GivesB (eval x Q) W)) := Lib.hid (fun W h => eval_any Q x (k + 1) (k + 1) _ W (hAt.on h).lies)
      have HI := Lib.hid (fun W => inverse_any (eval x Q) W)
      have HF2 := Lib.hid (fun W => mul_any (y ^^^ eval x P) (inv (eval x Q)) W)
      have e1 := xor8 y (eval x P)
      have HR := Lib.hid hR
      have HA := Lib.hid hAt
      clear hx hy hR hAt
      generalize mul (y ^^^ eval x P) (inv (eval x Q)) = F at *
      generalize y ^^^ eval x P = Z at *
      generalize inv (eval x Q) = V at *
      generalize eval x P = EP at *
      generalize eval x Q = EQ at *
      go_wp2
      refine QTail.whole (fun W => Below wr.heap.size wr W) (by kernel_rfl) (by kernel_rfl) (Below.refl _ _).drew ?_
      (refine wpQuiet_step (fun K hK => ?_); go_simp; (first | refine hK _ ?_ | refine ⟨_, fun _ _ => rfl, hK _ ?_⟩); clear hK K)
      (refine wpQuiet_step (fun K hK => ?_); go_simp; (first | refine hK _ ?_ | refine ⟨_, fun _ _ => rfl, hK _ ?_⟩); clear hK K)
      (refine wpQuiet_step (fun K hK => ?_); go_simp; refine ⟨.pointer (some ⟨b2, o2 + k, none⟩), fun W hW => ?_, hK _ ?_⟩; (first | (rw [if_pos (by omega)]; exact ⟨rfl, rfl⟩) | (rw [if_pos (by omega)]; rfl) | exact ⟨rfl, rfl⟩ | rfl); clear hK K)
      (refine wpQuiet_step (fun K hK => ?_); go_simp; refine ⟨.int .u8 (y.toNat : Int), fun W hW => ?_, hK _ ?_⟩; (first | (rw [CY.out W hW]; exact ⟨rfl, rfl⟩) | (rw [CY.out W hW]; rfl)); clear hK K)
      (refine wpQuiet_step (fun K hK => ?_); go_simp; (first | refine hK _ ?_ | refine ⟨_, fun _ _ => rfl, hK _ ?_⟩); clear hK K)
      (refine wpQuiet_step (fun K hK => ?_); go_simp; (first | refine hK _ ?_ | refine ⟨_, fun _ _ => rfl, hK _ ?_⟩); clear hK K)
      (refine wpQuiet_step (fun K hK => ?_); go_simp; refine ⟨_, fun W hW => (HEP.out W hW).mono fun e w' ⟨he, hb⟩ => ⟨he, hW.trans (hb.mono hW.size)⟩, hK _ ?_⟩; clear hK K)
      (refine wpQuiet_step (fun K hK => ?_); go_simp; (first | refine hK _ ?_ | refine ⟨_, fun _ _ => rfl, hK _ ?_⟩); clear hK K)
      (refine wpQuiet_step (fun K hK => ?_); go_simp; (first | refine hK _ ?_ | refine ⟨_, fun _ _ => rfl, hK _ ?_⟩); clear hK K)
      (refine wpQuiet_step (fun K hK => ?_); go_simp; (first | refine hK _ ?_ | refine ⟨_, fun _ _ => rfl, hK _ ?_⟩); clear hK K)
      (refine wpQuiet_step (fun K hK => ?_); go_simp; refine ⟨_, fun W hW => (HEQ.out W hW).mono fun e w' ⟨he, hb⟩ => ⟨he, hW.trans (hb.mono hW.size)⟩, hK _ ?_⟩; clear hK K)
      (refine wpQuiet_step (fun K hK => ?_); go_simp; refine ⟨_, fun W hW => (HI.out W).mono fun e w' ⟨he, hb⟩ => ⟨he, hW.trans (hb.mono hW.size)⟩, hK _ ?_⟩; clear hK K)
      (refine wpQuiet_step (fun K hK => ?_); go_simp; refine ⟨_, fun W hW => (HF2.out W).mono fun e w' ⟨he, hb⟩ => ⟨he, hW.trans (hb.mono hW.size)⟩, hK _ ?_⟩; clear hK K)
      (refine wpQuiet_step (fun K hK => ?_); go_simp; (first | refine hK _ ?_ | refine ⟨_, fun _ _ => rfl, hK _ ?_⟩); clear hK K)
      refine wpQuiet_nil ?_
      intro w3 hb3
      clear hcx hcy
      go_wp2
      go_loopw [49] (fun jv wq => ∃ (j : Nat), j ≤ k + 1 ∧ jv = .int .i64 (j : Int) ∧ Row wq G G n (mixin F P (Q.take j)) ∧ At wq g (k + 1) Q ∧ Below G w1 wq) (fun jv _ => (k + 1 - intOf jv).toNat)
      case atStart => exact ⟨0, by omega, rfl, by rw [List.take_zero, mixin_nil]; exact HR.out.on hb3, HA.out.on hb3, hbw.trans (hb3.mono (by have := hbw.size; have := HG.out; omega))⟩
      case round =>
        obtain ⟨j, hj, rfl, hR, hA, hbq⟩ := hrel
        clear hb3
        by_cases hjk : j < k + 1
        · have y0 : (0 : Int) ≤ (j : Int) := by omega
          have y1 : (j : Int) < (k : Int) + 1 := by omega
          have y2 : (j : Int) < (n : Int) := by omega
          obtain ⟨q, hq⟩ : ∃ q, Q[j]? = some q := ⟨_, List.getElem?_eq_getElem (by rw [HML.out]; exact hjk)⟩
          obtain ⟨a, ha⟩ : ∃ a, P[j]? = some a := ⟨_, List.getElem?_eq_getElem (by rw [HPL.out]; omega)⟩
          have hcq := hA.cell j q hq
          have h0 := mixin_take_at (f := F) (r := Q) ha
          have HS := Lib.hid (mixin_step (f := F) ha hq)
          have H0 := Lib.hid h0
          have HRq := Lib.hid hR
          have HAq := Lib.hid hA
          have e2 := xor8 a (mul q F)
          have HMU := Lib.hid (fun W => mul_any F q W)
          rw [mul_comm F q] at HMU
          have hqa := hR.at_ h0
          have hsz := hR.size
          have CI : Hid (∀ W, Below wr.heap.size wr W → W.cell? ⟨G, j, none⟩ = some (.int .u8 (a.toNat : Int))) := Lib.hid (fun W h => (h.cell (by show G < wr.heap.size; exact hsz)).trans hqa.1)
          clear hq ha h0 hR hA hqa
          generalize mul q F = M at *
          have HZ : Hid (∃ z, z = a ^^^ M) := Lib.hid ⟨_, rfl⟩
          obtain ⟨z, hz⟩ := HZ.out
          rw [← hz] at e2 HS
          clear hz HZ
          go_wp2
          refine QTail.region (C := fun W => Below wr.heap.size wr W) 8 (by kernel_rfl) (by kernel_rfl) (Below.refl _ _).drew ?_
          (refine wpQuiet_step (fun K hK => ?_); go_simp; (first | refine hK _ ?_ | refine ⟨_, fun _ _ => rfl, hK _ ?_⟩); clear hK K)
          (refine wpQuiet_step (fun K hK => ?_); go_simp; (first | refine hK _ ?_ | refine ⟨_, fun _ _ => rfl, hK _ ?_⟩); clear hK K)
          (refine wpQuiet_step (fun K hK => ?_); go_simp; refine ⟨.pointer (some ⟨G, j, none⟩), fun W hW => ?_, hK _ ?_⟩; (first | (rw [if_pos (by omega)]; exact ⟨rfl, rfl⟩) | (rw [if_pos (by omega)]; rfl) | exact ⟨rfl, rfl⟩ | rfl); clear hK K)
          (refine wpQuiet_step (fun K hK => ?_); go_simp; refine ⟨.int .u8 (a.toNat : Int), fun W hW => ?_, hK _ ?_⟩; (first | (rw [CI.out W hW]; exact ⟨rfl, rfl⟩) | (rw [CI.out W hW]; rfl)); clear hK K)
          (refine wpQuiet_step (fun K hK => ?_); go_simp; (first | refine hK _ ?_ | refine ⟨_, fun _ _ => rfl, hK _ ?_⟩); clear hK K)
          (refine wpQuiet_step (fun K hK => ?_); go_simp; (first | refine hK _ ?_ | refine ⟨_, fun _ _ => rfl, hK _ ?_⟩); clear hK K)
          (refine wpQuiet_step (fun K hK => ?_); go_simp; refine ⟨_, fun W hW => (HMU.out W).mono fun e w' ⟨he, hb⟩ => ⟨he, hW.trans (hb.mono hW.size)⟩, hK _ ?_⟩; clear hK K)
          (refine wpQuiet_step (fun K hK => ?_); go_simp; (first | refine hK _ ?_ | refine ⟨_, fun _ _ => rfl, hK _ ?_⟩); clear hK K)
          refine wpQuiet_nil ?_
          intro w5 hb5
          have hR5 := HRq.out.on hb5
          obtain ⟨q1, q2⟩ := hR5.at_ H0.out
          have HR5 := Lib.hid hR5
          have HA5 := Lib.hid (HAq.out.on hb5)
          clear hR5
          go_wp2
          go_roundw
          case rel => exact ⟨j + 1, by omega, by go_num, by rw [HS.out]; exact HR5.out.set _ _, HA5.out.set (by omega) _, (hbq.trans (hb5.mono (by have := hbq.size; have := HG.out; omega))).setCell (Nat.le_refl _) _⟩
          case measure => simp [intOf]; omega
        · obtain rfl : j = k + 1 := by omega
          have y1 : ¬ (((k + 1 : Nat) : Int)) < (k : Int) + 1 := by omega
          have hT : Q.take (k + 1) = Q := List.take_of_length_le (by rw [HML.out]; omega)
          rw [hT] at hR
          have HRq := Lib.hid hR
          have HW := Lib.hid (withRoot_any Q x (k + 1) (k + 1) (some ⟨g, 0, none⟩) wr hA.lies (by omega))
          rw [← HMN.out] at HW
          have hwq := hR.size
          clear hT hR hA
          go_wp2_with (first
            | (go_at_call 30; (with_reducible refine HW.out.mono ?_); rintro e w5 ⟨g5, n5, rfl, hR5, hb5⟩; have hn5 : n5 = k + 1 + 1 := (by have h := hR5.len; rw [monic_length, List.length_take, HXN.out] at h; omega); subst hn5; have HR5 := Lib.hid hR5; clear hR5))
          go_roundw
          case rel => exact ⟨k + 1, g5, _, by omega, rfl, by go_num, by have := HR5.out.from_; omega, HR5.out.here (by omega), HRq.out.on hb5, HNX, hbq.trans (hb5.mono (by have := hbq.size; have := HG.out; omega))⟩
          case measure => simp [intOf]; omega
    · obtain rfl : k = n := by omega
      have z1 : ¬ (k : Int) < (k : Int) := by omega
      have hm := HM.out
      rw [← HXN.out] at hm
      have hP := meets_all HF.out.2.2 hm
      subst hP
      have HR := Lib.hid hR
      clear hR hm hAt
      go_wp2
      go_ret2
      exact ⟨_, _, _, rfl, HR.out.lies, HB.out _ hbw⟩
end Gf
end Go.Proofs.Ytfeifmcgcgmhnaa
