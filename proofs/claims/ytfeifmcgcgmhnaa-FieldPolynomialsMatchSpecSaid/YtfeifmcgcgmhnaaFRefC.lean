/- The reference of package field: Coefficients. Condition: the slices read as lists. -/
import Derived.Test.YtfeifmcgcgmhnaaFTimes
import Derived.Test.YtfeifmcgcgmhnaaFRefI
namespace Go.Proofs.Ytfeifmcgcgmhnaa
open Go.RowKit
namespace Gf
open Wire (Lies bv)

set_option maxRecDepth 100000 in
set_option maxHeartbeats 1000000 in
theorem refCoefficients_bad (xs : List UInt8) (n c m d : Nat) (A B : Option Addr) (w : World) (hl : Lies w w.heap.size 1 A n c (xs.map bv)) (hf : ¬ fit xs) :
    Calls Try.prog 22 #[.slice A n c, .slice B m d] w (GivesN 1 w) := by
  have HD : Hid (∀ W, Below w.heap.size w W → Calls Try.prog 29 #[.slice A n c] W (Tells false W)) := Lib.hid (fun W hb => by
    have := refDistinct_any xs n c A W (lies_up (hl.below hb) hb.size)
    rwa [decide_eq_false hf] at this)
  clear hf hl
  go_enter Try.func22, Try.ntmps22
  go_wp2_with (first
    | (go_at_call 29; (with_reducible refine (HD.out _ (Below.refl _ _)).mono ?_); rintro e w1 ⟨rfl, hb1⟩))
  go_ret2
  exact ⟨rfl, hb1⟩

set_option maxRecDepth 100000 in
set_option maxHeartbeats 1000000 in
theorem refCoefficients_len (xs : List UInt8) (n c m d : Nat) (A B : Option Addr) (w : World) (hl : Lies w w.heap.size 1 A n c (xs.map bv)) (hnm : n ≠ m) :
    Calls Try.prog 22 #[.slice A n c, .slice B m d] w (GivesN 1 w) := by
  refine (Classical.em (fit xs)).elim (fun hf => ?_) (fun hf => refCoefficients_bad xs n c m d A B w hl hf)
  have HD : Hid (∀ W, Below w.heap.size w W → Calls Try.prog 29 #[.slice A n c] W (Tells true W)) := Lib.hid (fun W hb => by
    have := refDistinct_any xs n c A W (lies_up (hl.below hb) hb.size)
    rwa [decide_eq_true hf] at this)
  have y0 : ¬ (n : Int) = (m : Int) := by omega
  clear hf hl
  go_enter Try.func22, Try.ntmps22
  go_wp2_with (first
    | (go_at_call 29; (with_reducible refine (HD.out _ (Below.refl _ _)).mono ?_); rintro e w1 ⟨rfl, hb1⟩))
  go_ret2
  exact ⟨rfl, hb1⟩

theorem others_le (l : List UInt8) (i : Nat) : (others l i).length ≤ l.length := by
  unfold others
  rw [List.length_append, List.length_take, List.length_drop]
  omega
theorem coefs_next {xs ys : List UInt8} {i : Nat} {a y : UInt8} (ha : xs[i]? = some a) (hy : ys[i]? = some y) :
    mixin (mul y (inv (away a (others xs i)))) (coefs xs ys i) (monic (others xs i)) = coefs xs ys (i + 1) := by
  have hi : i < xs.length := (List.getElem?_eq_some_iff.1 ha).1
  rw [mixin_padd _ _ _ (by rw [coefs_length i (by omega), monic_length, others_length hi]; omega), coefs]
  unfold share
  rw [List.getD_eq_getElem?_getD, List.getD_eq_getElem?_getD, ha, hy]
  rfl

set_option maxRecDepth 100000 in
set_option maxHeartbeats 1000000 in
theorem refCoefficients_any (xs ys : List UInt8) (n c d : Nat) (A B : Option Addr) (w : World) (hl : Lies w w.heap.size 1 A n c (xs.map bv)) (hy : Lies w w.heap.size 1 B n d (ys.map bv)) (hf : fit xs) :
    Calls Try.prog 22 #[.slice A n c, .slice B n d] w (GivesS (coeff xs ys) w) := by
  obtain ⟨i0, hi, hz0, hz1, hz2⟩ := info_parts byte_info
  have HD : Hid (∀ W, Below w.heap.size w W → Calls Try.prog 29 #[.slice A n c] W (Tells true W)) := Lib.hid (fun W hb => by
    have := refDistinct_any xs n c A W (lies_up (hl.below hb) hb.size)
    rwa [decide_eq_true hf] at this)
  have hxn : xs.length = n := by have := hl.len; simpa using this
  have hyn : ys.length = n := by have := hy.len; simpa using this
  have HXN := Lib.hid hxn
  have HYN := Lib.hid hyn
  have HL := Lib.hid hl
  have HY := Lib.hid hy
  have HF := Lib.hid hf
  have hn255 : n ≤ 255 := by have := hf.2.1; omega
  have hmost : c ≤ 9223372036854775807 := by have := hl.most; unfold maxLen at this; omega
  have hle := hl.le
  clear hf hl hxn hyn hy
  go_enter Try.func22, Try.ntmps22
  go_wp2_with (first
    | (go_at_call 29; (with_reducible refine (HD.out _ (Below.refl _ _)).mono ?_); rintro e w1 ⟨rfl, hb1⟩)
    | (at_make; refine wpList_make_full _ rfl _ _ 30 rfl w1.heap.size 5 i0 (.int .u8 0) 1 Try.underlying30 hi hz0 hz1 .i64 .i64 _ _ n rfl rfl rfl rfl (by rw [hz2]; omega) (by unfold maxLen; omega) (Nat.le_refl _) ?_; intro w4 hown4 hg4))
  have hR0 := row_made hown4
  rw [← HXN.out] at hR0
  have hb5 : Below w1.heap.size w1 w4 := (Below.refl _ _).grown hg4 (Nat.le_refl _) (by simp)
  have hR1 : Row w4 w1.heap.size w1.heap.size n (coefs xs ys 0) := by rw [← HXN.out]; exact hR0
  have HB : Hid (∀ W, Below w1.heap.size w1 W → Below w.heap.size w W) := Lib.hid (fun W h => hb1.trans (h.mono hb1.size))
  clear hown4 hg4 hR0 hb1
  generalize hG : w1.heap.size = G at *
  have HG := Lib.hid hG
  clear hG
  go_loopw [8] (fun iv wr => ∃ (i : Nat), i ≤ n ∧ iv = .int .i64 (i : Int) ∧ Row wr G G n (coefs xs ys i) ∧ Below G w1 wr) (fun iv _ => (n - intOf iv).toNat)
  case atStart => exact ⟨0, by omega, rfl, hR1, hb5⟩
  case round =>
    clear hR1 hb5
    obtain ⟨i, hi2, rfl, hR, hbw⟩ := hrel
    by_cases hlt : i < n
    · have z0 : (0 : Int) ≤ (i : Int) := by omega
      have z1 : (i : Int) < (n : Int) := by omega
      have hbW := HB.out wr hbw
      obtain ⟨b, o, u, rfl, hbb, hu, hcx⟩ := (HL.out.below hbW).at_ hlt
      obtain ⟨b2, o2, u2, rfl, hbb2, hu2, hcy⟩ := (HY.out.below hbW).at_ hlt
      obtain ⟨a, ha⟩ : ∃ a, xs[i]? = some a := ⟨_, List.getElem?_eq_getElem (by rw [HXN.out]; exact hlt)⟩
      obtain ⟨y, hy⟩ : ∃ a, ys[i]? = some a := ⟨_, List.getElem?_eq_getElem (by rw [HYN.out]; exact hlt)⟩
      rw [List.getElem?_map, ha] at hu
      rw [List.getElem?_map, hy] at hu2
      cases hu
      cases hu2
      unfold bv at hcx hcy
      have hwsz := hbW.size
      have hRs := hR.size
      have hws : w.heap.size ≤ wr.heap.size := hwsz
      have CX : Hid (∀ W, Below wr.heap.size wr W → W.cell? ⟨b, o + i, none⟩ = some (.int .u8 (a.toNat : Int))) := Lib.hid (fun W h => (h.cell (by show b < wr.heap.size; omega)).trans hcx)
      have CY : Hid (∀ W, Below wr.heap.size wr W → W.cell? ⟨b2, o2 + i, none⟩ = some (.int .u8 (y.toNat : Int))) := Lib.hid (fun W h => (h.cell (by show b2 < wr.heap.size; omega)).trans hcy)
      have CK : Hid (∀ W, Below wr.heap.size wr W → ∀ k d, xs[k]? = some d → k < n → W.cell? ⟨b, o + k, none⟩ = some (.int .u8 (d.toNat : Int))) := Lib.hid (fun W h k d hd hk => by
        obtain ⟨b', o', u', he, _, hu', hc'⟩ := (HL.out.below (hbW.trans (h.mono hwsz))).at_ (j := k) hk
        cases he
        rw [List.getElem?_map, hd] at hu'
        cases hu'
        exact hc')
      have HA := Lib.hid ha
      have HYA := Lib.hid hy
      have HR := Lib.hid hR
      have HWB : Hid (∀ W, Below wr.heap.size wr W → Below G w1 W) := Lib.hid (fun W h => hbw.trans (h.mono (by have := hbw.size; have := HG.out; omega)))
      have hA1 : At (wr.alloc (.cells #[.int .u8 1] 5)) wr.heap.size (([] : List UInt8).length + 1) (monic []) := at_lit wr 1 _
      have hb6 : Below wr.heap.size wr (wr.alloc (.cells #[.int .u8 1] 5)) := (Below.refl _ _).alloc (Nat.le_refl _) _
      clear ha hy hR hcx hcy
      go_wp2
      go_loopw [9, 10, 11] (fun pv dv kv wq => ∃ (k g m : Nat), k ≤ n ∧ pv = .slice (some ⟨g, 0, none⟩) m m ∧ dv = .int .u8 ((away a (others (xs.take k) i)).toNat : Int) ∧ kv = .int .i64 (k : Int) ∧ G < g ∧ At wq g m (monic (others (xs.take k) i)) ∧ Below wr.heap.size wr wq) (fun _ _ kv _ => (n - intOf kv).toNat)
      case atStart => exact ⟨0, wr.heap.size, 1, by omega, rfl, by rw [others_zero]; rfl, rfl, hRs, by rw [others_zero]; exact hA1, hb6⟩
      case round =>
        clear hA1 hb6
        obtain ⟨k, g, m, hk, rfl, rfl, rfl, hgG, hAt, hbq⟩ := hrel
        by_cases hkn : k < n
        · have y2 : (0 : Int) ≤ (k : Int) := by omega
          have y3 : (k : Int) < (n : Int) := by omega
          by_cases hki : k = i
          · have hs := others_skip (xs := xs) hki
            subst hki
            have HS := Lib.hid hs
            have HAT := Lib.hid hAt
            clear hs hAt
            go_wp2
            go_roundw
            case rel => exact ⟨k + 1, g, m, by omega, rfl, by rw [HS.out], by go_num, hgG, by rw [HS.out]; exact HAT.out, hbq⟩
            case measure => simp [intOf]; omega
          · obtain ⟨d, hd⟩ : ∃ d, xs[k]? = some d := ⟨_, List.getElem?_eq_getElem (by rw [HXN.out]; omega)⟩
            have hs := others_step hd hki
            have HS1 : Hid (times (monic (others (xs.take k) i)) d = monic (others (xs.take (k + 1)) i)) := Lib.hid (by rw [hs, monic_snoc])
            have HS2 : Hid (mul (away a (others (xs.take k) i)) (a ^^^ d) = away a (others (xs.take (k + 1)) i)) := Lib.hid (by rw [hs, away_snoc])
            have hml := hAt.len
            have hml2 : m ≤ 255 := by
              rw [monic_length] at hml
              have := others_le (xs.take k) i
              rw [List.length_take] at this
              omega
            have hki2 : ¬ (k : Int) = (i : Int) := by omega
            have e2 := xor8 a d
            have hck := CK.out _ hbq k d hd hkn
            have HT := Lib.hid (times_any (monic (others (xs.take k) i)) d m m (some ⟨g, 0, none⟩) _ hAt.lies hml2)
            rw [HS1.out] at HT
            have HM2 := Lib.hid (fun W => refMul_any (away a (others (xs.take k) i)) (a ^^^ d) W)
            generalize a ^^^ d = Z2 at e2 HM2 HS2
            generalize away a (others (xs.take k) i) = D at *
            have HCK := Lib.hid (fun W h => CK.out W h k d hd hkn)
            have HML : Hid (∀ n5, (monic (others (xs.take (k + 1)) i)).length = n5 → n5 ≤ 256) := Lib.hid (fun n5 h => by
              rw [monic_length] at h
              have := others_le (xs.take (k + 1)) i
              rw [List.length_take] at this
              omega)
            clear hs hd hAt hml
            go_wp2_with (first
              | (go_at_call 31; (with_reducible refine HT.out.mono ?_); rintro e w5 ⟨g5, n5, rfl, hR5, hb5⟩; have HR5 := Lib.hid hR5; clear hR5))
            have hbz := hbq.trans (hb5.mono hbq.size)
            refine QTail.whole (fun W => Below w5.heap.size w5 W) (by kernel_rfl) (by kernel_rfl) (Below.refl _ _).drew ?_
            have CX5 : Hid (∀ W, Below w5.heap.size w5 W → W.cell? ⟨b, o + i, none⟩ = some (.int .u8 (a.toNat : Int))) := Lib.hid (fun W h => CX.out W (hbz.trans (h.mono hbz.size)))
            have CK5 : Hid (∀ W, Below w5.heap.size w5 W → W.cell? ⟨b, o + k, none⟩ = some (.int .u8 (d.toNat : Int))) := Lib.hid (fun W h => HCK.out W (hbz.trans (h.mono hbz.size)))
            (refine wpQuiet_step (fun K hK => ?_); go_simp; (first | refine hK _ ?_ | refine ⟨_, fun _ _ => rfl, hK _ ?_⟩); clear hK K)
            (refine wpQuiet_step (fun K hK => ?_); go_simp; (first | refine hK _ ?_ | refine ⟨_, fun _ _ => rfl, hK _ ?_⟩); clear hK K)
            (refine wpQuiet_step (fun K hK => ?_); go_simp; (first | refine hK _ ?_ | refine ⟨_, fun _ _ => rfl, hK _ ?_⟩); clear hK K)
            (refine wpQuiet_step (fun K hK => ?_); go_simp; refine ⟨.pointer (some ⟨b, o + i, none⟩), fun W hW => ?_, hK _ ?_⟩; (first | (rw [if_pos (by omega)]; exact ⟨rfl, rfl⟩) | (rw [if_pos (by omega)]; rfl) | exact ⟨rfl, rfl⟩ | rfl); clear hK K)
            (refine wpQuiet_step (fun K hK => ?_); go_simp; refine ⟨.int .u8 (a.toNat : Int), fun W hW => ?_, hK _ ?_⟩; (first | (rw [CX5.out W hW]; exact ⟨rfl, rfl⟩) | (rw [CX5.out W hW]; rfl)); clear hK K)
            (refine wpQuiet_step (fun K hK => ?_); go_simp; (first | refine hK _ ?_ | refine ⟨_, fun _ _ => rfl, hK _ ?_⟩); clear hK K)
            (refine wpQuiet_step (fun K hK => ?_); go_simp; (first | refine hK _ ?_ | refine ⟨_, fun _ _ => rfl, hK _ ?_⟩); clear hK K)
            (refine wpQuiet_step (fun K hK => ?_); go_simp; refine ⟨.pointer (some ⟨b, o + k, none⟩), fun W hW => ?_, hK _ ?_⟩; (first | (rw [if_pos (by omega)]; exact ⟨rfl, rfl⟩) | (rw [if_pos (by omega)]; rfl) | exact ⟨rfl, rfl⟩ | rfl); clear hK K)
            (refine wpQuiet_step (fun K hK => ?_); go_simp; refine ⟨.int .u8 (d.toNat : Int), fun W hW => ?_, hK _ ?_⟩; (first | (rw [CK5.out W hW]; exact ⟨rfl, rfl⟩) | (rw [CK5.out W hW]; rfl)); clear hK K)
            (refine wpQuiet_step (fun K hK => ?_); go_simp; (first | refine hK _ ?_ | refine ⟨_, fun _ _ => rfl, hK _ ?_⟩); clear hK K)
            (refine wpQuiet_step (fun K hK => ?_); go_simp; refine ⟨_, fun W hW => (HM2.out W).mono fun e w' ⟨he, hb⟩ => ⟨he, hW.trans (hb.mono hW.size)⟩, hK _ ?_⟩; clear hK K)
            (refine wpQuiet_step (fun K hK => ?_); go_simp; (first | refine hK _ ?_ | refine ⟨_, fun _ _ => rfl, hK _ ?_⟩); clear hK K)
            refine wpQuiet_nil ?_
            intro w3 hq
            go_wp2
            go_roundw
            case rel => exact ⟨k + 1, g5, n5, by omega, rfl, by rw [← HS2.out], by go_num, by have := HR5.out.from_; have := hbq.size; omega, (HR5.out.here (HML.out _ HR5.out.len)).on hq, hbz.trans (hq.mono hbz.size)⟩
            case measure => simp [intOf]; omega
        · obtain rfl : k = n := by omega
          have y3 : ¬ (k : Int) < (k : Int) := by omega
          have hT : xs.take k = xs := List.take_of_length_le (by rw [HXN.out]; omega)
          rw [hT] at hAt ⊢
          have hmk : m = k := by
            have h := hAt.len
            rw [monic_length, others_length (by rw [HXN.out]; exact hlt), HXN.out] at h
            omega
          subst hmk
          have HDV := Lib.hid (fun W => refDiv_any y (away a (others xs i)) (away_ne (not_others HF.out.2.2 HA.out)) W)
          have HCN := Lib.hid (coefs_next HA.out HYA.out)
          have hcy := CY.out _ hbq
          have HRn := Lib.hid (HR.out.on hbq)
          have HAT := Lib.hid hAt
          have HCL : Hid ((coefs xs ys i).length = m) := Lib.hid HR.out.len
          have HQL : Hid ((monic (others xs i)).length = m) := Lib.hid hAt.len
          generalize mul y (inv (away a (others xs i))) = F at *
          generalize monic (others xs i) = Q at *
          clear hT hAt
          go_wp2_with (first
            | (go_at_call 12; (with_reducible refine (HDV.out _).mono ?_); rintro e w2 ⟨rfl, hb2⟩))
          clear hcy
          go_loopw [14] (fun jv wq => ∃ (j : Nat), j ≤ m ∧ jv = .int .i64 (j : Int) ∧ Row wq G G m (mixin F (coefs xs ys i) (Q.take j)) ∧ At wq g m Q ∧ Below G w1 wq) (fun jv _ => (m - intOf jv).toNat)
          case atStart => exact ⟨0, by omega, rfl, by rw [List.take_zero, mixin_nil]; exact HRn.out.on hb2, HAT.out.on hb2, HWB.out _ (hbq.trans (hb2.mono hbq.size))⟩
          case round =>
            obtain ⟨j, hj, rfl, hR, hA, hbj⟩ := hrel
            clear hb2
            by_cases hjk : j < m
            · have y0 : (0 : Int) ≤ (j : Int) := by omega
              have y1 : (j : Int) < (m : Int) := by omega
              obtain ⟨q, hq⟩ : ∃ q, Q[j]? = some q := ⟨_, List.getElem?_eq_getElem (by rw [HQL.out]; exact hjk)⟩
              obtain ⟨p, hp⟩ : ∃ a, (coefs xs ys i)[j]? = some a := ⟨_, List.getElem?_eq_getElem (by rw [HCL.out]; omega)⟩
              have hcq := hA.cell j q hq
              have hlq := hA.lt
              have h0 := mixin_take_at (f := F) (r := Q) hp
              have HS := Lib.hid (mixin_step (f := F) hp hq)
              have H0 := Lib.hid h0
              have HRq := Lib.hid hR
              have HAq := Lib.hid hA
              have e2 := xor8 p (mul q F)
              have HMU := Lib.hid (fun W => refMul_any q F W)
              have hqa := hR.at_ h0
              have hsz := hR.size
              have CI : Hid (∀ W, Below wr.heap.size wr W → W.cell? ⟨G, j, none⟩ = some (.int .u8 (p.toNat : Int))) := Lib.hid (fun W h => (h.cell (by show G < wr.heap.size; exact hsz)).trans hqa.1)
              have CQ : Hid (∀ W, Below wr.heap.size wr W → W.cell? ⟨g, j, none⟩ = some (.int .u8 (q.toNat : Int))) := Lib.hid (fun W h => (h.cell (by show g < wr.heap.size; exact hlq)).trans hcq)
              clear hq hp h0 hR hA hqa hcq
              generalize mul q F = M at *
              have HZ : Hid (∃ z, z = p ^^^ M) := Lib.hid ⟨_, rfl⟩
              obtain ⟨z, hz⟩ := HZ.out
              rw [← hz] at e2 HS
              clear hz HZ
              go_wp2
              refine QTail.region (C := fun W => Below wr.heap.size wr W) 13 (by kernel_rfl) (by kernel_rfl) (Below.refl _ _).drew ?_
              (refine wpQuiet_step (fun K hK => ?_); go_simp; (first | refine hK _ ?_ | refine ⟨_, fun _ _ => rfl, hK _ ?_⟩); clear hK K)
              (refine wpQuiet_step (fun K hK => ?_); go_simp; (first | refine hK _ ?_ | refine ⟨_, fun _ _ => rfl, hK _ ?_⟩); clear hK K)
              (refine wpQuiet_step (fun K hK => ?_); go_simp; (first | refine hK _ ?_ | refine ⟨_, fun _ _ => rfl, hK _ ?_⟩); clear hK K)
              (refine wpQuiet_step (fun K hK => ?_); go_simp; (first | refine hK _ ?_ | refine ⟨_, fun _ _ => rfl, hK _ ?_⟩); clear hK K)
              (refine wpQuiet_step (fun K hK => ?_); go_simp; refine ⟨.pointer (some ⟨G, j, none⟩), fun W hW => ?_, hK _ ?_⟩; (first | (rw [if_pos (by omega)]; exact ⟨rfl, rfl⟩) | (rw [if_pos (by omega)]; rfl) | exact ⟨rfl, rfl⟩ | rfl); clear hK K)
              (refine wpQuiet_step (fun K hK => ?_); go_simp; refine ⟨.int .u8 (p.toNat : Int), fun W hW => ?_, hK _ ?_⟩; (first | (rw [CI.out W hW]; exact ⟨rfl, rfl⟩) | (rw [CI.out W hW]; rfl)); clear hK K)
              (refine wpQuiet_step (fun K hK => ?_); go_simp; (first | refine hK _ ?_ | refine ⟨_, fun _ _ => rfl, hK _ ?_⟩); clear hK K)
              (refine wpQuiet_step (fun K hK => ?_); go_simp; (first | refine hK _ ?_ | refine ⟨_, fun _ _ => rfl, hK _ ?_⟩); clear hK K)
              (refine wpQuiet_step (fun K hK => ?_); go_simp; refine ⟨.pointer (some ⟨g, j, none⟩), fun W hW => ?_, hK _ ?_⟩; (first | (rw [if_pos (by omega)]; exact ⟨rfl, rfl⟩) | (rw [if_pos (by omega)]; rfl) | exact ⟨rfl, rfl⟩ | rfl); clear hK K)
              (refine wpQuiet_step (fun K hK => ?_); go_simp; refine ⟨.int .u8 (q.toNat : Int), fun W hW => ?_, hK _ ?_⟩; (first | (rw [CQ.out W hW]; exact ⟨rfl, rfl⟩) | (rw [CQ.out W hW]; rfl)); clear hK K)
              (refine wpQuiet_step (fun K hK => ?_); go_simp; (first | refine hK _ ?_ | refine ⟨_, fun _ _ => rfl, hK _ ?_⟩); clear hK K)
              (refine wpQuiet_step (fun K hK => ?_); go_simp; refine ⟨_, fun W hW => (HMU.out W).mono fun e w' ⟨he, hb⟩ => ⟨he, hW.trans (hb.mono hW.size)⟩, hK _ ?_⟩; clear hK K)
              (refine wpQuiet_step (fun K hK => ?_); go_simp; (first | refine hK _ ?_ | refine ⟨_, fun _ _ => rfl, hK _ ?_⟩); clear hK K)
              refine wpQuiet_nil ?_
              intro w5 hb5
              have hR5 := HRq.out.on hb5
              obtain ⟨q1, q2⟩ := hR5.at_ H0.out
              have HR5 := Lib.hid hR5
              have HA5 := Lib.hid (HAq.out.on hb5)
              clear hR5
              go_wp2
              go_roundw
              case rel => exact ⟨j + 1, by omega, by go_num, by rw [HS.out]; exact HR5.out.set _ _, HA5.out.set (by omega) _, (hbj.trans (hb5.mono (by omega))).setCell (Nat.le_refl _) _⟩
              case measure => simp [intOf]; omega
            · obtain rfl : j = m := by omega
              have y1 : ¬ (j : Int) < (j : Int) := by omega
              have hT : Q.take j = Q := List.take_of_length_le (by rw [HQL.out]; omega)
              rw [hT, HCN.out] at hR
              have HRq := Lib.hid hR
              clear hT hR hA
              go_wp2
              go_roundw
              case rel => exact ⟨i + 1, by omega, by go_num, HRq.out, hbj⟩
              case measure => simp [intOf]; omega
    · obtain rfl : i = n := by omega
      have z1 : ¬ (i : Int) < (i : Int) := by omega
      have hP : coefs xs ys i = coeff xs ys := by unfold coeff; rw [HXN.out]
      rw [hP] at hR
      have HR := Lib.hid hR
      clear hR hP
      go_wp2
      go_ret2
      exact ⟨_, _, _, rfl, HR.out.lies, HB.out _ hbw⟩
end Gf
end Go.Proofs.Ytfeifmcgcgmhnaa
