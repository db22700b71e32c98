/- The examples that every statement on wots plays first. Condition: the table of the package is laid. -/
import Derived.Test.YtmabbiemjeeicaaDoorM15
import Derived.Test.YtmabbiemjeeicaaDoorZWoRS
import Derived.Test.YtmabbiemjeeicaaDoorZWoY
import Derived.Test.YtmabbiemjeeicaaDoorZWoLex
import Derived.Test.YtmabbiemjeeicaaDoorZQEq
namespace Go.Proofs.YtmabbiemjeeicaaDoor
open Go.RowKit
namespace Wo
open Mk (dv Dg GivesD dg_new dg_zero dg_end store_d load_d und_d info_d one_d info_dA)
open Wire (bv sv Lies)
open Hash (Table GivesT tabj bcj Arr at_slot)

theorem full_length : full.length = 16 := rfl
theorem new_dig (W : World) {V : List UInt8} (hV : V.length = 16) (t : TypeId) :
    Below W.heap.size W ((W.alloc (.cells #[.int .u8 0, .int .u8 0, .int .u8 0, .int .u8 0, .int .u8 0, .int .u8 0, .int .u8 0, .int .u8 0, .int .u8 0, .int .u8 0, .int .u8 0, .int .u8 0, .int .u8 0, .int .u8 0, .int .u8 0, .int .u8 0] t)).setCells W.heap.size 0 (V.map bv)) ∧
    Dg ((W.alloc (.cells #[.int .u8 0, .int .u8 0, .int .u8 0, .int .u8 0, .int .u8 0, .int .u8 0, .int .u8 0, .int .u8 0, .int .u8 0, .int .u8 0, .int .u8 0, .int .u8 0, .int .u8 0, .int .u8 0, .int .u8 0, .int .u8 0] t)).setCells W.heap.size 0 (V.map bv)) W.heap.size V :=
  ⟨(Wire.b1 W _).trans (Hash.below_cells (Nat.le_refl _) _ _ _), (dg_zero W t).put hV⟩
/-- 255s over zeros. -/
def fil (i : Nat) : List UInt8 := List.replicate i 255 ++ List.replicate (16 - i) 0
theorem fil_set {i : Nat} (hi : i < 16) : (fil i).set i 255 = fil (i + 1) := by
  unfold fil
  rw [List.set_append_right _ _ (by rw [List.length_replicate]; omega), List.length_replicate, Nat.sub_self, show 16 - i = (16 - (i + 1)) + 1 by omega, List.replicate_succ' (n := i)]
  simp [List.replicate_succ]
theorem fil_all : fil 16 = full := rfl
theorem fil_new (w : World) (t u : TypeId) : Sd w ((w.alloc (.cells #[.int .u8 0, .int .u8 0, .int .u8 0, .int .u8 0, .int .u8 0, .int .u8 0, .int .u8 0, .int .u8 0, .int .u8 0, .int .u8 0, .int .u8 0, .int .u8 0, .int .u8 0, .int .u8 0, .int .u8 0, .int .u8 0] t)).alloc (.cells #[.int .u8 0, .int .u8 0, .int .u8 0, .int .u8 0, .int .u8 0, .int .u8 0, .int .u8 0, .int .u8 0, .int .u8 0, .int .u8 0, .int .u8 0, .int .u8 0, .int .u8 0, .int .u8 0, .int .u8 0, .int .u8 0] u)) (fil 0) := sd_new w zero t u
/-- Both digests. -/
structure Zf (w W : World) : Prop where
  p : Dg W w.heap.size zero
  q : Dg W (w.heap.size + 1) full
  z : Below w.heap.size w W
theorem Zf.on {w W W' : World} (h : Zf w W) (hb : Below W.heap.size W W') : Zf w W' := ⟨h.p.on hb, h.q.on hb, bcj h.z hb⟩
theorem vfy1 : vfy (pub seedL) zero (sign seedL zero) = true := by
  unfold vfy
  rw [recov_sign seedL zero_length, decide_eq_true (sign_length seedL zero)]
  simp
theorem vfy2 : vfy (pub seedL) full (sign seedL zero) = false := by
  unfold vfy
  rw [show (recov full (sign seedL zero) == pub seedL) = false by simpa using ex_ne, Bool.and_false]

set_option maxRecDepth 100000 in
set_option maxHeartbeats 4000000 in
theorem sanity_any (w : World) (ht : TP w) : Calls Tryd.prog 9 #[] w (GivesB true w) := by
  have HG1 : Hid (∀ W, Calls Tryd.prog 13 #[dv zero] W (fun e w' => ∃ A c, e = .returned (.slice A 35 c) ∧ Lies w' w'.heap.size 1 A 35 c ((digs zero).map nv) ∧ Below W.heap.size W w')) := Lib.hid (fun W => (digits_any zero zero_length W).mono fun e w' h => by
    have := gl_len h
    rwa [digs_length zero_length] at this)
  have HG2 : Hid (∀ W, Calls Tryd.prog 13 #[dv full] W (fun e w' => ∃ A c, e = .returned (.slice A 35 c) ∧ Lies w' w'.heap.size 1 A 35 c ((digs full).map nv) ∧ Below W.heap.size W w')) := Lib.hid (fun W => (digits_any full full_length W).mono fun e w' h => by
    have := gl_len h
    rwa [digs_length full_length] at this)
  have HS : Hid (∀ W, TP W → Calls Tryd.prog 17 #[.string ⟨#[115, 101, 101, 100]⟩, dv zero] W (GivesT (sign seedL zero) W)) := Lib.hid (fun W h => sign_any seedL zero (by decide) zero_length W h)
  have HP : Hid (∀ W, TP W → Calls Tryd.prog 15 #[.string ⟨#[115, 101, 101, 100]⟩] W (GivesD (pub seedL) W)) := Lib.hid (fun W h => public_any seedL (by decide) W h)
  have HR1 : Hid (∀ W, TP W → Calls Tryd.prog 10 #[dv zero, .string ⟨(sign seedL zero).toArray⟩] W (GivesDE (pub seedL) 0 W)) := Lib.hid (fun W h => by
    have h1 := recover_any zero (sign seedL zero) zero_length W h
    rwa [show recI zero (sign seedL zero) = pub seedL from (if_pos (sign_length _ _)).trans (recov_sign seedL zero_length), show errI (sign seedL zero) = 0 from if_pos (sign_length _ _)] at h1)
  have HR2 : Hid (∀ W, TP W → Calls Tryd.prog 10 #[dv zero, .string ⟨#[]⟩] W (GivesDE zero 1 W)) := Lib.hid (fun W h => recover_any zero [] zero_length W h)
  have HV1 : Hid (∀ W, TP W → Calls Tryd.prog 19 #[.agg ((pub seedL).map bv).toArray, .agg (zero.map bv).toArray, .string ⟨(sign seedL zero).toArray⟩] W (GivesB true W)) := Lib.hid (fun W h => by
    have h1 := verify_any (pub seedL) zero (sign seedL zero) (pub_length _) zero_length W h
    rwa [vfy1] at h1)
  have HV2 : Hid (∀ W, TP W → Calls Tryd.prog 19 #[.agg ((pub seedL).map bv).toArray, .agg (full.map bv).toArray, .string ⟨(sign seedL zero).toArray⟩] W (GivesB false W)) := Lib.hid (fun W h => by
    have h1 := verify_any (pub seedL) full (sign seedL zero) (pub_length _) full_length W h
    rwa [vfy2] at h1)
  have HA : Hid (∀ W, TP W → Calls Tryd.prog 21 #[.int .i64 0, .int .i64 0, .int .i64 1, .agg (zero.map bv).toArray] W (fun e w' => e = .returned (.agg ((adv 0 0 1 zero).map bv).toArray) ∧ Below W.heap.size W w')) := Lib.hid (fun W h => advance_nat 0 0 1 (by omega) (by omega) (by omega) zero zero_length W h)
  have E1 : Hid (∀ W, (binOp .eql 23 (.agg ((pub seedL).map bv).toArray) (.agg ((pub seedL).map bv).toArray)).run Tryd.prog W = .ok (.bool true) W) := Lib.hid (fun W => by
    have := Mk.eql_d _ _ (pub_length seedL) (pub_length seedL) W
    rwa [show (pub seedL == pub seedL) = true by simp] at this)
  have hal : (adv 0 0 1 zero).length = 16 := adv_length zero_length
  have E2 : Hid (∀ W, (binOp .neq 23 (.agg ((adv 0 0 1 zero).map bv).toArray) (.agg (zero.map bv).toArray)).run Tryd.prog W = .ok (.bool true) W) := Lib.hid (fun W => by
    have := Mk.neq_d _ _ hal zero_length W
    rwa [show (!(adv 0 0 1 zero == zero)) = true by simpa using ex_adv] at this)
  have HPL := Lib.hid (pub_length seedL)
  have hz : (⟨(sign seedL zero).toArray⟩ : ByteArray).size = 560 := by rw [Hash.sizeS]; exact sign_length _ _
  generalize sign seedL zero = S at *
  generalize pub seedL = P at *
  generalize adv 0 0 1 zero = D at *
  have HZL := Lib.hid zero_length
  have HFL := Lib.hid full_length
  have HT := Lib.hid ht
  clear ht hal
  go_enter Tryd.func9, Tryd.ntmps9
  go_wp2
  go_loopw [3] (fun iv wr => ∃ (k : Nat), k ≤ 16 ∧ iv = .int .i64 (k : Int) ∧ Sd w wr (fil k)) (fun iv _ => (16 - intOf iv).toNat)
  case atStart => exact ⟨0, by omega, rfl, fil_new w _ _⟩
  case round =>
    obtain ⟨k, hk, rfl, Y⟩ := hrel
    by_cases hlt : k < 16
    · have z0 : (0 : Int) ≤ (k : Int) := by omega
      have z1 : (k : Int) < 16 := by omega
      obtain ⟨⟨q0, q1⟩, q2⟩ := Y.o.some_ (i := k) hlt
      have HF : Hid (Sd w (wr.setCell ⟨w.heap.size + 1, k, none⟩ (.int .u8 255)) (fil (k + 1))) := Lib.hid (by
        rw [← fil_set hlt]
        exact Y.set hlt 255)
      clear Y
      go_wp2
      go_roundw
      case rel => exact ⟨k + 1, by omega, by go_num, HF.out⟩
      case measure => simp [intOf]; omega
    · have z1 : ¬ (k : Int) < 16 := by omega
      obtain rfl : k = 16 := by omega
      rw [fil_all] at Y
      have Y : Zf w wr := ⟨Y.r, ⟨Y.o⟩, Y.z⟩
      go_wp2_with (first
        | (refine load_d 18 rfl rfl (.tmp 1) rfl w.heap.size 0 rfl zero HZL.out Y.p.range ?_)
        | (refine load_d 20 rfl rfl (.tmp 2) rfl (w.heap.size + 1) 0 rfl full HFL.out Y.q.range ?_)
        | (refine load_d 22 rfl rfl (.tmp 1) rfl w.heap.size 0 rfl zero HZL.out Y.p.range ?_)
        | (refine load_d 26 rfl rfl (.tmp 1) rfl w.heap.size 0 rfl zero HZL.out Y.p.range ?_)
        | (refine load_d 32 rfl rfl (.tmp 1) rfl w.heap.size 0 rfl zero HZL.out Y.p.range ?_)
        | (go_at_call 13; (with_reducible refine (HG1.out _).mono ?_); rintro e w1 ⟨A1, c1, rfl, hl, hb⟩; have HL1 := Lib.hid hl; replace Y := Y.on hb; clear hl hb)
        | (go_at_call 13; (with_reducible refine (HG2.out _).mono ?_); rintro e w2 ⟨A2, c2, rfl, hl, hb⟩; have HL2 := Lib.hid hl; replace HL1 := Lib.hid (HL1.out.on hb); replace Y := Y.on hb; clear hl hb)
        | (go_at_call 17; (with_reducible refine (HS.out _ (HT.out.on Y.z)).mono ?_); rintro e w3 ⟨rfl, hb⟩; replace HL1 := Lib.hid (HL1.out.on hb); replace HL2 := Lib.hid (HL2.out.on hb); replace Y := Y.on hb; clear hb)
        | (go_at_call 15; (with_reducible refine (HP.out _ (HT.out.on Y.z)).mono ?_); rintro e w4 ⟨rfl, hb⟩; replace HL1 := Lib.hid (HL1.out.on hb); replace HL2 := Lib.hid (HL2.out.on hb); replace Y := Y.on hb; clear hb)
        | (refine store_d (.tmp 7) (.tmp 24) rfl rfl w4.heap.size 0 rfl P rfl HPL.out (dg_zero w4 _).there ?_; refine Hash.gen_world (Pq := fun W => Below w4.heap.size w4 W ∧ Dg W w4.heap.size P) (G := fun W => wpList _ _ _ _ _ W) (new_dig w4 HPL.out _) ?_; intro w5 h5; replace HL1 := Lib.hid (HL1.out.on h5.1); replace HL2 := Lib.hid (HL2.out.on h5.1); replace Y := Y.on h5.1; have HD5 := Lib.hid h5.2; clear h5)
        | (go_at_call 10; (with_reducible refine (HR1.out _ (HT.out.on Y.z)).mono ?_); rintro e w6 ⟨rfl, hb⟩; replace HL1 := Lib.hid (HL1.out.on hb); replace HL2 := Lib.hid (HL2.out.on hb); replace HD5 := Lib.hid (HD5.out.on hb); replace Y := Y.on hb; clear hb)
        | (refine store_d (.tmp 8) (.tmp 29) rfl rfl w6.heap.size 0 rfl P rfl HPL.out (dg_zero w6 _).there ?_; refine Hash.gen_world (Pq := fun W => Below w6.heap.size w6 W ∧ Dg W w6.heap.size P) (G := fun W => wpList _ _ _ _ _ W) (new_dig w6 HPL.out _) ?_; intro w7 h7; replace HL1 := Lib.hid (HL1.out.on h7.1); replace HL2 := Lib.hid (HL2.out.on h7.1); replace HD5 := Lib.hid (HD5.out.on h7.1); replace Y := Y.on h7.1; have HD7 := Lib.hid h7.2; clear h7)
        | (go_at_call 10; (with_reducible refine (HR2.out _ (HT.out.on Y.z)).mono ?_); rintro e w8 ⟨rfl, hb⟩; replace HL1 := Lib.hid (HL1.out.on hb); replace HL2 := Lib.hid (HL2.out.on hb); replace HD5 := Lib.hid (HD5.out.on hb); replace HD7 := Lib.hid (HD7.out.on hb); replace Y := Y.on hb; clear hb)
        | (refine store_d (.tmp 10) (.tmp 34) rfl rfl w8.heap.size 0 rfl zero rfl HZL.out (dg_zero w8 _).there ?_; refine Hash.gen_world (Pq := fun W => Below w8.heap.size w8 W ∧ Dg W w8.heap.size zero) (G := fun W => wpList _ _ _ _ _ W) (new_dig w8 HZL.out _) ?_; intro w9 h9; replace HL1 := Lib.hid (HL1.out.on h9.1); replace HL2 := Lib.hid (HL2.out.on h9.1); replace HD5 := Lib.hid (HD5.out.on h9.1); replace HD7 := Lib.hid (HD7.out.on h9.1); replace Y := Y.on h9.1; clear h9))
      have Z := Y.z
      have HW : Hid (∀ W, Below w9.heap.size w9 W → Zf w W) := Lib.hid (fun W h => Y.on h)
      have T1 : Hid (∀ W, Below w9.heap.size w9 W → TP W) := Lib.hid (fun W h => HT.out.on (bcj Z h))
      have hx0 : (digs zero)[0]? = some 0 := by rw [ex_zero]; rfl
      have hx32 : (digs zero)[32]? = some 1 := by rw [ex_zero]; rfl
      have hx33 : (digs zero)[33]? = some 14 := by rw [ex_zero]; rfl
      have hx34 : (digs zero)[34]? = some 0 := by rw [ex_zero]; rfl
      have hy31 : (digs full)[31]? = some 15 := by rw [ex_full]; rfl
      have hy32 : (digs full)[32]? = some 0 := by rw [ex_full]; rfl
      obtain ⟨ga, oa, rfl, hga, ha0⟩ := nums_at HL1.out hx0
      obtain ⟨_, _, e2, -, ha32⟩ := nums_at HL1.out hx32
      cases e2
      obtain ⟨_, _, e2, -, ha33⟩ := nums_at HL1.out hx33
      cases e2
      obtain ⟨_, _, e2, -, ha34⟩ := nums_at HL1.out hx34
      cases e2
      obtain ⟨gb, ob, rfl, hgb, hb31⟩ := nums_at HL2.out hy31
      obtain ⟨_, _, e2, -, hb32⟩ := nums_at HL2.out hy32
      cases e2
      have hca := HL1.out.le
      have hcb := HL2.out.le
      have CA0 : Hid (∀ W, Below w9.heap.size w9 W → W.cell? ⟨ga, oa, none⟩ = some (.int .i64 0)) := Lib.hid (fun W h => (h.cell hga).trans ha0)
      have CA32 : Hid (∀ W, Below w9.heap.size w9 W → W.cell? ⟨ga, oa + 32, none⟩ = some (.int .i64 1)) := Lib.hid (fun W h => (h.cell hga).trans ha32)
      have CA33 : Hid (∀ W, Below w9.heap.size w9 W → W.cell? ⟨ga, oa + 33, none⟩ = some (.int .i64 14)) := Lib.hid (fun W h => (h.cell hga).trans ha33)
      have CA34 : Hid (∀ W, Below w9.heap.size w9 W → W.cell? ⟨ga, oa + 34, none⟩ = some (.int .i64 0)) := Lib.hid (fun W h => (h.cell hga).trans ha34)
      have CB31 : Hid (∀ W, Below w9.heap.size w9 W → W.cell? ⟨gb, ob + 31, none⟩ = some (.int .i64 15)) := Lib.hid (fun W h => (h.cell hgb).trans hb31)
      have CB32 : Hid (∀ W, Below w9.heap.size w9 W → W.cell? ⟨gb, ob + 32, none⟩ = some (.int .i64 0)) := Lib.hid (fun W h => (h.cell hgb).trans hb32)
      have CP : Hid (∀ W, Below w9.heap.size w9 W → W.rangeAt w4.heap.size 0 (P.map bv)) := Lib.hid (fun W h => (HD5.out.on h).range)
      have CQ : Hid (∀ W, Below w9.heap.size w9 W → W.rangeAt w6.heap.size 0 (P.map bv)) := Lib.hid (fun W h => (HD7.out.on h).range)
      have CZ : Hid (∀ W, Below w9.heap.size w9 W → W.rangeAt w.heap.size 0 (zero.map bv)) := Lib.hid (fun W h => (HW.out W h).p.range)
      have CF : Hid (∀ W, Below w9.heap.size w9 W → W.rangeAt (w.heap.size + 1) 0 (full.map bv)) := Lib.hid (fun W h => (HW.out W h).q.range)
      have V1 := Lib.hid (fun W h => HV1.out W (T1.out W h))
      have V2 := Lib.hid (fun W h => HV2.out W (T1.out W h))
      have A1 := Lib.hid (fun W h => HA.out W (T1.out W h))
      clear hx0 hx32 hx33 hx34 hy31 hy32 ha0 ha32 ha33 ha34 hb31 hb32 hga hgb Y
      refine QTail.whole (fun W => Below w9.heap.size w9 W) (by kernel_rfl) (by refine (congrArg (fun l : List Oper => Region.lexB .any l.toArray) (?_ : _ = opsIn Tryd.f9 12)).trans sane_lex; kernel_rfl) (Below.refl _ _).drew ?_
      simp only [List.append]
      (refine wpQuiet_step (fun K hK => ?_); go_simp; (first | refine hK _ ?_ | refine ⟨_, fun _ _ => rfl, hK _ ?_⟩); clear hK K)
      (refine wpQuiet_step (fun K hK => ?_); go_simp; (first | refine hK _ ?_ | refine ⟨_, fun _ _ => rfl, hK _ ?_⟩); clear hK K)
      (refine wpQuiet_step (fun K hK => ?_); go_simp; (first | refine hK _ ?_ | refine ⟨_, fun _ _ => rfl, hK _ ?_⟩); clear hK K)
      (refine wpQuiet_step (fun K hK => ?_); go_simp; (first | refine hK _ ?_ | refine ⟨_, fun _ _ => rfl, hK _ ?_⟩); clear hK K)
      (refine wpQuiet_step (fun K hK => ?_); go_simp; (first | refine hK _ ?_ | refine ⟨_, fun _ _ => rfl, hK _ ?_⟩); clear hK K)
      (refine wpQuiet_step (fun K hK => ?_); go_simp; refine ⟨(.pointer (some ⟨ga, oa, none⟩)), fun W hW => ?_, hK _ ?_⟩; (first | exact ⟨rfl, rfl⟩ | rfl | (rw [if_pos (by omega)]; exact ⟨rfl, rfl⟩) | (rw [if_pos (by omega), if_neg (by omega)]; exact ⟨rfl, rfl⟩) | (rw [if_neg (by omega)]; exact ⟨rfl, rfl⟩)); clear hK K)
      (refine wpQuiet_step (fun K hK => ?_); go_simp; refine ⟨(.int .i64 0), fun W hW => ?_, hK _ ?_⟩; (first | (rw [CA0.out W hW]; exact ⟨rfl, rfl⟩) | (rw [CA0.out W hW]; rfl)); clear hK K)
      (refine wpQuiet_step (fun K hK => ?_); go_simp; (first | refine hK _ ?_ | refine ⟨_, fun _ _ => rfl, hK _ ?_⟩); clear hK K)
      (refine wpQuiet_step (fun K hK => ?_); go_simp; (first | refine hK _ ?_ | refine ⟨_, fun _ _ => rfl, hK _ ?_⟩); clear hK K)
      (refine wpQuiet_step (fun K hK => ?_); go_simp; (first | refine hK _ ?_ | refine ⟨_, fun _ _ => rfl, hK _ ?_⟩); clear hK K)
      (refine wpQuiet_step (fun K hK => ?_); go_simp; (first | refine hK _ ?_ | refine ⟨_, fun _ _ => rfl, hK _ ?_⟩); clear hK K)
      (refine wpQuiet_step (fun K hK => ?_); go_simp; refine ⟨(.pointer (some ⟨ga, oa + 32, none⟩)), fun W hW => ?_, hK _ ?_⟩; (first | exact ⟨rfl, rfl⟩ | rfl | (rw [if_pos (by omega)]; exact ⟨rfl, rfl⟩) | (rw [if_pos (by omega), if_neg (by omega)]; exact ⟨rfl, rfl⟩) | (rw [if_neg (by omega)]; exact ⟨rfl, rfl⟩)); clear hK K)
      (refine wpQuiet_step (fun K hK => ?_); go_simp; refine ⟨(.int .i64 1), fun W hW => ?_, hK _ ?_⟩; (first | (rw [CA32.out W hW]; exact ⟨rfl, rfl⟩) | (rw [CA32.out W hW]; rfl)); clear hK K)
      (refine wpQuiet_step (fun K hK => ?_); go_simp; (first | refine hK _ ?_ | refine ⟨_, fun _ _ => rfl, hK _ ?_⟩); clear hK K)
      (refine wpQuiet_step (fun K hK => ?_); go_simp; (first | refine hK _ ?_ | refine ⟨_, fun _ _ => rfl, hK _ ?_⟩); clear hK K)
      (refine wpQuiet_step (fun K hK => ?_); go_simp; (first | refine hK _ ?_ | refine ⟨_, fun _ _ => rfl, hK _ ?_⟩); clear hK K)
      (refine wpQuiet_step (fun K hK => ?_); go_simp; (first | refine hK _ ?_ | refine ⟨_, fun _ _ => rfl, hK _ ?_⟩); clear hK K)
      (refine wpQuiet_step (fun K hK => ?_); go_simp; refine ⟨(.pointer (some ⟨ga, oa + 33, none⟩)), fun W hW => ?_, hK _ ?_⟩; (first | exact ⟨rfl, rfl⟩ | rfl | (rw [if_pos (by omega)]; exact ⟨rfl, rfl⟩) | (rw [if_pos (by omega), if_neg (by omega)]; exact ⟨rfl, rfl⟩) | (rw [if_neg (by omega)]; exact ⟨rfl, rfl⟩)); clear hK K)
      (refine wpQuiet_step (fun K hK => ?_); go_simp; refine ⟨(.int .i64 14), fun W hW => ?_, hK _ ?_⟩; (first | (rw [CA33.out W hW]; exact ⟨rfl, rfl⟩) | (rw [CA33.out W hW]; rfl)); clear hK K)
      (refine wpQuiet_step (fun K hK => ?_); go_simp; (first | refine hK _ ?_ | refine ⟨_, fun _ _ => rfl, hK _ ?_⟩); clear hK K)
      (refine wpQuiet_step (fun K hK => ?_); go_simp; (first | refine hK _ ?_ | refine ⟨_, fun _ _ => rfl, hK _ ?_⟩); clear hK K)
      (refine wpQuiet_step (fun K hK => ?_); go_simp; (first | refine hK _ ?_ | refine ⟨_, fun _ _ => rfl, hK _ ?_⟩); clear hK K)
      (refine wpQuiet_step (fun K hK => ?_); go_simp; (first | refine hK _ ?_ | refine ⟨_, fun _ _ => rfl, hK _ ?_⟩); clear hK K)
      (refine wpQuiet_step (fun K hK => ?_); go_simp; refine ⟨(.pointer (some ⟨ga, oa + 34, none⟩)), fun W hW => ?_, hK _ ?_⟩; (first | exact ⟨rfl, rfl⟩ | rfl | (rw [if_pos (by omega)]; exact ⟨rfl, rfl⟩) | (rw [if_pos (by omega), if_neg (by omega)]; exact ⟨rfl, rfl⟩) | (rw [if_neg (by omega)]; exact ⟨rfl, rfl⟩)); clear hK K)
      (refine wpQuiet_step (fun K hK => ?_); go_simp; refine ⟨(.int .i64 0), fun W hW => ?_, hK _ ?_⟩; (first | (rw [CA34.out W hW]; exact ⟨rfl, rfl⟩) | (rw [CA34.out W hW]; rfl)); clear hK K)
      (refine wpQuiet_step (fun K hK => ?_); go_simp; (first | refine hK _ ?_ | refine ⟨_, fun _ _ => rfl, hK _ ?_⟩); clear hK K)
      (refine wpQuiet_step (fun K hK => ?_); go_simp; (first | refine hK _ ?_ | refine ⟨_, fun _ _ => rfl, hK _ ?_⟩); clear hK K)
      (refine wpQuiet_step (fun K hK => ?_); go_simp; (first | refine hK _ ?_ | refine ⟨_, fun _ _ => rfl, hK _ ?_⟩); clear hK K)
      (refine wpQuiet_step (fun K hK => ?_); go_simp; (first | refine hK _ ?_ | refine ⟨_, fun _ _ => rfl, hK _ ?_⟩); clear hK K)
      (refine wpQuiet_step (fun K hK => ?_); go_simp; (first | refine hK _ ?_ | refine ⟨_, fun _ _ => rfl, hK _ ?_⟩); clear hK K)
      (refine wpQuiet_step (fun K hK => ?_); go_simp; (first | refine hK _ ?_ | refine ⟨_, fun _ _ => rfl, hK _ ?_⟩); clear hK K)
      (refine wpQuiet_step (fun K hK => ?_); go_simp; (first | refine hK _ ?_ | refine ⟨_, fun _ _ => rfl, hK _ ?_⟩); clear hK K)
      (refine wpQuiet_step (fun K hK => ?_); go_simp; (first | refine hK _ ?_ | refine ⟨_, fun _ _ => rfl, hK _ ?_⟩); clear hK K)
      (refine wpQuiet_step (fun K hK => ?_); go_simp; (first | refine hK _ ?_ | refine ⟨_, fun _ _ => rfl, hK _ ?_⟩); clear hK K)
      (refine wpQuiet_step (fun K hK => ?_); go_simp; refine ⟨(.pointer (some ⟨gb, ob + 31, none⟩)), fun W hW => ?_, hK _ ?_⟩; (first | exact ⟨rfl, rfl⟩ | rfl | (rw [if_pos (by omega)]; exact ⟨rfl, rfl⟩) | (rw [if_pos (by omega), if_neg (by omega)]; exact ⟨rfl, rfl⟩) | (rw [if_neg (by omega)]; exact ⟨rfl, rfl⟩)); clear hK K)
      (refine wpQuiet_step (fun K hK => ?_); go_simp; refine ⟨(.int .i64 15), fun W hW => ?_, hK _ ?_⟩; (first | (rw [CB31.out W hW]; exact ⟨rfl, rfl⟩) | (rw [CB31.out W hW]; rfl)); clear hK K)
      (refine wpQuiet_step (fun K hK => ?_); go_simp; (first | refine hK _ ?_ | refine ⟨_, fun _ _ => rfl, hK _ ?_⟩); clear hK K)
      (refine wpQuiet_step (fun K hK => ?_); go_simp; (first | refine hK _ ?_ | refine ⟨_, fun _ _ => rfl, hK _ ?_⟩); clear hK K)
      (refine wpQuiet_step (fun K hK => ?_); go_simp; (first | refine hK _ ?_ | refine ⟨_, fun _ _ => rfl, hK _ ?_⟩); clear hK K)
      (refine wpQuiet_step (fun K hK => ?_); go_simp; (first | refine hK _ ?_ | refine ⟨_, fun _ _ => rfl, hK _ ?_⟩); clear hK K)
      (refine wpQuiet_step (fun K hK => ?_); go_simp; refine ⟨(.pointer (some ⟨gb, ob + 32, none⟩)), fun W hW => ?_, hK _ ?_⟩; (first | exact ⟨rfl, rfl⟩ | rfl | (rw [if_pos (by omega)]; exact ⟨rfl, rfl⟩) | (rw [if_pos (by omega), if_neg (by omega)]; exact ⟨rfl, rfl⟩) | (rw [if_neg (by omega)]; exact ⟨rfl, rfl⟩)); clear hK K)
      (refine wpQuiet_step (fun K hK => ?_); go_simp; refine ⟨(.int .i64 0), fun W hW => ?_, hK _ ?_⟩; (first | (rw [CB32.out W hW]; exact ⟨rfl, rfl⟩) | (rw [CB32.out W hW]; rfl)); clear hK K)
      (refine wpQuiet_step (fun K hK => ?_); go_simp; (first | refine hK _ ?_ | refine ⟨_, fun _ _ => rfl, hK _ ?_⟩); clear hK K)
      (refine wpQuiet_step (fun K hK => ?_); go_simp; (first | refine hK _ ?_ | refine ⟨_, fun _ _ => rfl, hK _ ?_⟩); clear hK K)
      (refine wpQuiet_step (fun K hK => ?_); go_simp; (first | refine hK _ ?_ | refine ⟨_, fun _ _ => rfl, hK _ ?_⟩); clear hK K)
      (refine wpQuiet_step (fun K hK => ?_); go_simp; (first | refine hK _ ?_ | refine ⟨_, fun _ _ => rfl, hK _ ?_⟩); clear hK K)
      (refine wpQuiet_step (fun K hK => ?_); go_simp; (first | refine hK _ ?_ | refine ⟨_, fun _ _ => rfl, hK _ ?_⟩); clear hK K)
      (refine wpQuiet_step (fun K hK => ?_); go_simp; (first | refine hK _ ?_ | refine ⟨_, fun _ _ => rfl, hK _ ?_⟩); clear hK K)
      (refine wpQuiet_step (fun K hK => ?_); go_simp; (first | refine hK _ ?_ | refine ⟨_, fun _ _ => rfl, hK _ ?_⟩); clear hK K)
      (refine wpQuiet_step (fun K hK => ?_); go_simp; (first | refine hK _ ?_ | refine ⟨_, fun _ _ => rfl, hK _ ?_⟩); clear hK K)
      (refine wpQuiet_step (fun K hK => ?_); go_simp; (first | refine hK _ ?_ | refine ⟨_, fun _ _ => rfl, hK _ ?_⟩); clear hK K)
      (refine wpQuiet_step (fun K hK => ?_); go_simp; (first | refine hK _ ?_ | refine ⟨_, fun _ _ => rfl, hK _ ?_⟩); clear hK K)
      (refine wpQuiet_step (fun K hK => ?_); go_simp; (first | refine hK _ ?_ | refine ⟨_, fun _ _ => rfl, hK _ ?_⟩); clear hK K)
      (refine wpQuiet_step (fun K hK => ?_); go_simp; (first | refine hK _ ?_ | refine ⟨_, fun _ _ => rfl, hK _ ?_⟩); clear hK K)
      refine QTail.loadC (by go_simp) 23 (.tmp 8) rfl w6.heap.size 0 (by go_simp) (P.map bv) _ CQ.out und_d rfl (info_d HPL.out) ?_
      refine QTail.loadC (by go_simp) 23 (.tmp 7) rfl w4.heap.size 0 (by go_simp) (P.map bv) _ CP.out und_d rfl (info_d HPL.out) ?_
      refine QTail.binC (by go_simp) .eql 23 23 (.tmp 90) (.tmp 91) rfl (P.map bv).toArray (P.map bv).toArray (by go_simp) (by go_simp) true QTail.eqg (fun W _ => E1.out W) ?_
      (refine wpQuiet_step (fun K hK => ?_); go_simp; (first | refine hK _ ?_ | refine ⟨_, fun _ _ => rfl, hK _ ?_⟩); clear hK K)
      (refine wpQuiet_step (fun K hK => ?_); go_simp; (first | refine hK _ ?_ | refine ⟨_, fun _ _ => rfl, hK _ ?_⟩); clear hK K)
      (refine wpQuiet_step (fun K hK => ?_); go_simp; (first | refine hK _ ?_ | refine ⟨_, fun _ _ => rfl, hK _ ?_⟩); clear hK K)
      (refine wpQuiet_step (fun K hK => ?_); go_simp; (first | refine hK _ ?_ | refine ⟨_, fun _ _ => rfl, hK _ ?_⟩); clear hK K)
      (refine wpQuiet_step (fun K hK => ?_); go_simp; (first | refine hK _ ?_ | refine ⟨_, fun _ _ => rfl, hK _ ?_⟩); clear hK K)
      (refine wpQuiet_step (fun K hK => ?_); go_simp; (first | refine hK _ ?_ | refine ⟨_, fun _ _ => rfl, hK _ ?_⟩); clear hK K)
      refine QTail.loadC (by go_simp) 23 (.tmp 7) rfl w4.heap.size 0 (by go_simp) (P.map bv) _ CP.out und_d rfl (info_d HPL.out) ?_
      refine QTail.loadC (by go_simp) 23 (.tmp 1) rfl w.heap.size 0 (by go_simp) (zero.map bv) _ CZ.out und_d rfl (info_d HZL.out) ?_
      (refine wpQuiet_step (fun K hK => ?_); go_simp; (first | refine hK _ ?_ | refine ⟨_, fun _ _ => rfl, hK _ ?_⟩); clear hK K)
      (refine wpQuiet_step (fun K hK => ?_); go_simp; refine ⟨_, fun W hW => (V1.out W hW).mono fun e w' ⟨he, hb⟩ => ⟨he, hW.trans (hb.mono hW.size)⟩, hK _ ?_⟩; clear hK K)
      (refine wpQuiet_step (fun K hK => ?_); go_simp; (first | refine hK _ ?_ | refine ⟨_, fun _ _ => rfl, hK _ ?_⟩); clear hK K)
      (refine wpQuiet_step (fun K hK => ?_); go_simp; (first | refine hK _ ?_ | refine ⟨_, fun _ _ => rfl, hK _ ?_⟩); clear hK K)
      refine QTail.loadC (by go_simp) 23 (.tmp 7) rfl w4.heap.size 0 (by go_simp) (P.map bv) _ CP.out und_d rfl (info_d HPL.out) ?_
      refine QTail.loadC (by go_simp) 23 (.tmp 2) rfl (w.heap.size + 1) 0 (by go_simp) (full.map bv) _ CF.out und_d rfl (info_d HFL.out) ?_
      (refine wpQuiet_step (fun K hK => ?_); go_simp; (first | refine hK _ ?_ | refine ⟨_, fun _ _ => rfl, hK _ ?_⟩); clear hK K)
      (refine wpQuiet_step (fun K hK => ?_); go_simp; refine ⟨_, fun W hW => (V2.out W hW).mono fun e w' ⟨he, hb⟩ => ⟨he, hW.trans (hb.mono hW.size)⟩, hK _ ?_⟩; clear hK K)
      (refine wpQuiet_step (fun K hK => ?_); go_simp; (first | refine hK _ ?_ | refine ⟨_, fun _ _ => rfl, hK _ ?_⟩); clear hK K)
      (refine wpQuiet_step (fun K hK => ?_); go_simp; (first | refine hK _ ?_ | refine ⟨_, fun _ _ => rfl, hK _ ?_⟩); clear hK K)
      (refine wpQuiet_step (fun K hK => ?_); go_simp; (first | refine hK _ ?_ | refine ⟨_, fun _ _ => rfl, hK _ ?_⟩); clear hK K)
      refine QTail.loadC (by go_simp) 23 (.tmp 1) rfl w.heap.size 0 (by go_simp) (zero.map bv) _ CZ.out und_d rfl (info_d HZL.out) ?_
      (refine wpQuiet_step (fun K hK => ?_); go_simp; refine ⟨_, fun W hW => (A1.out W hW).mono fun e w' ⟨he, hb⟩ => ⟨he, hW.trans (hb.mono hW.size)⟩, hK _ ?_⟩; clear hK K)
      refine QTail.loadC (by go_simp) 23 (.tmp 1) rfl w.heap.size 0 (by go_simp) (zero.map bv) _ CZ.out und_d rfl (info_d HZL.out) ?_
      refine QTail.binC (by go_simp) .neq 23 23 (.tmp 113) (.tmp 114) rfl (D.map bv).toArray (zero.map bv).toArray (by go_simp) (by go_simp) true QTail.eqg (fun W _ => E2.out W) ?_
      (refine wpQuiet_step (fun K hK => ?_); go_simp; (first | refine hK _ ?_ | refine ⟨_, fun _ _ => rfl, hK _ ?_⟩); clear hK K)
      (refine wpQuiet_step (fun K hK => ?_); go_simp; (first | refine hK _ ?_ | refine ⟨_, fun _ _ => rfl, hK _ ?_⟩); clear hK K)
      refine wpQuiet_nil ?_
      intro w10 hb10
      go_wp2
      go_ret
      exact ⟨rfl, bcj Z hb10⟩
end Wo
end Go.Proofs.YtmabbiemjeeicaaDoor
