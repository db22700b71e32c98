/- The reference of package wots: Public, Sign, Ends, Recover, Verify, Same. Conditions: the seed has at most 1000 bytes, digests 16; the tables are laid. -/
import Derived.Test.YtmabbiemjeeicaaDoorZWoRS
import Derived.Test.YtmabbiemjeeicaaDoorZWoRA
import Derived.Test.YtmabbiemjeeicaaDoorM15
namespace Go.Proofs.YtmabbiemjeeicaaDoor
open Go.RowKit
namespace Wo
open Mk (dv Dg GivesD dg_new dg_zero dg_end store_d load_d und_d info_d one_d info_dA)
open Wire (bv sv Lies enc Made)
open Hash (Table GivesT tabj bcj ofDig Arr at_slot)

theorem appS (a b : List UInt8) : (⟨a.toArray⟩ : ByteArray) ++ (⟨b.toArray⟩ : ByteArray) = ⟨(a ++ b).toArray⟩ := by
  apply ByteArray.ext
  simp

theorem exec_cut {ρ : Operand → Value} {o : Oper} {W : World} (x y : Operand) (ho : o.op = .slice 9 x (some y) none none) (s : List UInt8) (i : Int) (u : List UInt8) (hx : ρ x = .string ⟨s.toArray⟩) (hy : ρ y = .int .i64 i)
    (h : (Instr.slice 9 (.string ⟨s.toArray⟩) (some (.int .i64 i)) none none).run Tryd.prog W = .ok (.string ⟨u.toArray⟩) W) : (execOp ρ o).run Tryd.prog W = .ok (.value (.string ⟨u.toArray⟩)) W := by
  unfold execOp
  simp only [ho, hx, hy, Instr.sliceAt, Option.map_some, Option.map_none, Sem.run_bind, Sem.run_pure, run_underlying Tryd.underlying9, Result.andThen_ok, h]

set_option maxRecDepth 100000 in
set_option maxHeartbeats 1000000 in
theorem refPublic_any (seed : List UInt8) (hs : seed.length ≤ 1000) (w : World) (ht : TT w) : Calls Tryd.prog 16 #[.string ⟨seed.toArray⟩] w (GivesD (pub seed) w) := by
  have Y0 := re_new w 23
  have HS := Lib.hid hs
  have HT := Lib.hid ht
  have HO : Hid (∀ W, TT W → Calls Tryd.prog 24 #[.int .i64 5, .slice (some ⟨W.heap.size, 0, none⟩) 1 1] (W.alloc (.cells #[.string ⟨(part (ends seed) 35).toArray⟩] 9)) (GivesD (pub seed) W)) := Lib.hid (fun W h => rOf1 5 _ (by rw [part_length (v := ends seed) (n := 35) (fun k _ => adv_length (start_length seed k))]; omega) W h)
  obtain ⟨D, hD⟩ : ∃ D, D = pub seed := ⟨_, rfl⟩
  rw [← hD] at HO
  have HDL : Hid (D.length = 16) := Lib.hid (by rw [hD]; exact ofDig_length _ _)
  have HD := Lib.hid hD
  clear hs ht hD
  go_enter Tryd.func16, Tryd.ntmps16
  go_wp2
  go_loopw [3, 4] (fun sv iv wr => ∃ (k : Nat) (l : List UInt8), k ≤ 35 ∧ iv = .int .i64 (k : Int) ∧ sv = .string ⟨l.toArray⟩ ∧ l = part (ends seed) k ∧ Re w wr) (fun _ iv _ => (35 - intOf iv).toNat)
  case atStart => exact ⟨0, [], by omega, rfl, rfl, rfl, Y0⟩
  case round =>
    clear Y0
    obtain ⟨k, l, hk, rfl, rfl, hlp, Y⟩ := hrel
    by_cases hlt : k < 35
    · have z0 : (0 : Int) ≤ (k : Int) := by omega
      have z1 : (k : Int) < 35 := by omega
      have HB := Lib.hid (fun W h => refStart_any seed HS.out k (by omega) W h)
      have hsl := start_length seed k
      have HA : Hid (∀ W, TT W → Calls Tryd.prog 22 #[.int .i64 (k : Int), .int .i64 0, .int .i64 15, dv (start seed k)] W (GivesD (ends seed k) W)) := Lib.hid (fun W h => refAdvance_nat k 0 15 (by omega) (by omega) (by omega) _ hsl W h)
      have hel : (ends seed k).length = 16 := adv_length hsl
      have HX : Hid (∀ W, Calls Tryd.prog 29 #[dv (ends seed k)] W (GivesT (ends seed k) W)) := Lib.hid (fun W => Hash.text_any _ W hel)
      have HP : Hid (part (ends seed) (k + 1) = l ++ ends seed k) := Lib.hid (by rw [hlp]; rfl)
      have happ := appS l (ends seed k)
      have hll := part_length (v := ends seed) (n := k) (fun j _ => adv_length (start_length seed j))
      rw [← hlp] at hll
      have hlim : ¬ 9223372036854775807 < l.length + (ends seed k).length := by omega
      generalize start seed k = S at HB HA hsl
      generalize ends seed k = E at HA HX hel HP happ hlim
      clear hsl hel hlp hll
      go_wp2_with (first
        | (go_at_call 30; (with_reducible refine (HB.out _ (HT.out.on Y.z)).mono ?_); rintro e w1 ⟨rfl, hb⟩; replace Y := Y.on hb; clear hb)
        | (go_at_call 22; (with_reducible refine (HA.out _ (HT.out.on Y.z)).mono ?_); rintro e w2 ⟨rfl, hb⟩; replace Y := Y.on hb; clear hb)
        | (go_at_call 29; (with_reducible refine (HX.out _).mono ?_); rintro e w3 ⟨rfl, hb⟩; replace Y := Y.on hb; clear hb))
      go_roundw
      case rel => exact ⟨k + 1, _, by omega, by go_num, rfl, by rw [HP.out], Y⟩
      case measure => simp [intOf]; omega
    · have z1 : ¬ (k : Int) < 35 := by omega
      obtain rfl : k = 35 := by omega
      rw [← hlp] at HO
      clear hlp
      go_wp2_with (first
        | (go_at_call 24; (with_reducible refine (HO.out _ (HT.out.on Y.z)).mono ?_); rintro e w3 ⟨rfl, hb⟩; replace Y := Y.on hb; clear hb)
        | (refine store_d (.tmp 2) (.tmp 19) rfl rfl w.heap.size 0 rfl D rfl HDL.out Y.r.there ?_))
      have HE := dg_end Y.r HDL.out Y.z (by omega)
      refine bodyPost_ret (v := dv D) ?_ rfl ⟨by rw [HD.out], HE.2⟩
      simp [results, Tryd.results16, asAddr, Act.put]
      rw [HE.1]

set_option maxRecDepth 100000 in
set_option maxHeartbeats 1000000 in
theorem refSign_any (seed d : List UInt8) (hs : seed.length ≤ 1000) (hd : d.length = 16) (w : World) (ht : TT w) : Calls Tryd.prog 18 #[.string ⟨seed.toArray⟩, dv d] w (GivesT (sign seed d) w) := by
  have P0 := dg_new w hd 23
  have Z := Wire.b1 w (.cells (d.map bv).toArray 23)
  have HS := Lib.hid hs
  have HT := Lib.hid ht
  have HD := Lib.hid hd
  have HG : Hid (∀ W, Calls Tryd.prog 14 #[dv d] W (fun e w' => ∃ A c, e = .returned (.slice A 35 c) ∧ Lies w' w'.heap.size 1 A 35 c ((digs d).map nv) ∧ Below W.heap.size W w')) := Lib.hid (fun W => (refDigits_any d hd W).mono fun e w' h => by
    have := gl_len h
    rwa [digs_length hd] at this)
  clear hs ht hd
  unfold dv
  go_enter Tryd.func18, Tryd.ntmps18
  go_wp2_with (first
    | (refine load_d 8 rfl rfl (.tmp 3) rfl w.heap.size 0 rfl d HD.out P0.range ?_)
    | (go_at_call 14; (with_reducible refine (HG.out _).mono ?_); rintro e w1 ⟨A, c, rfl, hl, hb⟩; replace Z := bcj Z hb; clear hb P0))
  have HL := Lib.hid hl
  clear hl
  go_loopw [6, 7] (fun sv iv wr => ∃ (k : Nat) (l : List UInt8), k ≤ 35 ∧ iv = .int .i64 (k : Int) ∧ sv = .string ⟨l.toArray⟩ ∧ l = part (shown seed d) k ∧ Below w1.heap.size w1 wr) (fun _ iv _ => (35 - intOf iv).toNat)
  case atStart => exact ⟨0, [], by omega, rfl, rfl, rfl, Below.refl _ _⟩
  case round =>
    obtain ⟨k, l, hk, rfl, rfl, hlp, Y⟩ := hrel
    by_cases hlt : k < 35
    · have z0 : (0 : Int) ≤ (k : Int) := by omega
      have z1 : (k : Int) < 35 := by omega
      have HB := Lib.hid (fun W h => refStart_any seed HS.out k (by omega) W h)
      have hsl := start_length seed k
      have hdk := dig_le HD.out k
      obtain ⟨g, o, rfl, hg, hc⟩ := nums_at HL.out (digs_at HD.out hlt)
      have HA : Hid (∀ W, TT W → Calls Tryd.prog 22 #[.int .i64 (k : Int), .int .i64 0, .int .i64 (dig d k : Int), dv (start seed k)] W (GivesD (shown seed d k) W)) := Lib.hid (fun W h => refAdvance_nat k 0 (dig d k) (by omega) (by omega) hdk _ hsl W h)
      have hel : (shown seed d k).length = 16 := adv_length hsl
      have HX : Hid (∀ W, Calls Tryd.prog 29 #[dv (shown seed d k)] W (GivesT (shown seed d k) W)) := Lib.hid (fun W => Hash.text_any _ W hel)
      have HP : Hid (part (shown seed d) (k + 1) = l ++ shown seed d k) := Lib.hid (by rw [hlp]; rfl)
      have happ := appS l (shown seed d k)
      have hll := part_length (v := shown seed d) (n := k) (fun j _ => adv_length (start_length seed j))
      rw [← hlp] at hll
      have hlim : ¬ 9223372036854775807 < l.length + (shown seed d k).length := by omega
      have HC : Hid (∀ W, Below w1.heap.size w1 W → W.cell? ⟨g, o + k, none⟩ = some (.int .i64 (dig d k : Int))) := Lib.hid (fun W h => (h.cell hg).trans hc)
      generalize start seed k = S at HB HA hsl
      generalize shown seed d k = E at HA HX hel HP happ hlim
      generalize dig d k = x at HA HC hdk
      clear hsl hel hdk hc hg hlp hll
      go_wp2
      replace Y := bcj Y (Hash.belowD _)
      refine RegC.region (fun W => Below w1.heap.size w1 W) [11, 12] (by kernel_rfl) ?_
      (refine RegC.take (i := 0) (v := ?_) rfl (by kernel_rfl) (by kernel_rfl) (by kernel_rfl) (by kernel_rfl) (by kernel_rfl) (fun _ _ _ h => h) (Or.inl ⟨by rfl, ?_⟩) Y ?_; rotate_left 1; focus (intro W hW; go_simp; try (first | with_reducible rfl | (rw [if_pos (by omega)]; done) | (rw [if_pos (by omega), if_neg (by omega)]; done) | (rw [if_neg (by omega)]; done))))
      (refine RegC.take (i := 1) (v := ?_) rfl (by kernel_rfl) (by kernel_rfl) (by kernel_rfl) (by kernel_rfl) (by kernel_rfl) (fun _ _ _ h => h) (Or.inl ⟨by rfl, ?_⟩) Y ?_; rotate_left 1; focus (intro W hW; go_simp; try (first | with_reducible rfl | (rw [if_pos (by omega)]; done) | (rw [if_pos (by omega), if_neg (by omega)]; done) | (rw [if_neg (by omega)]; done))))
      (refine RegC.take (i := 2) (v := ?_) rfl (by kernel_rfl) (by kernel_rfl) (by kernel_rfl) (by kernel_rfl) (by kernel_rfl) (fun _ _ _ h => h) (Or.inl ⟨by rfl, ?_⟩) Y ?_; rotate_left 1; focus (intro W hW; go_simp; try (first | with_reducible rfl | (rw [if_pos (by omega)]; done) | (rw [if_pos (by omega), if_neg (by omega)]; done) | (rw [if_neg (by omega)]; done))))
      (refine RegC.take (i := 3) (v := ?_) rfl (by kernel_rfl) (by kernel_rfl) (by kernel_rfl) (by kernel_rfl) (by kernel_rfl) (fun _ _ _ h => h) (Or.inl ⟨by rfl, ?_⟩) Y ?_; rotate_left 1; focus (intro W hW; go_simp; try (first | with_reducible rfl | (rw [if_pos (by omega)]; done) | (rw [if_pos (by omega), if_neg (by omega)]; done) | (rw [if_neg (by omega)]; done))))
      (refine RegC.take (i := 4) (v := (.pointer (some ⟨g, o + k, none⟩))) rfl (by kernel_rfl) (by kernel_rfl) (by kernel_rfl) (by kernel_rfl) (by kernel_rfl) (fun _ _ _ h => h) (Or.inl ⟨by rfl, ?_⟩) Y ?_; focus (intro W hW; go_simp; try (first | with_reducible rfl | rfl | (rw [if_pos (by omega)]; done) | (rw [if_pos (by omega)]; rfl) | (rw [if_pos (by omega), if_neg (by omega)]; rfl) | (rw [if_neg (by omega)]; rfl))))
      (refine RegC.take (i := 5) (v := (.int .i64 (x : Int))) rfl (by kernel_rfl) (by kernel_rfl) (by kernel_rfl) (by kernel_rfl) (by kernel_rfl) (fun _ _ _ h => h) (Or.inl ⟨by rfl, ?_⟩) Y ?_; focus (intro W hW; go_simp; first | (rw [HC.out W hW]; rfl) | (rw [HC.out W hW]; done) | (simp only [HC.out W hW]; done)))
      (refine RegC.take (i := 6) (v := ?_) rfl (by kernel_rfl) (by kernel_rfl) (by kernel_rfl) (by kernel_rfl) (by kernel_rfl) (fun _ _ _ h => h) (Or.inl ⟨by rfl, ?_⟩) Y ?_; rotate_left 1; focus (intro W hW; go_simp; try (first | with_reducible rfl | (rw [if_pos (by omega)]; done) | (rw [if_pos (by omega), if_neg (by omega)]; done) | (rw [if_neg (by omega)]; done))))
      (refine RegC.take (i := 7) (v := ?_) rfl (by kernel_rfl) (by kernel_rfl) (by kernel_rfl) (by kernel_rfl) (by kernel_rfl) (fun _ _ _ h => h) (Or.inl ⟨by rfl, ?_⟩) Y ?_; rotate_left 1; focus (intro W hW; go_simp; try (first | with_reducible rfl | (rw [if_pos (by omega)]; done) | (rw [if_pos (by omega), if_neg (by omega)]; done) | (rw [if_neg (by omega)]; done))))
      refine RegC.ready (rs := [8]) (by kernel_rfl) (by simp) ?_
      refine RegC.cons rfl (fun K hK => ?_) RegC.nil
      go_simp
      go_wp2_with (go_at_call 30; (with_reducible refine (HB.out _ (HT.out.on (bcj Z Y))).mono ?_); rintro e w3 ⟨rfl, hb⟩; replace Y := bcj Y hb; clear hb)
      refine ⟨fun _ => Y, ?_⟩
      refine RegC.ready (rs := [9]) (by kernel_rfl) (by simp) ?_
      refine RegC.cons rfl (fun K hK => ?_) RegC.nil
      go_simp
      go_wp2_with (go_at_call 22; (with_reducible refine (HA.out _ (HT.out.on (bcj Z Y))).mono ?_); rintro e w4 ⟨rfl, hb⟩; replace Y := bcj Y hb; clear hb)
      refine ⟨fun _ => Y, ?_⟩
      refine RegC.ready (rs := [10]) (by kernel_rfl) (by simp) ?_
      refine RegC.cons rfl (fun K hK => ?_) RegC.nil
      go_simp
      go_wp2_with (go_at_call 29; (with_reducible refine (HX.out _).mono ?_); rintro e w5 ⟨rfl, hb⟩; replace Y := bcj Y hb; clear hb)
      refine ⟨fun _ => Y, ?_⟩
      refine RegC.rest (by kernel_rfl) ?_
      refine RegC.tail 11 2 rfl (by kernel_rfl) ?_
      simp only [List.drop_succ_cons, List.drop_zero]
      go_wp2
      go_roundw
      case rel => exact ⟨k + 1, _, by omega, by go_num, rfl, by rw [HP.out], Y⟩
      case measure => simp [intOf]; omega
    · have z1 : ¬ (k : Int) < 35 := by omega
      obtain rfl : k = 35 := by omega
      have HP : Hid (l = sign seed d) := Lib.hid hlp
      clear hlp
      go_wp2
      go_ret
      exact ⟨by rw [← HP.out]; rfl, bcj Z Y⟩
set_option maxRecDepth 100000 in
set_option maxHeartbeats 1000000 in
theorem refEnds_any (d s : List UInt8) (hs : s.length = 560) (hd : d.length = 16) (w : World) (ht : TT w) : Calls Tryd.prog 23 #[dv d, .string ⟨s.toArray⟩] w (GivesT (part (led d s) 35) w) := by
  have P0 := dg_new w hd 23
  have Z := Wire.b1 w (.cells (d.map bv).toArray 23)
  have HS := Lib.hid hs
  have HT := Lib.hid ht
  have HD := Lib.hid hd
  have HG : Hid (∀ W, Calls Tryd.prog 14 #[dv d] W (fun e w' => ∃ A c, e = .returned (.slice A 35 c) ∧ Lies w' w'.heap.size 1 A 35 c ((digs d).map nv) ∧ Below W.heap.size W w')) := Lib.hid (fun W => (refDigits_any d hd W).mono fun e w' h => by
    have := gl_len h
    rwa [digs_length hd] at this)
  clear hs ht hd
  unfold dv
  go_enter Tryd.func23, Tryd.ntmps23
  go_wp2_with (first
    | (refine load_d 8 rfl rfl (.tmp 2) rfl w.heap.size 0 rfl d HD.out P0.range ?_)
    | (go_at_call 14; (with_reducible refine (HG.out _).mono ?_); rintro e w1 ⟨A, c, rfl, hl, hb⟩; replace Z := bcj Z hb; clear hb P0))
  have HL := Lib.hid hl
  clear hl
  go_loopw [6, 7] (fun sv iv wr => ∃ (k : Nat) (l : List UInt8), k ≤ 35 ∧ iv = .int .i64 (k : Int) ∧ sv = .string ⟨l.toArray⟩ ∧ l = part (led d s) k ∧ Below w1.heap.size w1 wr) (fun _ iv _ => (35 - intOf iv).toNat)
  case atStart => exact ⟨0, [], by omega, rfl, rfl, rfl, Below.refl _ _⟩
  case round =>
    obtain ⟨k, l, hk, rfl, rfl, hlp, Y⟩ := hrel
    by_cases hlt : k < 35
    · have z0 : (0 : Int) ≤ (k : Int) := by omega
      have z1 : (k : Int) < 35 := by omega
      have HB : Hid (∀ W, Calls Tryd.prog 37 #[.string ⟨(s.drop (16 * k)).toArray⟩] W (GivesD (piece s k) W)) := Lib.hid (fun W => refDigest_any (s.drop (16 * k)) (by rw [List.length_drop, HS.out]; omega) W)
      have hsl := piece_length HS.out hlt
      have HWR : Hid (IntKind.i64.wrap (16 * (k : Int)) = 16 * (k : Int)) := Lib.hid (IntWalk.i64_in _ (by omega))
      have HU : Hid (∀ W, Below w1.heap.size w1 W → (Instr.slice 9 (.string ⟨s.toArray⟩) (some (.int .i64 (16 * (k : Int)))) none none).run Tryd.prog W = .ok (.string ⟨(s.drop (16 * k)).toArray⟩) W) := Lib.hid (fun W _ => by
        have := cut_from s (16 * k) (by rw [HS.out]; omega) W
        rwa [show ((16 * k : Nat) : Int) = 16 * (k : Int) by omega] at this)
      have hdk := dig_le HD.out k
      obtain ⟨g, o, rfl, hg, hc⟩ := nums_at HL.out (digs_at HD.out hlt)
      have HA : Hid (∀ W, TT W → Calls Tryd.prog 22 #[.int .i64 (k : Int), .int .i64 (dig d k : Int), .int .i64 15, dv (piece s k)] W (GivesD (led d s k) W)) := Lib.hid (fun W h => refAdvance_nat k (dig d k) 15 (by omega) hdk (by omega) _ hsl W h)
      have hel : (led d s k).length = 16 := adv_length hsl
      have HX : Hid (∀ W, Calls Tryd.prog 29 #[dv (led d s k)] W (GivesT (led d s k) W)) := Lib.hid (fun W => Hash.text_any _ W hel)
      have HP : Hid (part (led d s) (k + 1) = l ++ led d s k) := Lib.hid (by rw [hlp]; rfl)
      have happ := appS l (led d s k)
      have hll := part_length (v := led d s) (n := k) (fun j hj => adv_length (piece_length HS.out (by omega)))
      rw [← hlp] at hll
      have hlim : ¬ 9223372036854775807 < l.length + (led d s k).length := by omega
      have HC : Hid (∀ W, Below w1.heap.size w1 W → W.cell? ⟨g, o + k, none⟩ = some (.int .i64 (dig d k : Int))) := Lib.hid (fun W h => (h.cell hg).trans hc)
      generalize piece s k = S at HB HA hsl
      generalize s.drop (16 * k) = sd at HB HU
      generalize led d s k = E at HA HX hel HP happ hlim
      generalize dig d k = x at HA HC hdk
      clear hsl hel hdk hc hg hlp hll
      go_wp2
      replace Y := bcj Y (Hash.belowD _)
      refine RegC.region (fun W => Below w1.heap.size w1 W) [13, 14] (by kernel_rfl) ?_
      (refine RegC.take (i := 0) (v := ?_) rfl (by kernel_rfl) (by kernel_rfl) (by kernel_rfl) (by kernel_rfl) (by kernel_rfl) (fun _ _ _ h => h) (Or.inl ⟨by rfl, ?_⟩) Y ?_; rotate_left 1; focus (intro W hW; go_simp; try (first | with_reducible rfl | (rw [if_pos (by omega)]; done) | (rw [if_pos (by omega), if_neg (by omega)]; done) | (rw [if_neg (by omega)]; done))))
      (refine RegC.take (i := 1) (v := ?_) rfl (by kernel_rfl) (by kernel_rfl) (by kernel_rfl) (by kernel_rfl) (by kernel_rfl) (fun _ _ _ h => h) (Or.inl ⟨by rfl, ?_⟩) Y ?_; rotate_left 1; focus (intro W hW; go_simp; try (first | with_reducible rfl | (rw [if_pos (by omega)]; done) | (rw [if_pos (by omega), if_neg (by omega)]; done) | (rw [if_neg (by omega)]; done))))
      (refine RegC.take (i := 2) (v := ?_) rfl (by kernel_rfl) (by kernel_rfl) (by kernel_rfl) (by kernel_rfl) (by kernel_rfl) (fun _ _ _ h => h) (Or.inl ⟨by rfl, ?_⟩) Y ?_; rotate_left 1; focus (intro W hW; go_simp; try (first | with_reducible rfl | (rw [if_pos (by omega)]; done) | (rw [if_pos (by omega), if_neg (by omega)]; done) | (rw [if_neg (by omega)]; done))))
      (refine RegC.take (i := 3) (v := ?_) rfl (by kernel_rfl) (by kernel_rfl) (by kernel_rfl) (by kernel_rfl) (by kernel_rfl) (fun _ _ _ h => h) (Or.inl ⟨by rfl, ?_⟩) Y ?_; rotate_left 1; focus (intro W hW; go_simp; try (first | with_reducible rfl | (rw [if_pos (by omega)]; done) | (rw [if_pos (by omega), if_neg (by omega)]; done) | (rw [if_neg (by omega)]; done))))
      (refine RegC.take (i := 4) (v := (.pointer (some ⟨g, o + k, none⟩))) rfl (by kernel_rfl) (by kernel_rfl) (by kernel_rfl) (by kernel_rfl) (by kernel_rfl) (fun _ _ _ h => h) (Or.inl ⟨by rfl, ?_⟩) Y ?_; focus (intro W hW; go_simp; try (first | with_reducible rfl | rfl | (rw [if_pos (by omega)]; done) | (rw [if_pos (by omega)]; rfl) | (rw [if_pos (by omega), if_neg (by omega)]; rfl) | (rw [if_neg (by omega)]; rfl))))
      (refine RegC.take (i := 5) (v := (.int .i64 (x : Int))) rfl (by kernel_rfl) (by kernel_rfl) (by kernel_rfl) (by kernel_rfl) (by kernel_rfl) (fun _ _ _ h => h) (Or.inl ⟨by rfl, ?_⟩) Y ?_; focus (intro W hW; go_simp; first | (rw [HC.out W hW]; rfl) | (rw [HC.out W hW]; done) | (simp only [HC.out W hW]; done)))
      (refine RegC.take (i := 6) (v := ?_) rfl (by kernel_rfl) (by kernel_rfl) (by kernel_rfl) (by kernel_rfl) (by kernel_rfl) (fun _ _ _ h => h) (Or.inl ⟨by rfl, ?_⟩) Y ?_; rotate_left 1; focus (intro W hW; go_simp; try (first | with_reducible rfl | (rw [if_pos (by omega)]; done) | (rw [if_pos (by omega), if_neg (by omega)]; done) | (rw [if_neg (by omega)]; done))))
      (refine RegC.take (i := 7) (v := ?_) rfl (by kernel_rfl) (by kernel_rfl) (by kernel_rfl) (by kernel_rfl) (by kernel_rfl) (fun _ _ _ h => h) (Or.inl ⟨by rfl, ?_⟩) Y ?_; rotate_left 1; focus (intro W hW; go_simp; try (first | with_reducible rfl | (rw [if_pos (by omega)]; done) | (rw [if_pos (by omega), if_neg (by omega)]; done) | (rw [if_neg (by omega)]; done))))
      (refine RegC.take (i := 8) (v := ?_) rfl (by kernel_rfl) (by kernel_rfl) (by kernel_rfl) (by kernel_rfl) (by kernel_rfl) (fun _ _ _ h => h) (Or.inl ⟨by rfl, ?_⟩) Y ?_; rotate_left 1; focus (intro W hW; go_simp; try (first | with_reducible rfl | (rw [if_pos (by omega)]; done) | (rw [if_pos (by omega), if_neg (by omega)]; done) | (rw [if_neg (by omega)]; done))))
      (refine RegC.take (i := 9) (v := (.string ⟨sd.toArray⟩)) rfl (by kernel_rfl) (by kernel_rfl) (by kernel_rfl) (by kernel_rfl) (by kernel_rfl) (fun _ _ _ h => h) (Or.inl ⟨by rfl, fun W hW => ?_⟩) Y ?_; focus (exact exec_cut (.tmp 20) (.tmp 22) rfl s (16 * (k : Int)) sd (by go_simp) (by go_simp; exact HWR.out) (HU.out W hW)))
      refine RegC.ready (rs := [10]) (by kernel_rfl) (by simp) ?_
      refine RegC.cons rfl (fun K hK => ?_) RegC.nil
      go_simp
      go_wp2_with (go_at_call 37; (with_reducible refine (HB.out _).mono ?_); rintro e w3 ⟨rfl, hb⟩; replace Y := bcj Y hb; clear hb)
      refine ⟨fun _ => Y, ?_⟩
      refine RegC.ready (rs := [11]) (by kernel_rfl) (by simp) ?_
      refine RegC.cons rfl (fun K hK => ?_) RegC.nil
      go_simp
      go_wp2_with (go_at_call 22; (with_reducible refine (HA.out _ (HT.out.on (bcj Z Y))).mono ?_); rintro e w4 ⟨rfl, hb⟩; replace Y := bcj Y hb; clear hb)
      refine ⟨fun _ => Y, ?_⟩
      refine RegC.ready (rs := [12]) (by kernel_rfl) (by simp) ?_
      refine RegC.cons rfl (fun K hK => ?_) RegC.nil
      go_simp
      go_wp2_with (go_at_call 29; (with_reducible refine (HX.out _).mono ?_); rintro e w5 ⟨rfl, hb⟩; replace Y := bcj Y hb; clear hb)
      refine ⟨fun _ => Y, ?_⟩
      refine RegC.rest (by kernel_rfl) ?_
      refine RegC.tail 13 2 rfl (by kernel_rfl) ?_
      simp only [List.drop_succ_cons, List.drop_zero]
      go_wp2
      go_roundw
      case rel => exact ⟨k + 1, _, by omega, by go_num, rfl, by rw [HP.out], Y⟩
      case measure => simp [intOf]; omega
    · have z1 : ¬ (k : Int) < 35 := by omega
      obtain rfl : k = 35 := by omega
      have HP : Hid (l = part (led d s) 35) := Lib.hid hlp
      clear hlp
      go_wp2
      go_ret
      exact ⟨by rw [← HP.out]; rfl, bcj Z Y⟩

set_option maxRecDepth 100000 in
set_option maxHeartbeats 1000000 in
theorem refRecover_any (d s : List UInt8) (hd : d.length = 16) (w : World) (ht : TT w) : Calls Tryd.prog 11 #[dv d, .string ⟨s.toArray⟩] w (GivesDE (recI d s) (errI s) w) := by
  have P0 := dg_new w hd 23
  have b1 := Wire.b1 w (.cells (d.map bv).toArray 23)
  have Y := re_new (w.alloc (.cells (d.map bv).toArray 23)) 23
  have Z := bcj b1 Y.z
  have P1 := P0.on Y.z
  have R0 := Y.r
  rw [Wire.size_alloc] at R0
  by_cases hs : s.length = 560
  · have hz : (⟨s.toArray⟩ : ByteArray).size = 560 := by rw [Hash.sizeS, hs]
    have HE0 := Lib.hid (fun W h => refEnds_any d s hs hd W h)
    have HO : Hid (∀ W, TT W → Calls Tryd.prog 24 #[.int .i64 5, .slice (some ⟨W.heap.size, 0, none⟩) 1 1] (W.alloc (.cells #[.string ⟨(part (led d s) 35).toArray⟩] 9)) (GivesD (recov d s) W)) := Lib.hid (fun W h => rOf1 5 _ (by rw [part_length (v := led d s) (n := 35) (fun k hk => adv_length (piece_length hs hk))]; omega) W h)
    have h1 : recI d s = recov d s := if_pos hs
    have h2 : errI s = 0 := if_pos hs
    rw [h1, h2]
    have hrl := recov_length d s
    generalize recov d s = D at HO hrl ⊢
    generalize part (led d s) 35 = t at HE0 HO
    have HDL := Lib.hid hrl
    have HD := Lib.hid hd
    have HT := Lib.hid ht
    clear hd b1 hs ht Y P0 hrl h1 h2
    unfold dv
    go_enter Tryd.func11, Tryd.ntmps11
    go_wp2_with (first
      | (refine load_d 10 rfl rfl (.tmp 2) rfl w.heap.size 0 rfl d HD.out P1.range ?_)
      | (go_at_call 23; (with_reducible refine (HE0.out _ (HT.out.on Z)).mono ?_); rintro e w1 ⟨rfl, hb⟩; replace Z := bcj Z hb; replace R0 := R0.on hb; clear hb P1)
      | (go_at_call 24; (with_reducible refine (HO.out _ (HT.out.on Z)).mono ?_); rintro e w2 ⟨rfl, hb⟩; replace Z := bcj Z hb; replace R0 := R0.on hb; clear hb)
      | (refine store_d (.tmp 4) (.tmp 14) rfl rfl (w.heap.size + 1) 0 rfl D rfl HDL.out R0.there ?_))
    have HE := dg_end R0 HDL.out Z (by omega)
    refine bodyPost_ret (v := .tuple #[dv D, .int .i64 0]) ?_ rfl ⟨rfl, HE.2⟩
    simp [results, Tryd.results11, asAddr]
    rw [HE.1]
    rfl
  · have h1 : recI d s = zero := if_neg hs
    have h2 : errI s = 1 := if_neg hs
    rw [h1, h2]
    have hz := Hash.sizeS s
    have hne : ¬ (s.length : Int) = 560 := by omega
    have hne2 : ((s.length : Int) != 560) = true := by simp; omega
    clear b1 hs Y h1 h2 P0 P1 ht hd
    unfold dv
    go_enter Tryd.func11, Tryd.ntmps11
    go_wp2_with (first
      | (refine store_d (.tmp 4) (.tmp 9) rfl rfl (w.heap.size + 1) 0 rfl zero rfl rfl R0.there ?_))
    have HE := dg_end R0 zero_length Z (by omega)
    refine bodyPost_ret (v := .tuple #[dv zero, .int .i64 1]) ?_ rfl ⟨rfl, HE.2⟩
    simp [results, Tryd.results11, asAddr]
    rw [HE.1]
    rfl

set_option maxRecDepth 100000 in
set_option maxHeartbeats 1000000 in
theorem refVerify_any (p d s : List UInt8) (hp : p.length = 16) (hd : d.length = 16) (w : World) (ht : TT w) : Calls Tryd.prog 20 #[dv p, dv d, .string ⟨s.toArray⟩] w (GivesB (vfy p d s) w) := by
  have P0 := dg_new w hp 23
  have b1 := Wire.b1 w (.cells (p.map bv).toArray 23)
  have Q0 := dg_new (w.alloc (.cells (p.map bv).toArray 23)) hd 23
  have b2 := Wire.b1 (w.alloc (.cells (p.map bv).toArray 23)) (.cells (d.map bv).toArray 23)
  have P1 := P0.on b2
  rw [Wire.size_alloc] at Q0
  have Z := bcj b1 b2
  have HR := Lib.hid (fun W h => refRecover_any d s hd W h)
  have hrl := recI_length d s
  have HV : Hid (vfy p d s = (decide (s.length = 560) && (recov d s == p))) := Lib.hid rfl
  have HP := Lib.hid hp
  have HD := Lib.hid hd
  have HT := Lib.hid ht
  have HDL := Lib.hid hrl
  by_cases hs : s.length = 560
  · have E1 : ∀ W, (binOp .eql 23 (dv (recov d s)) (dv p)).run Tryd.prog W = .ok (.bool (recov d s == p)) W := fun W => Mk.eql_d _ _ (recov_length d s) hp W
    have E0 : ∀ W, (Op.equalIn 10000 23 (dv (recov d s)) (dv p)).run Tryd.prog W = .ok (recov d s == p) W := fun W => Mk.eq_d _ _ (recov_length d s) hp W
    have h1 : recI d s = recov d s := if_pos hs
    have h2 : errI s = 0 := if_pos hs
    rw [h1] at HR HDL
    rw [h2] at HR
    rw [decide_eq_true hs, Bool.true_and] at HV
    generalize vfy p d s = B at HV ⊢
    generalize recov d s = D at *
    generalize (D == p) = b at *
    clear hp hd ht hs hrl b1 b2 P0 h1 h2
    unfold dv at E0 E1 ⊢
    go_enter Tryd.func20, Tryd.ntmps20
    go_wp2_with (first
      | (refine load_d 10 rfl rfl (.tmp 4) rfl (w.heap.size + 1) 0 rfl d HD.out Q0.range ?_)
      | (go_at_call 11; (with_reducible refine (HR.out _ (HT.out.on Z)).mono ?_); rintro e w1 ⟨rfl, hb⟩; replace P1 := P1.on hb; replace Z := bcj Z hb; clear hb)
      | (refine store_d (.tmp 7) (.tmp 13) rfl rfl w1.heap.size 0 rfl D rfl HDL.out (dg_zero w1 _).there ?_; refine Hash.gen_world (Pq := fun W => Dg W w.heap.size p ∧ Dg W w1.heap.size D ∧ Below w.heap.size w W) (G := fun W => wpList _ _ _ _ _ W) ⟨(P1.on (Wire.b1 w1 _)).aside (by have := P1.lt; omega) _, (dg_zero w1 _).put HDL.out, bcj Z ((Wire.b1 w1 _).trans (Hash.below_cells (Nat.le_refl _) _ _ _))⟩ ?_; clear P1 Z; intro w2 Y)
      | ((with_reducible refine at_slot 18 rfl ?_); refine QTail.loadG (by rfl) 23 (.tmp 7) rfl w1.heap.size 0 rfl (D.map bv) _ Y.2.1.range und_d rfl (info_d HDL.out) ?_)
      | ((with_reducible refine at_slot 19 rfl ?_); refine QTail.loadG (by rfl) 23 (.tmp 3) rfl w.heap.size 0 rfl (p.map bv) _ Y.1.range und_d rfl (info_d HP.out) ?_))
    go_ret
    exact ⟨by rw [HV.out]; rfl, Y.2.2⟩
  · have h1 : recI d s = zero := if_neg hs
    have h2 : errI s = 1 := if_neg hs
    have HZL : Hid (zero.length = 16) := Lib.hid rfl
    rw [h1] at HR
    rw [h2] at HR
    rw [decide_eq_false hs, Bool.false_and] at HV
    generalize vfy p d s = B at HV ⊢
    generalize zero = D at HR HZL
    clear hp hd ht hs hrl b1 b2 P0 h1 h2 HDL
    unfold dv
    go_enter Tryd.func20, Tryd.ntmps20
    go_wp2_with (first
      | (refine load_d 10 rfl rfl (.tmp 4) rfl (w.heap.size + 1) 0 rfl d HD.out Q0.range ?_)
      | (go_at_call 11; (with_reducible refine (HR.out _ (HT.out.on Z)).mono ?_); rintro e w1 ⟨rfl, hb⟩; replace Z := bcj Z hb; clear hb)
      | (refine store_d (.tmp 7) (.tmp 13) rfl rfl w1.heap.size 0 rfl D rfl HZL.out (dg_zero w1 _).there ?_; refine Hash.gen_world (Pq := fun W => Below w.heap.size w W) (G := fun W => wpList _ _ _ _ _ W) (bcj Z ((Wire.b1 w1 _).trans (Hash.below_cells (Nat.le_refl _) _ _ _))) ?_; clear Z; intro w2 Z))
    go_ret
    exact ⟨by rw [HV.out]; rfl, Z⟩
end Wo
end Go.Proofs.YtmabbiemjeeicaaDoor
