/- WotsMatchesSpec: the walk. Condition: the tables are laid. -/
import Derived.Test.YtmabbiemjeeicaaDoorZWoLV
import Derived.Test.YtmabbiemjeeicaaDoorZQEq
namespace Go.Proofs.YtmabbiemjeeicaaDoor
open Go.RowKit
namespace Wo
open Mk (dv Dg GivesD dg_new dg_zero dg_end store_d load_d und_d info_d one_d info_dA)
open Wire (bv sv Lies)
open Hash (Table GivesT tabj bcj Arr at_slot)

/-- Two digests that came in and two that were made. -/
structure K4 (w W : World) (g g2 : Nat) (d u x y : List UInt8) : Prop where
  k : K3 w W g d u x
  s : Dg W g2 y
theorem K4.on {w W W' : World} {g g2 : Nat} {d u x y : List UInt8} (h : K4 w W g g2 d u x y) (hb : Below W.heap.size W W') : K4 w W' g g2 d u x y := ⟨h.k.on hb, h.s.on hb⟩

set_option maxRecDepth 100000 in
set_option maxHeartbeats 4000000 in
theorem law_mat (s d t u : List UInt8) (hd : d.length = 16) (hu : u.length = 16) (w : World) (ht : TT w) : Calls Tryd.prog 3 #[.string ⟨s.toArray⟩, dv d, .string ⟨t.toArray⟩, dv u] w (GivesB true w) := by
  have Y := k2_new w hd hu 23 23
  have HS := Lib.hid (fun W (h : Below w.heap.size w W) => sanity_any W (ht.on h).p)
  have hz := Hash.sizeS s
  have hz2 := Hash.sizeS t
  by_cases hl : (200 : Int) < (s.length : Int)
  · clear hd hu ht
    unfold dv
    go_enter Tryd.func3, Tryd.ntmps3
    go_wp2_with (first
      | (go_at_call 9; (with_reducible refine (HS.out _ Y.z).mono ?_); rintro e w7 ⟨rfl, hb⟩))
    go_ret
    exact ⟨rfl, bcj Y.z hb⟩
  · by_cases hl2 : (600 : Int) < (t.length : Int)
    · clear hd hu ht
      unfold dv
      go_enter Tryd.func3, Tryd.ntmps3
      go_wp2_with (first
        | (go_at_call 9; (with_reducible refine (HS.out _ Y.z).mono ?_); rintro e w7 ⟨rfl, hb⟩))
      go_ret
      exact ⟨rfl, bcj Y.z hb⟩
    · have hs : s.length ≤ 1000 := by omega
      have HR1 := Lib.hid (fun W (h : Below w.heap.size w W) => recover_any d t hd W (ht.on h).p)
      have HR2 := Lib.hid (fun W (h : Below w.heap.size w W) => refRecover_any d t hd W (ht.on h))
      have HD1 : Hid (∀ W, Calls Tryd.prog 13 #[.agg (d.map bv).toArray] W (fun e w' => ∃ A c, e = .returned (.slice A 35 c) ∧ Lies w' w'.heap.size 1 A 35 c ((digs d).map nv) ∧ Below W.heap.size W w')) := Lib.hid (fun W => (digits_any d hd W).mono fun e w' h => by
        have := gl_len h
        rwa [digs_length hd] at this)
      have HD2 : Hid (∀ W, Calls Tryd.prog 14 #[.agg (d.map bv).toArray] W (fun e w' => ∃ A c, e = .returned (.slice A 35 c) ∧ Lies w' w'.heap.size 1 A 35 c ((digs d).map nv) ∧ Below W.heap.size W w')) := Lib.hid (fun W => (refDigits_any d hd W).mono fun e w' h => by
        have := gl_len h
        rwa [digs_length hd] at this)
      have HSM := Lib.hid (fun A B c e W h1 h2 => refSame_same (digs d) 35 c e A B W h1 h2)
      have HP1 : Hid (∀ W, Below w.heap.size w W → Calls Tryd.prog 15 #[.string ⟨s.toArray⟩] W (fun e w' => e = .returned (.agg ((pub s).map bv).toArray) ∧ Below W.heap.size W w')) := Lib.hid (fun W h => public_any s hs W (ht.on h).p)
      have HP2 : Hid (∀ W, Below w.heap.size w W → Calls Tryd.prog 16 #[.string ⟨s.toArray⟩] W (fun e w' => e = .returned (.agg ((pub s).map bv).toArray) ∧ Below W.heap.size W w')) := Lib.hid (fun W h => refPublic_any s hs W (ht.on h))
      have HG1 : Hid (∀ W, Below w.heap.size w W → Calls Tryd.prog 17 #[.string ⟨s.toArray⟩, .agg (d.map bv).toArray] W (GivesT (sign s d) W)) := Lib.hid (fun W h => sign_any s d hs hd W (ht.on h).p)
      have HG2 : Hid (∀ W, Below w.heap.size w W → Calls Tryd.prog 18 #[.string ⟨s.toArray⟩, .agg (d.map bv).toArray] W (GivesT (sign s d) W)) := Lib.hid (fun W h => refSign_any s d hs hd W (ht.on h))
      have HV1 : Hid (∀ W, Below w.heap.size w W → Calls Tryd.prog 19 #[.agg (u.map bv).toArray, .agg (d.map bv).toArray, .string ⟨t.toArray⟩] W (GivesB (vfy u d t) W)) := Lib.hid (fun W h => verify_any u d t hu hd W (ht.on h).p)
      have HV2 : Hid (∀ W, Below w.heap.size w W → Calls Tryd.prog 20 #[.agg (u.map bv).toArray, .agg (d.map bv).toArray, .string ⟨t.toArray⟩] W (GivesB (vfy u d t) W)) := Lib.hid (fun W h => refVerify_any u d t hu hd W (ht.on h))
      have hrl := recI_length d t
      have hpl := pub_length s
      have E1 : Hid (∀ W, (binOp .eql 23 (.agg ((recI d t).map bv).toArray) (.agg ((recI d t).map bv).toArray)).run Tryd.prog W = .ok (.bool true) W) := Lib.hid (fun W => by
        have := Mk.eql_d _ _ hrl hrl W
        rwa [show (recI d t == recI d t) = true by simp] at this)
      have E2 : Hid (∀ W, (binOp .eql 23 (.agg ((pub s).map bv).toArray) (.agg ((pub s).map bv).toArray)).run Tryd.prog W = .ok (.bool true) W) := Lib.hid (fun W => by
        have := Mk.eql_d _ _ hpl hpl W
        rwa [show (pub s == pub s) = true by simp] at this)
      generalize vfy u d t = B at HV1 HV2
      generalize recI d t = R at *
      have herr : errI t = 0 ∨ errI t = 1 := by unfold errI; by_cases h : t.length = 560 <;> simp [h]
      generalize errI t = er at *
      generalize pub s = P at *
      generalize sign s d = G at *
      have HRL := Lib.hid hrl
      have HD := Lib.hid hd
      have HU := Lib.hid hu
      have HER := Lib.hid herr
      clear hd hu ht hrl hpl hs herr
      unfold dv
      go_enter Tryd.func3, Tryd.ntmps3
      go_wp2_with (first
        | (refine load_d 23 rfl rfl (.tmp 5) rfl w.heap.size 0 rfl d HD.out Y.p.range ?_)
        | (go_at_call 10; (with_reducible refine (HR1.out _ Y.z).mono ?_); rintro e w1 ⟨rfl, hb⟩; replace Y := Y.on hb; clear hb)
        | (refine store_d (.tmp 9) (.tmp 26) rfl rfl w1.heap.size 0 rfl R rfl HRL.out (dg_zero w1 _).there ?_; refine Hash.gen_world (Pq := fun W => K3 w W w1.heap.size d u R) (G := fun W => wpList _ _ _ _ _ W) ⟨Y.on (new_dig w1 HRL.out _).1, (new_dig w1 HRL.out _).2⟩ ?_; clear Y; intro w2 Y)
        | (refine load_d 29 rfl rfl (.tmp 5) rfl w.heap.size 0 rfl d HD.out Y.k.p.range ?_)
        | (go_at_call 11; (with_reducible refine (HR2.out _ Y.k.z).mono ?_); rintro e w3 ⟨rfl, hb⟩; replace Y := Y.on hb; clear hb)
        | (refine store_d (.tmp 11) (.tmp 32) rfl rfl w3.heap.size 0 rfl R rfl HRL.out (dg_zero w3 _).there ?_; refine Hash.gen_world (Pq := fun W => K4 w W w1.heap.size w3.heap.size d u R R) (G := fun W => wpList _ _ _ _ _ W) ⟨Y.on (new_dig w3 HRL.out _).1, (new_dig w3 HRL.out _).2⟩ ?_; clear Y; intro w4 Y))
      generalize w1.heap.size = g1 at *
      generalize w3.heap.size = g3 at *
      have CD : Hid (∀ W, K4 w W g1 g3 d u R R → W.rangeAt w.heap.size 0 (d.map bv)) := Lib.hid (fun W h => h.k.k.p.range)
      have CU : Hid (∀ W, K4 w W g1 g3 d u R R → W.rangeAt (w.heap.size + 1) 0 (u.map bv)) := Lib.hid (fun W h => h.k.k.q.range)
      have CR : Hid (∀ W, K4 w W g1 g3 d u R R → W.rangeAt g1 0 (R.map bv)) := Lib.hid (fun W h => h.k.r.range)
      have CQ : Hid (∀ W, K4 w W g1 g3 d u R R → W.rangeAt g3 0 (R.map bv)) := Lib.hid (fun W h => h.s.range)
      have V1 := Lib.hid (fun W (h : K4 w W g1 g3 d u R R) => HV1.out W h.k.k.z)
      have V2 := Lib.hid (fun W (h : K4 w W g1 g3 d u R R) => HV2.out W h.k.k.z)
      have P1 := Lib.hid (fun W (h : K4 w W g1 g3 d u R R) => HP1.out W h.k.k.z)
      have P2 := Lib.hid (fun W (h : K4 w W g1 g3 d u R R) => HP2.out W h.k.k.z)
      have G1 := Lib.hid (fun W (h : K4 w W g1 g3 d u R R) => HG1.out W h.k.k.z)
      have G2 := Lib.hid (fun W (h : K4 w W g1 g3 d u R R) => HG2.out W h.k.k.z)
      clear HV1 HV2 HP1 HP2 HG1 HG2 HR1 HR2 hz hz2 hl hl2
      refine RegC.region (fun W => K4 w W g1 g3 d u R R) [7, 8, 9, 10, 11, 12, 13, 14, 15, 16, 17, 18, 19, 20, 21, 22, 23, 24, 25, 26, 27, 28, 29, 30, 31, 32, 33, 34, 35, 36, 37, 38, 39, 40, 41, 42, 43, 44, 45] (by kernel_rfl) ?_
      replace Y := Y.on (Hash.belowD _)
      refine RegC.ready (rs := [0]) (by kernel_rfl) (by simp) ?_
      refine RegC.cons rfl (fun K hK => ?_) RegC.nil
      go_simp
      go_wp2_with (go_at_call 9; (with_reducible refine (HS.out _ Y.k.k.z).mono ?_); rintro e w5 ⟨rfl, hb⟩; replace Y := Y.on hb; clear hb)
      refine ⟨fun _ => Y, ?_⟩
      (refine RegC.take (i := 1) (v := ?_) rfl (by kernel_rfl) (by kernel_rfl) (by kernel_rfl) (by kernel_rfl) (by kernel_rfl) (fun _ _ _ h => h) (Or.inl ⟨by rfl, ?_⟩) Y ?_; rotate_left 1; focus (intro W hW; go_simp; try (first | with_reducible rfl | (rw [if_pos (by omega)]; done) | (rw [if_pos (by omega), if_neg (by omega)]; done) | (rw [if_neg (by omega)]; done))))
      (refine RegC.take (i := 2) (v := (.agg (d.map bv).toArray)) rfl (by kernel_rfl) (by kernel_rfl) (by kernel_rfl) (by kernel_rfl) (by kernel_rfl) (fun _ _ _ h => h) (Or.inl ⟨by rfl, fun W hW => ?_⟩) Y ?_; focus (exact RegC.exec_rowC 23 (.tmp 5) rfl w.heap.size 0 (by go_simp) (d.map bv) _ (CD.out W hW) und_d rfl (info_d HD.out)))
      (refine RegC.take (i := 4) (v := (.agg (d.map bv).toArray)) rfl (by kernel_rfl) (by kernel_rfl) (by kernel_rfl) (by kernel_rfl) (by kernel_rfl) (fun _ _ _ h => h) (Or.inl ⟨by rfl, fun W hW => ?_⟩) Y ?_; focus (exact RegC.exec_rowC 23 (.tmp 5) rfl w.heap.size 0 (by go_simp) (d.map bv) _ (CD.out W hW) und_d rfl (info_d HD.out)))
      refine RegC.ready (rs := [3]) (by kernel_rfl) (by simp) ?_
      refine RegC.cons rfl (fun K hK => ?_) RegC.nil
      go_simp
      go_wp2_with (go_at_call 13; (with_reducible refine (HD1.out _).mono ?_); rintro e w6 ⟨A1, c1, rfl, hl, hb⟩; have HL1 := Lib.hid hl; replace Y := Y.on hb; clear hb hl)
      refine ⟨fun _ => Y, ?_⟩
      refine RegC.ready (rs := [5]) (by kernel_rfl) (by simp) ?_
      refine RegC.cons rfl (fun K hK => ?_) RegC.nil
      go_simp
      go_wp2_with (go_at_call 14; (with_reducible refine (HD2.out _).mono ?_); rintro e w7 ⟨A2, c2, rfl, hl, hb⟩; have HL2 := Lib.hid hl; replace HL1 := Lib.hid (HL1.out.on hb); replace Y := Y.on hb; clear hb hl)
      refine ⟨fun _ => Y, ?_⟩
      refine RegC.ready (rs := [6]) (by kernel_rfl) (by simp) ?_
      refine RegC.cons rfl (fun K hK => ?_) RegC.nil
      go_simp
      go_wp2_with (go_at_call 12; (with_reducible refine (HSM.out _ _ _ _ _ HL1.out HL2.out).mono ?_); rintro e w8 ⟨rfl, hb⟩; replace Y := Y.on hb; clear hb)
      refine ⟨fun _ => Y, ?_⟩
      refine RegC.rest (by kernel_rfl) ?_
      refine RegC.quietFrom (C := fun W => K4 w W g1 g3 d u R R) 7 39 rfl (by kernel_rfl) (by kernel_rfl) Y ?_
      simp only [List.drop_succ_cons, List.drop_zero]
      clear Y HL1 HL2
      (refine wpQuiet_step (fun K hK => ?_); go_simp; (first | refine hK _ ?_ | refine ⟨_, fun _ _ => rfl, hK _ ?_⟩); clear hK K)
      (refine wpQuiet_step (fun K hK => ?_); go_simp; (first | refine hK _ ?_ | refine ⟨_, fun _ _ => rfl, hK _ ?_⟩); clear hK K)
      (refine wpQuiet_step (fun K hK => ?_); go_simp; (first | refine hK _ ?_ | refine ⟨_, fun _ _ => rfl, hK _ ?_⟩); clear hK K)
      (refine wpQuiet_step (fun K hK => ?_); go_simp; refine ⟨_, fun W hW => (P1.out W hW).mono fun e w' ⟨he, hb⟩ => ⟨he, hW.on hb⟩, hK _ ?_⟩; clear hK K)
      (refine wpQuiet_step (fun K hK => ?_); go_simp; (first | refine hK _ ?_ | refine ⟨_, fun _ _ => rfl, hK _ ?_⟩); clear hK K)
      (refine wpQuiet_step (fun K hK => ?_); go_simp; refine ⟨_, fun W hW => (P2.out W hW).mono fun e w' ⟨he, hb⟩ => ⟨he, hW.on hb⟩, hK _ ?_⟩; clear hK K)
      refine QTail.binC (by go_simp) .eql 23 23 (.tmp 44) (.tmp 46) rfl (P.map bv).toArray (P.map bv).toArray (by go_simp) (by go_simp) true QTail.eqg (fun W _ => E2.out W) ?_
      (refine wpQuiet_step (fun K hK => ?_); go_simp; (first | refine hK _ ?_ | refine ⟨_, fun _ _ => rfl, hK _ ?_⟩); clear hK K)
      (refine wpQuiet_step (fun K hK => ?_); go_simp; (first | refine hK _ ?_ | refine ⟨_, fun _ _ => rfl, hK _ ?_⟩); clear hK K)
      (refine wpQuiet_step (fun K hK => ?_); go_simp; (first | refine hK _ ?_ | refine ⟨_, fun _ _ => rfl, hK _ ?_⟩); clear hK K)
      refine QTail.loadC (by go_simp) 23 (.tmp 5) rfl w.heap.size 0 (by go_simp) (d.map bv) _ CD.out und_d rfl (info_d HD.out) ?_
      (refine wpQuiet_step (fun K hK => ?_); go_simp; refine ⟨_, fun W hW => (G1.out W hW).mono fun e w' ⟨he, hb⟩ => ⟨he, hW.on hb⟩, hK _ ?_⟩; clear hK K)
      (refine wpQuiet_step (fun K hK => ?_); go_simp; (first | refine hK _ ?_ | refine ⟨_, fun _ _ => rfl, hK _ ?_⟩); clear hK K)
      refine QTail.loadC (by go_simp) 23 (.tmp 5) rfl w.heap.size 0 (by go_simp) (d.map bv) _ CD.out und_d rfl (info_d HD.out) ?_
      (refine wpQuiet_step (fun K hK => ?_); go_simp; refine ⟨_, fun W hW => (G2.out W hW).mono fun e w' ⟨he, hb⟩ => ⟨he, hW.on hb⟩, hK _ ?_⟩; clear hK K)
      refine QTail.binG (by go_simp) .eql 9 9 (.tmp 52) (.tmp 55) rfl (.string ⟨G.toArray⟩) (.string ⟨G.toArray⟩) (by go_simp) (by go_simp) true (fun W => QTail.eqgS _ _ _ _ _ _ W) (fun W _ => QTail.eqlS _ W) ?_
      (refine wpQuiet_step (fun K hK => ?_); go_simp; (first | refine hK _ ?_ | refine ⟨_, fun _ _ => rfl, hK _ ?_⟩); clear hK K)
      (refine wpQuiet_step (fun K hK => ?_); go_simp; (first | refine hK _ ?_ | refine ⟨_, fun _ _ => rfl, hK _ ?_⟩); clear hK K)
      refine QTail.loadC (by go_simp) 23 (.tmp 9) rfl g1 0 (by go_simp) (R.map bv) _ CR.out und_d rfl (info_d HRL.out) ?_
      refine QTail.loadC (by go_simp) 23 (.tmp 11) rfl g3 0 (by go_simp) (R.map bv) _ CQ.out und_d rfl (info_d HRL.out) ?_
      refine QTail.binC (by go_simp) .eql 23 23 (.tmp 59) (.tmp 60) rfl (R.map bv).toArray (R.map bv).toArray (by go_simp) (by go_simp) true QTail.eqg (fun W _ => E1.out W) ?_
      (refine wpQuiet_step (fun K hK => ?_); go_simp; (first | refine hK _ ?_ | refine ⟨_, fun _ _ => rfl, hK _ ?_⟩); clear hK K)
      (refine wpQuiet_step (fun K hK => ?_); go_simp; (first | refine hK _ ?_ | refine ⟨_, fun _ _ => rfl, hK _ ?_⟩); clear hK K)
      (refine wpQuiet_step (fun K hK => ?_); go_simp; (first | refine hK _ ?_ | refine ⟨_, fun _ _ => rfl, hK _ ?_⟩); clear hK K)
      (refine wpQuiet_step (fun K hK => ?_); go_simp; (first | refine hK _ ?_ | refine ⟨_, fun _ _ => rfl, hK _ ?_⟩); clear hK K)
      (refine wpQuiet_step (fun K hK => ?_); go_simp; (first | refine hK _ ?_ | refine ⟨_, fun _ _ => rfl, hK _ ?_⟩); clear hK K)
      (refine wpQuiet_step (fun K hK => ?_); go_simp; (first | refine hK _ ?_ | refine ⟨_, fun _ _ => rfl, hK _ ?_⟩); clear hK K)
      (refine wpQuiet_step (fun K hK => ?_); go_simp; (first | refine hK _ ?_ | refine ⟨_, fun _ _ => rfl, hK _ ?_⟩); clear hK K)
      cases B
      all_goals (
        refine QTail.loadC (by go_simp) 23 (.tmp 7) rfl (w.heap.size + 1) 0 (by go_simp) (u.map bv) _ CU.out und_d rfl (info_d HU.out) ?_
        refine QTail.loadC (by go_simp) 23 (.tmp 5) rfl w.heap.size 0 (by go_simp) (d.map bv) _ CD.out und_d rfl (info_d HD.out) ?_
        (refine wpQuiet_step (fun K hK => ?_); go_simp; (first | refine hK _ ?_ | refine ⟨_, fun _ _ => rfl, hK _ ?_⟩); clear hK K)
        (refine wpQuiet_step (fun K hK => ?_); go_simp; refine ⟨_, fun W hW => (V1.out W hW).mono fun e w' ⟨he, hb⟩ => ⟨he, hW.on hb⟩, hK _ ?_⟩; clear hK K)
        refine QTail.loadC (by go_simp) 23 (.tmp 7) rfl (w.heap.size + 1) 0 (by go_simp) (u.map bv) _ CU.out und_d rfl (info_d HU.out) ?_
        refine QTail.loadC (by go_simp) 23 (.tmp 5) rfl w.heap.size 0 (by go_simp) (d.map bv) _ CD.out und_d rfl (info_d HD.out) ?_
        (refine wpQuiet_step (fun K hK => ?_); go_simp; (first | refine hK _ ?_ | refine ⟨_, fun _ _ => rfl, hK _ ?_⟩); clear hK K)
        (refine wpQuiet_step (fun K hK => ?_); go_simp; refine ⟨_, fun W hW => (V2.out W hW).mono fun e w' ⟨he, hb⟩ => ⟨he, hW.on hb⟩, hK _ ?_⟩; clear hK K)
        (refine wpQuiet_step (fun K hK => ?_); go_simp; (first | refine hK _ ?_ | refine ⟨_, fun _ _ => rfl, hK _ ?_⟩); clear hK K)
        (refine wpQuiet_step (fun K hK => ?_); go_simp; (first | refine hK _ ?_ | refine ⟨_, fun _ _ => rfl, hK _ ?_⟩); clear hK K)
        (refine wpQuiet_step (fun K hK => ?_); go_simp; (first | refine hK _ ?_ | refine ⟨_, fun _ _ => rfl, hK _ ?_⟩); clear hK K)
        refine wpQuiet_nil ?_
        intro w9 Y
        go_wp2
        go_ret
        exact ⟨rfl, Y.k.k.z⟩)
end Wo
end Go.Proofs.YtmabbiemjeeicaaDoor
