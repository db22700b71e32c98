/- WotsVerifies: the walk. Condition: the tables are laid. -/
import Derived.Test.YtmabbiemjeeicaaDoorZWoRQ
import Derived.Test.YtmabbiemjeeicaaDoorZWoSane
namespace Go.Proofs.YtmabbiemjeeicaaDoor
open Go.RowKit
namespace Wo
open Mk (dv Dg GivesD dg_new dg_zero dg_end store_d load_d und_d info_d one_d info_dA)
open Wire (bv sv Lies)
open Hash (Table GivesT tabj bcj Arr at_slot)

theorem vfy_sign (seed : List UInt8) {d : List UInt8} (hd : d.length = 16) : vfy (pub seed) d (sign seed d) = true := by
  unfold vfy
  rw [recov_sign seed hd, decide_eq_true (sign_length seed d)]
  simp
/-- Two digests that came in; then one that was made. -/
structure K2 (w W : World) (d u : List UInt8) : Prop where
  p : Dg W w.heap.size d
  q : Dg W (w.heap.size + 1) u
  z : Below w.heap.size w W
structure K3 (w W : World) (g : Nat) (d u x : List UInt8) : Prop where
  k : K2 w W d u
  r : Dg W g x
section
variable {w W W' : World} {g : Nat} {d u x : List UInt8}
theorem K2.on (h : K2 w W d u) (hb : Below W.heap.size W W') : K2 w W' d u := ⟨h.p.on hb, h.q.on hb, bcj h.z hb⟩
theorem K3.on (h : K3 w W g d u x) (hb : Below W.heap.size W W') : K3 w W' g d u x := ⟨h.k.on hb, h.r.on hb⟩
theorem k2_new (w : World) (hd : d.length = 16) (hu : u.length = 16) (t s : TypeId) : K2 w ((w.alloc (.cells (d.map bv).toArray t)).alloc (.cells (u.map bv).toArray s)) d u := by
  have P0 := dg_new w hd t
  have Q0 := dg_new (w.alloc (.cells (d.map bv).toArray t)) hu s
  have b0 := Wire.b1 w (.cells (d.map bv).toArray t)
  have b1 := Wire.b1 (w.alloc (.cells (d.map bv).toArray t)) (.cells (u.map bv).toArray s)
  rw [Wire.size_alloc] at Q0
  exact ⟨P0.on b1, Q0, bcj b0 b1⟩
end

set_option maxRecDepth 100000 in
set_option maxHeartbeats 2000000 in
theorem law_ver (s d u : List UInt8) (hd : d.length = 16) (hu : u.length = 16) (w : World) (ht : TT w) : Calls Tryd.prog 5 #[.string ⟨s.toArray⟩, dv d, dv u] w (GivesB true w) := by
  have Y := k2_new w hd hu 23 23
  have HS := Lib.hid (fun W (h : Below w.heap.size w W) => sanity_any W (ht.on h).p)
  have hz := Hash.sizeS s
  by_cases hl : (200 : Int) < (s.length : Int)
  · clear hd hu ht
    unfold dv
    go_enter Tryd.func5, Tryd.ntmps5
    go_wp2_with (first
      | (go_at_call 9; (with_reducible refine (HS.out _ Y.z).mono ?_); rintro e w7 ⟨rfl, hb⟩))
    go_ret
    exact ⟨rfl, bcj Y.z hb⟩
  · have hs : s.length ≤ 1000 := by omega
    have HG := Lib.hid (fun W (h : Below w.heap.size w W) => sign_any s d hs hd W (ht.on h).p)
    have HP := Lib.hid (fun W (h : Below w.heap.size w W) => public_any s hs W (ht.on h).p)
    have hpl := pub_length s
    have HV1 : Hid (∀ W, Below w.heap.size w W → Calls Tryd.prog 19 #[dv (pub s), dv d, .string ⟨(sign s d).toArray⟩] W (GivesB true W)) := Lib.hid (fun W h => by
      have := verify_any (pub s) d (sign s d) hpl hd W (ht.on h).p
      rwa [vfy_sign s hd] at this)
    have HV2 : Hid (∀ W, Below w.heap.size w W → Calls Tryd.prog 19 #[.agg ((pub s).map bv).toArray, .agg (u.map bv).toArray, .string ⟨(sign s d).toArray⟩] W (GivesB (vfy (pub s) u (sign s d)) W)) := Lib.hid (fun W h => verify_any (pub s) u (sign s d) hpl hu W (ht.on h).p)
    have HV3 : Hid (∀ W, Below w.heap.size w W → Calls Tryd.prog 20 #[.agg ((pub s).map bv).toArray, .agg (u.map bv).toArray, .string ⟨(sign s d).toArray⟩] W (GivesB (vfy (pub s) u (sign s d)) W)) := Lib.hid (fun W h => refVerify_any (pub s) u (sign s d) hpl hu W (ht.on h))
    have E1 : Hid (∀ W, (Op.equalIn 10000 23 (.agg (d.map bv).toArray) (.agg (u.map bv).toArray)).run Tryd.prog W = .ok (d == u) W) := Lib.hid (fun W => Mk.eq_d d u hd hu W)
    generalize vfy (pub s) u (sign s d) = B at HV2 HV3
    generalize pub s = P at *
    generalize sign s d = G at *
    have HPL := Lib.hid hpl
    have HD := Lib.hid hd
    have HU := Lib.hid hu
    clear hd hu ht hpl hs
    unfold dv
    go_enter Tryd.func5, Tryd.ntmps5
    by_cases hdu : d = u
    · have e1 : ∀ W, (Op.equalIn 10000 23 (.agg (d.map bv).toArray) (.agg (u.map bv).toArray)).run Tryd.prog W = .ok true W := by
        intro W
        have := E1.out W
        rwa [show (d == u) = true by simpa using hdu] at this
      clear hdu
      go_wp2_with (first
        | (refine load_d 15 rfl rfl (.tmp 4) rfl w.heap.size 0 rfl d HD.out Y.p.range ?_)
        | (go_at_call 17; (with_reducible refine (HG.out _ Y.z).mono ?_); rintro e w1 ⟨rfl, hb⟩; replace Y := Y.on hb; clear hb)
        | (go_at_call 15; (with_reducible refine (HP.out _ Y.z).mono ?_); rintro e w2 ⟨rfl, hb⟩; replace Y := Y.on hb; clear hb)
        | (refine store_d (.tmp 8) (.tmp 18) rfl rfl w2.heap.size 0 rfl P rfl HPL.out (dg_zero w2 _).there ?_; refine Hash.gen_world (Pq := fun W => K3 w W w2.heap.size d u P) (G := fun W => wpList _ _ _ _ _ W) ⟨Y.on (new_dig w2 HPL.out _).1, (new_dig w2 HPL.out _).2⟩ ?_; clear Y; intro w3 Y)
        | (refine load_d 19 rfl rfl (.tmp 8) rfl w2.heap.size 0 rfl P HPL.out Y.r.range ?_)
        | (refine load_d 20 rfl rfl (.tmp 4) rfl w.heap.size 0 rfl d HD.out Y.k.p.range ?_)
        | (go_at_call 19; (with_reducible refine (HV1.out _ Y.k.z).mono ?_); rintro e w4 ⟨rfl, hb⟩; replace Y := Y.on hb; clear hb)
        | ((with_reducible refine at_slot 26 rfl ?_); refine QTail.loadG (by rfl) 23 (.tmp 4) rfl w.heap.size 0 rfl (d.map bv) _ Y.k.p.range und_d rfl (info_d HD.out) ?_)
        | ((with_reducible refine at_slot 27 rfl ?_); refine QTail.loadG (by rfl) 23 (.tmp 5) rfl (w.heap.size + 1) 0 rfl (u.map bv) _ Y.k.q.range und_d rfl (info_d HU.out) ?_)
        | (go_at_call 9; (with_reducible refine (HS.out _ Y.k.z).mono ?_); rintro e w7 ⟨rfl, hb⟩))
      go_ret
      exact ⟨rfl, bcj Y.k.z hb⟩
    · have e1 : ∀ W, (Op.equalIn 10000 23 (.agg (d.map bv).toArray) (.agg (u.map bv).toArray)).run Tryd.prog W = .ok false W := by
        intro W
        have := E1.out W
        rwa [show (d == u) = false by simpa using hdu] at this
      clear hdu
      go_wp2_with (first
        | (refine load_d 15 rfl rfl (.tmp 4) rfl w.heap.size 0 rfl d HD.out Y.p.range ?_)
        | (go_at_call 17; (with_reducible refine (HG.out _ Y.z).mono ?_); rintro e w1 ⟨rfl, hb⟩; replace Y := Y.on hb; clear hb)
        | (go_at_call 15; (with_reducible refine (HP.out _ Y.z).mono ?_); rintro e w2 ⟨rfl, hb⟩; replace Y := Y.on hb; clear hb)
        | (refine store_d (.tmp 8) (.tmp 18) rfl rfl w2.heap.size 0 rfl P rfl HPL.out (dg_zero w2 _).there ?_; refine Hash.gen_world (Pq := fun W => K3 w W w2.heap.size d u P) (G := fun W => wpList _ _ _ _ _ W) ⟨Y.on (new_dig w2 HPL.out _).1, (new_dig w2 HPL.out _).2⟩ ?_; clear Y; intro w3 Y)
        | (refine load_d 19 rfl rfl (.tmp 8) rfl w2.heap.size 0 rfl P HPL.out Y.r.range ?_)
        | (refine load_d 20 rfl rfl (.tmp 4) rfl w.heap.size 0 rfl d HD.out Y.k.p.range ?_)
        | (go_at_call 19; (with_reducible refine (HV1.out _ Y.k.z).mono ?_); rintro e w4 ⟨rfl, hb⟩; replace Y := Y.on hb; clear hb)
        | ((with_reducible refine at_slot 26 rfl ?_); refine QTail.loadG (by rfl) 23 (.tmp 4) rfl w.heap.size 0 rfl (d.map bv) _ Y.k.p.range und_d rfl (info_d HD.out) ?_)
        | ((with_reducible refine at_slot 27 rfl ?_); refine QTail.loadG (by rfl) 23 (.tmp 5) rfl (w.heap.size + 1) 0 rfl (u.map bv) _ Y.k.q.range und_d rfl (info_d HU.out) ?_))
      generalize w2.heap.size = g2 at *
      have CP : Hid (∀ W, K3 w W g2 d u P → W.rangeAt g2 0 (P.map bv)) := Lib.hid (fun W h => h.r.range)
      have CU : Hid (∀ W, K3 w W g2 d u P → W.rangeAt (w.heap.size + 1) 0 (u.map bv)) := Lib.hid (fun W h => h.k.q.range)
      have S1 := Lib.hid (fun W (h : K3 w W g2 d u P) => HS.out W h.k.z)
      have V2 := Lib.hid (fun W (h : K3 w W g2 d u P) => HV2.out W h.k.z)
      have V3 := Lib.hid (fun W (h : K3 w W g2 d u P) => HV3.out W h.k.z)
      clear HS HV1 HV2 HV3 E1 e1 HG HP
      refine QTail.whole (fun W => K3 w W g2 d u P) (by kernel_rfl) (by kernel_rfl) (Y.on (Hash.belowD _)) ?_
      clear Y
      cases B
      all_goals (
        (refine wpQuiet_step (fun K hK => ?_); go_simp; refine ⟨_, fun W hW => (S1.out W hW).mono fun e w' ⟨he, hb⟩ => ⟨he, hW.on hb⟩, hK _ ?_⟩; clear hK K)
        (refine wpQuiet_step (fun K hK => ?_); go_simp; (first | refine hK _ ?_ | refine ⟨_, fun _ _ => rfl, hK _ ?_⟩); clear hK K)
        refine QTail.loadC (by rfl) 23 (.tmp 8) rfl g2 0 (by go_simp) (P.map bv) _ CP.out und_d rfl (info_d HPL.out) ?_
        refine QTail.loadC (by rfl) 23 (.tmp 5) rfl (w.heap.size + 1) 0 (by go_simp) (u.map bv) _ CU.out und_d rfl (info_d HU.out) ?_
        (refine wpQuiet_step (fun K hK => ?_); go_simp; (first | refine hK _ ?_ | refine ⟨_, fun _ _ => rfl, hK _ ?_⟩); clear hK K)
        (refine wpQuiet_step (fun K hK => ?_); go_simp; refine ⟨_, fun W hW => (V2.out W hW).mono fun e w' ⟨he, hb⟩ => ⟨he, hW.on hb⟩, hK _ ?_⟩; clear hK K)
        refine QTail.loadC (by rfl) 23 (.tmp 8) rfl g2 0 (by go_simp) (P.map bv) _ CP.out und_d rfl (info_d HPL.out) ?_
        refine QTail.loadC (by rfl) 23 (.tmp 5) rfl (w.heap.size + 1) 0 (by go_simp) (u.map bv) _ CU.out und_d rfl (info_d HU.out) ?_
        (refine wpQuiet_step (fun K hK => ?_); go_simp; (first | refine hK _ ?_ | refine ⟨_, fun _ _ => rfl, hK _ ?_⟩); clear hK K)
        (refine wpQuiet_step (fun K hK => ?_); go_simp; refine ⟨_, fun W hW => (V3.out W hW).mono fun e w' ⟨he, hb⟩ => ⟨he, hW.on hb⟩, hK _ ?_⟩; clear hK K)
        (refine wpQuiet_step (fun K hK => ?_); go_simp; (first | refine hK _ ?_ | refine ⟨_, fun _ _ => rfl, hK _ ?_⟩); clear hK K)
        (refine wpQuiet_step (fun K hK => ?_); go_simp; (first | refine hK _ ?_ | refine ⟨_, fun _ _ => rfl, hK _ ?_⟩); clear hK K)
        (refine wpQuiet_step (fun K hK => ?_); go_simp; (first | refine hK _ ?_ | refine ⟨_, fun _ _ => rfl, hK _ ?_⟩); clear hK K)
        refine wpQuiet_nil ?_
        intro w8 Y
        go_wp2
        go_ret
        exact ⟨rfl, Y.k.z⟩)
end Wo
end Go.Proofs.YtmabbiemjeeicaaDoor
