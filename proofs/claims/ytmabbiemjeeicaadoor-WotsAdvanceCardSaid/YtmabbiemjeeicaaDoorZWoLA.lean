/- WotsAdvance: the walk. Condition: the tables are laid. -/
import Derived.Test.YtmabbiemjeeicaaDoorZWoRQ
import Derived.Test.YtmabbiemjeeicaaDoorZWoSane
namespace Go.Proofs.YtmabbiemjeeicaaDoor
open Go.RowKit
namespace Wo
open Mk (dv Dg GivesD dg_new dg_zero dg_end store_d load_d und_d info_d one_d info_dA)
open Wire (bv sv Lies)
open Hash (Table GivesT tabj bcj Arr at_slot)

/-- The value that came in, and one that was made; then two. -/
structure L1 (w W : World) (g : Nat) (v x : List UInt8) : Prop where
  p : Dg W w.heap.size v
  q : Dg W g x
  z : Below w.heap.size w W
structure L2 (w W : World) (g g2 : Nat) (v x y : List UInt8) : Prop where
  l : L1 w W g v x
  r : Dg W g2 y
section
variable {w W W' : World} {g g2 : Nat} {v x y : List UInt8}
theorem L1.on (h : L1 w W g v x) (hb : Below W.heap.size W W') : L1 w W' g v x := ⟨h.p.on hb, h.q.on hb, bcj h.z hb⟩
theorem L2.on (h : L2 w W g g2 v x y) (hb : Below W.heap.size W W') : L2 w W' g g2 v x y := ⟨h.l.on hb, h.r.on hb⟩
end

set_option maxRecDepth 100000 in
set_option maxHeartbeats 2000000 in
theorem law_adv (k a m b : Int) (v : List UInt8) (hv : v.length = 16) (w : World) (ht : TT w) : Calls Tryd.prog 4 #[.int .i64 k, .int .i64 a, .int .i64 m, .int .i64 b, dv v] w (GivesB true w) := by
  have P0 := dg_new w hv 23
  have Z0 := Wire.b1 w (.cells (v.map bv).toArray 23)
  have HS := Lib.hid (fun W (h : Below w.heap.size w W) => sanity_any W (ht.on h).p)
  have hxl := advI_length (k := k) (a := a) (b := b) hv
  have hml := advI_length (k := k) (a := a) (b := m) hv
  have hyl := advI_length (k := k) (a := m) (b := b) hml
  have HA1 := Lib.hid (fun W (h : Below w.heap.size w W) => advance_any k a b v hv W (ht.on h).p)
  have HA2 := Lib.hid (fun W (h : Below w.heap.size w W) => advance_any k a m v hv W (ht.on h).p)
  have HA3 := Lib.hid (fun W (h : Below w.heap.size w W) => advance_any k m b _ hml W (ht.on h).p)
  have HR : Hid (∀ W, Below w.heap.size w W → Calls Tryd.prog 22 #[.int .i64 k, .int .i64 a, .int .i64 b, .agg (v.map bv).toArray] W (fun e w' => e = .returned (.agg ((advI k a b v).map bv).toArray) ∧ Below W.heap.size W w')) := Lib.hid (fun W h => refAdvance_any k a b v hv W (ht.on h))
  have HEQ : Hid ((0 ≤ k ∧ k ≤ 34) → 0 ≤ a → a ≤ m → m ≤ b → b ≤ 15 → advI k m b (advI k a m v) = advI k a b v) := Lib.hid (fun h1 h2 h3 h4 h5 => advI_advI h1.1 h1.2 h2 h3 h4 h5 v)
  generalize advI k a m v = M at HA2 HA3 HEQ hml hyl
  generalize advI k m b M = Y2 at HA3 HEQ hyl
  generalize advI k a b v = X at HA1 HR HEQ hxl
  have E0 : Hid (∀ W, (binOp .neq 23 (.agg (X.map bv).toArray) (.agg (X.map bv).toArray)).run Tryd.prog W = .ok (.bool false) W) := Lib.hid (fun W => by
    have := Mk.neq_d X X hxl hxl W
    rwa [show (!(X == X)) = false by simp] at this)
  have E1 : Hid (∀ W, (Op.equalIn 10000 23 (.agg (X.map bv).toArray) (.agg (X.map bv).toArray)).run Tryd.prog W = .ok true W) := Lib.hid (fun W => by
    have := Mk.eq_d X X hxl hxl W
    rwa [show (X == X) = true by simp] at this)
  have HV := Lib.hid hv
  have HX := Lib.hid hxl
  have HM := Lib.hid hml
  have HY := Lib.hid hyl
  clear hv ht hxl hml hyl
  unfold dv
  go_enter Tryd.func4, Tryd.ntmps4
  go_wp2_with (first
    | (refine load_d 16 rfl rfl (.tmp 9) rfl w.heap.size 0 rfl v HV.out P0.range ?_)
    | (go_at_call 21; (with_reducible refine (HA1.out _ Z0).mono ?_); rintro e w1 ⟨rfl, hb⟩; replace P0 := P0.on hb; replace Z0 := bcj Z0 hb; clear hb)
    | (refine store_d (.tmp 11) (.tmp 17) rfl rfl w1.heap.size 0 rfl X rfl HX.out (dg_zero w1 _).there ?_; refine Hash.gen_world (Pq := fun W => L1 w W w1.heap.size v X) (G := fun W => wpList _ _ _ _ _ W) ⟨P0.on (new_dig w1 HX.out _).1, (new_dig w1 HX.out _).2, bcj Z0 (new_dig w1 HX.out _).1⟩ ?_; clear P0 Z0; intro w2 Y)
    | (refine load_d 24 rfl rfl (.tmp 9) rfl w.heap.size 0 rfl v HV.out Y.p.range ?_)
    | (go_at_call 21; (with_reducible refine (HA2.out _ Y.z).mono ?_); rintro e w3 ⟨rfl, hb⟩; replace Y := Y.on hb; clear hb)
    | (go_at_call 21; (with_reducible refine (HA3.out _ Y.z).mono ?_); rintro e w4 ⟨rfl, hb⟩; replace Y := Y.on hb; clear hb)
    | (refine store_d (.tmp 12) (.tmp 26) rfl rfl w4.heap.size 0 rfl Y2 rfl HY.out (dg_zero w4 _).there ?_; refine Hash.gen_world (Pq := fun W => L2 w W w1.heap.size w4.heap.size v X Y2) (G := fun W => wpList _ _ _ _ _ W) ⟨Y.on (new_dig w4 HY.out _).1, (new_dig w4 HY.out _).2⟩ ?_; clear Y; intro w5 Y))
  generalize w1.heap.size = g1 at *
  generalize w4.heap.size = g4 at *
  have CV : Hid (∀ W, L2 w W g1 g4 v X Y2 → W.rangeAt w.heap.size 0 (v.map bv)) := Lib.hid (fun W h => h.l.p.range)
  have CX : Hid (∀ W, L2 w W g1 g4 v X Y2 → W.rangeAt g1 0 (X.map bv)) := Lib.hid (fun W h => h.l.q.range)
  have CR := Lib.hid (fun W (h : L2 w W g1 g4 v X Y2) => HR.out W h.l.z)
  refine QTail.whole (fun W => L2 w W g1 g4 v X Y2) (by kernel_rfl) (by kernel_rfl) (Y.on (Hash.belowD _)) ?_
  refine QTail.loadC (by rfl) 23 (.tmp 11) rfl g1 0 (by go_simp) (X.map bv) _ CX.out und_d rfl (info_d HX.out) ?_
  (refine wpQuiet_step (fun K hK => ?_); go_simp; (first | refine hK _ ?_ | refine ⟨_, fun _ _ => rfl, hK _ ?_⟩); clear hK K)
  (refine wpQuiet_step (fun K hK => ?_); go_simp; (first | refine hK _ ?_ | refine ⟨_, fun _ _ => rfl, hK _ ?_⟩); clear hK K)
  (refine wpQuiet_step (fun K hK => ?_); go_simp; (first | refine hK _ ?_ | refine ⟨_, fun _ _ => rfl, hK _ ?_⟩); clear hK K)
  refine QTail.loadC (by rfl) 23 (.tmp 9) rfl w.heap.size 0 (by go_simp) (v.map bv) _ CV.out und_d rfl (info_d HV.out) ?_
  (refine wpQuiet_step (fun K hK => ?_); go_simp; refine ⟨_, fun W hW => (CR.out W hW).mono fun e w' ⟨he, hb⟩ => ⟨he, hW.on hb⟩, hK _ ?_⟩; clear hK K)
  refine QTail.binC (by go_simp) .neq 23 23 (.tmp 27) (.tmp 32) rfl (X.map bv).toArray (X.map bv).toArray (by go_simp) (by go_simp) false QTail.eqg (fun W _ => E0.out W) ?_
  refine wpQuiet_nil ?_
  clear Y
  intro w6 Y
  by_cases c0 : k < 0
  · go_wp2_with (first
      | (go_at_call 9; (with_reducible refine (HS.out _ Y.l.z).mono ?_); rintro e w7 ⟨rfl, hb⟩))
    go_ret
    exact ⟨rfl, bcj Y.l.z hb⟩
  by_cases c1 : 34 < k
  · go_wp2_with (first
      | (go_at_call 9; (with_reducible refine (HS.out _ Y.l.z).mono ?_); rintro e w7 ⟨rfl, hb⟩))
    go_ret
    exact ⟨rfl, bcj Y.l.z hb⟩
  by_cases c2 : a < 0
  · go_wp2_with (first
      | (go_at_call 9; (with_reducible refine (HS.out _ Y.l.z).mono ?_); rintro e w7 ⟨rfl, hb⟩))
    go_ret
    exact ⟨rfl, bcj Y.l.z hb⟩
  by_cases c3 : m < a
  · go_wp2_with (first
      | (go_at_call 9; (with_reducible refine (HS.out _ Y.l.z).mono ?_); rintro e w7 ⟨rfl, hb⟩))
    go_ret
    exact ⟨rfl, bcj Y.l.z hb⟩
  by_cases c4 : b < m
  · go_wp2_with (first
      | (go_at_call 9; (with_reducible refine (HS.out _ Y.l.z).mono ?_); rintro e w7 ⟨rfl, hb⟩))
    go_ret
    exact ⟨rfl, bcj Y.l.z hb⟩
  by_cases c5 : 15 < b
  · go_wp2_with (first
      | (go_at_call 9; (with_reducible refine (HS.out _ Y.l.z).mono ?_); rintro e w7 ⟨rfl, hb⟩))
    go_ret
    exact ⟨rfl, bcj Y.l.z hb⟩
  have hey := HEQ.out ⟨by omega, by omega⟩ (by omega) (by omega) (by omega) (by omega)
  subst hey
  have e1 := E1.out
  go_wp2_with (first
    | (go_at_call 9; (with_reducible refine (HS.out _ Y.l.z).mono ?_); rintro e w7 ⟨rfl, hb⟩; replace Y := Y.on hb; clear hb)
    | ((with_reducible refine at_slot 61 rfl ?_); refine QTail.loadG (by rfl) 23 (.tmp 11) rfl g1 0 rfl (Y2.map bv) _ Y.l.q.range und_d rfl (info_d HX.out) ?_)
    | ((with_reducible refine at_slot 62 rfl ?_); refine QTail.loadG (by rfl) 23 (.tmp 12) rfl g4 0 rfl (Y2.map bv) _ Y.r.range und_d rfl (info_d HX.out) ?_))
  go_ret
  exact ⟨rfl, Y.l.z⟩
end Wo
end Go.Proofs.YtmabbiemjeeicaaDoor
