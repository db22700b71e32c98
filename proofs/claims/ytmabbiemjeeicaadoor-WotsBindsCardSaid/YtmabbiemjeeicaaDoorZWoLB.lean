/- WotsBinds: the walk. Condition: the tables are laid. -/
import Derived.Test.YtmabbiemjeeicaaDoorZWoLM
namespace Go.Proofs.YtmabbiemjeeicaaDoor
open Go.RowKit
namespace Wo
open Mk (dv Dg GivesD dg_new dg_zero dg_end store_d load_d und_d info_d one_d info_dA)
open Wire (bv sv Lies)
open Hash (Table GivesT tabj bcj Arr at_slot)

theorem strNe {a b : List UInt8} (h : ¬ a = b) : (a == b) = false := by
  simpa using h

set_option maxRecDepth 100000 in
set_option maxHeartbeats 4000000 in
theorem bin_same (a s b t R X : List UInt8) (ha : a.length = 16) (hb : b.length = 16) (hrl : R.length = 16) (w : World)
    (hS : ∀ W, Below w.heap.size w W → Calls Tryd.prog 9 #[] W (GivesB true W))
    (hR1 : ∀ W, Below w.heap.size w W → Calls Tryd.prog 10 #[dv a, .string ⟨s.toArray⟩] W (GivesDE R 0 W)) (hR2 : ∀ W, Below w.heap.size w W → Calls Tryd.prog 10 #[dv b, .string ⟨t.toArray⟩] W (GivesDE R 0 W))
    (hE1 : ∀ W, Below w.heap.size w W → Calls Tryd.prog 23 #[dv a, .string ⟨s.toArray⟩] W (GivesT X W)) (hE2 : ∀ W, Below w.heap.size w W → Calls Tryd.prog 23 #[dv b, .string ⟨t.toArray⟩] W (GivesT X W))
     : Calls Tryd.prog 7 #[dv a, .string ⟨s.toArray⟩, dv b, .string ⟨t.toArray⟩] w (GivesB true w) := by
  have Y := k2_new w ha hb 23 23
  have HS := Lib.hid hS
  have HR1 := Lib.hid hR1
  have HR2 := Lib.hid hR2
  have HE1 := Lib.hid hE1
  have HE2 := Lib.hid hE2
  have HA := Lib.hid ha
  have HB := Lib.hid hb
  have HRL := Lib.hid hrl
  have HQL := Lib.hid hrl
  clear hS hR1 hR2 hE1 hE2
  have E1 : ∀ W, (Op.equalIn 10000 23 (.agg (R.map bv).toArray) (.agg (R.map bv).toArray)).run Tryd.prog W = .ok true W := fun W => by
    have := Mk.eq_d R R hrl hrl W
    rwa [show (R == R) = true by simp] at this
  clear ha hb hrl
  unfold dv
  go_enter Tryd.func7, Tryd.ntmps7
  go_wp2_with (first
    | (refine load_d 16 rfl rfl (.tmp 4) rfl w.heap.size 0 rfl a HA.out Y.p.range ?_)
    | (go_at_call 10; (with_reducible refine (HR1.out _ Y.z).mono ?_); rintro e w1 ⟨rfl, hb⟩; replace Y := Y.on hb; clear hb)
    | (refine store_d (.tmp 9) (.tmp 19) rfl rfl w1.heap.size 0 rfl R rfl HRL.out (dg_zero w1 _).there ?_; refine Hash.gen_world (Pq := fun W => K3 w W w1.heap.size a b R) (G := fun W => wpList _ _ _ _ _ W) ⟨Y.on (new_dig w1 HRL.out _).1, (new_dig w1 HRL.out _).2⟩ ?_; clear Y; intro w2 Y)
    | (refine load_d 22 rfl rfl (.tmp 6) rfl (w.heap.size + 1) 0 rfl b HB.out Y.k.q.range ?_)
    | (go_at_call 10; (with_reducible refine (HR2.out _ Y.k.z).mono ?_); rintro e w3 ⟨rfl, hb⟩; replace Y := Y.on hb; clear hb)
    | (refine store_d (.tmp 11) (.tmp 25) rfl rfl w3.heap.size 0 rfl R rfl HQL.out (dg_zero w3 _).there ?_; refine Hash.gen_world (Pq := fun W => K4 w W w1.heap.size w3.heap.size a b R R) (G := fun W => wpList _ _ _ _ _ W) ⟨Y.on (new_dig w3 HQL.out _).1, (new_dig w3 HQL.out _).2⟩ ?_; clear Y; intro w4 Y)
    | (refine load_d 50 rfl rfl (.tmp 4) rfl w.heap.size 0 rfl a HA.out Y.k.k.p.range ?_)
    | (go_at_call 23; (with_reducible refine (HE1.out _ Y.k.k.z).mono ?_); rintro e w5 ⟨rfl, hb⟩; replace Y := Y.on hb; clear hb)
    | (refine load_d 53 rfl rfl (.tmp 6) rfl (w.heap.size + 1) 0 rfl b HB.out Y.k.k.q.range ?_)
    | (go_at_call 23; (with_reducible refine (HE2.out _ Y.k.k.z).mono ?_); rintro e w6 ⟨rfl, hb⟩; replace Y := Y.on hb; clear hb)
    | ((with_reducible refine at_slot 56 rfl ?_); refine QTail.loadG (by rfl) 23 (.tmp 9) rfl w1.heap.size 0 rfl (R.map bv) _ Y.k.r.range und_d rfl (info_d HRL.out) ?_)
    | ((with_reducible refine at_slot 57 rfl ?_); refine QTail.loadG (by rfl) 23 (.tmp 11) rfl w3.heap.size 0 rfl (R.map bv) _ Y.s.range und_d rfl (info_d HQL.out) ?_)
    | (go_at_call 9; (with_reducible refine (HS.out _ Y.k.k.z).mono ?_); rintro e w7 ⟨rfl, hb⟩; replace Y := Y.on hb; clear hb))
  go_ret
  exact ⟨rfl, Y.k.k.z⟩

set_option maxRecDepth 100000 in
set_option maxHeartbeats 4000000 in
theorem bin_coll (a s b t R X X2 : List UInt8) (ha : a.length = 16) (hb : b.length = 16) (hrl : R.length = 16) (w : World)
    (hS : ∀ W, Below w.heap.size w W → Calls Tryd.prog 9 #[] W (GivesB true W))
    (hR1 : ∀ W, Below w.heap.size w W → Calls Tryd.prog 10 #[dv a, .string ⟨s.toArray⟩] W (GivesDE R 0 W)) (hR2 : ∀ W, Below w.heap.size w W → Calls Tryd.prog 10 #[dv b, .string ⟨t.toArray⟩] W (GivesDE R 0 W))
    (hE1 : ∀ W, Below w.heap.size w W → Calls Tryd.prog 23 #[dv a, .string ⟨s.toArray⟩] W (GivesT X W)) (hE2 : ∀ W, Below w.heap.size w W → Calls Tryd.prog 23 #[dv b, .string ⟨t.toArray⟩] W (GivesT X2 W))
    (hx : ¬ X = X2) (hO1 : ∀ W, Below w.heap.size w W → Calls Tryd.prog 24 #[.int .i64 5, .slice (some ⟨W.heap.size, 0, none⟩) 1 1] (W.alloc (.cells #[.string ⟨X.toArray⟩] 9)) (fun e w' => e = .returned (.agg (R.map bv).toArray) ∧ Below W.heap.size W w'))
    (hO2 : ∀ W, Below w.heap.size w W → Calls Tryd.prog 24 #[.int .i64 5, .slice (some ⟨W.heap.size, 0, none⟩) 1 1] (W.alloc (.cells #[.string ⟨X2.toArray⟩] 9)) (fun e w' => e = .returned (.agg (R.map bv).toArray) ∧ Below W.heap.size W w'))
     : Calls Tryd.prog 7 #[dv a, .string ⟨s.toArray⟩, dv b, .string ⟨t.toArray⟩] w (GivesB true w) := by
  have Y := k2_new w ha hb 23 23
  have HS := Lib.hid hS
  have HR1 := Lib.hid hR1
  have HR2 := Lib.hid hR2
  have HE1 := Lib.hid hE1
  have HE2 := Lib.hid hE2
  have HA := Lib.hid ha
  have HB := Lib.hid hb
  have HRL := Lib.hid hrl
  have HQL := Lib.hid hrl
  clear hS hR1 hR2 hE1 hE2
  have E1 : ∀ W, (Op.equalIn 10000 23 (.agg (R.map bv).toArray) (.agg (R.map bv).toArray)).run Tryd.prog W = .ok true W := fun W => by
    have := Mk.eq_d R R hrl hrl W
    rwa [show (R == R) = true by simp] at this
  clear ha hb hrl
  have HO1 := Lib.hid hO1
  have HO2 := Lib.hid hO2
  clear hO1 hO2
  have hne := strNe hx
  clear hx
  unfold dv
  go_enter Tryd.func7, Tryd.ntmps7
  go_wp2_with (first
    | (refine load_d 16 rfl rfl (.tmp 4) rfl w.heap.size 0 rfl a HA.out Y.p.range ?_)
    | (go_at_call 10; (with_reducible refine (HR1.out _ Y.z).mono ?_); rintro e w1 ⟨rfl, hb⟩; replace Y := Y.on hb; clear hb)
    | (refine store_d (.tmp 9) (.tmp 19) rfl rfl w1.heap.size 0 rfl R rfl HRL.out (dg_zero w1 _).there ?_; refine Hash.gen_world (Pq := fun W => K3 w W w1.heap.size a b R) (G := fun W => wpList _ _ _ _ _ W) ⟨Y.on (new_dig w1 HRL.out _).1, (new_dig w1 HRL.out _).2⟩ ?_; clear Y; intro w2 Y)
    | (refine load_d 22 rfl rfl (.tmp 6) rfl (w.heap.size + 1) 0 rfl b HB.out Y.k.q.range ?_)
    | (go_at_call 10; (with_reducible refine (HR2.out _ Y.k.z).mono ?_); rintro e w3 ⟨rfl, hb⟩; replace Y := Y.on hb; clear hb)
    | (refine store_d (.tmp 11) (.tmp 25) rfl rfl w3.heap.size 0 rfl R rfl HQL.out (dg_zero w3 _).there ?_; refine Hash.gen_world (Pq := fun W => K4 w W w1.heap.size w3.heap.size a b R R) (G := fun W => wpList _ _ _ _ _ W) ⟨Y.on (new_dig w3 HQL.out _).1, (new_dig w3 HQL.out _).2⟩ ?_; clear Y; intro w4 Y)
    | (refine load_d 50 rfl rfl (.tmp 4) rfl w.heap.size 0 rfl a HA.out Y.k.k.p.range ?_)
    | (go_at_call 23; (with_reducible refine (HE1.out _ Y.k.k.z).mono ?_); rintro e w5 ⟨rfl, hb⟩; replace Y := Y.on hb; clear hb)
    | (refine load_d 53 rfl rfl (.tmp 6) rfl (w.heap.size + 1) 0 rfl b HB.out Y.k.k.q.range ?_)
    | (go_at_call 23; (with_reducible refine (HE2.out _ Y.k.k.z).mono ?_); rintro e w6 ⟨rfl, hb⟩; replace Y := Y.on hb; clear hb)
    | ((with_reducible refine at_slot 56 rfl ?_); refine QTail.loadG (by rfl) 23 (.tmp 9) rfl w1.heap.size 0 rfl (R.map bv) _ Y.k.r.range und_d rfl (info_d HRL.out) ?_)
    | ((with_reducible refine at_slot 57 rfl ?_); refine QTail.loadG (by rfl) 23 (.tmp 11) rfl w3.heap.size 0 rfl (R.map bv) _ Y.s.range und_d rfl (info_d HQL.out) ?_)
    | (go_at_call 9; (with_reducible refine (HS.out _ Y.k.k.z).mono ?_); rintro e w7 ⟨rfl, hb⟩; replace Y := Y.on hb; clear hb)
    | (go_at_call 24; (with_reducible refine (HO1.out _ Y.k.k.z).mono ?_); rintro e w8 ⟨rfl, hb⟩; replace Y := Y.on hb; clear hb HO1)
    | (go_at_call 24; (with_reducible refine (HO2.out _ Y.k.k.z).mono ?_); rintro e w9 ⟨rfl, hb⟩; replace Y := Y.on hb; clear hb))
  go_ret
  exact ⟨rfl, Y.k.k.z⟩

set_option maxRecDepth 100000 in
set_option maxHeartbeats 4000000 in
theorem bin_diff (a s b t R R2 X X2 : List UInt8) (ha : a.length = 16) (hb : b.length = 16) (hrl : R.length = 16) (hql : R2.length = 16) (w : World)
    (hS : ∀ W, Below w.heap.size w W → Calls Tryd.prog 9 #[] W (GivesB true W))
    (hR1 : ∀ W, Below w.heap.size w W → Calls Tryd.prog 10 #[dv a, .string ⟨s.toArray⟩] W (GivesDE R 0 W)) (hR2 : ∀ W, Below w.heap.size w W → Calls Tryd.prog 10 #[dv b, .string ⟨t.toArray⟩] W (GivesDE R2 0 W))
    (hE1 : ∀ W, Below w.heap.size w W → Calls Tryd.prog 23 #[dv a, .string ⟨s.toArray⟩] W (GivesT X W)) (hE2 : ∀ W, Below w.heap.size w W → Calls Tryd.prog 23 #[dv b, .string ⟨t.toArray⟩] W (GivesT X2 W))
    (hpq : ¬ R = R2) (hx : ¬ X = X2) : Calls Tryd.prog 7 #[dv a, .string ⟨s.toArray⟩, dv b, .string ⟨t.toArray⟩] w (GivesB true w) := by
  have Y := k2_new w ha hb 23 23
  have HS := Lib.hid hS
  have HR1 := Lib.hid hR1
  have HR2 := Lib.hid hR2
  have HE1 := Lib.hid hE1
  have HE2 := Lib.hid hE2
  have HA := Lib.hid ha
  have HB := Lib.hid hb
  have HRL := Lib.hid hrl
  have HQL := Lib.hid hql
  clear hS hR1 hR2 hE1 hE2
  have E1 : ∀ W, (Op.equalIn 10000 23 (.agg (R.map bv).toArray) (.agg (R2.map bv).toArray)).run Tryd.prog W = .ok false W := fun W => by
    have := Mk.eq_d R R2 hrl hql W
    rwa [show (R == R2) = false by simpa using hpq] at this
  have hne := strNe hx
  clear hx ha hb hrl hql hpq
  unfold dv
  go_enter Tryd.func7, Tryd.ntmps7
  go_wp2_with (first
    | (refine load_d 16 rfl rfl (.tmp 4) rfl w.heap.size 0 rfl a HA.out Y.p.range ?_)
    | (go_at_call 10; (with_reducible refine (HR1.out _ Y.z).mono ?_); rintro e w1 ⟨rfl, hb⟩; replace Y := Y.on hb; clear hb)
    | (refine store_d (.tmp 9) (.tmp 19) rfl rfl w1.heap.size 0 rfl R rfl HRL.out (dg_zero w1 _).there ?_; refine Hash.gen_world (Pq := fun W => K3 w W w1.heap.size a b R) (G := fun W => wpList _ _ _ _ _ W) ⟨Y.on (new_dig w1 HRL.out _).1, (new_dig w1 HRL.out _).2⟩ ?_; clear Y; intro w2 Y)
    | (refine load_d 22 rfl rfl (.tmp 6) rfl (w.heap.size + 1) 0 rfl b HB.out Y.k.q.range ?_)
    | (go_at_call 10; (with_reducible refine (HR2.out _ Y.k.z).mono ?_); rintro e w3 ⟨rfl, hb⟩; replace Y := Y.on hb; clear hb)
    | (refine store_d (.tmp 11) (.tmp 25) rfl rfl w3.heap.size 0 rfl R2 rfl HQL.out (dg_zero w3 _).there ?_; refine Hash.gen_world (Pq := fun W => K4 w W w1.heap.size w3.heap.size a b R R2) (G := fun W => wpList _ _ _ _ _ W) ⟨Y.on (new_dig w3 HQL.out _).1, (new_dig w3 HQL.out _).2⟩ ?_; clear Y; intro w4 Y)
    | (refine load_d 50 rfl rfl (.tmp 4) rfl w.heap.size 0 rfl a HA.out Y.k.k.p.range ?_)
    | (go_at_call 23; (with_reducible refine (HE1.out _ Y.k.k.z).mono ?_); rintro e w5 ⟨rfl, hb⟩; replace Y := Y.on hb; clear hb)
    | (refine load_d 53 rfl rfl (.tmp 6) rfl (w.heap.size + 1) 0 rfl b HB.out Y.k.k.q.range ?_)
    | (go_at_call 23; (with_reducible refine (HE2.out _ Y.k.k.z).mono ?_); rintro e w6 ⟨rfl, hb⟩; replace Y := Y.on hb; clear hb)
    | ((with_reducible refine at_slot 56 rfl ?_); refine QTail.loadG (by rfl) 23 (.tmp 9) rfl w1.heap.size 0 rfl (R.map bv) _ Y.k.r.range und_d rfl (info_d HRL.out) ?_)
    | ((with_reducible refine at_slot 57 rfl ?_); refine QTail.loadG (by rfl) 23 (.tmp 11) rfl w3.heap.size 0 rfl (R2.map bv) _ Y.s.range und_d rfl (info_d HQL.out) ?_)
    | (go_at_call 9; (with_reducible refine (HS.out _ Y.k.k.z).mono ?_); rintro e w7 ⟨rfl, hb⟩; replace Y := Y.on hb; clear hb))
  go_ret
  exact ⟨rfl, Y.k.k.z⟩

set_option maxRecDepth 100000 in
set_option maxHeartbeats 4000000 in
theorem law_bin (a s b t : List UInt8) (ha : a.length = 16) (hb : b.length = 16) (w : World) (ht : TT w) : Calls Tryd.prog 7 #[dv a, .string ⟨s.toArray⟩, dv b, .string ⟨t.toArray⟩] w (GivesB true w) := by
  have Y := k2_new w ha hb 23 23
  have HS := Lib.hid (fun W (h : Below w.heap.size w W) => sanity_any W (ht.on h).p)
  have hz := Hash.sizeS s
  have hz2 := Hash.sizeS t
  have HR1 := Lib.hid (fun W (h : Below w.heap.size w W) => recover_any a s ha W (ht.on h).p)
  have HR2 := Lib.hid (fun W (h : Below w.heap.size w W) => recover_any b t hb W (ht.on h).p)
  have hrl := recI_length a s
  have hql := recI_length b t
  have HA := Lib.hid ha
  have HB := Lib.hid hb
  by_cases h1 : s.length = 560
  · by_cases h2 : t.length = 560
    · have e1 : errI s = 0 := if_pos h1
      have e2 : errI t = 0 := if_pos h2
      have r1 : recI a s = recov a s := if_pos h1
      have r2 : recI b t = recov b t := if_pos h2
      have HE1 := Lib.hid (fun W (h : Below w.heap.size w W) => refEnds_any a s h1 ha W (ht.on h))
      have HE2 := Lib.hid (fun W (h : Below w.heap.size w W) => refEnds_any b t h2 hb W (ht.on h))
      have hO1 : ∀ W, Below w.heap.size w W → Calls Tryd.prog 24 #[.int .i64 5, .slice (some ⟨W.heap.size, 0, none⟩) 1 1] (W.alloc (.cells #[.string ⟨(part (led a s) 35).toArray⟩] 9)) (fun e w' => e = .returned (.agg ((recov a s).map bv).toArray) ∧ Below W.heap.size W w') := fun W h => rOf1 5 _ (by rw [part_length (v := led a s) (n := 35) (fun k hk => adv_length (piece_length h1 hk))]; omega) W (ht.on h)
      have hO2 : ∀ W, Below w.heap.size w W → Calls Tryd.prog 24 #[.int .i64 5, .slice (some ⟨W.heap.size, 0, none⟩) 1 1] (W.alloc (.cells #[.string ⟨(part (led b t) 35).toArray⟩] 9)) (fun e w' => e = .returned (.agg ((recov b t).map bv).toArray) ∧ Below W.heap.size W w') := fun W h => rOf1 5 _ (by rw [part_length (v := led b t) (n := 35) (fun k hk => adv_length (piece_length h2 hk))]; omega) W (ht.on h)
      have HO1 := Lib.hid hO1
      have HO2 := Lib.hid hO2
      have HNE : Hid (¬ recov a s = recov b t → ¬ part (led a s) 35 = part (led b t) 35) := Lib.hid (fun h => same_ends h)
      rw [e1, r1] at HR1
      rw [e2, r2] at HR2
      rw [r1] at hrl
      rw [r2] at hql
      generalize part (led a s) 35 = X at HE1 HO1 HNE
      generalize part (led b t) 35 = X2 at HE2 HO2 HNE
      generalize recov a s = R at *
      generalize recov b t = R2 at *
      by_cases hpq : R = R2
      · subst hpq
        by_cases hx : X = X2
        · subst hx
          exact bin_same a s b t R X ha hb hrl w HS.out HR1.out HR2.out HE1.out HE2.out
        · exact bin_coll a s b t R X X2 ha hb hrl w HS.out HR1.out HR2.out HE1.out HE2.out hx HO1.out HO2.out
      · exact bin_diff a s b t R R2 X X2 ha hb hrl hql w HS.out HR1.out HR2.out HE1.out HE2.out hpq (HNE.out hpq)
    · have e1 : errI s = 0 := if_pos h1
      have e2 : errI t = 1 := if_neg h2
      rw [e1] at HR1
      rw [e2] at HR2
      generalize recI a s = R at *
      generalize recI b t = R2 at *
      have HRL := Lib.hid hrl
      have HQL := Lib.hid hql
      have f1 : ((s.length : Int) == 560) = true := by simp; omega
      have f2 : ((t.length : Int) == 560) = false := by simp; omega
      have f3 : (s.length : Int) = 560 := by omega
      have f4 : ¬ (t.length : Int) = 560 := by omega
      clear ha hb ht e1 e2 hrl hql h1 h2
      unfold dv
      go_enter Tryd.func7, Tryd.ntmps7
      go_wp2_with (first
        | (refine load_d 16 rfl rfl (.tmp 4) rfl w.heap.size 0 rfl a HA.out Y.p.range ?_)
        | (go_at_call 10; (with_reducible refine (HR1.out _ Y.z).mono ?_); rintro e w1 ⟨rfl, hb⟩; replace Y := Y.on hb; clear hb)
        | (refine store_d (.tmp 9) (.tmp 19) rfl rfl w1.heap.size 0 rfl R rfl HRL.out (dg_zero w1 _).there ?_; refine Hash.gen_world (Pq := fun W => K3 w W w1.heap.size a b R) (G := fun W => wpList _ _ _ _ _ W) ⟨Y.on (new_dig w1 HRL.out _).1, (new_dig w1 HRL.out _).2⟩ ?_; clear Y; intro w2 Y)
        | (refine load_d 22 rfl rfl (.tmp 6) rfl (w.heap.size + 1) 0 rfl b HB.out Y.k.q.range ?_)
        | (go_at_call 10; (with_reducible refine (HR2.out _ Y.k.z).mono ?_); rintro e w3 ⟨rfl, hb⟩; replace Y := Y.on hb; clear hb)
        | (refine store_d (.tmp 11) (.tmp 25) rfl rfl w3.heap.size 0 rfl R2 rfl HQL.out (dg_zero w3 _).there ?_; refine Hash.gen_world (Pq := fun W => K4 w W w1.heap.size w3.heap.size a b R R2) (G := fun W => wpList _ _ _ _ _ W) ⟨Y.on (new_dig w3 HQL.out _).1, (new_dig w3 HQL.out _).2⟩ ?_; clear Y; intro w4 Y)
        | (go_at_call 9; (with_reducible refine (HS.out _ Y.k.k.z).mono ?_); rintro e w7 ⟨rfl, hb⟩; replace Y := Y.on hb; clear hb))
      go_ret
      exact ⟨rfl, Y.k.k.z⟩
  · by_cases h2 : t.length = 560
    · have e1 : errI s = 1 := if_neg h1
      have e2 : errI t = 0 := if_pos h2
      rw [e1] at HR1
      rw [e2] at HR2
      generalize recI a s = R at *
      generalize recI b t = R2 at *
      have HRL := Lib.hid hrl
      have HQL := Lib.hid hql
      have f1 : ((s.length : Int) == 560) = false := by simp; omega
      have f2 : ((t.length : Int) == 560) = true := by simp; omega
      have f3 : ¬ (s.length : Int) = 560 := by omega
      have f4 : (t.length : Int) = 560 := by omega
      clear ha hb ht e1 e2 hrl hql h1 h2
      unfold dv
      go_enter Tryd.func7, Tryd.ntmps7
      go_wp2_with (first
        | (refine load_d 16 rfl rfl (.tmp 4) rfl w.heap.size 0 rfl a HA.out Y.p.range ?_)
        | (go_at_call 10; (with_reducible refine (HR1.out _ Y.z).mono ?_); rintro e w1 ⟨rfl, hb⟩; replace Y := Y.on hb; clear hb)
        | (refine store_d (.tmp 9) (.tmp 19) rfl rfl w1.heap.size 0 rfl R rfl HRL.out (dg_zero w1 _).there ?_; refine Hash.gen_world (Pq := fun W => K3 w W w1.heap.size a b R) (G := fun W => wpList _ _ _ _ _ W) ⟨Y.on (new_dig w1 HRL.out _).1, (new_dig w1 HRL.out _).2⟩ ?_; clear Y; intro w2 Y)
        | (refine load_d 22 rfl rfl (.tmp 6) rfl (w.heap.size + 1) 0 rfl b HB.out Y.k.q.range ?_)
        | (go_at_call 10; (with_reducible refine (HR2.out _ Y.k.z).mono ?_); rintro e w3 ⟨rfl, hb⟩; replace Y := Y.on hb; clear hb)
        | (refine store_d (.tmp 11) (.tmp 25) rfl rfl w3.heap.size 0 rfl R2 rfl HQL.out (dg_zero w3 _).there ?_; refine Hash.gen_world (Pq := fun W => K4 w W w1.heap.size w3.heap.size a b R R2) (G := fun W => wpList _ _ _ _ _ W) ⟨Y.on (new_dig w3 HQL.out _).1, (new_dig w3 HQL.out _).2⟩ ?_; clear Y; intro w4 Y)
        | (go_at_call 9; (with_reducible refine (HS.out _ Y.k.k.z).mono ?_); rintro e w7 ⟨rfl, hb⟩; replace Y := Y.on hb; clear hb))
      go_ret
      exact ⟨rfl, Y.k.k.z⟩
    · have e1 : errI s = 1 := if_neg h1
      have e2 : errI t = 1 := if_neg h2
      rw [e1] at HR1
      rw [e2] at HR2
      generalize recI a s = R at *
      generalize recI b t = R2 at *
      have HRL := Lib.hid hrl
      have HQL := Lib.hid hql
      have f1 : ((s.length : Int) == 560) = false := by simp; omega
      have f2 : ((t.length : Int) == 560) = false := by simp; omega
      have f3 : ¬ (s.length : Int) = 560 := by omega
      have f4 : ¬ (t.length : Int) = 560 := by omega
      clear ha hb ht e1 e2 hrl hql h1 h2
      unfold dv
      go_enter Tryd.func7, Tryd.ntmps7
      go_wp2_with (first
        | (refine load_d 16 rfl rfl (.tmp 4) rfl w.heap.size 0 rfl a HA.out Y.p.range ?_)
        | (go_at_call 10; (with_reducible refine (HR1.out _ Y.z).mono ?_); rintro e w1 ⟨rfl, hb⟩; replace Y := Y.on hb; clear hb)
        | (refine store_d (.tmp 9) (.tmp 19) rfl rfl w1.heap.size 0 rfl R rfl HRL.out (dg_zero w1 _).there ?_; refine Hash.gen_world (Pq := fun W => K3 w W w1.heap.size a b R) (G := fun W => wpList _ _ _ _ _ W) ⟨Y.on (new_dig w1 HRL.out _).1, (new_dig w1 HRL.out _).2⟩ ?_; clear Y; intro w2 Y)
        | (refine load_d 22 rfl rfl (.tmp 6) rfl (w.heap.size + 1) 0 rfl b HB.out Y.k.q.range ?_)
        | (go_at_call 10; (with_reducible refine (HR2.out _ Y.k.z).mono ?_); rintro e w3 ⟨rfl, hb⟩; replace Y := Y.on hb; clear hb)
        | (refine store_d (.tmp 11) (.tmp 25) rfl rfl w3.heap.size 0 rfl R2 rfl HQL.out (dg_zero w3 _).there ?_; refine Hash.gen_world (Pq := fun W => K4 w W w1.heap.size w3.heap.size a b R R2) (G := fun W => wpList _ _ _ _ _ W) ⟨Y.on (new_dig w3 HQL.out _).1, (new_dig w3 HQL.out _).2⟩ ?_; clear Y; intro w4 Y)
        | (go_at_call 9; (with_reducible refine (HS.out _ Y.k.k.z).mono ?_); rintro e w7 ⟨rfl, hb⟩; replace Y := Y.on hb; clear hb))
      go_ret
      exact ⟨rfl, Y.k.k.z⟩
end Wo
end Go.Proofs.YtmabbiemjeeicaaDoor
