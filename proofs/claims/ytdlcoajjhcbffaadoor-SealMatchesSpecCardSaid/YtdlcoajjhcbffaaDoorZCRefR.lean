/- The reference's ten double rounds, and their inverse. Condition: the state has sixteen words of 32 bits. -/
import Derived.Test.YtdlcoajjhcbffaaDoorZCRefO
namespace Go.Proofs.YtdlcoajjhcbffaaDoor
open Go.RowKit
namespace Cha

theorem RoundS.on {w W W2 : World} {l : List Nat} (h : RoundS w W l) (hb : Below W.heap.size W W2) : RoundS w W2 l := by
  obtain ⟨ys, hy⟩ := h.res
  exact ⟨h.arr.below hb (h.arr.size (by omega)), ⟨ys, hy.below hb (hy.size (by omega))⟩, h.ok, h.below.trans (hb.mono h.below.size)⟩
/-- The state in the first new block, room for the result in the second, the order in blocks from g on. -/
structure RefR (w W : World) (g : Nat) (l : List Nat) : Prop where
  st : RoundS w W l
  ord : Ord8 W g
  far : w.heap.size + 1 < g
theorem RefR.start {w W W2 : World} {l : List Nat} (h : RoundS w W l) (ho : Ord8 W2 W.heap.size) (hb : Below W.heap.size W W2) : RefR w W2 W.heap.size l := by
  obtain ⟨ys, hy⟩ := h.res
  exact ⟨h.on hb, ho, hy.size (by omega)⟩
theorem RefR.drew {w W : World} {g : Nat} {l : List Nat} (h : RefR w W g l) (n : Nat) : RefR w (W.drewN n) g l := by
  obtain ⟨ys, hy⟩ := h.st.res
  exact ⟨⟨h.st.arr.drew n, ⟨ys, hy.drew n⟩, h.st.ok, ⟨h.st.below.os, h.st.below.tape, h.st.below.output, h.st.below.size, h.st.below.block⟩⟩,
    ⟨fun k hk => (h.ord.rows k hk).drew n, h.ord.top.drew n, h.ord.lt⟩, h.far⟩
theorem RefR.on {w W W2 : World} {g : Nat} {l : List Nat} (h : RefR w W g l) (hb : Below W.heap.size W W2) : RefR w W2 g l := ⟨h.st.on hb, h.ord.below hb, h.far⟩
theorem RefR.put {w W : World} {g : Nat} {l l2 : List Nat} (h : RefR w W g l) (h2 : Ok l2) : RefR w (W.setCells w.heap.size 0 (l2.map wv).toArray.toList) g l2 := by
  obtain ⟨ys, hy⟩ := h.st.res
  have hf := h.far
  refine ⟨⟨h.st.arr.over (by rw [List.length_map]; exact h2.len), ⟨ys, hy.aside (by omega) 0⟩, h2, h.st.below.trans (below_cells (Nat.le_refl _) _ _ _)⟩,
    ⟨fun k hk => (h.ord.rows k hk).aside (by omega) 0, h.ord.top.aside (by omega) 0, ?_⟩, hf⟩
  exact Nat.lt_of_lt_of_le h.ord.lt (below_cells (B := w.heap.size) (Nat.le_refl _) _ _ W).size
theorem fold_next (f : List Nat → Nat × Nat × Nat × Nat → List Nat) (l : List Nat) {j : Nat} (hj : j < 8) : (places.take (j + 1)).foldl f l = f ((places.take j).foldl f l) (place j) := by
  have e : places[j]? = some (place j) := by
    unfold place
    rw [List.getD_eq_getElem?_getD, List.getElem?_eq_getElem (by show j < 8; exact hj)]; rfl
  rw [List.take_add_one, e]
  simp
theorem fold_prev (f : List Nat → Nat × Nat × Nat × Nat → List Nat) (l : List Nat) {m j : Nat} (hj : m + j = 7) : (places.reverse.take (j + 1)).foldl f l = f ((places.reverse.take j).foldl f l) (place m) := by
  have e : places.reverse[j]? = some (place m) := by
    rw [List.getElem?_reverse (by show j < 8; omega)]
    unfold place
    rw [show places.length - 1 - j = m by show 8 - 1 - j = m; omega, List.getD_eq_getElem?_getD, List.getElem?_eq_getElem (by show m < 8; omega)]; rfl
  rw [List.take_add_one, e]
  simp
theorem RefR.there {w W : World} {g : Nat} {l l2 : List Nat} (h : RefR w W g l) (h2 : Ok l2) : W.there w.heap.size 0 (l2.map wv).toArray.size := by
  rw [show (l2.map wv).toArray.size = 16 by rw [List.size_toArray, List.length_map]; exact h2.len]; exact h.st.arr.there

set_option maxRecDepth 100000 in
set_option maxHeartbeats 2000000 in
theorem refRounds_any (l0 : List Nat) (w : World) (h : Ok l0) :
    Calls Tryd.prog 62 #[.agg (l0.map wv).toArray] w (GivesA ((rounds l0).map wv) w) := by
  have S0 := round_start (w := w) h 63 63
  obtain ⟨lx, hlx⟩ : ∃ lx, lx = rounds l0 := ⟨_, rfl⟩
  rw [← hlx]
  have HX := Lib.hid hlx
  have hz := zero16
  clear hlx h
  go_enter Tryd.func62, Tryd.ntmps62
  go_wp2_with (go_at_call 69; refine gen_world (G := fun W => Calls _ _ _ W _) (Pq := fun W => RoundS w W l0) S0 ?_; clear S0; intro w0 S0; (with_reducible refine (order_any _).mono ?_); rintro e w1 ⟨rfl, ho, hb⟩; have S1 := RefR.start S0 ho hb; clear ho hb S0)
  clear hz
  revert S1
  generalize w0.heap.size = g
  intro S1
  go_loopw [4] (fun iv wr => ∃ (k : Nat), k ≤ 10 ∧ iv = .int .i64 (k : Int) ∧ RefR w wr g (times double k l0)) (fun iv _ => (10 - intOf iv).toNat)
  case atStart => exact ⟨0, by omega, rfl, S1⟩
  case round =>
    obtain ⟨k, hk, rfl, hr⟩ := hrel
    clear S1
    by_cases hlt : k < 10
    · have HD : Hid (times double (k + 1) l0 = (places.take 8).foldl turn (times double k l0)) := Lib.hid rfl
      generalize times double k l0 = l1 at hr HD
      have z0 : (k : Int) < 10 := by omega
      have z1 : (0 : Int) ≤ (k : Int) := by omega
      go_wp2
      obtain ⟨wo, hwo⟩ : ∃ wo : World, wo = wr := ⟨_, rfl⟩
      rw [← hwo] at hr ⊢
      clear hwo
      go_loopw [5] (fun iv wq => ∃ (j : Nat), j ≤ 8 ∧ iv = .int .i64 (j : Int) ∧ RefR w wq g ((places.take j).foldl turn l1)) (fun iv _ => (8 - intOf iv).toNat)
      case atStart => exact ⟨0, by omega, rfl, hr⟩
      case round =>
        obtain ⟨j, hj, rfl, hq⟩ := hrel
        clear hr
        by_cases hjl : j < 8
        · have HT := Lib.hid (fold_next turn l1 hjl)
          have hap := place_apart hjl
          obtain ⟨c0, c1, c2, c3, c4⟩ := hq.ord.at_ hjl
          generalize (places.take j).foldl turn l1 = l at hq HT
          generalize hpl : place j = p at hap c1 c2 c3 c4
          rw [hpl] at HT
          clear hpl
          obtain ⟨a, b, c, d⟩ := p
          simp only at c1 c2 c3 c4
          have y0 : (j : Int) < 8 := by omega
          have y1 : (0 : Int) ≤ (j : Int) := by omega
          have HP := Lib.hid hap
          have HO := Lib.hid hq.st.ok
          have hrg := hq.st.arr.range
          have hn := fun nq => hq.drew nq
          have HN := Lib.hid hn
          clear hap hn hq hjl
          go_wp2
          have HO2 := Lib.hid (HO.out.turn (a, b, c, d))
          refine QTail.drawn 25 (by kernel_rfl) (by kernel_rfl) ?_
          simp only [List.take_succ_cons, List.take_zero, List.drop_succ_cons, List.drop_zero]
          refine QTail.load rfl 63 (.tmp 1) rfl w.heap.size 0 rfl (l.map wv) _ hrg und16 rfl (i16 HO.out.len) ?_
          quiet_step (fail)
          repeat (go_big_quiet_step (fail))
          refine wpQuiet_nil ?_
          intro _ hw'
          obtain ⟨nq, rfl⟩ := hw'
          have S2 := HN.out nq
          clear hrg c0 c1 c2 c3 c4 HN
          revert S2
          generalize wr.drewN nq = w2
          intro S2
          go_wp2_with (first
            | (go_at_call 70; (with_reducible refine (refQuarter_any l a b c d _ HO.out HP.out).mono ?_); rintro e w3 ⟨rfl, hb⟩; have S3 := S2.on hb; clear hb S2)
            | ((with_reducible refine at_store 63 (.tmp 1) (.tmp 42) rfl ?_); refine wpList_store_mid rfl 63 (.tmp 1) (.tmp 42) rfl w.heap.size 0 ((turn l (a, b, c, d)).map wv).toArray rfl rfl (S3.there HO2.out) (i16A HO2.out.len) (words_one _) ?_; refine gen_world (Pq := fun W => RefR w W g (turn l (a, b, c, d))) (G := fun W => wpList _ _ _ _ _ W) (S3.put HO2.out) ?_; intro w4 S4; clear S3))
          go_roundw
          case rel => exact ⟨j + 1, by omega, by go_num, by rw [HT.out]; exact S4⟩
          case measure => simp [intOf]; omega
        · obtain rfl : j = 8 := by omega
          have y0 : ¬ ((8 : Nat) : Int) < 8 := by omega
          have HQ := Lib.hid hq
          clear hq hjl
          go_wp2
          go_roundw
          case rel => exact ⟨k + 1, by omega, by go_num, by rw [HD.out]; exact HQ.out⟩
          case measure => simp [intOf]; omega
    · have hk10 : k = 10 := by omega
      have z0 : ¬ (k : Int) < 10 := by omega
      have S9 : RoundS w wr lx := by rw [HX.out]; have h9 := hr.st; rw [hk10] at h9; exact h9
      obtain ⟨hth, hend⟩ := S9.fin
      have hrg := S9.arr.range
      have HL := Lib.hid S9.ok.len
      have HE := Lib.hid hend
      clear hend S9 hr hk10 hlt hk
      go_wp2_with (first
        | ((with_reducible refine at_slot 43 rfl ?_); refine wpList_load_mid rfl 63 (.tmp 1) rfl w.heap.size 0 rfl (lx.map wv) _ hrg und16 rfl (i16 HL.out) ?_)
        | ((with_reducible refine at_store 63 (.tmp 2) (.tmp 43) rfl ?_); refine wpList_store_mid rfl 63 (.tmp 2) (.tmp 43) rfl (w.heap.size + 1) 0 (lx.map wv).toArray rfl rfl hth (i16A HL.out) (words_one _) ?_))
      refine bodyPost_ret (v := .agg (lx.map wv).toArray) ?_ rfl ⟨rfl, HE.out.2⟩
      simp [results, Tryd.results62, asAddr]
      rw [HE.out.1]

end Cha
end Go.Proofs.YtdlcoajjhcbffaaDoor
