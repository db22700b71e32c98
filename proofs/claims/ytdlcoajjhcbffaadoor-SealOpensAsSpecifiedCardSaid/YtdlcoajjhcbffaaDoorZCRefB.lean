/- The reference's Block. Conditions: those that each theorem names. -/
import Derived.Test.YtdlcoajjhcbffaaDoorZCRefS
import Derived.Test.YtdlcoajjhcbffaaDoorZCRefR
import Derived.Test.YtdlcoajjhcbffaaDoorZCUtil
namespace Go.Proofs.YtdlcoajjhcbffaaDoor
open Go.RowKit
namespace Cha

theorem fresh_list (w : World) (cs : List Value) (t : TypeId) : ∀ (j : Nat) (u : Value), cs[j]? = some u → (w.alloc (.cells cs.toArray t)).cell? ((⟨w.heap.size, 0, none⟩ : Addr).add j) = some u := by
  intro j u h
  have hc := (arr_new w cs.toArray t).cells j u (by simpa using h)
  rw [Addr.add_mid, Nat.zero_add]
  exact hc
theorem LawS.drewN {w W : World} {g k : Nat} {l r : List Nat} (h : LawS w W g k l r) (n : Nat) : LawS w (W.drewN n) g k l r :=
  ⟨h.st.drew n, h.rd.drew n, ⟨h.below.os, h.below.tape, h.below.output, h.below.size, h.below.block⟩⟩
theorem flat_take {ms : List Nat} {k : Nat} (hk : k < ms.length) : (ms.take (k + 1)).flatMap wordBytes = (ms.take k).flatMap wordBytes ++ wordBytes (ms.getD k 0) := by
  rw [List.take_add_one, List.getElem?_eq_getElem hk, List.flatMap_append, List.getD_eq_getElem?_getD, List.getElem?_eq_getElem hk]
  simp
theorem bytes_word {z : Nat} (h : z < 4294967296) : [Value.int .u8 ((z : Int) % 256), .int .u8 ((z : Int) / 256 % 256), .int .u8 ((z : Int) / 65536 % 256), .int .u8 ((z : Int) / 16777216)] = (wordBytes z).map bv := by
  have e3 : (z : Int) / 16777216 = (z : Int) / 16777216 % 256 := by omega
  rw [e3]
  show _ = [bv (u8 z), bv (u8 (z / 256)), bv (u8 (z / 65536)), bv (u8 (z / 16777216))]
  rw [← bv_u8', ← bv_u8, ← bv_u8, ← bv_u8]
  rfl
theorem belowN {B : Nat} {w W : World} (h : Below B w W) (n : Nat) : Below B w (W.drewN n) := ⟨h.os, h.tape, h.output, h.size, h.block⟩

set_option maxRecDepth 100000 in
set_option maxHeartbeats 2000000 in
theorem refBlock_ok (key nonce : List UInt8) (ctr : Nat) (w : World) (hk : key.length = 32) (hn : nonce.length = 12) (hc : ctr < 4294967296) :
    Calls Tryd.prog 43 #[.string ⟨key.toArray⟩, .int .u32 (ctr : Int), .string ⟨nonce.toArray⟩] w (GivesE (blk (start key ctr nonce)) 0 w) := by
  have E1 := Lib.hid (fun W => refState_ok key nonce ctr W hk hn)
  have hok := start_ok key nonce hc
  have E2 := Lib.hid (fun W => refRounds_any (start key ctr nonce) W hok)
  have HL := Lib.hid hok.len
  have HR := Lib.hid hok.rounds.len
  have HM := Lib.hid (fun i (hi : i < 16) => mixed_at hok hi)
  have HML := Lib.hid (mixed_length hok)
  have HB : Hid (blk (start key ctr nonce) = (mixed (start key ctr nonce)).flatMap wordBytes) := Lib.hid rfl
  have HBL := Lib.hid (blk_length hok)
  obtain ⟨i0, hi, hz0, hz1, hz2⟩ := info_parts byte_info
  have hz := zero16
  have Z := Below.refl w.heap.size w
  generalize start key ctr nonce = l at *
  generalize mixed l = ms at *
  generalize rounds l = r at *
  generalize blk l = bs at *
  clear hk hn hc hok
  go_enter Tryd.func43, Tryd.ntmps43
  go_wp2_with (first
    | (go_at_call 42; (with_reducible refine (E1.out _).mono ?_); rintro e w1 ⟨rfl, hb⟩; replace Z := bcj Z hb; clear hb)
    | ((with_reducible refine at_store 63 (.tmp 8) (.tmp 19) rfl ?_); refine wpList_store_mid rfl 63 (.tmp 8) (.tmp 19) rfl w1.heap.size 0 (l.map wv).toArray rfl rfl (fresh16W w1 l HL.out _) (i16A HL.out) (words_one _) ?_; refine gen_world (Pq := fun W => HasS w W w1.heap.size l) (G := fun W => wpList _ _ _ _ _ W) (hasS_new Z l HL.out _) ?_; intro w2 S2; clear Z)
    | ((with_reducible refine at_slot 24 rfl ?_); refine wpList_load_mid rfl 63 (.tmp 8) rfl w1.heap.size 0 rfl (l.map wv) _ S2.arr.range und16 rfl (i16 HL.out) ?_)
    | (go_at_call 62; (with_reducible refine (E2.out _).mono ?_); rintro e w3 ⟨rfl, hb⟩; replace S2 := S2.on hb; clear hb)
    | ((with_reducible refine at_store 63 (.tmp 10) (.tmp 25) rfl ?_); refine wpList_store_mid rfl 63 (.tmp 10) (.tmp 25) rfl w3.heap.size 0 (r.map wv).toArray rfl rfl (fresh16W w3 r HR.out _) (i16A HR.out) (words_one _) ?_; refine gen_world (Pq := fun W => LawS w W w1.heap.size w3.heap.size l r) (G := fun W => wpList _ _ _ _ _ W) (lawS_new S2 r HR.out _) ?_; intro w4 S4; clear S2))
  revert S4
  generalize w1.heap.size = g1
  generalize w3.heap.size = g2
  intro S4
  have S5 := S4
  have hg1 : g1 < w4.heap.size := S4.st.size (by omega)
  have hg2 : g2 < w4.heap.size := S4.rd.size (by omega)
  have HG1 := Lib.hid hg1
  have HG2 := Lib.hid hg2
  clear S4 hg1 hg2 hz
  go_loopw [11, 12] (fun v iv wr => ∃ (k : Nat), k ≤ 16 ∧ iv = .int .i64 (k : Int) ∧ wr.ownsRow w4.heap.size 5 1 v (4 * k) (((ms.take k).flatMap wordBytes).map bv) ∧ Below w4.heap.size w4 wr) (fun _ iv _ => (16 - intOf iv).toNat)
  case atStart => exact ⟨0, by omega, rfl, World.ownsRow_nil _ _ _ _, Below.refl _ _⟩
  case round =>
    obtain ⟨k, hk, rfl, hown, hb⟩ := hrel
    by_cases hlt : k < 16
    · have ca : wr.cell? ⟨g1, k, none⟩ = some (.int .u32 ((l.getD k 0 : Nat) : Int)) := ((S5.st.below hb HG1.out).at_ (i := k) (u := wv (l.getD k 0)) (by rw [List.getElem?_map, List.getD_eq_getElem?_getD, List.getElem?_eq_getElem (by rw [HL.out]; exact hlt)]; rfl)).1
      have cb : wr.cell? ⟨g2, k, none⟩ = some (.int .u32 ((r.getD k 0 : Nat) : Int)) := ((S5.rd.below hb HG2.out).at_ (i := k) (u := wv (r.getD k 0)) (by rw [List.getElem?_map, List.getD_eq_getElem?_getD, List.getElem?_eq_getElem (by rw [HR.out]; exact hlt)]; rfl)).1
      have hm := HM.out k hlt
      have hfl := flat_take (ms := ms) (k := k) (by rw [HML.out]; exact hlt)
      rw [hm] at hfl
      have hzl : add (r.getD k 0) (l.getD k 0) < 4294967296 := add_lt _ _
      have hsum : IntKind.u32.wrap ((l.getD k 0 : Nat) + (r.getD k 0 : Nat) : Int) = ((add (r.getD k 0) (l.getD k 0) : Nat) : Int) := by rw [add32]; unfold add; rw [Nat.add_comm]
      generalize add (r.getD k 0) (l.getD k 0) = z at hsum hfl hzl
      generalize r.getD k 0 = y at cb hsum
      generalize l.getD k 0 = x at ca hsum
      have hbw := bytes_word hzl
      have fin : ∀ v' w' nq, w'.ownsRow w4.heap.size 5 1 v' (4 * k + 4) (((ms.take k).flatMap wordBytes).map bv ++ (wordBytes z).map bv) → ((wr.drewN nq).alloc (.cells ((wordBytes z).map bv).toArray 5)).grownBy w' u11.ownBlock →
          ∃ (j : Nat), j ≤ 16 ∧ Value.int .i64 ((k : Int) + 1) = .int .i64 (j : Int) ∧ w'.ownsRow w4.heap.size 5 1 v' (4 * j) (((ms.take j).flatMap wordBytes).map bv) ∧ Below w4.heap.size w4 w' := by
        intro v' w' nq h1 h2
        refine ⟨k + 1, by omega, by go_num, by rw [hfl, List.map_append]; exact h1, ?_⟩
        have hb2 := belowN hb nq
        exact (hb2.alloc hb2.size _).grown h2 (by have := hb2.size; simp at this ⊢; omega) (fun k hk => (hown.lt k hk).1)
      have FIN := Lib.hid fin
      have HBW := Lib.hid hbw
      have y0 : (0 : Int) ≤ (k : Int) := by omega
      have y1 : (k : Int) < 16 := by omega
      have yz : (z : Int) < 4294967296 := by omega
      have yz0 : (0 : Int) ≤ (z : Int) := by omega
      clear fin hm hfl hbw hzl hlt
      go_wp2
      go_quiet (fail)
      have hown2 : (wr.drewN nq).ownsRow w4.heap.size 5 1 u11 (4 * k) (((ms.take k).flatMap wordBytes).map bv) := hown
      go_wp2_with (at_builtin; refine wpList_append_own _ rfl (.tmp 37) (.tmp 49) _ rfl w4.heap.size 5 i0 (.int .u8 0) 1 1 Tryd.underlying47 hi hz0 hz1 hz2 rfl (by decide) _ (4 * k) _ rfl (hown2.alloc _) ⟨wr.heap.size, 0, none⟩ 4 4 ((wordBytes z).map bv) rfl rfl (by rw [← HBW.out]; exact fresh_list _ _ _) (bytes_one _) (by unfold maxLen; omega) (by omega) (by have := hb.size; simp; omega) ?_; intro v5 w5 ho5 hg5 _; rw [HBW.out] at hg5)
      go_roundw
      case rel => exact FIN.out _ _ _ ho5 hg5
      case measure => simp [intOf]; omega
    · have hk16 : k = 16 := by omega
      obtain ⟨g, c, rfl, hg1, hg2, hg3, hg4⟩ := own_form hown (by omega)
      have hown2 : wr.ownsRow w4.heap.size 5 1 (.slice (some ⟨g, 0, none⟩) (4 * k) c) (4 * k) (bs.map bv) := by
        rw [List.take_of_length_le (by rw [HML.out, hk16]; exact Nat.le_refl _), ← HB.out] at hown; exact hown
      have hcv := convO hown2 (by rw [HBL.out, hk16])
      have z0 : ¬ (k : Int) < 16 := by omega
      have HBE := Lib.hid (bcj S5.below hb)
      clear hown hown2 hb hk16 hlt hk
      go_wp2
      go_ret2
      exact ⟨rfl, HBE.out⟩

set_option maxRecDepth 100000 in
set_option maxHeartbeats 1000000 in
theorem refBlock_err (key nonce : List UInt8) (ctr : Nat) (w : World) (h : ¬ (key.length = 32 ∧ nonce.length = 12)) :
    Calls Tryd.prog 43 #[.string ⟨key.toArray⟩, .int .u32 (ctr : Int), .string ⟨nonce.toArray⟩] w (GivesE [] 1 w) := by
  have E1 := Lib.hid (fun W => refState_err key nonce ctr W h)
  have hz := zero16
  have Z := Below.refl w.heap.size w
  clear h
  go_enter Tryd.func43, Tryd.ntmps43
  go_wp2_with (first
    | (go_at_call 42; (with_reducible refine (E1.out _).mono ?_); rintro e w1 ⟨rfl, hb⟩; replace Z := bcj Z hb; clear hb)
    | ((with_reducible refine at_store 63 (.tmp 8) (.tmp 19) rfl ?_); refine wpList_store_mid rfl 63 (.tmp 8) (.tmp 19) rfl w1.heap.size 0 z16 rfl rfl (fresh16W w1 zN rfl _) (by kernel_rfl) (words_one zN) ?_; refine gen_world (Pq := fun W => HasS w W w1.heap.size zN) (G := fun W => wpList _ _ _ _ _ W) (hasS_new Z zN rfl _) ?_; intro w2 S2; clear Z))
  go_ret2
  exact ⟨rfl, S2.below⟩

end Cha
end Go.Proofs.YtdlcoajjhcbffaaDoor
