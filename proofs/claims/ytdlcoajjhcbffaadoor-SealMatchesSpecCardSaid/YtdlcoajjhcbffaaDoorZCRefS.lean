/- The reference's word of four bytes and its State. Conditions: those that each theorem names. -/
import Derived.Test.YtdlcoajjhcbffaaDoorZCRefQ
import Derived.Test.YtdlcoajjhcbffaaDoorM5
namespace Go.Proofs.YtdlcoajjhcbffaaDoor
open Go.RowKit
namespace Cha

/-- A number of 32 bits is returned; the memory is as it was. -/
theorem refWord_any (x : List UInt8) (k : Nat) (w : World) (hx : 4 * k + 4 ≤ x.length) :
    Calls Tryd.prog 61 #[.string ⟨(x.drop (4 * k)).toArray⟩] w fun e w' => e = .returned (.int .u32 (word x k : Int)) ∧ ∃ n, w' = w.drewN n := by
  obtain ⟨x0, h0⟩ : ∃ z, x[4 * k]? = some z := ⟨_, List.getElem?_eq_getElem (by omega)⟩
  obtain ⟨x1, h1⟩ : ∃ z, x[4 * k + 1]? = some z := ⟨_, List.getElem?_eq_getElem (by omega)⟩
  obtain ⟨x2, h2⟩ : ∃ z, x[4 * k + 2]? = some z := ⟨_, List.getElem?_eq_getElem (by omega)⟩
  obtain ⟨x3, h3⟩ : ∃ z, x[4 * k + 3]? = some z := ⟨_, List.getElem?_eq_getElem (by omega)⟩
  have g0 := x0.toNat_lt
  have g1 := x1.toNat_lt
  have g2 := x2.toNat_lt
  have g3 := x3.toNat_lt
  have HW : Hid (word x k = x0.toNat + x1.toNat * 256 + x2.toNat * 65536 + x3.toNat * 16777216) := Lib.hid (by
    rw [word_sum]
    simp only [List.getD_eq_getElem?_getD, h0, h1, h2, h3, Option.getD_some])
  have i0 : ∀ W, (Instr.index 9 (.string ⟨(x.drop (4 * k)).toArray⟩) (.int .i64 0)).run Tryd.prog W = .ok (.int .u8 (x0.toNat : Int)) W := fun W => index_at _ 0 x0 (by rw [List.getElem?_drop]; exact h0) W
  have i1 : ∀ W, (Instr.index 9 (.string ⟨(x.drop (4 * k)).toArray⟩) (.int .i64 1)).run Tryd.prog W = .ok (.int .u8 (x1.toNat : Int)) W := fun W => index_at _ 1 x1 (by rw [List.getElem?_drop]; exact h1) W
  have i2 : ∀ W, (Instr.index 9 (.string ⟨(x.drop (4 * k)).toArray⟩) (.int .i64 2)).run Tryd.prog W = .ok (.int .u8 (x2.toNat : Int)) W := fun W => index_at _ 2 x2 (by rw [List.getElem?_drop]; exact h2) W
  have i3 : ∀ W, (Instr.index 9 (.string ⟨(x.drop (4 * k)).toArray⟩) (.int .i64 3)).run Tryd.prog W = .ok (.int .u8 (x3.toNat : Int)) W := fun W => index_at _ 3 x3 (by rw [List.getElem?_drop]; exact h3) W
  obtain ⟨m1, e1⟩ : ∃ m1 : Nat, m1 = x1.toNat * 256 := ⟨_, rfl⟩
  obtain ⟨m2, e2⟩ : ∃ m2 : Nat, m2 = x2.toNat * 65536 := ⟨_, rfl⟩
  obtain ⟨m3, e3⟩ : ∃ m3 : Nat, m3 = x3.toNat * 16777216 := ⟨_, rfl⟩
  obtain ⟨n1, f1⟩ : ∃ n1 : Nat, n1 = x0.toNat + m1 := ⟨_, rfl⟩
  obtain ⟨n2, f2⟩ : ∃ n2 : Nat, n2 = n1 + m2 := ⟨_, rfl⟩
  obtain ⟨n3, f3⟩ : ∃ n3 : Nat, n3 = n2 + m3 := ⟨_, rfl⟩
  have a1 : IntKind.u32.wrap ((x1.toNat : Int) * 256) = (m1 : Int) := by rw [IntKind.wrap_u32]; omega
  have a2 : IntKind.u32.wrap ((x2.toNat : Int) * 65536) = (m2 : Int) := by rw [IntKind.wrap_u32]; omega
  have a3 : IntKind.u32.wrap ((x3.toNat : Int) * 16777216) = (m3 : Int) := by rw [IntKind.wrap_u32]; omega
  have b1 : IntKind.u32.wrap ((x0.toNat : Int) + (m1 : Int)) = (n1 : Int) := by rw [IntKind.wrap_u32]; omega
  have b2 : IntKind.u32.wrap ((n1 : Int) + (m2 : Int)) = (n2 : Int) := by rw [IntKind.wrap_u32]; omega
  have b3 : IntKind.u32.wrap ((n2 : Int) + (m3 : Int)) = (n3 : Int) := by rw [IntKind.wrap_u32]; omega
  have w0 := wrap_u8 x0
  have w1 := wrap_u8 x1
  have w2 := wrap_u8 x2
  have w3 := wrap_u8 x3
  have HV : Hid (word x k = n3) := Lib.hid (by rw [HW.out]; omega)
  rw [HV.out]
  clear HW HV e1 e2 e3 f1 f2 f3 h0 h1 h2 h3 hx
  go_enter Tryd.func61, Tryd.ntmps61
  go_wp2
  go_quiet (fail)
  go_wp2
  go_ret
  exact ⟨rfl, _, rfl⟩

theorem stateS_zero (w : World) (t1 t2 : TypeId) : StateS w ((w.alloc (.cells z16 t1)).alloc (.cells z16 t2)) z16.toList := by
  have h1 := arr_new w z16 t1
  have h2 := arr_new (w.alloc (.cells z16 t1)) z16 t2
  rw [show z16.size = 16 from rfl] at h1 h2
  exact ⟨⟨_, h1.alloc (by simp) _⟩, by simpa using h2, ((Below.refl _ _).alloc (Nat.le_refl _) _).alloc (by simp) _⟩
theorem StateS.set {w W : World} {xs : List Value} (h : StateS w W xs) {i : Nat} (hi : i < 16) (v : Value) : StateS w (W.setCell ⟨w.heap.size + 1, i, none⟩ v) (xs.set i v) := by
  obtain ⟨zs, hz⟩ := h.res
  exact ⟨⟨zs, hz.other (by omega) _⟩, h.arr.set hi v, h.below.setCell (by simp) _⟩
theorem StateS.drewN {w W : World} {xs : List Value} (h : StateS w W xs) (n : Nat) : StateS w (W.drewN n) xs := by
  obtain ⟨zs, hz⟩ := h.res
  exact ⟨⟨zs, hz.drew n⟩, h.arr.drew n, ⟨h.below.os, h.below.tape, h.below.output, h.below.size, h.below.block⟩⟩
theorem StateS.word {w W : World} {xs : List Value} {x : List UInt8} {o k : Nat} (h : StateS w W (over xs x o k)) (hl : xs.length = 16) (hk : o + k < 16) (n : Nat) :
    StateS w ((W.drewN n).setCell ⟨w.heap.size + 1, o + k, none⟩ (.int .u32 (Cha.word x k : Int))) (over xs x o (k + 1)) := by
  have := (h.drewN n).set hk (wv (Cha.word x k))
  rwa [over_set x (by omega)] at this
theorem StateS.base {w W : World} (h : StateS w W z16.toList) :
    StateS w ((((W.setCell ⟨w.heap.size + 1, 0, none⟩ (.int .u32 1634760805)).setCell ⟨w.heap.size + 1, 1, none⟩ (.int .u32 857760878)).setCell ⟨w.heap.size + 1, 2, none⟩ (.int .u32 2036477234)).setCell ⟨w.heap.size + 1, 3, none⟩ (.int .u32 1797285236)) Cha.base :=
  (((h.set (i := 0) (by omega) (.int .u32 1634760805)).set (i := 1) (by omega) (.int .u32 857760878)).set (i := 2) (by omega) (.int .u32 2036477234)).set (i := 3) (by omega) (.int .u32 1797285236)
theorem fresh2_end (w : World) (t1 t2 : TypeId) : StateS w ((w.alloc (.cells z16 t1)).alloc (.cells z16 t2)) z16.toList → ((w.alloc (.cells z16 t1)).alloc (.cells z16 t2)).rangeAt (w.heap.size + 1) 0 z16.toList := fun h => h.arr.range

set_option maxRecDepth 100000 in
set_option maxHeartbeats 1000000 in
theorem refState_ok (key nonce : List UInt8) (ctr : Nat) (w : World) (hk : key.length = 32) (hn : nonce.length = 12) :
    Calls Tryd.prog 42 #[.string ⟨key.toArray⟩, .int .u32 (ctr : Int), .string ⟨nonce.toArray⟩] w (State16 ((start key ctr nonce).map wv) 0 w) := by
  have h1 := sizeS key
  have h2 := sizeS nonce
  rw [hk] at h1
  rw [hn] at h2
  have hz := zero16
  have K1 := Lib.hid hk
  have K2 := Lib.hid hn
  have Z := stateS_zero w 63 63
  clear hk hn
  go_enter Tryd.func42, Tryd.ntmps42
  go_wp2_with ((with_reducible refine at_slot 20 rfl ?_); refine gen_world (Pq := fun W => StateS w W z16.toList) (G := fun W => wpList _ _ _ _ _ W) Z ?_; clear Z; intro w0 S0; have c0 := S0.arr.some_ (i := 0) (by omega); have c1 := S0.arr.some_ (i := 1) (by omega); have c2 := S0.arr.some_ (i := 2) (by omega); have c3 := S0.arr.some_ (i := 3) (by omega); obtain ⟨⟨u0, c0⟩, f0⟩ := c0; obtain ⟨⟨u1, c1⟩, f1⟩ := c1; obtain ⟨⟨u2, c2⟩, f2⟩ := c2; obtain ⟨⟨u3, c3⟩, f3⟩ := c3)
  have S1 := S0.base
  clear c0 c1 c2 c3 f0 f1 f2 f3 S0 hz
  revert S1
  generalize (((w0.setCell ⟨w.heap.size + 1, 0, none⟩ (.int .u32 1634760805)).setCell ⟨w.heap.size + 1, 1, none⟩ (.int .u32 857760878)).setCell ⟨w.heap.size + 1, 2, none⟩ (.int .u32 2036477234)).setCell ⟨w.heap.size + 1, 3, none⟩ (.int .u32 1797285236) = w1
  intro S1
  go_loopw [9] (fun iv wr => ∃ (k : Nat), k ≤ 8 ∧ iv = .int .i64 (k : Int) ∧ StateS w wr (over base key 4 k)) (fun iv _ => (8 - intOf iv).toNat)
  case atStart => exact ⟨0, by omega, rfl, by rw [over_zero]; exact S1⟩
  case round =>
    obtain ⟨k, hk, rfl, hr⟩ := hrel
    clear S1
    by_cases hlt : k < 8
    · have hsl := fun W => slice_from key (4 * k) (by have := K1.out; omega) W
      rw [show ((4 * k : Nat) : Int) = 4 * (k : Int) by omega] at hsl
      have HC := Lib.hid (fun W => refWord_any key k W (by have := K1.out; omega))
      obtain ⟨⟨u, c4⟩, f4⟩ := hr.arr.some_ (i := 4 + k) (by omega)
      have HP := Lib.hid (fun n => hr.word (x := key) rfl (by omega) n)
      have y0 : (0 : Int) ≤ (k : Int) := by omega
      have y1 : (k : Int) < 8 := by omega
      have y2 : 4 * (k : Int) ≤ 32 := by omega
      generalize key.drop (4 * k) = y at hsl HC
      generalize hv : word key k = v at HC HP
      clear hv hr hlt
      go_wp2_with (go_at_call 61; (with_reducible refine (HC.out _).mono ?_); rintro e w3 ⟨rfl, nq, rfl⟩)
      go_roundw
      case rel => exact ⟨k + 1, by omega, by go_num, HP.out nq⟩
      case measure => simp [intOf]; omega
    · obtain rfl : k = 8 := by omega
      have z0 : ¬ ((8 : Nat) : Int) < 8 := by omega
      obtain ⟨⟨u, c12⟩, f12⟩ := hr.arr.some_ (i := 12) (by omega)
      have S2 : StateS w (wr.setCell ⟨w.heap.size + 1, 12, none⟩ (.int .u32 (ctr : Int))) ((over base key 4 8).set 12 (wv ctr)) := hr.set12 (wv ctr)
      clear hr hlt hk
      go_wp2
      clear c12 f12
      revert S2
      generalize wr.setCell ⟨w.heap.size + 1, 12, none⟩ (.int .u32 (ctr : Int)) = w2
      generalize hxs : (over base key 4 8).set 12 (wv ctr) = xs
      intro S2
      have HX := Lib.hid hxs
      have HXL : Hid (xs.length = 16) := Lib.hid S2.arr.len
      clear hxs
      go_loopw [10] (fun iv wr => ∃ (k : Nat), k ≤ 3 ∧ iv = .int .i64 (k : Int) ∧ StateS w wr (over xs nonce 13 k)) (fun iv _ => (3 - intOf iv).toNat)
      case atStart => exact ⟨0, by omega, rfl, by rw [over_zero]; exact S2⟩
      case round =>
        obtain ⟨k, hk, rfl, hr⟩ := hrel
        clear S2
        by_cases hlt : k < 3
        · have hsl := fun W => slice_from nonce (4 * k) (by have := K2.out; omega) W
          rw [show ((4 * k : Nat) : Int) = 4 * (k : Int) by omega] at hsl
          have HC := Lib.hid (fun W => refWord_any nonce k W (by have := K2.out; omega))
          obtain ⟨⟨u, c4⟩, f4⟩ := hr.arr.some_ (i := 13 + k) (by omega)
          have HP := Lib.hid (fun n => hr.word (x := nonce) HXL.out (by omega) n)
          have y0 : (0 : Int) ≤ (k : Int) := by omega
          have y1 : (k : Int) < 3 := by omega
          have y2 : 4 * (k : Int) ≤ 12 := by omega
          generalize nonce.drop (4 * k) = y at hsl HC
          generalize hv : word nonce k = v at HC HP
          clear hv hr hlt
          go_wp2_with (go_at_call 61; (with_reducible refine (HC.out _).mono ?_); rintro e w3 ⟨rfl, nq, rfl⟩)
          go_roundw
          case rel => exact ⟨k + 1, by omega, by go_num, HP.out nq⟩
          case measure => simp [intOf]; omega
        · obtain rfl : k = 3 := by omega
          have z0 : ¬ ((3 : Nat) : Int) < 3 := by omega
          have S4 : StateS w wr ((start key ctr nonce).map wv) := by rw [← start_all, HX.out]; exact hr
          have hth := S4.there (l := start key ctr nonce) (start_len _ _ _)
          have hrg := S4.arr.range
          have HE := Lib.hid (S4.fin (start key ctr nonce) (start_len _ _ _))
          have HL := Lib.hid (start_len key ctr nonce)
          generalize start key ctr nonce = l at *
          clear hr hlt hk S4
          go_wp2_with (first
            | ((with_reducible refine at_slot 50 rfl ?_); refine wpList_load_mid rfl 63 (.tmp 8) rfl (w.heap.size + 1) 0 rfl (l.map wv) _ hrg und16 rfl (i16 HL.out) ?_)
            | ((with_reducible refine at_store 63 (.tmp 6) (.tmp 50) rfl ?_); refine wpList_store_mid rfl 63 (.tmp 6) (.tmp 50) rfl w.heap.size 0 (l.map wv).toArray rfl rfl hth (i16A HL.out) (words_one _) ?_))
          refine bodyPost_ret (v := .tuple #[.agg (l.map wv).toArray, .int .i64 0]) ?_ rfl ⟨rfl, HE.out.2⟩
          have hE := HE.out.1
          simp [results, Tryd.results42, asAddr, hE]

set_option maxRecDepth 100000 in
set_option maxHeartbeats 1000000 in
theorem refState_err (key nonce : List UInt8) (ctr : Nat) (w : World) (h : ¬ (key.length = 32 ∧ nonce.length = 12)) :
    Calls Tryd.prog 42 #[.string ⟨key.toArray⟩, .int .u32 (ctr : Int), .string ⟨nonce.toArray⟩] w (State16 z16.toList 1 w) := by
  have h1 := sizeS key
  have h2 := sizeS nonce
  have hz := zero16
  have Z := stateS_zero w 63 63
  by_cases hk : key.length = 32
  case' pos =>
    have hn : ¬ (nonce.length : Int) = 12 := by omega
    have hn1 : ((nonce.length : Int) == 12) = false := by simpa using hn
    have hn2 : ((nonce.length : Int) != 12) = true := by simpa using hn
    have hn3 : decide ((nonce.length : Int) = 12) = false := by simpa using hn
    rw [hk] at h1
    clear h hk
  case' neg =>
    have hn : ¬ (key.length : Int) = 32 := by omega
    have hn1 : ((key.length : Int) == 32) = false := by simpa using hn
    have hn2 : ((key.length : Int) != 32) = true := by simpa using hn
    have hn3 : decide ((key.length : Int) = 32) = false := by simpa using hn
    clear h hk
  all_goals
    go_enter Tryd.func42, Tryd.ntmps42
    go_wp2_with (first
      | ((with_reducible refine at_slot 19 rfl ?_); refine gen_world (Pq := fun W => StateS w W (zN.map wv)) (G := fun W => wpList _ _ _ _ _ W) Z ?_; clear Z; intro w0 S0; have hth := S0.there (l := zN) rfl; have hrg := S0.arr.range; have HE := Lib.hid (S0.fin zN rfl); clear S0; refine wpList_load_mid rfl 63 (.tmp 8) rfl (w.heap.size + 1) 0 rfl (zN.map wv) _ hrg und16 rfl (by kernel_rfl) ?_)
      | ((with_reducible refine at_store 63 (.tmp 6) (.tmp 19) rfl ?_); refine wpList_store_mid rfl 63 (.tmp 6) (.tmp 19) rfl w.heap.size 0 (zN.map wv).toArray rfl rfl hth (by kernel_rfl) (words_one zN) ?_))
    refine bodyPost_ret (v := .tuple #[.agg (zN.map wv).toArray, .int .i64 1]) ?_ rfl ⟨rfl, HE.out.2⟩
    have hE := HE.out.1
    simp [results, Tryd.results42, asAddr, hE]

end Cha
end Go.Proofs.YtdlcoajjhcbffaaDoor
