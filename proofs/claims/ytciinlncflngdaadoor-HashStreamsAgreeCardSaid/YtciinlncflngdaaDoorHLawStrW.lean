/- The walk of the statement HashStreamsAgree. Condition: the tables of round constants read as the program lays them. -/
import Derived.Test.YtciinlncflngdaaDoorHLawStr
namespace Go.Proofs.YtciinlncflngdaaDoor
open Go.RowKit
namespace Hash
open Wire (bv sv Made Lies encStr)


set_option maxRecDepth 100000 in
set_option maxHeartbeats 4000000 in
theorem strLaw (l : List (List UInt8)) (n c : Nat) (A : Option Addr) (other : List UInt8) (at_ : Nat) (w : World) (hat : at_ < 256) (hl : Lies w w.heap.size 1 A n c (l.map sv)) (ht1 : Table 1 w) (ht2 : Table 0 w) :
    Calls Tryd.prog 4 #[.slice A n c, .string ⟨other.toArray⟩, .int .u8 (at_ : Int)] w (YesH w) := by
  have S0 : OfT w w A n c l := ⟨ht1, ht2, hl, Below.refl _ _⟩
  have S00 := Lib.hid S0
  have E0 := Lib.hid (fun W (h : OfT w W A n c l) => few_any l n c A W h.arg)
  have hso := sizeS other
  have hln : l.length = n := by have := hl.len; simpa using this
  have hmost : c ≤ 9223372036854775807 := by have := hl.most; unfold maxLen at this; omega
  have hle := hl.le
  have HA := Lib.hid hl
  clear ht1 ht2 hl
  cases hf : fewB l with
  | false =>
    rw [hf] at E0
    clear hf hat hln
    go_enter Tryd.func4, Tryd.ntmps4
    go_wp2_with (first
      | (go_at_call 10; (with_reducible refine (sanity_any _ S0.t1).mono ?_); rintro e w1 ⟨rfl, hb⟩; replace S0 := S0.on hb; clear hb)
      | (go_at_call 13; (with_reducible refine (E0.out _ S0).mono ?_); rintro e w2 ⟨rfl, rfl⟩))
    go_ret
    exact ⟨rfl, S0.below⟩
  | true =>
    obtain ⟨h12, h400⟩ := fewB_all hf
    rw [hf] at E0
    by_cases ho : (400 : Int) < (other.length : Int)
    · clear hf hat hln h12 h400
      go_enter Tryd.func4, Tryd.ntmps4
      go_wp2_with (first
        | (go_at_call 10; (with_reducible refine (sanity_any _ S0.t1).mono ?_); rintro e w1 ⟨rfl, hb⟩; replace S0 := S0.on hb; clear hb)
        | (go_at_call 13; (with_reducible refine (E0.out _ S0).mono ?_); rintro e w2 ⟨rfl, rfl⟩))
      go_ret
      exact ⟨rfl, S0.below⟩
    · have hmx := flat_max h12 h400
      have hn12 : (n : Int) ≤ 12 := by omega
      have hn0 : (0 : Int) ≤ (n : Int) := by omega
      have hat2 : (at_ : Int) < 256 := by omega
      have hat0 : (0 : Int) ≤ (at_ : Int) := by omega
      obtain ⟨k, hkn, hkd⟩ : ∃ k : Nat, k ≤ n ∧ ((at_ : Int) % ((n : Int) + 1)) = (k : Int) := ⟨at_ % (n + 1), by have := Nat.mod_lt at_ (show 0 < n + 1 by omega); omega, by simp⟩
      have HMX := Lib.hid hmx
      have HKN := Lib.hid hkn
      have HN := Lib.hid hln
      have H4 := Lib.hid h400
      have hz := zeroS
      clear hf hat hln h12 h400 hmx
      go_enter Tryd.func4, Tryd.ntmps4
      go_wp2_with (first
        | (go_at_call 10; (with_reducible refine (sanity_any _ S0.t1).mono ?_); rintro e w1 ⟨rfl, hb⟩; replace S0 := S0.on hb; clear hb)
        | (go_at_call 13; (with_reducible refine (E0.out _ S0).mono ?_); rintro e w2 ⟨rfl, rfl⟩)
        | (go_at_call 14; (with_reducible refine (begin_any _).mono ?_); rintro e w3 ⟨rfl, hb⟩; replace S0 := S0.on hb; clear hb)
        | ((with_reducible refine at_store 34 (.tmp 9) (.tmp 32) rfl ?_); refine wpList_store_mid rfl 34 (.tmp 9) (.tmp 32) rfl w3.heap.size 0 (strm []).toArray rfl rfl (fresh73 w3 _ (strm_length []) _) (infoS_ofA (strm_length _)) (sval_one _ _ _) ?_; refine gen_world (Pq := fun W => StrT w W A n c l w3.heap.size []) (G := fun W => wpList _ _ _ _ _ W) (strT_new S0 [] _).1 ?_; intro w4 S4; clear S0))
      revert S4
      generalize w3.heap.size = g
      intro S4
      clear hkd hat2 hat0
      go_loopw [10] (fun iv wr => ∃ (i : Nat), i ≤ k ∧ iv = .int .i64 (i : Int) ∧ StrT w wr A n c l g (l.take i).flatten) (fun iv _ => k - (intOf iv).toNat)
      case atStart => exact ⟨0, by omega, rfl, S4⟩
      case round =>
        clear S4
        obtain ⟨i, hik, rfl, hq⟩ := hrel
        by_cases hlt : i < k
        · obtain ⟨b, o, u, rfl, hbw, hu, hcx⟩ := hq.t.arg.at_ (show i < n by have := HKN.out; omega)
          obtain ⟨x, hx⟩ : ∃ x, l[i]? = some x := ⟨_, List.getElem?_eq_getElem (by have := HN.out; have := HKN.out; omega)⟩
          rw [List.getElem?_map, hx] at hu
          cases hu
          have hxl : x.length ≤ 400 := H4.out x (List.mem_of_getElem? hx)
          have hst := flat_step hx
          generalize (l.take i).flatten = m at hq hst
          have HST := Lib.hid hst
          have HC := Lib.hid (fun W (h : Table 1 W) => addM_any m x W (by omega) h)
          have y0 : (0 : Int) ≤ (i : Int) := by omega
          have y1 : (i : Int) < (k : Int) := by omega
          have y2 : (i : Int) < (n : Int) := by have := HKN.out; omega
          have hrg := hq.a.range
          have HQ := Lib.hid hq
          unfold sv at hcx
          clear hx hst hlt hq
          go_wp2
          refine QTail.drawn 5 (by kernel_rfl) (by kernel_rfl) ?_
          simp only [List.take_succ_cons, List.take_zero, List.drop_succ_cons, List.drop_zero]
          refine QTail.load rfl 34 (.tmp 9) rfl g 0 rfl (strm m) _ hrg Tryd.underlying34 rfl (infoS_of (strm_length m)) ?_
          quiet_step (fail)
          repeat (go_big_quiet_step (fail))
          refine wpQuiet_nil ?_
          intro _ hw'
          obtain ⟨nq, rfl⟩ := hw'
          have S5 := HQ.out.drewN nq
          clear hrg hcx
          revert S5
          generalize wr.drewN nq = w5
          intro S5
          go_wp2_with (first
            | (go_at_call 15; (with_reducible refine (HC.out _ S5.t.t1).mono ?_); rintro e w6 ⟨rfl, hb⟩; replace S5 := S5.on hb; clear hb)
            | ((with_reducible refine at_store 34 (.tmp 9) (.tmp 43) rfl ?_); refine wpList_store_mid rfl 34 (.tmp 9) (.tmp 43) rfl g 0 (strm (m ++ x)).toArray rfl rfl (S5.a.thereA (strm_length _)) (infoS_ofA (strm_length _)) (sval_one _ _ _) ?_; refine gen_world (Pq := fun W => StrT w W _ n c l g (m ++ x)) (G := fun W => wpList _ _ _ _ _ W) (S5.put S00.out) ?_; intro w7 S7; clear S5))
          go_roundw
          case rel => exact ⟨i + 1, by omega, by go_num, by rw [HST.out]; exact S7⟩
          case measure => simp [intOf]; omega
        · obtain rfl : i = k := by omega
          have y1 : ¬ (i : Int) < (i : Int) := by omega
          obtain ⟨m1, hm1⟩ : ∃ m1, m1 = (l.take i).flatten := ⟨_, rfl⟩
          rw [← hm1] at hq
          have HM1 := Lib.hid hm1
          have S8 := hq
          clear hlt hik hm1 hq
          go_wp2_with (first
            | ((with_reducible refine at_slot 44 rfl ?_); refine wpList_load_mid rfl 34 (.tmp 9) rfl g 0 rfl (strm m1) _ S8.a.range Tryd.underlying34 rfl (infoS_of (strm_length m1)) ?_)
            | ((with_reducible refine at_store 34 (.tmp 11) (.tmp 44) rfl ?_); refine wpList_store_mid rfl 34 (.tmp 11) (.tmp 44) rfl wr.heap.size 0 (strm m1).toArray rfl rfl (fresh73 wr _ (strm_length m1) _) (infoS_ofA (strm_length _)) (sval_one _ _ _) ?_; refine gen_world (Pq := fun W => StrU w W A n c l g m1 wr.heap.size m1) (G := fun W => wpList _ _ _ _ _ W) ⟨S8.on (strT_new S8.t m1 _).2, (strT_new S8.t m1 _).1.a, Nat.ne_of_gt (S8.a.size (by omega))⟩ ?_; intro w9 S9; clear S8))
          revert S9
          generalize wr.heap.size = g2
          intro S9
          go_loopw [12] (fun iv wq => ∃ (j : Nat), i ≤ j ∧ j ≤ n ∧ iv = .int .i64 (j : Int) ∧ StrU w wq A n c l g (l.take j).flatten g2 m1) (fun iv _ => n - (intOf iv).toNat)
          case atStart => exact ⟨i, by omega, HKN.out, rfl, by rw [← HM1.out]; exact S9⟩
          case round =>
            clear S9
            obtain ⟨j, hij, hjn, rfl, hq⟩ := hrel
            by_cases hlt : j < n
            · obtain ⟨b, o, u, rfl, hbw, hu, hcx⟩ := hq.s.t.arg.at_ hlt
              obtain ⟨x, hx⟩ : ∃ x, l[j]? = some x := ⟨_, List.getElem?_eq_getElem (by have := HN.out; omega)⟩
              rw [List.getElem?_map, hx] at hu
              cases hu
              have hxl : x.length ≤ 400 := H4.out x (List.mem_of_getElem? hx)
              have hst := flat_step hx
              generalize (l.take j).flatten = m at hq hst
              have HST := Lib.hid hst
              have HC := Lib.hid (fun W (h : Table 1 W) => addM_any m x W (by omega) h)
              have y0 : (0 : Int) ≤ (j : Int) := by omega
              have y2 : (j : Int) < (n : Int) := by omega
              have hrg := hq.s.a.range
              have HQ := Lib.hid hq
              unfold sv at hcx
              clear hx hst hlt hq
              go_wp2
              refine QTail.drawn 5 (by kernel_rfl) (by kernel_rfl) ?_
              simp only [List.take_succ_cons, List.take_zero, List.drop_succ_cons, List.drop_zero]
              refine QTail.load rfl 34 (.tmp 9) rfl g 0 rfl (strm m) _ hrg Tryd.underlying34 rfl (infoS_of (strm_length m)) ?_
              quiet_step (fail)
              repeat (go_big_quiet_step (fail))
              refine wpQuiet_nil ?_
              intro _ hw'
              obtain ⟨nq, rfl⟩ := hw'
              have S5 := HQ.out.drewN nq
              clear hrg hcx
              revert S5
              generalize wr.drewN nq = w5
              intro S5
              go_wp2_with (first
                | (go_at_call 15; (with_reducible refine (HC.out _ S5.s.t.t1).mono ?_); rintro e w6 ⟨rfl, hb⟩; replace S5 := S5.on hb; clear hb)
                | ((with_reducible refine at_store 34 (.tmp 9) (.tmp 57) rfl ?_); refine wpList_store_mid rfl 34 (.tmp 9) (.tmp 57) rfl g 0 (strm (m ++ x)).toArray rfl rfl (S5.s.a.thereA (strm_length _)) (infoS_ofA (strm_length _)) (sval_one _ _ _) ?_; refine gen_world (Pq := fun W => StrU w W _ n c l g (m ++ x) g2 m1) (G := fun W => wpList _ _ _ _ _ W) (S5.put S00.out) ?_; intro w7 S7; clear S5))
              go_roundw
              case rel => exact ⟨j + 1, by omega, by omega, by go_num, by rw [HST.out]; exact S7⟩
              case measure => simp [intOf]; omega
            · have hjn2 : j = n := by omega
              have y1 : ¬ (j : Int) < (n : Int) := by omega
              have e9 : (l.take j).flatten = l.flatten := by rw [List.take_of_length_le (by have := HN.out; omega)]
              rw [e9] at hq
              have hm9 : l.flatten.length ≤ 4800 := by have := HMX.out j; rwa [e9] at this
              have hm1 : m1.length ≤ 4800 := by rw [HM1.out]; exact HMX.out i
              have J9 := Lib.hid (fun W (h : Lies W W.heap.size 1 A n c (l.map sv)) => joined_any l n c A W h (fun k => Nat.le_trans (HMX.out k) (by omega)))
              have J1 := Lib.hid (fun W (h : Lies W W.heap.size 1 A n c (l.map sv)) => by
                have hh := lies_take h HKN.out
                rw [← List.map_take] at hh
                have := joined_any (l.take i) i c A W hh (fun k => by rw [List.take_take]; exact Nat.le_trans (HMX.out _) (by omega))
                rw [← HM1.out] at this
                exact this)
              have hsl := slice_to HA.out HKN.out
              generalize l.flatten = m9 at hq hm9 J9
              have happ := appS m1 other
              have hsm1 := sizeS m1
              have HC := Lib.hid (fun W (h : Table 1 W) => addM_any m1 other W (by omega) h)
              have Q9 := Lib.hid (fun W (h : Table 1 W) => streamSum_any m9 W h)
              have Q1 := Lib.hid (fun W (h : Table 1 W) => streamSum_any m1 W h)
              have R9 := Lib.hid (fun W (h : Table 0 W) => refSumKey m9 (by omega) W h)
              have R1 := Lib.hid (fun W (h : Table 0 W) => refSumKey m1 (by omega) W h)
              have P9 := Lib.hid (fun W (h : Table 1 W) => sumConv m9 (by omega) W h)
              have hck9 := convKey m9
              have hck1 := convKey m1
              have hl12 : (m1 ++ other).length ≤ 1000000 := by simp; omega
              have hsum : m1.length + other.length ≤ 1000000 := by omega
              generalize m1 ++ other = m2 at happ HC hl12
              have Q2 := Lib.hid (fun W (h : Table 1 W) => streamSum_any m2 W h)
              have R2 := Lib.hid (fun W (h : Table 0 W) => refSumKey m2 hl12 W h)
              have hck2 := convKey m2
              have ha9 := eqA (sha m9) (sha_length _)
              have ha1 := eqA (sha m1) (sha_length _)
              have ha2 := eqA (sha m2) (sha_length _)
              generalize sha m9 = x9 at *
              generalize sha m1 = x1 at *
              generalize sha m2 = x2 at *
              have S9 := hq
              clear hq hlt hjn2 hij hjn hm9 hm1 hl12 e9
              have y3 : (i : Int) ≤ (c : Int) := by have := HKN.out; omega
              have y4 : (0 : Int) ≤ (i : Int) := by omega
              go_wp2_with (first
                | ((with_reducible refine at_slot 58 rfl ?_); refine wpList_load_mid rfl 34 (.tmp 11) rfl g2 0 rfl (strm m1) _ S9.a.range Tryd.underlying34 rfl (infoS_of (strm_length m1)) ?_)
                | (go_at_call 15; (with_reducible refine (HC.out _ S9.s.t.t1).mono ?_); rintro e w10 ⟨rfl, hb⟩; replace S9 := S9.on hb; clear hb)
                | ((with_reducible refine at_store 34 (.tmp 13) (.tmp 60) rfl ?_); refine wpList_store_mid rfl 34 (.tmp 13) (.tmp 60) rfl w10.heap.size 0 (strm m2).toArray rfl rfl (fresh73 w10 _ (strm_length m2) _) (infoS_ofA (strm_length _)) (sval_one _ _ _) ?_; refine gen_world (Pq := fun W => StrV w W A n c l g m9 g2 m1 w10.heap.size m2) (G := fun W => wpList _ _ _ _ _ W) ⟨S9.on (strT_new S9.s.t m2 _).2, (strT_new S9.s.t m2 _).1.a⟩ ?_; intro w11 V; clear S9)
                | (go_at_call 16; (with_reducible refine (J9.out _ V.u.s.t.arg).mono ?_); rintro e w12 ⟨rfl, rfl⟩)
                | (go_at_call 16; (with_reducible refine (J1.out _ V.u.s.t.arg).mono ?_); rintro e w12 ⟨rfl, rfl⟩)
                | ((with_reducible refine at_slot 69 rfl ?_); refine QTail.loadG (by rfl) 34 (.tmp 9) rfl g 0 rfl (strm m9) _ V.u.s.a.range Tryd.underlying34 rfl (infoS_of (strm_length m9)) ?_)
                | ((with_reducible refine at_slot 77 rfl ?_); refine QTail.loadG (by rfl) 34 (.tmp 11) rfl g2 0 rfl (strm m1) _ V.u.a.range Tryd.underlying34 rfl (infoS_of (strm_length m1)) ?_)
                | ((with_reducible refine at_slot 85 rfl ?_); refine QTail.loadG (by rfl) 34 (.tmp 13) rfl w10.heap.size 0 rfl (strm m2) _ V.a.range Tryd.underlying34 rfl (infoS_of (strm_length m2)) ?_)
                | ((with_reducible refine at_slot 95 rfl ?_); refine QTail.loadG (by rfl) 34 (.tmp 9) rfl g 0 rfl (strm m9) _ V.u.s.a.range Tryd.underlying34 rfl (infoS_of (strm_length m9)) ?_)
                | (go_at_call 17; (with_reducible refine (Q9.out _ V.u.s.t.t1).mono ?_); rintro e w13 ⟨rfl, hb⟩; replace V := V.on hb; clear hb)
                | (go_at_call 17; (with_reducible refine (Q1.out _ V.u.s.t.t1).mono ?_); rintro e w13 ⟨rfl, hb⟩; replace V := V.on hb; clear hb)
                | (go_at_call 17; (with_reducible refine (Q2.out _ V.u.s.t.t1).mono ?_); rintro e w13 ⟨rfl, hb⟩; replace V := V.on hb; clear hb)
                | (go_at_call 12; (with_reducible refine (R9.out _ V.u.s.t.t2).mono ?_); rintro e w14 ⟨rfl, hb⟩; replace V := V.on hb; clear hb)
                | (go_at_call 12; (with_reducible refine (R1.out _ V.u.s.t.t2).mono ?_); rintro e w14 ⟨rfl, hb⟩; replace V := V.on hb; clear hb)
                | (go_at_call 12; (with_reducible refine (R2.out _ V.u.s.t.t2).mono ?_); rintro e w14 ⟨rfl, hb⟩; replace V := V.on hb; clear hb)
                | (go_at_call 11; (with_reducible refine (P9.out _ V.u.s.t.t1).mono ?_); rintro e w15 ⟨rfl, hb⟩; replace V := V.on hb; clear hb))
              go_ret
              exact ⟨rfl, V.u.s.t.below⟩

theorem strLawB (l : List (List UInt8)) (n c : Nat) (A : Option Addr) (other : ByteArray) (a : Int) (w : World) (ha : (Lit.int .u8 a).wf = true) (hl : Lies w w.heap.size 1 A n c (l.map sv)) (ht1 : Table 1 w) (ht2 : Table 0 w) :
    Calls Tryd.prog 4 #[.slice A n c, .string other, .int .u8 a] w (YesH w) := by
  have hr : 0 ≤ a ∧ a < 256 := by
    simp [Lit.wf, IntKind.min, IntKind.max, IntKind.signed, IntKind.bits] at ha
    omega
  obtain ⟨k, rfl⟩ : ∃ k : Nat, a = (k : Int) := ⟨a.toNat, by omega⟩
  have := strLaw l n c A other.data.toList k w (by omega) hl ht1 ht2
  rwa [show (⟨other.data.toList.toArray⟩ : ByteArray) = other from ByteArray.ext rfl] at this

end Hash
end Go.Proofs.YtciinlncflngdaaDoor
