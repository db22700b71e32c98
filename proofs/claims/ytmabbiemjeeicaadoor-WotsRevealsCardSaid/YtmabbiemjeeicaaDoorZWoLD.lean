/- WotsDigits: the walk. Condition: the table of the package is laid. -/
import Derived.Test.YtmabbiemjeeicaaDoorZWoSane
import Derived.Test.YtmabbiemjeeicaaDoorZQEq
namespace Go.Proofs.YtmabbiemjeeicaaDoor
open Go.RowKit
namespace Wo
open Mk (dv Dg GivesD dg_new dg_zero dg_end store_d load_d und_d info_d one_d info_dA)
open Wire (bv sv Lies)
open Hash (Table GivesT tabj bcj Arr at_slot)

/-- Two digests that came in. -/
structure J2 (w W : World) (d u : List UInt8) : Prop where
  p : Dg W w.heap.size d
  q : Dg W (w.heap.size + 1) u
  z : Below w.heap.size w W
theorem J2.on {w W W' : World} {d u : List UInt8} (h : J2 w W d u) (hb : Below W.heap.size W W') : J2 w W' d u := ⟨h.p.on hb, h.q.on hb, bcj h.z hb⟩
theorem j2_new (w : World) {d u : List UInt8} (hd : d.length = 16) (hu : u.length = 16) (t s : TypeId) : J2 w ((w.alloc (.cells (d.map bv).toArray t)).alloc (.cells (u.map bv).toArray s)) d u := by
  have P0 := dg_new w hd t
  have Q0 := dg_new (w.alloc (.cells (d.map bv).toArray t)) hu s
  have b0 := Wire.b1 w (.cells (d.map bv).toArray t)
  have b1 := Wire.b1 (w.alloc (.cells (d.map bv).toArray t)) (.cells (u.map bv).toArray s)
  rw [Wire.size_alloc] at Q0
  exact ⟨P0.on b1, Q0, bcj b0 b1⟩
/-- What the digits lack, of the first 32. -/
def lackTo (d : List UInt8) (k : Nat) : Nat := lacks d (min k 32)
theorem lackTo_le {d : List UInt8} (k : Nat) : lackTo d k ≤ 480 := by
  have := lacks_le (d := d) (min k 32)
  unfold lackTo; omega
theorem lackTo_in {d : List UInt8} {k : Nat} (h : k < 32) : lackTo d (k + 1) = lackTo d k + (15 - dig d k) := by
  unfold lackTo
  rw [show min (k + 1) 32 = k + 1 by omega, show min k 32 = k by omega]; rfl
theorem lackTo_out {d : List UInt8} {k : Nat} (h : ¬ k < 32) : lackTo d (k + 1) = lackTo d k := by
  unfold lackTo
  rw [show min (k + 1) 32 = 32 by omega, show min k 32 = 32 by omega]

set_option maxRecDepth 100000 in
set_option maxHeartbeats 4000000 in
theorem law_dig (a b : List UInt8) (ha : a.length = 16) (hb : b.length = 16) (w : World) (ht : TP w) : Calls Tryd.prog 6 #[dv a, dv b] w (GivesB true w) := by
  have Y := j2_new w ha hb 23 23
  have HS := Lib.hid (fun W (h : Below w.heap.size w W) => sanity_any W (ht.on h))
  have HG1 : Hid (∀ W, Calls Tryd.prog 13 #[dv a] W (fun e w' => ∃ A c, e = .returned (.slice A 35 c) ∧ Lies w' w'.heap.size 1 A 35 c ((digs a).map nv) ∧ Below W.heap.size W w')) := Lib.hid (fun W => (digits_any a ha W).mono fun e w' h => by
    have := gl_len h
    rwa [digs_length ha] at this)
  have HG2 : Hid (∀ W, Calls Tryd.prog 13 #[dv b] W (fun e w' => ∃ A c, e = .returned (.slice A 35 c) ∧ Lies w' w'.heap.size 1 A 35 c ((digs b).map nv) ∧ Below W.heap.size W w')) := Lib.hid (fun W => (digits_any b hb W).mono fun e w' h => by
    have := gl_len h
    rwa [digs_length hb] at this)
  have HX : Hid (∀ k, k < 35 → (digs a)[k]? = some (dig a k)) := Lib.hid (fun k hk => digs_at ha hk)
  have HY : Hid (∀ k, k < 35 → (digs b)[k]? = some (dig b k)) := Lib.hid (fun k hk => digs_at hb hk)
  have HLE : Hid (∀ k, dig a k ≤ 15 ∧ dig b k ≤ 15) := Lib.hid (fun k => ⟨dig_le ha k, dig_le hb k⟩)
  have HSUM : Hid (lackTo a 35 = 256 * dig a 32 + 16 * dig a 33 + dig a 34) := Lib.hid ((lacks_all ha).trans (sum_digs ha))
  have HLS : Hid (less (dig a) (dig b) 35 = decide (a ≠ b)) := Lib.hid (less_digs ha hb)
  have HMR : Hid (less (dig b) (dig a) 35 = decide (a ≠ b)) := Lib.hid (by rw [less_digs hb ha]; congr 1; exact propext ⟨Ne.symm, Ne.symm⟩)
  have E0 : Hid (∀ W, (binOp .neq 23 (.agg (a.map bv).toArray) (.agg (b.map bv).toArray)).run Tryd.prog W = .ok (.bool (decide (a ≠ b))) W) := Lib.hid (fun W => by
    have := Mk.neq_d a b ha hb W
    rwa [show (!(a == b)) = decide (a ≠ b) by by_cases h : a = b <;> simp [h]] at this)
  have HA := Lib.hid ha
  have HB := Lib.hid hb
  clear ha hb ht
  unfold dv
  go_enter Tryd.func6, Tryd.ntmps6
  go_wp2_with (first
    | (refine load_d 11 rfl rfl (.tmp 2) rfl w.heap.size 0 rfl a HA.out Y.p.range ?_)
    | (refine load_d 13 rfl rfl (.tmp 3) rfl (w.heap.size + 1) 0 rfl b HB.out Y.q.range ?_)
    | (go_at_call 13; (with_reducible refine (HG1.out _).mono ?_); rintro e w1 ⟨A1, c1, rfl, hl, hb⟩; have HL1 := Lib.hid hl; replace Y := Y.on hb; clear hl hb HG1)
    | (go_at_call 13; (with_reducible refine (HG2.out _).mono ?_); rintro e w2 ⟨A2, c2, rfl, hl, hb⟩; have HL2 := Lib.hid hl; replace HL1 := Lib.hid (HL1.out.on hb); replace Y := Y.on hb; clear hl hb))
  have hm1 : c1 ≤ 9223372036854775807 := by have := HL1.out.most; unfold maxLen at this; omega
  have hm2 : c2 ≤ 9223372036854775807 := by have := HL2.out.most; unfold maxLen at this; omega
  have hle1 := HL1.out.le
  have hle2 := HL2.out.le
  have HYY := Lib.hid Y
  clear Y
  go_loopw [7, 8, 9, 10] (fun lv mv sv iv wr => ∃ (k : Nat), k ≤ 35 ∧ iv = .int .i64 (k : Int) ∧ lv = .bool (less (dig a) (dig b) k) ∧ mv = .bool (less (dig b) (dig a) k) ∧ sv = .int .i64 (lackTo a k : Int) ∧ Below w2.heap.size w2 wr) (fun _ _ _ iv _ => (35 - intOf iv).toNat)
  case atStart => exact ⟨0, by omega, rfl, rfl, rfl, rfl, Below.refl _ _⟩
  case round =>
    obtain ⟨k, hk, rfl, rfl, rfl, rfl, Z⟩ := hrel
    by_cases hlt : k < 35
    · have z0 : (0 : Int) ≤ (k : Int) := by omega
      have z1 : (k : Int) < 35 := by omega
      obtain ⟨ga, oa, rfl, hga, hca⟩ := nums_at HL1.out (HX.out k hlt)
      obtain ⟨gb, ob, rfl, hgb, hcb⟩ := nums_at HL2.out (HY.out k hlt)
      have CA : Hid (∀ W, Below w2.heap.size w2 W → W.cell? ⟨ga, oa + k, none⟩ = some (.int .i64 (dig a k : Int))) := Lib.hid (fun W h => (h.cell hga).trans hca)
      have CB : Hid (∀ W, Below w2.heap.size w2 W → W.cell? ⟨gb, ob + k, none⟩ = some (.int .i64 (dig b k : Int))) := Lib.hid (fun W h => (h.cell hgb).trans hcb)
      have c0 := CA.out wr Z
      obtain ⟨lx, ly⟩ := HLE.out k
      have hll := lackTo_le (d := a) k
      have HIN : Hid (k < 32 → lackTo a (k + 1) = lackTo a k + (15 - dig a k)) := Lib.hid (fun h => lackTo_in h)
      have HOUT : Hid (¬ k < 32 → lackTo a (k + 1) = lackTo a k) := Lib.hid (fun h => lackTo_out h)
      have HL : Hid (less (dig a) (dig b) (k + 1) = (less (dig a) (dig b) k || decide (dig a k < dig b k))) := Lib.hid rfl
      have HM : Hid (less (dig b) (dig a) (k + 1) = (less (dig b) (dig a) k || decide (dig b k < dig a k))) := Lib.hid rfl
      generalize less (dig a) (dig b) k = lb at HL ⊢
      generalize less (dig b) (dig a) k = mb at HM ⊢
      generalize dig a k = x at *
      generalize dig b k = y at *
      generalize lackTo a k = s at hll HIN HOUT ⊢
      clear hga hca hgb hcb
      go_wp2
      clear c0
      cases lb <;> cases mb
      · refine QTail.whole (fun W => Below w2.heap.size w2 W) (by kernel_rfl) (by kernel_rfl) (bcj Z (Hash.belowD _)) ?_
        (refine wpQuiet_step (fun K hK => ?_); go_simp; (first | refine hK _ ?_ | refine ⟨_, fun _ _ => rfl, hK _ ?_⟩); clear hK K)
        (refine wpQuiet_step (fun K hK => ?_); go_simp; (first | refine hK _ ?_ | refine ⟨_, fun _ _ => rfl, hK _ ?_⟩); clear hK K)
        (refine wpQuiet_step (fun K hK => ?_); go_simp; (first | refine hK _ ?_ | refine ⟨_, fun _ _ => rfl, hK _ ?_⟩); clear hK K)
        (refine wpQuiet_step (fun K hK => ?_); go_simp; (first | refine hK _ ?_ | refine ⟨_, fun _ _ => rfl, hK _ ?_⟩); clear hK K)
        (refine wpQuiet_step (fun K hK => ?_); go_simp; refine ⟨(.pointer (some ⟨ga, oa + k, none⟩)), fun W hW => ?_, hK _ ?_⟩; (first | exact ⟨rfl, rfl⟩ | rfl | (rw [if_pos (by omega)]; exact ⟨rfl, rfl⟩) | (rw [if_pos (by omega), if_neg (by omega)]; exact ⟨rfl, rfl⟩) | (rw [if_neg (by omega)]; exact ⟨rfl, rfl⟩)); clear hK K)
        (refine wpQuiet_step (fun K hK => ?_); go_simp; refine ⟨(.int .i64 (x : Int)), fun W hW => ?_, hK _ ?_⟩; (first | (rw [CA.out W hW]; exact ⟨rfl, rfl⟩) | (rw [CA.out W hW]; rfl)); clear hK K)
        (refine wpQuiet_step (fun K hK => ?_); go_simp; (first | refine hK _ ?_ | refine ⟨_, fun _ _ => rfl, hK _ ?_⟩); clear hK K)
        (refine wpQuiet_step (fun K hK => ?_); go_simp; (first | refine hK _ ?_ | refine ⟨_, fun _ _ => rfl, hK _ ?_⟩); clear hK K)
        (refine wpQuiet_step (fun K hK => ?_); go_simp; refine ⟨(.pointer (some ⟨gb, ob + k, none⟩)), fun W hW => ?_, hK _ ?_⟩; (first | exact ⟨rfl, rfl⟩ | rfl | (rw [if_pos (by omega)]; exact ⟨rfl, rfl⟩) | (rw [if_pos (by omega), if_neg (by omega)]; exact ⟨rfl, rfl⟩) | (rw [if_neg (by omega)]; exact ⟨rfl, rfl⟩)); clear hK K)
        (refine wpQuiet_step (fun K hK => ?_); go_simp; refine ⟨(.int .i64 (y : Int)), fun W hW => ?_, hK _ ?_⟩; (first | (rw [CB.out W hW]; exact ⟨rfl, rfl⟩) | (rw [CB.out W hW]; rfl)); clear hK K)
        (refine wpQuiet_step (fun K hK => ?_); go_simp; (first | refine hK _ ?_ | refine ⟨_, fun _ _ => rfl, hK _ ?_⟩); clear hK K)
        (refine wpQuiet_step (fun K hK => ?_); go_simp; (first | refine hK _ ?_ | refine ⟨_, fun _ _ => rfl, hK _ ?_⟩); clear hK K)
        (refine wpQuiet_step (fun K hK => ?_); go_simp; (first | refine hK _ ?_ | refine ⟨_, fun _ _ => rfl, hK _ ?_⟩); clear hK K)
        refine wpQuiet_nil ?_
        clear Z
        intro w3 Z
        go_wp2
        refine QTail.whole (fun W => Below w2.heap.size w2 W) (by kernel_rfl) (by kernel_rfl) (bcj Z (Hash.belowD _)) ?_
        (refine wpQuiet_step (fun K hK => ?_); go_simp; (first | refine hK _ ?_ | refine ⟨_, fun _ _ => rfl, hK _ ?_⟩); clear hK K)
        (refine wpQuiet_step (fun K hK => ?_); go_simp; (first | refine hK _ ?_ | refine ⟨_, fun _ _ => rfl, hK _ ?_⟩); clear hK K)
        (refine wpQuiet_step (fun K hK => ?_); go_simp; (first | refine hK _ ?_ | refine ⟨_, fun _ _ => rfl, hK _ ?_⟩); clear hK K)
        (refine wpQuiet_step (fun K hK => ?_); go_simp; (first | refine hK _ ?_ | refine ⟨_, fun _ _ => rfl, hK _ ?_⟩); clear hK K)
        (refine wpQuiet_step (fun K hK => ?_); go_simp; refine ⟨(.pointer (some ⟨ga, oa + k, none⟩)), fun W hW => ?_, hK _ ?_⟩; (first | exact ⟨rfl, rfl⟩ | rfl | (rw [if_pos (by omega)]; exact ⟨rfl, rfl⟩) | (rw [if_pos (by omega), if_neg (by omega)]; exact ⟨rfl, rfl⟩) | (rw [if_neg (by omega)]; exact ⟨rfl, rfl⟩)); clear hK K)
        (refine wpQuiet_step (fun K hK => ?_); go_simp; refine ⟨(.int .i64 (x : Int)), fun W hW => ?_, hK _ ?_⟩; (first | (rw [CA.out W hW]; exact ⟨rfl, rfl⟩) | (rw [CA.out W hW]; rfl)); clear hK K)
        (refine wpQuiet_step (fun K hK => ?_); go_simp; (first | refine hK _ ?_ | refine ⟨_, fun _ _ => rfl, hK _ ?_⟩); clear hK K)
        (refine wpQuiet_step (fun K hK => ?_); go_simp; (first | refine hK _ ?_ | refine ⟨_, fun _ _ => rfl, hK _ ?_⟩); clear hK K)
        (refine wpQuiet_step (fun K hK => ?_); go_simp; refine ⟨(.pointer (some ⟨gb, ob + k, none⟩)), fun W hW => ?_, hK _ ?_⟩; (first | exact ⟨rfl, rfl⟩ | rfl | (rw [if_pos (by omega)]; exact ⟨rfl, rfl⟩) | (rw [if_pos (by omega), if_neg (by omega)]; exact ⟨rfl, rfl⟩) | (rw [if_neg (by omega)]; exact ⟨rfl, rfl⟩)); clear hK K)
        (refine wpQuiet_step (fun K hK => ?_); go_simp; refine ⟨(.int .i64 (y : Int)), fun W hW => ?_, hK _ ?_⟩; (first | (rw [CB.out W hW]; exact ⟨rfl, rfl⟩) | (rw [CB.out W hW]; rfl)); clear hK K)
        (refine wpQuiet_step (fun K hK => ?_); go_simp; (first | refine hK _ ?_ | refine ⟨_, fun _ _ => rfl, hK _ ?_⟩); clear hK K)
        (refine wpQuiet_step (fun K hK => ?_); go_simp; (first | refine hK _ ?_ | refine ⟨_, fun _ _ => rfl, hK _ ?_⟩); clear hK K)
        (refine wpQuiet_step (fun K hK => ?_); go_simp; (first | refine hK _ ?_ | refine ⟨_, fun _ _ => rfl, hK _ ?_⟩); clear hK K)
        refine wpQuiet_nil ?_
        clear Z
        intro w4 Z
        have c1 := CA.out w4 Z
        by_cases h32 : k < 32
        · have hh : (k : Int) < 32 := by omega
          go_wp2
          go_roundw
          case rel => exact ⟨k + 1, by omega, by go_num, by rw [HL.out]; simp, by rw [HM.out]; simp, by rw [HIN.out h32]; go_num, Z⟩
          case measure => simp [intOf]; omega
        · have hh : ¬ (k : Int) < 32 := by omega
          go_wp2
          go_roundw
          case rel => exact ⟨k + 1, by omega, by go_num, by rw [HL.out]; simp, by rw [HM.out]; simp, by rw [HOUT.out h32], Z⟩
          case measure => simp [intOf]; omega
      · refine QTail.whole (fun W => Below w2.heap.size w2 W) (by kernel_rfl) (by kernel_rfl) (bcj Z (Hash.belowD _)) ?_
        (refine wpQuiet_step (fun K hK => ?_); go_simp; (first | refine hK _ ?_ | refine ⟨_, fun _ _ => rfl, hK _ ?_⟩); clear hK K)
        (refine wpQuiet_step (fun K hK => ?_); go_simp; (first | refine hK _ ?_ | refine ⟨_, fun _ _ => rfl, hK _ ?_⟩); clear hK K)
        (refine wpQuiet_step (fun K hK => ?_); go_simp; (first | refine hK _ ?_ | refine ⟨_, fun _ _ => rfl, hK _ ?_⟩); clear hK K)
        (refine wpQuiet_step (fun K hK => ?_); go_simp; (first | refine hK _ ?_ | refine ⟨_, fun _ _ => rfl, hK _ ?_⟩); clear hK K)
        (refine wpQuiet_step (fun K hK => ?_); go_simp; refine ⟨(.pointer (some ⟨ga, oa + k, none⟩)), fun W hW => ?_, hK _ ?_⟩; (first | exact ⟨rfl, rfl⟩ | rfl | (rw [if_pos (by omega)]; exact ⟨rfl, rfl⟩) | (rw [if_pos (by omega), if_neg (by omega)]; exact ⟨rfl, rfl⟩) | (rw [if_neg (by omega)]; exact ⟨rfl, rfl⟩)); clear hK K)
        (refine wpQuiet_step (fun K hK => ?_); go_simp; refine ⟨(.int .i64 (x : Int)), fun W hW => ?_, hK _ ?_⟩; (first | (rw [CA.out W hW]; exact ⟨rfl, rfl⟩) | (rw [CA.out W hW]; rfl)); clear hK K)
        (refine wpQuiet_step (fun K hK => ?_); go_simp; (first | refine hK _ ?_ | refine ⟨_, fun _ _ => rfl, hK _ ?_⟩); clear hK K)
        (refine wpQuiet_step (fun K hK => ?_); go_simp; (first | refine hK _ ?_ | refine ⟨_, fun _ _ => rfl, hK _ ?_⟩); clear hK K)
        (refine wpQuiet_step (fun K hK => ?_); go_simp; refine ⟨(.pointer (some ⟨gb, ob + k, none⟩)), fun W hW => ?_, hK _ ?_⟩; (first | exact ⟨rfl, rfl⟩ | rfl | (rw [if_pos (by omega)]; exact ⟨rfl, rfl⟩) | (rw [if_pos (by omega), if_neg (by omega)]; exact ⟨rfl, rfl⟩) | (rw [if_neg (by omega)]; exact ⟨rfl, rfl⟩)); clear hK K)
        (refine wpQuiet_step (fun K hK => ?_); go_simp; refine ⟨(.int .i64 (y : Int)), fun W hW => ?_, hK _ ?_⟩; (first | (rw [CB.out W hW]; exact ⟨rfl, rfl⟩) | (rw [CB.out W hW]; rfl)); clear hK K)
        (refine wpQuiet_step (fun K hK => ?_); go_simp; (first | refine hK _ ?_ | refine ⟨_, fun _ _ => rfl, hK _ ?_⟩); clear hK K)
        (refine wpQuiet_step (fun K hK => ?_); go_simp; (first | refine hK _ ?_ | refine ⟨_, fun _ _ => rfl, hK _ ?_⟩); clear hK K)
        (refine wpQuiet_step (fun K hK => ?_); go_simp; (first | refine hK _ ?_ | refine ⟨_, fun _ _ => rfl, hK _ ?_⟩); clear hK K)
        refine wpQuiet_nil ?_
        clear Z
        intro w3 Z
        go_wp2
        refine QTail.whole (fun W => Below w2.heap.size w2 W) (by kernel_rfl) (by kernel_rfl) (bcj Z (Hash.belowD _)) ?_
        (refine wpQuiet_step (fun K hK => ?_); go_simp; (first | refine hK _ ?_ | refine ⟨_, fun _ _ => rfl, hK _ ?_⟩); clear hK K)
        (refine wpQuiet_step (fun K hK => ?_); go_simp; (first | refine hK _ ?_ | refine ⟨_, fun _ _ => rfl, hK _ ?_⟩); clear hK K)
        (with_reducible refine wpQuiet_step (fun K hK => ?_)); go_simp; (with_reducible refine hK _ ?_); clear hK K
        (with_reducible refine wpQuiet_step (fun K hK => ?_)); go_simp; (with_reducible refine hK _ ?_); clear hK K
        (with_reducible refine wpQuiet_step (fun K hK => ?_)); go_simp; (with_reducible refine hK _ ?_); clear hK K
        (with_reducible refine wpQuiet_step (fun K hK => ?_)); go_simp; (with_reducible refine hK _ ?_); clear hK K
        (with_reducible refine wpQuiet_step (fun K hK => ?_)); go_simp; (with_reducible refine hK _ ?_); clear hK K
        (with_reducible refine wpQuiet_step (fun K hK => ?_)); go_simp; (with_reducible refine hK _ ?_); clear hK K
        (with_reducible refine wpQuiet_step (fun K hK => ?_)); go_simp; (with_reducible refine hK _ ?_); clear hK K
        (with_reducible refine wpQuiet_step (fun K hK => ?_)); go_simp; (with_reducible refine hK _ ?_); clear hK K
        (with_reducible refine wpQuiet_step (fun K hK => ?_)); go_simp; (with_reducible refine hK _ ?_); clear hK K
        (refine wpQuiet_step (fun K hK => ?_); go_simp; (first | refine hK _ ?_ | refine ⟨_, fun _ _ => rfl, hK _ ?_⟩); clear hK K)
        (refine wpQuiet_step (fun K hK => ?_); go_simp; (first | refine hK _ ?_ | refine ⟨_, fun _ _ => rfl, hK _ ?_⟩); clear hK K)
        refine wpQuiet_nil ?_
        clear Z
        intro w4 Z
        have c1 := CA.out w4 Z
        by_cases h32 : k < 32
        · have hh : (k : Int) < 32 := by omega
          go_wp2
          go_roundw
          case rel => exact ⟨k + 1, by omega, by go_num, by rw [HL.out]; simp, by rw [HM.out]; simp, by rw [HIN.out h32]; go_num, Z⟩
          case measure => simp [intOf]; omega
        · have hh : ¬ (k : Int) < 32 := by omega
          go_wp2
          go_roundw
          case rel => exact ⟨k + 1, by omega, by go_num, by rw [HL.out]; simp, by rw [HM.out]; simp, by rw [HOUT.out h32], Z⟩
          case measure => simp [intOf]; omega
      · refine QTail.whole (fun W => Below w2.heap.size w2 W) (by kernel_rfl) (by kernel_rfl) (bcj Z (Hash.belowD _)) ?_
        (refine wpQuiet_step (fun K hK => ?_); go_simp; (first | refine hK _ ?_ | refine ⟨_, fun _ _ => rfl, hK _ ?_⟩); clear hK K)
        (refine wpQuiet_step (fun K hK => ?_); go_simp; (first | refine hK _ ?_ | refine ⟨_, fun _ _ => rfl, hK _ ?_⟩); clear hK K)
        (with_reducible refine wpQuiet_step (fun K hK => ?_)); go_simp; (with_reducible refine hK _ ?_); clear hK K
        (with_reducible refine wpQuiet_step (fun K hK => ?_)); go_simp; (with_reducible refine hK _ ?_); clear hK K
        (with_reducible refine wpQuiet_step (fun K hK => ?_)); go_simp; (with_reducible refine hK _ ?_); clear hK K
        (with_reducible refine wpQuiet_step (fun K hK => ?_)); go_simp; (with_reducible refine hK _ ?_); clear hK K
        (with_reducible refine wpQuiet_step (fun K hK => ?_)); go_simp; (with_reducible refine hK _ ?_); clear hK K
        (with_reducible refine wpQuiet_step (fun K hK => ?_)); go_simp; (with_reducible refine hK _ ?_); clear hK K
        (with_reducible refine wpQuiet_step (fun K hK => ?_)); go_simp; (with_reducible refine hK _ ?_); clear hK K
        (with_reducible refine wpQuiet_step (fun K hK => ?_)); go_simp; (with_reducible refine hK _ ?_); clear hK K
        (with_reducible refine wpQuiet_step (fun K hK => ?_)); go_simp; (with_reducible refine hK _ ?_); clear hK K
        (refine wpQuiet_step (fun K hK => ?_); go_simp; (first | refine hK _ ?_ | refine ⟨_, fun _ _ => rfl, hK _ ?_⟩); clear hK K)
        (refine wpQuiet_step (fun K hK => ?_); go_simp; (first | refine hK _ ?_ | refine ⟨_, fun _ _ => rfl, hK _ ?_⟩); clear hK K)
        refine wpQuiet_nil ?_
        clear Z
        intro w3 Z
        go_wp2
        refine QTail.whole (fun W => Below w2.heap.size w2 W) (by kernel_rfl) (by kernel_rfl) (bcj Z (Hash.belowD _)) ?_
        (refine wpQuiet_step (fun K hK => ?_); go_simp; (first | refine hK _ ?_ | refine ⟨_, fun _ _ => rfl, hK _ ?_⟩); clear hK K)
        (refine wpQuiet_step (fun K hK => ?_); go_simp; (first | refine hK _ ?_ | refine ⟨_, fun _ _ => rfl, hK _ ?_⟩); clear hK K)
        (refine wpQuiet_step (fun K hK => ?_); go_simp; (first | refine hK _ ?_ | refine ⟨_, fun _ _ => rfl, hK _ ?_⟩); clear hK K)
        (refine wpQuiet_step (fun K hK => ?_); go_simp; (first | refine hK _ ?_ | refine ⟨_, fun _ _ => rfl, hK _ ?_⟩); clear hK K)
        (refine wpQuiet_step (fun K hK => ?_); go_simp; refine ⟨(.pointer (some ⟨ga, oa + k, none⟩)), fun W hW => ?_, hK _ ?_⟩; (first | exact ⟨rfl, rfl⟩ | rfl | (rw [if_pos (by omega)]; exact ⟨rfl, rfl⟩) | (rw [if_pos (by omega), if_neg (by omega)]; exact ⟨rfl, rfl⟩) | (rw [if_neg (by omega)]; exact ⟨rfl, rfl⟩)); clear hK K)
        (refine wpQuiet_step (fun K hK => ?_); go_simp; refine ⟨(.int .i64 (x : Int)), fun W hW => ?_, hK _ ?_⟩; (first | (rw [CA.out W hW]; exact ⟨rfl, rfl⟩) | (rw [CA.out W hW]; rfl)); clear hK K)
        (refine wpQuiet_step (fun K hK => ?_); go_simp; (first | refine hK _ ?_ | refine ⟨_, fun _ _ => rfl, hK _ ?_⟩); clear hK K)
        (refine wpQuiet_step (fun K hK => ?_); go_simp; (first | refine hK _ ?_ | refine ⟨_, fun _ _ => rfl, hK _ ?_⟩); clear hK K)
        (refine wpQuiet_step (fun K hK => ?_); go_simp; refine ⟨(.pointer (some ⟨gb, ob + k, none⟩)), fun W hW => ?_, hK _ ?_⟩; (first | exact ⟨rfl, rfl⟩ | rfl | (rw [if_pos (by omega)]; exact ⟨rfl, rfl⟩) | (rw [if_pos (by omega), if_neg (by omega)]; exact ⟨rfl, rfl⟩) | (rw [if_neg (by omega)]; exact ⟨rfl, rfl⟩)); clear hK K)
        (refine wpQuiet_step (fun K hK => ?_); go_simp; refine ⟨(.int .i64 (y : Int)), fun W hW => ?_, hK _ ?_⟩; (first | (rw [CB.out W hW]; exact ⟨rfl, rfl⟩) | (rw [CB.out W hW]; rfl)); clear hK K)
        (refine wpQuiet_step (fun K hK => ?_); go_simp; (first | refine hK _ ?_ | refine ⟨_, fun _ _ => rfl, hK _ ?_⟩); clear hK K)
        (refine wpQuiet_step (fun K hK => ?_); go_simp; (first | refine hK _ ?_ | refine ⟨_, fun _ _ => rfl, hK _ ?_⟩); clear hK K)
        (refine wpQuiet_step (fun K hK => ?_); go_simp; (first | refine hK _ ?_ | refine ⟨_, fun _ _ => rfl, hK _ ?_⟩); clear hK K)
        refine wpQuiet_nil ?_
        clear Z
        intro w4 Z
        have c1 := CA.out w4 Z
        by_cases h32 : k < 32
        · have hh : (k : Int) < 32 := by omega
          go_wp2
          go_roundw
          case rel => exact ⟨k + 1, by omega, by go_num, by rw [HL.out]; simp, by rw [HM.out]; simp, by rw [HIN.out h32]; go_num, Z⟩
          case measure => simp [intOf]; omega
        · have hh : ¬ (k : Int) < 32 := by omega
          go_wp2
          go_roundw
          case rel => exact ⟨k + 1, by omega, by go_num, by rw [HL.out]; simp, by rw [HM.out]; simp, by rw [HOUT.out h32], Z⟩
          case measure => simp [intOf]; omega
      · refine QTail.whole (fun W => Below w2.heap.size w2 W) (by kernel_rfl) (by kernel_rfl) (bcj Z (Hash.belowD _)) ?_
        (refine wpQuiet_step (fun K hK => ?_); go_simp; (first | refine hK _ ?_ | refine ⟨_, fun _ _ => rfl, hK _ ?_⟩); clear hK K)
        (refine wpQuiet_step (fun K hK => ?_); go_simp; (first | refine hK _ ?_ | refine ⟨_, fun _ _ => rfl, hK _ ?_⟩); clear hK K)
        (with_reducible refine wpQuiet_step (fun K hK => ?_)); go_simp; (with_reducible refine hK _ ?_); clear hK K
        (with_reducible refine wpQuiet_step (fun K hK => ?_)); go_simp; (with_reducible refine hK _ ?_); clear hK K
        (with_reducible refine wpQuiet_step (fun K hK => ?_)); go_simp; (with_reducible refine hK _ ?_); clear hK K
        (with_reducible refine wpQuiet_step (fun K hK => ?_)); go_simp; (with_reducible refine hK _ ?_); clear hK K
        (with_reducible refine wpQuiet_step (fun K hK => ?_)); go_simp; (with_reducible refine hK _ ?_); clear hK K
        (with_reducible refine wpQuiet_step (fun K hK => ?_)); go_simp; (with_reducible refine hK _ ?_); clear hK K
        (with_reducible refine wpQuiet_step (fun K hK => ?_)); go_simp; (with_reducible refine hK _ ?_); clear hK K
        (with_reducible refine wpQuiet_step (fun K hK => ?_)); go_simp; (with_reducible refine hK _ ?_); clear hK K
        (with_reducible refine wpQuiet_step (fun K hK => ?_)); go_simp; (with_reducible refine hK _ ?_); clear hK K
        (refine wpQuiet_step (fun K hK => ?_); go_simp; (first | refine hK _ ?_ | refine ⟨_, fun _ _ => rfl, hK _ ?_⟩); clear hK K)
        (refine wpQuiet_step (fun K hK => ?_); go_simp; (first | refine hK _ ?_ | refine ⟨_, fun _ _ => rfl, hK _ ?_⟩); clear hK K)
        refine wpQuiet_nil ?_
        clear Z
        intro w3 Z
        go_wp2
        refine QTail.whole (fun W => Below w2.heap.size w2 W) (by kernel_rfl) (by kernel_rfl) (bcj Z (Hash.belowD _)) ?_
        (refine wpQuiet_step (fun K hK => ?_); go_simp; (first | refine hK _ ?_ | refine ⟨_, fun _ _ => rfl, hK _ ?_⟩); clear hK K)
        (refine wpQuiet_step (fun K hK => ?_); go_simp; (first | refine hK _ ?_ | refine ⟨_, fun _ _ => rfl, hK _ ?_⟩); clear hK K)
        (with_reducible refine wpQuiet_step (fun K hK => ?_)); go_simp; (with_reducible refine hK _ ?_); clear hK K
        (with_reducible refine wpQuiet_step (fun K hK => ?_)); go_simp; (with_reducible refine hK _ ?_); clear hK K
        (with_reducible refine wpQuiet_step (fun K hK => ?_)); go_simp; (with_reducible refine hK _ ?_); clear hK K
        (with_reducible refine wpQuiet_step (fun K hK => ?_)); go_simp; (with_reducible refine hK _ ?_); clear hK K
        (with_reducible refine wpQuiet_step (fun K hK => ?_)); go_simp; (with_reducible refine hK _ ?_); clear hK K
        (with_reducible refine wpQuiet_step (fun K hK => ?_)); go_simp; (with_reducible refine hK _ ?_); clear hK K
        (with_reducible refine wpQuiet_step (fun K hK => ?_)); go_simp; (with_reducible refine hK _ ?_); clear hK K
        (with_reducible refine wpQuiet_step (fun K hK => ?_)); go_simp; (with_reducible refine hK _ ?_); clear hK K
        (with_reducible refine wpQuiet_step (fun K hK => ?_)); go_simp; (with_reducible refine hK _ ?_); clear hK K
        (refine wpQuiet_step (fun K hK => ?_); go_simp; (first | refine hK _ ?_ | refine ⟨_, fun _ _ => rfl, hK _ ?_⟩); clear hK K)
        (refine wpQuiet_step (fun K hK => ?_); go_simp; (first | refine hK _ ?_ | refine ⟨_, fun _ _ => rfl, hK _ ?_⟩); clear hK K)
        refine wpQuiet_nil ?_
        clear Z
        intro w4 Z
        have c1 := CA.out w4 Z
        by_cases h32 : k < 32
        · have hh : (k : Int) < 32 := by omega
          go_wp2
          go_roundw
          case rel => exact ⟨k + 1, by omega, by go_num, by rw [HL.out]; simp, by rw [HM.out]; simp, by rw [HIN.out h32]; go_num, Z⟩
          case measure => simp [intOf]; omega
        · have hh : ¬ (k : Int) < 32 := by omega
          go_wp2
          go_roundw
          case rel => exact ⟨k + 1, by omega, by go_num, by rw [HL.out]; simp, by rw [HM.out]; simp, by rw [HOUT.out h32], Z⟩
          case measure => simp [intOf]; omega
    · have z1 : ¬ (k : Int) < 35 := by omega
      obtain rfl : k = 35 := by omega
      rw [HLS.out, HMR.out]
      obtain ⟨ga, oa, rfl, hga, hc32⟩ := nums_at HL1.out (HX.out 32 (by omega))
      obtain ⟨_, _, e2, -, hc33⟩ := nums_at HL1.out (HX.out 33 (by omega))
      cases e2
      obtain ⟨_, _, e2, -, hc34⟩ := nums_at HL1.out (HX.out 34 (by omega))
      cases e2
      have C32 : Hid (∀ W, Below w2.heap.size w2 W → W.cell? ⟨ga, oa + 32, none⟩ = some (.int .i64 (dig a 32 : Int))) := Lib.hid (fun W h => (h.cell hga).trans hc32)
      have C33 : Hid (∀ W, Below w2.heap.size w2 W → W.cell? ⟨ga, oa + 33, none⟩ = some (.int .i64 (dig a 33 : Int))) := Lib.hid (fun W h => (h.cell hga).trans hc33)
      have C34 : Hid (∀ W, Below w2.heap.size w2 W → W.cell? ⟨ga, oa + 34, none⟩ = some (.int .i64 (dig a 34 : Int))) := Lib.hid (fun W h => (h.cell hga).trans hc34)
      have CP : Hid (∀ W, Below w2.heap.size w2 W → W.rangeAt w.heap.size 0 (a.map bv)) := Lib.hid (fun W h => (HYY.out.on h).p.range)
      have CQ : Hid (∀ W, Below w2.heap.size w2 W → W.rangeAt (w.heap.size + 1) 0 (b.map bv)) := Lib.hid (fun W h => (HYY.out.on h).q.range)
      have S1 := Lib.hid (fun W (h : Below w2.heap.size w2 W) => HS.out W (bcj HYY.out.z h))
      have hsum := HSUM.out
      have l32 := (HLE.out 32).1
      have l33 := (HLE.out 33).1
      have l34 := (HLE.out 34).1
      generalize dig a 32 = x32 at *
      generalize dig a 33 = x33 at *
      generalize dig a 34 = x34 at *
      generalize lackTo a 35 = s at hsum ⊢
      obtain ⟨m1, hm1'⟩ : ∃ m, m = 256 * x32 := ⟨_, rfl⟩
      obtain ⟨m2, hm2'⟩ : ∃ m, m = 16 * x33 := ⟨_, rfl⟩
      obtain ⟨m3, hm3'⟩ : ∃ m, m = m1 + m2 := ⟨_, rfl⟩
      have q1 : IntKind.i64.wrap (256 * (x32 : Int)) = (m1 : Int) := by rw [IntWalk.i64_in _ (by omega)]; omega
      have q2 : IntKind.i64.wrap (16 * (x33 : Int)) = (m2 : Int) := by rw [IntWalk.i64_in _ (by omega)]; omega
      have q3 : IntKind.i64.wrap ((m1 : Int) + (m2 : Int)) = (m3 : Int) := by rw [IntWalk.i64_in _ (by omega)]; omega
      have q4 : IntKind.i64.wrap ((m3 : Int) + (x34 : Int)) = (s : Int) := by rw [IntWalk.i64_in _ (by omega)]; omega
      clear hga hc32 hc33 hc34 hsum l32 l33 l34 hm1' hm2' hm3' HSUM HLE HX HY HLS HMR
      generalize decide (a ≠ b) = c at E0 ⊢
      go_wp2
      cases c
      all_goals (
        refine QTail.whole (fun W => Below w2.heap.size w2 W) (by kernel_rfl) (by kernel_rfl) (bcj Z (Hash.belowD _)) ?_
        (refine wpQuiet_step (fun K hK => ?_); go_simp; refine ⟨_, fun W hW => (S1.out W hW).mono fun e w' ⟨he, hb⟩ => ⟨he, hW.trans (hb.mono hW.size)⟩, hK _ ?_⟩; clear hK K)
        (refine wpQuiet_step (fun K hK => ?_); go_simp; (first | refine hK _ ?_ | refine ⟨_, fun _ _ => rfl, hK _ ?_⟩); clear hK K)
        (refine wpQuiet_step (fun K hK => ?_); go_simp; (first | refine hK _ ?_ | refine ⟨_, fun _ _ => rfl, hK _ ?_⟩); clear hK K)
        (refine wpQuiet_step (fun K hK => ?_); go_simp; (first | refine hK _ ?_ | refine ⟨_, fun _ _ => rfl, hK _ ?_⟩); clear hK K)
        (refine wpQuiet_step (fun K hK => ?_); go_simp; refine ⟨(.pointer (some ⟨ga, oa + 32, none⟩)), fun W hW => ?_, hK _ ?_⟩; (first | exact ⟨rfl, rfl⟩ | rfl | (rw [if_pos (by omega)]; exact ⟨rfl, rfl⟩) | (rw [if_pos (by omega), if_neg (by omega)]; exact ⟨rfl, rfl⟩) | (rw [if_neg (by omega)]; exact ⟨rfl, rfl⟩)); clear hK K)
        (refine wpQuiet_step (fun K hK => ?_); go_simp; refine ⟨(.int .i64 (x32 : Int)), fun W hW => ?_, hK _ ?_⟩; (first | (rw [C32.out W hW]; exact ⟨rfl, rfl⟩) | (rw [C32.out W hW]; rfl)); clear hK K)
        (refine wpQuiet_step (fun K hK => ?_); go_simp; (first | refine hK _ ?_ | refine ⟨_, fun _ _ => rfl, hK _ ?_⟩); clear hK K)
        (refine wpQuiet_step (fun K hK => ?_); go_simp; (first | refine hK _ ?_ | refine ⟨_, fun _ _ => rfl, hK _ ?_⟩); clear hK K)
        (refine wpQuiet_step (fun K hK => ?_); go_simp; refine ⟨(.pointer (some ⟨ga, oa + 33, none⟩)), fun W hW => ?_, hK _ ?_⟩; (first | exact ⟨rfl, rfl⟩ | rfl | (rw [if_pos (by omega)]; exact ⟨rfl, rfl⟩) | (rw [if_pos (by omega), if_neg (by omega)]; exact ⟨rfl, rfl⟩) | (rw [if_neg (by omega)]; exact ⟨rfl, rfl⟩)); clear hK K)
        (refine wpQuiet_step (fun K hK => ?_); go_simp; refine ⟨(.int .i64 (x33 : Int)), fun W hW => ?_, hK _ ?_⟩; (first | (rw [C33.out W hW]; exact ⟨rfl, rfl⟩) | (rw [C33.out W hW]; rfl)); clear hK K)
        (refine wpQuiet_step (fun K hK => ?_); go_simp; (first | refine hK _ ?_ | refine ⟨_, fun _ _ => rfl, hK _ ?_⟩); clear hK K)
        (refine wpQuiet_step (fun K hK => ?_); go_simp; (first | refine hK _ ?_ | refine ⟨_, fun _ _ => rfl, hK _ ?_⟩); clear hK K)
        (refine wpQuiet_step (fun K hK => ?_); go_simp; (first | refine hK _ ?_ | refine ⟨_, fun _ _ => rfl, hK _ ?_⟩); clear hK K)
        (refine wpQuiet_step (fun K hK => ?_); go_simp; refine ⟨(.pointer (some ⟨ga, oa + 34, none⟩)), fun W hW => ?_, hK _ ?_⟩; (first | exact ⟨rfl, rfl⟩ | rfl | (rw [if_pos (by omega)]; exact ⟨rfl, rfl⟩) | (rw [if_pos (by omega), if_neg (by omega)]; exact ⟨rfl, rfl⟩) | (rw [if_neg (by omega)]; exact ⟨rfl, rfl⟩)); clear hK K)
        (refine wpQuiet_step (fun K hK => ?_); go_simp; refine ⟨(.int .i64 (x34 : Int)), fun W hW => ?_, hK _ ?_⟩; (first | (rw [C34.out W hW]; exact ⟨rfl, rfl⟩) | (rw [C34.out W hW]; rfl)); clear hK K)
        (refine wpQuiet_step (fun K hK => ?_); go_simp; (first | refine hK _ ?_ | refine ⟨_, fun _ _ => rfl, hK _ ?_⟩); clear hK K)
        (refine wpQuiet_step (fun K hK => ?_); go_simp; (first | refine hK _ ?_ | refine ⟨_, fun _ _ => rfl, hK _ ?_⟩); clear hK K)
        (refine wpQuiet_step (fun K hK => ?_); go_simp; (first | refine hK _ ?_ | refine ⟨_, fun _ _ => rfl, hK _ ?_⟩); clear hK K)
        (refine wpQuiet_step (fun K hK => ?_); go_simp; (first | refine hK _ ?_ | refine ⟨_, fun _ _ => rfl, hK _ ?_⟩); clear hK K)
        (refine wpQuiet_step (fun K hK => ?_); go_simp; (first | refine hK _ ?_ | refine ⟨_, fun _ _ => rfl, hK _ ?_⟩); clear hK K)
        refine QTail.loadC (by go_simp) 23 (.tmp 2) rfl w.heap.size 0 (by go_simp) (a.map bv) _ CP.out und_d rfl (info_d HA.out) ?_
        refine QTail.loadC (by go_simp) 23 (.tmp 3) rfl (w.heap.size + 1) 0 (by go_simp) (b.map bv) _ CQ.out und_d rfl (info_d HB.out) ?_
        refine QTail.binC (by go_simp) .neq 23 23 (.tmp 92) (.tmp 93) rfl (a.map bv).toArray (b.map bv).toArray (by go_simp) (by go_simp) _ QTail.eqg (fun W _ => E0.out W) ?_
        (refine wpQuiet_step (fun K hK => ?_); go_simp; (first | refine hK _ ?_ | refine ⟨_, fun _ _ => rfl, hK _ ?_⟩); clear hK K)
        (refine wpQuiet_step (fun K hK => ?_); go_simp; (first | refine hK _ ?_ | refine ⟨_, fun _ _ => rfl, hK _ ?_⟩); clear hK K)
        (refine wpQuiet_step (fun K hK => ?_); go_simp; (first | refine hK _ ?_ | refine ⟨_, fun _ _ => rfl, hK _ ?_⟩); clear hK K)
        (refine wpQuiet_step (fun K hK => ?_); go_simp; (first | refine hK _ ?_ | refine ⟨_, fun _ _ => rfl, hK _ ?_⟩); clear hK K)
        refine QTail.loadC (by go_simp) 23 (.tmp 2) rfl w.heap.size 0 (by go_simp) (a.map bv) _ CP.out und_d rfl (info_d HA.out) ?_
        refine QTail.loadC (by go_simp) 23 (.tmp 3) rfl (w.heap.size + 1) 0 (by go_simp) (b.map bv) _ CQ.out und_d rfl (info_d HB.out) ?_
        refine QTail.binC (by go_simp) .neq 23 23 (.tmp 99) (.tmp 100) rfl (a.map bv).toArray (b.map bv).toArray (by go_simp) (by go_simp) _ QTail.eqg (fun W _ => E0.out W) ?_
        (refine wpQuiet_step (fun K hK => ?_); go_simp; (first | refine hK _ ?_ | refine ⟨_, fun _ _ => rfl, hK _ ?_⟩); clear hK K)
        (refine wpQuiet_step (fun K hK => ?_); go_simp; (first | refine hK _ ?_ | refine ⟨_, fun _ _ => rfl, hK _ ?_⟩); clear hK K)
        (refine wpQuiet_step (fun K hK => ?_); go_simp; (first | refine hK _ ?_ | refine ⟨_, fun _ _ => rfl, hK _ ?_⟩); clear hK K)
        refine wpQuiet_nil ?_
        clear Z
        intro w9 Z
        go_wp2
        go_ret
        exact ⟨rfl, bcj HYY.out.z Z⟩)
end Wo
end Go.Proofs.YtmabbiemjeeicaaDoor
