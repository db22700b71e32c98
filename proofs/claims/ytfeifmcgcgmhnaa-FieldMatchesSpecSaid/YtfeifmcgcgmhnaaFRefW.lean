/- The reference of package field: Weights. Condition: the slice reads as a list. -/
import Derived.Test.YtfeifmcgcgmhnaaFRefD
import Derived.Test.YtfeifmcgcgmhnaaFMath
import Derived.Test.YtfeifmcgcgmhnaaQTail
namespace Go.Proofs.Ytfeifmcgcgmhnaa
open Go.RowKit
namespace Gf
open Wire (Lies bv own_form own_below fresh_one bytes_one lies_own)

theorem byte_info : (Try.prog.info? 5).map (fun i => (i.zero, i.size, i.bytes)) = some (some (.int .u8 0), 1, 1) := by kernel_rfl
theorem lies_up {w : World} {B B' size n c : Nat} {A : Option Addr} {xs : List Value} (h : Lies w B size A n c xs) (hb : B ≤ B') : Lies w B' size A n c xs :=
  ⟨h.len, h.le, h.most, h.some_, fun hn => let ⟨b, o, e, h1, hc⟩ := h.cells hn; ⟨b, o, e, Nat.lt_of_lt_of_le h1 hb, hc⟩⟩
/-- A new slice of bytes and the error number 0. -/
def GivesS (l : List UInt8) (w : World) (e : Ending) (w1 : World) : Prop :=
  ∃ A n c, e = .returned (.tuple #[.slice A n c, .int .i64 0]) ∧ Lies w1 w1.heap.size 1 A n c (l.map bv) ∧ Below w.heap.size w w1
/-- No slice, and an error number. -/
def GivesN (n : Int) (w : World) (e : Ending) (w1 : World) : Prop := e = .returned (.tuple #[.slice none 0 0, .int .i64 n]) ∧ Below w.heap.size w w1

set_option maxRecDepth 100000 in
set_option maxHeartbeats 1000000 in
theorem refWeights_no (xs : List UInt8) (x : UInt8) (n c : Nat) (A : Option Addr) (w : World) (hl : Lies w w.heap.size 1 A n c (xs.map bv)) (hf : ¬ fit xs) :
    Calls Try.prog 18 #[.slice A n c, .int .u8 (x.toNat : Int)] w (GivesN 1 w) := by
  have HD : Hid (∀ W, Below w.heap.size w W → Calls Try.prog 29 #[.slice A n c] W (Tells false W)) := Lib.hid (fun W hb => by
    have := refDistinct_any xs n c A W (lies_up (hl.below hb) hb.size)
    rwa [decide_eq_false hf] at this)
  clear hf hl
  go_enter Try.func18, Try.ntmps18
  go_wp2_with (first
    | (go_at_call 29; (with_reducible refine (HD.out _ (Below.refl _ _)).mono ?_); rintro e w1 ⟨rfl, hb1⟩))
  go_ret2
  exact ⟨rfl, hb1⟩

set_option maxRecDepth 100000 in
set_option maxHeartbeats 1000000 in
theorem refWeights_any (xs : List UInt8) (x : UInt8) (n c : Nat) (A : Option Addr) (w : World) (hl : Lies w w.heap.size 1 A n c (xs.map bv)) (hf : fit xs) :
    Calls Try.prog 18 #[.slice A n c, .int .u8 (x.toNat : Int)] w (GivesS (weights xs x) w) := by
  obtain ⟨i0, hi, hz0, hz1, hz2⟩ := info_parts byte_info
  have HD : Hid (∀ W, Below w.heap.size w W → Calls Try.prog 29 #[.slice A n c] W (Tells true W)) := Lib.hid (fun W hb => by
    have := refDistinct_any xs n c A W (lies_up (hl.below hb) hb.size)
    rwa [decide_eq_true hf] at this)
  have hmost : c ≤ 9223372036854775807 := by have := hl.most; unfold maxLen at this; omega
  have hle := hl.le
  have hpn : xs.length = n := by have := hl.len; simpa using this
  have HPN := Lib.hid hpn
  have HL := Lib.hid hl
  have HF := Lib.hid hf
  have hn255 : n ≤ 255 := by have := hf.2.1; omega
  clear hpn hl hf
  go_enter Try.func18, Try.ntmps18
  go_wp2_with (first
    | (go_at_call 29; (with_reducible refine (HD.out _ (Below.refl _ _)).mono ?_); rintro e w1 ⟨rfl, hb1⟩))
  go_loopw [7, 8] (fun v iv wr => ∃ (k : Nat), k ≤ n ∧ iv = .int .i64 (k : Int) ∧ wr.ownsRow w.heap.size 5 1 v k ((firstW xs x k).map bv) ∧ Below w.heap.size w wr) (fun _ iv _ => (n - intOf iv).toNat)
  case atStart => exact ⟨0, by omega, rfl, World.ownsRow_nil _ _ _ _, hb1⟩
  case round =>
    clear hb1
    obtain ⟨i, hi2, rfl, hown, hbw⟩ := hrel
    by_cases hlt : i < n
    · obtain ⟨b, o, u, rfl, hbb, hu, hcx⟩ := (HL.out.below hbw).at_ hlt
      obtain ⟨a, ha⟩ : ∃ a, xs[i]? = some a := ⟨_, List.getElem?_eq_getElem (by rw [HPN.out]; exact hlt)⟩
      have HA := Lib.hid ha
      have z0 : (0 : Int) ≤ (i : Int) := by omega
      have z1 : (i : Int) < (n : Int) := by omega
      have HO := Lib.hid hown
      clear ha hu hcx hown
      go_wp2
      go_loopw [9, 10, 11] (fun uv dv kv wq => ∃ (k : Nat), k ≤ n ∧ uv = .int .u8 ((away x (others (xs.take k) i)).toNat : Int) ∧ dv = .int .u8 ((away a (others (xs.take k) i)).toNat : Int) ∧ kv = .int .i64 (k : Int) ∧ Below wr.heap.size wr wq) (fun _ _ kv _ => (n - intOf kv).toNat)
      case atStart => exact ⟨0, by omega, by rw [others_zero]; rfl, by rw [others_zero]; rfl, rfl, Below.refl _ _⟩
      case round =>
        obtain ⟨k, hk, rfl, rfl, rfl, hbq⟩ := hrel
        by_cases hkn : k < n
        · have y2 : (0 : Int) ≤ (k : Int) := by omega
          have y3 : (k : Int) < (n : Int) := by omega
          by_cases hki : k = i
          · have hs := others_skip (xs := xs) hki
            subst hki
            go_wp2
            go_roundw
            case rel => exact ⟨k + 1, by omega, by rw [hs], by rw [hs], by go_num, hbq⟩
            case measure => simp [intOf]; omega
          · have hbB := hbw.trans (hbq.mono hbw.size)
            obtain ⟨b2, o2, u2, he, -, hu2, hcy⟩ := (HL.out.below hbB).at_ (j := k) hkn
            cases he
            obtain ⟨b3, o3, u3, he, -, hu3, hcz⟩ := (HL.out.below hbB).at_ (j := i) hlt
            cases he
            obtain ⟨d, hd⟩ : ∃ d, xs[k]? = some d := ⟨_, List.getElem?_eq_getElem (by rw [HPN.out]; omega)⟩
            rw [List.getElem?_map, hd] at hu2
            rw [List.getElem?_map, HA.out] at hu3
            cases hu2
            cases hu3
            unfold bv at hcy hcz
            have hs := others_step hd hki
            have HS1 : Hid (mul (away x (others (xs.take k) i)) (x ^^^ d) = away x (others (xs.take (k + 1)) i)) := Lib.hid (by rw [hs, away_snoc])
            have HS2 : Hid (mul (away a (others (xs.take k) i)) (a ^^^ d) = away a (others (xs.take (k + 1)) i)) := Lib.hid (by rw [hs, away_snoc])
            have hki2 : ¬ (k : Int) = (i : Int) := by omega
            have e1 := xor8 x d
            have e2 := xor8 a d
            have HM1 := Lib.hid (fun W => refMul_any (away x (others (xs.take k) i)) (x ^^^ d) W)
            have HM2 := Lib.hid (fun W => refMul_any (away a (others (xs.take k) i)) (a ^^^ d) W)
            generalize x ^^^ d = Z1 at e1 HM1 HS1
            generalize a ^^^ d = Z2 at e2 HM2 HS2
            generalize away x (others (xs.take k) i) = U at *
            generalize away a (others (xs.take k) i) = D at *
            have CI : Hid (∀ W, Below wr.heap.size wr W → W.cell? ⟨b, o + i, none⟩ = some (.int .u8 (a.toNat : Int))) := Lib.hid (fun W h => (h.cell (by show b < wr.heap.size; have := hbB.size; omega)).trans hcz)
            have CK : Hid (∀ W, Below wr.heap.size wr W → W.cell? ⟨b, o + k, none⟩ = some (.int .u8 (d.toNat : Int))) := Lib.hid (fun W h => (h.cell (by show b < wr.heap.size; have := hbB.size; omega)).trans hcy)
            clear hs hd
            go_wp2_with (first
              | (go_at_call 15; (with_reducible refine (HM1.out _).mono ?_); rintro e w2 ⟨rfl, hb2⟩)
              | (go_at_call 15; (with_reducible refine (HM2.out _).mono ?_); rintro e w3 ⟨rfl, hb3⟩))
            refine QTail.whole (fun W => Below wr.heap.size wr W) (by kernel_rfl) (by kernel_rfl) hb2.drew ?_
            (refine wpQuiet_step (fun K hK => ?_); go_simp; (first | refine hK _ ?_ | refine ⟨_, fun _ _ => rfl, hK _ ?_⟩); clear hK K)
            (refine wpQuiet_step (fun K hK => ?_); go_simp; (first | refine hK _ ?_ | refine ⟨_, fun _ _ => rfl, hK _ ?_⟩); clear hK K)
            (refine wpQuiet_step (fun K hK => ?_); go_simp; (first | refine hK _ ?_ | refine ⟨_, fun _ _ => rfl, hK _ ?_⟩); clear hK K)
            (refine wpQuiet_step (fun K hK => ?_); go_simp; refine ⟨.pointer (some ⟨b, o + i, none⟩), fun W hW => ?_, hK _ ?_⟩; (first | (rw [if_pos (by omega)]; exact ⟨rfl, rfl⟩) | (rw [if_pos (by omega)]; rfl) | exact ⟨rfl, rfl⟩ | rfl); clear hK K)
            (refine wpQuiet_step (fun K hK => ?_); go_simp; refine ⟨.int .u8 (a.toNat : Int), fun W hW => ?_, hK _ ?_⟩; (first | (rw [CI.out W hW]; exact ⟨rfl, rfl⟩) | (rw [CI.out W hW]; rfl)); clear hK K)
            (refine wpQuiet_step (fun K hK => ?_); go_simp; (first | refine hK _ ?_ | refine ⟨_, fun _ _ => rfl, hK _ ?_⟩); clear hK K)
            (refine wpQuiet_step (fun K hK => ?_); go_simp; (first | refine hK _ ?_ | refine ⟨_, fun _ _ => rfl, hK _ ?_⟩); clear hK K)
            (refine wpQuiet_step (fun K hK => ?_); go_simp; refine ⟨.pointer (some ⟨b, o + k, none⟩), fun W hW => ?_, hK _ ?_⟩; (first | (rw [if_pos (by omega)]; exact ⟨rfl, rfl⟩) | (rw [if_pos (by omega)]; rfl) | exact ⟨rfl, rfl⟩ | rfl); clear hK K)
            (refine wpQuiet_step (fun K hK => ?_); go_simp; refine ⟨.int .u8 (d.toNat : Int), fun W hW => ?_, hK _ ?_⟩; (first | (rw [CK.out W hW]; exact ⟨rfl, rfl⟩) | (rw [CK.out W hW]; rfl)); clear hK K)
            (refine wpQuiet_step (fun K hK => ?_); go_simp; (first | refine hK _ ?_ | refine ⟨_, fun _ _ => rfl, hK _ ?_⟩); clear hK K)
            (refine wpQuiet_step (fun K hK => ?_); go_simp; refine ⟨_, fun W hW => (HM2.out W).mono fun e w' ⟨he, hb⟩ => ⟨he, hW.trans (hb.mono hW.size)⟩, hK _ ?_⟩; clear hK K)
            (refine wpQuiet_step (fun K hK => ?_); go_simp; (first | refine hK _ ?_ | refine ⟨_, fun _ _ => rfl, hK _ ?_⟩); clear hK K)
            refine wpQuiet_nil ?_
            intro w3 hq
            go_wp2
            go_roundw
            case rel => exact ⟨k + 1, by omega, by rw [← HS1.out], by rw [← HS2.out], by go_num, hbq.trans (hq.mono hbq.size)⟩
            case measure => simp [intOf]; omega
        · obtain rfl : k = n := by omega
          have y3 : ¬ (k : Int) < (k : Int) := by omega
          have hT : xs.take k = xs := List.take_of_length_le (by rw [HPN.out]; omega)
          rw [hT]
          have HDV := Lib.hid (fun W => refDiv_any (away x (others xs i)) (away a (others xs i)) (away_ne (not_others HF.out.2.2 HA.out)) W)
          have hw := weight_at HA.out x
          rw [← hw] at HDV
          have htk : (firstW xs x (i + 1)).map bv = (firstW xs x i).map bv ++ [bv (weight xs x i)] := by rw [firstW_succ, List.map_append]; rfl
          have HTK := Lib.hid htk
          generalize weight xs x i = G at HDV HTK
          generalize away x (others xs i) = U at *
          generalize away a (others xs i) = D at *
          have ho2 := own_below HO.out hbq
          have hbB := hbw.trans (hbq.mono hbw.size)
          clear hw htk hT
          have hown3 := HO.out.lt
          have fin : ∀ v' w' wm, Below wr.heap.size wr wm → w'.ownsRow w.heap.size 5 1 v' (i + 1) ((firstW xs x i).map bv ++ [bv G]) → (wm.alloc (.cells #[bv G] 5)).grownBy w' u7.ownBlock →
              ∃ (j : Nat), j ≤ k ∧ Value.int .i64 ((i : Int) + 1) = .int .i64 (j : Int) ∧ w'.ownsRow w.heap.size 5 1 v' j ((firstW xs x j).map bv) ∧ Below w.heap.size w w' := by
            intro v' w' wm hm h1 h2
            have hB2 := hbB.trans (hm.mono hbB.size)
            exact ⟨i + 1, by omega, by go_num, by rw [HTK.out]; exact h1, (hB2.alloc hB2.size _).grown h2 (by have := hB2.size; simp; omega) (fun p hp => (hown3 p hp).1)⟩
          have FIN := Lib.hid fin
          clear fin hown3
          go_wp2_with (first
            | (go_at_call 12; (with_reducible refine (HDV.out _).mono ?_); rintro e w2 ⟨rfl, hb2⟩)
            | (at_builtin; refine wpList_append_own _ rfl (.tmp 58) (.tmp 60) _ rfl w.heap.size 5 i0 (.int .u8 0) 1 1 Try.underlying30 hi hz0 hz1 hz2 rfl (by decide) _ i _ rfl ((own_below ho2 hb2).alloc _) ⟨w2.heap.size, 0, none⟩ 1 1 [.int .u8 (G.toNat : Int)] rfl rfl (fresh_one _ _ _) (by intro u hu; simp at hu; subst hu; rfl) (by unfold maxLen; omega) (by omega) (by have := hbB.size; have := hb2.size; simp; omega) ?_; intro v4 w4 ho4 hg4 _))
          go_roundw
          case rel => exact FIN.out _ _ _ hb2 ho4 hg4
          case measure => simp [intOf]; omega
    · obtain rfl : i = n := by omega
      have z1 : ¬ (i : Int) < (i : Int) := by omega
      have hpos : 0 < i := by have := HF.out.1; rw [HPN.out] at this; exact this
      have hW : firstW xs x i = weights xs x := by unfold firstW weights; rw [HPN.out]
      rw [hW] at hown
      obtain ⟨g, c2, rfl, hg1, hg2, hg3, hg4⟩ := own_form hown hpos
      have hlo := lies_own hown
      have HLO := Lib.hid hlo
      clear hown hlo hW
      go_wp2
      go_ret2
      exact ⟨_, _, _, rfl, HLO.out, hbw⟩
end Gf
end Go.Proofs.Ytfeifmcgcgmhnaa
