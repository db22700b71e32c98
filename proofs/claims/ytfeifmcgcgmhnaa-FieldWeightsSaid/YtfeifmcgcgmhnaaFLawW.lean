/- The walk of FieldWeights. Conditions: the slice reads as a list, the number is one of 64 bits. -/
import Derived.Test.YtfeifmcgcgmhnaaFApp
import Derived.Test.YtfeifmcgcgmhnaaFLawP
import Derived.Test.YtfeifmcgcgmhnaaFTurn
namespace Go.Proofs.Ytfeifmcgcgmhnaa
open Go.RowKit
namespace Gf
open Wire (Lies bv own_below fresh_one bytes_one lies_own)

set_option maxRecDepth 100000 in
set_option maxHeartbeats 2000000 in
theorem weightsLaw_in (xs : List UInt8) (x : UInt8) (k n c : Nat) (A : Option Addr) (w : World) (hl : Lies w w.heap.size 1 A n c (xs.map bv)) (hn40 : n ≤ 40) (hf : fit xs) (hk : k < n) :
    Calls Try.prog 7 #[.slice A n c, .int .u8 (x.toNat : Int), .int .i64 (k : Int)] w (Tells true w) := by
  have HS := Lib.hid sanity_any
  have HFW := Lib.hid (few_any n c 0 0 A none)
  rw [decide_eq_true ⟨hn40, by decide⟩] at HFW
  have Z := Below.refl w.heap.size w
  obtain ⟨i0, hi, hz0, hz1, hz2⟩ := info_parts byte_info
  have hmost : c ≤ 9223372036854775807 := by have := hl.most; unfold maxLen at this; omega
  have hle := hl.le
  have hpn : xs.length = n := by have := hl.len; simpa using this
  have HPN := Lib.hid hpn
  have HF := Lib.hid hf
  have HW := Lib.hid (fun W h => weights_any xs x n c A W h hf)
  have z8 : (0 : Int) ≤ (k : Int) := by omega
  have z9 : (k : Int) < (n : Int) := by omega
  clear hpn hf
  go_enter Try.func7, Try.ntmps7
  go_wp2_with (first
    | (go_at_call 16; (with_reducible refine (HFW.out _).mono ?_); rintro e w0 ⟨rfl, hb⟩; replace Z := bcj Z hb; replace hl := hl.on hb; clear hb)
    | (go_at_call 17; (with_reducible refine (HW.out _ hl).mono ?_); rintro e w1 ⟨A1, n1, c1, rfl, r1, hb⟩; replace Z := bcj Z hb; replace hl := hl.on hb; have hn1 : n1 = n := (by have h := r1.len; rw [List.length_map, weights_length, HPN.out] at h; omega); subst hn1; clear hb; have HR1 := Lib.hid r1; have HL := Lib.hid hl; have HZ := Lib.hid Z; clear r1 hl Z))
  go_loopw [10, 11] (fun sv iv wr => ∃ (i : Nat), i ≤ n1 ∧ sv = .int .u8 ((sum ((weights xs x).take i)).toNat : Int) ∧ iv = .int .i64 (i : Int) ∧ Below w1.heap.size w1 wr) (fun _ iv _ => (n1 - intOf iv).toNat)
  case atStart => exact ⟨0, by omega, rfl, rfl, Below.refl _ _⟩
  case round =>
    obtain ⟨i, hi3, rfl, rfl, hbw⟩ := hrel
    by_cases hlt : i < n1
    · have z0 : (0 : Int) ≤ (i : Int) := by omega
      have z1 : (i : Int) < (n1 : Int) := by omega
      obtain ⟨b, o, u, rfl, hbb, hu, hcx⟩ := (HR1.out.below hbw).at_ hlt
      have hg := weights_at (xs := xs) (x := x) (i := i) (by rw [HPN.out]; exact hlt)
      rw [List.getElem?_map, hg] at hu
      cases hu
      unfold bv at hcx
      have hs := sum_take hg
      have e1 := xor8 (sum ((weights xs x).take i)) (weight xs x i)
      rw [← hs] at e1
      generalize weight xs x i = G at *
      clear hs hg
      go_wp2
      go_roundw
      case rel => exact ⟨i + 1, by omega, rfl, by go_num, hbw⟩
      case measure => simp [intOf]; omega
    · obtain rfl : i = n1 := by omega
      have z1 : ¬ (i : Int) < (i : Int) := by omega
      have hsum : sum ((weights xs x).take i) = 1 := by
        rw [List.take_of_length_le (by rw [weights_length, HPN.out]; omega)]
        exact weights_sum HF.out.2.2 (by intro h; have := HF.out.1; rw [h] at this; simp at this) x
      rw [hsum]
      have hl := HL.out.on hbw
      have r1 := HR1.out.on hbw
      have Z := bcj HZ.out hbw
      obtain ⟨b, o, u, rfl, hbb, hu, hcx⟩ := hl.at_ (j := k) hk
      obtain ⟨a, ha⟩ : ∃ a, xs[k]? = some a := ⟨_, List.getElem?_eq_getElem (by rw [HPN.out]; exact hk)⟩
      rw [List.getElem?_map, ha] at hu
      cases hu
      unfold bv at hcx
      have HA := Lib.hid ha
      have HW2 := Lib.hid (fun W h => weights_any xs a i c (some ⟨b, o, none⟩) W h HF.out)
      clear hbw hsum ha
      go_wp2_with (first
        | (go_at_call 17; (with_reducible refine (HW2.out _ hl).mono ?_); rintro e w2 ⟨A2, n2, c2, rfl, r2, hb⟩; replace Z := bcj Z hb; replace hl := hl.on hb; replace r1 := r1.on hb; have hn2 : n2 = i := (by have h := r2.len; rw [List.length_map, weights_length, HPN.out] at h; omega); subst hn2; clear hb hcx))
      have HL2 := Lib.hid hl
      have HR3 := Lib.hid r1
      have HR4 := Lib.hid r2
      have HZ2 := Lib.hid Z
      clear hl r1 r2 Z
      go_loopw [14] (fun jv wr => ∃ (j : Nat), j ≤ n2 ∧ jv = .int .i64 (j : Int) ∧ Below w2.heap.size w2 wr) (fun jv _ => (n2 - intOf jv).toNat)
      case atStart => exact ⟨0, by omega, rfl, Below.refl _ _⟩
      case round =>
        obtain ⟨j, hj, rfl, hbj⟩ := hrel
        by_cases hjn : j < n2
        · have y0 : (0 : Int) ≤ (j : Int) := by omega
          have y1 : (j : Int) < (n2 : Int) := by omega
          obtain ⟨b3, o3, u, rfl, hbb3, hu, hcy⟩ := (HR4.out.below hbj).at_ hjn
          have hg := weights_self HF.out.2.2 HA.out (i := j) (by rw [HPN.out]; exact hjn)
          rw [List.getElem?_map, hg] at hu
          cases hu
          unfold bv at hcy
          by_cases hjk : j = k
          · subst hjk
            rw [if_pos rfl] at hcy
            have hcz : wr.cell? ⟨b3, o3 + j, none⟩ = some (.int .u8 1) := hcy
            clear hcy hg
            go_wp2
            go_roundw
            case rel => exact ⟨j + 1, by omega, by go_num, hbj⟩
            case measure => simp [intOf]; omega
          · rw [if_neg hjk] at hcy
            have hcz : wr.cell? ⟨b3, o3 + j, none⟩ = some (.int .u8 0) := hcy
            have hjk2 : ¬ (j : Int) = (k : Int) := by omega
            have hjk3 : ((j : Int) == (k : Int)) = false := by simpa using hjk2
            clear hcy hg
            go_wp2
            go_roundw
            case rel => exact ⟨j + 1, by omega, by go_num, hbj⟩
            case measure => simp [intOf]; omega
        · obtain rfl : j = n2 := by omega
          have y1 : ¬ (j : Int) < (j : Int) := by omega
          have hl := HL2.out.on hbj
          have r1 := HR3.out.on hbj
          have Z := bcj HZ2.out hbj
          have hjk : j - k ≤ 40 := by omega
          have hdr := hl.drop (k := k) (by omega)
          have hdl : ((xs.drop k).map bv).length = (j - k) * 1 := by rw [List.length_map, List.length_drop, HPN.out]; omega
          have HTU := Lib.hid (turned_fit HF.out (k := k))
          have HTL : Hid ((xs.drop k ++ xs.take k).length = j) := Lib.hid ((turned_len xs k).trans HPN.out)
          have HTZ := Lib.hid (turned_zero HA.out x)
          have HWK := Lib.hid (weights_at (xs := xs) (x := x) (i := k) (by rw [HPN.out]; exact hk))
          have HNW := Lib.hid (lies_news hdr)
          have HDL := Lib.hid hdl
          clear hbj hdr hdl
          go_wp2_with (first
            | (at_builtin; refine wpList_append_own _ rfl (.tmp 108) (.tmp 111) _ rfl wr.heap.size 5 i0 (.int .u8 0) 1 1 Try.underlying30 hi hz0 hz1 hz2 rfl (by decide) _ 0 [] rfl (World.ownsRow_nil _ _ _ _) ⟨b, o + k, none⟩ (j - k) _ _ rfl HDL.out HNW.out (bytes_one _) (by unfold maxLen; omega) (by omega) (Nat.le_refl _) ?_; intro v4 w4 ho4 hg4 _; rw [List.nil_append, Nat.zero_add] at ho4; have hb4 : Below wr.heap.size wr w4 := (Below.refl _ _).grown hg4 (Nat.le_refl _) (fun q hq => by cases hq); obtain ⟨g4, c4, rfl, -, -, -, -⟩ := Wire.own_form ho4 (by omega); have hl4 := hl.on hb4; clear hg4 hl)
            | (at_builtin; refine wpList_append_lies rfl (.tmp 113) (.tmp 116) rfl wr.heap.size g4 (j - k) c4 (xs.drop k) rfl ho4 (some ⟨b, o, none⟩) k c (xs.take k) rfl (lies_take hl4 (by omega)) (by omega) hb4.size j (by omega) _ rfl ?_; intro g6 c6 w6 ho6 hb6; have hb46 := hb4.trans hb6; replace r1 := lies_up (r1.below hb46) hb46.size; replace Z := bcj Z hb46; have r6 := lies_own ho6; clear ho6 ho4 hb6 hb4 hb46 hl4)
            | (go_at_call 17; (with_reducible refine (weights_any _ _ _ _ _ _ r6 HTU.out).mono ?_); rintro e w7 ⟨A7, n7, c7, rfl, r7, hb⟩; have hn7 : n7 = j := (by have h := r7.len; rw [List.length_map, weights_length, HTL.out] at h; omega); subst hn7; replace Z := bcj Z hb; replace r1 := r1.on hb; clear hb r6; obtain ⟨b7, o7, u7, rfl, hb7, hu7, hc7⟩ := r7.at_ (j := 0) (by omega); obtain ⟨b8, o8, u8, rfl, hb8, hu8, hc8⟩ := r1.at_ (j := k) hk; rw [List.getElem?_map, HTZ.out] at hu7; rw [List.getElem?_map, HWK.out] at hu8; cases hu7; cases hu8; unfold bv at hc7 hc8; rw [Nat.add_zero] at hc7; clear r1 r7))
          have C7 : Hid (∀ W, Below w7.heap.size w7 W → W.cell? ⟨b7, o7, none⟩ = some (.int .u8 ((weight xs x k).toNat : Int))) := Lib.hid (fun W h => (h.cell (by show b7 < w7.heap.size; exact hb7)).trans hc7)
          have C8 : Hid (∀ W, Below w7.heap.size w7 W → W.cell? ⟨b8, o8 + k, none⟩ = some (.int .u8 ((weight xs x k).toNat : Int))) := Lib.hid (fun W h => (h.cell (by show b8 < w7.heap.size; exact hb8)).trans hc8)
          generalize weight xs x k = G at *
          clear hc7 hc8
          refine QTail.whole (fun W => Below w7.heap.size w7 W) (by kernel_rfl) (by kernel_rfl) (Below.refl _ _).drew ?_
          (refine wpQuiet_step (fun K hK => ?_); go_simp; refine ⟨_, fun W hW => (HS.out W).mono fun e w' ⟨he, hb⟩ => ⟨he, hW.trans (hb.mono hW.size)⟩, hK _ ?_⟩; clear hK K)
          (refine wpQuiet_step (fun K hK => ?_); go_simp; (first | refine hK _ ?_ | refine ⟨_, fun _ _ => rfl, hK _ ?_⟩); clear hK K)
          (refine wpQuiet_step (fun K hK => ?_); go_simp; (first | refine hK _ ?_ | refine ⟨_, fun _ _ => rfl, hK _ ?_⟩); clear hK K)
          (refine wpQuiet_step (fun K hK => ?_); go_simp; (first | refine hK _ ?_ | refine ⟨_, fun _ _ => rfl, hK _ ?_⟩); clear hK K)
          (refine wpQuiet_step (fun K hK => ?_); go_simp; (first | refine hK _ ?_ | refine ⟨_, fun _ _ => rfl, hK _ ?_⟩); clear hK K)
          (refine wpQuiet_step (fun K hK => ?_); go_simp; (first | refine hK _ ?_ | refine ⟨_, fun _ _ => rfl, hK _ ?_⟩); clear hK K)
          (refine wpQuiet_step (fun K hK => ?_); go_simp; (first | refine hK _ ?_ | refine ⟨_, fun _ _ => rfl, hK _ ?_⟩); clear hK K)
          (refine wpQuiet_step (fun K hK => ?_); go_simp; (first | refine hK _ ?_ | refine ⟨_, fun _ _ => rfl, hK _ ?_⟩); clear hK K)
          (refine wpQuiet_step (fun K hK => ?_); go_simp; (first | refine hK _ ?_ | refine ⟨_, fun _ _ => rfl, hK _ ?_⟩); clear hK K)
          (refine wpQuiet_step (fun K hK => ?_); go_simp; (first | refine hK _ ?_ | refine ⟨_, fun _ _ => rfl, hK _ ?_⟩); clear hK K)
          (refine wpQuiet_step (fun K hK => ?_); go_simp; (first | refine hK _ ?_ | refine ⟨_, fun _ _ => rfl, hK _ ?_⟩); clear hK K)
          (refine wpQuiet_step (fun K hK => ?_); go_simp; (first | refine hK _ ?_ | refine ⟨_, fun _ _ => rfl, hK _ ?_⟩); clear hK K)
          (refine wpQuiet_step (fun K hK => ?_); go_simp; (first | refine hK _ ?_ | refine ⟨_, fun _ _ => rfl, hK _ ?_⟩); clear hK K)
          (refine wpQuiet_step (fun K hK => ?_); go_simp; (first | refine hK _ ?_ | refine ⟨_, fun _ _ => rfl, hK _ ?_⟩); clear hK K)
          (refine wpQuiet_step (fun K hK => ?_); go_simp; (first | refine hK _ ?_ | refine ⟨_, fun _ _ => rfl, hK _ ?_⟩); clear hK K)
          (refine wpQuiet_step (fun K hK => ?_); go_simp; (first | refine hK _ ?_ | refine ⟨_, fun _ _ => rfl, hK _ ?_⟩); clear hK K)
          (refine wpQuiet_step (fun K hK => ?_); go_simp; (first | refine hK _ ?_ | refine ⟨_, fun _ _ => rfl, hK _ ?_⟩); clear hK K)
          (refine wpQuiet_step (fun K hK => ?_); go_simp; (first | refine hK _ ?_ | refine ⟨_, fun _ _ => rfl, hK _ ?_⟩); clear hK K)
          (refine wpQuiet_step (fun K hK => ?_); go_simp; refine ⟨.pointer (some ⟨b7, o7, none⟩), fun W hW => ?_, hK _ ?_⟩; (first | (rw [if_pos (by omega)]; exact ⟨rfl, rfl⟩) | (rw [if_pos (by omega)]; rfl) | exact ⟨rfl, rfl⟩ | rfl); clear hK K)
          (refine wpQuiet_step (fun K hK => ?_); go_simp; refine ⟨.int .u8 (G.toNat : Int), fun W hW => ?_, hK _ ?_⟩; (first | (rw [C7.out W hW]; exact ⟨rfl, rfl⟩) | (rw [C7.out W hW]; rfl)); clear hK K)
          (refine wpQuiet_step (fun K hK => ?_); go_simp; (first | refine hK _ ?_ | refine ⟨_, fun _ _ => rfl, hK _ ?_⟩); clear hK K)
          (refine wpQuiet_step (fun K hK => ?_); go_simp; (first | refine hK _ ?_ | refine ⟨_, fun _ _ => rfl, hK _ ?_⟩); clear hK K)
          (refine wpQuiet_step (fun K hK => ?_); go_simp; refine ⟨.pointer (some ⟨b8, o8 + k, none⟩), fun W hW => ?_, hK _ ?_⟩; (first | (rw [if_pos (by omega)]; exact ⟨rfl, rfl⟩) | (rw [if_pos (by omega)]; rfl) | exact ⟨rfl, rfl⟩ | rfl); clear hK K)
          (refine wpQuiet_step (fun K hK => ?_); go_simp; refine ⟨.int .u8 (G.toNat : Int), fun W hW => ?_, hK _ ?_⟩; (first | (rw [C8.out W hW]; exact ⟨rfl, rfl⟩) | (rw [C8.out W hW]; rfl)); clear hK K)
          (refine wpQuiet_step (fun K hK => ?_); go_simp; (first | refine hK _ ?_ | refine ⟨_, fun _ _ => rfl, hK _ ?_⟩); clear hK K)
          (refine wpQuiet_step (fun K hK => ?_); go_simp; (first | refine hK _ ?_ | refine ⟨_, fun _ _ => rfl, hK _ ?_⟩); clear hK K)
          (refine wpQuiet_step (fun K hK => ?_); go_simp; (first | refine hK _ ?_ | refine ⟨_, fun _ _ => rfl, hK _ ?_⟩); clear hK K)
          refine wpQuiet_nil ?_
          intro w9 hq
          go_wp2
          go_ret
          exact ⟨rfl, Z.trans (hq.mono Z.size)⟩

set_option maxRecDepth 100000 in
set_option maxHeartbeats 2000000 in
theorem weightsLaw (xs : List UInt8) (x : UInt8) (k : Int) (n c : Nat) (A : Option Addr) (w : World) (hl : Lies w w.heap.size 1 A n c (xs.map bv)) (hk0 : -9223372036854775808 ≤ k ∧ k ≤ 9223372036854775807) :
    Calls Try.prog 7 #[.slice A n c, .int .u8 (x.toNat : Int), .int .i64 k] w (Tells true w) := by
  have HS := Lib.hid sanity_any
  have HFW := Lib.hid (few_any n c 0 0 A none)
  have Z := Below.refl w.heap.size w
  obtain ⟨l, kk, hw1, -⟩ := weights_both xs x n c A
  have HW := Lib.hid hw1
  clear hw1
  by_cases hn40 : n ≤ 40
  · rw [decide_eq_true ⟨hn40, by decide⟩] at HFW
    by_cases hf : fit xs
    · by_cases hk : 0 ≤ k ∧ k < n
      · obtain ⟨m, rfl⟩ : ∃ m : Nat, k = (m : Int) := ⟨k.toNat, by omega⟩
        exact weightsLaw_in xs x m n c A w hl hn40 hf (by omega)
      · have hpn : xs.length = n := by have := hl.len; simpa using this
        have HPN := Lib.hid hpn
        have HW1 := Lib.hid (fun W h => weights_any xs x n c A W h hf)
        have hk2 : k < 0 ∨ (¬ k < 0 ∧ (n : Int) ≤ k) := by omega
        clear hpn hf HW hk
        rcases hk2 with hk2 | ⟨hk2, hk3⟩
        all_goals
          go_enter Try.func7, Try.ntmps7
          go_wp2_with (first
            | (go_at_call 16; (with_reducible refine (HFW.out _).mono ?_); rintro e w0 ⟨rfl, hb⟩; replace Z := bcj Z hb; replace hl := hl.on hb; clear hb)
            | (go_at_call 17; (with_reducible refine (HW1.out _ hl).mono ?_); rintro e w1 ⟨A1, n1, c1, rfl, r1, hb⟩; replace Z := bcj Z hb; have hn1 : n1 = n := (by have h := r1.len; rw [List.length_map, weights_length, HPN.out] at h; omega); subst hn1; clear hb r1)
            | (go_at_call 13; (with_reducible refine (HS.out _).mono ?_); rintro e w8 ⟨rfl, hb⟩; replace Z := bcj Z hb; clear hb))
          go_ret
          exact ⟨rfl, Z⟩
    · have HN := Lib.hid (fun W h => weights_no xs x n c A W h hf)
      clear HW hf
      go_enter Try.func7, Try.ntmps7
      go_wp2_with (first
        | (go_at_call 16; (with_reducible refine (HFW.out _).mono ?_); rintro e w0 ⟨rfl, hb⟩; replace Z := bcj Z hb; replace hl := hl.on hb; clear hb)
        | (go_at_call 17; (with_reducible refine (HN.out _ hl).mono ?_); rintro e w1 ⟨rfl, hb⟩; replace Z := bcj Z hb; clear hb)
        | (go_at_call 13; (with_reducible refine (HS.out _).mono ?_); rintro e w8 ⟨rfl, hb⟩; replace Z := bcj Z hb; clear hb))
      go_ret
      exact ⟨rfl, Z⟩
  · rw [decide_eq_false (fun h => hn40 h.1)] at HFW
    clear hn40
    go_enter Try.func7, Try.ntmps7
    go_wp2_with (first
      | (go_at_call 16; (with_reducible refine (HFW.out _).mono ?_); rintro e w0 ⟨rfl, hb⟩; replace Z := bcj Z hb; replace hl := hl.on hb; clear hb)
      | (go_at_call 17; (with_reducible refine (HW.out _ hl).mono ?_); rintro e w1 ⟨A1, n1, c1, rfl, r1, hb⟩; replace Z := bcj Z hb; clear hb r1)
      | (go_at_call 13; (with_reducible refine (HS.out _).mono ?_); rintro e w8 ⟨rfl, hb⟩; replace Z := bcj Z hb; clear hb))
    go_ret
    exact ⟨rfl, Z⟩
end Gf
end Go.Proofs.Ytfeifmcgcgmhnaa
