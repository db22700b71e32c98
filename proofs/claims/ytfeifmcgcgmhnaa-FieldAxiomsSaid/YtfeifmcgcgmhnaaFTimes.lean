/- The reference's times. Condition: the slice reads as a list. -/
import Derived.Test.YtfeifmcgcgmhnaaFRoot
import Derived.Test.YtfeifmcgcgmhnaaFRef
namespace Go.Proofs.Ytfeifmcgcgmhnaa
open Go.RowKit
namespace Gf
open Wire (Lies bv)

set_option maxRecDepth 100000 in
set_option maxHeartbeats 1000000 in
theorem times_any (p : List UInt8) (x : UInt8) (n c : Nat) (A : Option Addr) (w : World) (hl : Lies w w.heap.size 1 A n c (p.map bv)) (hn : n ≤ 255) :
    Calls Try.prog 31 #[.slice A n c, .int .u8 (x.toNat : Int)] w (GivesL (times p x) w) := by
  obtain ⟨i0, hi, hz0, hz1, hz2⟩ := info_parts byte_info
  have hmost : c ≤ 9223372036854775807 := by have := hl.most; unfold maxLen at this; omega
  have hle := hl.le
  have hpn : p.length = n := by have := hl.len; simpa using this
  have HPN := Lib.hid hpn
  have HL := Lib.hid hl
  have e0 : wrap64 ((n : Int) + 1) = ((n + 1 : Nat) : Int) := by simp only [wrap64]; omega
  have e1 : IntKind.i64.wrap ((n : Int) + 1) = ((n + 1 : Nat) : Int) := by rw [IntWalk.i64_in _ (by omega)]; omega
  clear hpn hl
  go_enter Try.func31, Try.ntmps31
  go_wp2_with (first
    | (at_make; refine wpList_make_full _ rfl _ _ 30 rfl w.heap.size 5 i0 (.int .u8 0) 1 Try.underlying30 hi hz0 hz1 .i64 .i64 _ _ (n + 1) rfl rfl (by omega) (by omega) (by rw [hz2]; omega) (by unfold maxLen; omega) (Nat.le_refl _) ?_; intro w4 hown4 hg4))
  have hR0 := row_made hown4
  rw [← HPN.out, ← tstep_zero p x, HPN.out] at hR0
  have hb4 : Below w.heap.size w w4 := (Below.refl _ _).grown hg4 (Nat.le_refl _) (by simp)
  clear hown4 hg4
  go_loopw [6] (fun iv wr => ∃ (k : Nat), k ≤ n ∧ iv = .int .i64 (k : Int) ∧ Row wr w.heap.size w.heap.size (n + 1) (tstep p x k) ∧ Below w.heap.size w wr) (fun iv _ => (n - intOf iv).toNat)
  case atStart => exact ⟨0, by omega, rfl, hR0, hb4⟩
  case round =>
    clear hR0 hb4
    obtain ⟨k, hk, rfl, hR, hbw⟩ := hrel
    by_cases hlt : k < n
    · have z0 : (0 : Int) ≤ (k : Int) := by omega
      have z1 : (k : Int) < (n : Int) := by omega
      have z2 : (k : Int) < (n : Int) + 1 := by omega
      obtain ⟨k1, hk1⟩ : ∃ m, m = k + 1 := ⟨_, rfl⟩
      have e4 : IntKind.i64.wrap ((k : Int) + 1) = (k1 : Int) := by rw [IntWalk.i64_in _ (by omega)]; omega
      have z3 : (k1 : Int) < (n : Int) + 1 := by omega
      have z4 : (0 : Int) ≤ (k1 : Int) := by omega
      have HK := Lib.hid hk1
      obtain ⟨b, o, u, rfl, hbb, hu, hcx⟩ := (HL.out.below hbw).at_ hlt
      obtain ⟨d, hd⟩ : ∃ d, p[k]? = some d := ⟨_, List.getElem?_eq_getElem (by rw [HPN.out]; exact hlt)⟩
      rw [List.getElem?_map, hd] at hu
      cases hu
      obtain ⟨u, h0, h1, -, h2⟩ := tstep_next (a := x) hd
      have H0 := Lib.hid h0
      have H1 := Lib.hid h1
      have H2 := Lib.hid h2
      have HR := Lib.hid hR
      have e2 := xor8 u (mul d x)
      have e3 : bits .xor .u8 0 (d.toNat : Int) = (d.toNat : Int) := by have h := xor8 0 d; rw [zero_xor] at h; exact h
      have HM := Lib.hid (fun W => refMul_any d x W)
      have hsz := hR.size
      unfold bv at hcx
      obtain ⟨q1, q2⟩ := hR.at_ h1
      have q1' : wr.cell? ⟨w.heap.size, k + 1, none⟩ = some (.int .u8 0) := q1
      rw [← hk1] at q2 q1'
      have HCX : Hid (∀ W, Below w.heap.size w W → W.cell? ⟨b, o + k, none⟩ = some (.int .u8 (d.toNat : Int))) := Lib.hid (fun W h => by
        obtain ⟨b', o', u', he, _, hu', hc'⟩ := (HL.out.below h).at_ hlt
        cases he
        rw [List.getElem?_map, hd] at hu'
        cases hu'
        exact hc')
      clear h0 h1 h2 hd hR q1 hk1
      generalize mul d x = M at *
      have HZ : Hid (∃ z, z = u ^^^ M) := Lib.hid ⟨_, rfl⟩
      obtain ⟨z, hz⟩ := HZ.out
      rw [← hz] at e2 H2
      clear hz HZ
      go_wp2
      go_still_tail 13, (by kernel_rfl)
      change wpList _ _ _ _ _ wr.drew
      have hb2 : Below wr.heap.size wr wr.drew := (Below.refl _ _).drew
      generalize wr.drew = w2 at hb2 ⊢
      have hR2 := HR.out.on hb2
      obtain ⟨q3, q4⟩ := hR2.at_ H1.out
      rw [← HK.out] at q3 q4
      have hR3 := hR2.set k1 d
      have hb3 : Below w.heap.size w (w2.setCell ⟨w.heap.size, k1, none⟩ (.int .u8 (d.toNat : Int))) := (hbw.trans (hb2.mono hbw.size)).setCell (Nat.le_refl _) _
      have hsz3 := hR3.size
      have HR3 := Lib.hid hR3
      have HB3 := Lib.hid hb3
      clear q1' q2 hcx hR2 hR3 hb2 hb3
      go_wp2
      generalize w2.setCell ⟨w.heap.size, k1, none⟩ (.int .u8 (d.toNat : Int)) = W at *
      have hx2 : ((tstep p x k).set k1 d)[k]? = some u := by rw [List.getElem?_set_ne (by have := HK.out; omega)]; exact H0.out
      have CU : Hid (∀ V, Below W.heap.size W V → V.cell? ⟨w.heap.size, k, none⟩ = some (.int .u8 (u.toNat : Int))) := Lib.hid (fun V h => (h.cell (by show w.heap.size < W.heap.size; exact hsz3)).trans (HR3.out.at_ hx2).1)
      have CD : Hid (∀ V, Below W.heap.size W V → V.cell? ⟨b, o + k, none⟩ = some (.int .u8 (d.toNat : Int))) := Lib.hid (fun V h => HCX.out V (HB3.out.trans (h.mono HB3.out.size)))
      have HX2 := Lib.hid hx2
      clear hx2
      refine QTail.region (C := fun V => Below W.heap.size W V) 13 (by kernel_rfl) (by kernel_rfl) (Below.refl _ _).drew ?_
      (refine wpQuiet_step (fun K hK => ?_); go_simp; (first | refine hK _ ?_ | refine ⟨_, fun _ _ => rfl, hK _ ?_⟩); clear hK K)
      (refine wpQuiet_step (fun K hK => ?_); go_simp; (first | refine hK _ ?_ | refine ⟨_, fun _ _ => rfl, hK _ ?_⟩); clear hK K)
      (refine wpQuiet_step (fun K hK => ?_); go_simp; (first | refine hK _ ?_ | refine ⟨_, fun _ _ => rfl, hK _ ?_⟩); clear hK K)
      (refine wpQuiet_step (fun K hK => ?_); go_simp; (first | refine hK _ ?_ | refine ⟨_, fun _ _ => rfl, hK _ ?_⟩); clear hK K)
      (refine wpQuiet_step (fun K hK => ?_); go_simp; refine ⟨.pointer (some ⟨w.heap.size, k, none⟩), fun W hW => ?_, hK _ ?_⟩; (first | (rw [if_pos (by omega)]; exact ⟨rfl, rfl⟩) | (rw [if_pos (by omega)]; rfl) | exact ⟨rfl, rfl⟩ | rfl); clear hK K)
      (refine wpQuiet_step (fun K hK => ?_); go_simp; refine ⟨.int .u8 (u.toNat : Int), fun W hW => ?_, hK _ ?_⟩; (first | (rw [CU.out W hW]; exact ⟨rfl, rfl⟩) | (rw [CU.out W hW]; rfl)); clear hK K)
      (refine wpQuiet_step (fun K hK => ?_); go_simp; (first | refine hK _ ?_ | refine ⟨_, fun _ _ => rfl, hK _ ?_⟩); clear hK K)
      (refine wpQuiet_step (fun K hK => ?_); go_simp; (first | refine hK _ ?_ | refine ⟨_, fun _ _ => rfl, hK _ ?_⟩); clear hK K)
      (refine wpQuiet_step (fun K hK => ?_); go_simp; refine ⟨.pointer (some ⟨b, o + k, none⟩), fun W hW => ?_, hK _ ?_⟩; (first | (rw [if_pos (by omega)]; exact ⟨rfl, rfl⟩) | (rw [if_pos (by omega)]; rfl) | exact ⟨rfl, rfl⟩ | rfl); clear hK K)
      (refine wpQuiet_step (fun K hK => ?_); go_simp; refine ⟨.int .u8 (d.toNat : Int), fun W hW => ?_, hK _ ?_⟩; (first | (rw [CD.out W hW]; exact ⟨rfl, rfl⟩) | (rw [CD.out W hW]; rfl)); clear hK K)
      (refine wpQuiet_step (fun K hK => ?_); go_simp; (first | refine hK _ ?_ | refine ⟨_, fun _ _ => rfl, hK _ ?_⟩); clear hK K)
      (refine wpQuiet_step (fun K hK => ?_); go_simp; refine ⟨_, fun W hW => (HM.out W).mono fun e w' ⟨he, hb⟩ => ⟨he, hW.trans (hb.mono hW.size)⟩, hK _ ?_⟩; clear hK K)
      (refine wpQuiet_step (fun K hK => ?_); go_simp; (first | refine hK _ ?_ | refine ⟨_, fun _ _ => rfl, hK _ ?_⟩); clear hK K)
      refine wpQuiet_nil ?_
      intro w5 hb5
      have hR5 := HR3.out.on hb5
      obtain ⟨q5, q6⟩ := hR5.at_ HX2.out
      have HR5 := Lib.hid hR5
      clear hR5
      go_wp2
      go_roundw
      case rel => exact ⟨k1, by have := HK.out; omega, rfl, by rw [show tstep p x k1 = ((tstep p x k).set k1 d).set k z by rw [HK.out]; exact H2.out]; exact HR5.out.set _ _, (HB3.out.trans (hb5.mono HB3.out.size)).setCell (Nat.le_refl _) _⟩
      case measure => have := HK.out; simp [intOf]; omega
    · obtain rfl : k = n := by omega
      have z1 : ¬ (k : Int) < (k : Int) := by omega
      have hall := tstep_all p x
      rw [HPN.out] at hall
      rw [hall] at hR
      have HR := Lib.hid hR
      clear hR hall
      go_wp2
      go_ret
      exact ⟨_, _, rfl, HR.out, hbw⟩
end Gf
end Go.Proofs.Ytfeifmcgcgmhnaa
