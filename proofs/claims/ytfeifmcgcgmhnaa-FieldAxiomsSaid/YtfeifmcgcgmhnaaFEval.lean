/- The package field as landed: Eval. Condition: the slice reads as a list. -/
import Derived.Test.YtfeifmcgcgmhnaaFInv
import Derived.Test.YtfeifmcgcgmhnaaQTail
namespace Go.Proofs.Ytfeifmcgcgmhnaa
open Go.RowKit
namespace Gf
open Wire (Lies bv)

theorem eval_drop {x a : UInt8} {p : List UInt8} {m : Nat} (h : p[m]? = some a) : eval x (p.drop m) = mul (eval x (p.drop (m + 1))) x ^^^ a := by
  have hm := (List.getElem?_eq_some_iff.1 h).1
  have e : p.drop m = a :: p.drop (m + 1) := by
    rw [List.drop_eq_getElem_cons hm]
    congr 1
    rw [List.getElem?_eq_getElem hm] at h
    exact Option.some.inj h
  rw [e, eval, xor_comm, mul_comm]

set_option maxRecDepth 100000 in
set_option maxHeartbeats 1000000 in
theorem eval_any (p : List UInt8) (x : UInt8) (n c : Nat) (A : Option Addr) (w : World) (hl : Lies w w.heap.size 1 A n c (p.map bv)) :
    Calls Try.prog 23 #[.slice A n c, .int .u8 (x.toNat : Int)] w (GivesB (eval x p) w) := by
  have hmost : c ≤ 9223372036854775807 := by have := hl.most; unfold maxLen at this; omega
  have hle := hl.le
  have hpn : p.length = n := by have := hl.len; simpa using this
  have HPN := Lib.hid hpn
  have HL := Lib.hid hl
  clear hpn hl
  have e0 : wrap64 ((n : Int) - 1) = (n : Int) - 1 := by simp only [wrap64]; omega
  go_enter Try.func23, Try.ntmps23
  go_wp2
  go_loopw [5, 6] (fun ov iv wr => ∃ (j : Nat), j ≤ n ∧ ov = .int .u8 ((eval x (p.drop j)).toNat : Int) ∧ iv = .int .i64 ((j : Int) - 1) ∧ Below w.heap.size w wr) (fun _ iv _ => (intOf iv + 1).toNat)
  case atStart => exact ⟨n, by omega, by rw [List.drop_of_length_le (by rw [HPN.out]; omega)]; rfl, by go_num, Below.refl _ _⟩
  case round =>
    obtain ⟨j, hj, rfl, rfl, hbw⟩ := hrel
    by_cases hlt : 0 < j
    · obtain ⟨m, rfl⟩ : ∃ m, j = m + 1 := ⟨j - 1, by omega⟩
      have em : ((m + 1 : Nat) : Int) - 1 = (m : Int) := by omega
      rw [em]
      obtain ⟨b, o, u, rfl, hbb, hu, hcx⟩ := (HL.out.below hbw).at_ (j := m) (by omega)
      obtain ⟨a, ha⟩ : ∃ a, p[m]? = some a := ⟨_, List.getElem?_eq_getElem (by rw [HPN.out]; omega)⟩
      rw [List.getElem?_map, ha] at hu
      cases hu
      have hs := eval_drop (x := x) ha
      have HS := Lib.hid hs
      have HM := Lib.hid (fun W => mul_any (eval x (p.drop (m + 1))) x W)
      have e1 := xor8 (mul (eval x (p.drop (m + 1))) x) a
      have z0 : (0 : Int) ≤ (m : Int) := by omega
      have z1 : (m : Int) < (n : Int) := by omega
      unfold bv at hcx
      have CI : Hid (∀ W, Below wr.heap.size wr W → W.cell? ⟨b, o + m, none⟩ = some (.int .u8 (a.toNat : Int))) := Lib.hid (fun W h => (h.cell (by show b < wr.heap.size; have := hbw.size; omega)).trans hcx)
      clear hs ha hcx em
      go_wp2
      refine QTail.whole (fun W => Below wr.heap.size wr W) (by kernel_rfl) (by kernel_rfl) (Below.refl _ _).drew ?_
      (refine wpQuiet_step (fun K hK => ?_); go_simp; (first | refine hK _ ?_ | refine ⟨_, fun _ _ => rfl, hK _ ?_⟩); clear hK K)
      (refine wpQuiet_step (fun K hK => ?_); go_simp; (first | refine hK _ ?_ | refine ⟨_, fun _ _ => rfl, hK _ ?_⟩); clear hK K)
      (refine wpQuiet_step (fun K hK => ?_); go_simp; refine ⟨_, fun W hW => (HM.out W).mono fun e w' ⟨he, hb⟩ => ⟨he, hW.trans (hb.mono hW.size)⟩, hK _ ?_⟩; clear hK K)
      (refine wpQuiet_step (fun K hK => ?_); go_simp; (first | refine hK _ ?_ | refine ⟨_, fun _ _ => rfl, hK _ ?_⟩); clear hK K)
      (refine wpQuiet_step (fun K hK => ?_); go_simp; (first | refine hK _ ?_ | refine ⟨_, fun _ _ => rfl, hK _ ?_⟩); clear hK K)
      (refine wpQuiet_step (fun K hK => ?_); go_simp; refine ⟨.pointer (some ⟨b, o + m, none⟩), fun W hW => ?_, hK _ ?_⟩; (first | (rw [if_pos (by omega)]; exact ⟨rfl, rfl⟩) | (rw [if_pos (by omega)]; rfl) | exact ⟨rfl, rfl⟩ | rfl); clear hK K)
      (refine wpQuiet_step (fun K hK => ?_); go_simp; refine ⟨.int .u8 (a.toNat : Int), fun W hW => ?_, hK _ ?_⟩; (first | (rw [CI.out W hW]; exact ⟨rfl, rfl⟩) | (rw [CI.out W hW]; rfl)); clear hK K)
      (refine wpQuiet_step (fun K hK => ?_); go_simp; (first | refine hK _ ?_ | refine ⟨_, fun _ _ => rfl, hK _ ?_⟩); clear hK K)
      (refine wpQuiet_step (fun K hK => ?_); go_simp; (first | refine hK _ ?_ | refine ⟨_, fun _ _ => rfl, hK _ ?_⟩); clear hK K)
      refine wpQuiet_nil ?_
      intro w3 hq
      go_wp2
      go_roundw
      case rel => exact ⟨m, by omega, by rw [HS.out, UInt8.toNat_xor], by go_num, hbw.trans (hq.mono hbw.size)⟩
      case measure => simp [intOf]
    · obtain rfl : j = 0 := by omega
      go_wp2
      go_ret
      exact ⟨rfl, hbw⟩
end Gf
end Go.Proofs.Ytfeifmcgcgmhnaa
