/- Package lex: the closure of number, secondsOf, isSign. Condition: what they have captured reads as said; the table of units is laid. -/
import Derived.Test.YtjijlepkcghmeaaDoorLxA3
import Derived.Test.YtjijlepkcghmeaaDoorQTail
import Derived.IntWalk

namespace Go.Proofs.YtjijlepkcghmeaaDoor
open Go.RowKit
namespace Lx
open Wire (bv sv)
open Hash (Arr)

theorem Bx.drew {w0 W : World} {v : Value} (h : Bx w0 v W) : Bx w0 v W.drew := ⟨h.cm.keep (fun _ => rfl) (fun _ => rfl), h.z.drew⟩
theorem digit_le {c : UInt8} (h : digit c = true) : 48 ≤ c.toNat ∧ c.toNat ≤ 57 := by
  simpa [digit] using h
set_option maxRecDepth 100000 in
set_option maxHeartbeats 1000000 in
theorem cloN_any (t : List UInt8) (g : Nat) (w0 : World) (hg : w0.cell? ⟨g, 0, none⟩ = some (.string ⟨t.toArray⟩)) (k n : Nat) (w : World) (hk : k < t.length) (hn : n ≤ cap) (Y : Bx w0 (.int .i64 (n : Int)) w) :
    Calls Tryd.prog 47 #[.int .i64 (k : Int), .pointer (some ⟨g, 0, none⟩), .pointer (some ⟨w0.heap.size, 0, none⟩)] w (fun e w' => e = .returned (.bool (goN t k n).1) ∧ Bx w0 (.int .i64 ((goN t k n).2 : Int)) w') := by
  have hi := index_at t k hk
  have hgl := World.block_lt_of_cell? w0 _ hg
  have hne : ¬ g = w0.heap.size := by intro e; rw [e] at hgl; exact Nat.lt_irrefl _ hgl
  have h0 := (Y.z.cell hgl).trans hg
  obtain ⟨h1, f1⟩ := Y.cm.at_ (i := 0) rfl
  have HB := Lib.hid (isDigit_any (hd (t.drop k)))
  have HP : Hid (∀ u, Bx w0 u (w.setCell ⟨w0.heap.size, 0, none⟩ u)) := Lib.hid (fun u => Y.put u)
  have HY := Lib.hid Y
  have CN : Hid (∀ W, Bx w0 (.int .i64 (n : Int)) W → W.cell? ⟨w0.heap.size, 0, none⟩ = some (.int .i64 (n : Int))) := Lib.hid (fun W h => (h.cm.at_ (i := 0) rfl).1)
  have CT : Hid (∀ W, Bx w0 (.int .i64 (n : Int)) W → W.cell? ⟨g, 0, none⟩ = some (.string ⟨t.toArray⟩)) := Lib.hid (fun W h => (h.z.cell hgl).trans hg)
  clear Y hg
  unfold goN
  generalize (⟨t.toArray⟩ : ByteArray) = T at *
  obtain ⟨h, hh⟩ : ∃ h, h = w0.heap.size := ⟨_, rfl⟩
  rw [← hh] at h1 f1 CN HP hne ⊢
  have HH := Lib.hid hh.symm
  clear hh hgl
  generalize hd (t.drop k) = c at *
  cases hd1 : digit c
  · rw [hd1] at HB
    rw [if_neg (by simp)]
    clear hd1
    go_enter Tryd.func47, Tryd.ntmps47
    go_wp2_with (first
      | (go_at_call 29; (with_reducible refine (HB.out _).mono ?_); rintro e w1 ⟨rfl, rfl⟩))
    go_ret
    exact ⟨rfl, HY.out⟩
  · obtain ⟨c1, c2⟩ := digit_le hd1
    rw [hd1] at HB
    rw [if_pos rfl]
    clear hd1
    unfold cap at hn ⊢
    obtain ⟨m, hm⟩ : ∃ m, m = min (10 * n + (c.toNat - 48)) 1099511627777 := ⟨_, rfl⟩
    rw [← hm]
    have HV : Hid (min (IntKind.i64.wrap (IntKind.i64.wrap (10 * (n : Int)) + IntKind.i64.wrap (IntKind.u8.wrap ((c.toNat - 48 : Nat) : Int)))) 1099511627777 = (m : Int)) := Lib.hid (by
      have e0 : ∀ a : Nat, a ≤ 9223372036854775807 → IntKind.i64.wrap (a : Int) = (a : Int) := fun a h => IntWalk.i64_in _ (by omega)
      have e1 : ∀ a : Nat, a < 256 → IntKind.u8.wrap (a : Int) = (a : Int) := fun a h => by
        rw [IntKind.wrap_u8]
        exact Int.emod_eq_of_lt (by omega) (by omega)
      have e2 : (10 * (n : Int)) = ((10 * n : Nat) : Int) := by omega
      have e5 : 10 * n + (c.toNat - 48) ≤ 9223372036854775807 := by omega
      have e6 : 10 * n ≤ 9223372036854775807 := Nat.le_trans (Nat.le_add_right _ _) e5
      have e7 : c.toNat - 48 ≤ 9223372036854775807 := Nat.le_trans (Nat.le_add_left _ _) e5
      rw [e1 (c.toNat - 48) (by omega), e2, e0 _ e6, e0 _ e7, show ((10 * n : Nat) : Int) + ((c.toNat - 48 : Nat) : Int) = ((10 * n + (c.toNat - 48) : Nat) : Int) from (Int.natCast_add _ _).symm, e0 _ e5, hm]
      omega)
    clear hm
    have z0 : (c.toNat : Int) - 48 = ((c.toNat - 48 : Nat) : Int) := by omega
    go_enter Tryd.func47, Tryd.ntmps47
    go_wp2_with (first
      | (go_at_call 29; (with_reducible refine (HB.out _).mono ?_); rintro e w1 ⟨rfl, rfl⟩))
    refine QTail.region (C := fun W => Bx w0 (.int .i64 (n : Int)) W) 9 (by kernel_rfl) (by kernel_rfl) HY.out.drew ?_
    (refine wpQuiet_step (fun K hK => ?_); go_simp; refine ⟨(.int .i64 (n : Int)), fun W hW => ?_, hK _ ?_⟩; (first | (rw [CN.out W hW]; exact ⟨rfl, rfl⟩) | (rw [CN.out W hW]; rfl)); clear hK K)
    (refine wpQuiet_step (fun K hK => ?_); go_simp; (first | refine hK _ ?_ | refine ⟨_, fun _ _ => rfl, hK _ ?_⟩); clear hK K)
    (refine wpQuiet_step (fun K hK => ?_); go_simp; refine ⟨(.string T), fun W hW => ?_, hK _ ?_⟩; (first | (rw [CT.out W hW]; exact ⟨rfl, rfl⟩) | (rw [CT.out W hW]; rfl)); clear hK K)
    (refine wpQuiet_step (fun K hK => ?_); go_simp; (first | refine hK _ ?_ | refine ⟨_, fun _ _ => rfl, hK _ ?_⟩); clear hK K)
    (refine wpQuiet_step (fun K hK => ?_); go_simp; (first | refine hK _ ?_ | refine ⟨_, fun _ _ => rfl, hK _ ?_⟩); clear hK K)
    (refine wpQuiet_step (fun K hK => ?_); go_simp; (first | refine hK _ ?_ | refine ⟨_, fun _ _ => rfl, hK _ ?_⟩); clear hK K)
    (refine wpQuiet_step (fun K hK => ?_); go_simp; (first | refine hK _ ?_ | refine ⟨_, fun _ _ => rfl, hK _ ?_⟩); clear hK K)
    (refine wpQuiet_step (fun K hK => ?_); go_simp; (first | refine hK _ ?_ | refine ⟨_, fun _ _ => rfl, hK _ ?_⟩); clear hK K)
    (refine wpQuiet_step (fun K hK => ?_); go_simp; (first | refine hK _ ?_ | refine ⟨_, fun _ _ => rfl, hK _ ?_⟩); clear hK K)
    refine wpQuiet_nil ?_
    intro w3 Y3
    rw [HV.out]
    have HP3 : Hid (∀ u, Bx w0 u (w3.setCell ⟨h, 0, none⟩ u)) := Lib.hid (fun u => by rw [← HH.out]; exact Y3.put u)
    have q := Y3.cm.at_ (i := 0) rfl
    rw [HH.out] at q
    obtain ⟨q1, q2⟩ := q
    have HQ := Lib.hid q1
    clear Y3
    go_wp2
    go_ret
    exact ⟨rfl, HP3.out _⟩
end Lx
end Go.Proofs.YtjijlepkcghmeaaDoor
