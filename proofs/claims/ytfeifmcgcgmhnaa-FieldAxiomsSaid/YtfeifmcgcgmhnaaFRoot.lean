/- The package field as landed: withRoot; the reference's times. Condition: the slice reads as a list. -/
import Derived.Test.YtfeifmcgcgmhnaaFRow
import Derived.Test.YtfeifmcgcgmhnaaFEval
namespace Go.Proofs.Ytfeifmcgcgmhnaa
open Go.RowKit
namespace Gf
open Wire (Lies bv)

/-- A new slice of bytes. -/
def GivesL (l : List UInt8) (w : World) (e : Ending) (w1 : World) : Prop := ∃ g n, e = .returned (.slice (some ⟨g, 0, none⟩) n n) ∧ Row w1 w.heap.size g n l ∧ Below w.heap.size w w1
/-- Bytes that lie in block g from its head on. -/
structure At (w : World) (g n : Nat) (l : List UInt8) : Prop where
  len : l.length = n
  lt : g < w.heap.size
  most : n ≤ 256
  cell : ∀ j x, l[j]? = some x → w.cell? ⟨g, j, none⟩ = some (.int .u8 (x.toNat : Int))
section
variable {w w' : World} {g n : Nat} {l : List UInt8}
theorem At.on (h : At w g n l) (hb : Below w.heap.size w w') : At w' g n l :=
  ⟨h.len, Nat.lt_of_lt_of_le h.lt hb.size, h.most, fun j x hx => (hb.cell (p := ⟨g, j, none⟩) h.lt).trans (h.cell j x hx)⟩
theorem At.set (h : At w g n l) {G j : Nat} (hG : g ≠ G) (v : Value) : At (w.setCell ⟨G, j, none⟩ v) g n l :=
  ⟨h.len, by simpa using h.lt, h.most, fun i x hx => (World.cell?_setCell_other _ _ _ _ (by intro e; cases e; exact hG rfl)).trans (h.cell i x hx)⟩
theorem At.lies (h : At w g n l) : Lies w w.heap.size 1 (some ⟨g, 0, none⟩) n n (l.map bv) := by
  refine ⟨by simpa using h.len, Nat.le_refl _, by have := h.most; unfold maxLen; omega, fun _ => ⟨g, 0, rfl⟩, fun _ => ⟨g, 0, rfl, h.lt, fun j u hu => ?_⟩⟩
  rw [List.getElem?_map] at hu
  cases hx : l[j]? with
  | none => rw [hx] at hu; cases hu
  | some x =>
    rw [hx] at hu
    cases hu
    rw [Nat.zero_add]
    exact h.cell j x hx
theorem Row.here {base : Nat} (h : Row w base g n l) (hn : n ≤ 256) : At w g n l := ⟨h.len, h.size, hn, fun _ _ hx => (h.at_ hx).1⟩
theorem at_lit (w : World) (x : UInt8) (t : TypeId) : At (w.alloc (.cells #[.int .u8 (x.toNat : Int)] t)) w.heap.size 1 [x] := by
  refine ⟨rfl, by simp, by omega, fun j y hy => ?_⟩
  cases j with
  | zero => cases hy; exact cell_new w _ t
  | succ j => cases hy
end

set_option maxRecDepth 100000 in
set_option maxHeartbeats 1000000 in
theorem withRoot_any (p : List UInt8) (x : UInt8) (n c : Nat) (A : Option Addr) (w : World) (hl : Lies w w.heap.size 1 A n c (p.map bv)) (hn : n ≤ 255) :
    Calls Try.prog 30 #[.slice A n c, .int .u8 (x.toNat : Int)] w (GivesL (times p x) w) := by
  obtain ⟨i0, hi, hz0, hz1, hz2⟩ := info_parts byte_info
  have hmost : c ≤ 9223372036854775807 := by have := hl.most; unfold maxLen at this; omega
  have hle := hl.le
  have hpn : p.length = n := by have := hl.len; simpa using this
  have HPN := Lib.hid hpn
  have HL := Lib.hid hl
  have e0 : wrap64 ((n : Int) + 1) = ((n + 1 : Nat) : Int) := by simp only [wrap64]; omega
  have e1 : IntKind.i64.wrap ((n : Int) + 1) = ((n + 1 : Nat) : Int) := by rw [IntWalk.i64_in _ (by omega)]; omega
  clear hpn hl
  go_enter Try.func30, Try.ntmps30
  go_wp2_with (first
    | (at_make; refine wpList_make_full _ rfl _ _ 30 rfl w.heap.size 5 i0 (.int .u8 0) 1 Try.underlying30 hi hz0 hz1 .i64 .i64 _ _ (n + 1) rfl rfl (by omega) (by omega) (by rw [hz2]; omega) (by unfold maxLen; omega) (Nat.le_refl _) ?_; intro w4 hown4 hg4))
  have hR0 := row_made hown4
  rw [← HPN.out, ← tstep_zero p x, HPN.out] at hR0
  have hb4 : Below w.heap.size w w4 := (Below.refl _ _).grown hg4 (Nat.le_refl _) (by simp)
  clear hown4 hg4
  go_loopw [14] (fun iv wr => ∃ (k : Nat), k ≤ n ∧ iv = .int .i64 (k : Int) ∧ Row wr w.heap.size w.heap.size (n + 1) (tstep p x k) ∧ Below w.heap.size w wr) (fun iv _ => (n - intOf iv).toNat)
  case atStart => exact ⟨0, by omega, rfl, hR0, hb4⟩
  case round =>
    clear hR0 hb4
    obtain ⟨k, hk, rfl, hR, hbw⟩ := hrel
    by_cases hlt : k < n
    · have z0 : (0 : Int) ≤ (k : Int) := by omega
      have z1 : (k : Int) < (n : Int) := by omega
      have z2 : (k : Int) < (n : Int) + 1 := by omega
      have z3 : (k : Int) + 1 < (n : Int) + 1 := by omega
      have z4 : (0 : Int) ≤ (k : Int) + 1 := by omega
      obtain ⟨b, o, u, rfl, hbb, hu, hcx⟩ := (HL.out.below hbw).at_ hlt
      obtain ⟨d, hd⟩ : ∃ d, p[k]? = some d := ⟨_, List.getElem?_eq_getElem (by rw [HPN.out]; exact hlt)⟩
      rw [List.getElem?_map, hd] at hu
      cases hu
      obtain ⟨u, h0, h1, h2, -⟩ := tstep_next (a := x) hd
      have H0 := Lib.hid h0
      have H1 := Lib.hid h1
      have H2 := Lib.hid h2
      have HR := Lib.hid hR
      have e2 := xor8 u (mul d x)
      have HM := Lib.hid (fun W => mul_any d x W)
      have hqu := hR.at_ h0
      have hsz := hR.size
      unfold bv at hcx
      have CI : Hid (∀ W, Below wr.heap.size wr W → W.cell? ⟨w.heap.size, k, none⟩ = some (.int .u8 (u.toNat : Int))) := Lib.hid (fun W h => (h.cell (by show w.heap.size < wr.heap.size; exact hsz)).trans hqu.1)
      clear h0 h1 h2 hd hR hqu
      generalize mul d x = M at *
      have HZ : Hid (∃ z, z = u ^^^ M) := Lib.hid ⟨_, rfl⟩
      obtain ⟨z, hz⟩ := HZ.out
      rw [← hz] at e2 H2
      clear hz HZ
      go_wp2
      refine QTail.region (C := fun W => Below wr.heap.size wr W) 8 (by kernel_rfl) (by kernel_rfl) (Below.refl _ _).drew ?_
      (refine wpQuiet_step (fun K hK => ?_); go_simp; (first | refine hK _ ?_ | refine ⟨_, fun _ _ => rfl, hK _ ?_⟩); clear hK K)
      (refine wpQuiet_step (fun K hK => ?_); go_simp; (first | refine hK _ ?_ | refine ⟨_, fun _ _ => rfl, hK _ ?_⟩); clear hK K)
      (refine wpQuiet_step (fun K hK => ?_); go_simp; refine ⟨.pointer (some ⟨w.heap.size, k, none⟩), fun W hW => ?_, hK _ ?_⟩; (first | (rw [if_pos (by omega)]; exact ⟨rfl, rfl⟩) | (rw [if_pos (by omega)]; rfl) | exact ⟨rfl, rfl⟩ | rfl); clear hK K)
      (refine wpQuiet_step (fun K hK => ?_); go_simp; refine ⟨.int .u8 (u.toNat : Int), fun W hW => ?_, hK _ ?_⟩; (first | (rw [CI.out W hW]; exact ⟨rfl, rfl⟩) | (rw [CI.out W hW]; rfl)); clear hK K)
      (refine wpQuiet_step (fun K hK => ?_); go_simp; (first | refine hK _ ?_ | refine ⟨_, fun _ _ => rfl, hK _ ?_⟩); clear hK K)
      (refine wpQuiet_step (fun K hK => ?_); go_simp; (first | refine hK _ ?_ | refine ⟨_, fun _ _ => rfl, hK _ ?_⟩); clear hK K)
      (refine wpQuiet_step (fun K hK => ?_); go_simp; refine ⟨_, fun W hW => (HM.out W).mono fun e w' ⟨he, hb⟩ => ⟨he, hW.trans (hb.mono hW.size)⟩, hK _ ?_⟩; clear hK K)
      (refine wpQuiet_step (fun K hK => ?_); go_simp; (first | refine hK _ ?_ | refine ⟨_, fun _ _ => rfl, hK _ ?_⟩); clear hK K)
      refine wpQuiet_nil ?_
      intro w3 hb3
      have hR3 := HR.out.on hb3
      obtain ⟨q1, q2⟩ := hR3.at_ H0.out
      have hR4 := hR3.set k z
      obtain ⟨q3, q4⟩ := hR4.at_ (j := k + 1) (x := 0) (by rw [List.getElem?_set_ne (by omega)]; exact H1.out)
      have HR4 := Lib.hid hR4
      clear hR3 hR4
      go_wp2
      go_roundw
      case rel => exact ⟨k + 1, by omega, by go_num, by rw [H2.out]; exact HR4.out.set _ _, ((hbw.trans (hb3.mono hbw.size)).setCell (Nat.le_refl _) _).setCell (Nat.le_refl _) _⟩
      case measure => simp [intOf]; omega
    · obtain rfl : k = n := by omega
      have z1 : ¬ (k : Int) < (k : Int) := by omega
      have hall := tstep_all p x
      rw [HPN.out] at hall
      rw [hall] at hR
      have HR := Lib.hid hR
      clear hR hall
      go_wp2
      go_ret
      exact ⟨_, _, rfl, HR.out, hbw⟩
end Gf
end Go.Proofs.Ytfeifmcgcgmhnaa
