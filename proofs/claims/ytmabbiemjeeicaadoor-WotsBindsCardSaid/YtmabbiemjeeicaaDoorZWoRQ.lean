/- The reference of package wots: Same, at a list and itself. Condition: the slices read as the list. -/
import Derived.Test.YtmabbiemjeeicaaDoorZWoRP
namespace Go.Proofs.YtmabbiemjeeicaaDoor
open Go.RowKit
namespace Wo
open Wire (bv sv Lies)
open Hash (bcj)

set_option maxRecDepth 100000 in
set_option maxHeartbeats 1000000 in
theorem refSame_same (l : List Nat) (n c e : Nat) (A B : Option Addr) (w : World) (ha : Lies w w.heap.size 1 A n c (l.map nv)) (hb : Lies w w.heap.size 1 B n e (l.map nv)) :
    Calls Tryd.prog 12 #[.slice A n c, .slice B n e] w (GivesB true w) := by
  have hln : l.length = n := by have := ha.len; simpa using this
  have hmost : c ≤ 9223372036854775807 := by have := ha.most; unfold maxLen at this; omega
  have hmost2 : e ≤ 9223372036854775807 := by have := hb.most; unfold maxLen at this; omega
  have hle := ha.le
  have hle2 := hb.le
  have HL := Lib.hid hln
  have HA := Lib.hid ha
  have HB := Lib.hid hb
  clear ha hb hln
  go_enter Tryd.func12, Tryd.ntmps12
  go_wp2
  go_loopw [5] (fun iv wr => ∃ (k : Nat), k ≤ n ∧ iv = .int .i64 (k : Int) ∧ Below w.heap.size w wr) (fun iv _ => (n - intOf iv).toNat)
  case atStart => exact ⟨0, by omega, rfl, Below.refl _ _⟩
  case round =>
    obtain ⟨k, hk, rfl, Y⟩ := hrel
    by_cases hlt : k < n
    · have z0 : (0 : Int) ≤ (k : Int) := by omega
      have z1 : (k : Int) < (n : Int) := by omega
      obtain ⟨x, hx⟩ : ∃ x, l[k]? = some x := ⟨_, List.getElem?_eq_getElem (by rw [HL.out]; exact hlt)⟩
      obtain ⟨g, o, rfl, hg, hc⟩ := nums_at HA.out hx
      obtain ⟨g2, o2, rfl, hg2, hc2⟩ := nums_at HB.out hx
      have HC1 : Hid (∀ W, Below w.heap.size w W → W.cell? ⟨g, o + k, none⟩ = some (.int .i64 (x : Int))) := Lib.hid (fun W h => (h.cell hg).trans hc)
      have HC2 : Hid (∀ W, Below w.heap.size w W → W.cell? ⟨g2, o2 + k, none⟩ = some (.int .i64 (x : Int))) := Lib.hid (fun W h => (h.cell hg2).trans hc2)
      clear hx hg hc hg2 hc2
      go_wp2
      replace Y := bcj Y (Hash.belowD _)
      refine RegC.region (fun W => Below w.heap.size w W) [8] (by kernel_rfl) ?_
      (refine RegC.take (i := 0) (v := ?_) rfl (by kernel_rfl) (by kernel_rfl) (by kernel_rfl) (by kernel_rfl) (by kernel_rfl) (fun _ _ _ h => h) (Or.inl ⟨by rfl, ?_⟩) Y ?_; rotate_left 1; focus (intro W hW; go_simp; try (first | with_reducible rfl | (rw [if_pos (by omega)]; done) | (rw [if_pos (by omega), if_neg (by omega)]; done) | (rw [if_neg (by omega)]; done))))
      (refine RegC.take (i := 1) (v := ?_) rfl (by kernel_rfl) (by kernel_rfl) (by kernel_rfl) (by kernel_rfl) (by kernel_rfl) (fun _ _ _ h => h) (Or.inl ⟨by rfl, ?_⟩) Y ?_; rotate_left 1; focus (intro W hW; go_simp; try (first | with_reducible rfl | (rw [if_pos (by omega)]; done) | (rw [if_pos (by omega), if_neg (by omega)]; done) | (rw [if_neg (by omega)]; done))))
      (refine RegC.take (i := 2) (v := (.pointer (some ⟨g, o + k, none⟩))) rfl (by kernel_rfl) (by kernel_rfl) (by kernel_rfl) (by kernel_rfl) (by kernel_rfl) (fun _ _ _ h => h) (Or.inl ⟨by rfl, ?_⟩) Y ?_; focus (intro W hW; go_simp; try (first | with_reducible rfl | rfl | (rw [if_pos (by omega)]; done) | (rw [if_pos (by omega)]; rfl) | (rw [if_pos (by omega), if_neg (by omega)]; rfl) | (rw [if_neg (by omega)]; rfl))))
      (refine RegC.take (i := 3) (v := (.int .i64 (x : Int))) rfl (by kernel_rfl) (by kernel_rfl) (by kernel_rfl) (by kernel_rfl) (by kernel_rfl) (fun _ _ _ h => h) (Or.inl ⟨by rfl, ?_⟩) Y ?_; focus (intro W hW; go_simp; first | (rw [HC1.out W hW]; rfl) | (rw [HC1.out W hW]; done) | (simp only [HC1.out W hW]; done)))
      (refine RegC.take (i := 4) (v := ?_) rfl (by kernel_rfl) (by kernel_rfl) (by kernel_rfl) (by kernel_rfl) (by kernel_rfl) (fun _ _ _ h => h) (Or.inl ⟨by rfl, ?_⟩) Y ?_; rotate_left 1; focus (intro W hW; go_simp; try (first | with_reducible rfl | (rw [if_pos (by omega)]; done) | (rw [if_pos (by omega), if_neg (by omega)]; done) | (rw [if_neg (by omega)]; done))))
      (refine RegC.take (i := 5) (v := ?_) rfl (by kernel_rfl) (by kernel_rfl) (by kernel_rfl) (by kernel_rfl) (by kernel_rfl) (fun _ _ _ h => h) (Or.inl ⟨by rfl, ?_⟩) Y ?_; rotate_left 1; focus (intro W hW; go_simp; try (first | with_reducible rfl | (rw [if_pos (by omega)]; done) | (rw [if_pos (by omega), if_neg (by omega)]; done) | (rw [if_neg (by omega)]; done))))
      (refine RegC.take (i := 6) (v := (.pointer (some ⟨g2, o2 + k, none⟩))) rfl (by kernel_rfl) (by kernel_rfl) (by kernel_rfl) (by kernel_rfl) (by kernel_rfl) (fun _ _ _ h => h) (Or.inl ⟨by rfl, ?_⟩) Y ?_; focus (intro W hW; go_simp; try (first | with_reducible rfl | rfl | (rw [if_pos (by omega)]; done) | (rw [if_pos (by omega)]; rfl) | (rw [if_pos (by omega), if_neg (by omega)]; rfl) | (rw [if_neg (by omega)]; rfl))))
      (refine RegC.take (i := 7) (v := (.int .i64 (x : Int))) rfl (by kernel_rfl) (by kernel_rfl) (by kernel_rfl) (by kernel_rfl) (by kernel_rfl) (fun _ _ _ h => h) (Or.inl ⟨by rfl, ?_⟩) Y ?_; focus (intro W hW; go_simp; first | (rw [HC2.out W hW]; rfl) | (rw [HC2.out W hW]; done) | (simp only [HC2.out W hW]; done)))
      refine RegC.rest (by kernel_rfl) ?_
      refine RegC.tail 8 1 rfl (by kernel_rfl) ?_
      simp only [List.drop_succ_cons, List.drop_zero]
      go_wp2
      go_roundw
      case rel => exact ⟨k + 1, by omega, by go_num, Y⟩
      case measure => simp [intOf]; omega
    · have z1 : ¬ (k : Int) < (n : Int) := by omega
      go_wp2
      go_ret
      exact ⟨rfl, Y⟩
end Wo
end Go.Proofs.YtmabbiemjeeicaaDoor
