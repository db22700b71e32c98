/- The reference's Text. Condition: there are 16 bytes. -/
import Derived.Test.YthpkeaafgabjiaaDoorZHUtil
namespace Go.Proofs.YthpkeaafgabjiaaDoor
open Go.RowKit
namespace Hash
open Wire (bv)
set_option maxRecDepth 100000 in
set_option maxHeartbeats 1000000 in
theorem text_any (h : List UInt8) (w : World) (hl : h.length = 16) : Calls Tryd.prog 53 #[.agg (h.map bv).toArray] w (GivesT h w) := by
  obtain ⟨i0, hi, hz0, hz1, hz2⟩ := info_parts Wire.byte_info
  have ha0 := arr_new w (h.map bv).toArray 29
  have hsz : (h.map bv).toArray.size = 16 := by simp [hl]
  rw [hsz] at ha0
  have HL := Lib.hid hl
  have ha : Arr (w.alloc (.cells (h.map bv).toArray 29)) w.heap.size 16 (h.map bv) := ha0
  have hbw : Below w.heap.size w (w.alloc (.cells (h.map bv).toArray 29)) := (Below.refl _ _).alloc (Nat.le_refl _) _
  have hws : (w.alloc (.cells (h.map bv).toArray 29)).heap.size = w.heap.size + 1 := by simp
  have HWS := Lib.hid hws
  clear hsz ha0 hl hws
  go_enter Tryd.func53, Tryd.ntmps53
  go_wp2
  revert ha hbw HWS
  generalize w.alloc (.cells (h.map bv).toArray 29) = w0
  intro ha hbw HWS
  go_loopw [3, 4] (fun v iv wr => ∃ (k : Nat), k ≤ 16 ∧ iv = .int .i64 (k : Int) ∧ wr.ownsRow w0.heap.size 5 1 v k ((h.take k).map bv) ∧ Below w0.heap.size w0 wr) (fun _ iv _ => (16 - intOf iv).toNat)
  case atStart => exact ⟨0, by omega, rfl, World.ownsRow_nil _ _ _ _, Below.refl _ _⟩
  case round =>
    obtain ⟨k, hk, rfl, hown, hb⟩ := hrel
    by_cases hlt : k < 16
    · obtain ⟨x, hx⟩ : ∃ x, h[k]? = some x := ⟨_, List.getElem?_eq_getElem (by rw [HL.out]; exact hlt)⟩
      have hcell := (ha.below hb (ha.size (by omega))).cells k (bv x) (by rw [List.getElem?_map, hx]; rfl)
      have htk : (h.take (k + 1)).map bv = (h.take k).map bv ++ [bv x] := by rw [List.take_add_one, hx]; simp
      have HTK := Lib.hid htk
      have z0 : (0 : Int) ≤ (k : Int) := by omega
      have z1 : (k : Int) < 16 := by omega
      have fin : ∀ v' w', w'.ownsRow w0.heap.size 5 1 v' (k + 1) ((h.take k).map bv ++ [bv x]) → (wr.alloc (.cells #[bv x] 5)).grownBy w' u3.ownBlock →
          ∃ (j : Nat), j ≤ 16 ∧ Value.int .i64 ((k : Int) + 1) = .int .i64 (j : Int) ∧ w'.ownsRow w0.heap.size 5 1 v' j ((h.take j).map bv) ∧ Below w0.heap.size w0 w' := by
        intro v' w' h1 h2
        exact ⟨k + 1, by omega, by go_num, by rw [HTK.out]; exact h1, (hb.alloc hb.size _).grown h2 (by have := hb.size; simp; omega) (fun k hk => (hown.lt k hk).1)⟩
      have FIN := Lib.hid fin
      clear fin hx htk
      unfold bv at hcell
      go_wp2_with (at_builtin; refine wpList_append_own _ rfl (.tmp 9) (.tmp 13) _ rfl w0.heap.size 5 i0 (.int .u8 0) 1 1 Tryd.underlying38 hi hz0 hz1 hz2 rfl (by decide) _ k _ rfl (hown.alloc _) ⟨wr.heap.size, 0, none⟩ 1 1 [bv x] rfl rfl (Wire.fresh_one _ _ _) (Wire.one_cell _) (by unfold maxLen; omega) (by omega) (by have := hb.size; simp; omega) ?_; intro v4 w4 ho4 hg4 _)
      go_roundw
      case rel => exact FIN.out _ _ ho4 hg4
      case measure => simp [intOf]; omega
    · have hkn : k = 16 := by omega
      obtain ⟨g, c, rfl, hg1, hg2, hg3, hg4⟩ := Wire.own_form hown (by omega)
      have hown2 : wr.ownsRow w0.heap.size 5 1 (.slice (some ⟨g, 0, none⟩) k c) k (h.map bv) := by
        rw [List.take_of_length_le (by rw [HL.out, hkn]; exact Nat.le_refl _)] at hown; exact hown
      have hcv := convO hown2 (by rw [HL.out, hkn])
      clear hown2
      have hz : ¬ (k : Int) < 16 := by omega
      have HB := Lib.hid (bcj hbw hb)
      clear hown hb hkn hlt hk ha hbw
      go_wp2
      go_ret
      exact ⟨rfl, HB.out⟩

end Hash
end Go.Proofs.YthpkeaafgabjiaaDoor
