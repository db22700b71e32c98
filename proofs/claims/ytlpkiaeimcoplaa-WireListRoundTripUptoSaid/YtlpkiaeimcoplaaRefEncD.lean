/- What the reference's Digests returns. Condition: the encoding takes at most 2^47 bytes. -/
import Derived.Test.YtlpkiaeimcoplaaRefEncs
import Derived.Test.YtlpkiaeimcoplaaEncD
namespace Go.Proofs.Ytlpkiaeimcoplaa
open Go.RowKit
namespace Wire

set_option maxRecDepth 100000 in
set_option maxHeartbeats 1000000 in
theorem refDigests_any (l : List (List UInt8)) (n c : Nat) (A : Option Addr) (w : World) (hl : Lies w w.heap.size 16 A n c (digCells l)) (hnl : l.length = n) (h16 : ∀ x ∈ l, x.length = 16) (h : (encList (fun d => d) l).length ≤ 140737488355328) :
    Calls Try.prog 23 #[.slice A n c] w (Made w (encList (fun d => d) l).length (encList (fun d => d) l)) := by
  obtain ⟨i0, hi, hz0, hz1, hz2⟩ := info_parts byte_info
  have hmost : c ≤ 9223372036854775807 := by have := hl.most; unfold maxLen at this; omega
  have hle := hl.le
  have hin := refInt_any (n : Int) w (by omega)
  have hin2 := Lib.hid hin; clear hin
  have HNL := Lib.hid hnl; clear hnl
  have h0 : 1 ≤ (enc (n : Int)).length := by rw [enc_length]; omega
  go_enter Try.func23, Try.ntmps23
  go_wp2_with (go_at_call 15; refine hin2.out.mono ?_; rintro e w1 ⟨g, cap, rfl, hown, hb⟩)
  go_loopw [3, 4] (fun v jv wr => ∃ (i g m cap : Nat), i ≤ n ∧ jv = .int .i64 (i : Int) ∧ v = .slice (some ⟨g, 0, none⟩) m cap ∧ m = (enc (n : Int) ++ (l.take i).flatMap (fun d => d)).length ∧
      wr.ownsRow w.heap.size 5 1 v m ((enc (n : Int) ++ (l.take i).flatMap (fun d => d)).map bv) ∧ Below w.heap.size w wr) (fun _ jv _ => (n - (intOf jv)).toNat)
  case atStart => exact ⟨0, g, _, cap, by omega, rfl, rfl, by simp, by simpa using hown, hb⟩
  case round =>
    obtain ⟨i, g2, m, cap2, hi2, rfl, rfl, hm, hown2, hb2⟩ := hrel
    clear hown hb
    by_cases hlt : i < n
    · obtain ⟨b, o, rfl, hbB, hcx0⟩ := hl.cells (by omega)
      obtain ⟨x, hx⟩ : ∃ x, l[i]? = some x := ⟨l[i]'(by rw [HNL.out]; exact hlt), List.getElem?_eq_getElem _⟩
      have hxl := h16 x (List.mem_of_getElem? hx)
      have hcell : ∀ W : World, Below w.heap.size w W → ∀ j, j < 16 → ∃ y : UInt8, x[j]? = some y ∧ W.cell? ⟨b, o + i * 16 + j, none⟩ = some (.int .u8 (y.toNat : Int)) := by
        intro W hW j hj
        have h1 := dig_range (w := w) (k := 0) h16 hx hcx0
        have hy : x[j]? = some (x[j]'(by omega)) := List.getElem?_eq_getElem _
        refine ⟨_, hy, ?_⟩
        rw [hW.cell (p := ⟨b, o + i * 16 + j, none⟩) hbB]
        have h2 := h1 j (bv (x[j]'(by omega))) (by rw [List.getElem?_map, hy]; rfl)
        simpa [bv] using h2
      have hsn := flat_snoc (fun d => d) l hx
      have hfl := flat_le (fun d => d) l (i + 1)
      have htot : (enc (n : Int)).length + (l.flatMap (fun d => d)).length ≤ 140737488355328 := by have := h; rw [encList, HNL.out, List.length_append] at this; exact this
      have hm2 : m + 16 = (enc (n : Int) ++ (l.take (i + 1)).flatMap (fun d => d)).length := by rw [hsn, hm]; simp [hxl]; omega
      have hbd : m + 16 ≤ 140737488355328 := by rw [hm2, List.length_append]; omega
      obtain ⟨X, hX⟩ : ∃ X, X = enc (n : Int) ++ (l.take i).flatMap (fun d => d) := ⟨_, rfl⟩
      have hend : ∀ (wq : World) (g m2 cap : Nat), wq.ownsRow w.heap.size 5 1 (.slice (some ⟨g, 0, none⟩) m2 cap) m2 ((X ++ x.take 16).map bv) → m2 = m + 16 → Below w.heap.size w wq →
          (∃ (i_1 g' m' cap' : Nat), i_1 ≤ n ∧ Value.int .i64 ((i : Int) + 1) = .int .i64 (i_1 : Int) ∧ Value.slice (some ⟨g, 0, none⟩) m2 cap = .slice (some ⟨g', 0, none⟩) m' cap' ∧ m' = (enc (n : Int) ++ (l.take i_1).flatMap (fun d => d)).length ∧
            wq.ownsRow w.heap.size 5 1 (Value.slice (some ⟨g, 0, none⟩) m2 cap) m' ((enc (n : Int) ++ (l.take i_1).flatMap (fun d => d)).map bv) ∧ Below w.heap.size w wq) := by
        intro wq g m2 cap h1 h2 h3
        refine ⟨i + 1, g, m2, cap, by omega, by go_num, rfl, by omega, ?_, h3⟩
        rw [hsn, ← List.append_assoc, ← hX]
        rwa [List.take_of_length_le (by omega)] at h1
      have hstart : wr.ownsRow w.heap.size 5 1 (.slice (some ⟨g2, 0, none⟩) m cap2) m ((X ++ x.take 0).map bv) := by rw [hX]; simpa using hown2
      have HEND := Lib.hid hend; clear hend
      have HSTART := Lib.hid hstart; clear hstart hown2
      have HCELL := Lib.hid hcell; clear hcell
      have HM := Lib.hid hm; clear hm
      have HM2 := Lib.hid hm2; clear hm2
      have HSN := Lib.hid hsn; clear hsn
      have HX := Lib.hid hx; clear hx
      have HXX := Lib.hid hX; clear hX
      have HXL := Lib.hid hxl; clear hxl
      clear hcx0
      go_wp2
      go_loopw [3, 5] (fun v jv wq => ∃ (j g m2 cap : Nat), j ≤ 16 ∧ jv = .int .i64 (j : Int) ∧ v = .slice (some ⟨g, 0, none⟩) m2 cap ∧ m2 = m + j ∧ wq.ownsRow w.heap.size 5 1 v m2 ((X ++ x.take j).map bv) ∧ Below w.heap.size w wq) (fun _ jv _ => (16 - (intOf jv)).toNat)
      case atStart => exact ⟨0, g2, m, cap2, by omega, rfl, rfl, rfl, HSTART.out, hb2⟩
      case round =>
        obtain ⟨j, g3, m2, cap3, hj, rfl, rfl, hm2, hoq, hbq⟩ := hrel
        by_cases hj16 : j < 16
        · obtain ⟨y, hy, hwy⟩ := HCELL.out _ hbq j hj16
          have hbd2 : m2 + 1 ≤ 140737488355328 := by omega
          have fin : ∀ (W : World) v' w', Below w.heap.size w W → W.ownsRow w.heap.size 5 1 (.slice (some ⟨g3, 0, none⟩) m2 cap3) m2 ((X ++ x.take j).map bv) → w'.ownsRow w.heap.size 5 1 v' (m2 + 1) ((X ++ x.take j).map bv ++ [bv y]) → (W.alloc (.cells #[bv y] 5)).grownBy w' (some g3) →
              ∃ (j_1 g m2_1 cap : Nat), j_1 ≤ 16 ∧ Value.int .i64 ((j : Int) + 1) = .int .i64 (j_1 : Int) ∧ v' = .slice (some ⟨g, 0, none⟩) m2_1 cap ∧ m2_1 = m + j_1 ∧ w'.ownsRow w.heap.size 5 1 v' m2_1 ((X ++ x.take j_1).map bv) ∧ Below w.heap.size w w' := by
            intro W v' w' h1 h2 h3 h4
            obtain ⟨g', cap', rfl, _⟩ := own_form h3 (by omega)
            refine ⟨j + 1, g', m2 + 1, cap', by omega, by go_num, rfl, by omega, ?_, ?_⟩
            · have e : x.take (j + 1) = x.take j ++ [y] := by rw [List.take_add_one, hy]; rfl
              rw [e]
              simpa using h3
            · exact (h1.alloc h1.size _).grown h4 (by have := h1.size; simp; omega) (fun k hk => (h2.lt k hk).1)
          have FIN := Lib.hid fin; clear fin
          have HY := Lib.hid hy; clear hy
          have HM3 := Lib.hid hm2; clear hm2
          go_wp2_with (at_builtin; refine wpList_append_own _ rfl (.tmp 19) (.tmp 26) _ rfl w.heap.size 5 i0 (.int .u8 0) 1 1 Try.underlying28 hi hz0 hz1 hz2 rfl (by decide) _ m2 _ rfl (hoq.alloc _) ⟨_, 0, none⟩ 1 1 [bv y] rfl rfl (fresh_one _ _ _) (one_cell _) (by unfold maxLen; omega) (by omega) (by have := hbq.size; simp; omega) ?_; intro v4 w4 ho4 hg4 _)
          go_roundw
          case rel => exact FIN.out _ _ _ hbq hoq ho4 hg4
          case measure => simp [intOf]; omega
        · obtain rfl : j = 16 := by omega
          go_wp2
          go_roundw
          case rel => exact HEND.out _ _ _ _ hoq hm2 hbq
          case measure => simp [intOf]; omega
    · obtain rfl : i = n := by omega
      have hend : encList (fun d => d) l = enc (i : Int) ++ (l.take i).flatMap (fun d => d) := by rw [encList, HNL.out, List.take_of_length_le (by rw [HNL.out]; omega)]
      have HE := Lib.hid hend; clear hend
      have HM := Lib.hid hm; clear hm
      go_wp2
      go_ret
      exact ⟨g2, cap2, by rw [HE.out, ← HM.out]; rfl, by rw [HE.out, ← HM.out]; exact hown2, hb2⟩

end Wire
end Go.Proofs.Ytlpkiaeimcoplaa
