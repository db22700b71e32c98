/- What wire.Bytes, wire.Ints and wire.Strings return. Condition: the encoding takes at most 2^47 bytes. -/
import Derived.Test.YtlpkiaeimcoplaaInt
namespace Go.Proofs.Ytlpkiaeimcoplaa
open Go.RowKit
namespace Wire

set_option maxHeartbeats 400000 in
theorem bytes_any (s : List UInt8) (w : World) (h : (encStr s).length ≤ 140737488355328) :
    Calls Try.prog 16 #[sv s] w (Made w (encStr s).length (encStr s)) := by
  obtain ⟨i0, hi, hz0, hz1, hz2⟩ := info_parts byte_info
  have hln : (encStr s).length = (enc (s.length : Int)).length + s.length := by simp [encStr]
  have hsz : (⟨s.toArray⟩ : ByteArray).size = s.length := by simp [ByteArray.size]
  have hr : -9223372036854775808 ≤ ((⟨s.toArray⟩ : ByteArray).size : Int) ∧ ((⟨s.toArray⟩ : ByteArray).size : Int) ≤ 9223372036854775807 := by rw [hsz]; omega
  have hin := int_any ((⟨s.toArray⟩ : ByteArray).size : Int) w hr
  have hf : ∀ g cap w1 v' w', w1.ownsRow w.heap.size 5 1 (.slice (some ⟨g, 0, none⟩) (enc ((⟨s.toArray⟩ : ByteArray).size : Int)).length cap) (enc ((⟨s.toArray⟩ : ByteArray).size : Int)).length ((enc ((⟨s.toArray⟩ : ByteArray).size : Int)).map bv) →
      Below w.heap.size w w1 → w'.ownsRow w.heap.size 5 1 v' ((enc ((⟨s.toArray⟩ : ByteArray).size : Int)).length + (⟨s.toArray⟩ : ByteArray).size) ((enc ((⟨s.toArray⟩ : ByteArray).size : Int)).map bv ++ Lib.strCells ⟨s.toArray⟩) →
      w1.grownBy w' (some g) → Made w (encStr s).length (encStr s) (.returned v') w' := by
    intro g cap w1 v' w' h1 h2 h3 h4
    rw [hsz] at h1 h3
    obtain ⟨g', cap', rfl, hr⟩ := own_form h3 (by have := enc_length (s.length : Int); omega)
    refine ⟨g', cap', by rw [hln], ?_, h2.grown h4 h2.size (fun k hk => by simp at hk; subst hk; exact (h1.lt _ rfl).1)⟩
    rw [hln]
    simpa [encStr, strCells_eq] using h3
  have HF := Lib.hid hf; clear hf
  have hb1 : (enc ((⟨s.toArray⟩ : ByteArray).size : Int)).length + (⟨s.toArray⟩ : ByteArray).size ≤ 140737488355328 := by rw [hsz]; omega
  have HB := Lib.hid hb1; clear hb1
  have HS := Lib.hid hsz; clear hsz
  have HL := Lib.hid hln; clear hln
  have HI := Lib.hid hin; clear hin
  unfold sv
  go_enter Try.func16, Try.ntmps16
  go_wp2_with (first
    | (go_at_call 14; refine HI.out.mono ?_; rintro e w1 ⟨g, cap, rfl, hown, hb⟩)
    | (at_builtin; refine Lib.wpList_append_own_string _ rfl (.tmp 5) (.tmp 6) _ _ rfl w.heap.size 5 i0 Try.underlying28 Try.underlying9 hi hz0 hz1 hz2 _ _ _ rfl hown _ rfl (by have := HB.out; unfold maxLen; omega) HB.out hb.size ?_; intro v' w2 hown2 hgrow2 _))
  go_ret
  exact HF.out _ _ _ _ _ hown hb hown2 hgrow2

set_option maxHeartbeats 400000 in
theorem ints_any (l : List Int) (n c : Nat) (A : Option Addr) (w : World) (hl : Lies w w.heap.size 1 A n c (l.map iv)) (h : (encList enc l).length ≤ 140737488355328) (hr : ∀ x ∈ l, -9223372036854775808 ≤ x ∧ x ≤ 9223372036854775807) :
    Calls Try.prog 18 #[.slice A n c] w (Made w (encList enc l).length (encList enc l)) := by
  obtain ⟨i0, hi, hz0, hz1, hz2⟩ := info_parts byte_info
  have hnl : l.length = n := by have := hl.len; simpa using this
  have hmost : c ≤ 9223372036854775807 := by have := hl.most; unfold maxLen at this; omega
  have hle := hl.le
  have hin := int_any (n : Int) w (by omega)
  have hin2 := Lib.hid hin; clear hin
  have HNL := Lib.hid hnl; clear hnl
  have h0 : 1 ≤ (enc (n : Int)).length := by rw [enc_length]; omega
  go_enter Try.func18, Try.ntmps18
  go_wp2_with (go_at_call 14; refine hin2.out.mono ?_; rintro e w1 ⟨g, cap, rfl, hown, hb⟩)
  go_loopw [3, 11] (fun v jv wr => ∃ (i g m cap : Nat), i ≤ n ∧ jv = .int .i64 (i : Int) ∧ v = .slice (some ⟨g, 0, none⟩) m cap ∧ m = (enc (n : Int) ++ (l.take i).flatMap enc).length ∧
      wr.ownsRow w.heap.size 5 1 v m ((enc (n : Int) ++ (l.take i).flatMap enc).map bv) ∧ Below w.heap.size w wr) (fun _ jv _ => (n - (intOf jv)).toNat)
  case atStart => exact ⟨0, g, _, cap, by omega, rfl, rfl, by simp, by simpa using hown, hb⟩
  case round =>
    obtain ⟨i, g2, m, cap2, hi2, rfl, rfl, hm, hown2, hb2⟩ := hrel
    clear hown hb
    by_cases hlt : i < n
    · obtain ⟨b, o, u, rfl, hbB, hu, hcell⟩ := hl.at_ hlt
      rw [List.getElem?_map] at hu
      obtain ⟨x, hx, rfl⟩ : ∃ x, l[i]? = some x ∧ iv x = u := by
        cases hxx : l[i]? with
        | none => rw [hxx] at hu; cases hu
        | some x => rw [hxx] at hu; exact ⟨x, rfl, by simpa using hu⟩
      rw [← hb2.cell (p := ⟨b, o + i, none⟩) hbB] at hcell
      have hsn := flat_snoc enc l hx
      have hfl := flat_le enc l (i + 1)
      have htot : (enc (n : Int)).length + (l.flatMap enc).length ≤ 140737488355328 := by have := h; rw [encList, HNL.out, List.length_append] at this; exact this
      have hm2 : m + (enc x).length = (enc (n : Int) ++ (l.take (i + 1)).flatMap enc).length := by rw [hsn, hm]; simp; omega
      have hbd : m + (enc x).length ≤ 140737488355328 := by rw [hm2, List.length_append]; omega
      have hin3 := int_any x wr (hr x (List.mem_of_getElem? hx))
      have HI := Lib.hid hin3; clear hin3
      have fin : ∀ w3 g3 cap3 v' w', Below wr.heap.size wr w3 → w3.ownsRow wr.heap.size 5 1 (.slice (some ⟨g3, 0, none⟩) (enc x).length cap3) (enc x).length ((enc x).map bv) → w'.ownsRow w.heap.size 5 1 v' (m + (enc x).length) ((enc (n : Int) ++ (l.take i).flatMap enc).map bv ++ (enc x).map bv) → w3.grownBy w' (some g2) →
          (∃ (i_1 g m cap : Nat), i_1 ≤ n ∧ Value.int .i64 ((i : Int) + 1) = .int .i64 (i_1 : Int) ∧ v' = .slice (some ⟨g, 0, none⟩) m cap ∧ m = (enc (n : Int) ++ (l.take i_1).flatMap enc).length ∧
            w'.ownsRow w.heap.size 5 1 v' m ((enc (n : Int) ++ (l.take i_1).flatMap enc).map bv) ∧ Below w.heap.size w w') := by
        intro w3 g3 cap3 v' w' h3 _ h4 h5
        obtain ⟨g', cap', rfl, _⟩ := own_form h4 (by rw [hm, List.length_append]; omega)
        refine ⟨i + 1, g', _, cap', by omega, by go_num, rfl, hm2, ?_, ?_⟩
        · rw [hsn, ← List.append_assoc, List.map_append]; exact h4
        · exact (hb2.trans (h3.mono hb2.size)).grown h5 (by have := h3.size; have := hb2.size; omega) (fun k hk => by simp at hk; subst hk; exact (hown2.lt _ rfl).1)
      have FIN := Lib.hid fin; clear fin
      have HM := Lib.hid hm; clear hm
      have HM2 := Lib.hid hm2; clear hm2
      have HSN := Lib.hid hsn; clear hsn
      have HX := Lib.hid hx; clear hx hu
      unfold iv at hcell
      go_wp2_with (first
        | (go_at_call 14; refine HI.out.mono ?_; rintro e w3 ⟨g3, cap3, rfl, hown3, hb3⟩)
        | (at_builtin; refine wpList_append_own _ rfl (.tmp 15) (.tmp 17) _ rfl w.heap.size 5 i0 (.int .u8 0) 1 1 Try.underlying28 hi hz0 hz1 hz2 rfl (by decide) _ m _ rfl (own_below hown2 hb3) ⟨g3, 0, none⟩ _ cap3 _ rfl hown3.1 (hown3.cells (g := g3) rfl) (bytes_one _) (by unfold maxLen; omega) (by omega) (by have := hb2.size; have := hb3.size; omega) ?_; intro v' w4 hown4 hgrow4 _))
      go_roundw
      case rel => exact FIN.out _ _ _ _ _ hb3 hown3 hown4 hgrow4
      case measure => simp [intOf]; omega
    · obtain rfl : i = n := by omega
      have hend : encList enc l = enc (i : Int) ++ (l.take i).flatMap enc := by rw [encList, HNL.out, List.take_of_length_le (by rw [HNL.out]; omega)]
      have HE := Lib.hid hend; clear hend
      have HM := Lib.hid hm; clear hm
      go_wp2
      go_ret
      exact ⟨g2, cap2, by rw [HE.out, ← HM.out]; rfl, by rw [HE.out, ← HM.out]; exact hown2, hb2⟩

set_option maxHeartbeats 400000 in
theorem strings_any (l : List (List UInt8)) (n c : Nat) (A : Option Addr) (w : World) (hl : Lies w w.heap.size 1 A n c (l.map sv)) (h : (encList encStr l).length ≤ 140737488355328) :
    Calls Try.prog 20 #[.slice A n c] w (Made w (encList encStr l).length (encList encStr l)) := by
  obtain ⟨i0, hi, hz0, hz1, hz2⟩ := info_parts byte_info
  have hnl : l.length = n := by have := hl.len; simpa using this
  have hmost : c ≤ 9223372036854775807 := by have := hl.most; unfold maxLen at this; omega
  have hle := hl.le
  have hin := int_any (n : Int) w (by omega)
  have hin2 := Lib.hid hin; clear hin
  have HNL := Lib.hid hnl; clear hnl
  have h0 : 1 ≤ (enc (n : Int)).length := by rw [enc_length]; omega
  go_enter Try.func20, Try.ntmps20
  go_wp2_with (go_at_call 14; refine hin2.out.mono ?_; rintro e w1 ⟨g, cap, rfl, hown, hb⟩)
  go_loopw [3, 11] (fun v jv wr => ∃ (i g m cap : Nat), i ≤ n ∧ jv = .int .i64 (i : Int) ∧ v = .slice (some ⟨g, 0, none⟩) m cap ∧ m = (enc (n : Int) ++ (l.take i).flatMap encStr).length ∧
      wr.ownsRow w.heap.size 5 1 v m ((enc (n : Int) ++ (l.take i).flatMap encStr).map bv) ∧ Below w.heap.size w wr) (fun _ jv _ => (n - (intOf jv)).toNat)
  case atStart => exact ⟨0, g, _, cap, by omega, rfl, rfl, by simp, by simpa using hown, hb⟩
  case round =>
    obtain ⟨i, g2, m, cap2, hi2, rfl, rfl, hm, hown2, hb2⟩ := hrel
    clear hown hb
    by_cases hlt : i < n
    · obtain ⟨b, o, u, rfl, hbB, hu, hcell⟩ := hl.at_ hlt
      rw [List.getElem?_map] at hu
      obtain ⟨x, hx, rfl⟩ : ∃ x, l[i]? = some x ∧ sv x = u := by
        cases hxx : l[i]? with
        | none => rw [hxx] at hu; cases hu
        | some x => rw [hxx] at hu; exact ⟨x, rfl, by simpa using hu⟩
      rw [← hb2.cell (p := ⟨b, o + i, none⟩) hbB] at hcell
      have hsn := flat_snoc encStr l hx
      have hfl := flat_le encStr l (i + 1)
      have htot : (enc (n : Int)).length + (l.flatMap encStr).length ≤ 140737488355328 := by have := h; rw [encList, HNL.out, List.length_append] at this; exact this
      have hm2 : m + (encStr x).length = (enc (n : Int) ++ (l.take (i + 1)).flatMap encStr).length := by rw [hsn, hm]; simp; omega
      have hbd : m + (encStr x).length ≤ 140737488355328 := by rw [hm2, List.length_append]; omega
      have hin3 := bytes_any x wr (by omega)
      have HI := Lib.hid hin3; clear hin3
      have fin : ∀ w3 g3 cap3 v' w', Below wr.heap.size wr w3 → w3.ownsRow wr.heap.size 5 1 (.slice (some ⟨g3, 0, none⟩) (encStr x).length cap3) (encStr x).length ((encStr x).map bv) → w'.ownsRow w.heap.size 5 1 v' (m + (encStr x).length) ((enc (n : Int) ++ (l.take i).flatMap encStr).map bv ++ (encStr x).map bv) → w3.grownBy w' (some g2) →
          (∃ (i_1 g m cap : Nat), i_1 ≤ n ∧ Value.int .i64 ((i : Int) + 1) = .int .i64 (i_1 : Int) ∧ v' = .slice (some ⟨g, 0, none⟩) m cap ∧ m = (enc (n : Int) ++ (l.take i_1).flatMap encStr).length ∧
            w'.ownsRow w.heap.size 5 1 v' m ((enc (n : Int) ++ (l.take i_1).flatMap encStr).map bv) ∧ Below w.heap.size w w') := by
        intro w3 g3 cap3 v' w' h3 _ h4 h5
        obtain ⟨g', cap', rfl, _⟩ := own_form h4 (by rw [hm, List.length_append]; omega)
        refine ⟨i + 1, g', _, cap', by omega, by go_num, rfl, hm2, ?_, ?_⟩
        · rw [hsn, ← List.append_assoc, List.map_append]; exact h4
        · exact (hb2.trans (h3.mono hb2.size)).grown h5 (by have := h3.size; have := hb2.size; omega) (fun k hk => by simp at hk; subst hk; exact (hown2.lt _ rfl).1)
      have FIN := Lib.hid fin; clear fin
      have HM := Lib.hid hm; clear hm
      have HM2 := Lib.hid hm2; clear hm2
      have HSN := Lib.hid hsn; clear hsn
      have HX := Lib.hid hx; clear hx hu
      unfold sv at hcell
      go_wp2_with (first
        | (go_at_call 16; refine HI.out.mono ?_; rintro e w3 ⟨g3, cap3, rfl, hown3, hb3⟩)
        | (at_builtin; refine wpList_append_own _ rfl (.tmp 15) (.tmp 17) _ rfl w.heap.size 5 i0 (.int .u8 0) 1 1 Try.underlying28 hi hz0 hz1 hz2 rfl (by decide) _ m _ rfl (own_below hown2 hb3) ⟨g3, 0, none⟩ _ cap3 _ rfl hown3.1 (hown3.cells (g := g3) rfl) (bytes_one _) (by unfold maxLen; omega) (by omega) (by have := hb2.size; have := hb3.size; omega) ?_; intro v' w4 hown4 hgrow4 _))
      go_roundw
      case rel => exact FIN.out _ _ _ _ _ hb3 hown3 hown4 hgrow4
      case measure => simp [intOf]; omega
    · obtain rfl : i = n := by omega
      have hend : encList encStr l = enc (i : Int) ++ (l.take i).flatMap encStr := by rw [encList, HNL.out, List.take_of_length_le (by rw [HNL.out]; omega)]
      have HE := Lib.hid hend; clear hend
      have HM := Lib.hid hm; clear hm
      go_wp2
      go_ret
      exact ⟨g2, cap2, by rw [HE.out, ← HM.out]; rfl, by rw [HE.out, ← HM.out]; exact hown2, hb2⟩

end Wire
end Go.Proofs.Ytlpkiaeimcoplaa
