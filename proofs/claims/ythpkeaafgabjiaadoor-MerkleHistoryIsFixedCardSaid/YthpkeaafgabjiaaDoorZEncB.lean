/- What wire.Bytes returns. Condition: the encoding takes at most 2^47 bytes. -/
import Derived.Test.YthpkeaafgabjiaaDoorZInt
namespace Go.Proofs.YthpkeaafgabjiaaDoor
open Go.RowKit
namespace Wire

set_option maxRecDepth 100000 in
set_option maxHeartbeats 400000 in
theorem bytes_any (s : List UInt8) (w : World) (h : (encStr s).length ≤ 140737488355328) :
    Calls Tryd.prog 61 #[sv s] w (Made w (encStr s).length (encStr s)) := by
  obtain ⟨i0, hi, hz0, hz1, hz2⟩ := info_parts byte_info
  have hln : (encStr s).length = (enc (s.length : Int)).length + s.length := by simp [encStr]
  have hsz : (⟨s.toArray⟩ : ByteArray).size = s.length := by simp [ByteArray.size]
  have hr : -9223372036854775808 ≤ ((⟨s.toArray⟩ : ByteArray).size : Int) ∧ ((⟨s.toArray⟩ : ByteArray).size : Int) ≤ 9223372036854775807 := by rw [hsz]; omega
  have hin := int_any ((⟨s.toArray⟩ : ByteArray).size : Int) w hr
  have hf : ∀ g cap w1 v' w', w1.ownsRow w.heap.size 5 1 (.slice (some ⟨g, 0, none⟩) (enc ((⟨s.toArray⟩ : ByteArray).size : Int)).length cap) (enc ((⟨s.toArray⟩ : ByteArray).size : Int)).length ((enc ((⟨s.toArray⟩ : ByteArray).size : Int)).map bv) →
      Below w.heap.size w w1 → w'.ownsRow w.heap.size 5 1 v' ((enc ((⟨s.toArray⟩ : ByteArray).size : Int)).length + (⟨s.toArray⟩ : ByteArray).size) ((enc ((⟨s.toArray⟩ : ByteArray).size : Int)).map bv ++ Lib.strCells ⟨s.toArray⟩) →
      w1.grownBy w' (some g) → Made w (encStr s).length (encStr s) (.returned v') w' := by
    intro g cap w1 v' w' h1 h2 h3 h4
    rw [hsz] at h1 h3
    obtain ⟨g', cap', rfl, hr⟩ := own_form h3 (by have := enc_length (s.length : Int); omega)
    refine ⟨g', cap', by rw [hln], ?_, h2.grown h4 h2.size (fun k hk => by simp at hk; subst hk; exact (h1.lt _ rfl).1)⟩
    rw [hln]
    simpa [encStr, strCells_eq] using h3
  have HF := Lib.hid hf; clear hf
  have hb1 : (enc ((⟨s.toArray⟩ : ByteArray).size : Int)).length + (⟨s.toArray⟩ : ByteArray).size ≤ 140737488355328 := by rw [hsz]; omega
  have HB := Lib.hid hb1; clear hb1
  have HS := Lib.hid hsz; clear hsz
  have HL := Lib.hid hln; clear hln
  have HI := Lib.hid hin; clear hin
  unfold sv
  go_enter Tryd.func61, Tryd.ntmps61
  go_wp2_with (first
    | (go_at_call 73; refine HI.out.mono ?_; rintro e w1 ⟨g, cap, rfl, hown, hb⟩)
    | (at_builtin; refine Lib.wpList_append_own_string _ rfl (.tmp 5) (.tmp 6) _ _ rfl w.heap.size 5 i0 Tryd.underlying38 Tryd.underlying9 hi hz0 hz1 hz2 _ _ _ rfl hown _ rfl (by have := HB.out; unfold maxLen; omega) HB.out hb.size ?_; intro v' w2 hown2 hgrow2 _))
  go_ret
  exact HF.out _ _ _ _ _ hown hb hown2 hgrow2

end Wire
end Go.Proofs.YthpkeaafgabjiaaDoor
