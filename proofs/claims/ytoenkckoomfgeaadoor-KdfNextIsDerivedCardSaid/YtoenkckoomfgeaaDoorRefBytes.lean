/- The reference's encoding of a string. Condition: it takes at most 2^47 bytes. -/
import Derived.Test.YtoenkckoomfgeaaDoorRefInt
import Derived.Test.YtoenkckoomfgeaaDoorEncB
import Derived.Lib.ConvBytes
namespace Go.Proofs.YtoenkckoomfgeaaDoor
open Go.RowKit
namespace Wire

theorem convW (x : List UInt8) (W : World) : (convert 9 44 (.string ⟨x.toArray⟩)).run Tryd.prog W = .ok (.slice (some ⟨W.heap.size, 0, none⟩) x.length (grownCap W x.length 0 5)) (Lib.bytesWorld W 5 ⟨x.toArray⟩) :=
  Lib.run_convert_string_bytes (P := Tryd.prog) W 9 44 5 ⟨x.toArray⟩ (u := .string) Tryd.underlying9 Tryd.underlying44 Tryd.underlying5
theorem bytesWB (W : World) (x : List UInt8) : Below W.heap.size W (Lib.bytesWorld W 5 ⟨x.toArray⟩) :=
  ⟨rfl, rfl, rfl, by rw [Lib.bytesWorld_size]; omega, fun k hk => Lib.bytesWorld_at_old W 5 ⟨x.toArray⟩ k hk⟩
theorem bytesW_at (W : World) (x : List UInt8) (j : Nat) (u : Value) (hu : (x.map bv)[j]? = some u) : (Lib.bytesWorld W 5 ⟨x.toArray⟩).cell? ((⟨W.heap.size, 0, none⟩ : Addr).add j) = some u := by
  have hj : j < x.length := by
    have := (List.getElem?_eq_some_iff.1 hu).1
    simpa using this
  have hadd : (⟨W.heap.size, 0, none⟩ : Addr).add j = ⟨W.heap.size, j, none⟩ := by unfold Addr.add; split <;> simp_all
  rw [hadd, Lib.bytesWorld_cell W 5 ⟨x.toArray⟩ j (by simpa [ByteArray.size] using hj)]
  simp [hj] at hu
  simp [List.getD, hj, ← hu, bv]

set_option maxRecDepth 100000 in
set_option maxHeartbeats 400000 in
theorem refBytes_any (s : List UInt8) (w : World) (h : (encStr s).length ≤ 140737488355328) :
    Calls Tryd.prog 23 #[.string ⟨s.toArray⟩] w (Made w (encStr s).length (encStr s)) := by
  obtain ⟨i0, hi, hz0, hz1, hz2⟩ := info_parts byte_info
  have hln : (encStr s).length = (enc (s.length : Int)).length + s.length := by simp [encStr]
  have hsz : (⟨s.toArray⟩ : ByteArray).size = s.length := by simp [ByteArray.size]
  have HI := Lib.hid (refInt_any (s.length : Int) w (by omega))
  have hcv := convW s
  have HEP := Lib.hid (enc_length (s.length : Int))
  obtain ⟨E, hE⟩ : ∃ E, E = enc (s.length : Int) := ⟨_, rfl⟩
  have hES : encStr s = E ++ s := by rw [hE]; rfl
  have hpos : 0 < E.length := by rw [hE, HEP.out]; omega
  rw [hln, ← hE] at h
  rw [← hE] at HI hln
  rw [hES]
  have HLN : Hid ((E ++ s).length = E.length + s.length) := Lib.hid (by simp)
  rw [HLN.out]
  clear hE hES hln HEP HLN
  go_enter Tryd.func23, Tryd.ntmps23
  go_wp2_with (first
    | (go_at_call 36; (with_reducible refine HI.out.mono ?_); rintro e w1 ⟨g, cap, rfl, hown, hb⟩)
    | (at_builtin; have hb2 := bytesWB w1 s; refine wpList_append_own _ rfl (.tmp 5) (.tmp 7) _ rfl w.heap.size 5 i0 (.int .u8 0) 1 1 Tryd.underlying44 hi hz0 hz1 hz2 rfl (by decide) _ _ _ rfl (own_below hown hb2) ⟨w1.heap.size, 0, none⟩ s.length _ (s.map bv) rfl (by simp) (bytesW_at w1 s) (bytes_one _) (by unfold maxLen; omega) (by omega) (Nat.le_trans hb.size hb2.size) ?_; intro v' w2 hown2 hgrow2 _))
  go_ret
  obtain ⟨g', cap', rfl, -⟩ := own_form hown2 (by omega)
  refine ⟨g', cap', rfl, by rw [List.map_append]; exact hown2, ?_⟩
  exact (hb.trans (hb2.mono hb.size)).grown hgrow2 (Nat.le_trans hb.size hb2.size) (fun k hk => (hown.lt k hk).1)

end Wire
end Go.Proofs.YtoenkckoomfgeaaDoor
