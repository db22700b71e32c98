/- WoJ; WoP: what each of these parts proves stands ahead of it. -/
import Derived.Test.YtmabbiemjeeicaaDoorM13
import Derived.Test.YtmabbiemjeeicaaDoorZKDer
import Derived.OwnWalk
import Derived.Test.YtmabbiemjeeicaaDoorM14
import Derived.Test.YtmabbiemjeeicaaDoorZDigE
/- The package wots: join, key, start. Conditions: what the function that comes in answers; the seed has at most 1000 bytes; the table is laid. -/
namespace Go.Proofs.YtmabbiemjeeicaaDoor
open Go.RowKit
namespace Wo
open Mk (dv Dg GivesD dg_new dg_zero dg_end store_d load_d und_d info_d one_d info_dA)
open Wire (bv sv Lies enc Made)
open Hash (Table GivesT tabj bcj ofDig Arr)

/-- The values so far are one's own. -/
structure Jo (w W : World) (v : Value) (n : Nat) (l : List UInt8) : Prop where
  o : W.ownsRow w.heap.size 5 1 v n (l.map bv)
  z : Below w.heap.size w W
theorem Jo.on {w W W' : World} {v : Value} {n : Nat} {l : List UInt8} (h : Jo w W v n l) (hb : Below W.heap.size W W') : Jo w W' v n l := ⟨Wire.own_below h.o hb, bcj h.z hb⟩
/-- Beside it a digest. -/
theorem jo_dig {w W : World} {v : Value} {n : Nat} {l V : List UInt8} (h : Jo w W v n l) (hV : V.length = 16) (t : TypeId) :
    Jo w ((W.alloc (.cells #[.int .u8 0, .int .u8 0, .int .u8 0, .int .u8 0, .int .u8 0, .int .u8 0, .int .u8 0, .int .u8 0, .int .u8 0, .int .u8 0, .int .u8 0, .int .u8 0, .int .u8 0, .int .u8 0, .int .u8 0, .int .u8 0] t)).setCells W.heap.size 0 (V.map bv)) v n l ∧
    Dg ((W.alloc (.cells #[.int .u8 0, .int .u8 0, .int .u8 0, .int .u8 0, .int .u8 0, .int .u8 0, .int .u8 0, .int .u8 0, .int .u8 0, .int .u8 0, .int .u8 0, .int .u8 0, .int .u8 0, .int .u8 0, .int .u8 0, .int .u8 0] t)).setCells W.heap.size 0 (V.map bv)) W.heap.size V := by
  have hd := dg_zero W t
  refine ⟨h.on ?_, hd.put hV⟩
  exact (Wire.b1 W _).trans (Hash.below_cells (Nat.le_refl _) _ _ _)

set_option maxRecDepth 100000 in
set_option maxHeartbeats 1000000 in
theorem join_pub (c0 : Value) (v : Nat → List UInt8) (hv : ∀ k, k < 35 → (v k).length = 16) (w : World)
    (hc : ∀ k : Nat, k < 35 → ∀ W, Below w.heap.size w W → Calls Tryd.prog 27 #[.int .i64 (k : Int), c0] W (GivesD (v k) W)) :
    Calls Tryd.prog 31 #[.func (.func 27) #[] #[c0]] w (GivesT (part v 35) w) := by
  obtain ⟨i0, hi, hz0, hz1, hz2⟩ := info_parts Wire.byte_info
  have HV := Lib.hid hv
  have HC := Lib.hid hc
  have HP := Lib.hid (part_length hv)
  clear hv hc
  go_enter Tryd.func31, Tryd.ntmps31
  go_wp2_with (first
    | (at_make; refine wpList_make_own _ rfl _ _ 44 rfl w.heap.size 5 i0 (.int .u8 0) 1 Tryd.underlying44 hi hz0 hz1 .i64 .i64 _ 560 rfl rfl rfl (by rw [hz2]; omega) (by unfold maxLen; omega) (Nat.le_refl _) ?_; intro w4 hown4 hg4))
  have Y0 : Jo w w4 (.slice (some ⟨w.heap.size, 0, none⟩) 0 560) 0 (part v 0) := ⟨hown4, (Below.refl _ _).grown hg4 (Nat.le_refl _) (by simp)⟩
  clear hown4 hg4
  go_loopw [3, 7] (fun sv iv wr => ∃ (k : Nat), k ≤ 35 ∧ iv = .int .i64 (k : Int) ∧ Jo w wr sv (16 * k) (part v k)) (fun _ iv _ => (35 - intOf iv).toNat)
  case atStart => exact ⟨0, by omega, rfl, Y0⟩
  case round =>
    clear Y0
    obtain ⟨k, hk, rfl, Y⟩ := hrel
    by_cases hlt : k < 35
    · have z0 : (0 : Int) ≤ (k : Int) := by omega
      have z1 : (k : Int) < 35 := by omega
      have HL := Lib.hid (HV.out k hlt)
      have HS : Hid (part v (k + 1) = part v k ++ v k) := Lib.hid rfl
      have HF := Lib.hid (HC.out k hlt wr Y.z)
      generalize part v k = l at Y HS
      generalize v k = V at HL HF HS
      have HY := Lib.hid Y
      clear Y
      go_wp2_with (first
        | (go_at_call 27; (with_reducible refine HF.out.mono ?_); rintro e w1 ⟨rfl, hb⟩; replace HY := Lib.hid (HY.out.on hb); clear hb HF)
        | (refine store_d (.tmp 5) (.tmp 12) rfl rfl w1.heap.size 0 rfl V rfl HL.out (dg_zero w1 _).there ?_; refine Hash.gen_world (Pq := fun W => Jo w W u3 (16 * k) l ∧ Dg W w1.heap.size V) (G := fun W => wpList _ _ _ _ _ W) (jo_dig HY.out HL.out _) ?_; clear HY; intro w2 Y; have HY := Lib.hid Y; clear Y)
        | (at_builtin; refine wpList_append_own _ rfl (.tmp 13) (.tmp 14) _ rfl w.heap.size 5 i0 (.int .u8 0) 1 1 Tryd.underlying44 hi hz0 hz1 hz2 rfl (by decide) _ (16 * k) _ rfl HY.out.1.o ⟨w1.heap.size, 0, none⟩ 16 16 (V.map bv) rfl (by rw [List.length_map, HL.out]) (fun j u hu => by rw [Addr.add_mid, Nat.zero_add]; exact (HY.out.2.arr.at_ hu).1) (Wire.bytes_one _) (by unfold maxLen; omega) (by omega) HY.out.1.z.size ?_; intro v4 w4 ho4 hg4 _))
      go_roundw
      case rel =>
        refine ⟨k + 1, by omega, by go_num, by rw [HS.out, List.map_append]; exact ho4, ?_⟩
        exact HY.out.1.z.grown hg4 HY.out.1.z.size (fun q hq => (HY.out.1.o.lt q hq).1)
      case measure => simp [intOf]; omega
    · have z1 : ¬ (k : Int) < 35 := by omega
      obtain rfl : k = 35 := by omega
      obtain ⟨g, c, rfl, -⟩ := Wire.own_form Y.o (by omega)
      have hcv := Hash.convO Y.o HP.out
      have HZ := Lib.hid Y.z
      clear Y
      go_wp2
      go_ret
      exact ⟨rfl, HZ.out⟩
set_option maxRecDepth 100000 in
set_option maxHeartbeats 1000000 in
theorem join_sign (c0 c1 : Value) (v : Nat → List UInt8) (hv : ∀ k, k < 35 → (v k).length = 16) (w : World)
    (hc : ∀ k : Nat, k < 35 → ∀ W, Below w.heap.size w W → Calls Tryd.prog 32 #[.int .i64 (k : Int), c0, c1] W (GivesD (v k) W)) :
    Calls Tryd.prog 31 #[.func (.func 32) #[] #[c0, c1]] w (GivesT (part v 35) w) := by
  obtain ⟨i0, hi, hz0, hz1, hz2⟩ := info_parts Wire.byte_info
  have HV := Lib.hid hv
  have HC := Lib.hid hc
  have HP := Lib.hid (part_length hv)
  clear hv hc
  go_enter Tryd.func31, Tryd.ntmps31
  go_wp2_with (first
    | (at_make; refine wpList_make_own _ rfl _ _ 44 rfl w.heap.size 5 i0 (.int .u8 0) 1 Tryd.underlying44 hi hz0 hz1 .i64 .i64 _ 560 rfl rfl rfl (by rw [hz2]; omega) (by unfold maxLen; omega) (Nat.le_refl _) ?_; intro w4 hown4 hg4))
  have Y0 : Jo w w4 (.slice (some ⟨w.heap.size, 0, none⟩) 0 560) 0 (part v 0) := ⟨hown4, (Below.refl _ _).grown hg4 (Nat.le_refl _) (by simp)⟩
  clear hown4 hg4
  go_loopw [3, 7] (fun sv iv wr => ∃ (k : Nat), k ≤ 35 ∧ iv = .int .i64 (k : Int) ∧ Jo w wr sv (16 * k) (part v k)) (fun _ iv _ => (35 - intOf iv).toNat)
  case atStart => exact ⟨0, by omega, rfl, Y0⟩
  case round =>
    clear Y0
    obtain ⟨k, hk, rfl, Y⟩ := hrel
    by_cases hlt : k < 35
    · have z0 : (0 : Int) ≤ (k : Int) := by omega
      have z1 : (k : Int) < 35 := by omega
      have HL := Lib.hid (HV.out k hlt)
      have HS : Hid (part v (k + 1) = part v k ++ v k) := Lib.hid rfl
      have HF := Lib.hid (HC.out k hlt wr Y.z)
      generalize part v k = l at Y HS
      generalize v k = V at HL HF HS
      have HY := Lib.hid Y
      clear Y
      go_wp2_with (first
        | (go_at_call 32; (with_reducible refine HF.out.mono ?_); rintro e w1 ⟨rfl, hb⟩; replace HY := Lib.hid (HY.out.on hb); clear hb HF)
        | (refine store_d (.tmp 5) (.tmp 12) rfl rfl w1.heap.size 0 rfl V rfl HL.out (dg_zero w1 _).there ?_; refine Hash.gen_world (Pq := fun W => Jo w W u3 (16 * k) l ∧ Dg W w1.heap.size V) (G := fun W => wpList _ _ _ _ _ W) (jo_dig HY.out HL.out _) ?_; clear HY; intro w2 Y; have HY := Lib.hid Y; clear Y)
        | (at_builtin; refine wpList_append_own _ rfl (.tmp 13) (.tmp 14) _ rfl w.heap.size 5 i0 (.int .u8 0) 1 1 Tryd.underlying44 hi hz0 hz1 hz2 rfl (by decide) _ (16 * k) _ rfl HY.out.1.o ⟨w1.heap.size, 0, none⟩ 16 16 (V.map bv) rfl (by rw [List.length_map, HL.out]) (fun j u hu => by rw [Addr.add_mid, Nat.zero_add]; exact (HY.out.2.arr.at_ hu).1) (Wire.bytes_one _) (by unfold maxLen; omega) (by omega) HY.out.1.z.size ?_; intro v4 w4 ho4 hg4 _))
      go_roundw
      case rel =>
        refine ⟨k + 1, by omega, by go_num, by rw [HS.out, List.map_append]; exact ho4, ?_⟩
        exact HY.out.1.z.grown hg4 HY.out.1.z.size (fun q hq => (HY.out.1.o.lt q hq).1)
      case measure => simp [intOf]; omega
    · have z1 : ¬ (k : Int) < 35 := by omega
      obtain rfl : k = 35 := by omega
      obtain ⟨g, c, rfl, -⟩ := Wire.own_form Y.o (by omega)
      have hcv := Hash.convO Y.o HP.out
      have HZ := Lib.hid Y.z
      clear Y
      go_wp2
      go_ret
      exact ⟨rfl, HZ.out⟩
set_option maxRecDepth 100000 in
set_option maxHeartbeats 1000000 in
theorem join_rec (c0 c1 : Value) (v : Nat → List UInt8) (hv : ∀ k, k < 35 → (v k).length = 16) (w : World)
    (hc : ∀ k : Nat, k < 35 → ∀ W, Below w.heap.size w W → Calls Tryd.prog 26 #[.int .i64 (k : Int), c0, c1] W (GivesD (v k) W)) :
    Calls Tryd.prog 31 #[.func (.func 26) #[] #[c0, c1]] w (GivesT (part v 35) w) := by
  obtain ⟨i0, hi, hz0, hz1, hz2⟩ := info_parts Wire.byte_info
  have HV := Lib.hid hv
  have HC := Lib.hid hc
  have HP := Lib.hid (part_length hv)
  clear hv hc
  go_enter Tryd.func31, Tryd.ntmps31
  go_wp2_with (first
    | (at_make; refine wpList_make_own _ rfl _ _ 44 rfl w.heap.size 5 i0 (.int .u8 0) 1 Tryd.underlying44 hi hz0 hz1 .i64 .i64 _ 560 rfl rfl rfl (by rw [hz2]; omega) (by unfold maxLen; omega) (Nat.le_refl _) ?_; intro w4 hown4 hg4))
  have Y0 : Jo w w4 (.slice (some ⟨w.heap.size, 0, none⟩) 0 560) 0 (part v 0) := ⟨hown4, (Below.refl _ _).grown hg4 (Nat.le_refl _) (by simp)⟩
  clear hown4 hg4
  go_loopw [3, 7] (fun sv iv wr => ∃ (k : Nat), k ≤ 35 ∧ iv = .int .i64 (k : Int) ∧ Jo w wr sv (16 * k) (part v k)) (fun _ iv _ => (35 - intOf iv).toNat)
  case atStart => exact ⟨0, by omega, rfl, Y0⟩
  case round =>
    clear Y0
    obtain ⟨k, hk, rfl, Y⟩ := hrel
    by_cases hlt : k < 35
    · have z0 : (0 : Int) ≤ (k : Int) := by omega
      have z1 : (k : Int) < 35 := by omega
      have HL := Lib.hid (HV.out k hlt)
      have HS : Hid (part v (k + 1) = part v k ++ v k) := Lib.hid rfl
      have HF := Lib.hid (HC.out k hlt wr Y.z)
      generalize part v k = l at Y HS
      generalize v k = V at HL HF HS
      have HY := Lib.hid Y
      clear Y
      go_wp2_with (first
        | (go_at_call 26; (with_reducible refine HF.out.mono ?_); rintro e w1 ⟨rfl, hb⟩; replace HY := Lib.hid (HY.out.on hb); clear hb HF)
        | (refine store_d (.tmp 5) (.tmp 12) rfl rfl w1.heap.size 0 rfl V rfl HL.out (dg_zero w1 _).there ?_; refine Hash.gen_world (Pq := fun W => Jo w W u3 (16 * k) l ∧ Dg W w1.heap.size V) (G := fun W => wpList _ _ _ _ _ W) (jo_dig HY.out HL.out _) ?_; clear HY; intro w2 Y; have HY := Lib.hid Y; clear Y)
        | (at_builtin; refine wpList_append_own _ rfl (.tmp 13) (.tmp 14) _ rfl w.heap.size 5 i0 (.int .u8 0) 1 1 Tryd.underlying44 hi hz0 hz1 hz2 rfl (by decide) _ (16 * k) _ rfl HY.out.1.o ⟨w1.heap.size, 0, none⟩ 16 16 (V.map bv) rfl (by rw [List.length_map, HL.out]) (fun j u hu => by rw [Addr.add_mid, Nat.zero_add]; exact (HY.out.2.arr.at_ hu).1) (Wire.bytes_one _) (by unfold maxLen; omega) (by omega) HY.out.1.z.size ?_; intro v4 w4 ho4 hg4 _))
      go_roundw
      case rel =>
        refine ⟨k + 1, by omega, by go_num, by rw [HS.out, List.map_append]; exact ho4, ?_⟩
        exact HY.out.1.z.grown hg4 HY.out.1.z.size (fun q hq => (HY.out.1.o.lt q hq).1)
      case measure => simp [intOf]; omega
    · have z1 : ¬ (k : Int) < 35 := by omega
      obtain rfl : k = 35 := by omega
      obtain ⟨g, c, rfl, -⟩ := Wire.own_form Y.o (by omega)
      have hcv := Hash.convO Y.o HP.out
      have HZ := Lib.hid Y.z
      clear Y
      go_wp2
      go_ret
      exact ⟨rfl, HZ.out⟩
set_option maxRecDepth 100000 in
set_option maxHeartbeats 1000000 in
theorem key_pub (c0 : Value) (v : Nat → List UInt8) (hv : ∀ k, k < 35 → (v k).length = 16) (w : World) (ht : TP w)
    (hc : ∀ k : Nat, k < 35 → ∀ W, Below w.heap.size w W → Calls Tryd.prog 27 #[.int .i64 (k : Int), c0] W (GivesD (v k) W)) :
    Calls Tryd.prog 25 #[.func (.func 27) #[] #[c0]] w (GivesD (ofDig 5 [part v 35]) w) := by
  have R0 := dg_zero w 23
  have Z := Wire.b1 w (.cells #[.int .u8 0, .int .u8 0, .int .u8 0, .int .u8 0, .int .u8 0, .int .u8 0, .int .u8 0, .int .u8 0, .int .u8 0, .int .u8 0, .int .u8 0, .int .u8 0, .int .u8 0, .int .u8 0, .int .u8 0, .int .u8 0] 23)
  have HJ := Lib.hid (join_pub c0 v hv _ (fun k hk W hb => hc k hk W (bcj Z hb)))
  have HT := Lib.hid ht
  have HO : Hid (∀ W, TP W → Calls Tryd.prog 34 #[.int .i64 5, .slice (some ⟨W.heap.size, 0, none⟩) 1 1] (W.alloc (.cells #[.string ⟨(part v 35).toArray⟩] 9)) (GivesD (ofDig 5 [part v 35]) W)) := Lib.hid (fun W h => pOf1 5 _ (by rw [part_length hv]; omega) W h)
  have hDl := ofDig_length 5 [part v 35]
  generalize ofDig 5 [part v 35] = D at HO hDl ⊢
  generalize part v 35 = s at HJ HO
  have HDL := Lib.hid hDl
  clear hDl hv hc ht
  go_enter Tryd.func25, Tryd.ntmps25
  go_wp2_with (first
    | (go_at_call 31; (with_reducible refine HJ.out.mono ?_); rintro e w1 ⟨rfl, hb⟩; replace Z := bcj Z hb; replace R0 := R0.on hb; clear hb HJ)
    | (go_at_call 34; (with_reducible refine (HO.out _ (HT.out.on Z)).mono ?_); rintro e w2 ⟨rfl, hb⟩; replace Z := bcj Z hb; replace R0 := R0.on hb; clear hb)
    | (refine store_d (.tmp 2) (.tmp 6) rfl rfl w.heap.size 0 rfl D rfl HDL.out R0.there ?_))
  have HE := dg_end R0 HDL.out Z (by omega)
  refine bodyPost_ret (v := dv D) ?_ rfl ⟨rfl, HE.2⟩
  simp [results, Tryd.results25, asAddr, Act.put]
  rw [HE.1]
set_option maxRecDepth 100000 in
set_option maxHeartbeats 1000000 in
theorem key_rec (c0 c1 : Value) (v : Nat → List UInt8) (hv : ∀ k, k < 35 → (v k).length = 16) (w : World) (ht : TP w)
    (hc : ∀ k : Nat, k < 35 → ∀ W, Below w.heap.size w W → Calls Tryd.prog 26 #[.int .i64 (k : Int), c0, c1] W (GivesD (v k) W)) :
    Calls Tryd.prog 25 #[.func (.func 26) #[] #[c0, c1]] w (GivesD (ofDig 5 [part v 35]) w) := by
  have R0 := dg_zero w 23
  have Z := Wire.b1 w (.cells #[.int .u8 0, .int .u8 0, .int .u8 0, .int .u8 0, .int .u8 0, .int .u8 0, .int .u8 0, .int .u8 0, .int .u8 0, .int .u8 0, .int .u8 0, .int .u8 0, .int .u8 0, .int .u8 0, .int .u8 0, .int .u8 0] 23)
  have HJ := Lib.hid (join_rec c0 c1 v hv _ (fun k hk W hb => hc k hk W (bcj Z hb)))
  have HT := Lib.hid ht
  have HO : Hid (∀ W, TP W → Calls Tryd.prog 34 #[.int .i64 5, .slice (some ⟨W.heap.size, 0, none⟩) 1 1] (W.alloc (.cells #[.string ⟨(part v 35).toArray⟩] 9)) (GivesD (ofDig 5 [part v 35]) W)) := Lib.hid (fun W h => pOf1 5 _ (by rw [part_length hv]; omega) W h)
  have hDl := ofDig_length 5 [part v 35]
  generalize ofDig 5 [part v 35] = D at HO hDl ⊢
  generalize part v 35 = s at HJ HO
  have HDL := Lib.hid hDl
  clear hDl hv hc ht
  go_enter Tryd.func25, Tryd.ntmps25
  go_wp2_with (first
    | (go_at_call 31; (with_reducible refine HJ.out.mono ?_); rintro e w1 ⟨rfl, hb⟩; replace Z := bcj Z hb; replace R0 := R0.on hb; clear hb HJ)
    | (go_at_call 34; (with_reducible refine (HO.out _ (HT.out.on Z)).mono ?_); rintro e w2 ⟨rfl, hb⟩; replace Z := bcj Z hb; replace R0 := R0.on hb; clear hb)
    | (refine store_d (.tmp 2) (.tmp 6) rfl rfl w.heap.size 0 rfl D rfl HDL.out R0.there ?_))
  have HE := dg_end R0 HDL.out Z (by omega)
  refine bodyPost_ret (v := dv D) ?_ rfl ⟨rfl, HE.2⟩
  simp [results, Tryd.results25, asAddr, Act.put]
  rw [HE.1]
end Wo
end Go.Proofs.YtmabbiemjeeicaaDoor

/- The package wots: Public, Sign, Recover, Verify. Conditions: the seed has at most 1000 bytes, digests 16; the table is laid. -/
namespace Go.Proofs.YtmabbiemjeeicaaDoor
open Go.RowKit
namespace Wo
open Mk (dv Dg GivesD dg_new dg_zero dg_end store_d load_d und_d info_d one_d info_dA)
open Wire (bv sv Lies enc Made)
open Hash (Table GivesT tabj bcj ofDig Arr at_slot)

theorem mkf (fn : Fn) (first cap : Array Value) (w : World) : (Instr.makeFunc fn first cap).run Tryd.prog w = .ok (.func fn first cap) w := rfl

set_option maxRecDepth 100000 in
set_option maxHeartbeats 1000000 in
theorem public_any (seed : List UInt8) (hs : seed.length ≤ 1000) (w : World) (ht : TP w) : Calls Tryd.prog 15 #[.string ⟨seed.toArray⟩] w (GivesD (pub seed) w) := by
  have b1 := Wire.b1 w (.cells #[.string ⟨seed.toArray⟩] 9)
  have Y := re_new (w.alloc (.cells #[.string ⟨seed.toArray⟩] 9)) 23
  have c0 : (w.alloc (.cells #[.string ⟨seed.toArray⟩] 9)).cell? ⟨w.heap.size, 0, none⟩ = some (.string ⟨seed.toArray⟩) := by simp
  have hp : (pub seed).length = 16 := ofDig_length _ _
  have HK := Lib.hid (key_pub (.pointer (some ⟨w.heap.size, 0, none⟩)) (ends seed) (fun k _ => adv_length (start_length seed k)) _ (ht.on (bcj b1 Y.z)) (fun k hk W hb => cpub_any seed hs k (by omega) w.heap.size W (ht.on (bcj (bcj b1 Y.z) hb)) ((hb.cell (by simp; omega)).trans ((Y.z.cell (by simp)).trans c0))))
  rw [show ofDig 5 [part (ends seed) 35] = pub seed from rfl] at HK
  generalize pub seed = D at HK hp ⊢
  have HDL := Lib.hid hp
  have hmf := mkf
  have R0 := Y.r
  have Z := bcj b1 Y.z
  rw [Wire.size_alloc] at R0
  clear hs ht hp c0 b1 Y
  go_enter Tryd.func15, Tryd.ntmps15
  go_wp2_with (first
    | (go_at_call 25; (with_reducible refine HK.out.mono ?_); rintro e w2 ⟨rfl, hb⟩; replace Z := bcj Z hb; replace R0 := R0.on hb; clear hb HK)
    | (refine store_d (.tmp 2) (.tmp 4) rfl rfl (w.heap.size + 1) 0 rfl D rfl HDL.out R0.there ?_))
  have HE := dg_end R0 HDL.out Z (by omega)
  refine bodyPost_ret (v := dv D) ?_ rfl ⟨rfl, HE.2⟩
  simp [results, Tryd.results15, asAddr, Act.put]
  rw [HE.1]

theorem gl_len {l : List Nat} {w w' : World} {e : Ending} (h : GivesL l w e w') : ∃ A c, e = .returned (.slice A l.length c) ∧ Lies w' w'.heap.size 1 A l.length c (l.map nv) ∧ Below w.heap.size w w' := by
  obtain ⟨A, n, c, rfl, hl, hb⟩ := h
  have := hl.len
  rw [List.length_map, Nat.mul_one] at this
  subst this
  exact ⟨A, c, rfl, hl, hb⟩

set_option maxRecDepth 100000 in
set_option maxHeartbeats 1000000 in
theorem sign_any (seed d : List UInt8) (hs : seed.length ≤ 1000) (hd : d.length = 16) (w : World) (ht : TP w) : Calls Tryd.prog 17 #[.string ⟨seed.toArray⟩, dv d] w (GivesT (sign seed d) w) := by
  have b1 := Wire.b1 w (.cells #[.string ⟨seed.toArray⟩] 9)
  have P0 := dg_new (w.alloc (.cells #[.string ⟨seed.toArray⟩] 9)) hd 23
  have b2 := Wire.b1 (w.alloc (.cells #[.string ⟨seed.toArray⟩] 9)) (.cells (d.map bv).toArray 23)
  have c0 : (w.alloc (.cells #[.string ⟨seed.toArray⟩] 9)).cell? ⟨w.heap.size, 0, none⟩ = some (.string ⟨seed.toArray⟩) := by simp
  have c1 := (b2.cell (p := ⟨w.heap.size, 0, none⟩) (by simp)).trans c0
  have Z := bcj b1 b2
  have HG : Hid (∀ W, Calls Tryd.prog 13 #[dv d] W (fun e w' => ∃ A c, e = .returned (.slice A 35 c) ∧ Lies w' w'.heap.size 1 A 35 c ((digs d).map nv) ∧ Below W.heap.size W w')) := Lib.hid (fun W => (digits_any d hd W).mono fun e w' h => by
    have := gl_len h
    rwa [digs_length hd] at this)
  have HD := Lib.hid hd
  rw [Wire.size_alloc] at P0
  have HJ : Hid (∀ W A c, TP W → W.cell? ⟨w.heap.size, 0, none⟩ = some (.string ⟨seed.toArray⟩) → Lies W W.heap.size 1 A 35 c ((digs d).map nv) →
      Calls Tryd.prog 31 #[.func (.func 32) #[] #[.pointer (some ⟨W.heap.size, 0, none⟩), .pointer (some ⟨w.heap.size, 0, none⟩)]] (W.alloc (.cells #[.slice A 35 c] 29)) (GivesT (sign seed d) W)) := Lib.hid (fun W A c hT hc hl => by
    have hb := Wire.b1 W (.cells #[.slice A 35 c] 29)
    have h0 := World.block_lt_of_cell? W _ hc
    refine (join_sign _ _ (shown seed d) (fun k _ => adv_length (start_length seed k)) _ (fun k hk W2 hb2 => ?_)).mono fun e w' ⟨h1, h2⟩ => ⟨h1, bcj hb h2⟩
    refine csign_any seed d hs hd k hk _ _ c A W2 ((hT.on hb).on hb2) ?_ ?_ ((hl.on hb).on hb2)
    · exact ((bcj hb hb2).cell h0).trans hc
    · exact (hb2.cell (by simp)).trans (by simp))
  have HT := Lib.hid ht
  have hmf := mkf
  clear hd b1 b2 c0 hs ht
  unfold dv
  go_enter Tryd.func17, Tryd.ntmps17
  go_wp2_with (first
    | (refine load_d 6 rfl rfl (.tmp 3) rfl (w.heap.size + 1) 0 rfl d HD.out P0.range ?_)
    | (go_at_call 13; (with_reducible refine (HG.out _).mono ?_); rintro e w1 ⟨A, c, rfl, hl, hb⟩; replace c1 := (hb.cell (World.block_lt_of_cell? _ _ c1)).trans c1; replace Z := bcj Z hb; clear hb P0)
    | (go_at_call 31; (with_reducible refine (HJ.out _ _ _ (HT.out.on Z) c1 hl).mono ?_); rintro e w2 ⟨rfl, hb⟩; replace Z := bcj Z hb; clear hb hl c1))
  go_ret
  exact ⟨rfl, Z⟩

/-- A digest and an error number are returned. -/
def GivesDE (d : List UInt8) (n : Int) (w : World) (e : Ending) (w' : World) : Prop := e = .returned (.tuple #[dv d, .int .i64 n]) ∧ Below w.heap.size w w'
theorem load_end {W : World} {g : Nat} {d : List UInt8} (h : Dg W g d) : (loadVar 23 ⟨g, 0, none⟩).run Tryd.prog W = .ok (dv d) W :=
  run_loadVar_mid _ _ _ _ _ _ h.range und_d rfl (info_d h.len)

set_option maxRecDepth 100000 in
set_option maxHeartbeats 1000000 in
theorem recover_no (d s : List UInt8) (hs : ¬ s.length = 560) (w : World) : Calls Tryd.prog 10 #[dv d, .string ⟨s.toArray⟩] w (GivesDE zero 1 w) := by
  have b1 := Wire.b1 w (.cells (d.map bv).toArray 23)
  have b2 := Wire.b1 (w.alloc (.cells (d.map bv).toArray 23)) (.cells #[.string ⟨s.toArray⟩] 9)
  have Y := re_new ((w.alloc (.cells (d.map bv).toArray 23)).alloc (.cells #[.string ⟨s.toArray⟩] 9)) 23
  have Z := bcj (bcj b1 b2) Y.z
  have R0 := Y.r
  rw [Wire.size_alloc, Wire.size_alloc] at R0
  have hz := Hash.sizeS s
  have hne : ¬ (s.length : Int) = 560 := by omega
  have hne2 : ((s.length : Int) != 560) = true := by simp; omega
  clear b1 b2 hs Y
  unfold dv
  go_enter Tryd.func10, Tryd.ntmps10
  go_wp2_with (first
    | (refine store_d (.tmp 4) (.tmp 10) rfl rfl (w.heap.size + 1 + 1) 0 rfl zero rfl rfl R0.there ?_))
  have HE := dg_end R0 zero_length Z (by omega)
  refine bodyPost_ret (v := .tuple #[dv zero, .int .i64 1]) ?_ rfl ⟨rfl, HE.2⟩
  simp [results, Tryd.results10, asAddr]
  rw [HE.1]
  rfl

set_option maxRecDepth 100000 in
set_option maxHeartbeats 1000000 in
theorem recover_yes (d s : List UInt8) (hs : s.length = 560) (hd : d.length = 16) (w : World) (ht : TP w) : Calls Tryd.prog 10 #[dv d, .string ⟨s.toArray⟩] w (GivesDE (recov d s) 0 w) := by
  have P0 := dg_new w hd 23
  have b1 := Wire.b1 w (.cells (d.map bv).toArray 23)
  have b2 := Wire.b1 (w.alloc (.cells (d.map bv).toArray 23)) (.cells #[.string ⟨s.toArray⟩] 9)
  have c0 : ((w.alloc (.cells (d.map bv).toArray 23)).alloc (.cells #[.string ⟨s.toArray⟩] 9)).cell? ⟨w.heap.size + 1, 0, none⟩ = some (.string ⟨s.toArray⟩) := by
    have := Wire.size_alloc w (.cells (d.map bv).toArray 23)
    rw [← this]
    simp
  have Y := re_new ((w.alloc (.cells (d.map bv).toArray 23)).alloc (.cells #[.string ⟨s.toArray⟩] 9)) 23
  have Z := bcj (bcj b1 b2) Y.z
  have c1 := (Y.z.cell (World.block_lt_of_cell? _ _ c0)).trans c0
  have P1 := (P0.on b2).on Y.z
  have R0 := Y.r
  rw [Wire.size_alloc, Wire.size_alloc] at R0
  have hz : (⟨s.toArray⟩ : ByteArray).size = 560 := by rw [Hash.sizeS, hs]
  have HG : Hid (∀ W, Calls Tryd.prog 13 #[dv d] W (fun e w' => ∃ A c, e = .returned (.slice A 35 c) ∧ Lies w' w'.heap.size 1 A 35 c ((digs d).map nv) ∧ Below W.heap.size W w')) := Lib.hid (fun W => (digits_any d hd W).mono fun e w' h => by
    have := gl_len h
    rwa [digs_length hd] at this)
  have HJ : Hid (∀ W A c, TP W → W.cell? ⟨w.heap.size + 1, 0, none⟩ = some (.string ⟨s.toArray⟩) → Lies W W.heap.size 1 A 35 c ((digs d).map nv) →
      Calls Tryd.prog 25 #[.func (.func 26) #[] #[.pointer (some ⟨w.heap.size + 1, 0, none⟩), .pointer (some ⟨W.heap.size, 0, none⟩)]] (W.alloc (.cells #[.slice A 35 c] 29)) (GivesD (recov d s) W)) := Lib.hid (fun W A c hT hc hl => by
    have hb := Wire.b1 W (.cells #[.slice A 35 c] 29)
    have h0 := World.block_lt_of_cell? W _ hc
    refine (key_rec _ _ (led d s) (fun k hk => adv_length (piece_length hs hk)) _ (hT.on hb) (fun k hk W2 hb2 => ?_)).mono fun e w' ⟨h1, h2⟩ => ⟨h1, bcj hb h2⟩
    refine crec_any s d hs hd k hk _ _ c A W2 ((hT.on hb).on hb2) ?_ ?_ ((hl.on hb).on hb2)
    · exact ((bcj hb hb2).cell h0).trans hc
    · exact (hb2.cell (by simp)).trans (by simp))
  have hrl := recov_length d s
  generalize recov d s = D at HJ hrl ⊢
  have HDL := Lib.hid hrl
  have HD := Lib.hid hd
  have HT := Lib.hid ht
  have hmf := mkf
  clear hd b1 b2 c0 hs ht Y P0 hrl
  unfold dv
  go_enter Tryd.func10, Tryd.ntmps10
  go_wp2_with (first
    | (refine load_d 11 rfl rfl (.tmp 2) rfl w.heap.size 0 rfl d HD.out P1.range ?_)
    | (go_at_call 13; (with_reducible refine (HG.out _).mono ?_); rintro e w1 ⟨A, c, rfl, hl, hb⟩; replace c1 := (hb.cell (World.block_lt_of_cell? _ _ c1)).trans c1; replace Z := bcj Z hb; replace R0 := R0.on hb; clear hb P1)
    | (go_at_call 25; (with_reducible refine (HJ.out _ _ _ (HT.out.on Z) c1 hl).mono ?_); rintro e w2 ⟨rfl, hb⟩; replace Z := bcj Z hb; replace R0 := R0.on hb; clear hb hl c1)
    | (refine store_d (.tmp 4) (.tmp 14) rfl rfl (w.heap.size + 1 + 1) 0 rfl D rfl HDL.out R0.there ?_))
  have HE := dg_end R0 HDL.out Z (by omega)
  refine bodyPost_ret (v := .tuple #[dv D, .int .i64 0]) ?_ rfl ⟨rfl, HE.2⟩
  simp [results, Tryd.results10, asAddr]
  rw [HE.1]
  rfl

/-- What Recover answers, and Verify. -/
def recI (d s : List UInt8) : List UInt8 := if s.length = 560 then recov d s else zero
def errI (s : List UInt8) : Int := if s.length = 560 then 0 else 1
def vfy (p d s : List UInt8) : Bool := decide (s.length = 560) && (recov d s == p)
theorem recI_length (d s : List UInt8) : (recI d s).length = 16 := by
  unfold recI; split
  · exact recov_length d s
  · rfl
theorem recover_any (d s : List UInt8) (hd : d.length = 16) (w : World) (ht : TP w) : Calls Tryd.prog 10 #[dv d, .string ⟨s.toArray⟩] w (GivesDE (recI d s) (errI s) w) := by
  unfold recI errI
  by_cases hs : s.length = 560
  · rw [if_pos hs, if_pos hs]; exact recover_yes d s hs hd w ht
  · rw [if_neg hs, if_neg hs]; exact recover_no d s hs w

set_option maxRecDepth 100000 in
set_option maxHeartbeats 1000000 in
theorem verify_any (p d s : List UInt8) (hp : p.length = 16) (hd : d.length = 16) (w : World) (ht : TP w) : Calls Tryd.prog 19 #[dv p, dv d, .string ⟨s.toArray⟩] w (GivesB (vfy p d s) w) := by
  have P0 := dg_new w hp 23
  have b1 := Wire.b1 w (.cells (p.map bv).toArray 23)
  have Q0 := dg_new (w.alloc (.cells (p.map bv).toArray 23)) hd 23
  have b2 := Wire.b1 (w.alloc (.cells (p.map bv).toArray 23)) (.cells (d.map bv).toArray 23)
  have P1 := P0.on b2
  rw [Wire.size_alloc] at Q0
  have Z := bcj b1 b2
  have HR := Lib.hid (fun W h => recover_any d s hd W h)
  have hrl := recI_length d s
  have HV : Hid (vfy p d s = (decide (s.length = 560) && (recov d s == p))) := Lib.hid rfl
  have HP := Lib.hid hp
  have HD := Lib.hid hd
  have HT := Lib.hid ht
  have HDL := Lib.hid hrl
  by_cases hs : s.length = 560
  · have E1 : ∀ W, (binOp .eql 23 (dv (recov d s)) (dv p)).run Tryd.prog W = .ok (.bool (recov d s == p)) W := fun W => Mk.eql_d _ _ (recov_length d s) hp W
    have E0 : ∀ W, (Op.equalIn 10000 23 (dv (recov d s)) (dv p)).run Tryd.prog W = .ok (recov d s == p) W := fun W => Mk.eq_d _ _ (recov_length d s) hp W
    have h1 : recI d s = recov d s := if_pos hs
    have h2 : errI s = 0 := if_pos hs
    rw [h1] at HR HDL
    rw [h2] at HR
    rw [decide_eq_true hs, Bool.true_and] at HV
    generalize vfy p d s = B at HV ⊢
    generalize recov d s = D at *
    generalize (D == p) = b at *
    clear hp hd ht hs hrl b1 b2 P0 h1 h2
    unfold dv at E0 E1 ⊢
    go_enter Tryd.func19, Tryd.ntmps19
    go_wp2_with (first
      | (refine load_d 10 rfl rfl (.tmp 4) rfl (w.heap.size + 1) 0 rfl d HD.out Q0.range ?_)
      | (go_at_call 10; (with_reducible refine (HR.out _ (HT.out.on Z)).mono ?_); rintro e w1 ⟨rfl, hb⟩; replace P1 := P1.on hb; replace Z := bcj Z hb; clear hb)
      | (refine store_d (.tmp 7) (.tmp 13) rfl rfl w1.heap.size 0 rfl D rfl HDL.out (dg_zero w1 _).there ?_; refine Hash.gen_world (Pq := fun W => Dg W w.heap.size p ∧ Dg W w1.heap.size D ∧ Below w.heap.size w W) (G := fun W => wpList _ _ _ _ _ W) ⟨(P1.on (Wire.b1 w1 _)).aside (by have := P1.lt; omega) _, (dg_zero w1 _).put HDL.out, bcj Z ((Wire.b1 w1 _).trans (Hash.below_cells (Nat.le_refl _) _ _ _))⟩ ?_; clear P1 Z; intro w2 Y)
      | ((with_reducible refine at_slot 18 rfl ?_); refine QTail.loadG (by rfl) 23 (.tmp 7) rfl w1.heap.size 0 rfl (D.map bv) _ Y.2.1.range und_d rfl (info_d HDL.out) ?_)
      | ((with_reducible refine at_slot 19 rfl ?_); refine QTail.loadG (by rfl) 23 (.tmp 3) rfl w.heap.size 0 rfl (p.map bv) _ Y.1.range und_d rfl (info_d HP.out) ?_))
    go_ret
    exact ⟨by rw [HV.out]; rfl, Y.2.2⟩
  · have h1 : recI d s = zero := if_neg hs
    have h2 : errI s = 1 := if_neg hs
    have HZL : Hid (zero.length = 16) := Lib.hid rfl
    rw [h1] at HR
    rw [h2] at HR
    rw [decide_eq_false hs, Bool.false_and] at HV
    generalize vfy p d s = B at HV ⊢
    generalize zero = D at HR HZL
    clear hp hd ht hs hrl b1 b2 P0 h1 h2 HDL
    unfold dv
    go_enter Tryd.func19, Tryd.ntmps19
    go_wp2_with (first
      | (refine load_d 10 rfl rfl (.tmp 4) rfl (w.heap.size + 1) 0 rfl d HD.out Q0.range ?_)
      | (go_at_call 10; (with_reducible refine (HR.out _ (HT.out.on Z)).mono ?_); rintro e w1 ⟨rfl, hb⟩; replace Z := bcj Z hb; clear hb)
      | (refine store_d (.tmp 7) (.tmp 13) rfl rfl w1.heap.size 0 rfl D rfl HZL.out (dg_zero w1 _).there ?_; refine Hash.gen_world (Pq := fun W => Below w.heap.size w W) (G := fun W => wpList _ _ _ _ _ W) (bcj Z ((Wire.b1 w1 _).trans (Hash.below_cells (Nat.le_refl _) _ _ _))) ?_; clear Z; intro w2 Z))
    go_ret
    exact ⟨by rw [HV.out]; rfl, Z⟩
end Wo
end Go.Proofs.YtmabbiemjeeicaaDoor

