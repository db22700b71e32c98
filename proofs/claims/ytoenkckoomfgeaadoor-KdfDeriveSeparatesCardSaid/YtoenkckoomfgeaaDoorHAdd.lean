/- A stream with a longer message: add, of the package, for texts and for bytes. Condition: the table of round constants reads as the program lays it. -/
import Derived.Test.YtoenkckoomfgeaaDoorHStr
import Derived.Laws.IdiomCopy
import Derived.Lib.SlBuf
namespace Go.Proofs.YtoenkckoomfgeaaDoor
open Go.RowKit
namespace Hash

theorem run_copy_mid {P : Program} (w : World) (g off dLen dCap m : Nat) (src : Value) (cells : List Value) (dT sT ty elem : TypeId) (hu : P.underlying dT = some (.slice elem)) (hsz : (P.info? elem).map (·.size) = some 1)
    (hlen : (Builtin.lenOf src).run P w = .ok m w) (hcl : cells.length = Nat.min m dLen) (hf : (Builtin.firstCells 1 (Nat.min m dLen) src).run P w = .ok cells.toArray w) (ht : w.there g off cells.length)
    (h1 : ∀ v ∈ cells, v.oneCell' = true) (k : Nat) (hk : cells.length = k) : (Builtin.copy_ #[dT, sT] ty #[.slice (some ⟨g, off, none⟩) dLen dCap, src]).run P w = .ok (.int .i64 (k : Int)) (w.setCells g off cells) := by
  subst hk
  have hst := run_storeCells_cells (P := P) g off cells 0 w (fun j hj => by rw [Nat.add_zero]; exact (ht j hj).1) (fun j hj => by rw [Nat.add_zero]; exact (ht j hj).2) h1
  rw [Nat.add_zero] at hst
  cases hq : P.info? elem with
  | none => simp [hq] at hsz
  | some i =>
    have hs : i.size = 1 := by simpa [hq] using hsz
    unfold Builtin.copy_
    simp [Sem.run_bind, run_underlying hu, hlen, sizeOf, typeInfo, hq, hs, hf, hst, hcl]
    rfl

theorem NextS.thereVal {w W : World} {gT : Nat} {xs : List Value} (h : NextS w W gT xs) {ys : Array Value} (hy : ys.size = 73 := by first | rfl | simp [strm_length]) : W.there w.heap.size 0 ys.size := by
  rw [hy]; exact h.val.there
theorem NextS.setVal {w W : World} {gT : Nat} {xs ys : List Value} (h : NextS w W gT xs) (hy : ys.length = 73) (hg : gT < w.heap.size) : NextS w (W.setCells w.heap.size 0 ys.toArray.toList) gT ys := by
  have := NextS.patch (p := []) (cs := xs) (q := []) (vs := ys) (by simpa using h) (by rw [hy]; exact h.val.len.symm) hg
  simpa using this
theorem byteSize : (Tryd.prog.info? 5).map (·.size) = some 1 := by kernel_rfl
theorem copyS (M y z : List UInt8) (L k r : Nat) (w W : World) (gT : Nat) (hS : NextS w W gT (strmX M [] L)) (hr : r = M.length % 64) (hg : gT < w.heap.size) (hk : y.length = k) (hkm : k = Nat.min (y ++ z).length (64 - r)) (ty : TypeId) :
    (Builtin.copy_ #[44, 9] ty #[.slice (some ⟨w.heap.size, 8 + r, none⟩) (64 - r) (64 - r), .string ⟨(y ++ z).toArray⟩]).run Tryd.prog W = .ok (.int .i64 (k : Int)) (W.setCells w.heap.size (8 + r) (y.map Wire.bv)) := by
  subst hr
  have hle : k ≤ 64 - M.length % 64 := by rw [hkm]; exact Nat.min_le_right _ _
  have h2 := (copied hS (x := y) (by have := Nat.mod_lt M.length (show 0 < 64 by omega); omega) hg).2
  refine run_copy_mid W w.heap.size (8 + M.length % 64) (64 - M.length % 64) (64 - M.length % 64) (y ++ z).length (.string ⟨(y ++ z).toArray⟩) (y.map Wire.bv) 44 9 ty 5 Tryd.underlying44 byteSize ?_ (by rw [List.length_map, hk]; exact hkm) ?_ h2 (Wire.bytes_one _) k (by rw [List.length_map, hk])
  · simp [Builtin.lenOf, ByteArray.size]
  · rw [← hkm]
    simp only [Builtin.firstCells, Sem.run_pure]
    have e : ((⟨(y ++ z).toArray⟩ : ByteArray).extract 0 k).data = y.toArray := by
      rw [ByteArray.data_extract]
      apply Array.toList_inj.1
      rw [Array.toList_extract, List.extract_eq_take_drop]
      simp [← hk]
    rw [e]
    congr 1
    apply Array.toList_inj.1
    rw [Array.toList_map]
    rfl
theorem ext_drop (x : List UInt8) (j : Nat) : (⟨x.toArray⟩ : ByteArray).extract j x.length = ⟨(x.drop j).toArray⟩ := by
  apply ByteArray.ext
  rw [ByteArray.data_extract]
  apply Array.toList_inj.1
  rw [Array.toList_extract, List.extract_eq_take_drop]
  exact List.take_of_length_le (by simp)

set_option maxRecDepth 100000 in
set_option maxHeartbeats 1000000 in
theorem addS_any (m x : List UInt8) (w : World) (hx : x.length ≤ 9223372036854775807) (ht : Table 1 w) :
    Calls Tryd.prog 42 #[.agg (strm m).toArray, .string ⟨x.toArray⟩] w (GivesA (strm (m ++ x)) w) := by
  have hg := ht.size
  have S0 := next_start (xs := strm m) (strm_length m) ht zS zS_size 67 67
  have hz := zeroS
  clear ht
  go_enter Tryd.func42, Tryd.ntmps42
  go_wp2
  go_loopw [5] (fun iv wr => ∃ (j : Nat), j ≤ x.length ∧ iv = .int .i64 (j : Int) ∧ NextS w wr 1 (strm (m ++ x.take j))) (fun iv _ => (x.length - intOf iv).toNat)
  case atStart => exact ⟨0, by omega, rfl, by simpa using S0⟩
  case round =>
    obtain ⟨j, hj, rfl, hr⟩ := hrel
    clear S0
    by_cases hlt : j < x.length
    · obtain ⟨M, hM⟩ : ∃ M, M = m ++ x.take j := ⟨_, rfl⟩
      rw [← hM] at hr
      have h0 : (0 : Int) ≤ (j : Int) := by omega
      have hf := full_length M [] (by have := Nat.mod_lt M.length (show 0 < 64 by omega); simp; omega)
      obtain ⟨c0, c1⟩ := hr.lenAt (blocks_length _ _) hf
      obtain ⟨L, hL⟩ : ∃ L, L = low64 M.length := ⟨_, rfl⟩
      obtain ⟨r, hrr⟩ : ∃ r, r = M.length % 64 := ⟨_, rfl⟩
      have hLb : L < 18446744073709551616 := by rw [hL]; exact low64_lt _
      have hr64 : r < 64 := by rw [hrr]; exact Nat.mod_lt _ (by omega)
      have hrem : Int.tmod (L : Int) 64 = (r : Int) := by rw [hL, hrr, ← low64_mod]; exact (Int.ofNat_tmod _ _).symm
      have hr2 : NextS w wr 1 (strmX M [] L) := by rw [hL]; exact hr
      rw [← hL] at c0
      clear hr
      have z0 : (0 : Int) ≤ (r : Int) := by omega
      have z1 : (r : Int) ≤ 64 := by omega
      have hne : ¬ 64 = r := by omega
      have hext := ext_drop x j
      obtain ⟨k, hk⟩ : ∃ k, k = Nat.min (x.drop j).length (64 - r) := ⟨_, rfl⟩
      obtain ⟨y, hy⟩ : ∃ y, y = (x.drop j).take k := ⟨_, rfl⟩
      obtain ⟨z, hz2⟩ : ∃ z, z = (x.drop j).drop k := ⟨_, rfl⟩
      have hyz : x.drop j = y ++ z := by rw [hy, hz2, List.take_append_drop]
      have hdl : (x.drop j).length = x.length - j := List.length_drop
      have hkl : k ≤ (x.drop j).length := by rw [hk]; exact Nat.min_le_left _ _
      have hkr : k ≤ 64 - r := by rw [hk]; exact Nat.min_le_right _ _
      have hkp : 0 < k := by rw [hk]; exact Nat.lt_min.2 ⟨by omega, by omega⟩
      have hyk : y.length = k := by rw [hy, List.length_take]; omega
      rw [hyz] at hk hext
      have hcp : ∀ W, NextS w W 1 (strmX M [] L) → ∀ ty, (Builtin.copy_ #[44, 9] ty #[.slice (some ⟨w.heap.size, 8 + r, none⟩) (64 - r) (64 - r), .string ⟨(y ++ z).toArray⟩]).run Tryd.prog W = .ok (.int .i64 (k : Int)) (W.setCells w.heap.size (8 + r) (y.map Wire.bv)) := fun W hW ty => copyS M y z L k r w W _ hW hrr hg hyk hk ty
      have hcd : ∀ W, NextS w W 1 (strmX M [] L) → NextS w (W.setCells w.heap.size (8 + r) (y.map Wire.bv)) 1 (strmX M y L) := fun W hW => by rw [hrr]; exact (copied hW (by rw [hyk]; omega) hg).1
      have HCP := Lib.hid hcp; clear hcp
      have HCD := Lib.hid hcd; clear hcd
      have HYK := Lib.hid hyk; clear hyk
      have HYZ := Lib.hid hyz; clear hyz
      have HK := Lib.hid hk; clear hk hy hz2
      have HDL := Lib.hid hdl; clear hdl
      have hkl2 : (k : Int) ≤ 64 := by omega
      have hkp2 : (0 : Int) ≤ (k : Int) := by omega
      have HM := Lib.hid hM; clear hM
      have HL := Lib.hid hL; clear hL
      have HR := Lib.hid hrr; clear hrr
      clear hLb hf
      go_wp2
      refine wp_region_still_tail 8 (by kernel_rfl) (by kernel_rfl) ?_
      simp only [List.take_succ_cons, List.take_zero, List.drop_succ_cons, List.drop_zero]
      repeat still_step
      refine wpStill_nil ?_
      change wpList _ _ _ _ _ wr.drew
      have hr3 := hr2.drew
      clear c0 c1 hr2
      revert hr3
      generalize wr.drew = w2
      intro hr3
      refine Go.Lib.wpList_copy_run w2 rfl (.tmp 15) (.tmp 18) 44 9 rfl _ _ rfl rfl (HCP.out _ hr3 _) ?_
      refine gen_world (Pq := fun W => NextS w W 1 (strmX M y L)) (G := fun W => wpList _ _ _ _ _ W) (HCD.out _ hr3) ?_
      intro w3 hr4
      clear hr3
      have hMl := HR.out
      obtain ⟨c0, c1⟩ := hr4.lenAt (blocks_length _ _) (full_length M y (by rw [HYK.out, ← hMl]; omega))
      have hjk : (j : Int) + (k : Int) ≤ 9223372036854775807 := by have := HDL.out; omega
      have hjk0 : (0 : Int) ≤ (j : Int) + (k : Int) := by omega
      obtain ⟨L2, hL2⟩ : ∃ n, n = low64 (M.length + k) := ⟨_, rfl⟩
      have hsum : IntKind.u64.wrap ((L : Int) + (k : Int)) = (L2 : Int) := by rw [IntKind.wrap_u64, HL.out, hL2]; exact low64_add _ _
      have hset : ∀ W, NextS w W 1 (strmX M y L) → NextS w (W.setCell ⟨w.heap.size, 72, none⟩ (.int .u64 (L2 : Int))) 1 (strmX M y L2) := fun W hW => hW.setLen (blocks_length _ _) (full_length M y (by rw [HYK.out, ← hMl]; omega)) hg L2
      have hset2 := hset _ hr4
      have hmk : M ++ y = m ++ x.take (j + k) := by
        have h1 : x.take (j + k) = x.take j ++ y := by
          have h2 : y = (x.drop j).take k := by rw [HYZ.out, ← HYK.out, List.take_left]
          rw [h2, List.take_add]
        rw [h1, HM.out, List.append_assoc]
      have hjk3 : j + k ≤ x.length := by have := HDL.out; omega
      have HMK := Lib.hid hmk; clear hmk hset
      by_cases hc : r + k < 64
      · have hmod : Int.tmod (L2 : Int) 64 = ((r + k : Nat) : Int) := by
          have h1 : L2 % 64 = r + k := by rw [hL2, low64_mod, hMl]; have := hMl; omega
          rw [← h1]; exact (Int.ofNat_tmod _ _).symm
        obtain ⟨r2, hr2⟩ : ∃ r2, r2 = r + k := ⟨_, rfl⟩
        rw [← hr2] at hmod
        have hnz : ((r2 : Int) == 0) = false := by simp; omega
        have hrel : NextS w (w3.setCell ⟨w.heap.size, 72, none⟩ (.int .u64 (L2 : Int))) 1 (strm (m ++ x.take (j + k))) := by
          rw [← HMK.out, ← strm_small M y (by rw [HYK.out, ← hMl]; exact hc), HYK.out, ← hL2]
          exact hset2
        have HREL := Lib.hid hrel
        clear hrel hset2 hr4 hMl hL2 hr2
        go_wp2
        go_roundw
        case rel => exact ⟨j + k, hjk3, by go_num, HREL.out⟩
        case measure => simp [intOf]; omega
      · have hmod : Int.tmod (L2 : Int) 64 = 0 := by
          have h1 : L2 % 64 = 0 := by rw [hL2, low64_mod]; have := hMl; omega
          have h2 : Int.tmod (L2 : Int) 64 = ((L2 % 64 : Nat) : Int) := (Int.ofNat_tmod _ _).symm
          rw [h2, h1]; rfl
        have hfl := full_length M y (by rw [HYK.out, ← hMl]; omega)
        have hnext : ∀ W, Table 1 W → Calls Tryd.prog 43 #[.agg (strmX M y L2).toArray] W (GivesA (strm (m ++ x.take (j + k))) W) := fun W hW => by
          rw [← HMK.out, ← strm_full M y (by rw [HYK.out, ← hMl]; omega), HYK.out, ← hL2]
          exact next_any _ _ _ _ (blocks_length _ _) (blocks_lt _ _) hfl hW
        have HN := Lib.hid hnext
        have HXL := Lib.hid (strmX_length M y L2 (by rw [HYK.out, ← hMl]; omega))
        clear hnext hr4 hMl hL2 hfl
        go_wp2_with (first
          | ((with_reducible refine at_slot 33 rfl ?_); refine wpList_load_mid rfl 67 (.tmp 2) rfl w.heap.size 0 rfl (strmX M y L2) _ hset2.val.range Tryd.underlying67 rfl (infoS_of HXL.out) ?_)
          | (go_at_call 43; (with_reducible refine (HN.out _ hset2.tab).mono ?_); rintro e w4 ⟨rfl, hb4⟩; have S4 := hset2.on hb4; clear hb4 hset2)
          | ((with_reducible refine at_store 67 (.tmp 2) (.tmp 34) rfl ?_); refine wpList_store_mid rfl 67 (.tmp 2) (.tmp 34) rfl w.heap.size 0 (strm (m ++ x.take (j + k))).toArray rfl rfl S4.thereVal (infoS_ofA (strm_length _)) (sval_one _ _ _) ?_; refine gen_world (Pq := fun W => NextS w W 1 (strm (m ++ x.take (j + k)))) (G := fun W => wpList _ _ _ _ _ W) (S4.setVal (strm_length _) hg) ?_; intro w5 S5; clear S4))
        simp only [Act.put]
        go_roundw
        case rel => exact ⟨j + k, hjk3, by go_num, S5⟩
        case measure => simp [intOf]; omega
    · have hjx : j = x.length := by omega
      have S : NextS w wr 1 (strm (m ++ x)) := by rw [hjx, List.take_of_length_le (Nat.le_refl _)] at hr; exact hr
      have hzz : ¬ (j : Int) < (x.length : Int) := by omega
      clear hr hjx hlt hj
      go_wp2_with (first
        | ((with_reducible refine at_slot 35 rfl ?_); refine wpList_load_mid rfl 67 (.tmp 2) rfl w.heap.size 0 rfl (strm (m ++ x)) _ S.val.range Tryd.underlying67 rfl (infoS_of (strm_length _)) ?_)
        | ((with_reducible refine at_store 67 (.tmp 4) (.tmp 35) rfl ?_); refine wpList_store_mid rfl 67 (.tmp 4) (.tmp 35) rfl (w.heap.size + 1) 0 (strm (m ++ x)).toArray rfl rfl S.thereRes (infoS_ofA (strm_length _)) (sval_one _ _ _) ?_))
      refine bodyPost_ret (v := .agg (strm (m ++ x)).toArray) ?_ rfl ⟨rfl, S.fin.2⟩
      simp [results, Tryd.results42, asAddr]
      rw [S.fin.1]

theorem copyB (M y z : List UInt8) (L k r : Nat) (w W : World) (gT : Nat) (hS : NextS w W gT (strmX M [] L)) (hr : r = M.length % 64) (hg : gT < w.heap.size) (hk : y.length = k) (hkm : k = Nat.min (y ++ z).length (64 - r)) (ty : TypeId)
    (b o n c : Nat) (hsrc : ∀ (i : Nat) (u : Value), ((y ++ z).map Wire.bv)[i]? = some u → W.cell? ⟨b, o + i, none⟩ = some u) (hn : (y ++ z).length = n) :
    (Builtin.copy_ #[44, 44] ty #[.slice (some ⟨w.heap.size, 8 + r, none⟩) (64 - r) (64 - r), .slice (some ⟨b, o, none⟩) n c]).run Tryd.prog W = .ok (.int .i64 (k : Int)) (W.setCells w.heap.size (8 + r) (y.map Wire.bv)) := by
  subst hr
  have hle : k ≤ 64 - M.length % 64 := by rw [hkm]; exact Nat.min_le_right _ _
  have h2 := (copied hS (x := y) (by have := Nat.mod_lt M.length (show 0 < 64 by omega); omega) hg).2
  rw [hn] at hkm
  refine run_copy_mid W w.heap.size (8 + M.length % 64) (64 - M.length % 64) (64 - M.length % 64) n (.slice (some ⟨b, o, none⟩) n c) (y.map Wire.bv) 44 44 ty 5 Tryd.underlying44 byteSize ?_ (by rw [List.length_map, hk]; exact hkm) ?_ h2 (Wire.bytes_one _) k (by rw [List.length_map, hk])
  · simp [Builtin.lenOf]
  · rw [← hkm]
    refine run_firstCells_some W 1 k ⟨b, o, none⟩ n c (y.map Wire.bv) (by rw [List.length_map, hk]; omega) (fun i u hu => ?_)
    rw [Addr.add_mid]
    refine hsrc i u ?_
    rw [List.map_append, List.getElem?_append_left (List.getElem?_eq_some_iff.1 hu).1, hu]

set_option maxRecDepth 100000 in
set_option maxHeartbeats 1000000 in
theorem addB_any (m x : List UInt8) (n c : Nat) (A : Option Addr) (w : World) (hl : Wire.Lies w w.heap.size 1 A n c (x.map Wire.bv)) (ht : Table 1 w) :
    Calls Tryd.prog 35 #[.agg (strm m).toArray, .slice A n c] w (GivesA (strm (m ++ x)) w) := by
  have hg := ht.size
  have hmost : c ≤ 9223372036854775807 := by have := hl.most; unfold maxLen at this; omega
  have hle := hl.le
  have hxn : x.length = n := by have := hl.len; simpa using this
  have HX := Lib.hid hxn; clear hxn
  have S0 := next_start (xs := strm m) (strm_length m) ht zS zS_size 67 67
  have hz := zeroS
  clear ht
  go_enter Tryd.func35, Tryd.ntmps35
  go_wp2
  go_loopw [5] (fun iv wr => ∃ (j : Nat), j ≤ n ∧ iv = .int .i64 (j : Int) ∧ NextS w wr 1 (strm (m ++ x.take j))) (fun iv _ => (n - intOf iv).toNat)
  case atStart => exact ⟨0, by omega, rfl, by simpa using S0⟩
  case round =>
    obtain ⟨j, hj, rfl, hr⟩ := hrel
    clear S0
    by_cases hlt : j < n
    · obtain ⟨b, o, rfl, hbw, hcells⟩ := hl.cells (by omega)
      have hcells2 : ∀ W, Below w.heap.size w W → ∀ (i : Nat) (u : Value), (x.map Wire.bv)[i]? = some u → W.cell? ⟨b, o + i, none⟩ = some u := fun W hW i u hu => (hW.cell (p := ⟨b, o + i, none⟩) hbw).trans (hcells i u hu)
      have HCE := Lib.hid hcells2; clear hcells2 hcells hbw
      have hxn := HX.out
      obtain ⟨M, hM⟩ : ∃ M, M = m ++ x.take j := ⟨_, rfl⟩
      rw [← hM] at hr
      have h0 : (0 : Int) ≤ (j : Int) := by omega
      have hf := full_length M [] (by have := Nat.mod_lt M.length (show 0 < 64 by omega); simp; omega)
      obtain ⟨c0, c1⟩ := hr.lenAt (blocks_length _ _) hf
      obtain ⟨L, hL⟩ : ∃ L, L = low64 M.length := ⟨_, rfl⟩
      obtain ⟨r, hrr⟩ : ∃ r, r = M.length % 64 := ⟨_, rfl⟩
      have hLb : L < 18446744073709551616 := by rw [hL]; exact low64_lt _
      have hr64 : r < 64 := by rw [hrr]; exact Nat.mod_lt _ (by omega)
      have hrem : Int.tmod (L : Int) 64 = (r : Int) := by rw [hL, hrr, ← low64_mod]; exact (Int.ofNat_tmod _ _).symm
      have hr2 : NextS w wr 1 (strmX M [] L) := by rw [hL]; exact hr
      rw [← hL] at c0
      clear hr
      have z0 : (0 : Int) ≤ (r : Int) := by omega
      have z1 : (r : Int) ≤ 64 := by omega
      have hne : ¬ 64 = r := by omega
      have hext : ¬ c = j := by omega
      obtain ⟨k, hk⟩ : ∃ k, k = Nat.min (x.drop j).length (64 - r) := ⟨_, rfl⟩
      obtain ⟨y, hy⟩ : ∃ y, y = (x.drop j).take k := ⟨_, rfl⟩
      obtain ⟨z, hz2⟩ : ∃ z, z = (x.drop j).drop k := ⟨_, rfl⟩
      have hyz : x.drop j = y ++ z := by rw [hy, hz2, List.take_append_drop]
      have hdl : (x.drop j).length = x.length - j := List.length_drop
      have hkl : k ≤ (x.drop j).length := by rw [hk]; exact Nat.min_le_left _ _
      have hkr : k ≤ 64 - r := by rw [hk]; exact Nat.min_le_right _ _
      have hkp : 0 < k := by rw [hk]; exact Nat.lt_min.2 ⟨by omega, by omega⟩
      have hyk : y.length = k := by rw [hy, List.length_take]; omega
      rw [hyz] at hk
      have hcp : ∀ W, NextS w W 1 (strmX M [] L) → ∀ ty, (Builtin.copy_ #[44, 44] ty #[.slice (some ⟨w.heap.size, 8 + r, none⟩) (64 - r) (64 - r), .slice (some ⟨b, o + j, none⟩) (n - j) (c - j)]).run Tryd.prog W = .ok (.int .i64 (k : Int)) (W.setCells w.heap.size (8 + r) (y.map Wire.bv)) := fun W hW ty => copyB M y z L k r w W _ hW hrr hg hyk hk ty b (o + j) (n - j) (c - j) (fun i u hu => by
        rw [Nat.add_assoc]
        refine HCE.out W hW.below (j + i) u ?_
        rw [← hu, ← hyz, List.map_drop, List.getElem?_drop]) (by rw [← hyz, List.length_drop, hxn])
      have hcd : ∀ W, NextS w W 1 (strmX M [] L) → NextS w (W.setCells w.heap.size (8 + r) (y.map Wire.bv)) 1 (strmX M y L) := fun W hW => by rw [hrr]; exact (copied hW (by rw [hyk]; omega) hg).1
      have HCP := Lib.hid hcp; clear hcp
      have HCD := Lib.hid hcd; clear hcd
      have HYK := Lib.hid hyk; clear hyk
      have HYZ := Lib.hid hyz; clear hyz
      have HK := Lib.hid hk; clear hk hy hz2
      have HDL := Lib.hid hdl; clear hdl
      have hkl2 : (k : Int) ≤ 64 := by omega
      have hkp2 : (0 : Int) ≤ (k : Int) := by omega
      have HM := Lib.hid hM; clear hM hxn
      have HL := Lib.hid hL; clear hL
      have HR := Lib.hid hrr; clear hrr
      clear hLb hf
      go_wp2
      refine wp_region_still_tail 8 (by kernel_rfl) (by kernel_rfl) ?_
      simp only [List.take_succ_cons, List.take_zero, List.drop_succ_cons, List.drop_zero]
      repeat still_step
      refine wpStill_nil ?_
      change wpList _ _ _ _ _ wr.drew
      have hr3 := hr2.drew
      clear c0 c1 hr2
      revert hr3
      generalize wr.drew = w2
      intro hr3
      refine Go.Lib.wpList_copy_run w2 rfl (.tmp 15) (.tmp 18) 44 44 rfl _ _ rfl rfl (HCP.out _ hr3 _) ?_
      refine gen_world (Pq := fun W => NextS w W 1 (strmX M y L)) (G := fun W => wpList _ _ _ _ _ W) (HCD.out _ hr3) ?_
      intro w3 hr4
      clear hr3
      have hMl := HR.out
      obtain ⟨c0, c1⟩ := hr4.lenAt (blocks_length _ _) (full_length M y (by rw [HYK.out, ← hMl]; omega))
      have hjk : (j : Int) + (k : Int) ≤ 9223372036854775807 := by have := HDL.out; have := HX.out; omega
      have hjk0 : (0 : Int) ≤ (j : Int) + (k : Int) := by omega
      obtain ⟨L2, hL2⟩ : ∃ n, n = low64 (M.length + k) := ⟨_, rfl⟩
      have hsum : IntKind.u64.wrap ((L : Int) + (k : Int)) = (L2 : Int) := by rw [IntKind.wrap_u64, HL.out, hL2]; exact low64_add _ _
      have hset : ∀ W, NextS w W 1 (strmX M y L) → NextS w (W.setCell ⟨w.heap.size, 72, none⟩ (.int .u64 (L2 : Int))) 1 (strmX M y L2) := fun W hW => hW.setLen (blocks_length _ _) (full_length M y (by rw [HYK.out, ← hMl]; omega)) hg L2
      have hset2 := hset _ hr4
      have hmk : M ++ y = m ++ x.take (j + k) := by
        have h1 : x.take (j + k) = x.take j ++ y := by
          have h2 : y = (x.drop j).take k := by rw [HYZ.out, ← HYK.out, List.take_left]
          rw [h2, List.take_add]
        rw [h1, HM.out, List.append_assoc]
      have hjk3 : j + k ≤ n := by have := HDL.out; have := HX.out; omega
      have HMK := Lib.hid hmk; clear hmk hset
      by_cases hc : r + k < 64
      · have hmod : Int.tmod (L2 : Int) 64 = ((r + k : Nat) : Int) := by
          have h1 : L2 % 64 = r + k := by rw [hL2, low64_mod, hMl]; have := hMl; omega
          rw [← h1]; exact (Int.ofNat_tmod _ _).symm
        obtain ⟨r2, hr2⟩ : ∃ r2, r2 = r + k := ⟨_, rfl⟩
        rw [← hr2] at hmod
        have hnz : ((r2 : Int) == 0) = false := by simp; omega
        have hrel : NextS w (w3.setCell ⟨w.heap.size, 72, none⟩ (.int .u64 (L2 : Int))) 1 (strm (m ++ x.take (j + k))) := by
          rw [← HMK.out, ← strm_small M y (by rw [HYK.out, ← hMl]; exact hc), HYK.out, ← hL2]
          exact hset2
        have HREL := Lib.hid hrel
        clear hrel hset2 hr4 hMl hL2 hr2
        go_wp2
        go_roundw
        case rel => exact ⟨j + k, hjk3, by go_num, HREL.out⟩
        case measure => simp [intOf]; omega
      · have hmod : Int.tmod (L2 : Int) 64 = 0 := by
          have h1 : L2 % 64 = 0 := by rw [hL2, low64_mod]; have := hMl; omega
          have h2 : Int.tmod (L2 : Int) 64 = ((L2 % 64 : Nat) : Int) := (Int.ofNat_tmod _ _).symm
          rw [h2, h1]; rfl
        have hfl := full_length M y (by rw [HYK.out, ← hMl]; omega)
        have hnext : ∀ W, Table 1 W → Calls Tryd.prog 43 #[.agg (strmX M y L2).toArray] W (GivesA (strm (m ++ x.take (j + k))) W) := fun W hW => by
          rw [← HMK.out, ← strm_full M y (by rw [HYK.out, ← hMl]; omega), HYK.out, ← hL2]
          exact next_any _ _ _ _ (blocks_length _ _) (blocks_lt _ _) hfl hW
        have HN := Lib.hid hnext
        have HXL := Lib.hid (strmX_length M y L2 (by rw [HYK.out, ← hMl]; omega))
        clear hnext hr4 hMl hL2 hfl
        go_wp2_with (first
          | ((with_reducible refine at_slot 33 rfl ?_); refine wpList_load_mid rfl 67 (.tmp 2) rfl w.heap.size 0 rfl (strmX M y L2) _ hset2.val.range Tryd.underlying67 rfl (infoS_of HXL.out) ?_)
          | (go_at_call 43; (with_reducible refine (HN.out _ hset2.tab).mono ?_); rintro e w4 ⟨rfl, hb4⟩; have S4 := hset2.on hb4; clear hb4 hset2)
          | ((with_reducible refine at_store 67 (.tmp 2) (.tmp 34) rfl ?_); refine wpList_store_mid rfl 67 (.tmp 2) (.tmp 34) rfl w.heap.size 0 (strm (m ++ x.take (j + k))).toArray rfl rfl S4.thereVal (infoS_ofA (strm_length _)) (sval_one _ _ _) ?_; refine gen_world (Pq := fun W => NextS w W 1 (strm (m ++ x.take (j + k)))) (G := fun W => wpList _ _ _ _ _ W) (S4.setVal (strm_length _) hg) ?_; intro w5 S5; clear S4))
        simp only [Act.put]
        go_roundw
        case rel => exact ⟨j + k, hjk3, by go_num, S5⟩
        case measure => simp [intOf]; omega
    · have hjx : j = x.length := by have := HX.out; omega
      have S : NextS w wr 1 (strm (m ++ x)) := by rw [hjx, List.take_of_length_le (Nat.le_refl _)] at hr; exact hr
      have hzz : ¬ (j : Int) < (n : Int) := by omega
      clear hr hjx hlt hj
      go_wp2_with (first
        | ((with_reducible refine at_slot 35 rfl ?_); refine wpList_load_mid rfl 67 (.tmp 2) rfl w.heap.size 0 rfl (strm (m ++ x)) _ S.val.range Tryd.underlying67 rfl (infoS_of (strm_length _)) ?_)
        | ((with_reducible refine at_store 67 (.tmp 4) (.tmp 35) rfl ?_); refine wpList_store_mid rfl 67 (.tmp 4) (.tmp 35) rfl (w.heap.size + 1) 0 (strm (m ++ x)).toArray rfl rfl S.thereRes (infoS_ofA (strm_length _)) (sval_one _ _ _) ?_))
      refine bodyPost_ret (v := .agg (strm (m ++ x)).toArray) ?_ rfl ⟨rfl, S.fin.2⟩
      simp [results, Tryd.results35, asAddr]
      rw [S.fin.1]

end Hash
end Go.Proofs.YtoenkckoomfgeaaDoor
