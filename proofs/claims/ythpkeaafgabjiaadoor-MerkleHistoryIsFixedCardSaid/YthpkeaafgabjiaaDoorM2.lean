/- HStr; HAdd; HPad: what each of these parts proves stands ahead of it. -/
import Derived.Test.YthpkeaafgabjiaaDoorM1
import Derived.Laws.IdiomCopy
import Derived.Lib.SlBuf
/- What a stream holds, as a function of the message so far: mathematics, and the cells. No condition. -/
namespace Go.Proofs.YthpkeaafgabjiaaDoor
open Go.RowKit
namespace Hash

theorem blocks_append (m x : List UInt8) : ∀ n, 64 * n ≤ m.length → blocks (m ++ x) n = blocks m n
  | 0, _ => rfl
  | n + 1, h => by
    have e : ((m ++ x).drop (64 * n)).take 64 = (m.drop (64 * n)).take 64 := by
      rw [List.drop_append_of_le_length (by omega), List.take_append_of_le_length (by rw [List.length_drop]; omega)]
    simp only [blocks, e, blocks_append m x n (by omega)]
theorem comp_length (hs : List Nat) (b : List UInt8) (hl : hs.length = 8) : (comp hs b).length = 8 := by rw [after_all]; simp [hl, St.list]
theorem comp_lt (hs : List Nat) (b : List UInt8) : ∀ x ∈ comp hs b, x < 4294967296 := by
  intro x hx
  rw [after_all] at hx
  obtain ⟨i, hi, rfl⟩ := List.mem_iff_getElem.1 hx
  rw [List.getElem_zipWith]
  exact add_lt _ _
theorem blocks_length (l : List UInt8) : ∀ n, (blocks l n).length = 8
  | 0 => rfl
  | n + 1 => comp_length _ _ (blocks_length l n)
theorem blocks_lt (l : List UInt8) : ∀ n, ∀ x ∈ blocks l n, x < 4294967296
  | 0 => by
    intro x hx
    have h : ∀ y ∈ h0, y < 4294967296 := by decide +kernel
    exact h x hx
  | n + 1 => comp_lt _ _

def low64 (n : Nat) : Nat := n % 18446744073709551616
theorem low64_mod (n : Nat) : low64 n % 64 = n % 64 := by unfold low64; omega
theorem low64_lt (n : Nat) : low64 n < 18446744073709551616 := Nat.mod_lt _ (by omega)
theorem low64_add (a b : Nat) : (((low64 a : Nat) : Int) + (b : Int)) % 18446744073709551616 = ((low64 (a + b) : Nat) : Int) := by unfold low64; omega

def tail (m : List UInt8) : List UInt8 := m.drop (64 * (m.length / 64))
theorem tail_length (m : List UInt8) : (tail m).length = m.length % 64 := by unfold tail; rw [List.length_drop]; omega
/-- The bytes of the block under way, with x behind what lies there. -/
def full (m x : List UInt8) : List UInt8 := tail m ++ (x ++ zeros (64 - m.length % 64 - x.length))
theorem zeros_length (k : Nat) : (zeros k).length = k := by simp [zeros]
theorem full_length (m x : List UInt8) (h : m.length % 64 + x.length ≤ 64) : (full m x).length = 64 := by
  unfold full
  rw [List.length_append, List.length_append, tail_length, zeros_length]; omega
def strm (m : List UInt8) : List Value := sval (blocks m (m.length / 64)) (full m []) (low64 m.length)
/-- .. with x behind what lies in the block, not yet counted. -/
def strmX (m x : List UInt8) (n : Nat) : List Value := sval (blocks m (m.length / 64)) (full m x) n

theorem strm_small (m x : List UInt8) (h : m.length % 64 + x.length < 64) : strmX m x (low64 (m.length + x.length)) = strm (m ++ x) := by
  have hq : (m.length + x.length) / 64 = m.length / 64 := by omega
  have hr : (m.length + x.length) % 64 = m.length % 64 + x.length := by omega
  unfold strmX strm full tail
  rw [List.length_append, hq, hr, blocks_append _ _ _ (by omega), List.drop_append_of_le_length (by omega)]
  simp [Nat.sub_sub]
theorem strm_full (m x : List UInt8) (h : m.length % 64 + x.length = 64) : sval (comp (blocks m (m.length / 64)) (full m x)) (zeros 64) (low64 (m.length + x.length)) = strm (m ++ x) := by
  have hq : (m.length + x.length) / 64 = m.length / 64 + 1 := by omega
  have hr : (m.length + x.length) % 64 = 0 := by omega
  have hz : 64 - m.length % 64 - x.length = 0 := by omega
  have hd : List.drop (64 * (m.length / 64 + 1)) (m ++ x) = [] := List.drop_of_length_le (by rw [List.length_append]; omega)
  have hb : blocks (m ++ x) (m.length / 64 + 1) = comp (blocks m (m.length / 64)) (full m x) := by
    simp only [blocks]
    rw [blocks_append _ _ _ (by omega), List.drop_append_of_le_length (by omega)]
    congr 1
    rw [List.take_of_length_le (by rw [List.length_append, List.length_drop]; omega)]
    simp [full, tail, hz, zeros]
  unfold strm
  rw [List.length_append, hq, hb]
  congr 1
  unfold full tail
  rw [List.length_append, hq, hr, hd]
  simp
theorem strmX_nil (m : List UInt8) (n : Nat) : strmX m [] n = sval (blocks m (m.length / 64)) (full m []) n := rfl
theorem strm_length (m : List UInt8) : (strm m).length = 73 := sval_length (blocks_length _ _) (full_length _ _ (by have := Nat.mod_lt m.length (show 0 < 64 by omega); simp; omega))
theorem strmX_length (m x : List UInt8) (n : Nat) (h : m.length % 64 + x.length ≤ 64) : (strmX m x n).length = 73 := sval_length (blocks_length _ _) (full_length _ _ h)

/-- Bytes are copied behind what lies in the block. -/
theorem copied {w W : World} {gT : Nat} {m x : List UInt8} {n : Nat} (h : NextS w W gT (strmX m [] n)) (hx : m.length % 64 + x.length ≤ 64) (hg : gT < w.heap.size) :
    NextS w (W.setCells w.heap.size (8 + m.length % 64) (x.map Wire.bv)) gT (strmX m x n) ∧ W.there w.heap.size (8 + m.length % 64) (x.map Wire.bv).length := by
  have e1 : strmX m [] n = ((blocks m (m.length / 64)).map wv ++ (tail m).map Wire.bv) ++ ((zeros x.length).map Wire.bv ++ ((zeros (64 - m.length % 64 - x.length)).map Wire.bv ++ [.int .u64 (n : Int)])) := by
    unfold strmX sval full
    have : zeros (64 - m.length % 64) = zeros x.length ++ zeros (64 - m.length % 64 - x.length) := by simp [zeros]; omega
    simp [this]
  have e2 : strmX m x n = ((blocks m (m.length / 64)).map wv ++ (tail m).map Wire.bv) ++ (x.map Wire.bv ++ ((zeros (64 - m.length % 64 - x.length)).map Wire.bv ++ [.int .u64 (n : Int)])) := by
    simp [strmX, sval, full]
  have e3 : ((blocks m (m.length / 64)).map wv ++ (tail m).map Wire.bv).length = 8 + m.length % 64 := by simp [blocks_length, tail_length]
  rw [e1] at h
  have h1 := h.patch (vs := x.map Wire.bv) (by simp [zeros]) hg
  have h2 := h.val.midThere
  rw [e3] at h1 h2
  rw [e2]
  refine ⟨h1, ?_⟩
  rw [show (x.map Wire.bv).length = ((zeros x.length).map Wire.bv).length by simp [zeros]]
  exact h2
/-- The length's cell. -/
theorem NextS.lenAt {w W : World} {gT : Nat} {hs : List Nat} {rest : List UInt8} {n : Nat} (h : NextS w W gT (sval hs rest n)) (hl : hs.length = 8) (hr : rest.length = 64) : W.cell? ⟨w.heap.size, 72, none⟩ = some (.int .u64 (n : Int)) ∧ W.frozen? ⟨w.heap.size, 72, none⟩ = false := by
  refine h.val.at_ (i := 72) ?_
  unfold sval
  rw [List.getElem?_append_right (by simp [hl]), List.getElem?_append_right (by simp [hl, hr])]
  simp [hl, hr]
theorem NextS.setLen {w W : World} {gT : Nat} {hs : List Nat} {rest : List UInt8} {n : Nat} (h : NextS w W gT (sval hs rest n)) (hl : hs.length = 8) (hr : rest.length = 64) (hg : gT < w.heap.size) (k : Nat) :
    NextS w (W.setCell ⟨w.heap.size, 72, none⟩ (.int .u64 (k : Int))) gT (sval hs rest k) := by
  obtain ⟨ys, hy⟩ := h.res
  have hb : Below w.heap.size w (W.setCell ⟨w.heap.size, 72, none⟩ (.int .u64 (k : Int))) := h.below.setCell (by simp) _
  have hv := h.val.set (i := 72) (by omega) (.int .u64 (k : Int))
  have e : (sval hs rest n).set 72 (.int .u64 (k : Int)) = sval hs rest k := by
    unfold sval
    rw [List.set_append_right _ _ (by simp [hl]), List.set_append_right _ _ (by simp [hl, hr])]
    simp [hl, hr]
  rw [e] at hv
  exact ⟨hv, ⟨ys, hy.other (by omega) _⟩, h.tab.below (Below.setCell (Below.refl _ _) (by simp) _) hg, hb⟩
theorem NextS.drew {w W : World} {gT : Nat} {xs : List Value} (h : NextS w W gT xs) : NextS w W.drew gT xs := by
  obtain ⟨ys, hy⟩ := h.res
  exact ⟨h.val.drew 1, ⟨ys, hy.drew 1⟩, h.tab.drew 1, h.below.drew⟩

end Hash
end Go.Proofs.YthpkeaafgabjiaaDoor

/- A stream with a longer message: add, of the package, for texts and for bytes. Condition: the table of round constants reads as the program lays it. -/
namespace Go.Proofs.YthpkeaafgabjiaaDoor
open Go.RowKit
namespace Hash

theorem run_copy_mid {P : Program} (w : World) (g off dLen dCap m : Nat) (src : Value) (cells : List Value) (dT sT ty elem : TypeId) (hu : P.underlying dT = some (.slice elem)) (hsz : (P.info? elem).map (·.size) = some 1)
    (hlen : (Builtin.lenOf src).run P w = .ok m w) (hcl : cells.length = Nat.min m dLen) (hf : (Builtin.firstCells 1 (Nat.min m dLen) src).run P w = .ok cells.toArray w) (ht : w.there g off cells.length)
    (h1 : ∀ v ∈ cells, v.oneCell' = true) (k : Nat) (hk : cells.length = k) : (Builtin.copy_ #[dT, sT] ty #[.slice (some ⟨g, off, none⟩) dLen dCap, src]).run P w = .ok (.int .i64 (k : Int)) (w.setCells g off cells) := by
  subst hk
  have hst := run_storeCells_cells (P := P) g off cells 0 w (fun j hj => by rw [Nat.add_zero]; exact (ht j hj).1) (fun j hj => by rw [Nat.add_zero]; exact (ht j hj).2) h1
  rw [Nat.add_zero] at hst
  cases hq : P.info? elem with
  | none => simp [hq] at hsz
  | some i =>
    have hs : i.size = 1 := by simpa [hq] using hsz
    unfold Builtin.copy_
    simp [Sem.run_bind, run_underlying hu, hlen, sizeOf, typeInfo, hq, hs, hf, hst, hcl]
    rfl

theorem NextS.thereVal {w W : World} {gT : Nat} {xs : List Value} (h : NextS w W gT xs) {ys : Array Value} (hy : ys.size = 73 := by first | rfl | simp [strm_length]) : W.there w.heap.size 0 ys.size := by
  rw [hy]; exact h.val.there
theorem NextS.setVal {w W : World} {gT : Nat} {xs ys : List Value} (h : NextS w W gT xs) (hy : ys.length = 73) (hg : gT < w.heap.size) : NextS w (W.setCells w.heap.size 0 ys.toArray.toList) gT ys := by
  have := NextS.patch (p := []) (cs := xs) (q := []) (vs := ys) (by simpa using h) (by rw [hy]; exact h.val.len.symm) hg
  simpa using this
theorem byteSize : (Tryd.prog.info? 5).map (·.size) = some 1 := by kernel_rfl
theorem copyS (M y z : List UInt8) (L k r : Nat) (w W : World) (gT : Nat) (hS : NextS w W gT (strmX M [] L)) (hr : r = M.length % 64) (hg : gT < w.heap.size) (hk : y.length = k) (hkm : k = Nat.min (y ++ z).length (64 - r)) (ty : TypeId) :
    (Builtin.copy_ #[38, 9] ty #[.slice (some ⟨w.heap.size, 8 + r, none⟩) (64 - r) (64 - r), .string ⟨(y ++ z).toArray⟩]).run Tryd.prog W = .ok (.int .i64 (k : Int)) (W.setCells w.heap.size (8 + r) (y.map Wire.bv)) := by
  subst hr
  have hle : k ≤ 64 - M.length % 64 := by rw [hkm]; exact Nat.min_le_right _ _
  have h2 := (copied hS (x := y) (by have := Nat.mod_lt M.length (show 0 < 64 by omega); omega) hg).2
  refine run_copy_mid W w.heap.size (8 + M.length % 64) (64 - M.length % 64) (64 - M.length % 64) (y ++ z).length (.string ⟨(y ++ z).toArray⟩) (y.map Wire.bv) 38 9 ty 5 Tryd.underlying38 byteSize ?_ (by rw [List.length_map, hk]; exact hkm) ?_ h2 (Wire.bytes_one _) k (by rw [List.length_map, hk])
  · simp [Builtin.lenOf, ByteArray.size]
  · rw [← hkm]
    simp only [Builtin.firstCells, Sem.run_pure]
    have e : ((⟨(y ++ z).toArray⟩ : ByteArray).extract 0 k).data = y.toArray := by
      rw [ByteArray.data_extract]
      apply Array.toList_inj.1
      rw [Array.toList_extract, List.extract_eq_take_drop]
      simp [← hk]
    rw [e]
    congr 1
    apply Array.toList_inj.1
    rw [Array.toList_map]
    rfl
theorem ext_drop (x : List UInt8) (j : Nat) : (⟨x.toArray⟩ : ByteArray).extract j x.length = ⟨(x.drop j).toArray⟩ := by
  apply ByteArray.ext
  rw [ByteArray.data_extract]
  apply Array.toList_inj.1
  rw [Array.toList_extract, List.extract_eq_take_drop]
  exact List.take_of_length_le (by simp)

set_option maxRecDepth 100000 in
set_option maxHeartbeats 1000000 in
theorem addS_any (m x : List UInt8) (w : World) (hx : x.length ≤ 9223372036854775807) (ht : Table 3 w) :
    Calls Tryd.prog 84 #[.agg (strm m).toArray, .string ⟨x.toArray⟩] w (GivesA (strm (m ++ x)) w) := by
  have hg := ht.size
  have S0 := next_start (xs := strm m) (strm_length m) ht zS zS_size 100 100
  have hz := zeroS
  clear ht
  go_enter Tryd.func84, Tryd.ntmps84
  go_wp2
  go_loopw [5] (fun iv wr => ∃ (j : Nat), j ≤ x.length ∧ iv = .int .i64 (j : Int) ∧ NextS w wr 3 (strm (m ++ x.take j))) (fun iv _ => (x.length - intOf iv).toNat)
  case atStart => exact ⟨0, by omega, rfl, by simpa using S0⟩
  case round =>
    obtain ⟨j, hj, rfl, hr⟩ := hrel
    clear S0
    by_cases hlt : j < x.length
    · obtain ⟨M, hM⟩ : ∃ M, M = m ++ x.take j := ⟨_, rfl⟩
      rw [← hM] at hr
      have h0 : (0 : Int) ≤ (j : Int) := by omega
      have hf := full_length M [] (by have := Nat.mod_lt M.length (show 0 < 64 by omega); simp; omega)
      obtain ⟨c0, c1⟩ := hr.lenAt (blocks_length _ _) hf
      obtain ⟨L, hL⟩ : ∃ L, L = low64 M.length := ⟨_, rfl⟩
      obtain ⟨r, hrr⟩ : ∃ r, r = M.length % 64 := ⟨_, rfl⟩
      have hLb : L < 18446744073709551616 := by rw [hL]; exact low64_lt _
      have hr64 : r < 64 := by rw [hrr]; exact Nat.mod_lt _ (by omega)
      have hrem : Int.tmod (L : Int) 64 = (r : Int) := by rw [hL, hrr, ← low64_mod]; exact (Int.ofNat_tmod _ _).symm
      have hr2 : NextS w wr 3 (strmX M [] L) := by rw [hL]; exact hr
      rw [← hL] at c0
      clear hr
      have z0 : (0 : Int) ≤ (r : Int) := by omega
      have z1 : (r : Int) ≤ 64 := by omega
      have hne : ¬ 64 = r := by omega
      have hext := ext_drop x j
      obtain ⟨k, hk⟩ : ∃ k, k = Nat.min (x.drop j).length (64 - r) := ⟨_, rfl⟩
      obtain ⟨y, hy⟩ : ∃ y, y = (x.drop j).take k := ⟨_, rfl⟩
      obtain ⟨z, hz2⟩ : ∃ z, z = (x.drop j).drop k := ⟨_, rfl⟩
      have hyz : x.drop j = y ++ z := by rw [hy, hz2, List.take_append_drop]
      have hdl : (x.drop j).length = x.length - j := List.length_drop
      have hkl : k ≤ (x.drop j).length := by rw [hk]; exact Nat.min_le_left _ _
      have hkr : k ≤ 64 - r := by rw [hk]; exact Nat.min_le_right _ _
      have hkp : 0 < k := by rw [hk]; exact Nat.lt_min.2 ⟨by omega, by omega⟩
      have hyk : y.length = k := by rw [hy, List.length_take]; omega
      rw [hyz] at hk hext
      have hcp : ∀ W, NextS w W 3 (strmX M [] L) → ∀ ty, (Builtin.copy_ #[38, 9] ty #[.slice (some ⟨w.heap.size, 8 + r, none⟩) (64 - r) (64 - r), .string ⟨(y ++ z).toArray⟩]).run Tryd.prog W = .ok (.int .i64 (k : Int)) (W.setCells w.heap.size (8 + r) (y.map Wire.bv)) := fun W hW ty => copyS M y z L k r w W _ hW hrr hg hyk hk ty
      have hcd : ∀ W, NextS w W 3 (strmX M [] L) → NextS w (W.setCells w.heap.size (8 + r) (y.map Wire.bv)) 3 (strmX M y L) := fun W hW => by rw [hrr]; exact (copied hW (by rw [hyk]; omega) hg).1
      have HCP := Lib.hid hcp; clear hcp
      have HCD := Lib.hid hcd; clear hcd
      have HYK := Lib.hid hyk; clear hyk
      have HYZ := Lib.hid hyz; clear hyz
      have HK := Lib.hid hk; clear hk hy hz2
      have HDL := Lib.hid hdl; clear hdl
      have hkl2 : (k : Int) ≤ 64 := by omega
      have hkp2 : (0 : Int) ≤ (k : Int) := by omega
      have HM := Lib.hid hM; clear hM
      have HL := Lib.hid hL; clear hL
      have HR := Lib.hid hrr; clear hrr
      clear hLb hf
      go_wp2
      refine wp_region_still_tail 8 (by kernel_rfl) (by kernel_rfl) ?_
      simp only [List.take_succ_cons, List.take_zero, List.drop_succ_cons, List.drop_zero]
      repeat still_step
      refine wpStill_nil ?_
      change wpList _ _ _ _ _ wr.drew
      have hr3 := hr2.drew
      clear c0 c1 hr2
      revert hr3
      generalize wr.drew = w2
      intro hr3
      refine Go.Lib.wpList_copy_run w2 rfl (.tmp 15) (.tmp 18) 38 9 rfl _ _ rfl rfl (HCP.out _ hr3 _) ?_
      refine gen_world (Pq := fun W => NextS w W 3 (strmX M y L)) (G := fun W => wpList _ _ _ _ _ W) (HCD.out _ hr3) ?_
      intro w3 hr4
      clear hr3
      have hMl := HR.out
      obtain ⟨c0, c1⟩ := hr4.lenAt (blocks_length _ _) (full_length M y (by rw [HYK.out, ← hMl]; omega))
      have hjk : (j : Int) + (k : Int) ≤ 9223372036854775807 := by have := HDL.out; omega
      have hjk0 : (0 : Int) ≤ (j : Int) + (k : Int) := by omega
      obtain ⟨L2, hL2⟩ : ∃ n, n = low64 (M.length + k) := ⟨_, rfl⟩
      have hsum : IntKind.u64.wrap ((L : Int) + (k : Int)) = (L2 : Int) := by rw [IntKind.wrap_u64, HL.out, hL2]; exact low64_add _ _
      have hset : ∀ W, NextS w W 3 (strmX M y L) → NextS w (W.setCell ⟨w.heap.size, 72, none⟩ (.int .u64 (L2 : Int))) 3 (strmX M y L2) := fun W hW => hW.setLen (blocks_length _ _) (full_length M y (by rw [HYK.out, ← hMl]; omega)) hg L2
      have hset2 := hset _ hr4
      have hmk : M ++ y = m ++ x.take (j + k) := by
        have h1 : x.take (j + k) = x.take j ++ y := by
          have h2 : y = (x.drop j).take k := by rw [HYZ.out, ← HYK.out, List.take_left]
          rw [h2, List.take_add]
        rw [h1, HM.out, List.append_assoc]
      have hjk3 : j + k ≤ x.length := by have := HDL.out; omega
      have HMK := Lib.hid hmk; clear hmk hset
      by_cases hc : r + k < 64
      · have hmod : Int.tmod (L2 : Int) 64 = ((r + k : Nat) : Int) := by
          have h1 : L2 % 64 = r + k := by rw [hL2, low64_mod, hMl]; have := hMl; omega
          rw [← h1]; exact (Int.ofNat_tmod _ _).symm
        obtain ⟨r2, hr2⟩ : ∃ r2, r2 = r + k := ⟨_, rfl⟩
        rw [← hr2] at hmod
        have hnz : ((r2 : Int) == 0) = false := by simp; omega
        have hrel : NextS w (w3.setCell ⟨w.heap.size, 72, none⟩ (.int .u64 (L2 : Int))) 3 (strm (m ++ x.take (j + k))) := by
          rw [← HMK.out, ← strm_small M y (by rw [HYK.out, ← hMl]; exact hc), HYK.out, ← hL2]
          exact hset2
        have HREL := Lib.hid hrel
        clear hrel hset2 hr4 hMl hL2 hr2
        go_wp2
        go_roundw
        case rel => exact ⟨j + k, hjk3, by go_num, HREL.out⟩
        case measure => simp [intOf]; omega
      · have hmod : Int.tmod (L2 : Int) 64 = 0 := by
          have h1 : L2 % 64 = 0 := by rw [hL2, low64_mod]; have := hMl; omega
          have h2 : Int.tmod (L2 : Int) 64 = ((L2 % 64 : Nat) : Int) := (Int.ofNat_tmod _ _).symm
          rw [h2, h1]; rfl
        have hfl := full_length M y (by rw [HYK.out, ← hMl]; omega)
        have hnext : ∀ W, Table 3 W → Calls Tryd.prog 72 #[.agg (strmX M y L2).toArray] W (GivesA (strm (m ++ x.take (j + k))) W) := fun W hW => by
          rw [← HMK.out, ← strm_full M y (by rw [HYK.out, ← hMl]; omega), HYK.out, ← hL2]
          exact next_any _ _ _ _ (blocks_length _ _) (blocks_lt _ _) hfl hW
        have HN := Lib.hid hnext
        have HXL := Lib.hid (strmX_length M y L2 (by rw [HYK.out, ← hMl]; omega))
        clear hnext hr4 hMl hL2 hfl
        go_wp2_with (first
          | ((with_reducible refine at_slot 33 rfl ?_); refine wpList_load_mid rfl 100 (.tmp 2) rfl w.heap.size 0 rfl (strmX M y L2) _ hset2.val.range Tryd.underlying100 rfl (infoS_of HXL.out) ?_)
          | (go_at_call 72; (with_reducible refine (HN.out _ hset2.tab).mono ?_); rintro e w4 ⟨rfl, hb4⟩; have S4 := hset2.on hb4; clear hb4 hset2)
          | ((with_reducible refine at_store 100 (.tmp 2) (.tmp 34) rfl ?_); refine wpList_store_mid rfl 100 (.tmp 2) (.tmp 34) rfl w.heap.size 0 (strm (m ++ x.take (j + k))).toArray rfl rfl S4.thereVal (infoS_ofA (strm_length _)) (sval_one _ _ _) ?_; refine gen_world (Pq := fun W => NextS w W 3 (strm (m ++ x.take (j + k)))) (G := fun W => wpList _ _ _ _ _ W) (S4.setVal (strm_length _) hg) ?_; intro w5 S5; clear S4))
        simp only [Act.put]
        go_roundw
        case rel => exact ⟨j + k, hjk3, by go_num, S5⟩
        case measure => simp [intOf]; omega
    · have hjx : j = x.length := by omega
      have S : NextS w wr 3 (strm (m ++ x)) := by rw [hjx, List.take_of_length_le (Nat.le_refl _)] at hr; exact hr
      have hzz : ¬ (j : Int) < (x.length : Int) := by omega
      clear hr hjx hlt hj
      go_wp2_with (first
        | ((with_reducible refine at_slot 35 rfl ?_); refine wpList_load_mid rfl 100 (.tmp 2) rfl w.heap.size 0 rfl (strm (m ++ x)) _ S.val.range Tryd.underlying100 rfl (infoS_of (strm_length _)) ?_)
        | ((with_reducible refine at_store 100 (.tmp 4) (.tmp 35) rfl ?_); refine wpList_store_mid rfl 100 (.tmp 4) (.tmp 35) rfl (w.heap.size + 1) 0 (strm (m ++ x)).toArray rfl rfl S.thereRes (infoS_ofA (strm_length _)) (sval_one _ _ _) ?_))
      refine bodyPost_ret (v := .agg (strm (m ++ x)).toArray) ?_ rfl ⟨rfl, S.fin.2⟩
      simp [results, Tryd.results84, asAddr]
      rw [S.fin.1]

theorem copyB (M y z : List UInt8) (L k r : Nat) (w W : World) (gT : Nat) (hS : NextS w W gT (strmX M [] L)) (hr : r = M.length % 64) (hg : gT < w.heap.size) (hk : y.length = k) (hkm : k = Nat.min (y ++ z).length (64 - r)) (ty : TypeId)
    (b o n c : Nat) (hsrc : ∀ (i : Nat) (u : Value), ((y ++ z).map Wire.bv)[i]? = some u → W.cell? ⟨b, o + i, none⟩ = some u) (hn : (y ++ z).length = n) :
    (Builtin.copy_ #[38, 38] ty #[.slice (some ⟨w.heap.size, 8 + r, none⟩) (64 - r) (64 - r), .slice (some ⟨b, o, none⟩) n c]).run Tryd.prog W = .ok (.int .i64 (k : Int)) (W.setCells w.heap.size (8 + r) (y.map Wire.bv)) := by
  subst hr
  have hle : k ≤ 64 - M.length % 64 := by rw [hkm]; exact Nat.min_le_right _ _
  have h2 := (copied hS (x := y) (by have := Nat.mod_lt M.length (show 0 < 64 by omega); omega) hg).2
  rw [hn] at hkm
  refine run_copy_mid W w.heap.size (8 + M.length % 64) (64 - M.length % 64) (64 - M.length % 64) n (.slice (some ⟨b, o, none⟩) n c) (y.map Wire.bv) 38 38 ty 5 Tryd.underlying38 byteSize ?_ (by rw [List.length_map, hk]; exact hkm) ?_ h2 (Wire.bytes_one _) k (by rw [List.length_map, hk])
  · simp [Builtin.lenOf]
  · rw [← hkm]
    refine run_firstCells_some W 1 k ⟨b, o, none⟩ n c (y.map Wire.bv) (by rw [List.length_map, hk]; omega) (fun i u hu => ?_)
    rw [Addr.add_mid]
    refine hsrc i u ?_
    rw [List.map_append, List.getElem?_append_left (List.getElem?_eq_some_iff.1 hu).1, hu]

set_option maxRecDepth 100000 in
set_option maxHeartbeats 1000000 in
theorem addB_any (m x : List UInt8) (n c : Nat) (A : Option Addr) (w : World) (hl : Wire.Lies w w.heap.size 1 A n c (x.map Wire.bv)) (ht : Table 3 w) :
    Calls Tryd.prog 59 #[.agg (strm m).toArray, .slice A n c] w (GivesA (strm (m ++ x)) w) := by
  have hg := ht.size
  have hmost : c ≤ 9223372036854775807 := by have := hl.most; unfold maxLen at this; omega
  have hle := hl.le
  have hxn : x.length = n := by have := hl.len; simpa using this
  have HX := Lib.hid hxn; clear hxn
  have S0 := next_start (xs := strm m) (strm_length m) ht zS zS_size 100 100
  have hz := zeroS
  clear ht
  go_enter Tryd.func59, Tryd.ntmps59
  go_wp2
  go_loopw [5] (fun iv wr => ∃ (j : Nat), j ≤ n ∧ iv = .int .i64 (j : Int) ∧ NextS w wr 3 (strm (m ++ x.take j))) (fun iv _ => (n - intOf iv).toNat)
  case atStart => exact ⟨0, by omega, rfl, by simpa using S0⟩
  case round =>
    obtain ⟨j, hj, rfl, hr⟩ := hrel
    clear S0
    by_cases hlt : j < n
    · obtain ⟨b, o, rfl, hbw, hcells⟩ := hl.cells (by omega)
      have hcells2 : ∀ W, Below w.heap.size w W → ∀ (i : Nat) (u : Value), (x.map Wire.bv)[i]? = some u → W.cell? ⟨b, o + i, none⟩ = some u := fun W hW i u hu => (hW.cell (p := ⟨b, o + i, none⟩) hbw).trans (hcells i u hu)
      have HCE := Lib.hid hcells2; clear hcells2 hcells hbw
      have hxn := HX.out
      obtain ⟨M, hM⟩ : ∃ M, M = m ++ x.take j := ⟨_, rfl⟩
      rw [← hM] at hr
      have h0 : (0 : Int) ≤ (j : Int) := by omega
      have hf := full_length M [] (by have := Nat.mod_lt M.length (show 0 < 64 by omega); simp; omega)
      obtain ⟨c0, c1⟩ := hr.lenAt (blocks_length _ _) hf
      obtain ⟨L, hL⟩ : ∃ L, L = low64 M.length := ⟨_, rfl⟩
      obtain ⟨r, hrr⟩ : ∃ r, r = M.length % 64 := ⟨_, rfl⟩
      have hLb : L < 18446744073709551616 := by rw [hL]; exact low64_lt _
      have hr64 : r < 64 := by rw [hrr]; exact Nat.mod_lt _ (by omega)
      have hrem : Int.tmod (L : Int) 64 = (r : Int) := by rw [hL, hrr, ← low64_mod]; exact (Int.ofNat_tmod _ _).symm
      have hr2 : NextS w wr 3 (strmX M [] L) := by rw [hL]; exact hr
      rw [← hL] at c0
      clear hr
      have z0 : (0 : Int) ≤ (r : Int) := by omega
      have z1 : (r : Int) ≤ 64 := by omega
      have hne : ¬ 64 = r := by omega
      have hext : ¬ c = j := by omega
      obtain ⟨k, hk⟩ : ∃ k, k = Nat.min (x.drop j).length (64 - r) := ⟨_, rfl⟩
      obtain ⟨y, hy⟩ : ∃ y, y = (x.drop j).take k := ⟨_, rfl⟩
      obtain ⟨z, hz2⟩ : ∃ z, z = (x.drop j).drop k := ⟨_, rfl⟩
      have hyz : x.drop j = y ++ z := by rw [hy, hz2, List.take_append_drop]
      have hdl : (x.drop j).length = x.length - j := List.length_drop
      have hkl : k ≤ (x.drop j).length := by rw [hk]; exact Nat.min_le_left _ _
      have hkr : k ≤ 64 - r := by rw [hk]; exact Nat.min_le_right _ _
      have hkp : 0 < k := by rw [hk]; exact Nat.lt_min.2 ⟨by omega, by omega⟩
      have hyk : y.length = k := by rw [hy, List.length_take]; omega
      rw [hyz] at hk
      have hcp : ∀ W, NextS w W 3 (strmX M [] L) → ∀ ty, (Builtin.copy_ #[38, 38] ty #[.slice (some ⟨w.heap.size, 8 + r, none⟩) (64 - r) (64 - r), .slice (some ⟨b, o + j, none⟩) (n - j) (c - j)]).run Tryd.prog W = .ok (.int .i64 (k : Int)) (W.setCells w.heap.size (8 + r) (y.map Wire.bv)) := fun W hW ty => copyB M y z L k r w W _ hW hrr hg hyk hk ty b (o + j) (n - j) (c - j) (fun i u hu => by
        rw [Nat.add_assoc]
        refine HCE.out W hW.below (j + i) u ?_
        rw [← hu, ← hyz, List.map_drop, List.getElem?_drop]) (by rw [← hyz, List.length_drop, hxn])
      have hcd : ∀ W, NextS w W 3 (strmX M [] L) → NextS w (W.setCells w.heap.size (8 + r) (y.map Wire.bv)) 3 (strmX M y L) := fun W hW => by rw [hrr]; exact (copied hW (by rw [hyk]; omega) hg).1
      have HCP := Lib.hid hcp; clear hcp
      have HCD := Lib.hid hcd; clear hcd
      have HYK := Lib.hid hyk; clear hyk
      have HYZ := Lib.hid hyz; clear hyz
      have HK := Lib.hid hk; clear hk hy hz2
      have HDL := Lib.hid hdl; clear hdl
      have hkl2 : (k : Int) ≤ 64 := by omega
      have hkp2 : (0 : Int) ≤ (k : Int) := by omega
      have HM := Lib.hid hM; clear hM hxn
      have HL := Lib.hid hL; clear hL
      have HR := Lib.hid hrr; clear hrr
      clear hLb hf
      go_wp2
      refine wp_region_still_tail 8 (by kernel_rfl) (by kernel_rfl) ?_
      simp only [List.take_succ_cons, List.take_zero, List.drop_succ_cons, List.drop_zero]
      repeat still_step
      refine wpStill_nil ?_
      change wpList _ _ _ _ _ wr.drew
      have hr3 := hr2.drew
      clear c0 c1 hr2
      revert hr3
      generalize wr.drew = w2
      intro hr3
      refine Go.Lib.wpList_copy_run w2 rfl (.tmp 15) (.tmp 18) 38 38 rfl _ _ rfl rfl (HCP.out _ hr3 _) ?_
      refine gen_world (Pq := fun W => NextS w W 3 (strmX M y L)) (G := fun W => wpList _ _ _ _ _ W) (HCD.out _ hr3) ?_
      intro w3 hr4
      clear hr3
      have hMl := HR.out
      obtain ⟨c0, c1⟩ := hr4.lenAt (blocks_length _ _) (full_length M y (by rw [HYK.out, ← hMl]; omega))
      have hjk : (j : Int) + (k : Int) ≤ 9223372036854775807 := by have := HDL.out; have := HX.out; omega
      have hjk0 : (0 : Int) ≤ (j : Int) + (k : Int) := by omega
      obtain ⟨L2, hL2⟩ : ∃ n, n = low64 (M.length + k) := ⟨_, rfl⟩
      have hsum : IntKind.u64.wrap ((L : Int) + (k : Int)) = (L2 : Int) := by rw [IntKind.wrap_u64, HL.out, hL2]; exact low64_add _ _
      have hset : ∀ W, NextS w W 3 (strmX M y L) → NextS w (W.setCell ⟨w.heap.size, 72, none⟩ (.int .u64 (L2 : Int))) 3 (strmX M y L2) := fun W hW => hW.setLen (blocks_length _ _) (full_length M y (by rw [HYK.out, ← hMl]; omega)) hg L2
      have hset2 := hset _ hr4
      have hmk : M ++ y = m ++ x.take (j + k) := by
        have h1 : x.take (j + k) = x.take j ++ y := by
          have h2 : y = (x.drop j).take k := by rw [HYZ.out, ← HYK.out, List.take_left]
          rw [h2, List.take_add]
        rw [h1, HM.out, List.append_assoc]
      have hjk3 : j + k ≤ n := by have := HDL.out; have := HX.out; omega
      have HMK := Lib.hid hmk; clear hmk hset
      by_cases hc : r + k < 64
      · have hmod : Int.tmod (L2 : Int) 64 = ((r + k : Nat) : Int) := by
          have h1 : L2 % 64 = r + k := by rw [hL2, low64_mod, hMl]; have := hMl; omega
          rw [← h1]; exact (Int.ofNat_tmod _ _).symm
        obtain ⟨r2, hr2⟩ : ∃ r2, r2 = r + k := ⟨_, rfl⟩
        rw [← hr2] at hmod
        have hnz : ((r2 : Int) == 0) = false := by simp; omega
        have hrel : NextS w (w3.setCell ⟨w.heap.size, 72, none⟩ (.int .u64 (L2 : Int))) 3 (strm (m ++ x.take (j + k))) := by
          rw [← HMK.out, ← strm_small M y (by rw [HYK.out, ← hMl]; exact hc), HYK.out, ← hL2]
          exact hset2
        have HREL := Lib.hid hrel
        clear hrel hset2 hr4 hMl hL2 hr2
        go_wp2
        go_roundw
        case rel => exact ⟨j + k, hjk3, by go_num, HREL.out⟩
        case measure => simp [intOf]; omega
      · have hmod : Int.tmod (L2 : Int) 64 = 0 := by
          have h1 : L2 % 64 = 0 := by rw [hL2, low64_mod]; have := hMl; omega
          have h2 : Int.tmod (L2 : Int) 64 = ((L2 % 64 : Nat) : Int) := (Int.ofNat_tmod _ _).symm
          rw [h2, h1]; rfl
        have hfl := full_length M y (by rw [HYK.out, ← hMl]; omega)
        have hnext : ∀ W, Table 3 W → Calls Tryd.prog 72 #[.agg (strmX M y L2).toArray] W (GivesA (strm (m ++ x.take (j + k))) W) := fun W hW => by
          rw [← HMK.out, ← strm_full M y (by rw [HYK.out, ← hMl]; omega), HYK.out, ← hL2]
          exact next_any _ _ _ _ (blocks_length _ _) (blocks_lt _ _) hfl hW
        have HN := Lib.hid hnext
        have HXL := Lib.hid (strmX_length M y L2 (by rw [HYK.out, ← hMl]; omega))
        clear hnext hr4 hMl hL2 hfl
        go_wp2_with (first
          | ((with_reducible refine at_slot 33 rfl ?_); refine wpList_load_mid rfl 100 (.tmp 2) rfl w.heap.size 0 rfl (strmX M y L2) _ hset2.val.range Tryd.underlying100 rfl (infoS_of HXL.out) ?_)
          | (go_at_call 72; (with_reducible refine (HN.out _ hset2.tab).mono ?_); rintro e w4 ⟨rfl, hb4⟩; have S4 := hset2.on hb4; clear hb4 hset2)
          | ((with_reducible refine at_store 100 (.tmp 2) (.tmp 34) rfl ?_); refine wpList_store_mid rfl 100 (.tmp 2) (.tmp 34) rfl w.heap.size 0 (strm (m ++ x.take (j + k))).toArray rfl rfl S4.thereVal (infoS_ofA (strm_length _)) (sval_one _ _ _) ?_; refine gen_world (Pq := fun W => NextS w W 3 (strm (m ++ x.take (j + k)))) (G := fun W => wpList _ _ _ _ _ W) (S4.setVal (strm_length _) hg) ?_; intro w5 S5; clear S4))
        simp only [Act.put]
        go_roundw
        case rel => exact ⟨j + k, hjk3, by go_num, S5⟩
        case measure => simp [intOf]; omega
    · have hjx : j = x.length := by have := HX.out; omega
      have S : NextS w wr 3 (strm (m ++ x)) := by rw [hjx, List.take_of_length_le (Nat.le_refl _)] at hr; exact hr
      have hzz : ¬ (j : Int) < (n : Int) := by omega
      clear hr hjx hlt hj
      go_wp2_with (first
        | ((with_reducible refine at_slot 35 rfl ?_); refine wpList_load_mid rfl 100 (.tmp 2) rfl w.heap.size 0 rfl (strm (m ++ x)) _ S.val.range Tryd.underlying100 rfl (infoS_of (strm_length _)) ?_)
        | ((with_reducible refine at_store 100 (.tmp 4) (.tmp 35) rfl ?_); refine wpList_store_mid rfl 100 (.tmp 4) (.tmp 35) rfl (w.heap.size + 1) 0 (strm (m ++ x)).toArray rfl rfl S.thereRes (infoS_ofA (strm_length _)) (sval_one _ _ _) ?_))
      refine bodyPost_ret (v := .agg (strm (m ++ x)).toArray) ?_ rfl ⟨rfl, S.fin.2⟩
      simp [results, Tryd.results59, asAddr]
      rw [S.fin.1]

end Hash
end Go.Proofs.YthpkeaafgabjiaaDoor

/- The end of a message: the padding, and what the last block holds. Mathematics only. -/
namespace Go.Proofs.YthpkeaafgabjiaaDoor
open Go.RowKit
namespace Hash

theorem lenBytes_length (n : Nat) : (lenBytes n).length = 8 := rfl
theorem pad_eq (m : List UInt8) : pad m = (m ++ [128]) ++ (zeros (gap m.length) ++ lenBytes (8 * m.length)) := by simp [pad]

theorem fin_near (m : List UInt8) (h : (m ++ [128]).length % 64 ≤ 56) :
    comp (blocks (m ++ [128]) ((m ++ [128]).length / 64)) ((full (m ++ [128]) []).take 56 ++ lenBytes (8 * m.length)) = blocks (pad m) ((pad m).length / 64) := by
  have hL : (m ++ [128]).length = m.length + 1 := by simp
  have hp := pad_eq m
  obtain ⟨M, hM⟩ : ∃ M, M = m ++ [128] := ⟨_, rfl⟩
  rw [← hM] at h hL hp ⊢
  have hgap : gap m.length = 56 - M.length % 64 := by unfold gap; omega
  rw [hgap] at hp
  have hlen : (pad m).length / 64 = M.length / 64 + 1 := by
    rw [hp, List.length_append, List.length_append, zeros_length, lenBytes_length]; omega
  have ht : (full M []).take 56 = tail M ++ zeros (56 - M.length % 64) := by
    unfold full
    rw [List.take_append, List.take_of_length_le (by rw [tail_length]; omega), tail_length]
    simp [zeros]
  have hd : ((pad m).drop (64 * (M.length / 64))).take 64 = tail M ++ zeros (56 - M.length % 64) ++ lenBytes (8 * m.length) := by
    rw [hp, List.drop_append_of_le_length (by omega)]
    rw [List.take_of_length_le (by rw [List.length_append, List.length_drop, List.length_append, zeros_length, lenBytes_length]; omega)]
    simp [tail]
  rw [hlen, ht]
  simp only [blocks]
  rw [hd, hp, blocks_append _ _ _ (by omega)]

theorem fin_far (m : List UInt8) (h : 56 < (m ++ [128]).length % 64) :
    comp (comp (blocks (m ++ [128]) ((m ++ [128]).length / 64)) (full (m ++ [128]) [])) ((zeros 64).take 56 ++ lenBytes (8 * m.length)) = blocks (pad m) ((pad m).length / 64) := by
  have hL : (m ++ [128]).length = m.length + 1 := by simp
  have hp := pad_eq m
  obtain ⟨M, hM⟩ : ∃ M, M = m ++ [128] := ⟨_, rfl⟩
  rw [← hM] at h hL hp ⊢
  have hgap : gap m.length = (64 - M.length % 64) + 56 := by unfold gap; omega
  have hz : zeros (gap m.length) = zeros (64 - M.length % 64) ++ zeros 56 := by rw [hgap]; exact (List.replicate_append_replicate (n := 64 - M.length % 64) (m := 56)).symm
  rw [hz] at hp
  have hlen : (pad m).length / 64 = M.length / 64 + 1 + 1 := by
    rw [hp, List.length_append, List.length_append, List.length_append, zeros_length, zeros_length, lenBytes_length]; omega
  have h1 : ((pad m).drop (64 * (M.length / 64))).take 64 = full M [] := by
    rw [hp, List.drop_append_of_le_length (by omega), List.append_assoc, ← List.append_assoc]
    rw [List.take_append_of_le_length (by rw [List.length_append, List.length_drop, zeros_length]; omega), List.take_of_length_le (by rw [List.length_append, List.length_drop, zeros_length]; omega)]
    simp [full, tail]
  have h2 : ((pad m).drop (64 * (M.length / 64 + 1))).take 64 = zeros 56 ++ lenBytes (8 * m.length) := by
    have e : pad m = (M ++ zeros (64 - M.length % 64)) ++ (zeros 56 ++ lenBytes (8 * m.length)) := by rw [hp]; simp
    have el : (M ++ zeros (64 - M.length % 64)).length = 64 * (M.length / 64 + 1) := by rw [List.length_append, zeros_length]; omega
    rw [e, ← el, List.drop_left, List.take_of_length_le (by rw [List.length_append, zeros_length, lenBytes_length]; omega)]
  rw [hlen]
  simp only [blocks]
  rw [h1, h2]
  congr 2
  rw [hp, blocks_append _ _ _ (by omega)]

/-- The bytes of the block under way, of which the last i have been set. -/
def endAt (rest lb : List UInt8) (i : Nat) : List UInt8 := rest.take (64 - i) ++ lb.drop (8 - i)
theorem endAt_zero (rest lb : List UInt8) (hr : rest.length = 64) (hl : lb.length = 8) : endAt rest lb 0 = rest := by
  unfold endAt
  rw [List.drop_of_length_le (by omega), List.append_nil, List.take_of_length_le (by omega)]
theorem endAt_eight (rest lb : List UInt8) : endAt rest lb 8 = rest.take 56 ++ lb := by simp [endAt]
theorem endAt_length (rest lb : List UInt8) (i : Nat) (hr : rest.length = 64) (hl : lb.length = 8) (hi : i ≤ 8) : (endAt rest lb i).length = 64 := by
  unfold endAt
  rw [List.length_append, List.length_take, List.length_drop]; omega
theorem endAt_set (rest lb : List UInt8) (i : Nat) (hr : rest.length = 64) (hl : lb.length = 8) (hi : i < 8) : (endAt rest lb i).set (63 - i) (lb.getD (7 - i) 0) = endAt rest lb (i + 1) := by
  unfold endAt
  have h1 : rest.take (64 - i) = rest.take (63 - i) ++ [rest[63 - i]'(by omega)] := by
    rw [show 64 - i = (63 - i) + 1 by omega, List.take_add_one, List.getElem?_eq_getElem (by omega)]; rfl
  have h2 : lb.drop (8 - (i + 1)) = lb.getD (7 - i) 0 :: lb.drop (8 - i) := by
    rw [show 8 - (i + 1) = 7 - i by omega, List.drop_eq_getElem_cons (by omega), List.getD_eq_getElem?_getD, List.getElem?_eq_getElem (by omega), show 7 - i + 1 = 8 - i by omega]; rfl
  have hl2 : (rest.take (63 - i)).length = 63 - i := by rw [List.length_take]; omega
  rw [h1, h2, List.append_assoc, List.set_append_right _ _ (by omega), hl2, Nat.sub_self, show 64 - (i + 1) = 63 - i by omega]
  rfl
theorem lb_at (n : Nat) : ∀ i : Nat, i < 8 → (((lenBytes (8 * n)).getD (7 - i) 0).toNat : Int) = (((low64 n : Int) * 8 % 18446744073709551616) / 2 ^ (8 * i)) % 256
  | 0, _ => by simp [lenBytes, u8, low64]; omega
  | 1, _ => by simp [lenBytes, u8, low64]; omega
  | 2, _ => by simp [lenBytes, u8, low64]; omega
  | 3, _ => by simp [lenBytes, u8, low64]; omega
  | 4, _ => by simp [lenBytes, u8, low64]; omega
  | 5, _ => by simp [lenBytes, u8, low64]; omega
  | 6, _ => by simp [lenBytes, u8, low64]; omega
  | 7, _ => by simp [lenBytes, u8, low64]; omega
  | n + 8, h => by omega

/-- The bytes of words, of which the first i have been written. -/
def outAt (hs : List Nat) (i : Nat) : List UInt8 := (hs.take i).flatMap wordBytes ++ zeros (32 - 4 * i)
theorem flat4 : ∀ l : List Nat, (l.flatMap wordBytes).length = 4 * l.length
  | [] => rfl
  | x :: l => by simp [List.flatMap_cons, flat4 l, wordBytes]; omega
theorem outAt_length (hs : List Nat) (i : Nat) (hl : hs.length = 8) (hi : i ≤ 8) : (outAt hs i).length = 32 := by
  unfold outAt
  rw [List.length_append, flat4, List.length_take, zeros_length]; omega
theorem outAt_set (hs : List Nat) (i : Nat) (hl : hs.length = 8) (hi : i < 8) :
    ((((outAt hs i).set (4 * i) (u8 (hs.getD i 0 / 16777216))).set (4 * i + 1) (u8 (hs.getD i 0 / 65536))).set (4 * i + 2) (u8 (hs.getD i 0 / 256))).set (4 * i + 3) (u8 (hs.getD i 0)) = outAt hs (i + 1) := by
  unfold outAt
  have h1 : zeros (32 - 4 * i) = 0 :: 0 :: 0 :: 0 :: zeros (32 - 4 * (i + 1)) := by
    rw [show 32 - 4 * i = (32 - 4 * (i + 1)) + 1 + 1 + 1 + 1 by omega]; rfl
  have h2 : ((hs.take i).flatMap wordBytes).length = 4 * i := by rw [flat4, List.length_take]; omega
  have h3 : hs.take (i + 1) = hs.take i ++ [hs.getD i 0] := by
    rw [List.take_add_one, List.getD_eq_getElem?_getD, List.getElem?_eq_getElem (by omega)]; rfl
  rw [h1, h3, List.flatMap_append]
  generalize (hs.take i).flatMap wordBytes = P at h2
  generalize hs.getD i 0 = v
  rw [List.set_append_right _ _ (by omega), List.set_append_right _ _ (by omega), List.set_append_right _ _ (by omega), List.set_append_right _ _ (by omega), h2]
  simp [wordBytes, Nat.add_sub_cancel_left]
theorem outAt_all (hs : List Nat) (hl : hs.length = 8) : outAt hs 8 = hs.flatMap wordBytes := by
  unfold outAt
  rw [List.take_of_length_le (by omega)]
  simp [zeros]

end Hash
end Go.Proofs.YthpkeaafgabjiaaDoor

