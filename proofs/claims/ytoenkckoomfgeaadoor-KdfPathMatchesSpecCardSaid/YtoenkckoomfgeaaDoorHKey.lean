/- A stream that begins with a key's block: keyed, of the package. Condition: the key has at most 64 bytes; the table of round constants reads as the program lays it. -/
import Derived.Test.YtoenkckoomfgeaaDoorHFun
import Derived.Test.YtoenkckoomfgeaaDoorHTell
import Derived.Deep.RegionHeld3
import Derived.Deep.RegionWith
namespace Go.Proofs.YtoenkckoomfgeaaDoor
open Go.RowKit
namespace Hash

/-- The result's block is the first new one, the key's block the second. -/
structure KeyS (w W : World) (gT : Nat) (bs : List UInt8) : Prop where
  res : ∃ ys, Arr W w.heap.size 73 ys
  blk : Arr W (w.heap.size + 1) 64 (bs.map Wire.bv)
  tab : Table gT W
  below : Below w.heap.size w W
theorem key_start {w : World} {gT : Nat} (ht : Table gT w) (t1 t2 : TypeId) : KeyS w ((w.alloc (.cells zS t1)).alloc (.cells zB t2)) gT (zeros 64) := by
  have hbel : Below w.heap.size w ((w.alloc (.cells zS t1)).alloc (.cells zB t2)) := ((Below.refl _ _).alloc (Nat.le_refl _) _).alloc (by simp) _
  have h1 := arr_new w zS t1
  have h2 := arr_new (w.alloc (.cells zS t1)) zB t2
  rw [zS_size] at h1
  rw [zB_size] at h2
  refine ⟨⟨_, h1.alloc (by simp) _⟩, ?_, ht.below hbel ht.size, hbel⟩
  have e : (w.alloc (.cells zS t1)).heap.size = w.heap.size + 1 := by simp
  rw [e] at h2
  exact h2
theorem KeyS.copied {w W : World} {gT : Nat} {key : List UInt8} (h : KeyS w W gT (zeros 64)) (hk : key.length ≤ 64) (hg : gT < w.heap.size) : KeyS w (W.setCells (w.heap.size + 1) 0 (key.map Wire.bv)) gT (key ++ zeros (64 - key.length)) := by
  obtain ⟨ys, hy⟩ := h.res
  have e : (zeros 64).map Wire.bv = [] ++ ((zeros key.length).map Wire.bv ++ (zeros (64 - key.length)).map Wire.bv) := by
    have e2 : zeros key.length ++ zeros (64 - key.length) = zeros 64 := by unfold zeros; rw [List.replicate_append_replicate]; congr 1; omega
    rw [List.nil_append, ← List.map_append, e2]
  have hg1 : gT < w.heap.size + 1 := by omega
  have hb := h.blk
  rw [e] at hb
  have h2 := hb.patch (vs := key.map Wire.bv) (by simp [zeros])
  have hbel := below_cells (B := w.heap.size + 1) (Nat.le_refl _) (key.map Wire.bv) 0 W
  refine ⟨⟨ys, hy.aside (Nat.ne_of_lt (Nat.lt_succ_self _)) _⟩, ?_, h.tab.below hbel hg1, h.below.trans (hbel.mono (Nat.le_succ w.heap.size))⟩
  rw [List.map_append]
  simpa using h2
theorem KeyS.there0 {w W : World} {gT : Nat} {bs : List UInt8} (h : KeyS w W gT bs) {k : Nat} (hk : k ≤ 64) : W.there (w.heap.size + 1) 0 k := fun j hj => h.blk.there j (by omega)
theorem KeyS.put {w W : World} {gT : Nat} {bs : List UInt8} {i : Nat} (h : KeyS w W gT bs) (hi : i < 64) (hg : gT < w.heap.size) (c : UInt8) : KeyS w (W.setCell ⟨w.heap.size + 1, i, none⟩ (.int .u8 (c.toNat : Int))) gT (bs.set i c) := by
  obtain ⟨ys, hy⟩ := h.res
  have hbel : Below (w.heap.size + 1) W (W.setCell ⟨w.heap.size + 1, i, none⟩ (.int .u8 (c.toNat : Int))) := (Below.refl _ _).setCell (by simp) _
  have hb := h.blk.set (i := i) hi (Wire.bv c)
  rw [← List.map_set] at hb
  exact ⟨⟨ys, hy.other (by omega) _⟩, hb, h.tab.below hbel (by omega), h.below.trans (hbel.mono (Nat.le_succ _))⟩
/-- The bytes of which the first i have been combined with the mask. -/
def maskAt (bs : List UInt8) (m : UInt8) (i : Nat) : List UInt8 := (bs.take i).map (· ^^^ m) ++ bs.drop i
theorem maskAt_at (bs : List UInt8) (m : UInt8) {i : Nat} (hi : i < bs.length) : (maskAt bs m i)[i]? = some (bs.getD i 0) := by
  unfold maskAt
  rw [List.getElem?_append_right (by rw [List.length_map, List.length_take]; omega), List.length_map, List.length_take, List.getElem?_drop, show i + (i - min i bs.length) = i by omega, List.getD_eq_getElem?_getD, List.getElem?_eq_getElem hi]
  rfl
theorem maskAt_set (bs : List UInt8) (m : UInt8) {i : Nat} (hi : i < bs.length) : (maskAt bs m i).set i (bs.getD i 0 ^^^ m) = maskAt bs m (i + 1) := by
  unfold maskAt
  have hd : bs.drop i = bs.getD i 0 :: bs.drop (i + 1) := by
    rw [List.drop_eq_getElem_cons hi, List.getD_eq_getElem?_getD, List.getElem?_eq_getElem hi]; rfl
  have ht : bs.take (i + 1) = bs.take i ++ [bs.getD i 0] := by
    rw [List.take_add_one, List.getD_eq_getElem?_getD, List.getElem?_eq_getElem hi]; rfl
  rw [List.set_append_right _ _ (by rw [List.length_map, List.length_take]; omega), List.length_map, List.length_take, show i - min i bs.length = 0 by omega, hd, List.set_cons_zero, ht]
  simp
theorem maskAt_zero (bs : List UInt8) (m : UInt8) : maskAt bs m 0 = bs := by simp [maskAt]
theorem maskAt_all (bs : List UInt8) (m : UInt8) (hl : bs.length = 64) : maskAt bs m 64 = bs.map (· ^^^ m) := by
  unfold maskAt
  rw [List.take_of_length_le (by omega), List.drop_of_length_le (by omega), List.append_nil]
theorem zeroB (W : World) : (zeroValue 64).run Tryd.prog W = .ok (.agg zB) W := by kernel_rfl
theorem copyK (key : List UInt8) (w W : World) (gT k : Nat) (hS : KeyS w W gT (zeros 64)) (hk : key.length = k) (hk2 : k ≤ 64) (ty : TypeId) :
    (Builtin.copy_ #[44, 9] ty #[.slice (some ⟨w.heap.size + 1, 0, none⟩) 64 64, .string ⟨key.toArray⟩]).run Tryd.prog W = .ok (.int .i64 (k : Int)) (W.setCells (w.heap.size + 1) 0 (key.map Wire.bv)) := by
  have hm : Nat.min key.length 64 = k := by rw [hk]; exact Nat.min_eq_left hk2
  refine run_copy_mid W (w.heap.size + 1) 0 64 64 key.length (.string ⟨key.toArray⟩) (key.map Wire.bv) 44 9 ty 5 Tryd.underlying44 byteSize ?_ (by rw [List.length_map, hm, hk]) ?_ (by rw [List.length_map, hk]; exact hS.there0 hk2) (Wire.bytes_one _) k (by rw [List.length_map, hk])
  · simp [Builtin.lenOf, ByteArray.size]
  · rw [hm]
    simp only [Builtin.firstCells, Sem.run_pure]
    have e : ((⟨key.toArray⟩ : ByteArray).extract 0 k).data = key.toArray := by
      rw [ByteArray.data_extract]
      apply Array.toList_inj.1
      rw [Array.toList_extract, List.extract_eq_take_drop]
      simp [← hk]
    rw [e]
    congr 1
    apply Array.toList_inj.1
    rw [Array.toList_map]
    rfl

theorem strm_one (m : List UInt8) : ∀ v ∈ strm m, v.oneCell' = true := by
  intro v hv
  have h := sval_one (blocks m (m.length / 64)) (full m []) (low64 m.length)
  refine Array.all_eq_true_iff_forall_mem.1 h v ?_
  rw [List.mem_toArray]
  exact hv
theorem store_strm (m : List UInt8) (g : Nat) (W : World) (h : W.there g 0 73) : (storeCells ⟨g, 0, none⟩ (strm m)).run Tryd.prog W = .ok () (W.setCells g 0 (strm m)) := by
  have hl := strm_length m
  have := run_storeCells_cells (P := Tryd.prog) g 0 (strm m) 0 W (fun j hj => by rw [Nat.add_zero]; exact (h j (by omega)).1) (fun j hj => by rw [Nat.add_zero]; exact (h j (by omega)).2) (strm_one m)
  rwa [Nat.add_zero] at this
theorem keyS_of {w W : World} {gT : Nat} {ks : List UInt8} (h : KeyS w W gT ks) : W.there w.heap.size 0 73 ∧ KeyS w W gT ks := by
  obtain ⟨ys, hy⟩ := h.res
  exact ⟨hy.there, h⟩
theorem KeyS.drew {w W : World} {gT : Nat} {bs : List UInt8} (h : KeyS w W gT bs) : KeyS w W.drew gT bs := by
  obtain ⟨ys, hy⟩ := h.res
  exact ⟨⟨ys, hy.drew 1⟩, h.blk.drew 1, h.tab.drew 1, h.below.drew⟩
theorem keyS_keep {w W W2 : World} {gT : Nat} {ks : List UInt8} (h : W.there w.heap.size 0 73 ∧ KeyS w W gT ks) (hb : Below W.heap.size W W2) : W2.there w.heap.size 0 73 ∧ KeyS w W2 gT ks := by
  obtain ⟨_, h⟩ := h
  obtain ⟨ys, hy⟩ := h.res
  exact keyS_of ⟨⟨ys, hy.below hb (hy.size (by omega))⟩, h.blk.below hb (h.blk.size (by omega)), h.tab.below hb h.tab.size, h.below.trans (hb.mono h.below.size)⟩
theorem keyS_store {w W : World} {gT : Nat} {ks : List UInt8} {xs : List Value} (hg : gT < w.heap.size) (h : W.there w.heap.size 0 73 ∧ KeyS w W gT ks) (hx : xs.length = 73 := by assumption) : (W.setCells w.heap.size 0 xs).there w.heap.size 0 73 ∧ KeyS w (W.setCells w.heap.size 0 xs) gT ks := by
  obtain ⟨_, h⟩ := h
  obtain ⟨ys, hy⟩ := h.res
  have hb := below_cells (B := w.heap.size) (Nat.le_refl _) xs 0 W
  exact keyS_of ⟨⟨_, hy.over hx⟩, h.blk.aside (by omega) _, h.tab.below hb hg, h.below.trans hb⟩
theorem KeyS.fin {w W : World} {gT : Nat} {bs : List UInt8} (h : KeyS w W gT bs) {xs : List Value} (hl : xs.length = 73) :
    (loadVar 67 ⟨w.heap.size, 0, none⟩).run Tryd.prog (W.setCells w.heap.size 0 xs) = .ok (.agg xs.toArray) (W.setCells w.heap.size 0 xs) ∧ Below w.heap.size w (W.setCells w.heap.size 0 xs) := by
  obtain ⟨ys, hy⟩ := h.res
  exact arr_end (w := w) (wr := W) (g := w.heap.size) (xs := xs) 67 h.below (Nat.le_refl _) (by rw [hl]; exact hy.there) Tryd.underlying67 rfl (infoS_of hl)
theorem arr_lies {W : World} {g n : Nat} {bs : List UInt8} (h : Arr W g n (bs.map Wire.bv)) (hn : n ≤ maxLen) (h0 : 0 < n) : Wire.Lies W W.heap.size 1 (some ⟨g, 0, none⟩) n n (bs.map Wire.bv) :=
  ⟨by rw [h.len]; omega, Nat.le_refl _, hn, fun _ => ⟨g, 0, rfl⟩, fun _ => ⟨g, 0, rfl, h.size h0, fun j u hu => by rw [Nat.zero_add]; exact h.cells j u hu⟩⟩
theorem key_add {w W : World} {ks : List UInt8} (h : W.there w.heap.size 0 73 ∧ KeyS w W 1 ks) :
    Calls Tryd.prog 35 #[.agg (strm []).toArray, .slice (some ⟨w.heap.size + 1, 0, none⟩) 64 64] W (GivesA (strm ks) W) := by
  have := addB_any [] ks 64 64 (some ⟨w.heap.size + 1, 0, none⟩) W (arr_lies h.2.blk (by unfold maxLen; omega) (by omega)) h.2.tab
  rwa [List.nil_append] at this

set_option maxRecDepth 100000 in
set_option maxHeartbeats 1000000 in
theorem keyed_any (key : List UInt8) (mask : UInt8) (w : World) (hk : key.length ≤ 64) (ht : Table 1 w) :
    Calls Tryd.prog 34 #[.string ⟨key.toArray⟩, .int .u8 (mask.toNat : Int)] w (GivesA (strm ((key ++ zeros (64 - key.length)).map (· ^^^ mask))) w) := by
  have S0 := key_start ht 67 64
  have hg := ht.size
  have hz := zeroS
  have hz2 := zeroB
  have HK := Lib.hid hk
  clear ht hk
  go_enter Tryd.func34, Tryd.ntmps34
  go_wp2_with (with_reducible refine at_slot 9 rfl ?_; refine Go.Lib.wpList_copy_run _ rfl (.tmp 7) (.tmp 8) 44 9 rfl _ _ rfl rfl (copyK key w _ _ key.length S0 rfl HK.out _) ?_; refine gen_world (Pq := fun W => KeyS w W 1 (key ++ zeros (64 - key.length))) (G := fun W => wpList _ _ _ _ _ W) (S0.copied HK.out hg) ?_; intro w2 S2; clear S0)
  have hbl : (key ++ zeros (64 - key.length)).length = 64 := by rw [List.length_append, zeros_length]; have := HK.out; omega
  obtain ⟨bs, hbs⟩ : ∃ bs, bs = key ++ zeros (64 - key.length) := ⟨_, rfl⟩
  rw [← hbs] at S2 hbl
  have HBS := Lib.hid hbs; clear hbs
  have HB := Lib.hid hbl
  clear hbl
  go_loopw [10] (fun iv wr => ∃ (i : Nat), i ≤ 64 ∧ iv = .int .i64 (i : Int) ∧ KeyS w wr 1 (maskAt bs mask i)) (fun iv _ => (64 - intOf iv).toNat)
  case atStart => exact ⟨0, by omega, rfl, by rw [maskAt_zero]; exact S2⟩
  case round =>
    obtain ⟨i, hi, rfl, hq⟩ := hrel
    clear S2
    by_cases hi6 : i < 64
    · obtain ⟨c0, c1⟩ := hq.blk.at_ (i := i) (u := Wire.bv (bs.getD i 0)) (by rw [List.getElem?_map, maskAt_at bs mask (by rw [HB.out]; exact hi6)]; rfl)
      have hput := hq.put hi6 hg (bs.getD i 0 ^^^ mask)
      rw [maskAt_set bs mask (by rw [HB.out]; exact hi6)] at hput
      have hx := xor8 (bs.getD i 0) mask
      unfold Wire.bv at c0
      generalize bs.getD i 0 ^^^ mask = y at hput hx
      generalize bs.getD i 0 = x at c0 hx
      have HP := Lib.hid hput
      have z0 : (0 : Int) ≤ (i : Int) := by omega
      have z1 : (i : Int) < 64 := by omega
      clear hput hq
      go_wp2
      go_roundw
      case rel => exact ⟨i + 1, by omega, by go_num, HP.out⟩
      case measure => simp [intOf]; omega
    · have hi7 : i = 64 := by omega
      have S3 : KeyS w wr 1 (bs.map (· ^^^ mask)) := by rw [hi7, maskAt_all bs mask HB.out] at hq; exact hq
      have z64 : ¬ (i : Int) < 64 := by omega
      clear hi7 hi6 hi hq
      obtain ⟨ks, hks⟩ : ∃ ks, ks = bs.map (· ^^^ mask) := ⟨_, rfl⟩
      rw [← hks] at S3
      have HKS := Lib.hid hks; clear hks
      have hinfo := infoS
      have hone : ∀ v ∈ strm ks, v.oneCell' = true := fun v hv => strm_one ks v hv
      have hsl := strm_length ks
      have hst := fun W (h : W.there w.heap.size 0 73) => store_strm ks w.heap.size W h
      go_wp2
      go_region_held3 (fun W' => W'.there w.heap.size 0 73 ∧ KeyS w W' 1 ks) (first | exact keyS_of S3.drew | exact keyS_keep (by assumption) (by assumption) | exact keyS_store hg (by assumption))
        (first
          | (go_at_call 31; (with_reducible refine (begin_any _).mono ?_); rintro e w1 ⟨rfl, hb1⟩)
          | (go_at_call 35; (with_reducible refine (key_add (by assumption)).mono ?_); rintro e w2 ⟨rfl, hb2⟩))
      have S9 := keyS_keep (keyS_keep (keyS_of S3.drew) hb1) hb2
      have HE := S9.2.fin hsl
      go_wp2
      refine bodyPost_ret (v := .agg (strm ks).toArray) ?_ rfl ⟨by rw [HKS.out, HBS.out], HE.2⟩
      simp [results, Tryd.results34, asAddr]
      rw [HE.1]

end Hash
end Go.Proofs.YtoenkckoomfgeaaDoor
