/- HKey; HMac: what each of these parts proves stands ahead of it. -/
import Derived.Test.YtmabbiemjeeicaaDoorM4
import Derived.Deep.RegionHeld3
import Derived.Deep.RegionWith
/- A stream that begins with a key's block: keyed, of the package. Condition: the key has at most 64 bytes; the table of round constants reads as the program lays it. -/
namespace Go.Proofs.YtmabbiemjeeicaaDoor
open Go.RowKit
namespace Hash

/-- The result's block is the first new one, the key's block the second. -/
structure KeyS (w W : World) (gT : Nat) (bs : List UInt8) : Prop where
  res : ∃ ys, Arr W w.heap.size 73 ys
  blk : Arr W (w.heap.size + 1) 64 (bs.map Wire.bv)
  tab : Table gT W
  below : Below w.heap.size w W
theorem key_start {w : World} {gT : Nat} (ht : Table gT w) (t1 t2 : TypeId) : KeyS w ((w.alloc (.cells zS t1)).alloc (.cells zB t2)) gT (zeros 64) := by
  have hbel : Below w.heap.size w ((w.alloc (.cells zS t1)).alloc (.cells zB t2)) := ((Below.refl _ _).alloc (Nat.le_refl _) _).alloc (by simp) _
  have h1 := arr_new w zS t1
  have h2 := arr_new (w.alloc (.cells zS t1)) zB t2
  rw [zS_size] at h1
  rw [zB_size] at h2
  refine ⟨⟨_, h1.alloc (by simp) _⟩, ?_, ht.below hbel ht.size, hbel⟩
  have e : (w.alloc (.cells zS t1)).heap.size = w.heap.size + 1 := by simp
  rw [e] at h2
  exact h2
theorem KeyS.copied {w W : World} {gT : Nat} {key : List UInt8} (h : KeyS w W gT (zeros 64)) (hk : key.length ≤ 64) (hg : gT < w.heap.size) : KeyS w (W.setCells (w.heap.size + 1) 0 (key.map Wire.bv)) gT (key ++ zeros (64 - key.length)) := by
  obtain ⟨ys, hy⟩ := h.res
  have e : (zeros 64).map Wire.bv = [] ++ ((zeros key.length).map Wire.bv ++ (zeros (64 - key.length)).map Wire.bv) := by
    have e2 : zeros key.length ++ zeros (64 - key.length) = zeros 64 := by unfold zeros; rw [List.replicate_append_replicate]; congr 1; omega
    rw [List.nil_append, ← List.map_append, e2]
  have hg1 : gT < w.heap.size + 1 := by omega
  have hb := h.blk
  rw [e] at hb
  have h2 := hb.patch (vs := key.map Wire.bv) (by simp [zeros])
  have hbel := below_cells (B := w.heap.size + 1) (Nat.le_refl _) (key.map Wire.bv) 0 W
  refine ⟨⟨ys, hy.aside (Nat.ne_of_lt (Nat.lt_succ_self _)) _⟩, ?_, h.tab.below hbel hg1, h.below.trans (hbel.mono (Nat.le_succ w.heap.size))⟩
  rw [List.map_append]
  simpa using h2
theorem KeyS.there0 {w W : World} {gT : Nat} {bs : List UInt8} (h : KeyS w W gT bs) {k : Nat} (hk : k ≤ 64) : W.there (w.heap.size + 1) 0 k := fun j hj => h.blk.there j (by omega)
theorem KeyS.put {w W : World} {gT : Nat} {bs : List UInt8} {i : Nat} (h : KeyS w W gT bs) (hi : i < 64) (hg : gT < w.heap.size) (c : UInt8) : KeyS w (W.setCell ⟨w.heap.size + 1, i, none⟩ (.int .u8 (c.toNat : Int))) gT (bs.set i c) := by
  obtain ⟨ys, hy⟩ := h.res
  have hbel : Below (w.heap.size + 1) W (W.setCell ⟨w.heap.size + 1, i, none⟩ (.int .u8 (c.toNat : Int))) := (Below.refl _ _).setCell (by simp) _
  have hb := h.blk.set (i := i) hi (Wire.bv c)
  rw [← List.map_set] at hb
  exact ⟨⟨ys, hy.other (by omega) _⟩, hb, h.tab.below hbel (by omega), h.below.trans (hbel.mono (Nat.le_succ _))⟩
/-- The bytes of which the first i have been combined with the mask. -/
def maskAt (bs : List UInt8) (m : UInt8) (i : Nat) : List UInt8 := (bs.take i).map (· ^^^ m) ++ bs.drop i
theorem maskAt_at (bs : List UInt8) (m : UInt8) {i : Nat} (hi : i < bs.length) : (maskAt bs m i)[i]? = some (bs.getD i 0) := by
  unfold maskAt
  rw [List.getElem?_append_right (by rw [List.length_map, List.length_take]; omega), List.length_map, List.length_take, List.getElem?_drop, show i + (i - min i bs.length) = i by omega, List.getD_eq_getElem?_getD, List.getElem?_eq_getElem hi]
  rfl
theorem maskAt_set (bs : List UInt8) (m : UInt8) {i : Nat} (hi : i < bs.length) : (maskAt bs m i).set i (bs.getD i 0 ^^^ m) = maskAt bs m (i + 1) := by
  unfold maskAt
  have hd : bs.drop i = bs.getD i 0 :: bs.drop (i + 1) := by
    rw [List.drop_eq_getElem_cons hi, List.getD_eq_getElem?_getD, List.getElem?_eq_getElem hi]; rfl
  have ht : bs.take (i + 1) = bs.take i ++ [bs.getD i 0] := by
    rw [List.take_add_one, List.getD_eq_getElem?_getD, List.getElem?_eq_getElem hi]; rfl
  rw [List.set_append_right _ _ (by rw [List.length_map, List.length_take]; omega), List.length_map, List.length_take, show i - min i bs.length = 0 by omega, hd, List.set_cons_zero, ht]
  simp
theorem maskAt_zero (bs : List UInt8) (m : UInt8) : maskAt bs m 0 = bs := by simp [maskAt]
theorem maskAt_all (bs : List UInt8) (m : UInt8) (hl : bs.length = 64) : maskAt bs m 64 = bs.map (· ^^^ m) := by
  unfold maskAt
  rw [List.take_of_length_le (by omega), List.drop_of_length_le (by omega), List.append_nil]
theorem zeroB (W : World) : (zeroValue 59).run Tryd.prog W = .ok (.agg zB) W := by kernel_rfl
theorem copyK (key : List UInt8) (w W : World) (gT k : Nat) (hS : KeyS w W gT (zeros 64)) (hk : key.length = k) (hk2 : k ≤ 64) (ty : TypeId) :
    (Builtin.copy_ #[44, 9] ty #[.slice (some ⟨w.heap.size + 1, 0, none⟩) 64 64, .string ⟨key.toArray⟩]).run Tryd.prog W = .ok (.int .i64 (k : Int)) (W.setCells (w.heap.size + 1) 0 (key.map Wire.bv)) := by
  have hm : Nat.min key.length 64 = k := by rw [hk]; exact Nat.min_eq_left hk2
  refine run_copy_mid W (w.heap.size + 1) 0 64 64 key.length (.string ⟨key.toArray⟩) (key.map Wire.bv) 44 9 ty 5 Tryd.underlying44 byteSize ?_ (by rw [List.length_map, hm, hk]) ?_ (by rw [List.length_map, hk]; exact hS.there0 hk2) (Wire.bytes_one _) k (by rw [List.length_map, hk])
  · simp [Builtin.lenOf, ByteArray.size]
  · rw [hm]
    simp only [Builtin.firstCells, Sem.run_pure]
    have e : ((⟨key.toArray⟩ : ByteArray).extract 0 k).data = key.toArray := by
      rw [ByteArray.data_extract]
      apply Array.toList_inj.1
      rw [Array.toList_extract, List.extract_eq_take_drop]
      simp [← hk]
    rw [e]
    congr 1
    apply Array.toList_inj.1
    rw [Array.toList_map]
    rfl

theorem keyS_of {w W : World} {gT : Nat} {ks : List UInt8} (h : KeyS w W gT ks) : W.there w.heap.size 0 73 ∧ KeyS w W gT ks := by
  obtain ⟨ys, hy⟩ := h.res
  exact ⟨hy.there, h⟩
theorem KeyS.drew {w W : World} {gT : Nat} {bs : List UInt8} (h : KeyS w W gT bs) : KeyS w W.drew gT bs := by
  obtain ⟨ys, hy⟩ := h.res
  exact ⟨⟨ys, hy.drew 1⟩, h.blk.drew 1, h.tab.drew 1, h.below.drew⟩
theorem keyS_keep {w W W2 : World} {gT : Nat} {ks : List UInt8} (h : W.there w.heap.size 0 73 ∧ KeyS w W gT ks) (hb : Below W.heap.size W W2) : W2.there w.heap.size 0 73 ∧ KeyS w W2 gT ks := by
  obtain ⟨_, h⟩ := h
  obtain ⟨ys, hy⟩ := h.res
  exact keyS_of ⟨⟨ys, hy.below hb (hy.size (by omega))⟩, h.blk.below hb (h.blk.size (by omega)), h.tab.below hb h.tab.size, h.below.trans (hb.mono h.below.size)⟩
theorem keyS_store {w W : World} {gT : Nat} {ks : List UInt8} {xs : List Value} (hg : gT < w.heap.size) (h : W.there w.heap.size 0 73 ∧ KeyS w W gT ks) (hx : xs.length = 73 := by assumption) : (W.setCells w.heap.size 0 xs).there w.heap.size 0 73 ∧ KeyS w (W.setCells w.heap.size 0 xs) gT ks := by
  obtain ⟨_, h⟩ := h
  obtain ⟨ys, hy⟩ := h.res
  have hb := below_cells (B := w.heap.size) (Nat.le_refl _) xs 0 W
  exact keyS_of ⟨⟨_, hy.over hx⟩, h.blk.aside (by omega) _, h.tab.below hb hg, h.below.trans hb⟩
theorem KeyS.fin {w W : World} {gT : Nat} {bs : List UInt8} (h : KeyS w W gT bs) {xs : List Value} (hl : xs.length = 73) :
    (loadVar 62 ⟨w.heap.size, 0, none⟩).run Tryd.prog (W.setCells w.heap.size 0 xs) = .ok (.agg xs.toArray) (W.setCells w.heap.size 0 xs) ∧ Below w.heap.size w (W.setCells w.heap.size 0 xs) := by
  obtain ⟨ys, hy⟩ := h.res
  exact arr_end (w := w) (wr := W) (g := w.heap.size) (xs := xs) 62 h.below (Nat.le_refl _) (by rw [hl]; exact hy.there) Tryd.underlying62 rfl (infoS_of hl)
theorem key_add {w W : World} {ks : List UInt8} (h : W.there w.heap.size 0 73 ∧ KeyS w W 1 ks) :
    Calls Tryd.prog 42 #[.agg (strm []).toArray, .slice (some ⟨w.heap.size + 1, 0, none⟩) 64 64] W (GivesA (strm ks) W) := by
  have := addB_any [] ks 64 64 (some ⟨w.heap.size + 1, 0, none⟩) W (arr_lies h.2.blk (by unfold maxLen; omega) (by omega)) h.2.tab
  rwa [List.nil_append] at this

set_option maxRecDepth 100000 in
set_option maxHeartbeats 1000000 in
theorem keyed_any (key : List UInt8) (mask : UInt8) (w : World) (hk : key.length ≤ 64) (ht : Table 1 w) :
    Calls Tryd.prog 57 #[.string ⟨key.toArray⟩, .int .u8 (mask.toNat : Int)] w (GivesA (strm ((key ++ zeros (64 - key.length)).map (· ^^^ mask))) w) := by
  have S0 := key_start ht 62 59
  have hg := ht.size
  have hz := zeroS
  have hz2 := zeroB
  have HK := Lib.hid hk
  clear ht hk
  go_enter Tryd.func57, Tryd.ntmps57
  go_wp2_with (with_reducible refine at_slot 9 rfl ?_; refine Go.Lib.wpList_copy_run _ rfl (.tmp 7) (.tmp 8) 44 9 rfl _ _ rfl rfl (copyK key w _ _ key.length S0 rfl HK.out _) ?_; refine gen_world (Pq := fun W => KeyS w W 1 (key ++ zeros (64 - key.length))) (G := fun W => wpList _ _ _ _ _ W) (S0.copied HK.out hg) ?_; intro w2 S2; clear S0)
  have hbl : (key ++ zeros (64 - key.length)).length = 64 := by rw [List.length_append, zeros_length]; have := HK.out; omega
  obtain ⟨bs, hbs⟩ : ∃ bs, bs = key ++ zeros (64 - key.length) := ⟨_, rfl⟩
  rw [← hbs] at S2 hbl
  have HBS := Lib.hid hbs; clear hbs
  have HB := Lib.hid hbl
  clear hbl
  go_loopw [10] (fun iv wr => ∃ (i : Nat), i ≤ 64 ∧ iv = .int .i64 (i : Int) ∧ KeyS w wr 1 (maskAt bs mask i)) (fun iv _ => (64 - intOf iv).toNat)
  case atStart => exact ⟨0, by omega, rfl, by rw [maskAt_zero]; exact S2⟩
  case round =>
    obtain ⟨i, hi, rfl, hq⟩ := hrel
    clear S2
    by_cases hi6 : i < 64
    · obtain ⟨c0, c1⟩ := hq.blk.at_ (i := i) (u := Wire.bv (bs.getD i 0)) (by rw [List.getElem?_map, maskAt_at bs mask (by rw [HB.out]; exact hi6)]; rfl)
      have hput := hq.put hi6 hg (bs.getD i 0 ^^^ mask)
      rw [maskAt_set bs mask (by rw [HB.out]; exact hi6)] at hput
      have hx := xor8 (bs.getD i 0) mask
      unfold Wire.bv at c0
      generalize bs.getD i 0 ^^^ mask = y at hput hx
      generalize bs.getD i 0 = x at c0 hx
      have HP := Lib.hid hput
      have z0 : (0 : Int) ≤ (i : Int) := by omega
      have z1 : (i : Int) < 64 := by omega
      clear hput hq
      go_wp2
      go_roundw
      case rel => exact ⟨i + 1, by omega, by go_num, HP.out⟩
      case measure => simp [intOf]; omega
    · have hi7 : i = 64 := by omega
      have S3 : KeyS w wr 1 (bs.map (· ^^^ mask)) := by rw [hi7, maskAt_all bs mask HB.out] at hq; exact hq
      have z64 : ¬ (i : Int) < 64 := by omega
      clear hi7 hi6 hi hq
      obtain ⟨ks, hks⟩ : ∃ ks, ks = bs.map (· ^^^ mask) := ⟨_, rfl⟩
      rw [← hks] at S3
      have HKS := Lib.hid hks; clear hks
      have hinfo := infoS
      have hone : ∀ v ∈ strm ks, v.oneCell' = true := fun v hv => strm_one ks v hv
      have hsl := strm_length ks
      have hst := fun W (h : W.there w.heap.size 0 73) => store_strm ks w.heap.size W h
      go_wp2
      go_region_held3 (fun W' => W'.there w.heap.size 0 73 ∧ KeyS w W' 1 ks) (first | exact keyS_of S3.drew | exact keyS_keep (by assumption) (by assumption) | exact keyS_store hg (by assumption))
        (first
          | (go_at_call 43; (with_reducible refine (begin_any _).mono ?_); rintro e w1 ⟨rfl, hb1⟩)
          | (go_at_call 42; (with_reducible refine (key_add (by assumption)).mono ?_); rintro e w2 ⟨rfl, hb2⟩))
      have S9 := keyS_keep (keyS_keep (keyS_of S3.drew) hb1) hb2
      have HE := S9.2.fin hsl
      go_wp2
      refine bodyPost_ret (v := .agg (strm ks).toArray) ?_ rfl ⟨by rw [HKS.out, HBS.out], HE.2⟩
      simp [results, Tryd.results57, asAddr]
      rw [HE.1]

end Hash
end Go.Proofs.YtmabbiemjeeicaaDoor

/- The authentication code: Mac, of the package. Condition: the table of round constants reads as the program lays it; lengths have 63 bits. -/
namespace Go.Proofs.YtmabbiemjeeicaaDoor
open Go.RowKit
namespace Hash

theorem convA {W : World} {g n : Nat} {l : List UInt8} (h : Arr W g n (l.map Wire.bv)) : (convert 44 9 (.slice (some ⟨g, 0, none⟩) n n)).run Tryd.prog W = .ok (.string ⟨l.toArray⟩) W := by
  have hn : l.length = n := by have := h.len; simpa using this
  have := run_convert_bytes_arg (P := Tryd.prog) (w := W) 44 5 Tryd.underlying44 Tryd.underlying5 g 0 n n (l.map fun c => (c.toNat : Int)) (by simpa using hn) ?_ 9 Tryd.underlying9
  · rw [this, Wire.strOf]; rfl
  · intro i hi
    have hx : l[i]? = some (l[i]'(by omega)) := List.getElem?_eq_getElem _
    have hc := h.cells i (Wire.bv (l[i]'(by omega))) (by rw [List.getElem?_map, hx]; rfl)
    rw [Nat.zero_add, hc]
    simp [List.getD, hx, Wire.bv]
theorem addM0 (x : List UInt8) (hx : x.length ≤ 9223372036854775807) (W : World) (ht : Table 1 W) : Calls Tryd.prog 52 #[.agg (strm []).toArray, .string ⟨x.toArray⟩] W (GivesA (strm x) W) := by
  have := addM_any [] x W hx ht
  rwa [List.nil_append] at this
def kb (k : List UInt8) (m : UInt8) : List UInt8 := (k ++ zeros (64 - k.length)).map (· ^^^ m)
theorem keyed36 (k : List UInt8) (hk : k.length ≤ 64) (W : World) (ht : Table 1 W) : Calls Tryd.prog 57 #[.string ⟨k.toArray⟩, .int .u8 54] W (GivesA (strm (kb k 0x36)) W) := keyed_any k 0x36 W hk ht
theorem keyed5c (k : List UInt8) (hk : k.length ≤ 64) (W : World) (ht : Table 1 W) : Calls Tryd.prog 57 #[.string ⟨k.toArray⟩, .int .u8 92] W (GivesA (strm (kb k 0x5c)) W) := keyed_any k 0x5c W hk ht
def shortKey (key : List UInt8) : List UInt8 := if 64 < key.length then sha key else key
theorem keyBlock_eq (key : List UInt8) (m : UInt8) : keyBlock key m = kb (shortKey key) m := rfl
theorem shortKey_le (key : List UInt8) : (shortKey key).length ≤ 64 := by
  unfold shortKey
  split
  · rw [sha_length]; omega
  · omega
/-- The hash of the inner message, in block g. -/
structure MacS (w W : World) (gT g : Nat) (bs : List UInt8) : Prop where
  arr : Arr W g 32 (bs.map Wire.bv)
  tab : Table gT W
  below : Below w.heap.size w W

/-- .. and the blocks that were there lie below block B. -/
structure MacB (w W : World) (B gT g : Nat) (bs : List UInt8) : Prop where
  mac : MacS w W gT g bs
  size : B ≤ W.heap.size
  g_lt : g < B
  t_lt : gT < B
  w_le : w.heap.size ≤ B
theorem MacS.drew {w W : World} {gT g : Nat} {bs : List UInt8} (h : MacS w W gT g bs) : MacS w W.drew gT g bs := ⟨h.arr.drew 1, h.tab.drew 1, h.below.drew⟩
theorem macS_of {w W : World} {gT g B : Nat} {bs : List UInt8} (h : MacS w W gT g bs) (hB : B ≤ W.heap.size) (hg : g < B) (ht : gT < B) (hw : w.heap.size ≤ B) : MacB w W B gT g bs := ⟨h, hB, hg, ht, hw⟩
theorem MacB.tab {w W : World} {gT g B : Nat} {bs : List UInt8} (h : MacB w W B gT g bs) : Table gT W := h.mac.tab
theorem MacB.onB {w W W2 : World} {gT g B : Nat} {bs : List UInt8} (h : MacB w W B gT g bs) (hb : Below B W W2) : MacB w W2 B gT g bs :=
  ⟨⟨h.mac.arr.below hb h.g_lt, h.mac.tab.below hb h.t_lt, h.mac.below.trans (hb.mono h.w_le)⟩, Nat.le_trans h.size hb.size, h.g_lt, h.t_lt, h.w_le⟩
theorem MacB.keep {w W W2 : World} {gT g B : Nat} {bs : List UInt8} (h : MacB w W B gT g bs) (hb : Below W.heap.size W W2) : MacB w W2 B gT g bs := h.onB (hb.mono h.size)
theorem MacB.keepR {w W W2 : World} {gT g B : Nat} {bs : List UInt8} (hb : Below W.heap.size W W2) (h : MacB w W B gT g bs) : MacB w W2 B gT g bs := h.keep hb
theorem MacB.new_ {w W : World} {gT g B : Nat} {bs : List UInt8} {o : Obj} (h : MacB w W B gT g bs) : MacB w (W.alloc o) B gT g bs := h.keep ((Below.refl _ _).alloc (Nat.le_refl _) o)
theorem MacB.st1 {w W : World} {gT g B : Nat} {bs : List UInt8} {o : Obj} {xs : List Value} (h : MacB w W B gT g bs) : MacB w ((W.alloc o).setCells W.heap.size 0 xs) B gT g bs :=
  h.keep (((Below.refl _ _).alloc (Nat.le_refl _) o).trans (below_cells (Nat.le_refl _) _ _ _))
theorem MacB.st2 {w W : World} {gT g g7 B : Nat} {bs : List UInt8} {xs : List Value} (h : MacB w W B gT g bs) (ht : W.there g7 0 32 ∧ B ≤ g7) : MacB w (W.setCells g7 0 xs) B gT g bs :=
  h.onB (below_cells ht.2 _ _ _)
theorem thN {w W W2 : World} {gT g B : Nat} {bs : List UInt8} {t : TypeId} (h : MacB w W B gT g bs) (hb : Below (W.alloc (.cells z32 t)).heap.size (W.alloc (.cells z32 t)) W2) : W2.there W.heap.size 0 32 ∧ B ≤ W.heap.size := by
  have hn := arr_new W z32 t
  rw [z32_size] at hn
  exact ⟨(hn.below hb (hn.size (by omega))).there, h.size⟩
theorem thNC {w W W2 : World} {gT g B : Nat} {bs : List UInt8} {t : TypeId} {p : Prop} (hb : Below (W.alloc (.cells z32 t)).heap.size (W.alloc (.cells z32 t)) W2) (h : MacB w W B gT g bs) (k : W2.there W.heap.size 0 32 ∧ B ≤ W.heap.size → p) : p := k (thN h hb)
theorem MacB.newD {w W : World} {gT g B : Nat} {bs : List UInt8} {o : Obj} (h : MacB w W.drew B gT g bs) : MacB w (W.alloc o).drew B gT g bs := h.new_ (o := o)
theorem thND {w W W2 : World} {gT g B : Nat} {bs : List UInt8} {t : TypeId} {p : Prop} (hb : Below (W.alloc (.cells z32 t)).drew.heap.size (W.alloc (.cells z32 t)).drew W2) (h : MacB w W.drew B gT g bs) (k : W2.there W.heap.size 0 32 ∧ B ≤ W.heap.size → p) : p :=
  k (thN (W := W.drew) (t := t) h hb)
theorem thO {W W2 : World} {g7 B : Nat} (h : W.there g7 0 32 ∧ B ≤ g7) (hb : Below W.heap.size W W2) : W2.there g7 0 32 ∧ B ≤ g7 := by
  refine ⟨fun j hj => ?_, h.2⟩
  have h1 := h.1 j hj
  have hlt : g7 < W.heap.size := by
    cases hc : W.cell? ⟨g7, 0 + j, none⟩ with
    | none => rw [hc] at h1; cases h1.1
    | some u => exact World.block_lt_of_cell? W _ hc
  rw [hb.cell (p := ⟨g7, 0 + j, none⟩) hlt, hb.frozen (p := ⟨g7, 0 + j, none⟩) hlt]
  exact h1
theorem st_old (ys : List UInt8) (hl : ys.length = 32) (W : World) (g : Nat) (h : W.there g 0 32) : (storeCells ⟨g, 0, none⟩ (ys.map Wire.bv)).run Tryd.prog W = .ok () (W.setCells g 0 (ys.map Wire.bv)) := by
  have hm : (ys.map Wire.bv).length = 32 := by rw [List.length_map]; exact hl
  have := run_storeCells_cells (P := Tryd.prog) g 0 (ys.map Wire.bv) 0 W (fun j hj => by rw [Nat.add_zero]; exact (h j (by omega)).1) (fun j hj => by rw [Nat.add_zero]; exact (h j (by omega)).2) (Wire.bytes_one ys)
  rwa [Nat.add_zero] at this
theorem th_new (W : World) (t : TypeId) : (W.alloc (.cells z32 t)).there W.heap.size 0 32 := by
  have hn := (arr_new W z32 t).there
  rwa [z32_size] at hn
theorem st_new (ys : List UInt8) (hl : ys.length = 32) (W : World) : (storeCells ⟨W.heap.size, 0, none⟩ (ys.map Wire.bv)).run Tryd.prog (W.alloc (.cells z32 66)) = .ok () ((W.alloc (.cells z32 66)).setCells W.heap.size 0 (ys.map Wire.bv)) :=
  st_old ys hl _ _ (th_new W _)
theorem cv_old (ys : List UInt8) (hl : ys.length = 32) (W : World) (g : Nat) (h : W.there g 0 32) : (convert 44 9 (.slice (some ⟨g, 0, none⟩) 32 32)).run Tryd.prog (W.setCells g 0 (ys.map Wire.bv)) = .ok (.string ⟨ys.toArray⟩) (W.setCells g 0 (ys.map Wire.bv)) := by
  have hm : (ys.map Wire.bv).length = 32 := by rw [List.length_map]; exact hl
  refine convA (n := 32) ⟨hm, fun j u hu => ?_, fun j hj => ?_⟩
  · have := World.rangeAt_setCells_same W g 0 (ys.map Wire.bv) (by rw [hm]; exact h) j u hu
    rwa [Nat.zero_add] at this
  · rw [World.frozen?_setCells]
    have := (h j hj).2
    rwa [Nat.zero_add] at this
theorem cv_new (ys : List UInt8) (hl : ys.length = 32) (W : World) : (convert 44 9 (.slice (some ⟨W.heap.size, 0, none⟩) 32 32)).run Tryd.prog ((W.alloc (.cells z32 66)).setCells W.heap.size 0 (ys.map Wire.bv)) = .ok (.string ⟨ys.toArray⟩) ((W.alloc (.cells z32 66)).setCells W.heap.size 0 (ys.map Wire.bv)) :=
  cv_old ys hl _ _ (th_new W _)
theorem mac_add {w W : World} {g B : Nat} {kc inner : List UInt8} (h : MacB w W B 1 g inner) :
    Calls Tryd.prog 42 #[.agg (strm kc).toArray, .slice (some ⟨g, 0, none⟩) 32 32] W (GivesA (strm (kc ++ inner)) W) :=
  addB_any kc inner 32 32 (some ⟨g, 0, none⟩) W (arr_lies h.mac.arr (by unfold maxLen; omega) (by omega)) h.mac.tab

set_option maxRecDepth 100000 in
set_option maxHeartbeats 1000000 in
theorem mac_any (key text : List UInt8) (w : World) (hk : key.length ≤ 9223372036854775807) (hx : text.length ≤ 9223372036854775807) (ht : Table 1 w) :
    Calls Tryd.prog 48 #[.string ⟨key.toArray⟩, .string ⟨text.toArray⟩] w (GivesT (mac key text) w) := by
  have T := ht
  have Z := Below.refl w.heap.size w
  have hz2 := zero32
  have hks : (⟨key.toArray⟩ : ByteArray).size = key.length := by simp [ByteArray.size]
  by_cases hc : 64 < key.length
  case' pos =>
    have hsk : shortKey key = sha key := if_pos hc
    have hc2 : (64 : Int) < (key.length : Int) := by omega
    have hkl : (sha key).length ≤ 64 := by rw [sha_length]; omega
    have hk32 : (sha key).length = 32 := sha_length key
    have hsum : ∀ W, Table 1 W → Calls Tryd.prog 45 #[.agg (strm key).toArray] W (GivesA ((sha key).map Wire.bv) W) := fun W hW => streamSum_any key W hW
    generalize sha key = k at hsk hkl hk32 hsum
    have HSK := Lib.hid hsk
    have HKL := Lib.hid hkl
    have HSL := Lib.hid hk32
    have HSUM := Lib.hid hsum
    clear hsk hc hkl hk32 hsum ht
    go_enter Tryd.func48, Tryd.ntmps48
    go_wp2_with (first
      | (go_at_call 43; (with_reducible refine (begin_any _).mono ?_); rintro e w1 ⟨rfl, hb⟩; replace T := tabj T hb; replace Z := bcj Z hb; clear hb)
      | (go_at_call 52; (with_reducible refine (addM0 key hk _ T).mono ?_); rintro e w2 ⟨rfl, hb⟩; replace T := tabj T hb; replace Z := bcj Z hb; clear hb)
      | (go_at_call 45; (with_reducible refine (HSUM.out _ T).mono ?_); rintro e w3 ⟨rfl, hb⟩; replace T := tabj T hb; replace Z := bcj Z hb; clear hb)
      | ((with_reducible refine at_store 66 (.tmp 5) (.tmp 14) rfl ?_); refine wpList_store_mid rfl 66 (.tmp 5) (.tmp 14) rfl w3.heap.size 0 (k.map Wire.bv).toArray rfl rfl (fresh32 w3 _ HSL.out _) (i32A HSL.out) (bytes_all _) ?_; have HN := fresh32A w3 k HSL.out 66; refine gen_world (Pq := fun W => MacS w W 1 w3.heap.size k) (G := fun W => wpList _ _ _ _ _ W) ⟨HN.1, tabj T HN.2, bcj Z HN.2⟩ ?_; intro w4 M4; clear HN T Z; have hcv := convA M4.arr; have T := M4.tab; have Z := M4.below; clear M4)
      | (go_at_call 57; (with_reducible refine (keyed36 k HKL.out _ T).mono ?_); rintro e w5 ⟨rfl, hb⟩; replace T := tabj T hb; replace Z := bcj Z hb; clear hb)
      | (go_at_call 52; (with_reducible refine (addM_any _ text _ hx T).mono ?_); rintro e w6 ⟨rfl, hb⟩; replace T := tabj T hb; replace Z := bcj Z hb; clear hb)
      | (go_at_call 45; (with_reducible refine (streamSum_any _ _ T).mono ?_); rintro e w7 ⟨rfl, hb⟩; replace T := tabj T hb; replace Z := bcj Z hb; clear hb)
      | ((with_reducible refine at_store 66 (.tmp 6) (.tmp 21) rfl ?_); refine wpList_store_mid rfl 66 (.tmp 6) (.tmp 21) rfl w7.heap.size 0 ((sha (kb k 0x36 ++ text)).map Wire.bv).toArray rfl rfl (fresh32 w7 _ (sha_length _) _) (i32A (sha_length _)) (bytes_all _) ?_; have HN := fresh32A w7 (sha (kb k 0x36 ++ text)) (sha_length _) 66; refine gen_world (Pq := fun W => MacS w W 1 w7.heap.size (sha (kb k 0x36 ++ text))) (G := fun W => wpList _ _ _ _ _ W) ⟨HN.1, tabj T HN.2, bcj Z HN.2⟩ ?_; intro w8 M8; clear HN T Z))
    have hmac : mac key text = sha (kb k 0x5c ++ sha (kb k 0x36 ++ text)) := by
      unfold mac
      rw [keyBlock_eq, keyBlock_eq, HSK.out]
    have hil : (sha (kb k 0x36 ++ text)).length = 32 := sha_length _
    generalize sha (kb k 0x36 ++ text) = inner at M8 hmac hil
    have hk5 := fun W => keyed5c k HKL.out W
    generalize kb k 0x5c = kc at hmac hk5
    have hsum : ∀ W, Table 1 W → Calls Tryd.prog 45 #[.agg (strm (kc ++ inner)).toArray] W (GivesA ((sha (kc ++ inner)).map Wire.bv) W) := fun W hW => streamSum_any _ W hW
    have hyl : (sha (kc ++ inner)).length = 32 := sha_length _
    generalize sha (kc ++ inner) = ys at hmac hsum hyl
    have HSM := Lib.hid hsum
    have HYL := Lib.hid hyl
    clear hsum hyl
    have HM := Lib.hid hmac
    have HK5 := Lib.hid hk5
    have HIL := Lib.hid hil
    clear hmac hk5 hil
  case' neg =>
    have hsk : shortKey key = key := if_neg hc
    have hc2 : ¬ (64 : Int) < (key.length : Int) := by omega
    have HSK := Lib.hid hsk
    have HKL : Hid (key.length ≤ 64) := Lib.hid (by omega)
    clear hsk hc ht
    go_enter Tryd.func48, Tryd.ntmps48
    go_wp2_with (first
      | (go_at_call 57; (with_reducible refine (keyed36 key HKL.out _ T).mono ?_); rintro e w5 ⟨rfl, hb⟩; replace T := tabj T hb; replace Z := bcj Z hb; clear hb)
      | (go_at_call 52; (with_reducible refine (addM_any _ text _ hx T).mono ?_); rintro e w6 ⟨rfl, hb⟩; replace T := tabj T hb; replace Z := bcj Z hb; clear hb)
      | (go_at_call 45; (with_reducible refine (streamSum_any _ _ T).mono ?_); rintro e w7 ⟨rfl, hb⟩; replace T := tabj T hb; replace Z := bcj Z hb; clear hb)
      | ((with_reducible refine at_store 66 (.tmp 6) (.tmp 21) rfl ?_); refine wpList_store_mid rfl 66 (.tmp 6) (.tmp 21) rfl w7.heap.size 0 ((sha (kb key 0x36 ++ text)).map Wire.bv).toArray rfl rfl (fresh32 w7 _ (sha_length _) _) (i32A (sha_length _)) (bytes_all _) ?_; have HN := fresh32A w7 (sha (kb key 0x36 ++ text)) (sha_length _) 66; refine gen_world (Pq := fun W => MacS w W 1 w7.heap.size (sha (kb key 0x36 ++ text))) (G := fun W => wpList _ _ _ _ _ W) ⟨HN.1, tabj T HN.2, bcj Z HN.2⟩ ?_; intro w8 M8; clear HN T Z))
    have hmac : mac key text = sha (kb key 0x5c ++ sha (kb key 0x36 ++ text)) := by
      unfold mac
      rw [keyBlock_eq, keyBlock_eq, HSK.out]
    have hil : (sha (kb key 0x36 ++ text)).length = 32 := sha_length _
    generalize sha (kb key 0x36 ++ text) = inner at M8 hmac hil
    have hk5 := fun W => keyed5c key HKL.out W
    generalize kb key 0x5c = kc at hmac hk5
    have hsum : ∀ W, Table 1 W → Calls Tryd.prog 45 #[.agg (strm (kc ++ inner)).toArray] W (GivesA ((sha (kc ++ inner)).map Wire.bv) W) := fun W hW => streamSum_any _ W hW
    have hyl : (sha (kc ++ inner)).length = 32 := sha_length _
    generalize sha (kc ++ inner) = ys at hmac hsum hyl
    have HSM := Lib.hid hsum
    have HYL := Lib.hid hyl
    clear hsum hyl
    have HM := Lib.hid hmac
    have HK5 := Lib.hid hk5
    have HIL := Lib.hid hil
    clear hmac hk5 hil
  all_goals
    revert M8
    generalize w7.heap.size = g6
    intro M8
    have hone : ∀ v ∈ ys.map Wire.bv, v.oneCell' = true := Wire.bytes_one ys
    have hyl : (ys.map Wire.bv).length = 32 := by rw [List.length_map]; exact HYL.out
    have hinf := info32
    have hth0 := fun W => th_new W 66
    have hcv1 := fun W => cv_new ys HYL.out W
    have hcv2 := fun W g (h : W.there g 0 32) => cv_old ys HYL.out W g h
    have M9 := macS_of M8.drew (Nat.le_refl w8.heap.size) (M8.arr.size (by omega)) M8.tab.size M8.below.size
    simp only [Act.put]
    go_region_held3 (fun W' => MacB w W' w8.heap.size 1 g6 inner) (first | exact M9 | (refine MacB.new_ ?_; assumption) | (refine MacB.newD ?_; assumption) | (refine MacB.st1 ?_; assumption) | (refine MacB.st2 ?_ ?_ <;> assumption) | exact MacB.keepR (by assumption) (by assumption))
      (first
        | (go_at_call 57; (with_reducible refine (HK5.out _ (MacB.tab (by assumption))).mono ?_); rintro e w9 ⟨rfl, hb9⟩; (try (refine thNC (w := w) (B := w8.heap.size) (gT := 1) (g := g6) (bs := inner) hb9 ?_ ?_; assumption; intro hth)); (try (refine thND (w := w) (B := w8.heap.size) (gT := 1) (g := g6) (bs := inner) hb9 ?_ ?_; assumption; intro hth)); (try replace hth := thO hth hb9); have hS9 := MacB.keepR hb9 (by assumption))
        | (go_at_call 42; (with_reducible refine (mac_add (by assumption)).mono ?_); rintro e w10 ⟨rfl, hb10⟩; (try (refine thNC (w := w) (B := w8.heap.size) (gT := 1) (g := g6) (bs := inner) hb10 ?_ ?_; assumption; intro hth)); (try (refine thND (w := w) (B := w8.heap.size) (gT := 1) (g := g6) (bs := inner) hb10 ?_ ?_; assumption; intro hth)); (try replace hth := thO hth hb10); have hS10 := MacB.keepR hb10 (by assumption))
        | (go_at_call 45; (with_reducible refine (HSM.out _ (MacB.tab (by assumption))).mono ?_); rintro e w11 ⟨rfl, hb11⟩; (try (refine thNC (w := w) (B := w8.heap.size) (gT := 1) (g := g6) (bs := inner) hb11 ?_ ?_; assumption; intro hth)); (try (refine thND (w := w) (B := w8.heap.size) (gT := 1) (g := g6) (bs := inner) hb11 ?_ ?_; assumption; intro hth)); (try replace hth := thO hth hb11); have hS11 := MacB.keepR hb11 (by assumption)))
    all_goals
      rename_i hH
      have HH := Lib.hid hH.mac.below
      clear hH M9 M8
      go_wp2
      go_ret
      exact ⟨by rw [HM.out]; rfl, HH.out⟩

end Hash
end Go.Proofs.YtmabbiemjeeicaaDoor

