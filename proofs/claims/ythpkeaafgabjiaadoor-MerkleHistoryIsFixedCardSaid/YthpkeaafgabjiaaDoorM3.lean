/- HSum; HFun: what each of these parts proves stands ahead of it. -/
import Derived.Test.YthpkeaafgabjiaaDoorM2
/- The hash of a stream's message: Begin, Add and Sum, of the package. Condition: the table of round constants reads as the program lays it. -/
namespace Go.Proofs.YthpkeaafgabjiaaDoor
open Go.RowKit
namespace Hash

theorem fresh73 (w1 : World) (xs : List Value) (hl : xs.length = 73) (t : TypeId) : (w1.alloc (.cells zS t)).there w1.heap.size 0 xs.toArray.size := by
  have h := (arr_new w1 zS t).there
  rw [zS_size] at h
  rw [show xs.toArray.size = 73 by rw [List.size_toArray]; exact hl]
  exact h
theorem fresh_end {w : World} (xs : List Value) (hl : xs.length = 73) (t : TypeId) :
    (loadVar 100 ⟨w.heap.size, 0, none⟩).run Tryd.prog ((w.alloc (.cells zS t)).setCells w.heap.size 0 xs) = .ok (.agg xs.toArray) ((w.alloc (.cells zS t)).setCells w.heap.size 0 xs) ∧ Below w.heap.size w ((w.alloc (.cells zS t)).setCells w.heap.size 0 xs) := by
  refine arr_end (w := w) (wr := w.alloc (.cells zS t)) (g := w.heap.size) (xs := xs) 100 ((Below.refl _ _).alloc (Nat.le_refl _) _) (Nat.le_refl _) ?_ Tryd.underlying100 rfl (infoS_of hl)
  have h := fresh73 w xs hl t
  rwa [List.size_toArray] at h

theorem NextS.thereRes2 {w W : World} {gT : Nat} {xs ys : List Value} (h : NextS w W gT xs) (hy : ys.length = 73) : W.there (w.heap.size + 1) 0 ys.toArray.size := by
  obtain ⟨zs, hz⟩ := h.res
  have e : ys.toArray.size = 73 := by rw [List.size_toArray]; exact hy
  rw [e]; exact hz.there
theorem NextS.fin2 {w W : World} {gT : Nat} {xs ys : List Value} (h : NextS w W gT xs) (hy : ys.length = 73) :
    (loadVar 100 ⟨w.heap.size + 1, 0, none⟩).run Tryd.prog (W.setCells (w.heap.size + 1) 0 ys) = .ok (.agg ys.toArray) (W.setCells (w.heap.size + 1) 0 ys) ∧ Below w.heap.size w (W.setCells (w.heap.size + 1) 0 ys) := by
  obtain ⟨zs, hz⟩ := h.res
  exact arr_end (w := w) (wr := W) (g := w.heap.size + 1) (xs := ys) 100 h.below (by omega) (by rw [hy]; exact hz.there) Tryd.underlying100 rfl (infoS_of hy)

set_option maxRecDepth 100000 in
set_option maxHeartbeats 1000000 in
theorem begin_any (w : World) : Calls Tryd.prog 60 #[] w (GivesA (strm []) w) := by
  have hz := zeroS
  have HE := Lib.hid (fresh_end (w := w) (strm []) (strm_length []) 100)
  go_enter Tryd.func60, Tryd.ntmps60
  go_wp2_with ((with_reducible refine at_store 100 (.tmp 0) (.tmp 2) rfl ?_); refine wpList_store_mid rfl 100 (.tmp 0) (.tmp 2) rfl w.heap.size 0 (strm []).toArray rfl rfl (fresh73 w _ (strm_length []) _) (infoS_ofA (strm_length _)) (sval_one _ _ _) ?_)
  refine bodyPost_ret (v := .agg (strm []).toArray) ?_ rfl ⟨rfl, HE.out.2⟩
  simp [results, Tryd.results60, asAddr, Act.put]
  rw [HE.out.1]

set_option maxRecDepth 100000 in
set_option maxHeartbeats 1000000 in
theorem addM_any (m x : List UInt8) (w : World) (hx : x.length ≤ 9223372036854775807) (ht : Table 3 w) :
    Calls Tryd.prog 74 #[.agg (strm m).toArray, .string ⟨x.toArray⟩] w (GivesA (strm (m ++ x)) w) := by
  have S0 := next_start (xs := strm m) (strm_length m) ht zS zS_size 100 100
  have hz := zeroS
  have hadd : ∀ W, Table 3 W → Calls Tryd.prog 84 #[.agg (strm m).toArray, .string ⟨x.toArray⟩] W (GivesA (strm (m ++ x)) W) := fun W hW => addS_any m x W hx hW
  have HA := Lib.hid hadd
  clear ht hadd
  go_enter Tryd.func74, Tryd.ntmps74
  go_wp2_with (first
    | ((with_reducible refine at_slot 5 rfl ?_); refine wpList_load_mid rfl 100 (.tmp 2) rfl w.heap.size 0 rfl (strm m) _ S0.val.range Tryd.underlying100 rfl (infoS_of (strm_length _)) ?_)
    | (go_at_call 84; (with_reducible refine (HA.out _ S0.tab).mono ?_); rintro e w1 ⟨rfl, hb1⟩; have S1 := S0.on hb1; clear hb1 S0)
    | ((with_reducible refine at_store 100 (.tmp 4) (.tmp 7) rfl ?_); refine wpList_store_mid rfl 100 (.tmp 4) (.tmp 7) rfl (w.heap.size + 1) 0 (strm (m ++ x)).toArray rfl rfl (S1.thereRes2 (strm_length _)) (infoS_ofA (strm_length _)) (sval_one _ _ _) ?_))
  have HE := S1.fin2 (strm_length (m ++ x))
  refine bodyPost_ret (v := .agg (strm (m ++ x)).toArray) ?_ rfl ⟨rfl, HE.2⟩
  simp [results, Tryd.results74, asAddr, Act.put]
  rw [HE.1]

/-- The stream lies in the first new block, the result in the second, the end in block g. -/
structure SumS (w W : World) (gT g : Nat) (src xs : List Value) : Prop where
  src_ : Arr W w.heap.size 73 src
  res : ∃ ys, Arr W (w.heap.size + 1) 32 ys
  end_ : Arr W g 73 xs
  far : w.heap.size + 1 < g
  tab : Table gT W
  below : Below w.heap.size w W
theorem SumS.on {w W W2 : World} {gT g : Nat} {src xs : List Value} (h : SumS w W gT g src xs) (hb : Below W.heap.size W W2) : SumS w W2 gT g src xs := by
  obtain ⟨ys, hy⟩ := h.res
  exact ⟨h.src_.below hb (h.src_.size (by omega)), ⟨ys, hy.below hb (hy.size (by omega))⟩, h.end_.below hb (h.end_.size (by omega)), h.far, h.tab.below hb h.tab.size, h.below.trans (hb.mono h.below.size)⟩
def z32 : Array Value := ((zeros 32).map Wire.bv).toArray
theorem z32_size : z32.size = 32 := rfl
theorem zero32 (W : World) : (zeroValue 84).run Tryd.prog W = .ok (.agg z32) W := by kernel_rfl
theorem info32 : (Tryd.prog.info? 84).map (·.size) = some 32 := by kernel_rfl
theorem und32 : Tryd.prog.underlying 84 = some (.array 32 5) := by kernel_rfl
theorem i32A {xs : List UInt8} (h : xs.length = 32) : (Tryd.prog.info? 84).map (·.size) = some (xs.map Wire.bv).toArray.size := by rw [List.size_toArray, List.length_map, h]; exact info32
theorem i32 {xs : List UInt8} (h : xs.length = 32) : (Tryd.prog.info? 84).map (·.size) = some (xs.map Wire.bv).length := by rw [List.length_map, h]; exact info32

theorem SumS.lenAt {w W : World} {gT g : Nat} {src : List Value} {hs : List Nat} {rest : List UInt8} {n : Nat} (h : SumS w W gT g src (sval hs rest n)) (hl : hs.length = 8) (hr : rest.length = 64) : W.cell? ⟨g, 72, none⟩ = some (.int .u64 (n : Int)) ∧ W.frozen? ⟨g, 72, none⟩ = false := by
  refine h.end_.at_ (i := 72) ?_
  unfold sval
  rw [List.getElem?_append_right (by simp [hl]), List.getElem?_append_right (by simp [hl, hr])]
  simp [hl, hr]
theorem SumS.thereE {w W : World} {gT g : Nat} {src xs ys : List Value} (h : SumS w W gT g src xs) (hy : ys.length = 73) : W.there g 0 ys.toArray.size := by
  rw [show ys.toArray.size = 73 by rw [List.size_toArray]; exact hy]; exact h.end_.there
theorem SumS.change {w W W2 : World} {gT g : Nat} {src xs ys : List Value} (h : SumS w W gT g src xs) (hn : Arr W2 g 73 ys) (hb : Below g W W2) (ht : Table gT W2) : SumS w W2 gT g src ys := by
  obtain ⟨zs, hz⟩ := h.res
  have hf := h.far
  exact ⟨h.src_.below hb (by omega), ⟨zs, hz.below hb (by omega)⟩, hn, h.far, ht, h.below.trans (hb.mono (by omega))⟩
theorem SumS.over {w W : World} {gT g : Nat} {src xs ys : List Value} (h : SumS w W gT g src xs) (hy : ys.length = 73) (hg : gT < g) : SumS w (W.setCells g 0 ys.toArray.toList) gT g src ys :=
  have hb := below_cells (Nat.le_refl g) ys 0 W
  h.change (h.end_.over hy) hb (h.tab.below hb hg)
theorem SumS.srcLen {w W : World} {gT g : Nat} {m : List UInt8} {xs : List Value} (h : SumS w W gT g (strm m) xs) : W.cell? ⟨w.heap.size, 72, none⟩ = some (.int .u64 ((low64 m.length : Nat) : Int)) ∧ W.frozen? ⟨w.heap.size, 72, none⟩ = false := by
  refine h.src_.at_ (i := 72) ?_
  have hf := full_length m [] (by have := Nat.mod_lt m.length (show 0 < 64 by omega); simp; omega)
  have hl := blocks_length m (m.length / 64)
  unfold strm sval
  rw [List.getElem?_append_right (by simp [hl]), List.getElem?_append_right (by simp [hl, hf])]
  simp [hl, hf]
theorem SumS.byteAt {w W : World} {gT g : Nat} {src : List Value} {hs : List Nat} {rest : List UInt8} {n i : Nat} (h : SumS w W gT g src (sval hs rest n)) (hl : hs.length = 8) (hr : rest.length = 64) (hi : i < 64) :
    (∃ u, W.cell? ⟨g, 8 + i, none⟩ = some u) ∧ W.frozen? ⟨g, 8 + i, none⟩ = false := by
  have h1 : (sval hs rest n)[8 + i]? = some (Wire.bv (rest[i]'(by omega))) := by
    unfold sval
    rw [List.getElem?_append_right (by simp [hl]), List.getElem?_append_left (by simp [hl, hr]; omega)]
    simp [hl, hr, hi]
  exact ⟨⟨_, (h.end_.at_ h1).1⟩, (h.end_.at_ h1).2⟩
theorem SumS.putByte {w W : World} {gT g : Nat} {src : List Value} {hs : List Nat} {rest : List UInt8} {n i : Nat} (h : SumS w W gT g src (sval hs rest n)) (hl : hs.length = 8) (hr : rest.length = 64) (hi : i < 64) (hg : gT < g) (c : UInt8) :
    SumS w (W.setCell ⟨g, 8 + i, none⟩ (.int .u8 (c.toNat : Int))) gT g src (sval hs (rest.set i c) n) := by
  have hb : Below g W (W.setCell ⟨g, 8 + i, none⟩ (.int .u8 (c.toNat : Int))) := (Below.refl _ _).setCell (by simp) _
  have hv := h.end_.set (i := 8 + i) (by omega) (Wire.bv c)
  have e : (sval hs rest n).set (8 + i) (Wire.bv c) = sval hs (rest.set i c) n := by
    unfold sval
    rw [List.set_append_right _ _ (by simp [hl]), List.set_append_left _ _ (by simp [hl, hr]; omega)]
    simp [hl, List.map_set]
  rw [e] at hv
  exact h.change hv hb (h.tab.below hb hg)
theorem SumS.words {w W : World} {gT g : Nat} {src : List Value} {hs : List Nat} {rest : List UInt8} {n : Nat} (h : SumS w W gT g src (sval hs rest n)) : W.rangeAt g 0 (hs.map wv) := Arr.mid (p := []) h.end_
theorem SumS.bytes {w W : World} {gT g : Nat} {src : List Value} {hs : List Nat} {rest : List UInt8} {n : Nat} (h : SumS w W gT g src (sval hs rest n)) (hl : hs.length = 8) : W.rangeAt g 8 (rest.map Wire.bv) := by
  have := Arr.mid (p := hs.map wv) h.end_
  rwa [List.length_map, hl] at this
theorem out_new (W : World) (t : TypeId) {fs : List Nat} : Arr (W.alloc (.cells z32 t)) W.heap.size 32 ((outAt fs 0).map Wire.bv) := by
  have h := arr_new W z32 t
  rw [z32_size] at h
  exact h
theorem Arr.some_ {w : World} {g n i : Nat} {xs : List Value} (h : Arr w g n xs) (hi : i < n) : (∃ u, w.cell? ⟨g, i, none⟩ = some u) ∧ w.frozen? ⟨g, i, none⟩ = false :=
  ⟨⟨_, h.cells i _ (List.getElem?_eq_getElem (by rw [h.len]; exact hi))⟩, h.free i hi⟩
theorem idx8L (fs : List Nat) (W : World) (hl : fs.length = 8) (i : Nat) (hi : i < 8) : (Instr.index 96 (.agg (fs.map wv).toArray) (.int .i64 (i : Int))).run Tryd.prog W = .ok (.int .u32 ((fs.getD i 0 : Nat) : Int)) W := by
  obtain ⟨a, b, c, d, e, f, g, h, rfl⟩ := eight hl
  exact idx8 ⟨a, b, c, d, e, f, g, h⟩ W i hi
theorem SumS.onB {w W W2 : World} {gT g B : Nat} {src xs : List Value} (h : SumS w W gT g src xs) (hb : Below B W W2) (hB : g < B) (hT : gT < B) : SumS w W2 gT g src xs := by
  obtain ⟨ys, hy⟩ := h.res
  have hf := h.far
  exact ⟨h.src_.below hb (by omega), ⟨ys, hy.below hb (by omega)⟩, h.end_.below hb hB, h.far, h.tab.below hb hT, h.below.trans (hb.mono (by omega))⟩
theorem SumS.cellB {w W : World} {gT g g5 : Nat} {src xs : List Value} (h : SumS w W gT g src xs) (hg : g < g5) (i : Nat) (v : Value) (hT : gT < g5 := by omega) : SumS w (W.setCell ⟨g5, i, none⟩ v) gT g src xs :=
  h.onB ((Below.refl _ _).setCell (by simp) _) hg hT
theorem bv_u8 (n k : Nat) : Value.int .u8 ((n : Int) / (k : Int) % 256) = Wire.bv (u8 (n / k)) := by unfold Wire.bv u8; congr 1
theorem bv_u8' (n : Nat) : Value.int .u8 ((n : Int) % 256) = Wire.bv (u8 n) := by unfold Wire.bv u8; congr 1
theorem out_put {W : World} {g5 j : Nat} {fs : List Nat} (hl : fs.length = 8) (hj : j < 8) (h : Arr W g5 32 ((outAt fs j).map Wire.bv)) :
    Arr ((((W.setCell ⟨g5, 4 * j, none⟩ (.int .u8 (((fs.getD j 0 : Nat) : Int) / 16777216 % 256))).setCell ⟨g5, 4 * j + 1, none⟩ (.int .u8 (((fs.getD j 0 : Nat) : Int) / 65536 % 256))).setCell ⟨g5, 4 * j + 2, none⟩ (.int .u8 (((fs.getD j 0 : Nat) : Int) / 256 % 256))).setCell
      ⟨g5, 4 * j + 3, none⟩ (.int .u8 (((fs.getD j 0 : Nat) : Int) % 256))) g5 32 ((outAt fs (j + 1)).map Wire.bv) := by
  rw [← outAt_set fs j hl hj, show (16777216 : Int) = ((16777216 : Nat) : Int) from rfl, show (65536 : Int) = ((65536 : Nat) : Int) from rfl]
  rw [show (((fs.getD j 0 : Nat) : Int) / 256 % 256) = (((fs.getD j 0 : Nat) : Int) / ((256 : Nat) : Int) % 256) from rfl, bv_u8, bv_u8, bv_u8, bv_u8']
  simp only [List.map_set]
  exact (((h.set (by omega) _).set (by omega) _).set (by omega) _).set (by omega) _
theorem SumS.thereR {w W : World} {gT g : Nat} {src xs : List Value} (h : SumS w W gT g src xs) {bs : List UInt8} (hl : bs.length = 32) : W.there (w.heap.size + 1) 0 (bs.map Wire.bv).toArray.size := by
  obtain ⟨ys, hy⟩ := h.res
  have e : (bs.map Wire.bv).toArray.size = 32 := by rw [List.size_toArray, List.length_map]; exact hl
  rw [e]; exact hy.there
theorem SumS.fin {w W : World} {gT g : Nat} {src xs : List Value} (h : SumS w W gT g src xs) {bs : List UInt8} (hl : bs.length = 32) :
    (loadVar 84 ⟨w.heap.size + 1, 0, none⟩).run Tryd.prog (W.setCells (w.heap.size + 1) 0 (bs.map Wire.bv)) = .ok (.agg (bs.map Wire.bv).toArray) (W.setCells (w.heap.size + 1) 0 (bs.map Wire.bv)) ∧ Below w.heap.size w (W.setCells (w.heap.size + 1) 0 (bs.map Wire.bv)) := by
  obtain ⟨ys, hy⟩ := h.res
  exact arr_end (w := w) (wr := W) (g := w.heap.size + 1) (xs := bs.map Wire.bv) 84 h.below (by omega) (by rw [List.length_map, hl]; exact hy.there) und32 rfl (i32 hl)
structure Sum0 (w W : World) (gT : Nat) (src : List Value) : Prop where
  src_ : Arr W w.heap.size 73 src
  res : ∃ ys, Arr W (w.heap.size + 1) 32 ys
  tab : Table gT W
  below : Below w.heap.size w W
theorem Sum0.on {w W W2 : World} {gT : Nat} {src : List Value} (h : Sum0 w W gT src) (hb : Below W.heap.size W W2) : Sum0 w W2 gT src := by
  obtain ⟨ys, hy⟩ := h.res
  exact ⟨h.src_.below hb (h.src_.size (by omega)), ⟨ys, hy.below hb (hy.size (by omega))⟩, h.tab.below hb h.tab.size, h.below.trans (hb.mono h.below.size)⟩
theorem sum_start {w : World} {gT : Nat} {xs : List Value} (hl : xs.length = 73) (ht : Table gT w) (t1 t2 : TypeId) : Sum0 w ((w.alloc (.cells xs.toArray t1)).alloc (.cells z32 t2)) gT xs := by
  have hbel : Below w.heap.size w ((w.alloc (.cells xs.toArray t1)).alloc (.cells z32 t2)) := ((Below.refl _ _).alloc (Nat.le_refl _) _).alloc (by simp) _
  refine ⟨?_, ⟨z32.toList, ?_⟩, ht.below hbel ht.size, hbel⟩
  · have h := (arr_new w xs.toArray t1).alloc (by simp) (.cells z32 t2)
    simpa [hl] using h
  · have h := arr_new (w.alloc (.cells xs.toArray t1)) z32 t2
    rw [z32_size] at h
    simpa using h
theorem Sum0.mk_end {w W : World} {gT : Nat} {src xs : List Value} (h : Sum0 w W gT src) (hl : xs.length = 73) (t : TypeId) : SumS w ((W.alloc (.cells zS t)).setCells W.heap.size 0 xs.toArray.toList) gT W.heap.size src xs := by
  have hb := (fresh_end (w := W) xs hl t).2
  have hn := arr_new W zS t
  rw [zS_size] at hn
  obtain ⟨ys, hy⟩ := h.res
  have h2 := h.on hb
  exact ⟨h2.src_, h2.res, hn.over hl, hy.size (by omega), h2.tab, h2.below⟩

set_option maxRecDepth 100000 in
set_option maxHeartbeats 1000000 in
theorem streamSum_any (m : List UInt8) (w : World) (ht : Table 3 w) :
    Calls Tryd.prog 62 #[.agg (strm m).toArray] w (GivesA ((sha m).map Wire.bv) w) := by
  have S0 := sum_start (xs := strm m) (strm_length m) ht 100 84
  have hz := zeroS
  have hz2 := zero32
  have hadd : ∀ W, Table 3 W → Calls Tryd.prog 74 #[.agg (strm m).toArray, .string ⟨#[128]⟩] W (GivesA (strm (m ++ [128])) W) := fun W hW => addM_any m [128] W (by simp) hW
  have HA := Lib.hid hadd
  have hg := ht.size
  clear ht hadd
  have hfull := full_length (m ++ [128]) [] (by have := Nat.mod_lt (m ++ [128]).length (show 0 < 64 by omega); simp; omega)
  obtain ⟨L, hL⟩ : ∃ L, L = low64 (m ++ [128]).length := ⟨_, rfl⟩
  obtain ⟨r, hr⟩ : ∃ r, r = (m ++ [128]).length % 64 := ⟨_, rfl⟩
  have hrem : (L : Int) % 64 = (r : Int) := by rw [hL, hr, ← low64_mod]; omega
  have hL0 : (0 : Int) ≤ (L : Int) := by omega
  have HLL : Hid (∀ (W : World) (a : Addr), (W.cell? a = some (.int .u64 ((low64 (m ++ [128]).length : Nat) : Int))) ↔ W.cell? a = some (.int .u64 (L : Int))) := Lib.hid (fun W a => by rw [hL])
  by_cases hc : 56 < (m ++ [128]).length % 64
  case' pos =>
    have hr56 : (56 : Int) < (r : Int) := by omega
    have hfin := fin_far m hc
    have hcl := comp_length (blocks (m ++ [128]) ((m ++ [128]).length / 64)) (full (m ++ [128]) []) (blocks_length _ _)
    have hlt := comp_lt (blocks (m ++ [128]) ((m ++ [128]).length / 64)) (full (m ++ [128]) [])
    have hnext : ∀ W, Table 3 W → Calls Tryd.prog 72 #[.agg (strm (m ++ [128])).toArray] W (GivesA (sval (comp (blocks (m ++ [128]) ((m ++ [128]).length / 64)) (full (m ++ [128]) [])) (zeros 64) (low64 (m ++ [128]).length)) W) := fun W hW => next_any _ _ _ _ (blocks_length _ _) (blocks_lt _ _) hfull hW
    have hr64 := zeros_length 64
    generalize comp (blocks (m ++ [128]) ((m ++ [128]).length / 64)) (full (m ++ [128]) []) = hs at hfin hcl hlt hnext
    generalize zeros 64 = rest at hfin hnext hr64
    generalize low64 (m ++ [128]).length = n at hnext
    have HN := Lib.hid hnext
    have HF := Lib.hid hfin
    have HCL := Lib.hid hcl
    have HLT := Lib.hid hlt
    have HR := Lib.hid hr64
    clear hnext hfin hcl hlt hr64 hL hr hc
    go_enter Tryd.func62, Tryd.ntmps62
    go_wp2_with (first
      | ((with_reducible refine at_slot 8 rfl ?_); refine wpList_load_mid rfl 100 (.tmp 1) rfl w.heap.size 0 rfl (strm m) _ S0.src_.range Tryd.underlying100 rfl (infoS_of (strm_length _)) ?_)
      | (go_at_call 74; (with_reducible refine (HA.out _ S0.tab).mono ?_); rintro e w1 ⟨rfl, hb1⟩; have S1 := S0.on hb1; clear hb1 S0)
      | ((with_reducible refine at_store 100 (.tmp 3) (.tmp 9) rfl ?_); refine wpList_store_mid rfl 100 (.tmp 3) (.tmp 9) rfl w1.heap.size 0 (strm (m ++ [128])).toArray rfl rfl (fresh73 w1 _ (strm_length _) _) (infoS_ofA (strm_length _)) (sval_one _ _ _) ?_; refine gen_world (Pq := fun W => SumS w W 3 w1.heap.size (strm m) (strm (m ++ [128]))) (G := fun W => wpList _ _ _ _ _ W) (S1.mk_end (strm_length _) _) ?_; intro w2 S2; clear S1; revert S2; generalize w1.heap.size = g; intro S2; obtain ⟨c0, c1⟩ := S2.lenAt (blocks_length _ _) hfull; replace c0 := (HLL.out _ _).1 c0)
      | ((with_reducible refine at_slot 14 rfl ?_); refine wpList_load_mid rfl 100 (.tmp 3) rfl g 0 rfl (strm (m ++ [128])) _ S2.end_.range Tryd.underlying100 rfl (infoS_of (strm_length _)) ?_)
      | (go_at_call 72; (with_reducible refine (HN.out _ S2.tab).mono ?_); rintro e w3 ⟨rfl, hb1⟩; have S3 := S2.on hb1; clear hb1 S2)
      | ((with_reducible refine at_store 100 (.tmp 3) (.tmp 15) rfl ?_); refine wpList_store_mid rfl 100 (.tmp 3) (.tmp 15) rfl g 0 (sval hs rest n).toArray rfl rfl (S3.thereE (sval_length HCL.out HR.out)) (infoS_ofA (sval_length HCL.out HR.out)) (sval_one _ _ _) ?_; refine gen_world (Pq := fun W => SumS w W 3 g (strm m) (sval hs rest n)) (G := fun W => wpList _ _ _ _ _ W) (S3.over (sval_length HCL.out HR.out) (by have := S3.far; omega)) ?_; intro w4 S4; clear S3))
  case' neg =>
    have hr56 : ¬ (56 : Int) < (r : Int) := by omega
    have hfin := fin_near m (by omega)
    have hcl := blocks_length (m ++ [128]) ((m ++ [128]).length / 64)
    have hlt := blocks_lt (m ++ [128]) ((m ++ [128]).length / 64)
    have hr64 := hfull
    have HE : Hid (strm (m ++ [128]) = sval (blocks (m ++ [128]) ((m ++ [128]).length / 64)) (full (m ++ [128]) []) (low64 (m ++ [128]).length)) := Lib.hid rfl
    have HFL := Lib.hid hfull
    generalize blocks (m ++ [128]) ((m ++ [128]).length / 64) = hs at hfin hcl hlt HE
    generalize full (m ++ [128]) [] = rest at hfin hr64 HE
    generalize low64 (m ++ [128]).length = n at HE
    have HF := Lib.hid hfin
    have HCL := Lib.hid hcl
    have HLT := Lib.hid hlt
    have HR := Lib.hid hr64
    clear hfin hcl hlt hr64 hL hr hc
    go_enter Tryd.func62, Tryd.ntmps62
    go_wp2_with (first
      | ((with_reducible refine at_slot 8 rfl ?_); refine wpList_load_mid rfl 100 (.tmp 1) rfl w.heap.size 0 rfl (strm m) _ S0.src_.range Tryd.underlying100 rfl (infoS_of (strm_length _)) ?_)
      | (go_at_call 74; (with_reducible refine (HA.out _ S0.tab).mono ?_); rintro e w1 ⟨rfl, hb1⟩; have S1 := S0.on hb1; clear hb1 S0)
      | ((with_reducible refine at_store 100 (.tmp 3) (.tmp 9) rfl ?_); refine wpList_store_mid rfl 100 (.tmp 3) (.tmp 9) rfl w1.heap.size 0 (strm (m ++ [128])).toArray rfl rfl (fresh73 w1 _ (strm_length _) _) (infoS_ofA (strm_length _)) (sval_one _ _ _) ?_; refine gen_world (Pq := fun W => SumS w W 3 w1.heap.size (strm m) (strm (m ++ [128]))) (G := fun W => wpList _ _ _ _ _ W) (S1.mk_end (strm_length _) _) ?_; intro w2 S2; clear S1; revert S2; generalize w1.heap.size = g; intro S2; obtain ⟨c0, c1⟩ := S2.lenAt (blocks_length _ _) hfull; replace c0 := (HLL.out _ _).1 c0))
    have S4 := S2
    rw [HE.out] at S4
    revert S4
    generalize w2 = w4
    intro S4
    clear S2
  all_goals
    clear hr56 hrem hL0 HLL c0 c1
    go_loopw [16] (fun iv wr => ∃ (i : Nat), i ≤ 8 ∧ iv = .int .i64 (i : Int) ∧ SumS w wr 3 g (strm m) (sval hs (endAt rest (lenBytes (8 * m.length)) i) n)) (fun iv _ => (8 - intOf iv).toNat)
    case atStart => exact ⟨0, by omega, rfl, by rw [endAt_zero _ _ HR.out rfl]; exact S4⟩
    case round =>
      obtain ⟨i, hi, rfl, hq⟩ := hrel
      clear S4
      by_cases hi8 : i < 8
      · obtain ⟨c0, c1⟩ := hq.srcLen
        obtain ⟨⟨u, c2⟩, c3⟩ := hq.byteAt (i := 63 - i) HCL.out (endAt_length _ _ _ HR.out rfl (by omega)) (by omega)
        have z0 : (0 : Int) ≤ (i : Int) := by omega
        have z1 : (i : Int) < 8 := by omega
        have e0 : (63 : Int) - (i : Int) = ((63 - i : Nat) : Int) := by omega
        obtain ⟨p, hp⟩ : ∃ p, p = 63 - i := ⟨_, rfl⟩
        rw [← hp] at e0 c2 c3
        have z2 : (0 : Int) ≤ (p : Int) := by omega
        have z3 : (p : Int) < 64 := by omega
        have HP := Lib.hid hp; clear hp
        go_wp2
        go_roundw
        case rel =>
          refine ⟨i + 1, by omega, by go_num, ?_⟩
          rw [← endAt_set rest (lenBytes (8 * m.length)) i HR.out rfl hi8, IntKind.wrap_u64, ← lb_at m.length i hi8, HP.out]
          exact hq.putByte HCL.out (endAt_length _ _ _ HR.out rfl (by omega)) (by omega) (by have := hq.far; omega) _
        case measure => simp [intOf]; omega
      · have hi9 : i = 8 := by omega
        have S5 : SumS w wr 3 g (strm m) (sval hs (rest.take 56 ++ lenBytes (8 * m.length)) n) := by rw [hi9, endAt_eight] at hq; exact hq
        have z8 : ¬ (i : Int) < 8 := by omega
        have hr9 : (rest.take 56 ++ lenBytes (8 * m.length)).length = 64 := by rw [List.length_append, List.length_take, HR.out]; rfl
        generalize rest.take 56 ++ lenBytes (8 * m.length) = rest2 at S5 hr9 HF
        have hcomp : ∀ W, Table 3 W → Calls Tryd.prog 75 #[.agg (hs.map wv).toArray, .agg (rest2.map Wire.bv).toArray] W (GivesA ((comp hs rest2).map wv) W) := fun W hW => compress_any hs rest2 W HCL.out HLT.out hr9 hW
        have hfl : (comp hs rest2).length = 8 := comp_length _ _ HCL.out
        have hsha : (comp hs rest2).flatMap wordBytes = sha m := by rw [HF.out]; rfl
        generalize comp hs rest2 = fs at hcomp hfl hsha
        have HC := Lib.hid hcomp
        have HFS := Lib.hid hfl
        have HSH := Lib.hid hsha
        have HR2 := Lib.hid hr9
        have S6 := S5.on (W2 := wr.alloc (.cells z32 84)) ((Below.refl _ _).alloc (Nat.le_refl _) _)
        have O6 := out_new wr 84 (fs := fs)
        have hgg := S5.end_.size (by omega)
        have hgb := S5.far
        clear hcomp hfl hsha hr9 hq hi9 hi8 hi S5
        go_wp2_with (first
          | ((with_reducible refine at_slot 32 rfl ?_); refine wpList_load_mid rfl 96 (.tmp 31) rfl g 0 rfl (hs.map wv) _ S6.words und8w rfl (i8 HCL.out) ?_)
          | ((with_reducible refine at_slot 34 rfl ?_); refine wpList_load_mid rfl 97 (.tmp 33) rfl g 8 rfl (rest2.map Wire.bv) _ (S6.bytes HCL.out) und64b rfl (ib rest2 HR2.out) ?_)
          | (go_at_call 75; (with_reducible refine (HC.out _ S6.tab).mono ?_); rintro e w6 ⟨rfl, hb1⟩; have S7 := S6.on hb1; have O7 := O6.below hb1 (O6.size (by omega)); clear hb1 S6 O6))
        revert hgg O7
        generalize wr.heap.size = g5
        intro hgg O7
        go_loopw [36] (fun iv wq => ∃ (j : Nat), j ≤ 8 ∧ iv = .int .i64 (j : Int) ∧ SumS w wq 3 g (strm m) (sval hs rest2 n) ∧ Arr wq g5 32 ((outAt fs j).map Wire.bv)) (fun iv _ => (8 - intOf iv).toNat)
        case atStart => exact ⟨0, by omega, rfl, S7, O7⟩
        case round =>
          obtain ⟨j, hj, rfl, hq, ho⟩ := hrel
          clear S7 O7
          by_cases hj8 : j < 8
          · have hidx : ∀ W, (Instr.index 96 (.agg (fs.map wv).toArray) (.int .i64 (j : Int))).run Tryd.prog W = .ok (.int .u32 ((fs.getD j 0 : Nat) : Int)) W := fun W => idx8L fs W HFS.out j hj8
            obtain ⟨⟨a0, c0⟩, d0⟩ := ho.some_ (i := 4 * j) (by omega)
            obtain ⟨⟨a1, c1⟩, d1⟩ := ho.some_ (i := 4 * j + 1) (by omega)
            obtain ⟨⟨a2, c2⟩, d2⟩ := ho.some_ (i := 4 * j + 2) (by omega)
            obtain ⟨⟨a3, c3⟩, d3⟩ := ho.some_ (i := 4 * j + 3) (by omega)
            have y0 : (0 : Int) ≤ (j : Int) := by omega
            have y1 : (j : Int) < 8 := by omega
            have hput := fun W (h : Arr W g5 32 ((outAt fs j).map Wire.bv)) => out_put HFS.out hj8 h
            generalize fs.getD j 0 = x at hidx hput
            have HPT := Lib.hid hput
            clear hput
            go_wp2
            go_roundw
            case rel => exact ⟨j + 1, by omega, by go_num, (((hq.cellB hgg _ _).cellB hgg _ _).cellB hgg _ _).cellB hgg _ _, HPT.out _ ho⟩
            case measure => simp [intOf]; omega
          · have hj9 : j = 8 := by omega
            have O9 : Arr wr g5 32 ((sha m).map Wire.bv) := by rw [hj9, outAt_all _ HFS.out, HSH.out] at ho; exact ho
            have z9 : ¬ (j : Int) < 8 := by omega
            have hsl : (sha m).length = 32 := by have := O9.len; simpa using this
            have hres := hq.fin hsl
            have hth := hq.thereR hsl
            have HRS := Lib.hid hres
            have HSL := Lib.hid hsl
            clear hj9 hj8 hj ho hq hsl hres
            go_wp2_with (first
              | ((with_reducible refine at_slot 67 rfl ?_); refine wpList_load_mid rfl 84 (.tmp 5) rfl g5 0 rfl ((sha m).map Wire.bv) _ O9.range und32 rfl (i32 HSL.out) ?_)
              | ((with_reducible refine at_store 84 (.tmp 2) (.tmp 67) rfl ?_); refine wpList_store_mid rfl 84 (.tmp 2) (.tmp 67) rfl (w.heap.size + 1) 0 ((sha m).map Wire.bv).toArray rfl rfl hth (i32A HSL.out) (bytes_all _) ?_))
            refine bodyPost_ret (v := .agg ((sha m).map Wire.bv).toArray) ?_ rfl ⟨rfl, HRS.out.2⟩
            simp [results, Tryd.results62, asAddr]
            rw [HRS.out.1]

end Hash
end Go.Proofs.YthpkeaafgabjiaaDoor

/- The hash of bytes: Sum, of the package. Condition: the table of round constants reads as the program lays it; the slice's cells read as the bytes. -/
namespace Go.Proofs.YthpkeaafgabjiaaDoor
open Go.RowKit
namespace Hash

theorem lies_on {w w' : World} {size n c : Nat} {A : Option Addr} {xs : List Value} (h : Wire.Lies w w.heap.size size A n c xs) (hb : Below w.heap.size w w') : Wire.Lies w' w'.heap.size size A n c xs := (h.below hb).more hb.size
/-- A result's block, the first new one, and the table. -/
structure Room (w W : World) (gT n : Nat) : Prop where
  res : ∃ ys, Arr W w.heap.size n ys
  tab : Table gT W
  below : Below w.heap.size w W
theorem Room.on {w W W2 : World} {gT n : Nat} (h : Room w W gT n) (hn : 0 < n) (hb : Below W.heap.size W W2) : Room w W2 gT n := by
  obtain ⟨ys, hy⟩ := h.res
  exact ⟨⟨ys, hy.below hb (hy.size hn)⟩, h.tab.below hb h.tab.size, h.below.trans (hb.mono h.below.size)⟩
theorem room_new {w : World} {gT n : Nat} (ht : Table gT w) (c : Array Value) (hc : c.size = n) (t : TypeId) : Room w (w.alloc (.cells c t)) gT n := by
  have hb : Below w.heap.size w (w.alloc (.cells c t)) := (Below.refl _ _).alloc (Nat.le_refl _) _
  have h := arr_new w c t
  rw [hc] at h
  exact ⟨⟨_, h⟩, ht.below hb ht.size, hb⟩
theorem Room.thereR {w W : World} {gT n : Nat} (h : Room w W gT n) {xs : List Value} (hl : xs.length = n) : W.there w.heap.size 0 xs.toArray.size := by
  obtain ⟨ys, hy⟩ := h.res
  rw [show xs.toArray.size = n by rw [List.size_toArray]; exact hl]; exact hy.there
theorem Room.fin {w W : World} {gT n : Nat} (h : Room w W gT n) {xs : List Value} (hl : xs.length = n) (ty : TypeId) {d : TypeDesc} (hu : Tryd.prog.underlying ty = some d) (hd : d.isRow = true) (hi : (Tryd.prog.info? ty).map (·.size) = some xs.length) :
    (loadVar ty ⟨w.heap.size, 0, none⟩).run Tryd.prog (W.setCells w.heap.size 0 xs) = .ok (.agg xs.toArray) (W.setCells w.heap.size 0 xs) ∧ Below w.heap.size w (W.setCells w.heap.size 0 xs) := by
  obtain ⟨ys, hy⟩ := h.res
  exact arr_end (w := w) (wr := W) (g := w.heap.size) (xs := xs) ty h.below (Nat.le_refl _) (by rw [hl]; exact hy.there) hu hd hi
theorem sha_length (l : List UInt8) : (sha l).length = 32 := by unfold sha; rw [flat4, blocks_length]
theorem shaV_length (l : List UInt8) : ((sha l).map Wire.bv).length = 32 := by rw [List.length_map, sha_length]

end Hash
end Go.Proofs.YthpkeaafgabjiaaDoor

