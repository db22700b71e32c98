/- A stream after its block: next, of the package. Condition: the table of round constants reads as the program lays it. -/
import Derived.Test.YtoenkckoomfgeaaDoorHComp
namespace Go.Proofs.YtoenkckoomfgeaaDoor
open Go.RowKit
namespace Hash

theorem Arr.mid {w : World} {g n : Nat} {p cs q : List Value} (h : Arr w g n (p ++ (cs ++ q))) : w.rangeAt g p.length cs := fun j u hu => by
  refine h.cells _ u ?_
  rw [List.getElem?_append_right (by omega), Nat.add_sub_cancel_left, List.getElem?_append_left (List.getElem?_eq_some_iff.1 hu).1, hu]
theorem Arr.midThere {w : World} {g n : Nat} {p cs q : List Value} (h : Arr w g n (p ++ (cs ++ q))) : w.there g p.length cs.length := fun j hj => by
  have hl := h.len
  simp only [List.length_append] at hl
  exact ⟨by rw [h.mid j _ (List.getElem?_eq_getElem hj)]; rfl, h.free _ (by omega)⟩
/-- A part of an array that was stored over. -/
theorem Arr.patch {w : World} {g n : Nat} {p cs q vs : List Value} (h : Arr w g n (p ++ (cs ++ q))) (hv : vs.length = cs.length) : Arr (w.setCells g p.length vs) g n (p ++ (vs ++ q)) := by
  have hl := h.len
  simp only [List.length_append] at hl
  refine ⟨by simp only [List.length_append]; omega, fun j u hu => ?_, fun j hj => (World.frozen?_setCells _ _ _ _ _).trans (h.free j hj)⟩
  by_cases h1 : j < p.length
  · rw [World.cell?_setCells_out g vs p.length w _ (fun _ _ => .inl h1)]
    refine h.cells j u ?_
    rw [List.getElem?_append_left h1] at hu ⊢
    exact hu
  · by_cases h2 : j < p.length + vs.length
    · have := World.rangeAt_setCells_same w g p.length vs (by rw [hv]; exact h.midThere) (j - p.length) u (by
        rw [List.getElem?_append_right (by omega), List.getElem?_append_left (by omega)] at hu
        exact hu)
      rwa [show p.length + (j - p.length) = j by omega] at this
    · rw [World.cell?_setCells_out g vs p.length w _ (fun _ _ => .inr (by show p.length + vs.length ≤ j; omega))]
      refine h.cells j u ?_
      rw [List.getElem?_append_right (by omega), List.getElem?_append_right (by omega)] at hu ⊢
      rw [← hv]; exact hu

/-- A stream's cells: the words, the bytes of the last block, the length. -/
def sval (hs : List Nat) (rest : List UInt8) (n : Nat) : List Value := hs.map wv ++ (rest.map Wire.bv ++ [.int .u64 (n : Int)])
theorem sval_length {hs : List Nat} {rest : List UInt8} {n : Nat} (hl : hs.length = 8) (hr : rest.length = 64) : (sval hs rest n).length = 73 := by simp [sval, hl, hr]
theorem sval_one (hs : List Nat) (rest : List UInt8) (n : Nat) : ((sval hs rest n).toArray).all (·.oneCell') = true := all_oneCell_toArray (by
  intro v hv
  unfold sval at hv
  rcases List.mem_append.1 hv with hv | hv
  · obtain ⟨c, _, rfl⟩ := List.mem_map.1 hv; rfl
  · rcases List.mem_append.1 hv with hv | hv
    · obtain ⟨c, _, rfl⟩ := List.mem_map.1 hv; rfl
    · obtain rfl := List.mem_singleton.1 hv; rfl)
theorem infoS : (Tryd.prog.info? 67).map (·.size) = some 73 := by kernel_rfl
theorem infoS_of {xs : List Value} (h : xs.length = 73) : (Tryd.prog.info? 67).map (·.size) = some xs.length := by rw [h]; exact infoS
theorem infoS_ofA {xs : List Value} (h : xs.length = 73) : (Tryd.prog.info? 67).map (·.size) = some xs.toArray.size := by rw [List.size_toArray, h]; exact infoS

structure NextS (w wr : World) (gT : Nat) (xs : List Value) : Prop where
  val : Arr wr w.heap.size 73 xs
  res : ∃ ys, Arr wr (w.heap.size + 1) 73 ys
  tab : Table gT wr
  below : Below w.heap.size w wr

theorem next_start {w : World} {gT : Nat} {xs : List Value} (hl : xs.length = 73) (ht : Table gT w) (c : Array Value) (hc : c.size = 73) (t1 t2 : TypeId) :
    NextS w ((w.alloc (.cells xs.toArray t1)).alloc (.cells c t2)) gT xs := by
  have hbel : Below w.heap.size w ((w.alloc (.cells xs.toArray t1)).alloc (.cells c t2)) := ((Below.refl _ _).alloc (Nat.le_refl _) _).alloc (by simp) _
  refine ⟨?_, ⟨c.toList, ?_⟩, ht.below hbel ht.size, hbel⟩
  · have h := (arr_new w xs.toArray t1).alloc (by simp) (.cells c t2)
    simpa [hl] using h
  · have h := arr_new (w.alloc (.cells xs.toArray t1)) c t2
    rw [hc] at h
    simpa using h
theorem NextS.on {w W w1 : World} {gT : Nat} {xs : List Value} (h : NextS w W gT xs) (hb : Below W.heap.size W w1) : NextS w w1 gT xs := by
  obtain ⟨ys, hy⟩ := h.res
  exact ⟨h.val.below hb (h.val.size (by omega)), ⟨ys, hy.below hb (hy.size (by omega))⟩, h.tab.below hb h.tab.size, h.below.trans (hb.mono h.below.size)⟩
theorem NextS.patch {w W : World} {gT : Nat} {p cs q vs : List Value} (h : NextS w W gT (p ++ (cs ++ q))) (hv : vs.length = cs.length) (hg : gT < w.heap.size) : NextS w (W.setCells w.heap.size p.length vs) gT (p ++ (vs ++ q)) := by
  obtain ⟨ys, hy⟩ := h.res
  have hb := below_cells (B := w.heap.size) (Nat.le_refl _) vs p.length W
  exact ⟨h.val.patch hv, ⟨ys, hy.aside (by omega) _⟩, h.tab.below hb hg, h.below.trans hb⟩
theorem NextS.fin {w W : World} {gT : Nat} {xs : List Value} (h : NextS w W gT xs) :
    (loadVar 67 ⟨w.heap.size + 1, 0, none⟩).run Tryd.prog (W.setCells (w.heap.size + 1) 0 xs) = .ok (.agg xs.toArray) (W.setCells (w.heap.size + 1) 0 xs) ∧ Below w.heap.size w (W.setCells (w.heap.size + 1) 0 xs) := by
  obtain ⟨ys, hy⟩ := h.res
  exact arr_end (w := w) (wr := W) (g := w.heap.size + 1) (xs := xs) 67 h.below (by omega) (by rw [h.val.len]; exact hy.there) Tryd.underlying67 rfl (infoS_of h.val.len)
theorem NextS.thereRes {w W : World} {gT : Nat} {xs : List Value} (h : NextS w W gT xs) : W.there (w.heap.size + 1) 0 xs.toArray.size := by
  obtain ⟨ys, hy⟩ := h.res
  have e : xs.toArray.size = 73 := by rw [List.size_toArray]; exact h.val.len
  rw [e]; exact hy.there
/-- The empty stream's cells, each zero. -/
def zS : Array Value := (sval (List.replicate 8 0) (zeros 64) 0).toArray
theorem zS_size : zS.size = 73 := by rfl
theorem zeroS (W : World) : (zeroValue 67).run Tryd.prog W = .ok (.agg zS) W := by kernel_rfl
def zB : Array Value := ((zeros 64).map Wire.bv).toArray
theorem zB_size : zB.size = 64 := by rfl
theorem i8 {xs : List Nat} (h : xs.length = 8) : (Tryd.prog.info? 63).map (·.size) = some (xs.map wv).length := by rw [List.length_map, h]; exact info8w
theorem i8A {xs : List Nat} (h : xs.length = 8) : (Tryd.prog.info? 63).map (·.size) = some (xs.map wv).toArray.size := by rw [List.size_toArray]; exact i8 h
theorem i64A {xs : List UInt8} (h : xs.length = 64) : (Tryd.prog.info? 64).map (·.size) = some (xs.map Wire.bv).toArray.size := by rw [List.size_toArray, List.length_map, h]; exact info64b
theorem NextS.words {w W : World} {gT : Nat} {hs : List Nat} {rest : List UInt8} {n : Nat} (h : NextS w W gT (sval hs rest n)) : W.rangeAt w.heap.size 0 (hs.map wv) := Arr.mid (p := []) h.val
theorem NextS.bytes {w W : World} {gT : Nat} {hs : List Nat} {rest : List UInt8} {n : Nat} (h : NextS w W gT (sval hs rest n)) (hl : hs.length = 8) : W.rangeAt w.heap.size 8 (rest.map Wire.bv) := by
  have := Arr.mid (p := hs.map wv) h.val
  rwa [List.length_map, hl] at this
theorem NextS.setWords {w W : World} {gT : Nat} {hs ys : List Nat} {rest : List UInt8} {n : Nat} (h : NextS w W gT (sval hs rest n)) (hl : hs.length = 8) (hy : ys.length = 8) (hg : gT < w.heap.size) :
    NextS w (W.setCells w.heap.size 0 (ys.map wv).toArray.toList) gT (sval ys rest n) := NextS.patch (p := []) h (by simp [hl, hy]) hg
theorem NextS.setBytes {w W : World} {gT : Nat} {hs : List Nat} {rest ys : List UInt8} {n : Nat} (h : NextS w W gT (sval hs rest n)) (hl : hs.length = 8) (hr : rest.length = ys.length) (hg : gT < w.heap.size) :
    NextS w (W.setCells w.heap.size 8 (ys.map Wire.bv).toArray.toList) gT (sval hs ys n) := by
  have := NextS.patch (p := hs.map wv) (vs := ys.map Wire.bv) h (by simp [hr]) hg
  rwa [List.length_map, hl] at this
theorem NextS.thereW {w W : World} {gT : Nat} {hs ys : List Nat} {rest : List UInt8} {n : Nat} (h : NextS w W gT (sval hs rest n)) (hl : hs.length = 8) (hy : ys.length = 8) : W.there w.heap.size 0 (ys.map wv).toArray.size := by
  have := Arr.midThere (p := []) h.val
  have e : (ys.map wv).toArray.size = (hs.map wv).length := by simp [hl, hy]
  rw [e]; exact this
theorem NextS.thereB {w W : World} {gT : Nat} {hs : List Nat} {rest ys : List UInt8} {n : Nat} (h : NextS w W gT (sval hs rest n)) (hl : hs.length = 8) (hr : rest.length = ys.length) : W.there w.heap.size 8 (ys.map Wire.bv).toArray.size := by
  have := Arr.midThere (p := hs.map wv) h.val
  rw [List.length_map, hl] at this
  have e : (ys.map Wire.bv).toArray.size = (rest.map Wire.bv).length := by simp [hr]
  rw [e]; exact this

set_option maxRecDepth 100000 in
set_option maxHeartbeats 1000000 in
theorem next_any (hs : List Nat) (rest : List UInt8) (n : Nat) (w : World) (hl : hs.length = 8) (hh : ∀ x ∈ hs, x < 4294967296) (hr : rest.length = 64) (ht : Table 1 w) :
    Calls Tryd.prog 43 #[.agg (sval hs rest n).toArray] w (GivesA (sval (comp hs rest) (zeros 64) n) w) := by
  have hg := ht.size
  have hcl : (comp hs rest).length = 8 := by rw [after_all]; simp [hl, St.list]
  have S0 := next_start (xs := sval hs rest n) (sval_length hl hr) ht zS zS_size 67 67
  have hz := zeroS
  have hcomp : ∀ W, Table 1 W → Calls Tryd.prog 44 #[.agg (hs.map wv).toArray, .agg (rest.map Wire.bv).toArray] W (GivesA ((comp hs rest).map wv) W) := fun W hW => compress_any hs rest W hl hh hr hW
  have HC := Lib.hid hcomp
  have HL := Lib.hid hl
  have HR := Lib.hid hr
  have HCL := Lib.hid hcl
  have HZ := Lib.hid (hr.trans (show (zeros 64).length = 64 from rfl).symm)
  have HSL := Lib.hid (sval_length (n := n) hcl (show (zeros 64).length = 64 from rfl))
  clear hl hh hr hcl ht hcomp
  go_enter Tryd.func43, Tryd.ntmps43
  go_wp2_with (first
    | ((with_reducible refine at_slot 4 rfl ?_); refine wpList_load_mid rfl 63 (.tmp 3) rfl w.heap.size 0 rfl (hs.map wv) _ S0.words und8w rfl (i8 HL.out) ?_)
    | ((with_reducible refine at_slot 6 rfl ?_); refine wpList_load_mid rfl 64 (.tmp 5) rfl w.heap.size 8 rfl (rest.map Wire.bv) _ (S0.bytes HL.out) und64b rfl (ib rest HR.out) ?_)
    | (go_at_call 44; (with_reducible refine (HC.out _ S0.tab).mono ?_); rintro e w1 ⟨rfl, hb1⟩; have S1 := S0.on hb1; clear hb1 S0)
    | ((with_reducible refine at_store 63 (.tmp 8) (.tmp 7) rfl ?_); refine wpList_store_mid rfl 63 (.tmp 8) (.tmp 7) rfl w.heap.size 0 ((comp hs rest).map wv).toArray rfl rfl (S1.thereW HL.out HCL.out) (i8A HCL.out) (words_one _) ?_; refine gen_world (Pq := fun W => NextS w W 1 (sval (comp hs rest) rest n)) (G := fun W => wpList _ _ _ _ _ W) (S1.setWords HL.out HCL.out hg) ?_; intro w2 S2; clear S1)
    | ((with_reducible refine at_store 64 (.tmp 10) (.tmp 9) rfl ?_); refine wpList_store_mid rfl 64 (.tmp 10) (.tmp 9) rfl w.heap.size 8 ((zeros 64).map Wire.bv).toArray rfl rfl (S2.thereB HCL.out HZ.out) (i64A rfl) (bytes_all _) ?_; refine gen_world (Pq := fun W => NextS w W 1 (sval (comp hs rest) (zeros 64) n)) (G := fun W => wpList _ _ _ _ _ W) (S2.setBytes HCL.out HZ.out hg) ?_; intro w3 S3; clear S2)
    | ((with_reducible refine at_slot 11 rfl ?_); refine wpList_load_mid rfl 67 (.tmp 1) rfl w.heap.size 0 rfl (sval (comp hs rest) (zeros 64) n) _ S3.val.range Tryd.underlying67 rfl (infoS_of HSL.out) ?_)
    | ((with_reducible refine at_store 67 (.tmp 2) (.tmp 11) rfl ?_); refine wpList_store_mid rfl 67 (.tmp 2) (.tmp 11) rfl (w.heap.size + 1) 0 (sval (comp hs rest) (zeros 64) n).toArray rfl rfl S3.thereRes (infoS_ofA HSL.out) (sval_one _ _ _) ?_))
  refine bodyPost_ret (v := .agg (sval (comp hs rest) (zeros 64) n).toArray) ?_ rfl ⟨rfl, S3.fin.2⟩
  simp [results, Tryd.results43, asAddr, Act.put]
  rw [S3.fin.1]

end Hash
end Go.Proofs.YtoenkckoomfgeaaDoor
