/- The bytes of a state's block, and Block, of the package cipher. Conditions: those that each theorem names. -/
import Derived.Test.YtdlcoajjhcbffaaDoorM5
namespace Go.Proofs.YtdlcoajjhcbffaaDoor
open Go.RowKit
namespace Cha

def zeros (k : Nat) : List UInt8 := List.replicate k 0
theorem zeros_length (k : Nat) : (zeros k).length = k := by simp [zeros]
/-- The bytes of words, of which the first i have been written. -/
def outAt (hs : List Nat) (i : Nat) : List UInt8 := (hs.take i).flatMap wordBytes ++ zeros (64 - 4 * i)
theorem outAt_length (hs : List Nat) (i : Nat) (hl : hs.length = 16) (hi : i ≤ 16) : (outAt hs i).length = 64 := by
  unfold outAt
  rw [List.length_append, flat4, List.length_take, zeros_length]; omega
theorem outAt_set (hs : List Nat) (i : Nat) (hl : hs.length = 16) (hi : i < 16) :
    ((((outAt hs i).set (4 * i) (u8 (hs.getD i 0))).set (4 * i + 1) (u8 (hs.getD i 0 / 256))).set (4 * i + 2) (u8 (hs.getD i 0 / 65536))).set (4 * i + 3) (u8 (hs.getD i 0 / 16777216)) = outAt hs (i + 1) := by
  unfold outAt
  have h1 : zeros (64 - 4 * i) = 0 :: 0 :: 0 :: 0 :: zeros (64 - 4 * (i + 1)) := by
    rw [show 64 - 4 * i = (64 - 4 * (i + 1)) + 1 + 1 + 1 + 1 by omega]; rfl
  have h2 : ((hs.take i).flatMap wordBytes).length = 4 * i := by rw [flat4, List.length_take]; omega
  have h3 : hs.take (i + 1) = hs.take i ++ [hs.getD i 0] := by
    rw [List.take_add_one, List.getD_eq_getElem?_getD, List.getElem?_eq_getElem (by omega)]; rfl
  rw [h1, h3, List.flatMap_append]
  generalize (hs.take i).flatMap wordBytes = P at h2
  generalize hs.getD i 0 = v
  rw [List.set_append_right _ _ (by omega), List.set_append_right _ _ (by omega), List.set_append_right _ _ (by omega), List.set_append_right _ _ (by omega), h2]
  simp [wordBytes, Nat.add_sub_cancel_left]
theorem outAt_all (hs : List Nat) (hl : hs.length = 16) : outAt hs 16 = hs.flatMap wordBytes := by
  unfold outAt
  rw [List.take_of_length_le (by omega)]
  simp [zeros]
def z64 : Array Value := ((zeros 64).map bv).toArray
theorem z64_size : z64.size = 64 := rfl
theorem zero64 (W : World) : (zeroValue 66).run Tryd.prog W = .ok (.agg z64) W := by kernel_rfl
theorem info64 : (Tryd.prog.info? 66).map (·.size) = some 64 := by kernel_rfl
theorem und64 : Tryd.prog.underlying 66 = some (.array 64 5) := by kernel_rfl
theorem i64A {xs : List UInt8} (h : xs.length = 64) : (Tryd.prog.info? 66).map (·.size) = some (xs.map bv).toArray.size := by rw [List.size_toArray, List.length_map, h]; exact info64
theorem i64 {xs : List UInt8} (h : xs.length = 64) : (Tryd.prog.info? 66).map (·.size) = some (xs.map bv).length := by rw [List.length_map, h]; exact info64

/-- The state in the first new block, the result's room in the second, the bytes so far in the third. -/
structure BlockS (w W : World) (l : List Nat) (bs : List UInt8) : Prop where
  src : Arr W w.heap.size 16 (l.map wv)
  res : ∃ ys, Arr W (w.heap.size + 1) 64 ys
  out : Arr W (w.heap.size + 1 + 1) 64 (bs.map bv)
  below : Below w.heap.size w W
theorem block_start {w : World} {l : List Nat} (hl : l.length = 16) (hs : List Nat) (t1 t2 t3 : TypeId) : BlockS w (((w.alloc (.cells (l.map wv).toArray t1)).alloc (.cells z64 t2)).alloc (.cells z64 t3)) l (outAt hs 0) := by
  have h1 := arr_new w (l.map wv).toArray t1
  have h2 := arr_new (w.alloc (.cells (l.map wv).toArray t1)) z64 t2
  have h3 := arr_new ((w.alloc (.cells (l.map wv).toArray t1)).alloc (.cells z64 t2)) z64 t3
  rw [z64_size] at h2 h3
  rw [show (l.map wv).toArray.size = 16 by simp [hl]] at h1
  refine ⟨?_, ⟨z64.toList, ?_⟩, ?_, (((Below.refl _ _).alloc (Nat.le_refl _) _).alloc (by simp) _).alloc (by simp; omega) _⟩
  · exact (h1.alloc (by simp) _).alloc (by simp; omega) _
  · have := h2.alloc (by simp) (.cells z64 t3)
    simpa using this
  · have e : (outAt hs 0).map bv = z64.toList := by simp [outAt, z64]
    rw [e]
    simpa using h3
theorem BlockS.on {w W W2 : World} {l : List Nat} {bs : List UInt8} (h : BlockS w W l bs) (hb : Below W.heap.size W W2) : BlockS w W2 l bs := by
  obtain ⟨ys, hy⟩ := h.res
  exact ⟨h.src.below hb (h.src.size (by omega)), ⟨ys, hy.below hb (hy.size (by omega))⟩, h.out.below hb (h.out.size (by omega)), h.below.trans (hb.mono h.below.size)⟩
theorem BlockS.put {w W : World} {l hs : List Nat} {j : Nat} (h : BlockS w W l (outAt hs j)) (hl : hs.length = 16) (hj : j < 16) :
    BlockS w ((((W.setCell ⟨w.heap.size + 1 + 1, 4 * j, none⟩ (.int .u8 (((hs.getD j 0 : Nat) : Int) % 256))).setCell ⟨w.heap.size + 1 + 1, 4 * j + 1, none⟩ (.int .u8 (((hs.getD j 0 : Nat) : Int) / 256 % 256))).setCell ⟨w.heap.size + 1 + 1, 4 * j + 2, none⟩ (.int .u8 (((hs.getD j 0 : Nat) : Int) / 65536 % 256))).setCell
      ⟨w.heap.size + 1 + 1, 4 * j + 3, none⟩ (.int .u8 (((hs.getD j 0 : Nat) : Int) / 16777216 % 256))) l (outAt hs (j + 1)) := by
  obtain ⟨ys, hy⟩ := h.res
  refine ⟨(((h.src.other (by omega) _).other (by omega) _).other (by omega) _).other (by omega) _, ⟨ys, (((hy.other (by omega) _).other (by omega) _).other (by omega) _).other (by omega) _⟩, ?_,
    (((h.below.setCell (by simp; omega) _).setCell (by simp; omega) _).setCell (by simp; omega) _).setCell (by simp; omega) _⟩
  rw [← outAt_set hs j hl hj, show (16777216 : Int) = ((16777216 : Nat) : Int) from rfl, show (65536 : Int) = ((65536 : Nat) : Int) from rfl]
  rw [show (((hs.getD j 0 : Nat) : Int) / 256 % 256) = (((hs.getD j 0 : Nat) : Int) / ((256 : Nat) : Int) % 256) from rfl, bv_u8, bv_u8, bv_u8, bv_u8']
  simp only [List.map_set]
  exact (((h.out.set (by omega) _).set (by omega) _).set (by omega) _).set (by omega) _
theorem idx16V (a0 a1 a2 a3 a4 a5 a6 a7 a8 a9 a10 a11 a12 a13 a14 a15 : Nat) (W : World) : ∀ i : Nat, i < 16 → (Instr.index 63 (.agg #[.int .u32 (a0 : Int), .int .u32 (a1 : Int), .int .u32 (a2 : Int), .int .u32 (a3 : Int), .int .u32 (a4 : Int), .int .u32 (a5 : Int), .int .u32 (a6 : Int), .int .u32 (a7 : Int), .int .u32 (a8 : Int), .int .u32 (a9 : Int), .int .u32 (a10 : Int), .int .u32 (a11 : Int), .int .u32 (a12 : Int), .int .u32 (a13 : Int), .int .u32 (a14 : Int), .int .u32 (a15 : Int)]) (.int .i64 (i : Int))).run Tryd.prog W = .ok (.int .u32 ((([a0, a1, a2, a3, a4, a5, a6, a7, a8, a9, a10, a11, a12, a13, a14, a15] : List Nat).getD i 0 : Nat) : Int)) W
  | 0, _ => by kernel_rfl
  | 1, _ => by kernel_rfl
  | 2, _ => by kernel_rfl
  | 3, _ => by kernel_rfl
  | 4, _ => by kernel_rfl
  | 5, _ => by kernel_rfl
  | 6, _ => by kernel_rfl
  | 7, _ => by kernel_rfl
  | 8, _ => by kernel_rfl
  | 9, _ => by kernel_rfl
  | 10, _ => by kernel_rfl
  | 11, _ => by kernel_rfl
  | 12, _ => by kernel_rfl
  | 13, _ => by kernel_rfl
  | 14, _ => by kernel_rfl
  | 15, _ => by kernel_rfl
  | n + 16, h => by omega
theorem sixteen {l : List Nat} (hl : l.length = 16) : ∃ a0 a1 a2 a3 a4 a5 a6 a7 a8 a9 a10 a11 a12 a13 a14 a15, l = [a0, a1, a2, a3, a4, a5, a6, a7, a8, a9, a10, a11, a12, a13, a14, a15] := by
  match l, hl with
  | [a0, a1, a2, a3, a4, a5, a6, a7, a8, a9, a10, a11, a12, a13, a14, a15], _ => exact ⟨_, _, _, _, _, _, _, _, _, _, _, _, _, _, _, _, rfl⟩
theorem idx16 (l : List Nat) (W : World) (hl : l.length = 16) (i : Nat) (hi : i < 16) : (Instr.index 63 (.agg (l.map wv).toArray) (.int .i64 (i : Int))).run Tryd.prog W = .ok (.int .u32 ((l.getD i 0 : Nat) : Int)) W := by
  obtain ⟨a0, a1, a2, a3, a4, a5, a6, a7, a8, a9, a10, a11, a12, a13, a14, a15, rfl⟩ := sixteen hl
  exact idx16V a0 a1 a2 a3 a4 a5 a6 a7 a8 a9 a10 a11 a12 a13 a14 a15 W i hi
theorem mixed_at {l : List Nat} (h : Ok l) {i : Nat} (hi : i < 16) : (mixed l).getD i 0 = add ((rounds l).getD i 0) (l.getD i 0) := by
  have h1 := h.rounds.at_ hi
  have h2 := h.at_ hi
  unfold mixed
  rw [List.getD_eq_getElem?_getD, List.getElem?_zipWith, h1.1, h2.1]
  rfl

set_option maxRecDepth 100000 in
set_option maxHeartbeats 1000000 in
theorem block_any (l : List Nat) (w : World) (h : Ok l) :
    Calls Tryd.prog 40 #[.agg (l.map wv).toArray] w (GivesA ((blk l).map bv) w) := by
  have S0 := block_start (w := w) h.len (mixed l) 63 66 66
  have hz := zero64
  obtain ⟨bs, hbs⟩ : ∃ bs, bs = blk l := ⟨_, rfl⟩
  rw [← hbs]
  obtain ⟨hs, hhs⟩ : ∃ hs, hs = mixed l := ⟨_, rfl⟩
  rw [← hhs] at S0
  have hml : hs.length = 16 := by rw [hhs]; exact mixed_length h
  have hall : outAt hs 16 = bs := by rw [outAt_all hs hml, hbs, hhs]; rfl
  have hmix : ∀ i, i < 16 → hs.getD i 0 = add ((rounds l).getD i 0) (l.getD i 0) := fun i hi => by rw [hhs]; exact mixed_at h hi
  have hrn : ∀ W, Calls Tryd.prog 59 #[.agg (l.map wv).toArray] W (GivesA ((rounds l).map wv) W) := fun W => rounds_any l W h
  have hrl := h.rounds.len
  generalize rounds l = rs at hmix hrn hrl
  have HM := Lib.hid hmix
  have HA := Lib.hid hall
  have HML := Lib.hid hml
  have HRN := Lib.hid hrn
  have HRL := Lib.hid hrl
  have HL := Lib.hid h.len
  clear h hbs hhs hml hall hmix hrn hrl
  go_enter Tryd.func40, Tryd.ntmps40
  go_wp2_with (first
    | ((with_reducible refine at_slot 6 rfl ?_); refine wpList_load_mid rfl 63 (.tmp 1) rfl w.heap.size 0 rfl (l.map wv) _ S0.src.range und16 rfl (i16 HL.out) ?_)
    | (go_at_call 59; (with_reducible refine (HRN.out _).mono ?_); rintro e w1 ⟨rfl, hb⟩; have S1 := S0.on hb; clear hb S0))
  go_loopw [8] (fun iv wr => ∃ (k : Nat), k ≤ 16 ∧ iv = .int .i64 (k : Int) ∧ BlockS w wr l (outAt hs k)) (fun iv _ => (16 - intOf iv).toNat)
  case atStart => exact ⟨0, by omega, rfl, S1⟩
  case round =>
    obtain ⟨k, hk, rfl, hq⟩ := hrel
    clear S1
    by_cases hlt : k < 16
    · have hidx : ∀ W, (Instr.index 63 (.agg (rs.map wv).toArray) (.int .i64 (k : Int))).run Tryd.prog W = .ok (.int .u32 ((rs.getD k 0 : Nat) : Int)) W := fun W => idx16 rs W HRL.out k hlt
      have hcell : wr.cell? ⟨w.heap.size, k, none⟩ = some (.int .u32 ((l.getD k 0 : Nat) : Int)) := (hq.src.at_ (i := k) (u := wv (l.getD k 0)) (by rw [List.getElem?_map, List.getD_eq_getElem?_getD, List.getElem?_eq_getElem (by rw [HL.out]; exact hlt)]; rfl)).1
      obtain ⟨⟨a0, c0⟩, d0⟩ := hq.out.some_ (i := 4 * k) (by omega)
      obtain ⟨⟨a1, c1⟩, d1⟩ := hq.out.some_ (i := 4 * k + 1) (by omega)
      obtain ⟨⟨a2, c2⟩, d2⟩ := hq.out.some_ (i := 4 * k + 2) (by omega)
      obtain ⟨⟨a3, c3⟩, d3⟩ := hq.out.some_ (i := 4 * k + 3) (by omega)
      have y0 : (0 : Int) ≤ (k : Int) := by omega
      have y1 : (k : Int) < 16 := by omega
      have hput := hq.put HML.out hlt
      rw [HM.out k hlt] at hput
      generalize rs.getD k 0 = x at hidx hput
      generalize l.getD k 0 = y at hcell hput
      have hsum := add_mod x y
      have hzl : add x y < 4294967296 := add_lt x y
      generalize add x y = z at hsum hput hzl
      rw [show (z : Int) / 16777216 % 256 = (z : Int) / 16777216 by omega] at hput
      have HP := Lib.hid hput
      clear hput hq
      go_wp2
      go_roundw
      case rel => exact ⟨k + 1, by omega, by go_num, HP.out⟩
      case measure => simp [intOf]; omega
    · have hk16 : k = 16 := by omega
      have z0 : ¬ (k : Int) < 16 := by omega
      rw [hk16, HA.out] at hq
      have hbl : bs.length = 64 := by have := hq.out.len; simpa using this
      obtain ⟨ys, hy⟩ := hq.res
      have hth : wr.there (w.heap.size + 1) 0 (bs.map bv).toArray.size := by
        rw [show (bs.map bv).toArray.size = 64 by rw [List.size_toArray, List.length_map]; exact hbl]; exact hy.there
      have hend := arr_end (w := w) (wr := wr) (g := w.heap.size + 1) (xs := bs.map bv) 66 hq.below (by omega) (by rw [List.length_map, hbl]; exact hy.there) und64 rfl (i64 hbl)
      have HE := Lib.hid hend
      have HBL := Lib.hid hbl
      have hrg := hq.out.range
      clear hend hbl hy hk16 hlt hk
      go_wp2_with (first
        | ((with_reducible refine at_slot 44 rfl ?_); refine wpList_load_mid rfl 66 (.tmp 3) rfl (w.heap.size + 1 + 1) 0 rfl (bs.map bv) _ hrg und64 rfl (i64 HBL.out) ?_)
        | ((with_reducible refine at_store 66 (.tmp 2) (.tmp 44) rfl ?_); refine wpList_store_mid rfl 66 (.tmp 2) (.tmp 44) rfl (w.heap.size + 1) 0 (bs.map bv).toArray rfl rfl hth (i64A HBL.out) (bytes_all _) ?_))
      refine bodyPost_ret (v := .agg (bs.map bv).toArray) ?_ rfl ⟨rfl, HE.out.2⟩
      simp [results, Tryd.results40, asAddr]
      rw [HE.out.1]

end Cha
end Go.Proofs.YtdlcoajjhcbffaaDoor
