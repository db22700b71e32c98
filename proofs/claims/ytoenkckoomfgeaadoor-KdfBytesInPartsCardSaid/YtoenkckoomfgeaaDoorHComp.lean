/- What a block does to the hash value: compress, of the package. Condition: the table of round constants reads as the program lays it. -/
import Derived.Test.YtoenkckoomfgeaaDoorHExp
namespace Go.Proofs.YtoenkckoomfgeaaDoor
open Go.RowKit
namespace Hash

/-- The package's table of constants lies where the program has it. -/
def Table (g : Nat) (w : World) : Prop := ∀ j, j < 64 → w.cell? ⟨g, j, none⟩ = some (wv (ks.getD j 0))
theorem Table.below {g : Nat} {w w' : World} {B : Nat} (h : Table g w) (hb : Below B w w') (hg : g < B) : Table g w' := fun j hj => (hb.cell (p := ⟨g, j, none⟩) hg).trans (h j hj)
theorem Table.drew {g : Nat} {w : World} (h : Table g w) (k : Nat) : Table g (w.drewN k) := h
theorem Table.size {g : Nat} {w : World} (h : Table g w) : g < w.heap.size := World.block_lt_of_cell? w _ (h 0 (by omega))

theorem ks_lt : ∀ j, ks.getD j 0 < 4294967296 := by
  intro j
  by_cases h : j < 64
  · have : ∀ i : Fin 64, ks.getD i.val 0 < 4294967296 := by decide +kernel
    exact this ⟨j, h⟩
  · rw [List.getD_eq_getElem?_getD, List.getElem?_eq_none (by have : ks.length = 64 := rfl; omega)]
    decide

/-- Each word fits. -/
structure Fits (s : St) : Prop where
  a : s.a < 4294967296
  b : s.b < 4294967296
  c : s.c < 4294967296
  d : s.d < 4294967296
  e : s.e < 4294967296
  f : s.f < 4294967296
  g : s.g < 4294967296
  h : s.h < 4294967296
theorem rnd_fits {s : St} (h : Fits s) (kw : Nat × Nat) : Fits (rnd s kw) := ⟨add_lt _ _, h.a, h.b, h.c, add_lt _ _, h.e, h.f, h.g⟩
/-- The words of the rounds so far. -/
def after (hs : List Nat) (b : List UInt8) (t : Nat) : St := ((List.zip ks (ws b)).take t).foldl rnd (St.of hs)
theorem ws_length (b : List UInt8) : (ws b).length = 64 := by simp [ws, sch_length]
theorem ws_lt (b : List UInt8) : ∀ x ∈ ws b, x < 4294967296 := fun x hx => sch_lt b 48 x (by simpa [ws] using hx)
theorem after_succ (hs : List Nat) (b : List UInt8) {t : Nat} (ht : t < 64) : after hs b (t + 1) = rnd (after hs b t) (ks.getD t 0, (ws b).getD t 0) := by
  have h1 : t < ks.length := ht
  have h2 : t < (ws b).length := by rw [ws_length]; exact ht
  unfold after
  rw [List.take_add_one, List.foldl_append]
  have : (List.zip ks (ws b))[t]? = some (ks.getD t 0, (ws b).getD t 0) := by
    rw [List.getElem?_zip_eq_some, List.getD_eq_getElem?_getD, List.getD_eq_getElem?_getD, List.getElem?_eq_getElem h1, List.getElem?_eq_getElem h2]
    exact ⟨rfl, rfl⟩
  rw [this]; rfl
theorem after_all (hs : List Nat) (b : List UInt8) : comp hs b = List.zipWith add hs (after hs b 64).list := by
  unfold comp after
  rw [List.take_of_length_le (by rw [List.length_zip, ws_length]; exact Nat.min_le_right _ _)]
theorem after_fits {hs : List Nat} (b : List UInt8) (hh : ∀ x ∈ hs, x < 4294967296) : ∀ t, Fits (after hs b t) := by
  have h0 : ∀ l : List (Nat × Nat), ∀ s, Fits s → Fits (l.foldl rnd s) := by
    intro l
    induction l with
    | nil => intro s h; exact h
    | cons x l ih => intro s h; exact ih _ (rnd_fits h x)
  have hg : ∀ j, hs.getD j 0 < 4294967296 := by
    intro j
    rw [List.getD_eq_getElem?_getD]
    cases hx : hs[j]? with
    | none => decide
    | some x => exact hh x (List.mem_of_getElem? hx)
  intro t
  exact h0 _ _ ⟨hg 0, hg 1, hg 2, hg 3, hg 4, hg 5, hg 6, hg 7⟩

structure CompW (w wr : World) (gT g : Nat) (hs : List Nat) (b : List UInt8) : Prop where
  wds : Arr wr w.heap.size 8 (hs.map wv)
  res : Arr wr (w.heap.size + 1 + 1) 8 (List.replicate 8 (wv 0))
  sch : Arr wr g 64 ((ws b).map wv)
  tab : Table gT wr
  below : Below w.heap.size w wr
  far : w.heap.size + 1 + 1 < g
structure CompS (w wr : World) (gT : Nat) (hs : List Nat) (b : List UInt8) : Prop where
  wds : Arr wr w.heap.size 8 (hs.map wv)
  blk : Arr wr (w.heap.size + 1) 64 (b.map Wire.bv)
  res : Arr wr (w.heap.size + 1 + 1) 8 (List.replicate 8 (wv 0))
  tab : Table gT wr
  below : Below w.heap.size w wr

theorem comp_start {w : World} {gT : Nat} {hs : List Nat} {b : List UInt8} (hl : hs.length = 8) (hb : b.length = 64) (ht : Table gT w) (c : Array Value) (hc : c.toList = List.replicate 8 (wv 0)) (t1 t2 t3 : TypeId) :
    CompS w (((w.alloc (.cells (hs.map wv).toArray t1)).alloc (.cells (b.map Wire.bv).toArray t2)).alloc (.cells c t3)) gT hs b := by
  have s2 : c.size = 8 := by rw [← Array.length_toList, hc]; rfl
  have hbel : Below w.heap.size w (((w.alloc (.cells (hs.map wv).toArray t1)).alloc (.cells (b.map Wire.bv).toArray t2)).alloc (.cells c t3)) := (((Below.refl _ _).alloc (Nat.le_refl _) _).alloc (by simp) _).alloc (by simp; omega) _
  refine ⟨?_, ?_, ?_, ht.below hbel ht.size, hbel⟩
  · have h := ((arr_new w (hs.map wv).toArray t1).alloc (by simp) (.cells (b.map Wire.bv).toArray t2)).alloc (by simp; omega) (.cells c t3)
    simpa [hl] using h
  · have h := (arr_new (w.alloc (.cells (hs.map wv).toArray t1)) (b.map Wire.bv).toArray t2).alloc (by simp) (.cells c t3)
    simpa [hb] using h
  · have h := arr_new ((w.alloc (.cells (hs.map wv).toArray t1)).alloc (.cells (b.map Wire.bv).toArray t2)) c t3
    rw [s2, hc] at h
    simpa using h
theorem CompS.on {w W w1 : World} {gT : Nat} {hs : List Nat} {b : List UInt8} (h : CompS w W gT hs b) (hb : Below W.heap.size W w1) : CompS w w1 gT hs b :=
  ⟨h.wds.below hb (h.wds.size (by omega)), h.blk.below hb (h.blk.size (by omega)), h.res.below hb (h.res.size (by omega)), h.tab.below hb h.tab.size, h.below.trans (hb.mono h.below.size)⟩
theorem CompS.sched {w w1 : World} {gT : Nat} {hs : List Nat} {b : List UInt8} (h : CompS w w1 gT hs b) (c : Array Value) (hc : c.size = 64) (t : TypeId) :
    CompW w ((w1.alloc (.cells c t)).setCells w1.heap.size 0 ((ws b).map wv)) gT w1.heap.size hs b := by
  have hlt := h.res.size (by omega)
  have hba : Below w1.heap.size w1 (w1.alloc (.cells c t)) := (Below.refl _ _).alloc (Nat.le_refl _) _
  have hbb : Below w1.heap.size w1 ((w1.alloc (.cells c t)).setCells w1.heap.size 0 ((ws b).map wv)) := hba.trans (below_cells (Nat.le_refl _) _ _ _)
  have hn := arr_new w1 c t
  rw [hc] at hn
  exact ⟨h.wds.below hbb (by omega), h.res.below hbb hlt, hn.over (by rw [List.length_map, ws_length]), h.tab.below hbb h.tab.size, h.below.trans (hbb.mono h.below.size), hlt⟩
theorem fresh64 (w1 : World) (c : Array Value) (t : TypeId) (b : List UInt8) (hc : c.size = 64) : (w1.alloc (.cells c t)).there w1.heap.size 0 ((ws b).map wv).toArray.size := by
  have h := (arr_new w1 c t).there
  rw [hc] at h
  rw [show ((ws b).map wv).toArray.size = 64 by simp [ws, sch_length]]
  exact h
theorem CompW.drewN {w wr : World} {gT g : Nat} {hs : List Nat} {b : List UInt8} (h : CompW w wr gT g hs b) (k : Nat) : CompW w (wr.drewN k) gT g hs b :=
  ⟨h.wds.drew k, h.res.drew k, h.sch.drew k, h.tab.drew k, ⟨h.below.os, h.below.tape, h.below.output, h.below.size, h.below.block⟩, h.far⟩

theorem info64w : (Tryd.prog.info? 74).map (·.size) = some 64 := by kernel_rfl
theorem info8w : (Tryd.prog.info? 63).map (·.size) = some 8 := by kernel_rfl
theorem info64b : (Tryd.prog.info? 64).map (·.size) = some 64 := by kernel_rfl
theorem und64w : Tryd.prog.underlying 74 = some (.array 64 62) := by kernel_rfl
theorem und8w : Tryd.prog.underlying 63 = some (.array 8 62) := by kernel_rfl
theorem und64b : Tryd.prog.underlying 64 = some (.array 64 5) := by kernel_rfl
theorem ib (b : List UInt8) (hb : b.length = 64) : (Tryd.prog.info? 64).map (·.size) = some (b.map Wire.bv).length := by rw [List.length_map, hb]; exact info64b
theorem iw (b : List UInt8) : (Tryd.prog.info? 74).map (·.size) = some ((ws b).map wv).toArray.size := by rw [show ((ws b).map wv).toArray.size = 64 by simp [ws, sch_length]]; exact info64w
theorem eight {hs : List Nat} (hl : hs.length = 8) : ∃ a b c d e f g h, hs = [a, b, c, d, e, f, g, h] := by
  match hs, hl with
  | [a, b, c, d, e, f, g, h], _ => exact ⟨a, b, c, d, e, f, g, h, rfl⟩

theorem gen_world {W' : World} {Pq G : World → Prop} (h : Pq W') (k : ∀ W, Pq W → G W) : G W' := k _ h
theorem CompW.word {w wr : World} {gT g : Nat} {hs : List Nat} {b : List UInt8} (h : CompW w wr gT g hs b) (hl : hs.length = 8) (i : Nat) (hi : i < 8) {x : Nat} (hx : x = hs.getD i 0) : wr.cell? ⟨w.heap.size, i, none⟩ = some (.int .u32 (x : Int)) := by
  subst hx
  refine (h.wds.at_ (i := i) (u := wv (hs.getD i 0)) ?_).1
  rw [List.getElem?_map, List.getElem?_eq_getElem (by omega), List.getD_eq_getElem?_getD, List.getElem?_eq_getElem (by omega)]
  rfl

theorem add_mod (a b : Nat) : ((a : Int) + (b : Int)) % 4294967296 = ((add a b : Nat) : Int) := by unfold add; omega
theorem rotr_call (x n : Nat) (hx : x < 4294967296) (h1 : 1 ≤ n) (h2 : n ≤ 31) (W : World) :
    Calls Tryd.prog 47 #[.int .u32 (x : Int), .int .i64 (n : Int)] W fun e w' => e = .returned (.int .u32 (rotr x n : Int)) ∧ w' = W :=
  (rotr_any x n W hx h1 h2).mono fun _ _ ⟨h1, h2⟩ => ⟨h1, h2.symm⟩
theorem rnd_steps {s : St} (hs : Fits s) (k w : Nat) :
    ∃ p6 p11 p25 p2 p13 p22 s1 s2 q1 n1 m1 n2 s3 q2 q3 x s4 s5 o1 o2 o3 s6 s7 y e' a' : Nat,
      (∀ W, Calls Tryd.prog 47 #[.int .u32 (s.e : Int), .int .i64 6] W fun e w' => e = .returned (.int .u32 (p6 : Int)) ∧ w' = W) ∧
      (∀ W, Calls Tryd.prog 47 #[.int .u32 (s.e : Int), .int .i64 11] W fun e w' => e = .returned (.int .u32 (p11 : Int)) ∧ w' = W) ∧
      (∀ W, Calls Tryd.prog 47 #[.int .u32 (s.e : Int), .int .i64 25] W fun e w' => e = .returned (.int .u32 (p25 : Int)) ∧ w' = W) ∧
      (∀ W, Calls Tryd.prog 47 #[.int .u32 (s.a : Int), .int .i64 2] W fun e w' => e = .returned (.int .u32 (p2 : Int)) ∧ w' = W) ∧
      (∀ W, Calls Tryd.prog 47 #[.int .u32 (s.a : Int), .int .i64 13] W fun e w' => e = .returned (.int .u32 (p13 : Int)) ∧ w' = W) ∧
      (∀ W, Calls Tryd.prog 47 #[.int .u32 (s.a : Int), .int .i64 22] W fun e w' => e = .returned (.int .u32 (p22 : Int)) ∧ w' = W) ∧
      bits .xor .u32 (p6 : Int) (p11 : Int) = (s1 : Int) ∧ bits .xor .u32 (s1 : Int) (p25 : Int) = (s2 : Int) ∧ IntKind.u32.wrap ((s.h : Int) + (s2 : Int)) = (q1 : Int) ∧
      bits .and .u32 (s.e : Int) (s.f : Int) = (n1 : Int) ∧ bits .xor .u32 (if IntKind.u32.signed = true then -1 else IntKind.u32.max) (s.e : Int) = (m1 : Int) ∧ bits .and .u32 (m1 : Int) (s.g : Int) = (n2 : Int) ∧ bits .xor .u32 (n1 : Int) (n2 : Int) = (s3 : Int) ∧
      IntKind.u32.wrap ((q1 : Int) + (s3 : Int)) = (q2 : Int) ∧ IntKind.u32.wrap ((q2 : Int) + (k : Int)) = (q3 : Int) ∧ IntKind.u32.wrap ((q3 : Int) + (w : Int)) = (x : Int) ∧
      bits .xor .u32 (p2 : Int) (p13 : Int) = (s4 : Int) ∧ bits .xor .u32 (s4 : Int) (p22 : Int) = (s5 : Int) ∧ bits .and .u32 (s.a : Int) (s.b : Int) = (o1 : Int) ∧ bits .and .u32 (s.a : Int) (s.c : Int) = (o2 : Int) ∧
      bits .xor .u32 (o1 : Int) (o2 : Int) = (s6 : Int) ∧ bits .and .u32 (s.b : Int) (s.c : Int) = (o3 : Int) ∧ bits .xor .u32 (s6 : Int) (o3 : Int) = (s7 : Int) ∧
      ((s5 : Int) + (s7 : Int)) % 4294967296 = (y : Int) ∧ ((s.d : Int) + (x : Int)) % 4294967296 = (e' : Int) ∧ ((x : Int) + (y : Int)) % 4294967296 = (a' : Int) ∧
      rnd s (k, w) = ⟨a', s.a, s.b, s.c, e', s.e, s.f, s.g⟩ :=
  ⟨rotr s.e 6, rotr s.e 11, rotr s.e 25, rotr s.a 2, rotr s.a 13, rotr s.a 22, _, _, _, _, s.e ^^^ 4294967295, _, _, _, _, _, _, _, _, _, _, _, _, _, _, _,
    rotr_call s.e 6 hs.e (by omega) (by omega), rotr_call s.e 11 hs.e (by omega) (by omega), rotr_call s.e 25 hs.e (by omega) (by omega), rotr_call s.a 2 hs.a (by omega) (by omega), rotr_call s.a 13 hs.a (by omega) (by omega), rotr_call s.a 22 hs.a (by omega) (by omega),
    xor32 (rotr_lt 6 hs.e) (rotr_lt 11 hs.e), xor32 (xor_lt (rotr_lt 6 hs.e) (rotr_lt 11 hs.e)) (rotr_lt 25 hs.e), add32 _ _,
    and32 hs.e hs.f, (by rw [Nat.xor_comm]; exact xor32 (a := 4294967295) (by omega) hs.e), and32 (xor_lt hs.e (by omega)) hs.g, xor32 (and_lt hs.f) (and_lt hs.g), add32 _ _, add32 _ _, add32 _ _,
    xor32 (rotr_lt 2 hs.a) (rotr_lt 13 hs.a), xor32 (xor_lt (rotr_lt 2 hs.a) (rotr_lt 13 hs.a)) (rotr_lt 22 hs.a), and32 hs.a hs.b, and32 hs.a hs.c, xor32 (and_lt hs.b) (and_lt hs.c), and32 hs.b hs.c, xor32 (xor_lt (and_lt hs.b) (and_lt hs.c)) (and_lt hs.c),
    add_mod _ _, add_mod _ _, add_mod _ _, rfl⟩

/-- The words of which the first ones have been added. -/
def sums (hs : List Nat) (s : St) (i : Nat) : List Nat := (List.zipWith add hs s.list).take i ++ hs.drop i
theorem sums_zero (hs : List Nat) (s : St) : sums hs s 0 = hs := by simp [sums]
structure CompE (w wr : World) (xs : List Nat) : Prop where
  wds : Arr wr w.heap.size 8 (xs.map wv)
  res : Arr wr (w.heap.size + 1 + 1) 8 (List.replicate 8 (wv 0))
  below : Below w.heap.size w wr

theorem idx8 (s : St) (W : World) : ∀ i : Nat, i < 8 → (Instr.index 63 (.agg #[.int .u32 (s.a : Int), .int .u32 (s.b : Int), .int .u32 (s.c : Int), .int .u32 (s.d : Int), .int .u32 (s.e : Int), .int .u32 (s.f : Int), .int .u32 (s.g : Int), .int .u32 (s.h : Int)]) (.int .i64 (i : Int))).run Tryd.prog W = .ok (.int .u32 ((s.list.getD i 0 : Nat) : Int)) W
  | 0, _ => by kernel_rfl
  | 1, _ => by kernel_rfl
  | 2, _ => by kernel_rfl
  | 3, _ => by kernel_rfl
  | 4, _ => by kernel_rfl
  | 5, _ => by kernel_rfl
  | 6, _ => by kernel_rfl
  | 7, _ => by kernel_rfl
  | n + 8, h => by omega
theorem sums_at {hs : List Nat} {s : St} {i : Nat} (hl : hs.length = 8) (hi : i < 8) : (sums hs s i)[i]? = some (hs.getD i 0) := by
  have hz : (List.zipWith add hs s.list).length = 8 := by simp [hl, St.list]
  unfold sums
  rw [List.getElem?_append_right (by rw [List.length_take]; omega), List.length_take, List.getElem?_drop, show i + (i - min i (List.zipWith add hs s.list).length) = i by omega, List.getD_eq_getElem?_getD, List.getElem?_eq_getElem (by omega)]
  rfl
theorem sums_put {hs : List Nat} {s : St} {i : Nat} (hl : hs.length = 8) (hi : i < 8) : (sums hs s i).set i (add (hs.getD i 0) (s.list.getD i 0)) = sums hs s (i + 1) := by
  have hsl : s.list.length = 8 := rfl
  have hz : (List.zipWith add hs s.list).length = 8 := by simp [hl, hsl]
  have hd : hs.drop i = hs.getD i 0 :: hs.drop (i + 1) := by
    rw [List.drop_eq_getElem_cons (by omega), List.getD_eq_getElem?_getD, List.getElem?_eq_getElem (by omega)]; rfl
  have ht : (List.zipWith add hs s.list)[i]? = some (add (hs.getD i 0) (s.list.getD i 0)) := by
    rw [List.getElem?_zipWith, List.getD_eq_getElem?_getD, List.getD_eq_getElem?_getD, List.getElem?_eq_getElem (by omega : i < hs.length), List.getElem?_eq_getElem (by omega : i < s.list.length)]
    rfl
  unfold sums
  rw [List.set_append_right _ _ (by rw [List.length_take]; omega), List.length_take, show i - min i (List.zipWith add hs s.list).length = 0 by omega, hd, List.set_cons_zero, List.take_add_one, ht]
  simp
theorem sums_all {hs : List Nat} {s : St} (hl : hs.length = 8) : sums hs s 8 = List.zipWith add hs s.list := by
  have hz : (List.zipWith add hs s.list).length = 8 := by simp [hl, St.list]
  unfold sums
  rw [List.take_of_length_le (by omega), List.drop_of_length_le (by omega), List.append_nil]
theorem CompE.put {w wr : World} {hs : List Nat} {s : St} {i : Nat} (h : CompE w wr (sums hs s i)) (hl : hs.length = 8) (hi : i < 8) :
    CompE w (wr.setCell ⟨w.heap.size, i, none⟩ (wv (add (hs.getD i 0) (s.list.getD i 0)))) (sums hs s (i + 1)) := by
  have hw := h.wds.set (i := i) hi (wv (add (hs.getD i 0) (s.list.getD i 0)))
  rw [← List.map_set, sums_put hl hi] at hw
  exact ⟨hw, h.res.other (by omega) _, h.below.setCell (by simp) _⟩

set_option maxRecDepth 100000 in
set_option maxHeartbeats 1000000 in
theorem compress_any (hs : List Nat) (b : List UInt8) (w : World) (hl : hs.length = 8) (hh : ∀ x ∈ hs, x < 4294967296) (hb : b.length = 64) (ht : Table 1 w) :
    Calls Tryd.prog 44 #[.agg (hs.map wv).toArray, .agg (b.map Wire.bv).toArray] w (GivesA ((comp hs b).map wv) w) := by
  have S0 := comp_start hl hb ht #[.int .u32 0, .int .u32 0, .int .u32 0, .int .u32 0, .int .u32 0, .int .u32 0, .int .u32 0, .int .u32 0] rfl 63 64 63
  have hfit := after_fits b hh
  have HF := Lib.hid hfit; clear hfit
  have HB := Lib.hid hb; clear hb
  have HL := Lib.hid hl; clear hl
  have HH := Lib.hid hh; clear hh ht
  go_enter Tryd.func44, Tryd.ntmps44
  go_wp2_with (first
    | ((with_reducible refine at_slot 19 rfl ?_); refine wpList_load_mid rfl 64 (.tmp 3) rfl (w.heap.size + 1) 0 rfl (b.map Wire.bv) _ S0.blk.range und64b rfl (ib b HB.out) ?_)
    | ((with_reducible refine at_store 74 (.tmp 5) (.tmp 20) rfl ?_); refine wpList_store_mid rfl 74 (.tmp 5) (.tmp 20) rfl w1.heap.size 0 ((ws b).map wv).toArray rfl rfl (fresh64 _ _ _ _ rfl) (iw b) (words_one _) ?_; refine gen_world (Pq := fun W => CompW w W _ w1.heap.size hs b) (G := fun W => wpList _ _ _ _ _ W) (S1.sched _ rfl _) ?_; intro w2 S2; clear S1)
    | (go_at_call 46; (with_reducible refine (expand_any b _ HB.out).mono ?_); rintro e w1 ⟨rfl, hb1⟩; have S1 := S0.on hb1; clear hb1 S0))
  obtain ⟨a0, ha0⟩ : ∃ x, x = (after hs b 0).a := ⟨_, rfl⟩
  obtain ⟨b0, hb0⟩ : ∃ x, x = (after hs b 0).b := ⟨_, rfl⟩
  obtain ⟨c0, hc0⟩ : ∃ x, x = (after hs b 0).c := ⟨_, rfl⟩
  obtain ⟨d0, hd0⟩ : ∃ x, x = (after hs b 0).d := ⟨_, rfl⟩
  obtain ⟨e0, he0⟩ : ∃ x, x = (after hs b 0).e := ⟨_, rfl⟩
  obtain ⟨f0, hf0⟩ : ∃ x, x = (after hs b 0).f := ⟨_, rfl⟩
  obtain ⟨g0, hg0⟩ : ∃ x, x = (after hs b 0).g := ⟨_, rfl⟩
  obtain ⟨h0, hh0⟩ : ∃ x, x = (after hs b 0).h := ⟨_, rfl⟩
  have c0 := S2.word HL.out 0 (by omega) ha0
  have c1 := S2.word HL.out 1 (by omega) hb0
  have c2 := S2.word HL.out 2 (by omega) hc0
  have c3 := S2.word HL.out 3 (by omega) hd0
  have c4 := S2.word HL.out 4 (by omega) he0
  have c5 := S2.word HL.out 5 (by omega) hf0
  have c6 := S2.word HL.out 6 (by omega) hg0
  have c7 := S2.word HL.out 7 (by omega) hh0
  have HA0 := Lib.hid ha0; clear ha0
  have HB0 := Lib.hid hb0; clear hb0
  have HC0 := Lib.hid hc0; clear hc0
  have HD0 := Lib.hid hd0; clear hd0
  have HE0 := Lib.hid he0; clear he0
  have HF0 := Lib.hid hf0; clear hf0
  have HG0 := Lib.hid hg0; clear hg0
  have HH0 := Lib.hid hh0; clear hh0
  go_wp2
  go_quiet (fail)
  go_wp2
  have S3 := S2.drewN nq
  clear c0 c1 c2 c3 c4 c5 c6 c7 S2
  revert S3
  generalize w2.drewN nq = w3
  intro S3
  obtain ⟨gS, hgS⟩ : ∃ g, g = w1.heap.size := ⟨_, rfl⟩
  rw [← hgS] at S3 ⊢
  clear hgS
  go_loopw [6, 7, 8, 9, 10, 11, 12, 13, 37] (fun v1 v2 v3 v4 v5 v6 v7 v8 iv wr => ∃ (t : Nat), t ≤ 64 ∧ v1 = .int .u32 ((after hs b t).a : Int) ∧ v2 = .int .u32 ((after hs b t).b : Int) ∧ v3 = .int .u32 ((after hs b t).c : Int) ∧ v4 = .int .u32 ((after hs b t).d : Int) ∧ v5 = .int .u32 ((after hs b t).e : Int) ∧ v6 = .int .u32 ((after hs b t).f : Int) ∧ v7 = .int .u32 ((after hs b t).g : Int) ∧ v8 = .int .u32 ((after hs b t).h : Int) ∧
      iv = .int .i64 (t : Int) ∧ CompW w wr 1 gS hs b) (fun _ _ _ _ _ _ _ _ iv _ => (64 - intOf iv).toNat)
  case atStart => exact ⟨0, by omega, by rw [HA0.out], by rw [HB0.out], by rw [HC0.out], by rw [HD0.out], by rw [HE0.out], by rw [HF0.out], by rw [HG0.out], by rw [HH0.out], rfl, S3⟩
  case round =>
    obtain ⟨t, ht, rfl, rfl, rfl, rfl, rfl, rfl, rfl, rfl, rfl, hr⟩ := hrel
    by_cases hlt : t < 64
    · have hfs := HF.out t
      have hsucc := after_succ hs b hlt
      have ck : wr.cell? ⟨1, t, none⟩ = some (wv (ks.getD t 0)) := hr.tab t hlt
      have cw : wr.cell? ⟨gS, t, none⟩ = some (wv ((ws b).getD t 0)) := (hr.sch.at_ (i := t) (by rw [List.getElem?_map, List.getD_eq_getElem?_getD, List.getElem?_eq_getElem (by rw [ws_length]; exact hlt)]; rfl)).1
      generalize ks.getD t 0 = k at hsucc ck
      generalize (ws b).getD t 0 = x0 at hsucc cw
      generalize after hs b t = s at hfs hsucc ⊢
      obtain ⟨p6, p11, p25, p2, p13, p22, s1, s2, q1, n1, m1, n2, s3, q2, q3, x, s4, s5, o1, o2, o3, s6, s7, y, e', a', c6, c11, c25, c2, c13, c22, e1, e2, e3, e4, e5, e6, e7, e8, e9, e10, e11, e12, e13, e14, e15, e16, e17, e18, e19, e20, hrnd⟩ := rnd_steps hfs k x0
      have hnext := hsucc.trans hrnd
      have HN := Lib.hid hnext; clear hnext hsucc hrnd hfs
      obtain ⟨a, b1, c, d, e, f, g, h⟩ := s
      have z0 : (0 : Int) ≤ (t : Int) := by omega
      have z1 : (t : Int) < 64 := by omega
      simp only at c6 c11 c25 c2 c13 c22 e3 e4 e5 e6 e13 e14 e16 e19
      unfold wv at ck cw
      go_wp2
      go_quiet ((first
        | (with_reducible exact Calls.quiet_of_same (c6 _))
        | (with_reducible exact Calls.quiet_of_same (c11 _))
        | (with_reducible exact Calls.quiet_of_same (c25 _))))
      go_wp2_with (first
        | (go_at_call 47; (with_reducible refine (c2 _).mono ?_); rintro e w' ⟨rfl, rfl⟩)
        | (go_at_call 47; (with_reducible refine (c13 _).mono ?_); rintro e w' ⟨rfl, rfl⟩)
        | (go_at_call 47; (with_reducible refine (c22 _).mono ?_); rintro e w' ⟨rfl, rfl⟩))
      go_roundw
      case rel =>
        refine ⟨t + 1, by omega, (congrArg (Value.int .u32) e20).trans (by rw [HN.out]), ?_, ?_, ?_, (congrArg (Value.int .u32) e19).trans (by rw [HN.out]), ?_, ?_, ?_, by go_num, hr.drewN _⟩ <;> rw [HN.out]
      case measure => simp [intOf]; omega
    · have ht64 : t = 64 := by omega
      have hall : comp hs b = List.zipWith add hs (after hs b t).list := by rw [ht64]; exact after_all hs b
      have z64 : ¬ (t : Int) < 64 := by omega
      generalize after hs b t = s at hall ⊢
      have HA := Lib.hid hall; clear hall S3 ht64 hlt ht
      have hw0 := hr.wds
      have hw1 := hr.res
      have hw2 := hr.below
      clear hr
      go_wp2
      go_loopw [109] (fun iv wq => ∃ (i : Nat), i ≤ 8 ∧ iv = .int .i64 (i : Int) ∧ CompE w wq (sums hs s i)) (fun iv _ => (8 - intOf iv).toNat)
      case atStart => exact ⟨0, by omega, rfl, by rw [sums_zero]; exact ⟨hw0, hw1, hw2⟩⟩
      case round =>
        obtain ⟨i, hi, rfl, hq⟩ := hrel
        clear hw0 hw1 hw2
        by_cases hi8 : i < 8
        · have y0 : (0 : Int) ≤ (i : Int) := by omega
          have y1 : (i : Int) < 8 := by omega
          have hcell := (hq.wds.at_ (i := i) (u := wv (hs.getD i 0)) (by rw [List.getElem?_map, sums_at HL.out hi8]; rfl)).1
          have hfrz := hq.wds.free i hi8
          have hidx : ∀ W, (Instr.index 63 (.agg #[.int .u32 (s.a : Int), .int .u32 (s.b : Int), .int .u32 (s.c : Int), .int .u32 (s.d : Int), .int .u32 (s.e : Int), .int .u32 (s.f : Int), .int .u32 (s.g : Int), .int .u32 (s.h : Int)]) (.int .i64 (i : Int))).run Tryd.prog W = .ok (.int .u32 ((s.list.getD i 0 : Nat) : Int)) W := fun W => idx8 s W i hi8
          have hput := hq.put HL.out hi8
          rw [show wv (add (hs.getD i 0) (s.list.getD i 0)) = .int .u32 ((((hs.getD i 0 : Nat) : Int) + ((s.list.getD i 0 : Nat) : Int)) % 4294967296) from congrArg (Value.int .u32) (add_mod _ _).symm] at hput
          unfold wv at hcell
          generalize hs.getD i 0 = u at hcell hput
          generalize s.list.getD i 0 = x at hidx hput
          have HP := Lib.hid hput; clear hput hq
          go_wp2
          go_roundw
          case rel => exact ⟨i + 1, by omega, by go_num, HP.out⟩
          case measure => simp [intOf]; omega
        · obtain rfl : i = 8 := by omega
          rw [sums_all HL.out, ← HA.out] at hq
          have hcl : ((comp hs b).map wv).length = 8 := hq.wds.len
          have hi1 : (Tryd.prog.info? 63).map (·.size) = some ((comp hs b).map wv).length := by rw [hcl]; exact info8w
          have hi2 : (Tryd.prog.info? 63).map (·.size) = some ((comp hs b).map wv).toArray.size := by rw [show ((comp hs b).map wv).toArray.size = 8 by rw [List.size_toArray]; exact hcl]; exact info8w
          have hth : wr.there (w.heap.size + 1 + 1) 0 ((comp hs b).map wv).toArray.size := by rw [show ((comp hs b).map wv).toArray.size = 8 by rw [List.size_toArray]; exact hcl]; exact hq.res.there
          have hend := arr_end (w := w) (wr := wr) (g := w.heap.size + 1 + 1) (xs := (comp hs b).map wv) 63 hq.below (by omega) (by rw [hcl]; exact hq.res.there) und8w rfl hi1
          have hrg := hq.wds.range
          have HE := Lib.hid hend
          have HG := Lib.hid hrg
          have HTH := Lib.hid hth
          have HI := Lib.hid hi1
          have HI2 := Lib.hid hi2
          have z8 : ¬ ((8 : Nat) : Int) < 8 := by omega
          clear hq hcl hi1 hi2 hth hend hrg
          go_wp2_with (first
            | ((with_reducible refine at_slot 120 rfl ?_); refine wpList_load_mid rfl 63 (.tmp 2) rfl w.heap.size 0 rfl ((comp hs b).map wv) _ HG.out und8w rfl HI.out ?_)
            | ((with_reducible refine at_store 63 (.tmp 4) (.tmp 120) rfl ?_); refine wpList_store_mid rfl 63 (.tmp 4) (.tmp 120) rfl (w.heap.size + 1 + 1) 0 ((comp hs b).map wv).toArray rfl rfl HTH.out HI2.out (words_one _) ?_))
          refine bodyPost_ret (v := .agg ((comp hs b).map wv).toArray) ?_ rfl ⟨rfl, HE.out.2⟩
          simp [results, Tryd.results44, asAddr]
          rw [HE.out.1]

end Hash
end Go.Proofs.YtoenkckoomfgeaaDoor
