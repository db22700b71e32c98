/- What a block contributes to the rounds: the words, of the package and of the reference. -/
import Derived.Test.YtoenkckoomfgeaaDoorHMem
namespace Go.Proofs.YtoenkckoomfgeaaDoor
open Go.RowKit
namespace Hash

def zw (k : Nat) : List Value := List.replicate k (wv 0)
/-- The words so far lie in the third new block; the block in the first. -/
structure ExpW (w wr : World) (b : List UInt8) (r : List Nat) : Prop where
  blk : Arr wr w.heap.size 64 (b.map Wire.bv)
  res : Arr wr (w.heap.size + 1) 64 (zw 64)
  wds : Arr wr (w.heap.size + 1 + 1) 64 (r.reverse.map wv ++ zw (64 - r.length))
  below : Below w.heap.size w wr
  most : r.length ≤ 64

theorem word_of {b : List UInt8} {k : Nat} {x0 x1 x2 x3 : UInt8} (h0 : b[4 * k]? = some x0) (h1 : b[4 * k + 1]? = some x1) (h2 : b[4 * k + 2]? = some x2) (h3 : b[4 * k + 3]? = some x3) :
    word b k = ((x0.toNat * 16777216 ||| x1.toNat * 65536) ||| x2.toNat * 256) ||| x3.toNat := by
  simp only [word, List.getD_eq_getElem?_getD, h0, h1, h2, h3, Option.getD_some]
theorem word_steps {b : List UInt8} {k : Nat} {x0 x1 x2 x3 : UInt8} (h : word b k = ((x0.toNat * 16777216 ||| x1.toNat * 65536) ||| x2.toNat * 256) ||| x3.toNat) :
    ∃ m0 m1 m2 n1 n2 : Nat, IntKind.u32.wrap ((x0.toNat : Int) * 16777216) = (m0 : Int) ∧ IntKind.u32.wrap ((x1.toNat : Int) * 65536) = (m1 : Int) ∧ IntKind.u32.wrap ((x2.toNat : Int) * 256) = (m2 : Int) ∧
      bits .or .u32 (m0 : Int) (m1 : Int) = (n1 : Int) ∧ bits .or .u32 (n1 : Int) (m2 : Int) = (n2 : Int) ∧ bits .or .u32 (n2 : Int) (x3.toNat : Int) = (word b k : Int) ∧ word b k < 4294967296 := by
  have g0 := x0.toNat_lt
  have g1 := x1.toNat_lt
  have g2 := x2.toNat_lt
  have g3 := x3.toNat_lt
  have l1 : x0.toNat * 16777216 ||| x1.toNat * 65536 < 4294967296 := or_lt (by omega) (by omega)
  have l2 : (x0.toNat * 16777216 ||| x1.toNat * 65536) ||| x2.toNat * 256 < 4294967296 := or_lt l1 (by omega)
  have l3 : ((x0.toNat * 16777216 ||| x1.toNat * 65536) ||| x2.toNat * 256) ||| x3.toNat < 4294967296 := or_lt l2 (by omega)
  refine ⟨x0.toNat * 16777216, x1.toNat * 65536, x2.toNat * 256, _, _, ?_, ?_, ?_, or32 (by omega) (by omega), or32 l1 (by omega), ?_, by rw [h]; exact l3⟩
  · rw [IntKind.wrap_u32]; omega
  · rw [IntKind.wrap_u32]; omega
  · rw [IntKind.wrap_u32]; omega
  · rw [h]; exact or32 l2 (by omega)
theorem wrap_u8 (x : UInt8) : IntKind.u32.wrap (x.toNat : Int) = (x.toNat : Int) := by
  have := x.toNat_lt
  rw [IntKind.wrap_u32]; omega

theorem arr_end {w wr : World} {g : Nat} {xs : List Value} (ty : TypeId) {d : TypeDesc} (hb : Below w.heap.size w wr) (hg : w.heap.size ≤ g) (ht : wr.there g 0 xs.length) (hu : Tryd.prog.underlying ty = some d) (hd : d.isRow = true)
    (hi : (Tryd.prog.info? ty).map (·.size) = some xs.length) : (loadVar ty ⟨g, 0, none⟩).run Tryd.prog (wr.setCells g 0 xs) = .ok (.agg xs.toArray) (wr.setCells g 0 xs) ∧ Below w.heap.size w (wr.setCells g 0 xs) :=
  ⟨run_loadVar_mid _ _ _ _ _ d (World.rangeAt_setCells_same wr g 0 xs ht) hu hd hi, hb.trans (below_cells hg xs 0 wr)⟩
theorem firsts_length (b : List UInt8) : ∀ k, (firsts b k).length = k
  | 0 => rfl
  | k + 1 => by simp [firsts, firsts_length b k]
theorem wds_at {r : List Nat} {k : Nat} (hl : r.length = k) (hk : k < 64) : (r.reverse.map wv ++ zw (64 - r.length))[k]? = some (wv 0) := by
  rw [List.getElem?_append_right (by simp; omega)]
  obtain ⟨d, hd⟩ : ∃ d, 64 - r.length = d + 1 := ⟨63 - r.length, by omega⟩
  rw [hd]
  simp [zw, hl, List.replicate_succ]
theorem wds_put {r : List Nat} {k : Nat} (hl : r.length = k) (hk : k < 64) (y : Nat) : (r.reverse.map wv ++ zw (64 - r.length)).set k (wv y) = (y :: r).reverse.map wv ++ zw (64 - (y :: r).length) := by
  rw [List.set_append_right _ _ (by simp; omega)]
  obtain ⟨d, hd⟩ : ∃ d, 64 - r.length = d + 1 := ⟨63 - r.length, by omega⟩
  have e : 64 - (y :: r).length = d := by simp; omega
  rw [hd, e]
  simp [zw, hl, List.replicate_succ]
theorem ExpW.drew {w wr : World} {b : List UInt8} {r : List Nat} (h : ExpW w wr b r) : ExpW w wr.drew b r :=
  ⟨h.blk.drew 1, h.res.drew 1, h.wds.drew 1, h.below.drew, h.most⟩
theorem ExpW.drewN {w wr : World} {b : List UInt8} {r : List Nat} (h : ExpW w wr b r) (k : Nat) : ExpW w (wr.drewN k) b r :=
  ⟨h.blk.drew k, h.res.drew k, h.wds.drew k, ⟨h.below.os, h.below.tape, h.below.output, h.below.size, h.below.block⟩, h.most⟩
theorem ExpW.put {w wr : World} {b : List UInt8} {r : List Nat} {k : Nat} (h : ExpW w wr b r) (hl : r.length = k) (hk : k < 64) (y : Nat) : ExpW w (wr.setCell ⟨w.heap.size + 1 + 1, k, none⟩ (wv y)) b (y :: r) := by
  have hw := h.wds.set (i := k) hk (wv y)
  rw [wds_put hl hk y] at hw
  exact ⟨h.blk.other (by omega) _, h.res.other (by omega) _, hw, h.below.setCell (by simp; omega) _, by simp; omega⟩

theorem exp_start (w : World) (b : List UInt8) (hb : b.length = 64) (c1 c2 : Array Value) (h1 : c1.toList = zw 64) (h2 : c2.toList = zw 64) (t1 t2 t3 : TypeId) :
    ExpW w (((w.alloc (.cells (b.map Wire.bv).toArray t1)).alloc (.cells c1 t2)).alloc (.cells c2 t3)) b [] := by
  have s1 : c1.size = 64 := by rw [← Array.length_toList, h1]; rfl
  have s2 : c2.size = 64 := by rw [← Array.length_toList, h2]; rfl
  refine ⟨?_, ?_, ?_, (((Below.refl _ _).alloc (Nat.le_refl _) _).alloc (by simp) _).alloc (by simp; omega) _, by simp⟩
  · have h := ((arr_new w (b.map Wire.bv).toArray t1).alloc (by simp) (.cells c1 t2)).alloc (by simp; omega) (.cells c2 t3)
    simpa [hb] using h
  · have h := (arr_new (w.alloc (.cells (b.map Wire.bv).toArray t1)) c1 t2).alloc (by simp) (.cells c2 t3)
    rw [s1, h1] at h
    simpa using h
  · have h := arr_new ((w.alloc (.cells (b.map Wire.bv).toArray t1)).alloc (.cells c1 t2)) c2 t3
    rw [s2, h2] at h
    simpa using h
theorem firsts_lt (b : List UInt8) : ∀ k, ∀ x ∈ firsts b k, x < 4294967296
  | 0 => by simp [firsts]
  | k + 1 => by
    intro x hx
    rcases List.mem_cons.1 hx with rfl | hx
    · have g0 := (b.getD (4 * k) 0).toNat_lt
      have g1 := (b.getD (4 * k + 1) 0).toNat_lt
      have g2 := (b.getD (4 * k + 2) 0).toNat_lt
      have g3 := (b.getD (4 * k + 3) 0).toNat_lt
      exact or_lt (or_lt (or_lt (by omega) (by omega)) (by omega)) (by omega)
    · exact firsts_lt b k x hx
theorem sch_lt (b : List UInt8) : ∀ k, ∀ x ∈ sch b k, x < 4294967296
  | 0 => firsts_lt b 16
  | k + 1 => by
    intro x hx
    rcases List.mem_cons.1 hx with rfl | hx
    · exact add_lt _ _
    · exact sch_lt b k x hx
theorem sch_length (b : List UInt8) : ∀ k, (sch b k).length = 16 + k
  | 0 => firsts_length b 16
  | k + 1 => by simp [sch, sch_length b k]; omega
theorem word_at {w wr : World} {b : List UInt8} {r : List Nat} {t i j : Nat} (h : ExpW w wr b r) (hl : r.length = t) (hb : ∀ x ∈ r, x < 4294967296) (hij : i + j + 1 = t) :
    ∃ x, r.getD j 0 = x ∧ wr.cell? ⟨w.heap.size + 1 + 1, i, none⟩ = some (wv x) ∧ x < 4294967296 := by
  have hj : j < r.length := by omega
  refine ⟨r[j], by rw [List.getD_eq_getElem?_getD, List.getElem?_eq_getElem hj]; rfl, (h.wds.at_ (i := i) ?_).1, hb _ (List.getElem_mem hj)⟩
  rw [List.getElem?_append_left (by simp; omega), List.getElem?_map, List.getElem?_reverse (by omega), show r.length - 1 - i = j by omega, List.getElem?_eq_getElem hj]
  rfl
theorem nxt_of {r : List Nat} {u x v z : Nat} (h15 : r.getD 15 0 = u) (h14 : r.getD 14 0 = x) (h6 : r.getD 6 0 = v) (h1 : r.getD 1 0 = z) : nxt r = add (add (add u (sm0 x)) v) (sm1 z) := by
  unfold nxt; rw [h15, h14, h6, h1]
theorem nxt_steps (u x v z : Nat) (_lu : u < 4294967296) (lx : x < 4294967296) (_lv : v < 4294967296) (lz : z < 4294967296) :
    ∃ p7 p18 s1 d1 s2 a1 a2 p17 p19 s3 d2 s4 y : Nat,
      (∀ W, Calls Tryd.prog 47 #[.int .u32 (x : Int), .int .i64 7] W fun e w' => e = .returned (.int .u32 (p7 : Int)) ∧ w' = W) ∧
      (∀ W, Calls Tryd.prog 47 #[.int .u32 (x : Int), .int .i64 18] W fun e w' => e = .returned (.int .u32 (p18 : Int)) ∧ w' = W) ∧
      (∀ W, Calls Tryd.prog 47 #[.int .u32 (z : Int), .int .i64 17] W fun e w' => e = .returned (.int .u32 (p17 : Int)) ∧ w' = W) ∧
      (∀ W, Calls Tryd.prog 47 #[.int .u32 (z : Int), .int .i64 19] W fun e w' => e = .returned (.int .u32 (p19 : Int)) ∧ w' = W) ∧
      bits .xor .u32 (p7 : Int) (p18 : Int) = (s1 : Int) ∧ (x : Int) / 8 = (d1 : Int) ∧ bits .xor .u32 (s1 : Int) (d1 : Int) = (s2 : Int) ∧ IntKind.u32.wrap ((u : Int) + (s2 : Int)) = (a1 : Int) ∧ IntKind.u32.wrap ((a1 : Int) + (v : Int)) = (a2 : Int) ∧
      bits .xor .u32 (p17 : Int) (p19 : Int) = (s3 : Int) ∧ (z : Int) / 1024 = (d2 : Int) ∧ bits .xor .u32 (s3 : Int) (d2 : Int) = (s4 : Int) ∧ IntKind.u32.wrap ((a2 : Int) + (s4 : Int)) = (y : Int) ∧ y = add (add (add u (sm0 x)) v) (sm1 z) ∧ y < 4294967296 :=
  ⟨rotr x 7, rotr x 18, _, x / 8, _, _, _, rotr z 17, rotr z 19, _, z / 1024, _, _,
    fun W => (rotr_any x 7 W lx (by omega) (by omega)).mono fun _ _ ⟨h1, h2⟩ => ⟨h1, h2.symm⟩, fun W => (rotr_any x 18 W lx (by omega) (by omega)).mono fun _ _ ⟨h1, h2⟩ => ⟨h1, h2.symm⟩,
    fun W => (rotr_any z 17 W lz (by omega) (by omega)).mono fun _ _ ⟨h1, h2⟩ => ⟨h1, h2.symm⟩, fun W => (rotr_any z 19 W lz (by omega) (by omega)).mono fun _ _ ⟨h1, h2⟩ => ⟨h1, h2.symm⟩,
    xor32 (rotr_lt 7 lx) (rotr_lt 18 lx), rfl, xor32 (xor_lt (rotr_lt 7 lx) (rotr_lt 18 lx)) (div_lt 8 lx), add32 _ _, add32 _ _,
    xor32 (rotr_lt 17 lz) (rotr_lt 19 lz), rfl, xor32 (xor_lt (rotr_lt 17 lz) (rotr_lt 19 lz)) (div_lt 1024 lz), add32 _ _, rfl, add_lt _ _⟩

set_option maxRecDepth 100000 in
set_option maxHeartbeats 1000000 in
theorem expand_any (b : List UInt8) (w : World) (hb : b.length = 64) :
    Calls Tryd.prog 46 #[.agg (b.map Wire.bv).toArray] w (GivesA ((ws b).map wv) w) := by
  have HB := Lib.hid hb; clear hb
  go_enter Tryd.func46, Tryd.ntmps46
  go_wp2
  go_loopw [8] (fun iv wr => ∃ (k : Nat), k ≤ 16 ∧ iv = .int .i64 (k : Int) ∧ ExpW w wr b (firsts b k)) (fun iv _ => (16 - intOf iv).toNat)
  case atStart =>
    exact ⟨0, by omega, rfl, exp_start w b HB.out _ _ rfl rfl _ _ _⟩
  case round =>
    obtain ⟨k, hk, rfl, hr⟩ := hrel
    by_cases hlt : k < 16
    · obtain ⟨x0, h0⟩ : ∃ x, b[4 * k]? = some x := ⟨_, List.getElem?_eq_getElem (by have := HB.out; omega)⟩
      obtain ⟨x1, h1⟩ : ∃ x, b[4 * k + 1]? = some x := ⟨_, List.getElem?_eq_getElem (by have := HB.out; omega)⟩
      obtain ⟨x2, h2⟩ : ∃ x, b[4 * k + 2]? = some x := ⟨_, List.getElem?_eq_getElem (by have := HB.out; omega)⟩
      obtain ⟨x3, h3⟩ : ∃ x, b[4 * k + 3]? = some x := ⟨_, List.getElem?_eq_getElem (by have := HB.out; omega)⟩
      have hword := word_of h0 h1 h2 h3
      have c0 := (hr.blk.at_ (i := 4 * k) (u := Wire.bv x0) (by rw [List.getElem?_map, h0]; rfl)).1
      have c1 := (hr.blk.at_ (i := 4 * k + 1) (u := Wire.bv x1) (by rw [List.getElem?_map, h1]; rfl)).1
      have c2 := (hr.blk.at_ (i := 4 * k + 2) (u := Wire.bv x2) (by rw [List.getElem?_map, h2]; rfl)).1
      have c3 := (hr.blk.at_ (i := 4 * k + 3) (u := Wire.bv x3) (by rw [List.getElem?_map, h3]; rfl)).1
      clear h0 h1 h2 h3
      have e0 : IntKind.i64.wrap (4 * (k : Int)) = ((4 * k : Nat) : Int) := by rw [IntWalk.i64_in _ (by omega)]; omega
      have e1 : IntKind.i64.wrap (((4 * k : Nat) : Int) + 1) = ((4 * k + 1 : Nat) : Int) := by rw [IntWalk.i64_in _ (by omega)]; omega
      have e2 : IntKind.i64.wrap (((4 * k : Nat) : Int) + 2) = ((4 * k + 2 : Nat) : Int) := by rw [IntWalk.i64_in _ (by omega)]; omega
      have e3 : IntKind.i64.wrap (((4 * k : Nat) : Int) + 3) = ((4 * k + 3 : Nat) : Int) := by rw [IntWalk.i64_in _ (by omega)]; omega
      obtain ⟨m0, m1, m2, n1, n2, v0, v1, v2, o1, o2, o3, hy⟩ := word_steps hword
      obtain ⟨y, hyw⟩ : ∃ y, y = word b k := ⟨_, rfl⟩
      rw [← hyw] at o3 hy
      have HW := Lib.hid hyw; clear hyw hword
      obtain ⟨p1, hp1⟩ : ∃ p, p = 4 * k + 1 := ⟨_, rfl⟩
      obtain ⟨p2, hp2⟩ : ∃ p, p = 4 * k + 2 := ⟨_, rfl⟩
      obtain ⟨p3, hp3⟩ : ∃ p, p = 4 * k + 3 := ⟨_, rfl⟩
      obtain ⟨p0, hp0⟩ : ∃ p, p = 4 * k := ⟨_, rfl⟩
      rw [← hp1] at c1 e1
      rw [← hp2] at c2 e2
      rw [← hp3] at c3 e3
      rw [← hp0] at c0 e0 e1 e2 e3
      have z0 : (0 : Int) ≤ (p0 : Int) := by omega
      have z1 : (p0 : Int) < 64 := by omega
      have z2 : (0 : Int) ≤ (p1 : Int) := by omega
      have z3 : (p1 : Int) < 64 := by omega
      have z4 : (0 : Int) ≤ (p2 : Int) := by omega
      have z5 : (p2 : Int) < 64 := by omega
      have z6 : (0 : Int) ≤ (p3 : Int) := by omega
      have z7 : (p3 : Int) < 64 := by omega
      have z8 : (0 : Int) ≤ (k : Int) := by omega
      have z9 : (k : Int) < 64 := by omega
      have w0 := wrap_u8 x0
      have w1 := wrap_u8 x1
      have w2 := wrap_u8 x2
      have w3 := wrap_u8 x3
      clear hp0 hp1 hp2 hp3
      unfold Wire.bv at c0 c1 c2 c3
      have hr2 := hr.drew
      have hfin : ∀ w2, ExpW w w2 b (firsts b k) → ExpW w (w2.setCell ⟨w.heap.size + 1 + 1, k, none⟩ (.int .u32 (y : Int))) b (firsts b (k + 1)) := fun w2 h2 => by
        rw [show firsts b (k + 1) = y :: firsts b k by rw [HW.out]; rfl]
        exact h2.put (firsts_length b k) (by omega) y
      have HF := Lib.hid hfin; clear hfin
      go_wp2
      go_still_tail 31, (by kernel_rfl)
      change wpList _ _ _ _ _ wr.drew
      revert hr2
      generalize wr.drew = w2
      intro hr2
      obtain ⟨q1, q2⟩ := hr2.wds.at_ (i := k) (u := wv 0) (wds_at (firsts_length b k) (by omega))
      clear c0 c1 c2 c3 hr
      unfold wv at q1
      go_wp2
      go_roundw
      case rel => exact ⟨k + 1, by omega, by go_num, HF.out _ hr2⟩
      case measure => simp [intOf]; omega
    · have hk16 : k = 16 := by omega
      have hr0 : ExpW w wr b (sch b 0) := by rw [hk16] at hr; exact hr
      have z16 : ¬ (k : Int) < 16 := by omega
      clear hr hk16 hlt hk
      go_wp2
      go_loopw [5] (fun iv wq => ∃ (j : Nat), j ≤ 48 ∧ iv = .int .i64 (((16 + j : Nat) : Nat) : Int) ∧ ExpW w wq b (sch b j)) (fun iv _ => (64 - intOf iv).toNat)
      case atStart => exact ⟨0, by omega, rfl, hr0⟩
      case round =>
        obtain ⟨j, hj, rfl, hq⟩ := hrel
        clear hr0
        obtain ⟨t, ht⟩ : ∃ t, t = 16 + j := ⟨_, rfl⟩
        rw [← ht]
        have HT := Lib.hid ht
        by_cases hjt : j < 48
        · have ht1 : 16 ≤ t := by omega
          have ht2 : t < 64 := by omega
          clear ht
          obtain ⟨r, hrs⟩ : ∃ r, r = sch b j := ⟨_, rfl⟩
          have hrl : r.length = t := by rw [hrs, sch_length, HT.out]
          have hrb : ∀ x ∈ r, x < 4294967296 := by rw [hrs]; exact sch_lt b j
          have hsn : sch b (j + 1) = nxt r :: r := by rw [hrs]; rfl
          rw [← hrs] at hq
          obtain ⟨x, g14, c14, l14⟩ := word_at hq hrl hrb (i := t - 15) (j := 14) (by omega)
          obtain ⟨z, g1, c1, l1⟩ := word_at hq hrl hrb (i := t - 2) (j := 1) (by omega)
          obtain ⟨u, g15, c15, l15⟩ := word_at hq hrl hrb (i := t - 16) (j := 15) (by omega)
          obtain ⟨v, g6, c6, l6⟩ := word_at hq hrl hrb (i := t - 7) (j := 6) (by omega)
          have hnx := nxt_of g15 g14 g6 g1
          obtain ⟨p7, p18, s1, d1, s2, a1, a2, p17, p19, s3, d2, s4, y, cc7, cc18, cc17, cc19, e1, e2, e3, e4, e5, e6, e7, e8, e9, hy, hyl⟩ := nxt_steps u x v z l15 l14 l6 l1
          have HN := Lib.hid (hy.trans hnx.symm)
          have HS := Lib.hid hsn
          have HR := Lib.hid hrl
          have f0 : IntKind.i64.wrap ((t : Int) - 15) = ((t - 15 : Nat) : Int) := by rw [IntWalk.i64_in _ (by omega)]; omega
          have f1 : IntKind.i64.wrap ((t : Int) - 2) = ((t - 2 : Nat) : Int) := by rw [IntWalk.i64_in _ (by omega)]; omega
          have f2 : IntKind.i64.wrap ((t : Int) - 16) = ((t - 16 : Nat) : Int) := by rw [IntWalk.i64_in _ (by omega)]; omega
          have f3 : IntKind.i64.wrap ((t : Int) - 7) = ((t - 7 : Nat) : Int) := by rw [IntWalk.i64_in _ (by omega)]; omega
          obtain ⟨t15, h15⟩ : ∃ p, p = t - 15 := ⟨_, rfl⟩
          obtain ⟨t2, h2⟩ : ∃ p, p = t - 2 := ⟨_, rfl⟩
          obtain ⟨t16, h16⟩ : ∃ p, p = t - 16 := ⟨_, rfl⟩
          obtain ⟨t7, h7⟩ : ∃ p, p = t - 7 := ⟨_, rfl⟩
          rw [← h15] at f0 c14
          rw [← h2] at f1 c1
          rw [← h16] at f2 c15
          rw [← h7] at f3 c6
          have z0 : (0 : Int) ≤ (t15 : Int) := by omega
          have z1 : (t15 : Int) < 64 := by omega
          have z2 : (0 : Int) ≤ (t2 : Int) := by omega
          have z3 : (t2 : Int) < 64 := by omega
          have z4 : (0 : Int) ≤ (t16 : Int) := by omega
          have z5 : (t16 : Int) < 64 := by omega
          have z6 : (0 : Int) ≤ (t7 : Int) := by omega
          have z7 : (t7 : Int) < 64 := by omega
          have z8 : (0 : Int) ≤ (t : Int) := by omega
          have z9 : (t : Int) < 64 := by omega
          clear h15 h2 h16 h7 hy hnx hsn hrl hrb hrs g15 g14 g6 g1
          unfold wv at c14 c1 c15 c6
          go_wp2
          go_quiet (fail)
          go_wp2
          have hq2 := hq.drewN nq
          have d15 : (wr.drewN nq).cell? ⟨w.heap.size + 1 + 1, t16, none⟩ = some (.int .u32 (u : Int)) := c15
          have d6 : (wr.drewN nq).cell? ⟨w.heap.size + 1 + 1, t7, none⟩ = some (.int .u32 (v : Int)) := c6
          clear c14 c1 c15 c6 hq
          revert hq2 d15 d6
          generalize wr.drewN nq = w3
          intro hq2 d15 d6
          replace hq2 := hq2.drew
          refine wp_region_still_tail 29 (by kernel_rfl) (by kernel_rfl) ?_
          simp only [List.take_succ_cons, List.take_zero, List.drop_succ_cons, List.drop_zero]
          repeat (first
            | still_step
            | (refine wpStill_step (fun K hK => ?_); go_simp; (first | (with_reducible refine ⟨_, cc7 _, hK _ ?_⟩) | (with_reducible refine ⟨_, cc18 _, hK _ ?_⟩) | (with_reducible refine ⟨_, cc17 _, hK _ ?_⟩) | (with_reducible refine ⟨_, cc19 _, hK _ ?_⟩)); clear hK K))
          refine wpStill_nil ?_
          change wpList _ _ _ _ _ w3.drew
          clear d15 d6
          revert hq2
          generalize w3.drew = w2
          intro hq2
          obtain ⟨q1, q2⟩ := hq2.wds.at_ (i := t) (u := wv 0) (wds_at HR.out (by omega))
          unfold wv at q1
          have hfin : ExpW w (w2.setCell ⟨w.heap.size + 1 + 1, t, none⟩ (.int .u32 (y : Int))) b (sch b (j + 1)) := by
            rw [HS.out, ← HN.out]
            exact hq2.put HR.out (by omega) y
          have HF := Lib.hid hfin; clear hfin
          go_wp2
          go_roundw
          case rel => exact ⟨j + 1, by omega, congrArg (Value.int .i64) (by have := HT.out; omega), HF.out⟩
          case measure => simp [intOf]; omega
        · obtain rfl : j = 48 := by omega
          obtain rfl : t = 64 := HT.out
          have hrg : wr.rangeAt (w.heap.size + 1 + 1) 0 ((ws b).map wv) := by
            have h := hq.wds.range
            rwa [show 64 - (sch b 48).length = 0 by rw [sch_length], show zw 0 = [] from rfl, List.append_nil] at h
          have hth : wr.there (w.heap.size + 1) 0 64 := hq.res.there
          have hsz : ((ws b).map wv).length = 64 := by simp [ws, sch_length]
          have hv : Tryd.prog.underlying 74 = some (.array 64 62) := by kernel_rfl
          have hi : (Tryd.prog.info? 74).map (·.size) = some ((ws b).map wv).length := by rw [hsz]; kernel_rfl
          have hi2 : (Tryd.prog.info? 74).map (·.size) = some ((ws b).map wv).toArray.size := by rw [List.size_toArray]; exact hi
          have hsz2 : ((ws b).map wv).toArray.size = 64 := by simp [ws, sch_length]
          have hth2 : wr.there (w.heap.size + 1) 0 ((ws b).map wv).toArray.size := by rw [hsz2]; exact hth
          have hend := arr_end (w := w) (wr := wr) (g := w.heap.size + 1) (xs := (ws b).map wv) 74 hq.below (by omega) (by rw [hsz]; exact hth) hv rfl hi
          have HG := Lib.hid hrg
          have HTH := Lib.hid hth2
          have HE := Lib.hid hend
          have HV := Lib.hid hv
          have HI := Lib.hid hi
          have HI2 := Lib.hid hi2
          clear hrg hth hth2 hsz hsz2 hq hend hv hi hi2
          go_wp2_with (first
            | ((with_reducible refine at_slot 84 rfl ?_); refine wpList_load_mid rfl 74 (.tmp 3) rfl (w.heap.size + 1 + 1) 0 rfl ((ws b).map wv) _ HG.out HV.out rfl HI.out ?_)
            | ((with_reducible refine at_store 74 (.tmp 2) (.tmp 84) rfl ?_); refine wpList_store_mid rfl 74 (.tmp 2) (.tmp 84) rfl (w.heap.size + 1) 0 ((ws b).map wv).toArray rfl rfl HTH.out HI2.out (words_one _) ?_))
          refine bodyPost_ret (v := .agg ((ws b).map wv).toArray) ?_ rfl ⟨rfl, HE.out.2⟩
          simp [results, Tryd.results46, asAddr]
          rw [HE.out.1]

end Hash
end Go.Proofs.YtoenkckoomfgeaaDoor
