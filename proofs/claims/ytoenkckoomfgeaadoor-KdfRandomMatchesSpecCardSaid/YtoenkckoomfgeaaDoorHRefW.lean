/- The words of a block, of the reference: the block is a slice. No condition but its length. -/
import Derived.Test.YtoenkckoomfgeaaDoorHRefPad
import Derived.Test.YtoenkckoomfgeaaDoorHExp
namespace Go.Proofs.YtoenkckoomfgeaaDoor
open Go.RowKit
namespace Hash

/-- The words so far lie in the second new block; the block where it was. -/
structure RefW (w wr : World) (gb ob : Nat) (b : List UInt8) (r : List Nat) : Prop where
  blk : ∀ (i : Nat) (x : UInt8), b[i]? = some x → wr.cell? ⟨gb, ob + i, none⟩ = some (Wire.bv x)
  old : gb < w.heap.size
  res : Arr wr w.heap.size 64 (zw 64)
  wds : Arr wr (w.heap.size + 1) 64 (r.reverse.map wv ++ zw (64 - r.length))
  below : Below w.heap.size w wr
  most : r.length ≤ 64
theorem RefW.drewN {w wr : World} {gb ob : Nat} {b : List UInt8} {r : List Nat} (h : RefW w wr gb ob b r) (k : Nat) : RefW w (wr.drewN k) gb ob b r :=
  ⟨h.blk, h.old, h.res.drew k, h.wds.drew k, ⟨h.below.os, h.below.tape, h.below.output, h.below.size, h.below.block⟩, h.most⟩
theorem RefW.drew {w wr : World} {gb ob : Nat} {b : List UInt8} {r : List Nat} (h : RefW w wr gb ob b r) : RefW w wr.drew gb ob b r := h.drewN 1
theorem RefW.put {w wr : World} {gb ob : Nat} {b : List UInt8} {r : List Nat} {k : Nat} (h : RefW w wr gb ob b r) (hl : r.length = k) (hk : k < 64) (y : Nat) : RefW w (wr.setCell ⟨w.heap.size + 1, k, none⟩ (wv y)) gb ob b (y :: r) := by
  have hw := h.wds.set (i := k) hk (wv y)
  rw [wds_put hl hk y] at hw
  have hb2 : Below w.heap.size w (wr.setCell ⟨w.heap.size + 1, k, none⟩ (wv y)) := h.below.setCell (by simp) _
  exact ⟨fun i x hx => (((hb2.cell (p := ⟨gb, ob + i, none⟩) h.old).trans (h.below.cell (p := ⟨gb, ob + i, none⟩) h.old).symm).trans (h.blk i x hx)), h.old, h.res.other (by omega) _, hw, hb2, by simp; omega⟩
theorem refw_start (w : World) (gb ob : Nat) (b : List UInt8) (hg : gb < w.heap.size) (hb : ∀ (i : Nat) (x : UInt8), b[i]? = some x → w.cell? ⟨gb, ob + i, none⟩ = some (Wire.bv x)) (c1 c2 : Array Value) (h1 : c1.toList = zw 64) (h2 : c2.toList = zw 64) (t2 t3 : TypeId) :
    RefW w ((w.alloc (.cells c1 t2)).alloc (.cells c2 t3)) gb ob b [] := by
  have s1 : c1.size = 64 := by rw [← Array.length_toList, h1]; rfl
  have s2 : c2.size = 64 := by rw [← Array.length_toList, h2]; rfl
  have hbl : Below w.heap.size w ((w.alloc (.cells c1 t2)).alloc (.cells c2 t3)) := ((Below.refl _ _).alloc (Nat.le_refl _) _).alloc (by simp) _
  refine ⟨fun i x hx => (hbl.cell (p := ⟨gb, ob + i, none⟩) hg).trans (hb i x hx), hg, ?_, ?_, hbl, by simp⟩
  · have h := (arr_new w c1 t2).alloc (by simp) (.cells c2 t3)
    rw [s1, h1] at h
    simpa using h
  · have h := arr_new (w.alloc (.cells c1 t2)) c2 t3
    rw [s2, h2] at h
    simpa using h
theorem wordR_at {w wr : World} {gb ob : Nat} {b : List UInt8} {r : List Nat} {t i j : Nat} (h : RefW w wr gb ob b r) (hl : r.length = t) (hb : ∀ x ∈ r, x < 4294967296) (hij : i + j + 1 = t) :
    ∃ x, r.getD j 0 = x ∧ wr.cell? ⟨w.heap.size + 1, i, none⟩ = some (wv x) ∧ x < 4294967296 := by
  have hj : j < r.length := by omega
  refine ⟨r[j], by rw [List.getD_eq_getElem?_getD, List.getElem?_eq_getElem hj]; rfl, (h.wds.at_ (i := i) ?_).1, hb _ (List.getElem_mem hj)⟩
  rw [List.getElem?_append_left (by simp; omega), List.getElem?_map, List.getElem?_reverse (by omega), show r.length - 1 - i = j by omega, List.getElem?_eq_getElem hj]
  rfl

theorem nxtR_steps (u x v z : Nat) (_lu : u < 4294967296) (lx : x < 4294967296) (_lv : v < 4294967296) (lz : z < 4294967296) :
    ∃ p7 p18 s1 d1 s2 a1 a2 p17 p19 s3 d2 s4 y : Nat,
      (∀ W, Calls Tryd.prog 39 #[.int .u32 (x : Int), .int .i64 7] W fun e w' => e = .returned (.int .u32 (p7 : Int)) ∧ ∃ k, w' = W.drewN k) ∧
      (∀ W, Calls Tryd.prog 39 #[.int .u32 (x : Int), .int .i64 18] W fun e w' => e = .returned (.int .u32 (p18 : Int)) ∧ ∃ k, w' = W.drewN k) ∧
      (∀ W, Calls Tryd.prog 39 #[.int .u32 (z : Int), .int .i64 17] W fun e w' => e = .returned (.int .u32 (p17 : Int)) ∧ ∃ k, w' = W.drewN k) ∧
      (∀ W, Calls Tryd.prog 39 #[.int .u32 (z : Int), .int .i64 19] W fun e w' => e = .returned (.int .u32 (p19 : Int)) ∧ ∃ k, w' = W.drewN k) ∧
      bits .xor .u32 (p7 : Int) (p18 : Int) = (s1 : Int) ∧ (x : Int) / 8 = (d1 : Int) ∧ bits .xor .u32 (s1 : Int) (d1 : Int) = (s2 : Int) ∧ IntKind.u32.wrap ((u : Int) + (s2 : Int)) = (a1 : Int) ∧ IntKind.u32.wrap ((a1 : Int) + (v : Int)) = (a2 : Int) ∧
      bits .xor .u32 (p17 : Int) (p19 : Int) = (s3 : Int) ∧ (z : Int) / 1024 = (d2 : Int) ∧ bits .xor .u32 (s3 : Int) (d2 : Int) = (s4 : Int) ∧ IntKind.u32.wrap ((a2 : Int) + (s4 : Int)) = (y : Int) ∧ y = add (add (add u (sm0 x)) v) (sm1 z) ∧ y < 4294967296 :=
  ⟨rotr x 7, rotr x 18, _, x / 8, _, _, _, rotr z 17, rotr z 19, _, z / 1024, _, _,
    fun W => refRotr_any x 7 W lx (by omega) (by omega), fun W => refRotr_any x 18 W lx (by omega) (by omega),
    fun W => refRotr_any z 17 W lz (by omega) (by omega), fun W => refRotr_any z 19 W lz (by omega) (by omega),
    xor32 (rotr_lt 7 lx) (rotr_lt 18 lx), rfl, xor32 (xor_lt (rotr_lt 7 lx) (rotr_lt 18 lx)) (div_lt 8 lx), add32 _ _, add32 _ _,
    xor32 (rotr_lt 17 lz) (rotr_lt 19 lz), rfl, xor32 (xor_lt (rotr_lt 17 lz) (rotr_lt 19 lz)) (div_lt 1024 lz), add32 _ _, rfl, add_lt _ _⟩

set_option maxRecDepth 100000 in
set_option maxHeartbeats 1000000 in
theorem words_any (b : List UInt8) (gb ob c : Nat) (w : World) (hb : b.length = 64) (hg : gb < w.heap.size) (hbs : ∀ (i : Nat) (x : UInt8), b[i]? = some x → w.cell? ⟨gb, ob + i, none⟩ = some (Wire.bv x)) :
    Calls Tryd.prog 38 #[.slice (some ⟨gb, ob, none⟩) 64 c] w (GivesA ((ws b).map wv) w) := by
  have HB := Lib.hid hb; clear hb
  have HG0 := Lib.hid hg; clear hg
  have HBS := Lib.hid hbs; clear hbs
  go_enter Tryd.func38, Tryd.ntmps38
  go_wp2
  go_loopw [4] (fun iv wr => ∃ (k : Nat), k ≤ 16 ∧ iv = .int .i64 (k : Int) ∧ RefW w wr gb ob b (firsts b k)) (fun iv _ => (16 - intOf iv).toNat)
  case atStart =>
    exact ⟨0, by omega, rfl, refw_start w gb ob b HG0.out HBS.out _ _ rfl rfl _ _⟩
  case round =>
    obtain ⟨k, hk, rfl, hr⟩ := hrel
    by_cases hlt : k < 16
    · obtain ⟨x0, h0⟩ : ∃ x, b[4 * k]? = some x := ⟨_, List.getElem?_eq_getElem (by have := HB.out; omega)⟩
      obtain ⟨x1, h1⟩ : ∃ x, b[4 * k + 1]? = some x := ⟨_, List.getElem?_eq_getElem (by have := HB.out; omega)⟩
      obtain ⟨x2, h2⟩ : ∃ x, b[4 * k + 2]? = some x := ⟨_, List.getElem?_eq_getElem (by have := HB.out; omega)⟩
      obtain ⟨x3, h3⟩ : ∃ x, b[4 * k + 3]? = some x := ⟨_, List.getElem?_eq_getElem (by have := HB.out; omega)⟩
      have hword := word_of h0 h1 h2 h3
      have c0 := hr.blk (4 * k) x0 h0
      have c1 := hr.blk (4 * k + 1) x1 h1
      have c2 := hr.blk (4 * k + 2) x2 h2
      have c3 := hr.blk (4 * k + 3) x3 h3
      clear h0 h1 h2 h3
      have e0 : IntKind.i64.wrap (4 * (k : Int)) = ((4 * k : Nat) : Int) := by rw [IntWalk.i64_in _ (by omega)]; omega
      have e1 : IntKind.i64.wrap (((4 * k : Nat) : Int) + 1) = ((4 * k + 1 : Nat) : Int) := by rw [IntWalk.i64_in _ (by omega)]; omega
      have e2 : IntKind.i64.wrap (((4 * k : Nat) : Int) + 2) = ((4 * k + 2 : Nat) : Int) := by rw [IntWalk.i64_in _ (by omega)]; omega
      have e3 : IntKind.i64.wrap (((4 * k : Nat) : Int) + 3) = ((4 * k + 3 : Nat) : Int) := by rw [IntWalk.i64_in _ (by omega)]; omega
      obtain ⟨m0, m1, m2, n1, n2, v0, v1, v2, o1, o2, o3, hy⟩ := word_steps hword
      obtain ⟨y, hyw⟩ : ∃ y, y = word b k := ⟨_, rfl⟩
      rw [← hyw] at o3 hy
      have HW := Lib.hid hyw; clear hyw hword
      obtain ⟨p1, hp1⟩ : ∃ p, p = 4 * k + 1 := ⟨_, rfl⟩
      obtain ⟨p2, hp2⟩ : ∃ p, p = 4 * k + 2 := ⟨_, rfl⟩
      obtain ⟨p3, hp3⟩ : ∃ p, p = 4 * k + 3 := ⟨_, rfl⟩
      obtain ⟨p0, hp0⟩ : ∃ p, p = 4 * k := ⟨_, rfl⟩
      rw [← hp1] at c1 e1
      rw [← hp2] at c2 e2
      rw [← hp3] at c3 e3
      rw [← hp0] at c0 e0 e1 e2 e3
      have z0 : (0 : Int) ≤ (p0 : Int) := by omega
      have z1 : (p0 : Int) < 64 := by omega
      have z2 : (0 : Int) ≤ (p1 : Int) := by omega
      have z3 : (p1 : Int) < 64 := by omega
      have z4 : (0 : Int) ≤ (p2 : Int) := by omega
      have z5 : (p2 : Int) < 64 := by omega
      have z6 : (0 : Int) ≤ (p3 : Int) := by omega
      have z7 : (p3 : Int) < 64 := by omega
      have z8 : (0 : Int) ≤ (k : Int) := by omega
      have z9 : (k : Int) < 64 := by omega
      have w0 := wrap_u8 x0
      have w1 := wrap_u8 x1
      have w2 := wrap_u8 x2
      have w3 := wrap_u8 x3
      clear hp0 hp1 hp2 hp3
      unfold Wire.bv at c0 c1 c2 c3
      have hr2 := hr.drew
      have hfin : ∀ w2, RefW w w2 gb ob b (firsts b k) → RefW w (w2.setCell ⟨w.heap.size + 1, k, none⟩ (.int .u32 (y : Int))) gb ob b (firsts b (k + 1)) := fun w2 h2 => by
        rw [show firsts b (k + 1) = y :: firsts b k by rw [HW.out]; rfl]
        exact h2.put (firsts_length b k) (by omega) y
      have HF := Lib.hid hfin; clear hfin
      go_wp2
      go_still_tail 34, (by kernel_rfl)
      change wpList _ _ _ _ _ wr.drew
      revert hr2
      generalize wr.drew = w2
      intro hr2
      obtain ⟨q1, q2⟩ := hr2.wds.at_ (i := k) (u := wv 0) (wds_at (firsts_length b k) (by omega))
      clear c0 c1 c2 c3 hr
      unfold wv at q1
      go_wp2
      go_roundw
      case rel => exact ⟨k + 1, by omega, by go_num, HF.out _ hr2⟩
      case measure => simp [intOf]; omega
    · have hk16 : k = 16 := by omega
      have hr0 : RefW w wr gb ob b (sch b 0) := by rw [hk16] at hr; exact hr
      have z16 : ¬ (k : Int) < 16 := by omega
      clear hr hk16 hlt hk
      go_wp2
      go_loopw [5] (fun iv wq => ∃ (j : Nat), j ≤ 48 ∧ iv = .int .i64 (((16 + j : Nat) : Nat) : Int) ∧ RefW w wq gb ob b (sch b j)) (fun iv _ => (64 - intOf iv).toNat)
      case atStart => exact ⟨0, by omega, rfl, hr0⟩
      case round =>
        obtain ⟨j, hj, rfl, hq⟩ := hrel
        clear hr0
        obtain ⟨t, ht⟩ : ∃ t, t = 16 + j := ⟨_, rfl⟩
        rw [← ht]
        have HT := Lib.hid ht
        by_cases hjt : j < 48
        · have ht1 : 16 ≤ t := by omega
          have ht2 : t < 64 := by omega
          clear ht
          obtain ⟨r, hrs⟩ : ∃ r, r = sch b j := ⟨_, rfl⟩
          have hrl : r.length = t := by rw [hrs, sch_length, HT.out]
          have hrb : ∀ x ∈ r, x < 4294967296 := by rw [hrs]; exact sch_lt b j
          have hsn : sch b (j + 1) = nxt r :: r := by rw [hrs]; rfl
          rw [← hrs] at hq
          obtain ⟨x, g14, c14, l14⟩ := wordR_at hq hrl hrb (i := t - 15) (j := 14) (by omega)
          obtain ⟨z, g1, c1, l1⟩ := wordR_at hq hrl hrb (i := t - 2) (j := 1) (by omega)
          obtain ⟨u, g15, c15, l15⟩ := wordR_at hq hrl hrb (i := t - 16) (j := 15) (by omega)
          obtain ⟨v, g6, c6, l6⟩ := wordR_at hq hrl hrb (i := t - 7) (j := 6) (by omega)
          have hnx := nxt_of g15 g14 g6 g1
          obtain ⟨p7, p18, s1, d1, s2, a1, a2, p17, p19, s3, d2, s4, y, cc7, cc18, cc17, cc19, e1, e2, e3, e4, e5, e6, e7, e8, e9, hy, hyl⟩ := nxtR_steps u x v z l15 l14 l6 l1
          have HN := Lib.hid (hy.trans hnx.symm)
          have HS := Lib.hid hsn
          have HR := Lib.hid hrl
          have f0 : IntKind.i64.wrap ((t : Int) - 15) = ((t - 15 : Nat) : Int) := by rw [IntWalk.i64_in _ (by omega)]; omega
          have f1 : IntKind.i64.wrap ((t : Int) - 2) = ((t - 2 : Nat) : Int) := by rw [IntWalk.i64_in _ (by omega)]; omega
          have f2 : IntKind.i64.wrap ((t : Int) - 16) = ((t - 16 : Nat) : Int) := by rw [IntWalk.i64_in _ (by omega)]; omega
          have f3 : IntKind.i64.wrap ((t : Int) - 7) = ((t - 7 : Nat) : Int) := by rw [IntWalk.i64_in _ (by omega)]; omega
          obtain ⟨t15, h15⟩ : ∃ p, p = t - 15 := ⟨_, rfl⟩
          obtain ⟨t2, h2⟩ : ∃ p, p = t - 2 := ⟨_, rfl⟩
          obtain ⟨t16, h16⟩ : ∃ p, p = t - 16 := ⟨_, rfl⟩
          obtain ⟨t7, h7⟩ : ∃ p, p = t - 7 := ⟨_, rfl⟩
          rw [← h15] at f0 c14
          rw [← h2] at f1 c1
          rw [← h16] at f2 c15
          rw [← h7] at f3 c6
          have z0 : (0 : Int) ≤ (t15 : Int) := by omega
          have z1 : (t15 : Int) < 64 := by omega
          have z2 : (0 : Int) ≤ (t2 : Int) := by omega
          have z3 : (t2 : Int) < 64 := by omega
          have z4 : (0 : Int) ≤ (t16 : Int) := by omega
          have z5 : (t16 : Int) < 64 := by omega
          have z6 : (0 : Int) ≤ (t7 : Int) := by omega
          have z7 : (t7 : Int) < 64 := by omega
          have z8 : (0 : Int) ≤ (t : Int) := by omega
          have z9 : (t : Int) < 64 := by omega
          clear h15 h2 h16 h7 hy hnx hsn hrl hrb hrs g15 g14 g6 g1
          unfold wv at c14 c1 c15 c6
          go_wp2
          go_quiet ((first
            | (with_reducible exact Calls.quiet_of (cc7 _))
            | (with_reducible exact Calls.quiet_of (cc18 _))))
          go_wp2
          have hq2 := hq.drewN nq
          have d15 : (wr.drewN nq).cell? ⟨w.heap.size + 1, t16, none⟩ = some (.int .u32 (u : Int)) := c15
          have d6 : (wr.drewN nq).cell? ⟨w.heap.size + 1, t7, none⟩ = some (.int .u32 (v : Int)) := c6
          have d1' : (wr.drewN nq).cell? ⟨w.heap.size + 1, t2, none⟩ = some (.int .u32 (z : Int)) := c1
          clear c14 c1 c15 c6 hq
          revert hq2 d15 d6 d1'
          generalize wr.drewN nq = w3
          intro hq2 d15 d6 d1'
          clear nq
          go_quiet ((first
            | (with_reducible exact Calls.quiet_of (cc17 _))
            | (with_reducible exact Calls.quiet_of (cc19 _))))
          go_wp2
          replace hq2 := hq2.drewN nq
          replace d15 : (w3.drewN nq).cell? ⟨w.heap.size + 1, t16, none⟩ = some (.int .u32 (u : Int)) := d15
          replace d6 : (w3.drewN nq).cell? ⟨w.heap.size + 1, t7, none⟩ = some (.int .u32 (v : Int)) := d6
          clear d1'
          revert hq2 d15 d6
          generalize w3.drewN nq = w4
          intro hq2 d15 d6
          replace hq2 := hq2.drew
          go_still_tail 14, (by kernel_rfl)
          change wpList _ _ _ _ _ w4.drew
          clear d15 d6
          revert hq2
          generalize w4.drew = w2
          intro hq2
          obtain ⟨q1, q2⟩ := hq2.wds.at_ (i := t) (u := wv 0) (wds_at HR.out (by omega))
          unfold wv at q1
          have hfin : RefW w (w2.setCell ⟨w.heap.size + 1, t, none⟩ (.int .u32 (y : Int))) gb ob b (sch b (j + 1)) := by
            rw [HS.out, ← HN.out]
            exact hq2.put HR.out (by omega) y
          have HF := Lib.hid hfin; clear hfin
          go_wp2
          go_roundw
          case rel => exact ⟨j + 1, by omega, congrArg (Value.int .i64) (by have := HT.out; omega), HF.out⟩
          case measure => simp [intOf]; omega
        · obtain rfl : j = 48 := by omega
          obtain rfl : t = 64 := HT.out
          have hrg : wr.rangeAt (w.heap.size + 1) 0 ((ws b).map wv) := by
            have h := hq.wds.range
            rwa [show 64 - (sch b 48).length = 0 by rw [sch_length], show zw 0 = [] from rfl, List.append_nil] at h
          have hth : wr.there w.heap.size 0 64 := hq.res.there
          have hsz : ((ws b).map wv).length = 64 := by simp [ws, sch_length]
          have hv : Tryd.prog.underlying 74 = some (.array 64 62) := by kernel_rfl
          have hi : (Tryd.prog.info? 74).map (·.size) = some ((ws b).map wv).length := by rw [hsz]; kernel_rfl
          have hi2 : (Tryd.prog.info? 74).map (·.size) = some ((ws b).map wv).toArray.size := by rw [List.size_toArray]; exact hi
          have hsz2 : ((ws b).map wv).toArray.size = 64 := by simp [ws, sch_length]
          have hth2 : wr.there w.heap.size 0 ((ws b).map wv).toArray.size := by rw [hsz2]; exact hth
          have hend := arr_end (w := w) (wr := wr) (g := w.heap.size) (xs := (ws b).map wv) 74 hq.below (by omega) (by rw [hsz]; exact hth) hv rfl hi
          have HG := Lib.hid hrg
          have HTH := Lib.hid hth2
          have HE := Lib.hid hend
          have HV := Lib.hid hv
          have HI := Lib.hid hi
          have HI2 := Lib.hid hi2
          clear hrg hth hth2 hsz hsz2 hq hend hv hi hi2
          go_wp2_with (first
            | ((with_reducible refine at_slot 100 rfl ?_); refine wpList_load_mid rfl 74 (.tmp 3) rfl (w.heap.size + 1) 0 rfl ((ws b).map wv) _ HG.out HV.out rfl HI.out ?_)
            | ((with_reducible refine at_store 74 (.tmp 2) (.tmp 100) rfl ?_); refine wpList_store_mid rfl 74 (.tmp 2) (.tmp 100) rfl w.heap.size 0 ((ws b).map wv).toArray rfl rfl HTH.out HI2.out (words_one _) ?_))
          refine bodyPost_ret (v := .agg ((ws b).map wv).toArray) ?_ rfl ⟨rfl, HE.out.2⟩
          simp [results, Tryd.results38, asAddr]
          rw [HE.out.1]

end Hash
end Go.Proofs.YtoenkckoomfgeaaDoor
