/- The reference's Sum. Condition: the table of round constants reads as the program lays it; at most a million bytes. -/
import Derived.Test.YtoenkckoomfgeaaDoorHRefW
import Derived.Test.YtoenkckoomfgeaaDoorHFun
namespace Go.Proofs.YtoenkckoomfgeaaDoor
open Go.RowKit
namespace Hash
open Wire (Lies)

structure RefA (w W : World) (gT : Nat) (A : Option Addr) (n c : Nat) (x : List UInt8) : Prop where
  res : Arr W w.heap.size 32 z32.toList
  wds : Arr W (w.heap.size + 1) 8 (h0.map wv)
  tab : Table gT W
  arg : Lies W W.heap.size 1 A n c (x.map Wire.bv)
  size : W.heap.size = w.heap.size + 2
  below : Below w.heap.size w W
  low : gT < w.heap.size
theorem refA_start {w : World} {gT n c : Nat} {A : Option Addr} {x : List UInt8} (hl : Lies w w.heap.size 1 A n c (x.map Wire.bv)) (ht : Table gT w) (cs : Array Value) (hcs : cs.toList = h0.map wv) (t1 t2 : TypeId) :
    RefA w ((w.alloc (.cells z32 t1)).alloc (.cells cs t2)) gT A n c x := by
  have hb : Below w.heap.size w ((w.alloc (.cells z32 t1)).alloc (.cells cs t2)) := ((Below.refl _ _).alloc (Nat.le_refl _) _).alloc (by simp) _
  have s1 : cs.size = 8 := by rw [← Array.length_toList, hcs]; rfl
  refine ⟨?_, ?_, tabj ht hb, lies_on hl hb, by simp, hb, ht.size⟩
  · have h := (arr_new w z32 t1).alloc (by simp) (.cells cs t2)
    rwa [z32_size] at h
  · have h := arr_new (w.alloc (.cells z32 t1)) cs t2
    rw [s1, hcs] at h
    simpa using h

/-- Between two blocks: the words so far, the padded message, the result's place. -/
structure RefS (w wr : World) (gT gM : Nat) (m : List UInt8) (hs : List Nat) : Prop where
  res : Arr wr w.heap.size 32 z32.toList
  wds : Arr wr (w.heap.size + 1) 8 (hs.map wv)
  msg : ∀ (i : Nat) (x : UInt8), m[i]? = some x → wr.cell? ⟨gM, i, none⟩ = some (Wire.bv x)
  far : w.heap.size + 2 ≤ gM ∧ gM < wr.heap.size
  tab : Table gT wr
  below : Below w.heap.size w wr
  low : gT < w.heap.size
theorem refS_start {w W w1 : World} {gT n c gM cap l : Nat} {A : Option Addr} {x m : List UInt8} (h : RefA w W gT A n c x) (hm : m.length = l) (hown : w1.ownsRow W.heap.size 5 1 (.slice (some ⟨gM, 0, none⟩) l cap) l (m.map Wire.bv)) (hb : Below W.heap.size W w1) :
    RefS w w1 gT gM m h0 := by
  have hsz := h.size
  have hg : w.heap.size + 2 ≤ gM ∧ gM < w1.heap.size := by
    have := hown.lt gM rfl
    omega
  refine ⟨h.res.below hb (by omega), h.wds.below hb (by omega), fun i y hy => ?_, hg, tabj h.tab hb, bcj h.below hb, h.low⟩
  have hi : i < m.length := (List.getElem?_eq_some_iff.1 hy).1
  rw [hown.cellAt i (by omega), List.getElem?_map, hy]
  rfl
theorem RefS.on {w wr w2 : World} {gT gM : Nat} {m : List UInt8} {hs : List Nat} (h : RefS w wr gT gM m hs) (hb : Below wr.heap.size wr w2) : RefS w w2 gT gM m hs :=
  ⟨h.res.below hb (h.res.size (by omega)), h.wds.below hb (h.wds.size (by omega)), fun i x hx => (hb.cell (p := ⟨gM, i, none⟩) h.far.2).trans (h.msg i x hx), ⟨h.far.1, Nat.lt_of_lt_of_le h.far.2 hb.size⟩, tabj h.tab hb, bcj h.below hb, h.low⟩
/-- In a block: its schedule too. -/
structure RefQ (w W : World) (gT gM gW : Nat) (m : List UInt8) (hs : List Nat) (ss : List Nat) : Prop where
  base : RefS w W gT gM m hs
  sch : Arr W gW 64 (ss.map wv)
  far : gM < gW ∧ gW < W.heap.size
theorem RefS.sched {w W : World} {gT gM : Nat} {m : List UInt8} {hs : List Nat} (h : RefS w W gT gM m hs) (b : List UInt8) (c : Array Value) (hc : c.size = 64) (t : TypeId) :
    RefQ w ((W.alloc (.cells c t)).setCells W.heap.size 0 ((ws b).map wv)) gT gM W.heap.size m hs (ws b) := by
  have hba : Below W.heap.size W (W.alloc (.cells c t)) := (Below.refl _ _).alloc (Nat.le_refl _) _
  have hbb : Below W.heap.size W ((W.alloc (.cells c t)).setCells W.heap.size 0 ((ws b).map wv)) := hba.trans (below_cells (Nat.le_refl _) _ _ _)
  have hn := arr_new W c t
  rw [hc] at hn
  have ho := hn.over (ys := (ws b).map wv) (by rw [List.length_map, ws_length])
  exact ⟨h.on hbb, ho, h.far.2, ho.size (by omega)⟩
/-- .. and the words under way. -/
structure RefR (w W : World) (gT gM gW gV : Nat) (m : List UInt8) (hs ss vs : List Nat) : Prop where
  base : RefS w W gT gM m hs
  sch : Arr W gW 64 (ss.map wv)
  vv : Arr W gV 8 (vs.map wv)
  far : gM < gW ∧ gW < gV ∧ gV < W.heap.size
theorem RefQ.words {w W : World} {gT gM gW : Nat} {m : List UInt8} {hs ss vs : List Nat} (h : RefQ w W gT gM gW m hs ss) (hv : vs.length = 8) (c : Array Value) (hc : c.size = 8) (t : TypeId) :
    RefR w ((W.alloc (.cells c t)).setCells W.heap.size 0 (vs.map wv)) gT gM gW W.heap.size m hs ss vs := by
  have hba : Below W.heap.size W (W.alloc (.cells c t)) := (Below.refl _ _).alloc (Nat.le_refl _) _
  have hbb : Below W.heap.size W ((W.alloc (.cells c t)).setCells W.heap.size 0 (vs.map wv)) := hba.trans (below_cells (Nat.le_refl _) _ _ _)
  have hn := arr_new W c t
  rw [hc] at hn
  have ho := hn.over (ys := vs.map wv) (by rw [List.length_map, hv])
  exact ⟨h.base.on hbb, h.sch.below hbb h.far.2, ho, h.far.1, h.far.2, ho.size (by omega)⟩
theorem fresh8 (W : World) (c : Array Value) (t : TypeId) (vs : List Nat) (hc : c.size = 8) (hv : vs.length = 8) : (W.alloc (.cells c t)).there W.heap.size 0 (vs.map wv).toArray.size := by
  have h := (arr_new W c t).there
  rw [hc] at h
  rw [show (vs.map wv).toArray.size = 8 by simp [hv]]
  exact h
theorem i8w {vs : List Nat} (hv : vs.length = 8) : (Tryd.prog.info? 63).map (·.size) = some (vs.map wv).toArray.size := by rw [show (vs.map wv).toArray.size = 8 by simp [hv]]; exact info8w
theorem i8l {vs : List Nat} (hv : vs.length = 8) : (Tryd.prog.info? 63).map (·.size) = some (vs.map wv).length := by rw [List.length_map, hv]; exact info8w
theorem RefS.onB {w wr w2 : World} {gT gM B : Nat} {m : List UInt8} {hs : List Nat} (h : RefS w wr gT gM m hs) (hB : gM < B) (hb : Below B wr w2) : RefS w w2 gT gM m hs :=
  ⟨h.res.below hb (by have := h.far.1; omega), h.wds.below hb (by have := h.far.1; omega), fun i x hx => (hb.cell (p := ⟨gM, i, none⟩) hB).trans (h.msg i x hx), ⟨h.far.1, Nat.lt_of_lt_of_le h.far.2 hb.size⟩, h.tab.below hb (by have := h.far.1; have := h.low; omega), h.below.trans (hb.mono (by have := h.far.1; omega)), h.low⟩
theorem RefR.drewN {w W : World} {gT gM gW gV : Nat} {m : List UInt8} {hs ss vs : List Nat} (h : RefR w W gT gM gW gV m hs ss vs) (k : Nat) : RefR w (W.drewN k) gT gM gW gV m hs ss vs :=
  ⟨⟨h.base.res.drew k, h.base.wds.drew k, h.base.msg, h.base.far, h.base.tab, ⟨h.base.below.os, h.base.below.tape, h.base.below.output, h.base.below.size, h.base.below.block⟩, h.base.low⟩, h.sch.drew k, h.vv.drew k, h.far⟩
theorem RefR.putV {w W : World} {gT gM gW gV : Nat} {m : List UInt8} {hs ss vs : List Nat} (h : RefR w W gT gM gW gV m hs ss vs) (us : List Nat) (hu : us.length = 8) : RefR w (W.setCells gV 0 (us.map wv)) gT gM gW gV m hs ss us := by
  have hb : Below gV W (W.setCells gV 0 (us.map wv)) := below_cells (Nat.le_refl _) _ _ _
  have ho := h.vv.over (ys := us.map wv) (by rw [List.length_map, hu])
  exact ⟨h.base.onB (by have := h.far; omega) hb, h.sch.below hb h.far.2.1, ho, h.far.1, h.far.2.1, ho.size (by omega)⟩
theorem RefR.putS {w W : World} {gT gM gW gV : Nat} {m : List UInt8} {hs ss vs : List Nat} (h : RefR w W gT gM gW gV m hs ss vs) {i : Nat} (hi : i < 8) (y : Nat) : RefR w (W.setCell ⟨w.heap.size + 1, i, none⟩ (wv y)) gT gM gW gV m (hs.set i y) ss vs := by
  have hf := h.far
  have hm := h.base.far
  have hw := h.base.wds.set (i := i) hi (wv y)
  rw [← List.map_set] at hw
  have hb2 : Below w.heap.size w (W.setCell ⟨w.heap.size + 1, i, none⟩ (wv y)) := h.base.below.setCell (by simp) _
  have hsz : (W.setCell ⟨w.heap.size + 1, i, none⟩ (wv y)).heap.size = W.heap.size := World.size_setCell _ _ _
  exact ⟨⟨h.base.res.other (by omega) _, hw, fun j x hx => (World.cell?_setCell_other _ _ _ _ (by intro e; cases e; omega)).trans (h.base.msg j x hx), ⟨hm.1, by omega⟩,
    fun j hj => (World.cell?_setCell_other _ _ _ _ (by intro e; cases e; have := h.base.low; omega)).trans (h.base.tab j hj), hb2, h.base.low⟩, h.sch.other (by omega) _, h.vv.other (by omega) _, hf.1, hf.2.1, by omega⟩
theorem after_zero {hs : List Nat} (b : List UInt8) (hl : hs.length = 8) : (after hs b 0).list = hs := by
  obtain ⟨a, b1, c, d, e, f, g, h, rfl⟩ := eight hl
  rfl
theorem rotrR_call (x n : Nat) (hx : x < 4294967296) (h1 : 1 ≤ n) (h2 : n ≤ 31) (W : World) :
    Calls Tryd.prog 39 #[.int .u32 (x : Int), .int .i64 (n : Int)] W fun e w' => e = .returned (.int .u32 (rotr x n : Int)) ∧ ∃ k, w' = W.drewN k := refRotr_any x n W hx h1 h2
theorem rndR_steps {s : St} (hs : Fits s) (k w : Nat) :
    ∃ p6 p11 p25 p2 p13 p22 s1 s2 q1 n1 m1 n2 s3 q2 q3 x s4 s5 o1 o2 o3 s6 s7 y e' a' : Nat,
      (∀ W, Calls Tryd.prog 39 #[.int .u32 (s.e : Int), .int .i64 6] W fun e w' => e = .returned (.int .u32 (p6 : Int)) ∧ ∃ k, w' = W.drewN k) ∧
      (∀ W, Calls Tryd.prog 39 #[.int .u32 (s.e : Int), .int .i64 11] W fun e w' => e = .returned (.int .u32 (p11 : Int)) ∧ ∃ k, w' = W.drewN k) ∧
      (∀ W, Calls Tryd.prog 39 #[.int .u32 (s.e : Int), .int .i64 25] W fun e w' => e = .returned (.int .u32 (p25 : Int)) ∧ ∃ k, w' = W.drewN k) ∧
      (∀ W, Calls Tryd.prog 39 #[.int .u32 (s.a : Int), .int .i64 2] W fun e w' => e = .returned (.int .u32 (p2 : Int)) ∧ ∃ k, w' = W.drewN k) ∧
      (∀ W, Calls Tryd.prog 39 #[.int .u32 (s.a : Int), .int .i64 13] W fun e w' => e = .returned (.int .u32 (p13 : Int)) ∧ ∃ k, w' = W.drewN k) ∧
      (∀ W, Calls Tryd.prog 39 #[.int .u32 (s.a : Int), .int .i64 22] W fun e w' => e = .returned (.int .u32 (p22 : Int)) ∧ ∃ k, w' = W.drewN k) ∧
      bits .xor .u32 (p6 : Int) (p11 : Int) = (s1 : Int) ∧ bits .xor .u32 (s1 : Int) (p25 : Int) = (s2 : Int) ∧ IntKind.u32.wrap ((s.h : Int) + (s2 : Int)) = (q1 : Int) ∧
      bits .and .u32 (s.e : Int) (s.f : Int) = (n1 : Int) ∧ bits .xor .u32 (s.e : Int) 4294967295 = (m1 : Int) ∧ bits .and .u32 (m1 : Int) (s.g : Int) = (n2 : Int) ∧ bits .xor .u32 (n1 : Int) (n2 : Int) = (s3 : Int) ∧
      IntKind.u32.wrap ((q1 : Int) + (s3 : Int)) = (q2 : Int) ∧ IntKind.u32.wrap ((q2 : Int) + (k : Int)) = (q3 : Int) ∧ IntKind.u32.wrap ((q3 : Int) + (w : Int)) = (x : Int) ∧
      bits .xor .u32 (p2 : Int) (p13 : Int) = (s4 : Int) ∧ bits .xor .u32 (s4 : Int) (p22 : Int) = (s5 : Int) ∧ bits .and .u32 (s.a : Int) (s.b : Int) = (o1 : Int) ∧ bits .and .u32 (s.a : Int) (s.c : Int) = (o2 : Int) ∧
      bits .xor .u32 (o1 : Int) (o2 : Int) = (s6 : Int) ∧ bits .and .u32 (s.b : Int) (s.c : Int) = (o3 : Int) ∧ bits .xor .u32 (s6 : Int) (o3 : Int) = (s7 : Int) ∧
      IntKind.u32.wrap ((s5 : Int) + (s7 : Int)) = (y : Int) ∧ ((s.d : Int) + (x : Int)) % 4294967296 = (e' : Int) ∧ ((x : Int) + (y : Int)) % 4294967296 = (a' : Int) ∧
      rnd s (k, w) = ⟨a', s.a, s.b, s.c, e', s.e, s.f, s.g⟩ :=
  ⟨rotr s.e 6, rotr s.e 11, rotr s.e 25, rotr s.a 2, rotr s.a 13, rotr s.a 22, _, _, _, _, s.e ^^^ 4294967295, _, _, _, _, _, _, _, _, _, _, _, _, _, _, _,
    rotrR_call s.e 6 hs.e (by omega) (by omega), rotrR_call s.e 11 hs.e (by omega) (by omega), rotrR_call s.e 25 hs.e (by omega) (by omega), rotrR_call s.a 2 hs.a (by omega) (by omega), rotrR_call s.a 13 hs.a (by omega) (by omega), rotrR_call s.a 22 hs.a (by omega) (by omega),
    xor32 (rotr_lt 6 hs.e) (rotr_lt 11 hs.e), xor32 (xor_lt (rotr_lt 6 hs.e) (rotr_lt 11 hs.e)) (rotr_lt 25 hs.e), add32 _ _,
    and32 hs.e hs.f, xor32 (b := 4294967295) hs.e (by omega), and32 (xor_lt hs.e (by omega)) hs.g, xor32 (and_lt hs.f) (and_lt hs.g), add32 _ _, add32 _ _, add32 _ _,
    xor32 (rotr_lt 2 hs.a) (rotr_lt 13 hs.a), xor32 (xor_lt (rotr_lt 2 hs.a) (rotr_lt 13 hs.a)) (rotr_lt 22 hs.a), and32 hs.a hs.b, and32 hs.a hs.c, xor32 (and_lt hs.b) (and_lt hs.c), and32 hs.b hs.c, xor32 (xor_lt (and_lt hs.b) (and_lt hs.c)) (and_lt hs.c),
    add32 _ _, add_mod _ _, add_mod _ _, rfl⟩

/-- While the result is written. -/
structure RefO (w w1 wq : World) (hs : List Nat) (i : Nat) : Prop where
  res : Arr wq w.heap.size 32 z32.toList
  wds : Arr wq (w.heap.size + 1) 8 (hs.map wv)
  out : Arr wq w1.heap.size 32 (((hs.flatMap wordBytes).take i ++ zeros (32 - i)).map Wire.bv)
  far : w.heap.size + 2 ≤ w1.heap.size
  below : Below w.heap.size w wq
theorem refO_start {w w1 : World} {gT gM : Nat} {m : List UInt8} {hs : List Nat} (h : RefS w w1 gT gM m hs) (t : TypeId) : RefO w w1 (w1.alloc (.cells z32 t)) hs 0 := by
  have hb : Below w1.heap.size w1 (w1.alloc (.cells z32 t)) := (Below.refl _ _).alloc (Nat.le_refl _) _
  have hf := h.far
  refine ⟨h.res.below hb (by omega), h.wds.below hb (by omega), ?_, by omega, bcj h.below hb⟩
  have hn := arr_new w1 z32 t
  rw [z32_size] at hn
  exact hn
theorem fm_at : ∀ (hs : List Nat) (q r : Nat), r < 4 → q < hs.length → (hs.flatMap wordBytes)[4 * q + r]? = (wordBytes (hs.getD q 0))[r]?
  | [], q, _, _, hq => by simp at hq
  | a :: l, 0, r, hr, _ => by
    rw [List.flatMap_cons, List.getElem?_append_left (by show _ < 4; omega)]
    simp
  | a :: l, q + 1, r, hr, hq => by
    rw [List.flatMap_cons, List.getElem?_append_right (by show 4 ≤ _; omega), show 4 * (q + 1) + r - (wordBytes a).length = 4 * q + r by show 4 * (q + 1) + r - 4 = _; omega, fm_at l q r hr (by simpa using hq)]
    simp
theorem out_byte {hs : List Nat} {i q r : Nat} (hl : hs.length = 8) (hi : i < 32) (hq : q = i / 4) (hr : r = i % 4) : ∃ b, (hs.flatMap wordBytes)[i]? = some b ∧ ((hs.getD q 0 : Nat) : Int) / 2 ^ (24 - 8 * r) % 256 = (b.toNat : Int) := by
  have h := fm_at hs q r (by omega) (by omega)
  rw [show 4 * q + r = i by omega] at h
  rw [h]
  generalize hs.getD q 0 = u
  have hu : ∀ v : Nat, (v : Int) % 256 = ((u8 v).toNat : Int) := by
    intro v
    have : (u8 v).toNat = v % 256 := by simp [u8]
    omega
  have hc : r = 0 ∨ r = 1 ∨ r = 2 ∨ r = 3 := by omega
  rcases hc with rfl | rfl | rfl | rfl
  · exact ⟨_, rfl, by rw [← hu]; omega⟩
  · exact ⟨_, rfl, by rw [← hu]; omega⟩
  · exact ⟨_, rfl, by rw [← hu]; omega⟩
  · exact ⟨_, rfl, by rw [← hu]; omega⟩
theorem fm_length (hs : List Nat) (hl : hs.length = 8) : (hs.flatMap wordBytes).length = 32 := by
  obtain ⟨a, b, c, d, e, f, g, h, rfl⟩ := eight hl
  rfl
theorem RefO.drewN {w w1 wq : World} {hs : List Nat} {i : Nat} (h : RefO w w1 wq hs i) (k : Nat) : RefO w w1 (wq.drewN k) hs i :=
  ⟨h.res.drew k, h.wds.drew k, h.out.drew k, h.far, ⟨h.below.os, h.below.tape, h.below.output, h.below.size, h.below.block⟩⟩
theorem RefO.put {w w1 wq : World} {hs : List Nat} {i : Nat} (h : RefO w w1 wq hs i) (hl : hs.length = 8) (hi : i < 32) {b : UInt8} (hb : (hs.flatMap wordBytes)[i]? = some b) : RefO w w1 (wq.setCell ⟨w1.heap.size, i, none⟩ (Wire.bv b)) hs (i + 1) := by
  have hf := h.far
  have hw := h.out.set (i := i) hi (Wire.bv b)
  have e : (((hs.flatMap wordBytes).take i ++ zeros (32 - i)).map Wire.bv).set i (Wire.bv b) = ((hs.flatMap wordBytes).take (i + 1) ++ zeros (32 - (i + 1))).map Wire.bv := by
    have h32 := fm_length hs hl
    obtain ⟨d, hd⟩ : ∃ d, 32 - i = d + 1 := ⟨31 - i, by omega⟩
    have hd2 : 32 - (i + 1) = d := by omega
    rw [← List.map_set, List.set_append_right _ _ (by simp; omega), List.take_add_one, hb, hd, hd2]
    have hm : min i (hs.flatMap wordBytes).length = i := by omega
    rw [List.length_take, hm, Nat.sub_self]
    simp [zeros, List.replicate_succ]
  rw [e] at hw
  exact ⟨h.res.other (by omega) _, h.wds.other (by omega) _, hw, hf, h.below.setCell (by simp; omega) _⟩
theorem pad_len (x : List UInt8) : ∃ K, (pad x).length = 64 * K := by
  refine ⟨(pad x).length / 64, ?_⟩
  have : (pad x).length % 64 = 0 := by
    simp only [pad, List.length_append, List.length_cons, zeros_length, lenBytes_length]
    unfold gap
    omega
  omega

theorem blk_at {m : List UInt8} {p i : Nat} {x : UInt8} (h : ((m.drop p).take 64)[i]? = some x) : m[p + i]? = some x := by
  rw [List.getElem?_take] at h
  split at h
  · rwa [List.getElem?_drop] at h
  · cases h

set_option maxRecDepth 100000 in
set_option maxHeartbeats 1000000 in
theorem refSum_any (x : List UInt8) (n c : Nat) (A : Option Addr) (w : World) (hl : Wire.Lies w w.heap.size 1 A n c (x.map Wire.bv)) (hx : x.length ≤ 1000000) (ht : Table 0 w) :
    Calls Tryd.prog 26 #[.slice A n c] w (GivesA ((sha x).map Wire.bv) w) := by
  have hz2 := zero32
  have HL := Lib.hid hl
  have HT := Lib.hid ht
  have HX := Lib.hid hx
  clear hl ht hx
  go_enter Tryd.func26, Tryd.ntmps26
  go_wp2_with (go_at_call 37; refine gen_world (G := fun W => Calls _ _ _ W _) (Pq := fun W => RefA w W 0 A n c x) (refA_start HL.out HT.out _ rfl _ _) ?_; intro w0 S0; refine (padded_any x n c A w0 S0.arg HX.out).mono ?_; rintro e w1 ⟨gM, cap, rfl, hown, hb⟩)
  have S1 := refS_start S0 rfl hown hb
  have hm : ∃ m, m = pad x := ⟨_, rfl⟩
  obtain ⟨m, hm⟩ := hm
  obtain ⟨K, hK⟩ := pad_len x
  have hsha : sha x = (blocks m K).flatMap wordBytes := by rw [hm, sha, hK, Nat.mul_div_cancel_left _ (by omega)]
  have hLx : (pad x).length ≤ 1000200 := by
    have := HX.out
    simp only [pad, List.length_append, List.length_cons, zeros_length, lenBytes_length]
    have : gap x.length < 64 := by unfold gap; omega
    omega
  have hcap : (pad x).length ≤ cap := by
    rcases hown.2 with ⟨h1, _⟩ | ⟨g1, cap1, cur, h1, _, _, h2, _⟩
    · cases h1
    · cases h1; exact h2
  have hcap2 : cap ≤ maxLen := by
    rcases hown.2 with ⟨h1, _⟩ | ⟨g1, cap1, cur, h1, _, _, _, h2, _⟩
    · cases h1
    · cases h1; exact h2
  rw [← hm] at S1 hK hLx hcap hown ⊢
  have hML : m.length = 64 * K := hK
  obtain ⟨L, hL⟩ : ∃ L, L = m.length := ⟨_, rfl⟩
  rw [← hL] at hML hK hLx hcap hown ⊢
  have HS := Lib.hid hsha
  have HL2 := Lib.hid hL
  have HK := Lib.hid hK
  clear hsha hL hK hown hb hm S0 hz2 hML
  go_loopw [5] (fun iv wr => ∃ (k p : Nat), k ≤ K ∧ p = 64 * k ∧ iv = .int .i64 (p : Int) ∧ RefS w wr 0 gM m (blocks m k)) (fun iv _ => (L - intOf iv).toNat)
  case atStart => exact ⟨0, 0, by omega, rfl, rfl, S1⟩
  case round =>
    clear S1
    obtain ⟨k, p, hk, hp, rfl, hr⟩ := hrel
    rcases Nat.lt_or_ge k K with hlt | hge
    · have z0 : (0 : Int) ≤ (p : Int) := by omega
      have z1 : (p : Int) < (L : Int) := by have := HK.out; omega
      have z2 : (p : Int) + 64 ≤ (L : Int) := by have := HK.out; omega
      have z3 : p + 64 ≤ L := by omega
      have hbl : ((m.drop p).take 64).length = 64 := by have := HL2.out; simp; omega
      have hsucc : blocks m (k + 1) = comp (blocks m k) ((m.drop p).take 64) := by rw [hp]; rfl
      obtain ⟨blk, hblk⟩ : ∃ blk, blk = (m.drop p).take 64 := ⟨_, rfl⟩
      have hbc : ∀ (i : Nat) (y : UInt8), blk[i]? = some y → m[p + i]? = some y := fun i y hy => blk_at (by rw [← hblk]; exact hy)
      rw [← hblk] at hbl hsucc
      have hwords := fun (W : World) (hW : RefS w W 0 gM m (blocks m k)) (cc : Nat) => words_any blk gM p cc W hbl hW.far.2 (fun i y hy => hW.msg _ _ (hbc i y hy))
      have HW := Lib.hid hwords
      have HSU := Lib.hid hsucc
      have HP := Lib.hid hp
      have HK1 := Lib.hid hlt
      have HBL := Lib.hid hbl
      have HBK : Hid ((blocks m k).length = 8) := Lib.hid (blocks_length m k)
      clear hwords hsucc hblk hbc hbl hk hp
      go_wp2_with (first
        | (go_at_call 38; refine (HW.out _ hr _).mono ?_; rintro e w2 ⟨rfl, hb2⟩; replace hr := hr.on hb2; clear hb2)
        | ((with_reducible refine at_store 74 (.tmp 6) (.tmp 28) rfl ?_); refine wpList_store_mid rfl 74 (.tmp 6) (.tmp 28) rfl w2.heap.size 0 ((ws blk).map wv).toArray rfl rfl (fresh64 _ _ _ _ rfl) (iw blk) (words_one _) ?_; refine gen_world (Pq := fun W => RefQ w W 0 gM w2.heap.size m (blocks m k) (ws blk)) (G := fun W => wpList _ _ _ _ _ W) (hr.sched blk _ rfl _) ?_; intro w3 S3; clear hr)
        | ((with_reducible refine at_slot 29 rfl ?_); refine wpList_load_mid rfl 63 (.tmp 3) rfl (w.heap.size + 1) 0 rfl ((blocks m k).map wv) _ S3.base.wds.range und8w rfl (i8l HBK.out) ?_)
        | ((with_reducible refine at_store 63 (.tmp 7) (.tmp 29) rfl ?_); refine wpList_store_mid rfl 63 (.tmp 7) (.tmp 29) rfl w3.heap.size 0 ((blocks m k).map wv).toArray rfl rfl (fresh8 _ _ _ _ rfl HBK.out) (i8w HBK.out) (words_one _) ?_; refine gen_world (Pq := fun W => RefR w W 0 gM w2.heap.size w3.heap.size m (blocks m k) (ws blk) (blocks m k)) (G := fun W => wpList _ _ _ _ _ W) (S3.words HBK.out _ rfl _) ?_; intro w4 S4; clear S3))
      obtain ⟨gW, hgW⟩ : ∃ g, g = w2.heap.size := ⟨_, rfl⟩
      obtain ⟨gV, hgV⟩ : ∃ g, g = w3.heap.size := ⟨_, rfl⟩
      rw [← hgW, ← hgV] at S4 ⊢
      clear hgW hgV
      have hss := HSU.out
      have hh := blocks_lt m k
      have hbk := HBK.out
      obtain ⟨hs, hhs⟩ : ∃ hs, hs = blocks m k := ⟨_, rfl⟩
      rw [← hhs] at S4 hss hh hbk
      have HH := Lib.hid hhs
      have HSS := Lib.hid hss
      have HFT := Lib.hid (after_fits blk hh)
      have HBL8 := Lib.hid hbk
      rw [← hhs]
      clear hhs hss hh hbk HBK HSU
      have S5 : RefR w w4 0 gM gW gV m hs (ws blk) (after hs blk 0).list := by rw [after_zero blk HBL8.out]; exact S4
      clear S4
      go_loopw [8] (fun iv wr => ∃ (t : Nat), t ≤ 64 ∧ iv = .int .i64 (t : Int) ∧ RefR w wr 0 gM gW gV m hs (ws blk) (after hs blk t).list) (fun iv _ => (64 - intOf iv).toNat)
      case atStart => exact ⟨0, by omega, rfl, S5⟩
      case round =>
        clear S5
        obtain ⟨t, ht, rfl, hr⟩ := hrel
        by_cases hlt : t < 64
        · have hfs := HFT.out t
          have hsucc := after_succ hs blk hlt
          have ck : wr.cell? ⟨0, t, none⟩ = some (wv (ks.getD t 0)) := hr.base.tab t hlt
          have cw : wr.cell? ⟨gW, t, none⟩ = some (wv ((ws blk).getD t 0)) := (hr.sch.at_ (i := t) (by rw [List.getElem?_map, List.getD_eq_getElem?_getD, List.getElem?_eq_getElem (by rw [ws_length]; exact hlt)]; rfl)).1
          generalize ks.getD t 0 = kt at hsucc ck
          generalize (ws blk).getD t 0 = x0 at hsucc cw
          generalize after hs blk t = s at hfs hsucc hr
          obtain ⟨p6, p11, p25, p2, p13, p22, s1, s2, q1, n1, m1, n2, s3, q2, q3, x', s4, s5, o1, o2, o3, s6, s7, y, e', a', c6, c11, c25, c2, c13, c22, e1, e2, e3, e4, e5, e6, e7, e8, e9, e10, e11, e12, e13, e14, e15, e16, e17, e18, e19, e20, hrnd⟩ := rndR_steps hfs kt x0
          have hnext := hsucc.trans hrnd
          have HN := Lib.hid hnext; clear hnext hsucc hrnd hfs
          obtain ⟨a, b1, c', d, e, f, g, h⟩ := s
          have v0 : wr.cell? ⟨gV, 0, none⟩ = some (.int .u32 (a : Int)) := (hr.vv.at_ (i := 0) rfl).1
          have v1 : wr.cell? ⟨gV, 1, none⟩ = some (.int .u32 (b1 : Int)) := (hr.vv.at_ (i := 1) rfl).1
          have v2 : wr.cell? ⟨gV, 2, none⟩ = some (.int .u32 (c' : Int)) := (hr.vv.at_ (i := 2) rfl).1
          have v3 : wr.cell? ⟨gV, 3, none⟩ = some (.int .u32 (d : Int)) := (hr.vv.at_ (i := 3) rfl).1
          have v4 : wr.cell? ⟨gV, 4, none⟩ = some (.int .u32 (e : Int)) := (hr.vv.at_ (i := 4) rfl).1
          have v5 : wr.cell? ⟨gV, 5, none⟩ = some (.int .u32 (f : Int)) := (hr.vv.at_ (i := 5) rfl).1
          have v6 : wr.cell? ⟨gV, 6, none⟩ = some (.int .u32 (g : Int)) := (hr.vv.at_ (i := 6) rfl).1
          have v7 : wr.cell? ⟨gV, 7, none⟩ = some (.int .u32 (h : Int)) := (hr.vv.at_ (i := 7) rfl).1
          have z0 : (0 : Int) ≤ (t : Int) := by omega
          have z1 : (t : Int) < 64 := by omega
          simp only at c6 c11 c25 c2 c13 c22 e3 e4 e5 e6 e13 e14 e16 e19
          unfold wv at ck cw
          go_wp2
          go_quiet ((first
            | (with_reducible exact Calls.quiet_of (c6 _))
            | (with_reducible exact Calls.quiet_of (c11 _))
            | (with_reducible exact Calls.quiet_of (c25 _))))
          go_wp2
          have V : ∀ i u, wr.cell? ⟨gV, i, none⟩ = some u → (wr.drewN nq).cell? ⟨gV, i, none⟩ = some u := fun _ _ hx => hx
          have hr5 := hr.drewN nq
          replace v0 := V _ _ v0
          replace v1 := V _ _ v1
          replace v2 := V _ _ v2
          replace v3 := V _ _ v3
          replace v4 := V _ _ v4
          replace v5 := V _ _ v5
          replace v6 := V _ _ v6
          clear V v7 ck cw hr
          revert hr5 v0 v1 v2 v3 v4 v5 v6
          generalize wr.drewN nq = w5
          intro hr5 v0 v1 v2 v3 v4 v5 v6
          clear nq
          go_quiet ((first
            | (with_reducible exact Calls.quiet_of (c2 _))
            | (with_reducible exact Calls.quiet_of (c13 _))
            | (with_reducible exact Calls.quiet_of (c22 _))))
          rename_i hKx
          refine hKx _ _ ?_
          have V : ∀ i u, w5.cell? ⟨gV, i, none⟩ = some u → (w5.drewN nq).cell? ⟨gV, i, none⟩ = some u := fun _ _ hx => hx
          have hr6 := hr5.drewN nq
          replace v0 := V _ _ v0
          replace v1 := V _ _ v1
          replace v2 := V _ _ v2
          replace v3 := V _ _ v3
          replace v4 := V _ _ v4
          replace v5 := V _ _ v5
          replace v6 := V _ _ v6
          clear V hr5
          revert hr6 v0 v1 v2 v3 v4 v5 v6
          generalize w5.drewN nq = w6
          intro hr6 v0 v1 v2 v3 v4 v5 v6
          clear nq
          go_wp2_with ((with_reducible refine at_store 63 (.tmp 7) (.tmp 117) rfl ?_); clear v0 v1 v2 v3 v4 v5 v6; refine wpList_store_mid rfl 63 (.tmp 7) (.tmp 117) rfl gV 0 ([a', a, b1, c', e', e, f, g].map wv).toArray rfl rfl hr6.vv.there (i8w rfl) (words_one _) ?_; refine gen_world (Pq := fun W => RefR w W 0 gM gW gV m hs (ws blk) (after hs blk (t + 1)).list) (G := fun W => wpList _ _ _ _ _ W) (by rw [HN.out]; exact hr6.putV [a', a, b1, c', e', e, f, g] rfl) ?_; intro w8 S8; clear hr6)
          go_roundw
          case rel => exact ⟨t + 1, by omega, by go_num, S8⟩
          case measure => simp [intOf]; omega
        · have ht64 : t = 64 := by omega
          have hall : comp hs blk = List.zipWith add hs (after hs blk t).list := by rw [ht64]; exact after_all hs blk
          have z64 : ¬ (t : Int) < 64 := by omega
          generalize after hs blk t = s2 at hall hr
          have HA := Lib.hid hall
          clear hall ht64 hlt ht
          go_wp2
          go_loopw [11] (fun iv wq => ∃ (i : Nat), i ≤ 8 ∧ iv = .int .i64 (i : Int) ∧ RefR w wq 0 gM gW gV m (sums hs s2 i) (ws blk) s2.list) (fun iv _ => (8 - intOf iv).toNat)
          case atStart => exact ⟨0, by omega, rfl, by rw [sums_zero]; exact hr⟩
          case round =>
            clear hr
            obtain ⟨i, hi, rfl, hq⟩ := hrel
            by_cases hi8 : i < 8
            · have y0 : (0 : Int) ≤ (i : Int) := by omega
              have y1 : (i : Int) < 8 := by omega
              have hsl : s2.list.length = 8 := rfl
              have d1 : wr.cell? ⟨w.heap.size + 1, i, none⟩ = some (wv (hs.getD i 0)) := (hq.base.wds.at_ (i := i) (by rw [List.getElem?_map, sums_at HBL8.out hi8]; rfl)).1
              have d2 : wr.cell? ⟨gV, i, none⟩ = some (wv (s2.list.getD i 0)) := (hq.vv.at_ (i := i) (by rw [List.getElem?_map, List.getD_eq_getElem?_getD, List.getElem?_eq_getElem (by omega)]; rfl)).1
              have hq2 := hq.drewN 1
              obtain ⟨q1, q2⟩ := hq2.base.wds.at_ (i := i) (u := wv (hs.getD i 0)) (by rw [List.getElem?_map, sums_at HBL8.out hi8]; rfl)
              have hput := hq2.putS hi8 (add (hs.getD i 0) (s2.list.getD i 0))
              rw [sums_put HBL8.out hi8] at hput
              have hadd := add32 (hs.getD i 0) (s2.list.getD i 0)
              generalize add (hs.getD i 0) (s2.list.getD i 0) = y at hput hadd
              generalize hs.getD i 0 = u at d1 q1 hadd
              generalize s2.list.getD i 0 = v at d2 hadd
              unfold wv at d1 d2 q1 hput
              clear hsl hq hq2 hi
              go_wp2
              go_still_tail 8, (by kernel_rfl)
              change wpList _ _ _ _ _ (wr.drewN 1)
              clear d1 d2
              revert hput
              revert q2
              revert q1
              generalize wr.drewN 1 = w7
              intro q1 q2 hput
              have HPUT := Lib.hid hput
              clear hput
              go_wp2
              go_roundw
              case rel => exact ⟨i + 1, by omega, by go_num, HPUT.out⟩
              case measure => simp [intOf]; omega
            · have hi8' : i = 8 := by omega
              have z8 : ¬ (i : Int) < 8 := by omega
              have hq8 : RefS w wr 0 gM m (blocks m (k + 1)) := by
                have := hq.base
                rw [hi8', sums_all HBL8.out, ← HA.out, ← HSS.out] at this
                exact this
              have HQ := Lib.hid hq8
              clear hq hq8 hi8 hi hi8'
              go_wp2
              go_roundw
              case rel => exact ⟨k + 1, p + 64, by have := HK1.out; omega, by have := HP.out; omega, congrArg (Value.int .i64) (by omega), HQ.out⟩
              case measure => simp [intOf]; omega
    · have hkK : k = K := by omega
      have zL : ¬ (p : Int) < (L : Int) := by have := HK.out; omega
      obtain ⟨hs, hhs⟩ : ∃ hs, hs = blocks m k := ⟨_, rfl⟩
      rw [← hhs] at hr
      have hsh : sha x = hs.flatMap wordBytes := by rw [HS.out, hhs, hkK]
      have hl8 : hs.length = 8 := by rw [hhs]; exact blocks_length m k
      have hlt : ∀ y ∈ hs, y < 4294967296 := by rw [hhs]; exact blocks_lt m k
      have hz2 := zero32
      have HSH := Lib.hid hsh
      have HL8 := Lib.hid hl8
      have HLT := Lib.hid hlt
      have HR := Lib.hid hr
      clear hhs hkK hge hk hp hsh hl8 hlt hr
      obtain ⟨wA, hwA⟩ : ∃ wA, wA = wr := ⟨_, rfl⟩
      rw [← hwA] at HR ⊢
      clear hwA
      go_wp2
      clear hz2
      go_loopw [13] (fun iv wq => ∃ (i : Nat), i ≤ 32 ∧ iv = .int .i64 (i : Int) ∧ RefO w wA wq hs i) (fun iv _ => (32 - intOf iv).toNat)
      case atStart => exact ⟨0, by omega, rfl, refO_start HR.out _⟩
      case round =>
        obtain ⟨i, hi, rfl, hq⟩ := hrel
        by_cases hi32 : i < 32
        · obtain ⟨q, hq4⟩ : ∃ q, q = i / 4 := ⟨_, rfl⟩
          obtain ⟨r, hr4⟩ : ∃ r, r = i % 4 := ⟨_, rfl⟩
          have e1 : (i : Int) / 4 = (q : Int) := by omega
          have e2 : (i : Int) % 4 = (r : Int) := by omega
          have y0 : (0 : Int) ≤ (q : Int) := by omega
          have y1 : (q : Int) < 8 := by omega
          have y2 : (0 : Int) ≤ (r : Int) := by omega
          have y3 : (r : Int) < 4 := by omega
          have y4 : (0 : Int) ≤ (i : Int) := by omega
          have y5 : (i : Int) < 32 := by omega
          have hl8 := HL8.out
          obtain ⟨bt, hbt, hbv⟩ := out_byte hl8 hi32 hq4 hr4
          have d1 : wr.cell? ⟨w.heap.size + 1, q, none⟩ = some (wv (hs.getD q 0)) := (hq.wds.at_ (i := q) (by rw [List.getElem?_map, List.getD_eq_getElem?_getD, List.getElem?_eq_getElem (by omega)]; rfl)).1
          have h32 := fm_length hs hl8
          obtain ⟨uu, huu⟩ : ∃ uu, (((hs.flatMap wordBytes).take i ++ zeros (32 - i)).map Wire.bv)[i]? = some uu := ⟨_, List.getElem?_eq_getElem (by rw [List.length_map, List.length_append, List.length_take, zeros_length]; omega)⟩
          obtain ⟨q1, q2⟩ := hq.out.at_ huu
          have hput := hq.put hl8 hi32 hbt
          unfold Wire.bv at hput
          rw [← hbv] at hput
          generalize hs.getD q 0 = u at d1 hput
          have HPUT := Lib.hid hput
          unfold wv at d1
          clear hq4 hr4 hbt hbv h32 huu hput hq hl8 hi
          go_wp2
          go_roundw
          case rel => exact ⟨i + 1, by omega, by go_num, HPUT.out⟩
          case measure => simp [intOf]; omega
        · have hi2 : i = 32 := by omega
          have z32' : ¬ (i : Int) < 32 := by omega
          obtain ⟨ys, hys⟩ : ∃ ys, ys = sha x := ⟨_, rfl⟩
          have hyl : ys.length = 32 := by rw [hys]; exact sha_length x
          have ho : Arr wr wA.heap.size 32 (ys.map Wire.bv) := by
            have := hq.out
            rw [hi2, List.take_of_length_le (by rw [fm_length hs HL8.out]; omega), ← HSH.out, ← hys] at this
            simpa [zeros] using this
          have hml : (ys.map Wire.bv).length = 32 := by rw [List.length_map]; exact hyl
          have hi1 : (Tryd.prog.info? 48).map (·.size) = some (ys.map Wire.bv).length := by rw [hml]; exact info32
          have hth : wr.there w.heap.size 0 (ys.map Wire.bv).length := by rw [hml]; exact hq.res.there
          have hth2 : wr.there w.heap.size 0 (ys.map Wire.bv).toArray.size := by rw [List.size_toArray]; exact hth
          have hend := arr_end (w := w) (wr := wr) (g := w.heap.size) (xs := ys.map Wire.bv) 48 hq.below (Nat.le_refl _) hth und32 rfl hi1
          have hrg := ho.range
          have HYS := Lib.hid hys
          have HE := Lib.hid hend
          have HG := Lib.hid hrg
          have HTH := Lib.hid hth2
          have HI := Lib.hid hi1
          have HYL := Lib.hid hyl
          clear hys hyl ho hml hi1 hth hth2 hend hrg hq hi hi32 hi2
          go_wp2_with (first
            | ((with_reducible refine at_slot 147 rfl ?_); refine wpList_load_mid rfl 48 (.tmp 12) rfl wA.heap.size 0 rfl (ys.map Wire.bv) _ HG.out und32 rfl HI.out ?_)
            | ((with_reducible refine at_store 48 (.tmp 2) (.tmp 147) rfl ?_); refine wpList_store_mid rfl 48 (.tmp 2) (.tmp 147) rfl w.heap.size 0 (ys.map Wire.bv).toArray rfl rfl HTH.out (i32A HYL.out) (bytes_all _) ?_))
          refine bodyPost_ret (v := .agg (ys.map Wire.bv).toArray) ?_ rfl ⟨by rw [HYS.out], HE.out.2⟩
          simp [results, Tryd.results26, asAddr]
          rw [HE.out.1]

end Hash
end Go.Proofs.YtoenkckoomfgeaaDoor
