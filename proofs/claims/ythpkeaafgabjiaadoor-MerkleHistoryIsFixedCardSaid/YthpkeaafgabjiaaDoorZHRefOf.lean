/- The reference's Few, Input, Short and Of. Conditions: those that each theorem names. -/
import Derived.Test.YthpkeaafgabjiaaDoorZHConv
import Derived.Test.YthpkeaafgabjiaaDoorZQHeld
import Derived.Test.YthpkeaafgabjiaaDoorZWUtil
import Derived.Test.YthpkeaafgabjiaaDoorZHOf
import Derived.Test.YthpkeaafgabjiaaDoorM7
import Derived.Test.YthpkeaafgabjiaaDoorZQTail
namespace Go.Proofs.YthpkeaafgabjiaaDoor
open Go.RowKit
namespace Hash
open Wire (bv sv Made Lies encStr)

/-! ### Input -/
theorem own_lit1 (w : World) (x : UInt8) : (w.alloc (.cells #[bv x] 5)).ownsRow w.heap.size 5 1 (.slice (some ⟨w.heap.size, 0, none⟩) 1 1) 1 ([x].map bv) :=
  ⟨rfl, .inr ⟨w.heap.size, 1, #[bv x], rfl, Nat.le_refl _, heap_alloc_new w _, Nat.le_refl _, by decide, rfl, rfl⟩⟩
theorem flat_le {parts : List (List UInt8)} {k : Nat} : ((parts.take k).flatMap encStr).length ≤ (parts.flatMap encStr).length := by
  conv => rhs; rw [← List.take_append_drop k parts]
  rw [List.flatMap_append, List.length_append]; omega

set_option maxRecDepth 100000 in
set_option maxHeartbeats 1000000 in
theorem input_any (tag : Int) (parts : List (List UInt8)) (n c : Nat) (A : Option Addr) (w : World) (hl : Lies w w.heap.size 1 A n c (parts.map sv)) (hb : (ofIn tag parts).length ≤ 1000000) :
    Calls Tryd.prog 52 #[.int .i64 tag, .slice A n c] w (Made w (ofIn tag parts).length (ofIn tag parts)) := by
  obtain ⟨i0, hi, hz0, hz1, hz2⟩ := info_parts Wire.byte_info
  have hmost : c ≤ 9223372036854775807 := by have := hl.most; unfold maxLen at this; omega
  have hle := hl.le
  have hpn : parts.length = n := by have := hl.len; simpa using this
  have HPN := Lib.hid hpn
  have HL := Lib.hid hl
  have HBD := Lib.hid hb
  have ho0 := own_lit1 w (tagByte tag)
  have hb0 : Below w.heap.size w (w.alloc (.cells #[bv (tagByte tag)] 5)) := (Below.refl _ _).alloc (Nat.le_refl _) _
  have e0 : (.int .u8 (tag % 256) : Value) = bv (tagByte tag) := by unfold bv; rw [tagByte_eq]
  rw [← e0] at ho0 hb0
  clear hpn hl hb e0
  go_enter Tryd.func52, Tryd.ntmps52
  go_wp2
  go_loopw [5, 6] (fun v iv wr => ∃ (k L : Nat), k ≤ n ∧ iv = .int .i64 (k : Int) ∧ L = (tagByte tag :: (parts.take k).flatMap encStr).length ∧ wr.ownsRow w.heap.size 5 1 v L ((tagByte tag :: (parts.take k).flatMap encStr).map bv) ∧ Below w.heap.size w wr) (fun _ iv _ => n - (intOf iv).toNat)
  case atStart => exact ⟨0, 1, by omega, rfl, rfl, ho0, hb0⟩
  case round =>
    clear ho0 hb0
    obtain ⟨k, L, hk, rfl, hL, hown, hbw⟩ := hrel
    by_cases hkn : k < n
    · obtain ⟨b, o, u, rfl, hbb, hu, hcx⟩ := (HL.out.below hbw).at_ hkn
      obtain ⟨x, hx⟩ : ∃ x, parts[k]? = some x := ⟨_, List.getElem?_eq_getElem (by rw [HPN.out]; exact hkn)⟩
      rw [List.getElem?_map, hx] at hu
      cases hu
      have hsn : tagByte tag :: (parts.take (k + 1)).flatMap encStr = (tagByte tag :: (parts.take k).flatMap encStr) ++ encStr x := by rw [Wire.flat_snoc encStr parts hx]; rfl
      have hfl : (tagByte tag :: (parts.take (k + 1)).flatMap encStr).length ≤ 1000000 := by
        have h1 := HBD.out
        have h2 := flat_le (parts := parts) (k := k + 1)
        simp only [ofIn, List.length_cons] at h1 ⊢
        omega
      rw [hsn, List.length_append, ← hL] at hfl
      have HS := Lib.hid hsn
      generalize tagByte tag :: (parts.take k).flatMap encStr = m at hown hL HS
      have HC := Lib.hid (fun W => Wire.refBytes_any x W (by omega))
      have HEL := Lib.hid hL
      generalize encStr x = E at HC HS hfl
      have y0 : (0 : Int) ≤ (k : Int) := by omega
      have y1 : (k : Int) < (n : Int) := by omega
      unfold sv at hcx
      clear hx hsn hL
      go_wp2_with (first
        | (go_at_call 66; (with_reducible refine (HC.out _).mono ?_); rintro e w3 ⟨g3, c3, rfl, ho3, hb3⟩)
        | (at_builtin; refine wpList_append_own _ rfl (.tmp 16) (.tmp 21) _ rfl w.heap.size 5 i0 (.int .u8 0) 1 1 Tryd.underlying38 hi hz0 hz1 hz2 rfl (by decide) _ _ _ rfl (Wire.own_below hown hb3) ⟨g3, 0, none⟩ E.length _ (E.map bv) rfl (by simp) (lies_news (Wire.lies_own ho3)) (Wire.bytes_one _) (by unfold maxLen; omega) (by omega) (Nat.le_trans hbw.size hb3.size) ?_; intro v4 w4 ho4 hg4 _))
      go_roundw
      case rel =>
        refine ⟨k + 1, L + E.length, by omega, by go_num, by rw [HS.out, List.length_append, HEL.out], by rw [HS.out, List.map_append]; exact ho4, ?_⟩
        exact (hbw.trans (hb3.mono hbw.size)).grown hg4 (Nat.le_trans hbw.size hb3.size) (fun q hq => (hown.lt q hq).1)
      case measure => simp [intOf]; omega
    · have hk2 : k = n := by omega
      have y1 : ¬ (k : Int) < (n : Int) := by omega
      have HE : Hid (∃ g' c', u5 = .slice (some ⟨g', 0, none⟩) (ofIn tag parts).length c' ∧ wr.ownsRow w.heap.size 5 1 u5 (ofIn tag parts).length ((ofIn tag parts).map bv)) := Lib.hid (by
        have e : tagByte tag :: (parts.take k).flatMap encStr = ofIn tag parts := by rw [List.take_of_length_le (by rw [HPN.out]; omega)]; rfl
        rw [e] at hL hown
        subst hL
        obtain ⟨g', c', hv, -⟩ := Wire.own_form hown (by simp [ofIn])
        exact ⟨g', c', hv, hown⟩)
      have HB := Lib.hid hbw
      clear hL hown hbw hk2 hkn
      go_wp2
      go_ret
      obtain ⟨g', c', rfl, ho⟩ := HE.out
      exact ⟨g', c', rfl, ho, HB.out⟩

/-! ### Short and Of -/
/-- The bytes of x of which i have been written over zeros. -/
def short (x : List UInt8) (i : Nat) : List UInt8 := x.take i ++ zeros (16 - i)
theorem short_len {x : List UInt8} (hx : x.length = 32) {i : Nat} (hi : i ≤ 16) : (short x i).length = 16 := by simp [short, zeros, hx]; omega
theorem short_set {x : List UInt8} {c : UInt8} {i : Nat} (hx : x.length = 32) (hi : i < 16) (hc : x[i]? = some c) : (short x i).set i c = short x (i + 1) := by
  unfold short
  rw [List.set_append_right _ _ (by simp [hx]; omega), List.length_take, hx, show i - min i 32 = 0 by omega, show 16 - i = (16 - (i + 1)) + 1 by omega, List.take_add_one, hc]
  simp [zeros, List.replicate_succ]
theorem short_all (x : List UInt8) : short x 16 = x.take 16 := by simp [short, zeros]
structure ShortS (w W : World) (g k : Nat) (x y : List UInt8) : Prop where
  res : ∃ ys, Arr W w.heap.size 16 ys
  src : Arr W g 32 (x.map bv)
  out : Arr W k 16 (y.map bv)
  far : w.heap.size < g
  ord : g < k
  below : Below w.heap.size w W
theorem ShortS.put {w W : World} {g k i : Nat} {x y : List UInt8} (h : ShortS w W g k x y) (hi : i < 16) (c : UInt8) (n : Nat) : ShortS w ((W.drewN n).setCell ⟨k, i, none⟩ (.int .u8 (c.toNat : Int))) g k x (y.set i c) := by
  obtain ⟨ys, hy⟩ := h.res
  have ho := (h.out.drew n).set hi (bv c)
  rw [← List.map_set] at ho
  have hf := h.far
  have hord := h.ord
  have hb : Below w.heap.size w (W.drewN n) := ⟨h.below.os, h.below.tape, h.below.output, h.below.size, h.below.block⟩
  exact ⟨⟨ys, (hy.drew n).other (by omega) _⟩, (h.src.drew n).other (by omega) _, ho, hf, hord, hb.setCell (by simp; omega) _⟩
structure ResS (w W : World) : Prop where
  res : ∃ ys, Arr W w.heap.size 16 ys
  below : Below w.heap.size w W
theorem ResS.on {w W W2 : World} (h : ResS w W) (hb : Below W.heap.size W W2) : ResS w W2 := by
  obtain ⟨ys, hy⟩ := h.res
  exact ⟨⟨ys, hy.below hb (hy.size (by omega))⟩, bcj h.below hb⟩
theorem resS_new (w : World) (t : TypeId) : ResS w (w.alloc (.cells z16 t)) := by
  have h := arr_new w z16 t
  rw [z16_size] at h
  exact ⟨⟨_, h⟩, (Below.refl _ _).alloc (Nat.le_refl _) _⟩
theorem ResS.fin {w W : World} (h : ResS w W) {ys : List Value} (hy : ys.length = 16) : W.there w.heap.size 0 ys.toArray.size ∧
    (loadVar 29 ⟨w.heap.size, 0, none⟩).run Tryd.prog (W.setCells w.heap.size 0 ys) = .ok (.agg ys.toArray) (W.setCells w.heap.size 0 ys) ∧ Below w.heap.size w (W.setCells w.heap.size 0 ys) := by
  obtain ⟨zs, hz⟩ := h.res
  exact ⟨hz.thereA hy, arr_end (w := w) (wr := W) (g := w.heap.size) (xs := ys) 29 h.below (Nat.le_refl _) (by rw [hy]; exact hz.there) Tryd.underlying29 rfl (i16 hy)⟩
theorem shortS_new {w W : World} {g : Nat} {x : List UInt8} (h : ResS w W) (ha : Arr W g 32 (x.map bv)) (hg : w.heap.size < g) (t : TypeId) : ShortS w ((W.alloc (.cells z16 t)).setCells W.heap.size 0 z16.toList) g W.heap.size x (short x 0) := by
  have hn := arr_new W z16 t
  rw [z16_size] at hn
  have hb : Below W.heap.size W ((W.alloc (.cells z16 t)).setCells W.heap.size 0 z16.toList) := ((Below.refl _ _).alloc (Nat.le_refl _) _).trans (below_cells (Nat.le_refl _) _ _ _)
  have h2 := h.on hb
  have e : (short x 0).map bv = z16.toList := by simp [short, z16]
  refine ⟨h2.res, ha.below hb (ha.size (by omega)), ?_, hg, ha.size (by omega), h2.below⟩
  rw [e]
  exact hn.over rfl
theorem fresh16v (W : World) (t : TypeId) : (W.alloc (.cells z16 t)).there W.heap.size 0 z16.size := (arr_new W z16 t).there

set_option maxRecDepth 100000 in
set_option maxHeartbeats 1000000 in
theorem short_any (l : List UInt8) (n c : Nat) (A : Option Addr) (w : World) (hl : Lies w w.heap.size 1 A n c (l.map bv)) (hx : l.length ≤ 1000000) (ht : Table 0 w) :
    Calls Tryd.prog 47 #[.slice A n c] w (GivesA (((sha l).take 16).map bv) w) := by
  have R0 := resS_new w 29
  have hb0 : Below w.heap.size w (w.alloc (.cells z16 29)) := (Below.refl _ _).alloc (Nat.le_refl _) _
  have E1 := Lib.hid (refSum_any l n c A _ (lies_on hl hb0) hx (tabj ht hb0))
  have hxl := sha_length l
  generalize sha l = x at E1 hxl ⊢
  obtain ⟨D, hD⟩ : ∃ D, D = x.take 16 := ⟨_, rfl⟩
  rw [← hD]
  have HD := Lib.hid hD
  have HXL := Lib.hid hxl
  have HFL : Hid ((D.map bv).length = 16) := Lib.hid (by simp [hD, hxl])
  have hz := zero16v
  have hz2 := zero32
  have hbz : ∀ W, (Instr.build 29 #[]).run Tryd.prog W = .ok (.agg z16) W := fun W => by kernel_rfl
  clear hl hx ht hxl hb0 hD
  go_enter Tryd.func47, Tryd.ntmps47
  go_wp2_with (first
    | (go_at_call 64; (with_reducible refine E1.out.mono ?_); rintro e w1 ⟨rfl, hb⟩; replace R0 := R0.on hb; clear hb)
    | ((with_reducible refine at_store 84 (.tmp 3) (.tmp 7) rfl ?_); refine wpList_store_mid rfl 84 (.tmp 3) (.tmp 7) rfl w1.heap.size 0 (x.map bv).toArray rfl rfl (fresh32 _ _ HXL.out _) (i32A HXL.out) (bytes_all _) ?_; have hA := fresh32A w1 x HXL.out 84; refine gen_world (Pq := fun W => ResS w W ∧ Arr W w1.heap.size 32 (x.map bv) ∧ w.heap.size < w1.heap.size) (G := fun W => wpList _ _ _ _ _ W) ⟨R0.on hA.2, hA.1, by obtain ⟨ys, hy⟩ := R0.res; exact hy.size (by omega)⟩ ?_; intro w2 S2; clear R0 hA)
    | ((with_reducible refine at_store 29 (.tmp 4) (.tmp 8) rfl ?_); refine wpList_store_mid rfl 29 (.tmp 4) (.tmp 8) rfl w2.heap.size 0 z16 rfl rfl (fresh16v _ _) (by kernel_rfl) (bytes_all (zeros 16)) ?_; refine gen_world (Pq := fun W => ShortS w W w1.heap.size w2.heap.size x (short x 0)) (G := fun W => wpList _ _ _ _ _ W) (shortS_new S2.1 S2.2.1 S2.2.2 _) ?_; intro w3 S3; clear S2))
  revert S3
  generalize w1.heap.size = g
  generalize w2.heap.size = q
  intro S3
  clear hz hz2 hbz
  go_loopw [5] (fun iv wr => ∃ (i : Nat), i ≤ 16 ∧ iv = .int .i64 (i : Int) ∧ ShortS w wr g q x (short x i)) (fun iv _ => (16 - intOf iv).toNat)
  case atStart => exact ⟨0, by omega, rfl, S3⟩
  case round =>
    clear S3
    obtain ⟨i, hi16, rfl, hq⟩ := hrel
    by_cases hlt : i < 16
    · obtain ⟨y, hy⟩ : ∃ y, x[i]? = some y := ⟨_, List.getElem?_eq_getElem (by rw [HXL.out]; omega)⟩
      have c0 : wr.cell? ⟨g, i, none⟩ = some (.int .u8 (y.toNat : Int)) := (hq.src.at_ (i := i) (u := bv y) (by rw [List.getElem?_map, hy]; rfl)).1
      obtain ⟨⟨u, c1⟩, f1⟩ := hq.out.some_ (i := i) hlt
      have HP := Lib.hid (fun nq => by have := hq.put hlt y nq; rwa [short_set HXL.out hlt hy] at this)
      have y0 : (0 : Int) ≤ (i : Int) := by omega
      have y1 : (i : Int) < 16 := by omega
      clear hq hy
      go_wp2
      go_roundw
      case rel => exact ⟨i + 1, by omega, by go_num, HP.out 0⟩
      case measure => simp [intOf]; omega
    · obtain rfl : i = 16 := by omega
      have y1 : ¬ ((16 : Nat) : Int) < 16 := by omega
      rw [short_all, ← HD.out] at hq
      have hrg := hq.out.range
      have R : ResS w wr := ⟨hq.res, hq.below⟩
      obtain ⟨hth, hend⟩ := R.fin HFL.out
      have HE := Lib.hid hend
      clear hend R hq hlt hi16
      go_wp2_with (first
        | ((with_reducible refine at_slot 18 rfl ?_); refine wpList_load_mid rfl 29 (.tmp 4) rfl q 0 rfl (D.map bv) _ hrg Tryd.underlying29 rfl (i16 HFL.out) ?_)
        | ((with_reducible refine at_store 29 (.tmp 2) (.tmp 18) rfl ?_); refine wpList_store_mid rfl 29 (.tmp 2) (.tmp 18) rfl w.heap.size 0 (D.map bv).toArray rfl rfl hth (i16A HFL.out) (bytes_all _) ?_))
      refine bodyPost_ret (v := .agg (D.map bv).toArray) ?_ rfl ⟨rfl, HE.out.2⟩
      simp [results, Tryd.results47, asAddr]
      rw [HE.out.1]

set_option maxRecDepth 100000 in
set_option maxHeartbeats 1000000 in
theorem refOf_any (tag : Int) (parts : List (List UInt8)) (n c : Nat) (A : Option Addr) (w : World) (hl : Lies w w.heap.size 1 A n c (parts.map sv)) (hb : (ofIn tag parts).length ≤ 1000000) (ht : Table 0 w) :
    Calls Tryd.prog 43 #[.int .i64 tag, .slice A n c] w (GivesA ((ofDig tag parts).map bv) w) := by
  have R0 := resS_new w 29
  have hb0 : Below w.heap.size w (w.alloc (.cells z16 29)) := (Below.refl _ _).alloc (Nat.le_refl _) _
  have E1 := Lib.hid (input_any tag parts n c A _ (lies_on hl hb0) hb)
  have HT := Lib.hid ht
  have E2 := Lib.hid (fun W m k B (h : Lies W W.heap.size 1 B m k ((ofIn tag parts).map bv)) hT => short_any (ofIn tag parts) m k B W h hb hT)
  have HFL : Hid (((ofDig tag parts).map bv).length = 16) := Lib.hid (by simp [ofDig, sha_length])
  have e : (sha (ofIn tag parts)).take 16 = ofDig tag parts := rfl
  rw [e] at E2
  generalize ofDig tag parts = D at E2 HFL ⊢
  have hz := zero16v
  clear hl hb ht hb0 e
  go_enter Tryd.func43, Tryd.ntmps43
  go_wp2_with (first
    | (go_at_call 52; (with_reducible refine E1.out.mono ?_); rintro e w1 ⟨g1, c1, rfl, ho1, hb1⟩; replace R0 := R0.on hb1; clear hb1)
    | (go_at_call 47; (with_reducible refine (E2.out _ _ _ _ (Wire.lies_own ho1) (tabj HT.out R0.below)).mono ?_); rintro e w2 ⟨rfl, hb2⟩; replace R0 := R0.on hb2; obtain ⟨hth, hend⟩ := R0.fin HFL.out; have HE := Lib.hid hend; clear hb2 hend R0 ho1)
    | ((with_reducible refine at_store 29 (.tmp 4) (.tmp 8) rfl ?_); refine wpList_store_mid rfl 29 (.tmp 4) (.tmp 8) rfl w.heap.size 0 (D.map bv).toArray rfl rfl hth (i16A HFL.out) (bytes_all _) ?_))
  refine bodyPost_ret (v := .agg (D.map bv).toArray) ?_ rfl ⟨rfl, HE.out.2⟩
  simp [results, Tryd.results43, asAddr, Act.put]
  rw [HE.out.1]

end Hash
end Go.Proofs.YthpkeaafgabjiaaDoor
