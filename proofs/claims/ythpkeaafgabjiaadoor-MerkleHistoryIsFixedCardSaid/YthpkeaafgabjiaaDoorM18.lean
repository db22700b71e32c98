/- HFunS; MShort: what each of these parts proves stands ahead of it. -/
import Derived.Test.YthpkeaafgabjiaaDoorZHUtil
import Derived.Test.YthpkeaafgabjiaaDoorZHRefOf
/- Sum of the package, of bytes and of a text's bytes. Condition: the table of round constants reads as the program lays it; the slice's cells read as the bytes. -/
namespace Go.Proofs.YthpkeaafgabjiaaDoor
open Go.RowKit
namespace Hash
set_option maxRecDepth 100000 in
set_option maxHeartbeats 1000000 in
theorem sum_any (x : List UInt8) (n c : Nat) (A : Option Addr) (w : World) (hl : Wire.Lies w w.heap.size 1 A n c (x.map Wire.bv)) (ht : Table 3 w) :
    Calls Tryd.prog 51 #[.slice A n c] w (GivesA ((sha x).map Wire.bv) w) := by
  have R0 := room_new (n := 32) ht z32 z32_size 84
  have L0 := lies_on hl (w' := w.alloc (.cells z32 84)) ((Below.refl _ _).alloc (Nat.le_refl _) _)
  have hz2 := zero32
  clear ht hl
  go_enter Tryd.func51, Tryd.ntmps51
  go_wp2_with (first
    | (go_at_call 60; (with_reducible refine (begin_any _).mono ?_); rintro e w1 ⟨rfl, hb⟩; replace R0 := R0.on (by omega) hb; replace L0 := lies_on L0 hb; clear hb)
    | (go_at_call 59; (with_reducible refine (addB_any [] x n c A _ L0 R0.tab).mono ?_); rintro e w2 ⟨rfl, hb⟩; replace R0 := R0.on (by omega) hb; clear hb L0)
    | (go_at_call 62; (with_reducible refine (streamSum_any x _ R0.tab).mono ?_); rintro e w3 ⟨rfl, hb⟩; replace R0 := R0.on (by omega) hb; clear hb)
    | ((with_reducible refine at_store 84 (.tmp 2) (.tmp 6) rfl ?_); refine wpList_store_mid rfl 84 (.tmp 2) (.tmp 6) rfl w.heap.size 0 ((sha x).map Wire.bv).toArray rfl rfl (R0.thereR (shaV_length x)) (i32A (sha_length x)) (bytes_all _) ?_))
  have HE := R0.fin (shaV_length x) 84 und32 rfl (i32 (sha_length x))
  refine bodyPost_ret (v := .agg ((sha x).map Wire.bv).toArray) ?_ rfl ⟨rfl, HE.2⟩
  simp [results, Tryd.results51, asAddr, Act.put]
  rw [HE.1]
theorem sumKey (key : List UInt8) (hk : key.length ≤ 9223372036854775807) (W : World) (ht : Table 3 W) :
    Calls Tryd.prog 51 #[.slice (some ⟨W.heap.size, 0, none⟩) key.length (grownCap W key.length 0 5)] (Lib.bytesWorld W 5 ⟨key.toArray⟩) fun e w' => e = .returned (.agg ((sha key).map Wire.bv).toArray) ∧ Below W.heap.size W w' := by
  have hb := bytesB W key
  exact (sum_any key _ _ _ _ (convKey_lies key hk W) (tabj ht hb)).mono fun e w' ⟨he, hw⟩ => ⟨he, bcj hb hw⟩

end Hash
end Go.Proofs.YthpkeaafgabjiaaDoor

/- The statements' short: the first 16 bytes of a hash. Conditions: the slice reads as the text, the table is laid. -/
namespace Go.Proofs.YthpkeaafgabjiaaDoor
open Go.RowKit
namespace Hash
open Wire (bv sv Made Lies encStr)

set_option maxRecDepth 100000 in
set_option maxHeartbeats 1000000 in
theorem lawShort_any (l : List UInt8) (n c : Nat) (A : Option Addr) (w : World) (hl : Lies w w.heap.size 1 A n c (l.map bv)) (ht : Table 3 w) :
    Calls Tryd.prog 24 #[.slice A n c] w (GivesA (((sha l).take 16).map bv) w) := by
  have R0 := resS_new w 29
  have hb0 : Below w.heap.size w (w.alloc (.cells z16 29)) := (Below.refl _ _).alloc (Nat.le_refl _) _
  have E1 := Lib.hid (sum_any l n c A _ (lies_on hl hb0) (tabj ht hb0))
  have hxl := sha_length l
  generalize sha l = x at E1 hxl ⊢
  obtain ⟨D, hD⟩ : ∃ D, D = x.take 16 := ⟨_, rfl⟩
  rw [← hD]
  have HD := Lib.hid hD
  have HXL := Lib.hid hxl
  have HFL : Hid ((D.map bv).length = 16) := Lib.hid (by simp [hD, hxl])
  have hz := zero16v
  have hz2 := zero32
  have hbz : ∀ W, (Instr.build 29 #[]).run Tryd.prog W = .ok (.agg z16) W := fun W => by kernel_rfl
  clear hl ht hxl hb0 hD
  go_enter Tryd.func24, Tryd.ntmps24
  go_wp2_with (first
    | (go_at_call 51; (with_reducible refine E1.out.mono ?_); rintro e w1 ⟨rfl, hb⟩; replace R0 := R0.on hb; clear hb)
    | ((with_reducible refine at_store 84 (.tmp 3) (.tmp 7) rfl ?_); refine wpList_store_mid rfl 84 (.tmp 3) (.tmp 7) rfl w1.heap.size 0 (x.map bv).toArray rfl rfl (fresh32 _ _ HXL.out _) (i32A HXL.out) (bytes_all _) ?_; have hA := fresh32A w1 x HXL.out 84; refine gen_world (Pq := fun W => ResS w W ∧ Arr W w1.heap.size 32 (x.map bv) ∧ w.heap.size < w1.heap.size) (G := fun W => wpList _ _ _ _ _ W) ⟨R0.on hA.2, hA.1, by obtain ⟨ys, hy⟩ := R0.res; exact hy.size (by omega)⟩ ?_; intro w2 S2; clear R0 hA)
    | ((with_reducible refine at_store 29 (.tmp 4) (.tmp 8) rfl ?_); refine wpList_store_mid rfl 29 (.tmp 4) (.tmp 8) rfl w2.heap.size 0 z16 rfl rfl (fresh16v _ _) (by kernel_rfl) (bytes_all (zeros 16)) ?_; refine gen_world (Pq := fun W => ShortS w W w1.heap.size w2.heap.size x (short x 0)) (G := fun W => wpList _ _ _ _ _ W) (shortS_new S2.1 S2.2.1 S2.2.2 _) ?_; intro w3 S3; clear S2))
  revert S3
  generalize w1.heap.size = g
  generalize w2.heap.size = q
  intro S3
  clear hz hz2 hbz
  go_loopw [5] (fun iv wr => ∃ (i : Nat), i ≤ 16 ∧ iv = .int .i64 (i : Int) ∧ ShortS w wr g q x (short x i)) (fun iv _ => (16 - intOf iv).toNat)
  case atStart => exact ⟨0, by omega, rfl, S3⟩
  case round =>
    clear S3
    obtain ⟨i, hi16, rfl, hq⟩ := hrel
    by_cases hlt : i < 16
    · obtain ⟨y, hy⟩ : ∃ y, x[i]? = some y := ⟨_, List.getElem?_eq_getElem (by rw [HXL.out]; omega)⟩
      have c0 : wr.cell? ⟨g, i, none⟩ = some (.int .u8 (y.toNat : Int)) := (hq.src.at_ (i := i) (u := bv y) (by rw [List.getElem?_map, hy]; rfl)).1
      obtain ⟨⟨u, c1⟩, f1⟩ := hq.out.some_ (i := i) hlt
      have HP := Lib.hid (fun nq => by have := hq.put hlt y nq; rwa [short_set HXL.out hlt hy] at this)
      have y0 : (0 : Int) ≤ (i : Int) := by omega
      have y1 : (i : Int) < 16 := by omega
      clear hq hy
      go_wp2
      go_roundw
      case rel => exact ⟨i + 1, by omega, by go_num, HP.out 0⟩
      case measure => simp [intOf]; omega
    · obtain rfl : i = 16 := by omega
      have y1 : ¬ ((16 : Nat) : Int) < 16 := by omega
      rw [short_all, ← HD.out] at hq
      have hrg := hq.out.range
      have R : ResS w wr := ⟨hq.res, hq.below⟩
      obtain ⟨hth, hend⟩ := R.fin HFL.out
      have HE := Lib.hid hend
      clear hend R hq hlt hi16
      go_wp2_with (first
        | ((with_reducible refine at_slot 18 rfl ?_); refine wpList_load_mid rfl 29 (.tmp 4) rfl q 0 rfl (D.map bv) _ hrg Tryd.underlying29 rfl (i16 HFL.out) ?_)
        | ((with_reducible refine at_store 29 (.tmp 2) (.tmp 18) rfl ?_); refine wpList_store_mid rfl 29 (.tmp 2) (.tmp 18) rfl w.heap.size 0 (D.map bv).toArray rfl rfl hth (i16A HFL.out) (bytes_all _) ?_))
      refine bodyPost_ret (v := .agg (D.map bv).toArray) ?_ rfl ⟨rfl, HE.out.2⟩
      simp [results, Tryd.results24, asAddr]
      rw [HE.out.1]

end Hash
end Go.Proofs.YthpkeaafgabjiaaDoor

