/- MLeaf; MBits; MPRoot; MPTop: what each of these parts proves stands ahead of it. -/
import Derived.Test.YthpkeaafgabjiaaDoorM8
import Derived.Test.YthpkeaafgabjiaaDoorZBase
import Derived.Test.YthpkeaafgabjiaaDoorM5
import Derived.Lib.BitFns
import Derived.Test.YthpkeaafgabjiaaDoorM19
import Derived.Test.YthpkeaafgabjiaaDoorM13
/- The package merkle: leafRoot, node. Condition: digests have 16 bytes, the tables are laid. -/
namespace Go.Proofs.YthpkeaafgabjiaaDoor
open Go.RowKit
namespace Mk
open Wire (bv sv Lies)
open Hash (Table GivesA GivesT ofIn ofDig sha bcj at_slot)

theorem convD {W : World} {g : Nat} {d : List UInt8} (h : Dg W g d) : (convert 38 9 (.slice (some ⟨g, 0, none⟩) 16 16)).run Tryd.prog W = .ok (.string ⟨d.toArray⟩) W :=
  Hash.convL (Hash.arr_lies (n := 16) h.arr (by unfold maxLen; omega) (by omega))
theorem big_small {d : List UInt8} (h : d.length = 16) : (Wire.encStr d).length ≤ 140737488355328 := Nat.le_trans (enc_small h) (by decide)
theorem pOf_lit1 (t : Int) (d : List UInt8) (hd : d.length = 16) (w : World) (ht : TP w) :
    Calls Tryd.prog 39 #[.int .i64 t, .slice (some ⟨w.heap.size, 0, none⟩) 1 1] (w.alloc (.cells #[.string ⟨d.toArray⟩] 9)) (GivesD (ofDig t [d]) w) := by
  have hb := Wire.b1 w (.cells #[.string ⟨d.toArray⟩] 9)
  exact (Hash.of_any t [d] 1 1 _ _ (lit1 w d) (fun s hs => by rw [List.mem_singleton.1 hs]; exact big_small hd) (ht.on hb).a).mono fun e w' ⟨h1, h2⟩ => ⟨h1, bcj hb h2⟩
theorem pOf_lit2 (t : Int) (a b : List UInt8) (ha : a.length = 16) (hb : b.length = 16) (w : World) (ht : TP w) :
    Calls Tryd.prog 39 #[.int .i64 t, .slice (some ⟨w.heap.size, 0, none⟩) 2 2] (w.alloc (.cells #[.string ⟨a.toArray⟩, .string ⟨b.toArray⟩] 9)) (GivesD (ofDig t [a, b]) w) := by
  have hb2 := Wire.b1 w (.cells #[.string ⟨a.toArray⟩, .string ⟨b.toArray⟩] 9)
  exact (Hash.of_any t [a, b] 2 2 _ _ (lit2 w a b) (fun s hs => by
    rcases List.mem_cons.1 hs with rfl | hs
    · exact big_small ha
    · rw [List.mem_singleton.1 hs]; exact big_small hb) (ht.on hb2).a).mono fun e w' ⟨h1, h2⟩ => ⟨h1, bcj hb2 h2⟩
theorem pOf_nil (w : World) (ht : TP w) : Calls Tryd.prog 39 #[.int .i64 1, .slice none 0 0] w (GivesD HH.nil w) :=
  Hash.of_any 1 [] 0 0 none w ⟨by simp, Nat.le_refl _, Nat.zero_le _, fun h => absurd h (Nat.lt_irrefl 0), fun h => absurd h (Nat.lt_irrefl 0)⟩ (fun s hs => by cases hs) ht.a

set_option maxRecDepth 100000 in
set_option maxHeartbeats 1000000 in
theorem leaf_any (d : List UInt8) (hd : d.length = 16) (w : World) (ht : TP w) : Calls Tryd.prog 40 #[dv d] w (GivesD (HH.leaf d) w) := by
  have HO := Lib.hid (fun W h => pOf_lit1 1 d hd W h)
  obtain ⟨D, hD⟩ : ∃ D, D = HH.leaf d := ⟨_, rfl⟩
  have hDl : D.length = 16 := by rw [hD]; exact leaf_length d
  rw [show ofDig 1 [d] = D from hD.symm] at HO
  rw [← hD]
  have P0 := dg_new w hd 29
  have R0 := dg_zero (w.alloc (.cells (d.map bv).toArray 29)) 29
  have b0 := Wire.b1 w (.cells (d.map bv).toArray 29)
  rw [Wire.size_alloc] at R0
  have P1 := P0.on (Wire.b1 _ (.cells #[.int .u8 0, .int .u8 0, .int .u8 0, .int .u8 0, .int .u8 0, .int .u8 0, .int .u8 0, .int .u8 0, .int .u8 0, .int .u8 0, .int .u8 0, .int .u8 0, .int .u8 0, .int .u8 0, .int .u8 0, .int .u8 0] 29))
  have Z := bcj b0 (Wire.b1 _ (.cells #[.int .u8 0, .int .u8 0, .int .u8 0, .int .u8 0, .int .u8 0, .int .u8 0, .int .u8 0, .int .u8 0, .int .u8 0, .int .u8 0, .int .u8 0, .int .u8 0, .int .u8 0, .int .u8 0, .int .u8 0, .int .u8 0] 29))
  have hcv := convD P1
  have ho2 := HO.out _ (ht.on Z)
  rw [Wire.size_alloc, Wire.size_alloc] at ho2
  have HO2 := Lib.hid ho2
  have HDL := Lib.hid hDl
  clear hd ht hD hDl P0 b0 P1 ho2 HO
  unfold dv
  go_enter Tryd.func40, Tryd.ntmps40
  go_wp2_with (first
    | (go_at_call 39; (with_reducible refine HO2.out.mono ?_); rintro e w2 ⟨rfl, hb⟩; replace Z := bcj Z hb; replace R0 := R0.on hb; clear hb hcv HO2)
    | (refine store_d (.tmp 2) (.tmp 6) rfl rfl (w.heap.size + 1) 0 rfl D rfl HDL.out R0.there ?_))
  have HE := dg_end R0 HDL.out Z (by omega)
  refine bodyPost_ret (v := dv D) ?_ rfl ⟨rfl, HE.2⟩
  simp [results, Tryd.results40, asAddr, Act.put]
  rw [HE.1]

set_option maxRecDepth 100000 in
set_option maxHeartbeats 1000000 in
theorem node_any (a b : List UInt8) (ha : a.length = 16) (hb : b.length = 16) (w : World) (ht : TP w) : Calls Tryd.prog 42 #[dv a, dv b] w (GivesD (HH.node a b) w) := by
  have HO := Lib.hid (fun W h => pOf_lit2 2 a b ha hb W h)
  obtain ⟨D, hD⟩ : ∃ D, D = HH.node a b := ⟨_, rfl⟩
  have hDl : D.length = 16 := by rw [hD]; exact node_length a b
  rw [show ofDig 2 [a, b] = D from hD.symm] at HO
  rw [← hD]
  have P0 := dg_new w ha 29
  have z0 := Wire.b1 w (.cells (a.map bv).toArray 29)
  have Q0 := dg_new (w.alloc (.cells (a.map bv).toArray 29)) hb 29
  have z1 := Wire.b1 (w.alloc (.cells (a.map bv).toArray 29)) (.cells (b.map bv).toArray 29)
  have R0 := dg_zero ((w.alloc (.cells (a.map bv).toArray 29)).alloc (.cells (b.map bv).toArray 29)) 29
  have z2 := Wire.b1 ((w.alloc (.cells (a.map bv).toArray 29)).alloc (.cells (b.map bv).toArray 29)) (.cells #[.int .u8 0, .int .u8 0, .int .u8 0, .int .u8 0, .int .u8 0, .int .u8 0, .int .u8 0, .int .u8 0, .int .u8 0, .int .u8 0, .int .u8 0, .int .u8 0, .int .u8 0, .int .u8 0, .int .u8 0, .int .u8 0] 29)
  rw [Wire.size_alloc, Wire.size_alloc] at R0
  have Q1 := Q0.on z2
  rw [Wire.size_alloc] at Q1
  have Y : Two w _ a b := ⟨(P0.on z1).on z2, Q1, R0, bcj (bcj z0 z1) z2⟩
  have HTT := Lib.hid ht
  have HA := Lib.hid ha
  have HB := Lib.hid hb
  have HDL := Lib.hid hDl
  have CA : Hid (∀ W, Two w W a b → (convert 38 9 (.slice (some ⟨w.heap.size, 0, none⟩) 16 16)).run Tryd.prog W = .ok (.string ⟨a.toArray⟩) W) := Lib.hid (fun W h => convD h.p)
  have CB : Hid (∀ W, Two w W a b → (convert 38 9 (.slice (some ⟨w.heap.size + 1, 0, none⟩) 16 16)).run Tryd.prog W = .ok (.string ⟨b.toArray⟩) W) := Lib.hid (fun W h => convD h.q)
  have YD := Y.on (Hash.belowD _)
  clear ha hb ht hD hDl P0 Q0 Q1 R0 z0 z1 z2 Y
  unfold dv
  go_enter Tryd.func42, Tryd.ntmps42
  go_wp2
  refine QTail.region (C := fun W => Two w W a b) 4 (by kernel_rfl) (by kernel_rfl) YD ?_
  (refine wpQuiet_step (fun K hK => ?_); go_simp; refine ⟨(.slice (some ⟨w.heap.size, 0, none⟩) 16 16), fun W hW => ?_, hK _ ?_⟩; (first | exact ⟨rfl, rfl⟩ | rfl | (rw [if_pos (by omega)]; exact ⟨rfl, rfl⟩) | (rw [if_pos (by omega), if_neg (by omega)]; exact ⟨rfl, rfl⟩) | (rw [if_neg (by omega)]; exact ⟨rfl, rfl⟩)); clear hK K)
  (refine wpQuiet_step (fun K hK => ?_); go_simp; refine ⟨(.string ⟨a.toArray⟩), fun W hW => ?_, hK _ ?_⟩; (first | (rw [CA.out W hW]; exact ⟨rfl, rfl⟩) | (rw [CA.out W hW]; rfl)); clear hK K)
  (refine wpQuiet_step (fun K hK => ?_); go_simp; refine ⟨(.slice (some ⟨w.heap.size + 1, 0, none⟩) 16 16), fun W hW => ?_, hK _ ?_⟩; (first | exact ⟨rfl, rfl⟩ | rfl | (rw [if_pos (by omega)]; exact ⟨rfl, rfl⟩) | (rw [if_pos (by omega), if_neg (by omega)]; exact ⟨rfl, rfl⟩) | (rw [if_neg (by omega)]; exact ⟨rfl, rfl⟩)); clear hK K)
  (refine wpQuiet_step (fun K hK => ?_); go_simp; refine ⟨(.string ⟨b.toArray⟩), fun W hW => ?_, hK _ ?_⟩; (first | (rw [CB.out W hW]; exact ⟨rfl, rfl⟩) | (rw [CB.out W hW]; rfl)); clear hK K)
  refine wpQuiet_nil ?_
  clear YD
  intro w1 Y
  have R0 := Y.r
  have Z := Y.z
  clear Y
  go_wp2_with (first
    | (go_at_call 39; (with_reducible refine (HO.out _ (HTT.out.on Z)).mono ?_); rintro e w3 ⟨rfl, hb⟩; replace Z := bcj Z hb; replace R0 := R0.on hb; clear hb)
    | (refine store_d (.tmp 4) (.tmp 10) rfl rfl (w.heap.size + 1 + 1) 0 rfl D rfl HDL.out R0.there ?_))
  have HE := dg_end R0 HDL.out Z (by omega)
  refine bodyPost_ret (v := dv D) ?_ rfl ⟨rfl, HE.2⟩
  simp [results, Tryd.results42, asAddr, Act.put]
  rw [HE.1]
end Mk
end Go.Proofs.YthpkeaafgabjiaaDoor

/- The package's half: the greatest power of 2 that is less than a number. Condition: the number is at least 2. -/
namespace Go.Proofs.YthpkeaafgabjiaaDoor
open Go.RowKit
namespace Mk

theorem fold8 : (⟨(([0, 1, 2, 2, 3, 3, 3, 3, 4, 4, 4, 4, 4, 4, 4, 4, 5, 5, 5, 5, 5, 5, 5, 5, 5, 5, 5, 5, 5, 5, 5, 5, 6, 6, 6, 6, 6, 6, 6, 6, 6, 6, 6, 6, 6, 6, 6, 6, 6, 6, 6, 6, 6, 6, 6, 6, 6, 6, 6, 6, 6, 6, 6, 6].append [7, 7, 7, 7, 7, 7, 7, 7, 7, 7, 7, 7, 7, 7, 7, 7, 7, 7, 7, 7, 7, 7, 7, 7, 7, 7, 7, 7, 7, 7, 7, 7, 7, 7, 7, 7, 7, 7, 7, 7, 7, 7, 7, 7, 7, 7, 7, 7, 7, 7, 7, 7, 7, 7, 7, 7, 7, 7, 7, 7, 7, 7, 7, 7]).append ([8, 8, 8, 8, 8, 8, 8, 8, 8, 8, 8, 8, 8, 8, 8, 8, 8, 8, 8, 8, 8, 8, 8, 8, 8, 8, 8, 8, 8, 8, 8, 8, 8, 8, 8, 8, 8, 8, 8, 8, 8, 8, 8, 8, 8, 8, 8, 8, 8, 8, 8, 8, 8, 8, 8, 8, 8, 8, 8, 8, 8, 8, 8, 8].append [8, 8, 8, 8, 8, 8, 8, 8, 8, 8, 8, 8, 8, 8, 8, 8, 8, 8, 8, 8, 8, 8, 8, 8, 8, 8, 8, 8, 8, 8, 8, 8, 8, 8, 8, 8, 8, 8, 8, 8, 8, 8, 8, 8, 8, 8, 8, 8, 8, 8, 8, 8, 8, 8, 8, 8, 8, 8, 8, 8, 8, 8, 8, 8])).toArray⟩ : ByteArray) = Lib.len8tab := by kernel_rfl
theorem bitLen_log : ∀ (k x : Nat), x < 2 ^ k → k ≤ 64 → x ≠ 0 → Lib.bitLen x = x.log2 + 1
  | 0, x, h, _, h0 => by simp at h; omega
  | k + 1, x, h, hk, h0 => by
    have h64 : x < 2 ^ 64 := Nat.lt_of_lt_of_le h (Nat.pow_le_pow_right (by omega) hk)
    rw [Lib.bitLen_half x h0 h64, Nat.log2_def]
    by_cases h2 : 2 ≤ x
    · rw [if_pos h2, bitLen_log k (x / 2) (by rw [Nat.pow_succ] at h; omega) (by omega) (by omega)]
      omega
    · obtain rfl : x = 1 := by omega
      rw [if_neg h2]
      decide
theorem cell8 {y : Int} (hi : y.toNat < Lib.len8tab.size) : ((Lib.len8tab[y.toNat]'hi).toNat : Int) = Lib.len8 y := by
  simp only [Lib.len8, ByteArray.getElem?_lt' _ _ hi, Option.getD_some]
theorem pow64 : (2 : Nat) ^ 64 = 18446744073709551616 := by decide
/-- The table's byte c for what is left of a number behind a cut by s bits. -/
theorem cut_fin (s : Nat) (M : Nat) (hM : M = 2 ^ s) {x y : Int} {c : Nat} (h0 : 0 ≤ x) (h1 : x ≤ 18446744073709551615) (hy : y.toNat = x.toNat / M) (h2 : 0 ≤ y) (h3 : y ≤ 255) (h4 : M ≤ x.toNat) (hs : s ≤ 56) (hc : (c : Int) = Lib.len8 y) :
    wrap64 ((s : Int) + wrap64 (c : Int)) = (Lib.bitLen x.toNat : Int) := by
  have hx : x.toNat < 2 ^ 64 := by rw [pow64]; omega
  have h5 : Lib.bitLen x.toNat = s + Lib.bitLen (x.toNat / M) := by rw [hM] at h4 ⊢; exact Lib.bitLen_shift s x.toNat h4 hx
  have h8 := Lib.bitLen_le8' y h2 h3
  rw [Lib.len8_of y h2 h3] at hc
  rw [h5, ← hy]
  generalize Lib.bitLen y.toNat = q at *
  clear hM hy h4 h5 hx
  simp only [wrap64]
  omega
theorem cut_none {x : Int} {c : Nat} (h0 : 0 ≤ x) (h3 : x ≤ 255) (hc : (c : Int) = Lib.len8 x) : wrap64 (wrap64 (c : Int)) = (Lib.bitLen x.toNat : Int) := by
  have h8 := Lib.bitLen_le8' x h0 h3
  rw [Lib.len8_of x h0 h3] at hc
  generalize Lib.bitLen x.toNat = q at *
  simp only [wrap64]
  omega

set_option maxRecDepth 100000 in
set_option maxHeartbeats 1000000 in
theorem len64_any (x : Int) (h0 : 0 ≤ x) (h1 : x ≤ 18446744073709551615) (w : World) :
    Calls Tryd.prog 77 #[.int .u64 x] w fun e w' => e = .returned (.int .i64 (Lib.bitLen x.toNat : Int)) ∧ w' = w := by
  go_enter Tryd.func77, Tryd.ntmps77
  rw [fold8]
  have hsz := Lib.len8tab_size
  go_wp2
  all_goals (go_ret; refine ⟨congrArg Ending.returned (congrArg (Value.int IntKind.i64) ?_), rfl⟩)
  all_goals first
    | exact cut_fin 56 72057594037927936 (by decide) h0 h1 (by omega) (by omega) (by omega) (by omega) (by omega) (cell8 _)
    | exact cut_fin 48 281474976710656 (by decide) h0 h1 (by omega) (by omega) (by omega) (by omega) (by omega) (cell8 _)
    | exact cut_fin 40 1099511627776 (by decide) h0 h1 (by omega) (by omega) (by omega) (by omega) (by omega) (cell8 _)
    | exact cut_fin 32 4294967296 (by decide) h0 h1 (by omega) (by omega) (by omega) (by omega) (by omega) (cell8 _)
    | exact cut_fin 24 16777216 (by decide) h0 h1 (by omega) (by omega) (by omega) (by omega) (by omega) (cell8 _)
    | exact cut_fin 16 65536 (by decide) h0 h1 (by omega) (by omega) (by omega) (by omega) (by omega) (cell8 _)
    | exact cut_fin 8 256 (by decide) h0 h1 (by omega) (by omega) (by omega) (by omega) (by omega) (cell8 _)
    | exact cut_none h0 (by omega) (cell8 _)

set_option maxRecDepth 100000 in
theorem len_any (x : Int) (h0 : 0 ≤ x) (h1 : x ≤ 18446744073709551615) (w : World) :
    Calls Tryd.prog 63 #[.int .u64 x] w fun e w' => e = .returned (.int .i64 (Lib.bitLen x.toNat : Int)) ∧ w' = w := by
  have HL := Lib.hid (fun W => len64_any x h0 h1 W)
  go_enter Tryd.func63, Tryd.ntmps63
  go_wp2_with (go_at_call 77; (with_reducible refine (HL.out _).mono ?_); rintro e w1 ⟨rfl, rfl⟩)
  go_ret
  exact ⟨rfl, rfl⟩
theorem split_bits {n : Nat} (h2 : 2 ≤ n) (hn : n ≤ 9223372036854775807) : ∃ j : Nat, Lib.bitLen (n - 1) = j + 1 ∧ split n = 2 ^ j ∧ j ≤ 62 := by
  have h3 := split_lt h2
  refine ⟨(n - 1).log2, ?_, rfl, ?_⟩
  · exact bitLen_log 64 _ (by rw [pow64]; omega) (Nat.le_refl _) (by omega)
  · have h1 : split n = 2 ^ (n - 1).log2 := rfl
    rw [h1] at h3
    have h4 : 2 ^ (n - 1).log2 < 2 ^ 63 := Nat.lt_of_lt_of_le h3 (Nat.le_trans hn (by decide))
    have := (Nat.pow_lt_pow_iff_right (show 1 < 2 by omega)).1 h4
    omega
set_option maxRecDepth 100000 in
theorem half_any (n : Nat) (h2 : 2 ≤ n) (hn : n ≤ 9223372036854775807) (w : World) :
    Calls Tryd.prog 41 #[.int .i64 (n : Int)] w fun e w' => e = .returned (.int .i64 (split n : Int)) ∧ w' = w := by
  obtain ⟨j, h3, h4, h5⟩ := split_bits h2 hn
  have e1 : ((n : Int) - 1).toNat = n - 1 := by omega
  have HL := Lib.hid (fun W => len_any ((n : Int) - 1) (by omega) (by omega) W)
  rw [e1, h3] at HL
  have h6 : (2 : Nat) ^ j < 9223372036854775808 := by
    have h7 : (2 : Nat) ^ j ≤ 2 ^ 62 := Nat.pow_le_pow_right (by omega) h5
    have : (2 : Nat) ^ 62 = 4611686018427387904 := by decide
    omega
  rw [h4]
  clear h3 h4 e1
  go_enter Tryd.func41, Tryd.ntmps41
  go_wp2_with (go_at_call 63; (with_reducible refine (HL.out _).mono ?_); rintro e w1 ⟨rfl, rfl⟩)
  go_ret
  refine ⟨congrArg Ending.returned (congrArg (Value.int IntKind.i64) ?_), rfl⟩
  have h7 : (2 : Int) ^ j = ((2 ^ j : Nat) : Int) := by push_cast; rfl
  rw [h7]
  generalize 2 ^ j = m at *
  simp only [wrap64]
  omega
end Mk
end Go.Proofs.YthpkeaafgabjiaaDoor

/- The package merkle: Root. Conditions: the slice reads as a list of digests, the tables are laid. -/
namespace Go.Proofs.YthpkeaafgabjiaaDoor
open Go.RowKit
namespace Mk
open Wire (bv sv Lies)
open Hash (Table GivesA GivesT ofIn ofDig sha bcj at_slot)

set_option maxRecDepth 100000 in
set_option maxHeartbeats 1000000 in
theorem pRoot_nil (w : World) (c : Nat) (A : Option Addr) (ht : TP w) : Calls Tryd.prog 16 #[.slice A 0 c] w (GivesD (root HH []) w) := by
  have Y := rm_new w 29
  have HO := Lib.hid (fun W h => pOf_nil W h)
  have HTT := Lib.hid ht
  have HDL := Lib.hid nil_length
  rw [root_nil]
  generalize HH.nil = D at *
  clear ht
  go_enter Tryd.func16, Tryd.ntmps16
  go_wp2_with (first
    | (go_at_call 39; (with_reducible refine (HO.out _ (HTT.out.on Y.z)).mono ?_); rintro e w3 ⟨rfl, hb⟩; replace Y := Y.on hb; clear hb)
    | (refine store_d _ _ rfl rfl w.heap.size 0 rfl D rfl HDL.out Y.r.there ?_))
  have HE := Y.fin HDL.out
  refine bodyPost_ret (v := dv D) ?_ rfl ⟨rfl, HE.2⟩
  simp [results, Tryd.results16, asAddr, Act.put]
  rw [HE.1]

set_option maxRecDepth 100000 in
set_option maxHeartbeats 1000000 in
theorem pRoot_any : ∀ (n : Nat) (l : List (List UInt8)) (c : Nat) (A : Option Addr) (w : World), LiesD w w.heap.size A n c l → TP w →
    Calls Tryd.prog 16 #[.slice A n c] w (GivesD (root HH l) w) := by
  intro n
  induction n using Nat.strongRecOn with
  | _ n ih =>
    intro l c A w hl ht
    have hln := hl.len
    by_cases h0 : n = 0
    · subst h0
      obtain rfl := List.eq_nil_of_length_eq_zero hln
      exact pRoot_nil w c A ht
    have hmost : c ≤ 9223372036854775807 := by have := hl.lies.most; unfold maxLen at this; omega
    have hle := hl.lies.le
    have Y := rm_new w 29
    have HTT := Lib.hid ht
    by_cases h1 : n = 1
    · subst h1
      obtain ⟨d, rfl⟩ := List.length_eq_one_iff.1 hln
      obtain ⟨b, o, rfl, hb, hr⟩ := (hl.on Y.z).row (j := 0) (d := d) rfl
      rw [Nat.zero_mul, Nat.add_zero] at hr
      have hd := hl.ok d (by simp)
      have HD := Lib.hid hd
      have HLF := Lib.hid (fun W h => leaf_any d hd W h)
      have HDL := Lib.hid (leaf_length d)
      rw [root_one]
      generalize HH.leaf d = D at *
      clear ht hl hln hd ih
      go_enter Tryd.func16, Tryd.ntmps16
      go_wp2_with (first
        | (refine load_d 13 rfl rfl _ rfl b o rfl d HD.out hr ?_)
        | (go_at_call 40; (with_reducible refine (HLF.out _ (HTT.out.on Y.z)).mono ?_); rintro e w3 ⟨rfl, hb⟩; replace Y := Y.on hb; clear hb hr)
        | (refine store_d _ _ rfl rfl w.heap.size 0 rfl D rfl HDL.out Y.r.there ?_))
      have HE := Y.fin HDL.out
      refine bodyPost_ret (v := dv D) ?_ rfl ⟨rfl, HE.2⟩
      simp [results, Tryd.results16, asAddr, Act.put]
      rw [HE.1]
    · have h2 : 2 ≤ n := by omega
      have y0 : ¬ (n : Int) = 0 := by omega
      have y1 : ¬ (n : Int) = 1 := by omega
      have y2 : ((n : Int) == 0) = false := by simpa using y0
      have y3 : ((n : Int) == 1) = false := by simpa using y1
      have hs1 := split_lt h2
      have hs2 := split_pos n
      have HSP := Lib.hid (fun W => half_any n h2 (by omega) W)
      have HRT := Lib.hid (root_two HH (l := l) (by omega))
      rw [hln] at HRT
      generalize split n = k at *
      obtain ⟨d0, hd0⟩ : ∃ d, l[0]? = some d := ⟨_, List.getElem?_eq_getElem (by omega)⟩
      obtain ⟨b, o, rfl, -, -⟩ := hl.row hd0
      have hA := (hl.take (k := k) (by omega))
      have hB := (hl.drop (k := k) (by omega))
      have HRA : Hid (∀ W, Rm w W → Calls Tryd.prog 16 #[.slice (some ⟨b, o, none⟩) k c] W (GivesD (root HH (l.take k)) W)) := Lib.hid (fun W h => ih k hs1 _ c _ W ((hA.below h.z).more h.z.size) (HTT.out.on h.z))
      have HRB : Hid (∀ W, Rm w W → Calls Tryd.prog 16 #[.slice (some ⟨b, o + k * 16, none⟩) (n - k) (c - k)] W (GivesD (root HH (l.drop k)) W)) := Lib.hid (fun W h => ih (n - k) (by omega) _ (c - k) _ W ((hB.below h.z).more h.z.size) (HTT.out.on h.z))
      have HND : Hid (∀ W, Rm w W → Calls Tryd.prog 42 #[dv (root HH (l.take k)), dv (root HH (l.drop k))] W (GivesD (HH.node (root HH (l.take k)) (root HH (l.drop k))) W)) := Lib.hid (fun W h => node_any _ _ (root_length _) (root_length _) W (HTT.out.on h.z))
      have HDL := Lib.hid (node_length (root HH (l.take k)) (root HH (l.drop k)))
      rw [HRT.out]
      generalize HH.node (root HH (l.take k)) (root HH (l.drop k)) = D at *
      generalize root HH (l.take k) = DA at *
      generalize root HH (l.drop k) = DB at *
      clear ih hl ht hln hd0 hA hB HRT
      go_enter Tryd.func16, Tryd.ntmps16
      go_wp2_with (first
        | (go_at_call 41; (with_reducible refine (HSP.out _).mono ?_); rintro e w3 ⟨rfl, rfl⟩))
      refine QTail.region (C := fun W => Rm w W) 9 (by kernel_rfl) (by kernel_rfl) (Y.on (Hash.belowD _)) ?_
      (refine wpQuiet_step (fun K hK => ?_); go_simp; (first | refine hK _ ?_ | refine ⟨_, fun _ _ => rfl, hK _ ?_⟩); clear hK K)
      (refine wpQuiet_step (fun K hK => ?_); go_simp; (first | refine hK _ ?_ | refine ⟨_, fun _ _ => rfl, hK _ ?_⟩); clear hK K)
      (refine wpQuiet_step (fun K hK => ?_); go_simp; refine ⟨.slice (some ⟨b, o, none⟩) k c, fun W hW => ?_, hK _ ?_⟩; (first | exact ⟨rfl, rfl⟩ | (rw [if_pos (by omega)]; exact ⟨rfl, rfl⟩) | (rw [if_pos (by omega), if_neg (by omega)]; exact ⟨rfl, rfl⟩) | (rw [if_neg (by omega)]; exact ⟨rfl, rfl⟩)); clear hK K)
      (refine wpQuiet_step (fun K hK => ?_); go_simp; refine ⟨_, fun W hW => (HRA.out W hW).mono fun e w' ⟨he, hb⟩ => ⟨he, hW.on hb⟩, hK _ ?_⟩; clear hK K)
      (refine wpQuiet_step (fun K hK => ?_); go_simp; (first | refine hK _ ?_ | refine ⟨_, fun _ _ => rfl, hK _ ?_⟩); clear hK K)
      (refine wpQuiet_step (fun K hK => ?_); go_simp; (first | refine hK _ ?_ | refine ⟨_, fun _ _ => rfl, hK _ ?_⟩); clear hK K)
      (refine wpQuiet_step (fun K hK => ?_); go_simp; refine ⟨.slice (some ⟨b, o + k * 16, none⟩) (n - k) (c - k), fun W hW => ?_, hK _ ?_⟩; (first | exact ⟨rfl, rfl⟩ | (rw [if_pos (by omega)]; exact ⟨rfl, rfl⟩) | (rw [if_pos (by omega), if_neg (by omega)]; exact ⟨rfl, rfl⟩) | (rw [if_neg (by omega)]; exact ⟨rfl, rfl⟩)); clear hK K)
      (refine wpQuiet_step (fun K hK => ?_); go_simp; refine ⟨_, fun W hW => (HRB.out W hW).mono fun e w' ⟨he, hb⟩ => ⟨he, hW.on hb⟩, hK _ ?_⟩; clear hK K)
      (refine wpQuiet_step (fun K hK => ?_); go_simp; refine ⟨_, fun W hW => (HND.out W hW).mono fun e w' ⟨he, hb⟩ => ⟨he, hW.on hb⟩, hK _ ?_⟩; clear hK K)
      refine wpQuiet_nil ?_
      clear Y
      intro w5 Y
      refine store_d _ _ rfl rfl w.heap.size 0 rfl D rfl HDL.out Y.r.there ?_
      go_wp2
      have HE := Y.fin HDL.out
      refine bodyPost_ret (v := dv D) ?_ rfl ⟨rfl, HE.2⟩
      simp [results, Tryd.results16, asAddr, Act.put]
      rw [HE.1]
end Mk
end Go.Proofs.YthpkeaafgabjiaaDoor

/- The package merkle: Top. Conditions: the roots read as a list of digests, the tables are laid. -/
namespace Go.Proofs.YthpkeaafgabjiaaDoor
open Go.RowKit
namespace Mk
open Wire (bv sv Lies)
open Hash (Arr bcj)

set_option maxRecDepth 100000 in
set_option maxHeartbeats 1000000 in
theorem top_bad (n : Int) (A : Option Addr) (k c : Nat) (h : pkOk n k = false) (w : World) : Calls Tryd.prog 29 #[pkv n A k c] w (GivesZ zero 1 w) := by
  have Y := ta_new w n A k c 56 29
  have HV := Lib.hid (fun W => valid_any n A k c W)
  rw [h] at HV
  have HZ := Lib.hid zero_length
  have hz : ∀ W, (Instr.build 29 #[]).run Tryd.prog W = .ok (.agg (zero.map bv).toArray) W := fun W => by kernel_rfl
  clear h
  unfold pkv at *
  go_enter Tryd.func29, Tryd.ntmps29
  go_wp2_with (first
    | (go_at_call 54; (with_reducible refine (HV.out _).mono ?_); rintro e w1 ⟨rfl, hb⟩; replace Y := Y.on hb; clear hb)
    | (refine store_d (.tmp 2) (.tmp 10) rfl rfl (w.heap.size + 1) 0 rfl zero rfl HZ.out Y.r.there ?_))
  have HE := Y.fin HZ.out
  refine bodyPost_ret (v := .tuple #[dv zero, .int .i64 1]) ?_ rfl ⟨rfl, HE.2⟩
  simp [results, Tryd.results29, asAddr]
  rw [HE.1]
  rfl

theorem ones_pos {n : Nat} (h : n ≠ 0) : 1 ≤ ones n := by
  rcases Nat.eq_zero_or_pos (ones n) with h0 | h0
  · exfalso
    have key : ∀ m, ones m = 0 → m = 0 := by
      intro m
      induction m using Nat.strongRecOn with
      | _ m ih =>
        intro hm
        by_cases hz : m = 0
        · exact hz
        · rw [ones_step hz] at hm
          have := ih (m / 2) (by omega) (by omega)
          omega
    exact h (key n h0)
  · exact h0
theorem pkOk_some {n : Int} {k : Nat} (h : pkOk n k = true) : 0 ≤ n ∧ n ≤ 4294967296 ∧ k = ones n.toNat := by
  unfold pkOk at h
  simpa using h

set_option maxRecDepth 100000 in
set_option maxHeartbeats 1000000 in
theorem top_nil (A : Option Addr) (c : Nat) (w : World) (ht : TP w) : Calls Tryd.prog 29 #[pkv 0 A 0 c] w (GivesZ HH.nil 0 w) := by
  have Y := ta_new w 0 A 0 c 56 29
  have HV := Lib.hid (fun W => valid_any 0 A 0 c W)
  rw [show pkOk 0 0 = true by unfold pkOk; simp [ones_zero]] at HV
  have HO : Hid (∀ W, Ta w W 0 A 0 c → Calls Tryd.prog 16 #[.slice none 0 0] W (GivesD HH.nil W)) := Lib.hid (fun W h => by
    have h1 := pRoot_any 0 [] 0 none W (liesD_nil _ _ _) (ht.on h.z)
    rw [root_nil] at h1
    exact h1)
  have HDL := Lib.hid nil_length
  have HC : Hid (∀ W, Ta w W 0 A 0 c → W.cell? ⟨w.heap.size, 0, none⟩ = some (.int .i64 0)) := Lib.hid (fun W h => h.p.size)
  generalize HH.nil = D at *
  clear ht
  unfold pkv at *
  go_enter Tryd.func29, Tryd.ntmps29
  go_wp2_with (first
    | (go_at_call 54; (with_reducible refine (HV.out _).mono ?_); rintro e w1 ⟨rfl, hb⟩; replace Y := Y.on hb; clear hb; have hc1 := HC.out _ Y)
    | (go_at_call 16; (with_reducible refine (HO.out _ Y).mono ?_); rintro e w3 ⟨rfl, hb⟩; unfold dv; replace Y := Y.on hb; clear hb hc1)
    | (refine store_d (.tmp 2) (.tmp 14) rfl rfl (w.heap.size + 1) 0 rfl D rfl HDL.out Y.r.there ?_))
  have HE := Y.fin HDL.out
  refine bodyPost_ret (v := .tuple #[dv D, .int .i64 0]) ?_ rfl ⟨rfl, HE.2⟩
  simp [results, Tryd.results29, asAddr]
  rw [HE.1]
  rfl

set_option maxRecDepth 100000 in
set_option maxHeartbeats 4000000 in
theorem top_some (n : Int) (A : Option Addr) (j c : Nat) (l : List (List UInt8)) (h : pkOk n (j + 1) = true) (w : World) (hl : LiesD w w.heap.size A (j + 1) c l) (ht : TP w) : Calls Tryd.prog 29 #[pkv n A (j + 1) c] w (GivesZ (topOf HH l.reverse) 0 w) := by
  have Y := ta_new w n A (j + 1) c 56 29
  have HV := Lib.hid (fun W => valid_any n A (j + 1) c W)
  rw [h] at HV
  obtain ⟨hn0, -, hk⟩ := pkOk_some h
  have y1 : ¬ n = 0 := fun e => by rw [e] at hk; simp [ones_zero] at hk
  have y2 : (n == 0) = false := by simpa using y1
  have HTT := Lib.hid ht
  have hln := hl.len
  have hmost : c ≤ 9223372036854775807 := by have := hl.lies.most; unfold maxLen at this; omega
  have hle := hl.lies.le
  have HC : Hid (∀ W, Ta w W n A (j + 1) c → W.cell? ⟨w.heap.size, 1, none⟩ = some (.slice A (j + 1) c)) := Lib.hid (fun W h => h.p.roots)
  have HC0 : Hid (∀ W, Ta w W n A (j + 1) c → W.cell? ⟨w.heap.size, 0, none⟩ = some (.int .i64 n)) := Lib.hid (fun W h => h.p.size)
  obtain ⟨r, x, rfl⟩ : ∃ r x, l = r ++ [x] := ⟨l.dropLast, l.getLast (by intro h; rw [h] at hln; cases hln), (List.dropLast_concat_getLast _).symm⟩
  have hrl : r.length = j := by rw [List.length_append, List.length_singleton] at hln; omega
  obtain ⟨b, o, rfl, hbb, hrx⟩ := hl.row (j := j) (d := x) (by rw [List.getElem?_append_right (by omega), hrl, Nat.sub_self]; rfl)
  have hxl : x.length = 16 := hl.ok x (by simp)
  have hR := hl.take (k := j) (by omega)
  rw [List.take_left' hrl] at hR
  have HX := Lib.hid hxl
  have HRX : Hid (∀ W, Below w.heap.size w W → W.rangeAt b (o + j * 16) (x.map bv)) := Lib.hid (fun W h j u hu => (h.cell (by show b < w.heap.size; exact hbb)).trans (hrx j u hu))
  have HRR : Hid (∀ W, Below w.heap.size w W → ∀ m y, r[m]? = some y → W.rangeAt b (o + m * 16) (y.map bv)) := Lib.hid (fun W h m y hy => by
    obtain ⟨b', o', e, hb', hr'⟩ := hR.row hy
    simp only [Option.some.injEq, Addr.mk.injEq, and_true] at e
    obtain ⟨rfl, rfl⟩ := e
    exact fun j u hu => (h.cell (by show b < w.heap.size; exact hbb)).trans (hr' j u hu))
  have HRK : Hid (Ok r) := Lib.hid hR.ok
  rw [topOf_snoc2]
  have HRL := Lib.hid hrl
  have HND : Hid (∀ y d, y.length = 16 → d.length = 16 → ∀ W, TP W → Calls Tryd.prog 42 #[.agg (y.map bv).toArray, .agg (d.map bv).toArray] W (GivesD (HH.node y d) W)) := Lib.hid (fun y d hy hd W h => node_any y d hy hd W h)
  obtain ⟨D, hD⟩ : ∃ D, D = r.reverse.foldl (fun v y => HH.node y v) x := ⟨_, rfl⟩
  rw [← hD]
  have HD0 : Hid (D = (r.take (j - 0)).reverse.foldl (fun v y => HH.node y v) x) := Lib.hid (by rw [hD, List.take_of_length_le (by omega)])
  have e3 : ((j + 1 : Nat) : Int) - 1 = (j : Int) := by omega
  have e4 : (0 : Int) ≤ (j : Int) := by omega
  have e5 : (j : Int) < ((j + 1 : Nat) : Int) := by omega
  clear h ht hl hln hrx hxl hR hrl hD hk
  unfold pkv at *
  go_enter Tryd.func29, Tryd.ntmps29
  go_wp2_with (first
    | (go_at_call 54; (with_reducible refine (HV.out _).mono ?_); rintro e w1 ⟨rfl, hb⟩; replace Y := Y.on hb; clear hb; have hc1 := HC.out _ Y; have hc0 := HC0.out _ Y)
    | (refine load_d 23 rfl rfl _ rfl b (o + j * 16) rfl x HX.out (HRX.out _ Y.z) ?_)
    | (refine store_d (.tmp 5) (.tmp 23) rfl rfl w1.heap.size 0 rfl x rfl HX.out (tb_room Y _).x.there ?_; refine Hash.gen_world (Pq := fun W => Tb w W n (some ⟨b, o, none⟩) (j + 1) c w1.heap.size x) (G := fun W => wpList _ _ _ _ _ W) ((tb_room Y _).put HX.out) ?_; clear Y hc1 hc0; intro W2 Y))
  generalize w1.heap.size = g at *
  go_loopw [25] (fun kv wr => ∃ (i : Nat) (d : List UInt8), i ≤ j ∧ kv = .int .i64 (i : Int) ∧ Hid (d.length = 16) ∧ Hid (D = (r.take (j - i)).reverse.foldl (fun v y => HH.node y v) d) ∧ Tb w wr n (some ⟨b, o, none⟩) (j + 1) c g d) (fun kv _ => (j - intOf kv).toNat)
  case atStart => exact ⟨0, x, Nat.zero_le _, rfl, HX, HD0, Y⟩
  case round =>
    clear Y
    obtain ⟨i, d, hi, rfl, HDL, HDD, Y⟩ := hrel
    by_cases hij : i < j
    · obtain ⟨k, hk⟩ : ∃ k, j - 1 - i = k := ⟨_, rfl⟩
      obtain ⟨m1, hm1⟩ : ∃ m1, j - 1 = m1 := ⟨_, rfl⟩
      obtain ⟨y, hy⟩ : ∃ y, r[k]? = some y := ⟨_, List.getElem?_eq_getElem (by rw [HRL.out]; omega)⟩
      have HY := Lib.hid (HRK.out.at_ hy)
      have HRY : Hid (∀ W, Tb w W n (some ⟨b, o, none⟩) (j + 1) c g d → W.rangeAt b (o + k * 16) (y.map bv)) := Lib.hid (fun W h => HRR.out W h.a.z k y hy)
      have HC2 : Hid (∀ W, Tb w W n (some ⟨b, o, none⟩) (j + 1) c g d → W.cell? ⟨w.heap.size, 1, none⟩ = some (.slice (some ⟨b, o, none⟩) (j + 1) c)) := Lib.hid (fun W h => HC.out W h.a)
      have HN2 : Hid (∀ W, Tb w W n (some ⟨b, o, none⟩) (j + 1) c g d → Calls Tryd.prog 42 #[.agg (y.map bv).toArray, .agg (d.map bv).toArray] W (GivesD (HH.node y d) W)) := Lib.hid (fun W h => HND.out y d HY.out HDL.out W (HTT.out.on h.a.z))
      have HDD2 : Hid (D = (r.take (j - (i + 1))).reverse.foldl (fun v y => HH.node y v) (HH.node y d)) := Lib.hid (by
        rw [HDD.out, show j - i = k + 1 by omega, show j - (i + 1) = k by omega, List.take_add_one, hy]; simp)
      have HNL := Lib.hid (node_length y d)
      generalize HH.node y d = d2 at *
      have z0 : (0 : Int) ≤ (k : Int) := by omega
      have z1 : (k : Int) < ((j + 1 : Nat) : Int) := by omega
      have z2 : k < j + 1 := by omega
      have z3 : IntKind.i64.wrap ((j : Int) - 1) = (m1 : Int) := by rw [IntKind.wrap_i64]; omega
      have z4 : IntKind.i64.wrap ((m1 : Int) - (i : Int)) = (k : Int) := by rw [IntKind.wrap_i64]; omega
      have z5 : (i : Int) < (j : Int) := by omega
      clear hy HDD hk hm1
      go_wp2
      refine QTail.region (C := fun W => Tb w W n (some ⟨b, o, none⟩) (j + 1) c g d) 10 (by kernel_rfl) (by kernel_rfl) (Y.on (Hash.belowD _)) ?_
      (refine wpQuiet_step (fun K hK => ?_); go_simp; (first | refine hK _ ?_ | refine ⟨_, fun _ _ => rfl, hK _ ?_⟩); clear hK K)
      (refine wpQuiet_step (fun K hK => ?_); go_simp; refine ⟨(.slice (some ⟨b, o, none⟩) (j + 1) c), fun W hW => ?_, hK _ ?_⟩; (first | (rw [HC2.out W hW]; exact ⟨rfl, rfl⟩) | (rw [HC2.out W hW]; rfl)); clear hK K)
      (refine wpQuiet_step (fun K hK => ?_); go_simp; (first | refine hK _ ?_ | refine ⟨_, fun _ _ => rfl, hK _ ?_⟩); clear hK K)
      (refine wpQuiet_step (fun K hK => ?_); go_simp; (first | refine hK _ ?_ | refine ⟨_, fun _ _ => rfl, hK _ ?_⟩); clear hK K)
      (refine wpQuiet_step (fun K hK => ?_); go_simp; (first | refine hK _ ?_ | refine ⟨_, fun _ _ => rfl, hK _ ?_⟩); clear hK K)
      (refine wpQuiet_step (fun K hK => ?_); go_simp; (first | refine hK _ ?_ | refine ⟨_, fun _ _ => rfl, hK _ ?_⟩); clear hK K)
      (refine wpQuiet_step (fun K hK => ?_); go_simp; refine ⟨.pointer (some ⟨b, o + k * 16, none⟩), fun W hW => ?_, hK _ ?_⟩; (first | (rw [if_pos (by omega)]; exact ⟨rfl, rfl⟩) | (rw [if_pos (by omega)]; rfl) | exact ⟨rfl, rfl⟩ | rfl); clear hK K)
      refine QTail.loadC (by rfl) 29 (.tmp 34) rfl b (o + k * 16) rfl (y.map bv) _ HRY.out und_d rfl (info_d HY.out) ?_
      refine QTail.loadC (by rfl) 29 (.tmp 5) rfl g 0 rfl (d.map bv) _ (fun W h => h.x.range) und_d rfl (info_d HDL.out) ?_
      (refine wpQuiet_step (fun K hK => ?_); go_simp; refine ⟨_, fun W hW => (HN2.out W hW).mono fun e w' ⟨he, hb⟩ => ⟨he, hW.on hb⟩, hK _ ?_⟩; clear hK K)
      refine wpQuiet_nil ?_
      clear Y
      intro w7 Y
      simp only [List.drop_succ_cons, List.drop_zero]
      go_wp2_with (first
        | (refine store_d (.tmp 5) (.tmp 37) rfl rfl g 0 rfl d2 rfl HNL.out Y.x.there ?_; refine Hash.gen_world (Pq := fun W => Tb w W n (some ⟨b, o, none⟩) (j + 1) c g d2) (G := fun W => wpList _ _ _ _ _ W) (Y.put HNL.out) ?_; clear Y; intro W2 Y))
      go_roundw
      case rel => exact ⟨i + 1, d2, by omega, by go_num, HNL, HDD2, Y⟩
      case measure => simp [intOf]; omega
    · obtain rfl : i = j := by omega
      have z5 : ¬ (i : Int) < (i : Int) := by omega
      obtain rfl : D = d := by rw [HDD.out, Nat.sub_self]; rfl
      go_wp2_with (first
        | (refine load_d 39 rfl rfl _ rfl g 0 rfl D HDL.out Y.x.range ?_; unfold dv)
        | (refine store_d (.tmp 2) (.tmp 39) rfl rfl (w.heap.size + 1) 0 rfl D rfl HDL.out Y.a.r.there ?_))
      have HE := Y.a.fin HDL.out
      refine bodyPost_ret (v := .tuple #[dv D, .int .i64 0]) ?_ rfl ⟨rfl, HE.2⟩
      simp [results, Tryd.results29, asAddr]
      rw [HE.1]
      rfl
end Mk
end Go.Proofs.YthpkeaafgabjiaaDoor

