/- Arrays of bytes as texts, and the digits of a text: Bytes32 and Text of the reference, hex of the statements. No condition but lengths. -/
import Derived.Test.YtciinlncflngdaaDoorHMac
import Derived.Test.YtciinlncflngdaaDoorInt
namespace Go.Proofs.YtciinlncflngdaaDoor
open Go.RowKit
namespace Hash
open Wire (bv)

theorem convO {w : World} {base g n c : Nat} {l : List UInt8} (h : w.ownsRow base 5 1 (.slice (some ⟨g, 0, none⟩) n c) n (l.map bv)) (hn : l.length = n) :
    (convert 22 9 (.slice (some ⟨g, 0, none⟩) n c)).run Tryd.prog w = .ok (.string ⟨l.toArray⟩) w := by
  have := run_convert_bytes_arg (P := Tryd.prog) (w := w) 22 5 Tryd.underlying22 Tryd.underlying5 g 0 n c (l.map fun c => (c.toNat : Int)) (by simpa using hn) ?_ 9 Tryd.underlying9
  · rw [this, Wire.strOf]; rfl
  · intro i hi
    have hx : l[i]? = some (l[i]'(by omega)) := List.getElem?_eq_getElem _
    rw [Nat.zero_add, h.cellAt i (by omega), List.getElem?_map, hx]
    simp [List.getD, hx, bv]
theorem convZ (w : World) : (convert 22 9 (.slice none 0 0)).run Tryd.prog w = .ok (.string ⟨#[]⟩) w := by kernel_rfl

set_option maxRecDepth 100000 in
set_option maxHeartbeats 1000000 in
theorem bytes32_any (h : List UInt8) (w : World) (hl : h.length = 32) : Calls Tryd.prog 20 #[.agg (h.map bv).toArray] w (GivesT h w) := by
  obtain ⟨i0, hi, hz0, hz1, hz2⟩ := info_parts Wire.byte_info
  have ha0 := arr_new w (h.map bv).toArray 24
  have hsz : (h.map bv).toArray.size = 32 := by simp [hl]
  rw [hsz] at ha0
  have HL := Lib.hid hl
  have ha : Arr (w.alloc (.cells (h.map bv).toArray 24)) w.heap.size 32 (h.map bv) := ha0
  have hbw : Below w.heap.size w (w.alloc (.cells (h.map bv).toArray 24)) := (Below.refl _ _).alloc (Nat.le_refl _) _
  have hws : (w.alloc (.cells (h.map bv).toArray 24)).heap.size = w.heap.size + 1 := by simp
  have HWS := Lib.hid hws
  clear hsz ha0 hl hws
  go_enter Tryd.func20, Tryd.ntmps20
  go_wp2
  revert ha hbw HWS
  generalize w.alloc (.cells (h.map bv).toArray 24) = w0
  intro ha hbw HWS
  go_loopw [3, 4] (fun v iv wr => ∃ (k : Nat), k ≤ 32 ∧ iv = .int .i64 (k : Int) ∧ wr.ownsRow w0.heap.size 5 1 v k ((h.take k).map bv) ∧ Below w0.heap.size w0 wr) (fun _ iv _ => (32 - intOf iv).toNat)
  case atStart => exact ⟨0, by omega, rfl, World.ownsRow_nil _ _ _ _, Below.refl _ _⟩
  case round =>
    obtain ⟨k, hk, rfl, hown, hb⟩ := hrel
    by_cases hlt : k < 32
    · obtain ⟨x, hx⟩ : ∃ x, h[k]? = some x := ⟨_, List.getElem?_eq_getElem (by rw [HL.out]; exact hlt)⟩
      have hcell := (ha.below hb (ha.size (by omega))).cells k (bv x) (by rw [List.getElem?_map, hx]; rfl)
      have htk : (h.take (k + 1)).map bv = (h.take k).map bv ++ [bv x] := by rw [List.take_add_one, hx]; simp
      have HTK := Lib.hid htk
      have z0 : (0 : Int) ≤ (k : Int) := by omega
      have z1 : (k : Int) < 32 := by omega
      have fin : ∀ v' w', w'.ownsRow w0.heap.size 5 1 v' (k + 1) ((h.take k).map bv ++ [bv x]) → (wr.alloc (.cells #[bv x] 5)).grownBy w' u3.ownBlock →
          ∃ (j : Nat), j ≤ 32 ∧ Value.int .i64 ((k : Int) + 1) = .int .i64 (j : Int) ∧ w'.ownsRow w0.heap.size 5 1 v' j ((h.take j).map bv) ∧ Below w0.heap.size w0 w' := by
        intro v' w' h1 h2
        exact ⟨k + 1, by omega, by go_num, by rw [HTK.out]; exact h1, (hb.alloc hb.size _).grown h2 (by have := hb.size; simp; omega) (fun k hk => (hown.lt k hk).1)⟩
      have FIN := Lib.hid fin
      clear fin hx htk
      unfold bv at hcell
      go_wp2_with (at_builtin; refine wpList_append_own _ rfl (.tmp 9) (.tmp 13) _ rfl w0.heap.size 5 i0 (.int .u8 0) 1 1 Tryd.underlying22 hi hz0 hz1 hz2 rfl (by decide) _ k _ rfl (hown.alloc _) ⟨wr.heap.size, 0, none⟩ 1 1 [bv x] rfl rfl (Wire.fresh_one _ _ _) (Wire.one_cell _) (by unfold maxLen; omega) (by omega) (by have := hb.size; simp; omega) ?_; intro v4 w4 ho4 hg4 _)
      go_roundw
      case rel => exact FIN.out _ _ ho4 hg4
      case measure => simp [intOf]; omega
    · have hkn : k = 32 := by omega
      obtain ⟨g, c, rfl, hg1, hg2, hg3, hg4⟩ := Wire.own_form hown (by omega)
      have hown2 : wr.ownsRow w0.heap.size 5 1 (.slice (some ⟨g, 0, none⟩) k c) k (h.map bv) := by
        rw [List.take_of_length_le (by rw [HL.out, hkn]; exact Nat.le_refl _)] at hown; exact hown
      have hcv := convO hown2 (by rw [HL.out, hkn])
      clear hown2
      have hz : ¬ (k : Int) < 32 := by omega
      have HB := Lib.hid (bcj hbw hb)
      clear hown hb hkn hlt hk ha hbw
      go_wp2
      go_ret
      exact ⟨rfl, HB.out⟩

set_option maxRecDepth 100000 in
set_option maxHeartbeats 1000000 in
theorem text_any (h : List UInt8) (w : World) (hl : h.length = 16) : Calls Tryd.prog 26 #[.agg (h.map bv).toArray] w (GivesT h w) := by
  obtain ⟨i0, hi, hz0, hz1, hz2⟩ := info_parts Wire.byte_info
  have ha0 := arr_new w (h.map bv).toArray 44
  have hsz : (h.map bv).toArray.size = 16 := by simp [hl]
  rw [hsz] at ha0
  have HL := Lib.hid hl
  have ha : Arr (w.alloc (.cells (h.map bv).toArray 44)) w.heap.size 16 (h.map bv) := ha0
  have hbw : Below w.heap.size w (w.alloc (.cells (h.map bv).toArray 44)) := (Below.refl _ _).alloc (Nat.le_refl _) _
  have hws : (w.alloc (.cells (h.map bv).toArray 44)).heap.size = w.heap.size + 1 := by simp
  have HWS := Lib.hid hws
  clear hsz ha0 hl hws
  go_enter Tryd.func26, Tryd.ntmps26
  go_wp2
  revert ha hbw HWS
  generalize w.alloc (.cells (h.map bv).toArray 44) = w0
  intro ha hbw HWS
  go_loopw [3, 4] (fun v iv wr => ∃ (k : Nat), k ≤ 16 ∧ iv = .int .i64 (k : Int) ∧ wr.ownsRow w0.heap.size 5 1 v k ((h.take k).map bv) ∧ Below w0.heap.size w0 wr) (fun _ iv _ => (16 - intOf iv).toNat)
  case atStart => exact ⟨0, by omega, rfl, World.ownsRow_nil _ _ _ _, Below.refl _ _⟩
  case round =>
    obtain ⟨k, hk, rfl, hown, hb⟩ := hrel
    by_cases hlt : k < 16
    · obtain ⟨x, hx⟩ : ∃ x, h[k]? = some x := ⟨_, List.getElem?_eq_getElem (by rw [HL.out]; exact hlt)⟩
      have hcell := (ha.below hb (ha.size (by omega))).cells k (bv x) (by rw [List.getElem?_map, hx]; rfl)
      have htk : (h.take (k + 1)).map bv = (h.take k).map bv ++ [bv x] := by rw [List.take_add_one, hx]; simp
      have HTK := Lib.hid htk
      have z0 : (0 : Int) ≤ (k : Int) := by omega
      have z1 : (k : Int) < 16 := by omega
      have fin : ∀ v' w', w'.ownsRow w0.heap.size 5 1 v' (k + 1) ((h.take k).map bv ++ [bv x]) → (wr.alloc (.cells #[bv x] 5)).grownBy w' u3.ownBlock →
          ∃ (j : Nat), j ≤ 16 ∧ Value.int .i64 ((k : Int) + 1) = .int .i64 (j : Int) ∧ w'.ownsRow w0.heap.size 5 1 v' j ((h.take j).map bv) ∧ Below w0.heap.size w0 w' := by
        intro v' w' h1 h2
        exact ⟨k + 1, by omega, by go_num, by rw [HTK.out]; exact h1, (hb.alloc hb.size _).grown h2 (by have := hb.size; simp; omega) (fun k hk => (hown.lt k hk).1)⟩
      have FIN := Lib.hid fin
      clear fin hx htk
      unfold bv at hcell
      go_wp2_with (at_builtin; refine wpList_append_own _ rfl (.tmp 9) (.tmp 13) _ rfl w0.heap.size 5 i0 (.int .u8 0) 1 1 Tryd.underlying22 hi hz0 hz1 hz2 rfl (by decide) _ k _ rfl (hown.alloc _) ⟨wr.heap.size, 0, none⟩ 1 1 [bv x] rfl rfl (Wire.fresh_one _ _ _) (Wire.one_cell _) (by unfold maxLen; omega) (by omega) (by have := hb.size; simp; omega) ?_; intro v4 w4 ho4 hg4 _)
      go_roundw
      case rel => exact FIN.out _ _ ho4 hg4
      case measure => simp [intOf]; omega
    · have hkn : k = 16 := by omega
      obtain ⟨g, c, rfl, hg1, hg2, hg3, hg4⟩ := Wire.own_form hown (by omega)
      have hown2 : wr.ownsRow w0.heap.size 5 1 (.slice (some ⟨g, 0, none⟩) k c) k (h.map bv) := by
        rw [List.take_of_length_le (by rw [HL.out, hkn]; exact Nat.le_refl _)] at hown; exact hown
      have hcv := convO hown2 (by rw [HL.out, hkn])
      clear hown2
      have hz : ¬ (k : Int) < 16 := by omega
      have HB := Lib.hid (bcj hbw hb)
      clear hown hb hkn hlt hk ha hbw
      go_wp2
      go_ret
      exact ⟨rfl, HB.out⟩

def hexDigits : List UInt8 := [48, 49, 50, 51, 52, 53, 54, 55, 56, 57, 97, 98, 99, 100, 101, 102]
def hexOf (s : List UInt8) : List UInt8 := s.flatMap fun c => [hexDigits.getD (c.toNat / 16) 0, hexDigits.getD (c.toNat % 16) 0]
theorem hexOf_snoc (s : List UInt8) {k : Nat} {x : UInt8} (h : s[k]? = some x) : hexOf (s.take (k + 1)) = hexOf (s.take k) ++ [hexDigits.getD (x.toNat / 16) 0, hexDigits.getD (x.toNat % 16) 0] := by
  unfold hexOf
  rw [List.take_add_one, h]; simp
theorem hexOf_length : ∀ s : List UInt8, (hexOf s).length = 2 * s.length
  | [] => rfl
  | x :: s => by
    have := hexOf_length s
    simp only [hexOf, List.flatMap_cons, List.length_append, List.length_cons, List.length_nil] at this ⊢
    omega
theorem index_any (a : List UInt8) (kd : IntKind) (k : Nat) (x : UInt8) (hx : a[k]? = some x) (W : World) : (Instr.index 9 (.string ⟨a.toArray⟩) (.int kd (k : Int))).run Tryd.prog W = .ok (.int .u8 (x.toNat : Int)) W := by
  have hk := (List.getElem?_eq_some_iff.1 hx).1
  have hs : (⟨a.toArray⟩ : ByteArray).size = a.length := by simp [ByteArray.size]
  have hxx := (List.getElem?_eq_some_iff.1 hx).2
  rw [run_index_string (h := Tryd.underlying9)]
  rw [dif_pos ⟨by omega, by rw [hs]; omega⟩]
  rw [← hxx]
  rfl
theorem fresh_two (w : World) (x y : Value) (t : TypeId) : ∀ (j : Nat) (u : Value), [x, y][j]? = some u → (w.alloc (.cells #[x, y] t)).cell? ((⟨w.heap.size, 0, none⟩ : Addr).add j) = some u := by
  intro j u hu
  rw [Addr.add_mid, Nat.zero_add]
  exact (arr_new w #[x, y] t).cells j u hu

/-- What is left of a region, where one order is left: a plain list. -/
theorem seq_rest {P : Program} {md : Region.Mode} {ops : Array Oper} {Q : Exit → Act → World → Prop} {fuel : Nat} {listed : Array Bool} {a : Act} {w : World} (k : Nat) (hn : fuel = (ops.toList.drop k).length)
    (hB : Region.seqB md ops (ops.toList.drop k).length k listed = true) (h : wpList P ops Q (ops.toList.drop k) a w) : wpAny P md ops Q fuel listed a w := by
  subst hn
  exact wpAny_of_seq _ k _ _ _ (fun j => by rw [List.getElem?_drop]; simp) hB h
theorem two_one {a b : UInt8} : ∀ u ∈ [bv a, bv b], u.oneCell' = true := by
  intro u hu
  rcases List.mem_cons.1 hu with rfl | hu
  · rfl
  · obtain rfl := List.mem_singleton.1 hu; rfl

set_option linter.unusedSimpArgs false in
set_option maxRecDepth 100000 in
set_option maxHeartbeats 1000000 in
theorem hex_any (s : List UInt8) (w : World) (hl : s.length ≤ 1000000) : Calls Tryd.prog 25 #[.string ⟨s.toArray⟩] w (GivesT (hexOf s) w) := by
  obtain ⟨i0, hi, hz0, hz1, hz2⟩ := info_parts Wire.byte_info
  have hsz : (⟨s.toArray⟩ : ByteArray).size = s.length := by simp [ByteArray.size]
  obtain ⟨n, hn⟩ : ∃ n, n = s.length := ⟨_, rfl⟩
  rw [← hn] at hsz hl
  have HN := Lib.hid hn
  clear hn
  go_enter Tryd.func25, Tryd.ntmps25
  go_wp2
  go_loopw [4, 5] (fun v iv wr => ∃ (k m : Nat), k ≤ n ∧ m = 2 * k ∧ iv = .int .i64 (k : Int) ∧ wr.ownsRow w.heap.size 5 1 v m ((hexOf (s.take k)).map bv) ∧ Below w.heap.size w wr) (fun _ iv _ => (n - intOf iv).toNat)
  case atStart => exact ⟨0, 0, by omega, rfl, rfl, World.ownsRow_nil _ _ _ _, Below.refl _ _⟩
  case round =>
    obtain ⟨k, m, hk, hm, rfl, hown, hb⟩ := hrel
    by_cases hlt : k < n
    · obtain ⟨x, hx⟩ : ∃ x, s[k]? = some x := ⟨_, List.getElem?_eq_getElem (by rw [← HN.out]; exact hlt)⟩
      have hix := index_any s .i64 k x hx
      have hx2 := x.toNat_lt
      have e1 : Int.tdiv (x.toNat : Int) 16 = ((x.toNat / 16 : Nat) : Int) := (Int.ofNat_tdiv _ _).symm
      have e2 : Int.tmod (x.toNat : Int) 16 = ((x.toNat % 16 : Nat) : Int) := (Int.ofNat_tmod _ _).symm
      have e3 : (x.toNat : Int) / 16 = ((x.toNat / 16 : Nat) : Int) := by omega
      have e4 : (x.toNat : Int) % 16 = ((x.toNat % 16 : Nat) : Int) := by omega
      have e5 : IntKind.u8.wrap (((x.toNat / 16 : Nat) : Int)) = ((x.toNat / 16 : Nat) : Int) := by rw [IntKind.wrap_u8]; omega
      have e6 : IntKind.u8.wrap (((x.toNat % 16 : Nat) : Int)) = ((x.toNat % 16 : Nat) : Int) := by rw [IntKind.wrap_u8]; omega
      obtain ⟨a, ha⟩ : ∃ a, hexDigits[x.toNat / 16]? = some a := ⟨_, List.getElem?_eq_getElem (by show x.toNat / 16 < 16; omega)⟩
      obtain ⟨b, hb2⟩ : ∃ b, hexDigits[x.toNat % 16]? = some b := ⟨_, List.getElem?_eq_getElem (by show x.toNat % 16 < 16; omega)⟩
      have hia := index_any hexDigits .u8 (x.toNat / 16) a ha
      have hib := index_any hexDigits .u8 (x.toNat % 16) b hb2
      unfold hexDigits at hia hib
      have hsn := hexOf_snoc s hx
      rw [List.getD_eq_getElem?_getD, List.getD_eq_getElem?_getD, ha, hb2] at hsn
      have HSN := Lib.hid hsn
      obtain ⟨d1, hd1⟩ : ∃ d, d = x.toNat / 16 := ⟨_, rfl⟩
      obtain ⟨d2, hd2⟩ : ∃ d, d = x.toNat % 16 := ⟨_, rfl⟩
      rw [← hd1] at e1 e3 e5 hia
      rw [← hd2] at e2 e4 e6 hib
      have HM := Lib.hid hm
      have z0 : (0 : Int) ≤ (k : Int) := by omega
      have z1 : (k : Int) < (n : Int) := by omega
      have hm3 : m ≤ 2000000 := by omega
      have hbd := hb.drew
      have fin : ∀ v' w', w'.ownsRow w.heap.size 5 1 v' (m + 2) ((hexOf (s.take k)).map bv ++ [bv a, bv b]) → (wr.drew.alloc (.cells #[bv a, bv b] 5)).grownBy w' u4.ownBlock →
          ∃ (j m' : Nat), j ≤ n ∧ m' = 2 * j ∧ Value.int .i64 ((k : Int) + 1) = .int .i64 (j : Int) ∧ w'.ownsRow w.heap.size 5 1 v' m' ((hexOf (s.take j)).map bv) ∧ Below w.heap.size w w' := by
        intro v' w' h1 h2
        exact ⟨k + 1, m + 2, by omega, by have := HM.out; omega, by go_num, by rw [HSN.out, List.map_append]; exact h1, (hbd.alloc hbd.size _).grown h2 (by have := hbd.size; simp at this ⊢; omega) (fun k hk => (hown.lt k hk).1)⟩
      have FIN := Lib.hid fin
      clear fin hx hsn ha hb2 hd1 hd2 hm hx2
      go_wp2
      refine wp_region_any (by kernel_rfl) ?_
      change wpAny _ _ _ _ _ _ _ wr.drew
      have hown2 := hown.drew
      revert hown2 hbd FIN
      generalize wr.drew = w2
      intro hbd FIN hown2
      clear hown hb
      refine wpAny_take (i := 0) (v := ?_) rfl (by kernel_rfl) (by kernel_rfl) (by kernel_rfl) (fun _ _ _ h => h) (Or.inl ⟨by rfl, ?_⟩) ?_
      rotate_left 1
      · (intro w'; go_simp; try rfl)
      try simp only [Act.put, List.setIfInBounds_toArray, List.set_cons_zero, List.set_cons_succ]
      refine wpAny_take (i := 1) (v := ?_) rfl (by kernel_rfl) (by kernel_rfl) (by kernel_rfl) (fun _ _ _ h => h) (Or.inl ⟨by rfl, ?_⟩) ?_
      rotate_left 1
      · (intro w'; go_simp; try rfl)
      try simp only [Act.put, List.setIfInBounds_toArray, List.set_cons_zero, List.set_cons_succ]
      refine wpAny_take (i := 2) (v := ?_) rfl (by kernel_rfl) (by kernel_rfl) (by kernel_rfl) (fun _ _ _ h => h) (Or.inl ⟨by rfl, ?_⟩) ?_
      rotate_left 1
      · (intro w'; go_simp; try rfl)
      try simp only [Act.put, List.setIfInBounds_toArray, List.set_cons_zero, List.set_cons_succ]
      refine wpAny_take (i := 3) (v := ?_) rfl (by kernel_rfl) (by kernel_rfl) (by kernel_rfl) (fun _ _ _ h => h) (Or.inl ⟨by rfl, ?_⟩) ?_
      rotate_left 1
      · (intro w'; go_simp; try rfl)
      try simp only [Act.put, List.setIfInBounds_toArray, List.set_cons_zero, List.set_cons_succ]
      refine wpAny_take (i := 4) (v := ?_) rfl (by kernel_rfl) (by kernel_rfl) (by kernel_rfl) (fun _ _ _ h => h) (Or.inl ⟨by rfl, ?_⟩) ?_
      rotate_left 1
      · (intro w'; go_simp; try rfl)
      try simp only [Act.put, List.setIfInBounds_toArray, List.set_cons_zero, List.set_cons_succ]
      refine wpAny_take (i := 5) (v := ?_) rfl (by kernel_rfl) (by kernel_rfl) (by kernel_rfl) (fun _ _ _ h => h) (Or.inl ⟨by rfl, ?_⟩) ?_
      rotate_left 1
      · (intro w'; go_simp; try rfl)
      try simp only [Act.put, List.setIfInBounds_toArray, List.set_cons_zero, List.set_cons_succ]
      refine wpAny_take (i := 6) (v := ?_) rfl (by kernel_rfl) (by kernel_rfl) (by kernel_rfl) (fun _ _ _ h => h) (Or.inl ⟨by rfl, ?_⟩) ?_
      rotate_left 1
      · (intro w'; go_simp; try rfl)
      try simp only [Act.put, List.setIfInBounds_toArray, List.set_cons_zero, List.set_cons_succ]
      refine wpAny_take (i := 7) (v := ?_) rfl (by kernel_rfl) (by kernel_rfl) (by kernel_rfl) (fun _ _ _ h => h) (Or.inl ⟨by rfl, ?_⟩) ?_
      rotate_left 1
      · (intro w'; go_simp; try rfl)
      try simp only [Act.put, List.setIfInBounds_toArray, List.set_cons_zero, List.set_cons_succ]
      refine wpAny_take (i := 8) (v := ?_) rfl (by kernel_rfl) (by kernel_rfl) (by kernel_rfl) (fun _ _ _ h => h) (Or.inl ⟨by rfl, ?_⟩) ?_
      rotate_left 1
      · (intro w'; go_simp; try rfl)
      try simp only [Act.put, List.setIfInBounds_toArray, List.set_cons_zero, List.set_cons_succ]
      refine wpAny_take (i := 9) (v := ?_) rfl (by kernel_rfl) (by kernel_rfl) (by kernel_rfl) (fun _ _ _ h => h) (Or.inl ⟨by rfl, ?_⟩) ?_
      rotate_left 1
      · (intro w'; go_simp; try rfl)
      try simp only [Act.put, List.setIfInBounds_toArray, List.set_cons_zero, List.set_cons_succ]
      refine wpAny_take (i := 10) (v := ?_) rfl (by kernel_rfl) (by kernel_rfl) (by kernel_rfl) (fun _ _ _ h => h) (Or.inl ⟨by rfl, ?_⟩) ?_
      rotate_left 1
      · (intro w'; go_simp; try rfl)
      try simp only [Act.put, List.setIfInBounds_toArray, List.set_cons_zero, List.set_cons_succ]
      refine wpAny_take (i := 11) (v := ?_) rfl (by kernel_rfl) (by kernel_rfl) (by kernel_rfl) (fun _ _ _ h => h) (Or.inl ⟨by rfl, ?_⟩) ?_
      rotate_left 1
      · (intro w'; go_simp; try rfl)
      try simp only [Act.put, List.setIfInBounds_toArray, List.set_cons_zero, List.set_cons_succ]
      refine wpAny_take (i := 12) (v := ?_) rfl (by kernel_rfl) (by kernel_rfl) (by kernel_rfl) (fun _ _ _ h => h) (Or.inl ⟨by rfl, ?_⟩) ?_
      rotate_left 1
      · (intro w'; go_simp; try rfl)
      try simp only [Act.put, List.setIfInBounds_toArray, List.set_cons_zero, List.set_cons_succ]
      refine seq_rest 13 rfl (by kernel_rfl) ?_
      simp only [List.drop_succ_cons, List.drop_zero]
      go_wp2_with (at_builtin; refine wpList_append_own _ rfl (.tmp 12) (.tmp 25) _ rfl w.heap.size 5 i0 (.int .u8 0) 1 1 Tryd.underlying22 hi hz0 hz1 hz2 rfl (by decide) _ m _ rfl (hown2.alloc _) ⟨w2.heap.size, 0, none⟩ 2 2 [bv a, bv b] rfl rfl (fresh_two _ _ _ _) two_one (by unfold maxLen; omega) (by omega) (by have := hbd.size; simp; omega) ?_; intro v4 w4 ho4 hg4 _)
      go_roundw
      case rel => exact FIN.out _ _ ho4 hg4
      case measure => simp [intOf]; omega
    · have hkn : k = n := by omega
      have hsn : s.take k = s := List.take_of_length_le (by rw [← HN.out, hkn]; exact Nat.le_refl _)
      rw [hsn] at hown
      have hz : ¬ (k : Int) < (n : Int) := by omega
      have HB := Lib.hid hb
      rcases Nat.eq_zero_or_pos m with h0 | h0
      · have hs0 : s = [] := List.eq_nil_of_length_eq_zero (by rw [← HN.out]; omega)
        subst h0
        rcases hown.2 with ⟨rfl, _⟩ | ⟨g, cap, cur, rfl, _⟩
        · have hcv := convZ
          have HS := Lib.hid hs0
          clear hown hb hkn hlt hk hm hsn hs0
          go_wp2
          go_ret
          exact ⟨by rw [HS.out]; rfl, HB.out⟩
        · have hcv := convO (l := hexOf s) hown (by rw [hexOf_length, hs0]; rfl)
          clear hown hb hkn hlt hk hm hsn hs0
          go_wp2
          go_ret
          exact ⟨rfl, HB.out⟩
      · obtain ⟨g, c, rfl, hg1, hg2, hg3, hg4⟩ := Wire.own_form hown h0
        have hcv := convO (l := hexOf s) hown (by rw [hexOf_length, ← HN.out]; omega)
        clear hown hb hkn hlt hk hm hsn
        go_wp2
        go_ret
        exact ⟨rfl, HB.out⟩

end Hash
end Go.Proofs.YtciinlncflngdaaDoor
