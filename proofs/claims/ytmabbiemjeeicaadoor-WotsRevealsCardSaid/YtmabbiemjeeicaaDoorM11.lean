/- HRef32; HRefMac: what each of these parts proves stands ahead of it. -/
import Derived.Test.YtmabbiemjeeicaaDoorZHUtil
import Derived.Test.YtmabbiemjeeicaaDoorZHConv
/- The reference's Bytes32. Condition: there are 32 bytes. -/
namespace Go.Proofs.YtmabbiemjeeicaaDoor
open Go.RowKit
namespace Hash
open Wire (bv)
set_option maxRecDepth 100000 in
set_option maxHeartbeats 1000000 in
theorem bytes32_any (h : List UInt8) (w : World) (hl : h.length = 32) : Calls Tryd.prog 59 #[.agg (h.map bv).toArray] w (GivesT h w) := by
  obtain ⟨i0, hi, hz0, hz1, hz2⟩ := info_parts Wire.byte_info
  have ha0 := arr_new w (h.map bv).toArray 66
  have hsz : (h.map bv).toArray.size = 32 := by simp [hl]
  rw [hsz] at ha0
  have HL := Lib.hid hl
  have ha : Arr (w.alloc (.cells (h.map bv).toArray 66)) w.heap.size 32 (h.map bv) := ha0
  have hbw : Below w.heap.size w (w.alloc (.cells (h.map bv).toArray 66)) := (Below.refl _ _).alloc (Nat.le_refl _) _
  have hws : (w.alloc (.cells (h.map bv).toArray 66)).heap.size = w.heap.size + 1 := by simp
  have HWS := Lib.hid hws
  clear hsz ha0 hl hws
  go_enter Tryd.func59, Tryd.ntmps59
  go_wp2
  revert ha hbw HWS
  generalize w.alloc (.cells (h.map bv).toArray 66) = w0
  intro ha hbw HWS
  go_loopw [3, 4] (fun v iv wr => ∃ (k : Nat), k ≤ 32 ∧ iv = .int .i64 (k : Int) ∧ wr.ownsRow w0.heap.size 5 1 v k ((h.take k).map bv) ∧ Below w0.heap.size w0 wr) (fun _ iv _ => (32 - intOf iv).toNat)
  case atStart => exact ⟨0, by omega, rfl, World.ownsRow_nil _ _ _ _, Below.refl _ _⟩
  case round =>
    obtain ⟨k, hk, rfl, hown, hb⟩ := hrel
    by_cases hlt : k < 32
    · obtain ⟨x, hx⟩ : ∃ x, h[k]? = some x := ⟨_, List.getElem?_eq_getElem (by rw [HL.out]; exact hlt)⟩
      have hcell := (ha.below hb (ha.size (by omega))).cells k (bv x) (by rw [List.getElem?_map, hx]; rfl)
      have htk : (h.take (k + 1)).map bv = (h.take k).map bv ++ [bv x] := by rw [List.take_add_one, hx]; simp
      have HTK := Lib.hid htk
      have z0 : (0 : Int) ≤ (k : Int) := by omega
      have z1 : (k : Int) < 32 := by omega
      have fin : ∀ v' w', w'.ownsRow w0.heap.size 5 1 v' (k + 1) ((h.take k).map bv ++ [bv x]) → (wr.alloc (.cells #[bv x] 5)).grownBy w' u3.ownBlock →
          ∃ (j : Nat), j ≤ 32 ∧ Value.int .i64 ((k : Int) + 1) = .int .i64 (j : Int) ∧ w'.ownsRow w0.heap.size 5 1 v' j ((h.take j).map bv) ∧ Below w0.heap.size w0 w' := by
        intro v' w' h1 h2
        exact ⟨k + 1, by omega, by go_num, by rw [HTK.out]; exact h1, (hb.alloc hb.size _).grown h2 (by have := hb.size; simp; omega) (fun k hk => (hown.lt k hk).1)⟩
      have FIN := Lib.hid fin
      clear fin hx htk
      unfold bv at hcell
      go_wp2_with (at_builtin; refine wpList_append_own _ rfl (.tmp 9) (.tmp 13) _ rfl w0.heap.size 5 i0 (.int .u8 0) 1 1 Tryd.underlying44 hi hz0 hz1 hz2 rfl (by decide) _ k _ rfl (hown.alloc _) ⟨wr.heap.size, 0, none⟩ 1 1 [bv x] rfl rfl (Wire.fresh_one _ _ _) (Wire.one_cell _) (by unfold maxLen; omega) (by omega) (by have := hb.size; simp; omega) ?_; intro v4 w4 ho4 hg4 _)
      go_roundw
      case rel => exact FIN.out _ _ ho4 hg4
      case measure => simp [intOf]; omega
    · have hkn : k = 32 := by omega
      obtain ⟨g, c, rfl, hg1, hg2, hg3, hg4⟩ := Wire.own_form hown (by omega)
      have hown2 : wr.ownsRow w0.heap.size 5 1 (.slice (some ⟨g, 0, none⟩) k c) k (h.map bv) := by
        rw [List.take_of_length_le (by rw [HL.out, hkn]; exact Nat.le_refl _)] at hown; exact hown
      have hcv := convO hown2 (by rw [HL.out, hkn])
      clear hown2
      have hz : ¬ (k : Int) < 32 := by omega
      have HB := Lib.hid (bcj hbw hb)
      clear hown hb hkn hlt hk ha hbw
      go_wp2
      go_ret
      exact ⟨rfl, HB.out⟩

end Hash
end Go.Proofs.YtmabbiemjeeicaaDoor

/- The reference's padKey and Mac. Condition: the text has at most 400000 bytes, the key at most 400000; the table of the reference's constants reads as the program lays it. -/
namespace Go.Proofs.YtmabbiemjeeicaaDoor
open Go.RowKit
namespace Hash
open Wire (bv Made Lies)

def blockOf (K : List UInt8) (m : UInt8) : List UInt8 := (K ++ zeros (64 - K.length)).map (· ^^^ m)
theorem keyBlock_long {key : List UInt8} (m : UInt8) (h : 64 < key.length) : keyBlock key m = blockOf (sha key) m := by
  unfold keyBlock blockOf; simp only; rw [if_pos h]
theorem keyBlock_short {key : List UInt8} (m : UInt8) (h : ¬ 64 < key.length) : keyBlock key m = blockOf key m := by
  unfold keyBlock blockOf; simp only; rw [if_neg h]
theorem blockOf_length {K : List UInt8} (m : UInt8) (h : K.length ≤ 64) : (blockOf K m).length = 64 := by simp [blockOf, zeros]; omega
theorem blockOf_in {K : List UInt8} {m x : UInt8} {i : Nat} (h : K[i]? = some x) : (blockOf K m)[i]? = some (x ^^^ m) := by
  have hi : i < K.length := (List.getElem?_eq_some_iff.1 h).1
  unfold blockOf
  rw [List.getElem?_map, List.getElem?_append_left hi, h]; rfl
theorem blockOf_out {K : List UInt8} {m : UInt8} {i : Nat} (h : ¬ i < K.length) (h2 : i < 64) : (blockOf K m)[i]? = some (0 ^^^ m) := by
  unfold blockOf zeros
  rw [List.getElem?_map, List.getElem?_append_right (by omega), List.getElem?_replicate, if_pos (by omega)]; rfl
theorem take_step {X : List UInt8} {p : Nat} {c : UInt8} (h : X[p]? = some c) : (X.take (p + 1)).map bv = (X.take p).map bv ++ [bv c] := by
  rw [List.take_add_one, h]; simp

set_option maxRecDepth 100000 in
set_option maxHeartbeats 2000000 in
theorem padKey_any (key : List UInt8) (m : UInt8) (w : World) (hk : key.length ≤ 1000000) (ht : Table 0 w) :
    Calls Tryd.prog 58 #[.string ⟨key.toArray⟩, .int .u8 (m.toNat : Int)] w (Made w 64 (keyBlock key m)) := by
  obtain ⟨i0, hi, hz0, hz1, hz2⟩ := info_parts Wire.byte_info
  have hsk := sizeS key
  by_cases h64 : (64 : Int) < (key.length : Int)
  · have E1 := Lib.hid (refSumKey key hk w ht)
    have hck := convKey key w
    have hbk := keyBlock_long m (show 64 < key.length by omega)
    have hSL : (sha key).length = 32 := sha_length key
    have E2 := Lib.hid (fun W => bytes32_any (sha key) W hSL)
    rw [hbk]
    generalize sha key = sk at E1 E2 hSL ⊢
    have hKL : sk.length ≤ 64 := by omega
    clear hSL ht hbk
    go_enter Tryd.func58, Tryd.ntmps58
    go_wp2_with (first
      | (go_at_call 46; (with_reducible refine E1.out.mono ?_); rintro e w1 ⟨rfl, hb1⟩)
      | (go_at_call 59; (with_reducible refine (E2.out _).mono ?_); rintro e w2 ⟨rfl, hb2⟩))
    have hbw := bcj hb1 hb2
    clear hb1 hb2 hck E1 E2
    have HKL := Lib.hid hKL
    have hsK := sizeS sk
    have HBL := Lib.hid (blockOf_length (K := sk) m hKL)
    have hKi : (sk.length : Int) ≤ 64 := by omega
    clear hKL
    go_loopw [6, 7] (fun v iv wr => ∃ (i : Nat), i ≤ 64 ∧ iv = .int .i64 (i : Int) ∧ wr.ownsRow w.heap.size 5 1 v i (((blockOf sk m).take i).map bv) ∧ Below w.heap.size w wr) (fun _ iv _ => (64 - intOf iv).toNat)
    case atStart => exact ⟨0, by omega, rfl, World.ownsRow_nil _ _ _ _, hbw⟩
    case round =>
      clear hbw
      obtain ⟨i, hi64, rfl, hown, hb⟩ := hrel
      by_cases hlt : i < 64
      · have y0 : (0 : Int) ≤ (i : Int) := by omega
        have y1 : (i : Int) < 64 := by omega
        have key2 : ∃ c : UInt8, ((blockOf sk m)[i]? = some (c ^^^ m)) ∧ ((∃ hik : i < sk.length, sk[i]? = some c) ∨ (¬ i < sk.length ∧ c = 0)) := by
          by_cases hik : i < sk.length
          · exact ⟨_, blockOf_in (List.getElem?_eq_getElem hik), Or.inl ⟨hik, List.getElem?_eq_getElem hik⟩⟩
          · exact ⟨0, blockOf_out hik hlt, Or.inr ⟨hik, rfl⟩⟩
        obtain ⟨c, hc, hcc⟩ := key2
        have hst := take_step hc
        have e1 := xor8 c m
        generalize c ^^^ m = z at e1 hst
        have fin : ∀ v' w', w'.ownsRow w.heap.size 5 1 v' (i + 1) (((blockOf sk m).take i).map bv ++ [bv z]) → (wr.alloc (.cells #[bv z] 5)).grownBy w' u6.ownBlock →
            ∃ (j : Nat), j ≤ 64 ∧ Value.int .i64 ((i : Int) + 1) = .int .i64 (j : Int) ∧ w'.ownsRow w.heap.size 5 1 v' j (((blockOf sk m).take j).map bv) ∧ Below w.heap.size w w' := by
          intro v' w' h1 h2
          exact ⟨i + 1, by omega, by go_num, by rw [hst]; exact h1, (hb.alloc hb.size _).grown h2 (by have := hb.size; simp; omega) (fun k hk => (hown.lt k hk).1)⟩
        have FIN := Lib.hid fin
        clear fin hst hc hlt
        rcases hcc with ⟨hik, hx⟩ | ⟨hik, rfl⟩
        · have hidx := index_any sk .i64 i c hx
          have y2 : (i : Int) < (sk.length : Int) := by omega
          clear hx hik
          go_wp2_with (at_builtin; refine wpList_append_own _ rfl (.tmp 28) (.tmp 32) _ rfl w.heap.size 5 i0 (.int .u8 0) 1 1 Tryd.underlying44 hi hz0 hz1 hz2 rfl (by decide) _ i _ rfl (hown.alloc _) ⟨wr.heap.size, 0, none⟩ 1 1 [bv z] rfl rfl (Wire.fresh_one _ _ _) (Wire.one_cell _) (by unfold maxLen; omega) (by omega) (by have := hb.size; simp; omega) ?_; intro v4 w4 ho4 hg4 _)
          go_roundw
          case rel => exact FIN.out _ _ ho4 hg4
          case measure => simp [intOf]; omega
        · have y2 : ¬ (i : Int) < (sk.length : Int) := by omega
          have e2 : bits .xor .u8 0 (m.toNat : Int) = (z.toNat : Int) := e1
          clear hik e1
          go_wp2_with (at_builtin; refine wpList_append_own _ rfl (.tmp 28) (.tmp 32) _ rfl w.heap.size 5 i0 (.int .u8 0) 1 1 Tryd.underlying44 hi hz0 hz1 hz2 rfl (by decide) _ i _ rfl (hown.alloc _) ⟨wr.heap.size, 0, none⟩ 1 1 [bv z] rfl rfl (Wire.fresh_one _ _ _) (Wire.one_cell _) (by unfold maxLen; omega) (by omega) (by have := hb.size; simp; omega) ?_; intro v4 w4 ho4 hg4 _)
          go_roundw
          case rel => exact FIN.out _ _ ho4 hg4
          case measure => simp [intOf]; omega
      · have hi2 : i = 64 := by omega
        obtain ⟨g, c, rfl, hg1, hg2, hg3, hg4⟩ := Wire.own_form hown (by omega)
        have y1 : ¬ (i : Int) < 64 := by omega
        have HE : Hid (Made w 64 (blockOf sk m) (.returned (.slice (some ⟨g, 0, none⟩) i c)) wr) := Lib.hid (by
          rw [List.take_of_length_le (by rw [HBL.out, hi2]; exact Nat.le_refl _), hi2] at hown
          rw [hi2]
          exact ⟨g, c, rfl, hown, hb⟩)
        clear hown hb hi2 hlt hi64
        go_wp2
        go_ret
        exact HE.out
  · have hbk := keyBlock_short m (show ¬ 64 < key.length by omega)
    have hKL : key.length ≤ 64 := by omega
    have hbw := Below.refl w.heap.size w
    rw [hbk]
    clear ht hbk
    go_enter Tryd.func58, Tryd.ntmps58
    go_wp2
    have HKL := Lib.hid hKL
    have hsK := sizeS key
    have HBL := Lib.hid (blockOf_length (K := key) m hKL)
    have hKi : (key.length : Int) ≤ 64 := by omega
    clear hKL
    go_loopw [6, 7] (fun v iv wr => ∃ (i : Nat), i ≤ 64 ∧ iv = .int .i64 (i : Int) ∧ wr.ownsRow w.heap.size 5 1 v i (((blockOf key m).take i).map bv) ∧ Below w.heap.size w wr) (fun _ iv _ => (64 - intOf iv).toNat)
    case atStart => exact ⟨0, by omega, rfl, World.ownsRow_nil _ _ _ _, hbw⟩
    case round =>
      clear hbw
      obtain ⟨i, hi64, rfl, hown, hb⟩ := hrel
      by_cases hlt : i < 64
      · have y0 : (0 : Int) ≤ (i : Int) := by omega
        have y1 : (i : Int) < 64 := by omega
        have key2 : ∃ c : UInt8, ((blockOf key m)[i]? = some (c ^^^ m)) ∧ ((∃ hik : i < key.length, key[i]? = some c) ∨ (¬ i < key.length ∧ c = 0)) := by
          by_cases hik : i < key.length
          · exact ⟨_, blockOf_in (List.getElem?_eq_getElem hik), Or.inl ⟨hik, List.getElem?_eq_getElem hik⟩⟩
          · exact ⟨0, blockOf_out hik hlt, Or.inr ⟨hik, rfl⟩⟩
        obtain ⟨c, hc, hcc⟩ := key2
        have hst := take_step hc
        have e1 := xor8 c m
        generalize c ^^^ m = z at e1 hst
        have fin : ∀ v' w', w'.ownsRow w.heap.size 5 1 v' (i + 1) (((blockOf key m).take i).map bv ++ [bv z]) → (wr.alloc (.cells #[bv z] 5)).grownBy w' u6.ownBlock →
            ∃ (j : Nat), j ≤ 64 ∧ Value.int .i64 ((i : Int) + 1) = .int .i64 (j : Int) ∧ w'.ownsRow w.heap.size 5 1 v' j (((blockOf key m).take j).map bv) ∧ Below w.heap.size w w' := by
          intro v' w' h1 h2
          exact ⟨i + 1, by omega, by go_num, by rw [hst]; exact h1, (hb.alloc hb.size _).grown h2 (by have := hb.size; simp; omega) (fun k hk => (hown.lt k hk).1)⟩
        have FIN := Lib.hid fin
        clear fin hst hc hlt
        rcases hcc with ⟨hik, hx⟩ | ⟨hik, rfl⟩
        · have hidx := index_any key .i64 i c hx
          have y2 : (i : Int) < (key.length : Int) := by omega
          clear hx hik
          go_wp2_with (at_builtin; refine wpList_append_own _ rfl (.tmp 28) (.tmp 32) _ rfl w.heap.size 5 i0 (.int .u8 0) 1 1 Tryd.underlying44 hi hz0 hz1 hz2 rfl (by decide) _ i _ rfl (hown.alloc _) ⟨wr.heap.size, 0, none⟩ 1 1 [bv z] rfl rfl (Wire.fresh_one _ _ _) (Wire.one_cell _) (by unfold maxLen; omega) (by omega) (by have := hb.size; simp; omega) ?_; intro v4 w4 ho4 hg4 _)
          go_roundw
          case rel => exact FIN.out _ _ ho4 hg4
          case measure => simp [intOf]; omega
        · have y2 : ¬ (i : Int) < (key.length : Int) := by omega
          have e2 : bits .xor .u8 0 (m.toNat : Int) = (z.toNat : Int) := e1
          clear hik e1
          go_wp2_with (at_builtin; refine wpList_append_own _ rfl (.tmp 28) (.tmp 32) _ rfl w.heap.size 5 i0 (.int .u8 0) 1 1 Tryd.underlying44 hi hz0 hz1 hz2 rfl (by decide) _ i _ rfl (hown.alloc _) ⟨wr.heap.size, 0, none⟩ 1 1 [bv z] rfl rfl (Wire.fresh_one _ _ _) (Wire.one_cell _) (by unfold maxLen; omega) (by omega) (by have := hb.size; simp; omega) ?_; intro v4 w4 ho4 hg4 _)
          go_roundw
          case rel => exact FIN.out _ _ ho4 hg4
          case measure => simp [intOf]; omega
      · have hi2 : i = 64 := by omega
        obtain ⟨g, c, rfl, hg1, hg2, hg3, hg4⟩ := Wire.own_form hown (by omega)
        have y1 : ¬ (i : Int) < 64 := by omega
        have HE : Hid (Made w 64 (blockOf key m) (.returned (.slice (some ⟨g, 0, none⟩) i c)) wr) := Lib.hid (by
          rw [List.take_of_length_le (by rw [HBL.out, hi2]; exact Nat.le_refl _), hi2] at hown
          rw [hi2]
          exact ⟨g, c, rfl, hown, hb⟩)
        clear hown hb hi2 hlt hi64
        go_wp2
        go_ret
        exact HE.out

theorem own_str {w : World} {B n : Nat} {v : Value} {xs : List UInt8} {s : List UInt8} {t : TypeId} (h : w.ownsRow B t 1 v n (xs.map bv ++ Lib.strCells ⟨s.toArray⟩)) : w.ownsRow B t 1 v n ((xs ++ s).map bv) := by
  rw [Wire.strCells_eq] at h
  simpa using h

set_option maxRecDepth 100000 in
set_option maxHeartbeats 2000000 in
theorem refMac_any (key text : List UInt8) (w : World) (hk : key.length ≤ 400000) (hx : text.length ≤ 400000) (ht : Table 0 w) :
    Calls Tryd.prog 49 #[.string ⟨key.toArray⟩, .string ⟨text.toArray⟩] w (GivesT (mac key text) w) := by
  obtain ⟨i0, hi, hz0, hz1, hz2⟩ := info_parts Wire.byte_info
  have E1 : Hid (∀ W, Table 0 W → Calls Tryd.prog 58 #[.string ⟨key.toArray⟩, .int .u8 54] W (Made W 64 (keyBlock key 0x36))) := Lib.hid (fun W h => padKey_any key 0x36 W (by omega) h)
  have E2 : Hid (∀ W, Table 0 W → Calls Tryd.prog 58 #[.string ⟨key.toArray⟩, .int .u8 92] W (Made W 64 (keyBlock key 0x5c))) := Lib.hid (fun W h => padKey_any key 0x5c W (by omega) h)
  have hst := sizeS text
  have hl2 : (keyBlock key 0x36).length = 64 := by
    by_cases h : 64 < key.length
    · rw [keyBlock_long _ h]; exact blockOf_length _ (by rw [sha_length]; omega)
    · rw [keyBlock_short _ h]; exact blockOf_length _ (by omega)
  have hl3 : (keyBlock key 0x5c).length = 64 := by
    by_cases h : 64 < key.length
    · rw [keyBlock_long _ h]; exact blockOf_length _ (by rw [sha_length]; omega)
    · rw [keyBlock_short _ h]; exact blockOf_length _ (by omega)
  have hmac : mac key text = sha (keyBlock key 0x5c ++ sha (keyBlock key 0x36 ++ text)) := rfl
  rw [hmac]
  generalize keyBlock key 0x36 = k1 at *
  generalize keyBlock key 0x5c = k2 at *
  have HT := Lib.hid ht
  have Z := Below.refl w.heap.size w
  have hhl : (sha (k1 ++ text)).length = 32 := sha_length _
  have E3 := Lib.hid (fun W n c A (h : Lies W W.heap.size 1 A n c ((k1 ++ text).map bv)) hT => refSum_any (k1 ++ text) n c A W h (by simp; omega) hT)
  have E5 := Lib.hid (fun W => bytes32_any (sha (k1 ++ text)) W hhl)
  have hsh := sizeS (sha (k1 ++ text))
  rw [hhl] at hsh
  have E4 := Lib.hid (fun W n c A (h : Lies W W.heap.size 1 A n c ((k2 ++ sha (k1 ++ text)).map bv)) hT => refSum_any (k2 ++ sha (k1 ++ text)) n c A W h (by simp; omega) hT)
  generalize sha (k1 ++ text) = h1 at *
  have hhl2 : (sha (k2 ++ h1)).length = 32 := sha_length _
  have E6 := Lib.hid (fun W => bytes32_any (sha (k2 ++ h1)) W hhl2)
  generalize sha (k2 ++ h1) = h2 at *
  have HX := Lib.hid hx
  have hxi : text.length ≤ 400000 := hx
  clear hmac hk hx ht hl2 hl3 hhl hhl2
  go_enter Tryd.func49, Tryd.ntmps49
  go_wp2_with (first
    | (go_at_call 58; (with_reducible refine (E1.out _ (tabj HT.out Z)).mono ?_); rintro e w1 ⟨g1, c1, rfl, ho1, hb1⟩; replace Z := bcj Z hb1; clear hb1 E1)
    | (at_builtin; refine Lib.wpList_append_own_string _ rfl (.tmp 9) (.tmp 10) _ _ rfl w.heap.size 5 i0 Tryd.underlying44 Tryd.underlying9 hi hz0 hz1 hz2 _ _ _ rfl ho1 _ rfl (by rw [hst]; unfold maxLen; omega) (by rw [hst]; omega) Z.size ?_; intro v2 w2 ho2 hg2 _; rw [hst] at ho2; replace ho2 := own_str ho2; have hb2 := (Below.refl w.heap.size w1).grown hg2 Z.size (fun q hq => (ho1.lt q hq).1); replace Z := Z.trans hb2; have hf2 := Wire.own_form ho2 (by omega); obtain ⟨g2, c2, rfl, -⟩ := hf2; clear ho1 hg2 hb2)
    | (go_at_call 58; (with_reducible refine (E2.out _ (tabj HT.out Z)).mono ?_); rintro e w3 ⟨g3, c3, rfl, ho3, hb3⟩; have hle := Z.size; replace Z := bcj Z hb3; replace ho2 := Wire.own_below ho2 hb3; have hle3 := hb3.size; clear hb3 E2)
    | (go_at_call 46; (with_reducible refine (E3.out _ _ _ _ (Wire.lies_own ho2) (tabj HT.out Z)).mono ?_); rintro e w4 ⟨rfl, hb4⟩; replace Z := bcj Z hb4; replace ho3 := Wire.own_below ho3 hb4; replace hle3 := Nat.le_trans hle3 hb4.size; clear hb4 E3 ho2)
    | (go_at_call 59; (with_reducible refine (E5.out _).mono ?_); rintro e w5 ⟨rfl, hb5⟩; replace Z := bcj Z hb5; replace ho3 := Wire.own_below ho3 hb5; replace hle3 := Nat.le_trans hle3 hb5.size; clear hb5 E5)
    | (at_builtin; refine Lib.wpList_append_own_string _ rfl (.tmp 14) (.tmp 17) _ _ rfl w2.heap.size 5 i0 Tryd.underlying44 Tryd.underlying9 hi hz0 hz1 hz2 _ _ _ rfl ho3 _ rfl (by rw [hsh]; unfold maxLen; omega) (by rw [hsh]; omega) hle3 ?_; intro v6 w6 ho6 hg6 _; rw [hsh] at ho6; replace ho6 := own_str ho6; have hb6 := (Below.refl w2.heap.size w5).grown hg6 hle3 (fun q hq => (ho3.lt q hq).1); replace Z := Z.trans (hb6.mono hle); have hf6 := Wire.own_form ho6 (by omega); obtain ⟨g6, c6, rfl, -⟩ := hf6; clear ho3 hg6 hb6)
    | (go_at_call 46; (with_reducible refine (E4.out _ _ _ _ (Wire.lies_own ho6) (tabj HT.out Z)).mono ?_); rintro e w7 ⟨rfl, hb7⟩; replace Z := bcj Z hb7; clear hb7 E4 ho6)
    | (go_at_call 59; (with_reducible refine (E6.out _).mono ?_); rintro e w8 ⟨rfl, hb8⟩; replace Z := bcj Z hb8; clear hb8 E6))
  go_ret
  exact ⟨rfl, Z⟩

end Hash
end Go.Proofs.YtmabbiemjeeicaaDoor

