/- The reference of package kdf: Input, Derive. Condition: the slice of parts reads as a list, what is authenticated is of at most 400000 bytes; the table of the reference's constants reads as the program lays it. -/
import Derived.Test.YtmabbiemjeeicaaDoorM12
import Derived.Test.YtmabbiemjeeicaaDoorM11
import Derived.Test.YtmabbiemjeeicaaDoorM6
import Derived.Test.YtmabbiemjeeicaaDoorZHUtil
import Derived.Test.YtmabbiemjeeicaaDoorZWUtil
namespace Go.Proofs.YtmabbiemjeeicaaDoor
open Go.RowKit
namespace Kdf
open Hash (Table tabj bcj GivesT mac refMac_any sizeS convO lies_news own_lit0)
open Wire (encStr refBytes_any bv sv Lies Made own_below)

theorem flat_le {parts : List (List UInt8)} {k : Nat} : ((parts.take k).flatMap encStr).length ≤ (parts.flatMap encStr).length := by
  conv => rhs; rw [← List.take_append_drop k parts]
  rw [List.flatMap_append, List.length_append]; omega
theorem lies_none (w : World) (B : Nat) : Lies w B 1 none 0 0 (([] : List (List UInt8)).map sv) := ⟨by simp, by omega, by unfold maxLen; omega, fun h => absurd h (by omega), fun h => absurd h (by omega)⟩
theorem input_take (label : List UInt8) (parts : List (List UInt8)) (k : Nat) : (input label (parts.take k)).length ≤ (input label parts).length := by
  unfold input
  rw [List.length_append, List.length_append]
  have := flat_le (parts := parts) (k := k)
  omega
theorem input_snoc (label : List UInt8) {parts : List (List UInt8)} {k : Nat} {x : List UInt8} (h : parts[k]? = some x) : input label (parts.take (k + 1)) = input label (parts.take k) ++ encStr x := by
  unfold input
  rw [Wire.flat_snoc encStr parts h, List.append_assoc]
theorem input_pos (label : List UInt8) (parts : List (List UInt8)) : 0 < (input label parts).length := by
  unfold input encStr
  have := Wire.enc_length (label.length : Int)
  simp only [List.length_append]
  omega

set_option maxRecDepth 100000 in
set_option maxHeartbeats 1000000 in
theorem refInput_any (label : List UInt8) (parts : List (List UInt8)) (n c : Nat) (A : Option Addr) (w : World) (hl : Lies w w.heap.size 1 A n c (parts.map sv)) (hb : (input label parts).length ≤ 400000) :
    Calls Tryd.prog 50 #[.string ⟨label.toArray⟩, .slice A n c] w (GivesT (input label parts) w) := by
  obtain ⟨i0, hi, hz0, hz1, hz2⟩ := info_parts Wire.byte_info
  have hmost : c ≤ 9223372036854775807 := by have := hl.most; unfold maxLen at this; omega
  have hle := hl.le
  have hpn : parts.length = n := by have := hl.len; simpa using this
  have HPN := Lib.hid hpn
  have HL := Lib.hid hl
  have HBD := Lib.hid hb
  have ho0 := own_lit0 w
  have hb0 : Below w.heap.size w (w.alloc (.cells #[] 5)) := (Below.refl _ _).alloc (Nat.le_refl _) _
  have hel : (encStr label).length ≤ 400000 := by have h1 := hb; unfold input at h1; rw [List.length_append] at h1; omega
  have HC0 := Lib.hid (fun W => refBytes_any label W (by omega))
  have HE0 : Hid (encStr label = input label (parts.take 0)) := Lib.hid (by simp [input])
  generalize encStr label = EL at HC0 hel HE0
  clear hpn hl hb
  go_enter Tryd.func50, Tryd.ntmps50
  go_wp2_with (first
    | (go_at_call 47; (with_reducible refine (HC0.out _).mono ?_); rintro e w1 ⟨g1, c1, rfl, ho1, hb1⟩)
    | (at_builtin; refine wpList_append_own _ rfl (.tmp 7) (.tmp 9) _ rfl w.heap.size 5 i0 (.int .u8 0) 1 1 Tryd.underlying44 hi hz0 hz1 hz2 rfl (by decide) _ 0 _ rfl (Wire.own_below ho0 hb1) ⟨g1, 0, none⟩ EL.length _ (EL.map bv) rfl (by simp) (lies_news (Wire.lies_own ho1)) (Wire.bytes_one _) (by unfold maxLen; omega) (by omega) (Nat.le_trans hb0.size hb1.size) ?_; intro v2 w2 ho2 hg2 _; rw [← List.map_append, List.nil_append, HE0.out, Nat.zero_add] at ho2; have hb2 := (hb0.trans (hb1.mono hb0.size)).grown hg2 (Nat.le_trans hb0.size hb1.size) (fun q hq => (ho0.lt q hq).1); clear hg2 ho1 hb1 ho0 hb0))
  go_loopw [5, 6] (fun v iv wr => ∃ (k L : Nat), k ≤ n ∧ iv = .int .i64 (k : Int) ∧ L = (input label (parts.take k)).length ∧ wr.ownsRow w.heap.size 5 1 v L ((input label (parts.take k)).map bv) ∧ Below w.heap.size w wr) (fun _ iv _ => n - (intOf iv).toNat)
  case atStart => exact ⟨0, _, by omega, rfl, rfl, by rw [← HE0.out] at ho2 ⊢; exact ho2, hb2⟩
  case round =>
    clear ho2 hb2
    obtain ⟨k, L, hk, rfl, hL, hown, hbw⟩ := hrel
    by_cases hkn : k < n
    · obtain ⟨b, o, u, rfl, hbb, hu, hcx⟩ := (HL.out.below hbw).at_ hkn
      obtain ⟨x, hx⟩ : ∃ x, parts[k]? = some x := ⟨_, List.getElem?_eq_getElem (by rw [HPN.out]; exact hkn)⟩
      rw [List.getElem?_map, hx] at hu
      cases hu
      have hsn := input_snoc label hx
      have hfl : (input label (parts.take (k + 1))).length ≤ 400000 := Nat.le_trans (input_take label parts (k + 1)) HBD.out
      rw [hsn, List.length_append, ← hL] at hfl
      have HS := Lib.hid hsn
      generalize input label (parts.take k) = m at hown hL HS
      have HC := Lib.hid (fun W => refBytes_any x W (by omega))
      have HEL := Lib.hid hL
      generalize encStr x = E at HC HS hfl
      have y0 : (0 : Int) ≤ (k : Int) := by omega
      have y1 : (k : Int) < (n : Int) := by omega
      unfold sv at hcx
      clear hx hsn hL
      go_wp2_with (first
        | (go_at_call 47; (with_reducible refine (HC.out _).mono ?_); rintro e w3 ⟨g3, c3, rfl, ho3, hb3⟩)
        | (at_builtin; refine wpList_append_own _ rfl (.tmp 17) (.tmp 22) _ rfl w.heap.size 5 i0 (.int .u8 0) 1 1 Tryd.underlying44 hi hz0 hz1 hz2 rfl (by decide) _ _ _ rfl (Wire.own_below hown hb3) ⟨g3, 0, none⟩ E.length _ (E.map bv) rfl (by simp) (lies_news (Wire.lies_own ho3)) (Wire.bytes_one _) (by unfold maxLen; omega) (by omega) (Nat.le_trans hbw.size hb3.size) ?_; intro v4 w4 ho4 hg4 _))
      go_roundw
      case rel =>
        refine ⟨k + 1, L + E.length, by omega, by go_num, by rw [HS.out, List.length_append, HEL.out], by rw [HS.out, List.map_append]; exact ho4, ?_⟩
        exact (hbw.trans (hb3.mono hbw.size)).grown hg4 (Nat.le_trans hbw.size hb3.size) (fun q hq => (hown.lt q hq).1)
      case measure => simp [intOf]; omega
    · have hk2 : k = n := by omega
      have y1 : ¬ (k : Int) < (n : Int) := by omega
      have hT : parts.take k = parts := List.take_of_length_le (by rw [HPN.out]; omega)
      rw [hT] at hL hown
      subst hL
      obtain ⟨g', c', rfl, -⟩ := Wire.own_form hown (input_pos label parts)
      have hcv := convO hown rfl
      have HB := Lib.hid hbw
      clear hown hbw hk2 hkn hT
      go_wp2
      go_ret
      exact ⟨rfl, HB.out⟩

set_option maxRecDepth 100000 in
set_option maxHeartbeats 1000000 in
theorem refDerive_any (key label : List UInt8) (parts : List (List UInt8)) (n c : Nat) (A : Option Addr) (w : World) (hl : Lies w w.heap.size 1 A n c (parts.map sv)) (hk : key.length ≤ 400000) (hb : (input label parts).length ≤ 400000) (ht : Table 0 w) :
    Calls Tryd.prog 41 #[.string ⟨key.toArray⟩, .string ⟨label.toArray⟩, .slice A n c] w (GivesT (derive key label parts) w) := by
  have E1 := Lib.hid (refInput_any label parts n c A w hl hb)
  have E2 : Hid (∀ W, Table 0 W → Calls Tryd.prog 49 #[.string ⟨key.toArray⟩, .string ⟨(input label parts).toArray⟩] W (GivesT (derive key label parts) W)) := Lib.hid (fun W hT => refMac_any key (input label parts) W hk hb hT)
  generalize derive key label parts = D at E2 ⊢
  generalize input label parts = I at E1 E2
  have T := ht
  clear ht hl
  go_enter Tryd.func41, Tryd.ntmps41
  go_wp2_with (first
    | (go_at_call 50; (with_reducible refine E1.out.mono ?_); rintro e w1 ⟨rfl, hb1⟩; replace T := tabj T hb1)
    | (go_at_call 49; (with_reducible refine (E2.out _ T).mono ?_); rintro e w2 ⟨rfl, hb2⟩))
  go_ret
  exact ⟨rfl, bcj hb1 hb2⟩
/-- Without parts. -/
theorem refDerive_none (key label : List UInt8) (w : World) (hk : key.length ≤ 400000) (hl : label.length ≤ 100000) (ht : Table 0 w) :
    Calls Tryd.prog 41 #[.string ⟨key.toArray⟩, .string ⟨label.toArray⟩, .slice none 0 0] w (GivesT (derive key label []) w) :=
  refDerive_any key label [] 0 0 none w (lies_none _ _) hk (by
    have := Wire.enc_length_le (n := (label.length : Int)) (by omega)
    simp only [input, encStr, List.flatMap_nil, List.append_nil, List.length_append]
    omega) ht
theorem input_one {label : List UInt8} (hl : label.length ≤ 100000) : (input label []).length ≤ 400000 := by
  have := Wire.enc_length_le (n := (label.length : Int)) (by omega)
  simp only [input, encStr, List.flatMap_nil, List.append_nil, List.length_append]
  omega

end Kdf
end Go.Proofs.YtmabbiemjeeicaaDoor
