/- Package kdf: Derive. Conditions: as each theorem says; the table of round constants reads as the program lays it. -/
import Derived.Test.YtmabbiemjeeicaaDoorZKRefD
import Derived.Test.YtmabbiemjeeicaaDoorM9
namespace Go.Proofs.YtmabbiemjeeicaaDoor
open Go.RowKit
namespace Kdf
open Hash (Table tabj bcj GivesT mac mac_any sizeS convO lies_news Arr)
open Wire (encStr bytes_any bv sv Lies Made own_below b1)

set_option maxRecDepth 100000 in
set_option maxHeartbeats 1000000 in
theorem derive_any (key label : List UInt8) (parts : List (List UInt8)) (n c : Nat) (A : Option Addr) (w : World) (hl : Lies w w.heap.size 1 A n c (parts.map sv)) (hk : key.length ≤ 400000) (hb : (input label parts).length ≤ 400000) (ht : Table 1 w) :
    Calls Tryd.prog 40 #[.string ⟨key.toArray⟩, .string ⟨label.toArray⟩, .slice A n c] w (GivesT (derive key label parts) w) := by
  obtain ⟨i0, hi, hz0, hz1, hz2⟩ := info_parts Wire.byte_info
  have hmost : c ≤ 9223372036854775807 := by have := hl.most; unfold maxLen at this; omega
  have hle := hl.le
  have hpn : parts.length = n := by have := hl.len; simpa using this
  have HPN := Lib.hid hpn
  have HL := Lib.hid hl
  have HBD := Lib.hid hb
  have HT := Lib.hid ht
  have hel : (encStr label).length ≤ 400000 := by have h1 := hb; unfold input at h1; rw [List.length_append] at h1; omega
  have HC0 : Hid (∀ W, Calls Tryd.prog 44 #[.string ⟨label.toArray⟩] W (Made W (input label (parts.take 0)).length (input label (parts.take 0)))) := Lib.hid (fun W => by
    have := bytes_any label W (by omega)
    rwa [show encStr label = input label (parts.take 0) by simp [input]] at this)
  have HM : Hid (∀ W, Table 1 W → Calls Tryd.prog 48 #[.string ⟨key.toArray⟩, .string ⟨(input label parts).toArray⟩] W (GivesT (derive key label parts) W)) := Lib.hid (fun W hT => mac_any key (input label parts) W (by omega) (by omega) hT)
  generalize derive key label parts = D at HM ⊢
  clear hpn hl hb ht hel
  go_enter Tryd.func40, Tryd.ntmps40
  go_wp2_with (first
    | (go_at_call 44; (with_reducible refine (HC0.out _).mono ?_); rintro e w1 ⟨g1, c1, rfl, ho1, hb1⟩))
  have ho2 := ho1
  have hb2 := hb1
  clear ho1 hb1
  go_loopw [7, 14] (fun v iv wr => ∃ (k L : Nat), k ≤ n ∧ iv = .int .i64 (k : Int) ∧ L = (input label (parts.take k)).length ∧ wr.ownsRow w.heap.size 5 1 v L ((input label (parts.take k)).map bv) ∧ Below w.heap.size w wr) (fun _ iv _ => n - (intOf iv).toNat)
  case atStart => exact ⟨0, _, by omega, rfl, rfl, ho2, hb2⟩
  case round =>
    clear ho2 hb2
    obtain ⟨k, L, hk, rfl, hL, hown, hbw⟩ := hrel
    by_cases hkn : k < n
    · obtain ⟨b, o, u, rfl, hbb, hu, hcx⟩ := (HL.out.below hbw).at_ hkn
      obtain ⟨x, hx⟩ : ∃ x, parts[k]? = some x := ⟨_, List.getElem?_eq_getElem (by rw [HPN.out]; exact hkn)⟩
      rw [List.getElem?_map, hx] at hu
      cases hu
      have hsn := input_snoc label hx
      have hfl : (input label (parts.take (k + 1))).length ≤ 400000 := Nat.le_trans (input_take label parts (k + 1)) HBD.out
      rw [hsn, List.length_append, ← hL] at hfl
      have HS := Lib.hid hsn
      generalize input label (parts.take k) = m at hown hL HS
      have HC : Hid (∀ W, Calls Tryd.prog 44 #[.string ⟨x.toArray⟩] W (Made W (encStr x).length (encStr x))) := Lib.hid (fun W => bytes_any x W (by omega))
      have HEL := Lib.hid hL
      generalize encStr x = E at HC HS hfl
      have y0 : (0 : Int) ≤ (k : Int) := by omega
      have y1 : (k : Int) < (n : Int) := by omega
      unfold sv at hcx
      clear hx hsn hL
      go_wp2_with (first
        | (go_at_call 44; (with_reducible refine (HC.out _).mono ?_); rintro e w3 ⟨g3, c3, rfl, ho3, hb3⟩)
        | (at_builtin; refine wpList_append_own _ rfl (.tmp 18) (.tmp 20) _ rfl w.heap.size 5 i0 (.int .u8 0) 1 1 Tryd.underlying44 hi hz0 hz1 hz2 rfl (by decide) _ _ _ rfl (Wire.own_below hown hb3) ⟨g3, 0, none⟩ E.length _ (E.map bv) rfl (by simp) (lies_news (Wire.lies_own ho3)) (Wire.bytes_one _) (by unfold maxLen; omega) (by omega) (Nat.le_trans hbw.size hb3.size) ?_; intro v4 w4 ho4 hg4 _))
      go_roundw
      case rel =>
        refine ⟨k + 1, L + E.length, by omega, by go_num, by rw [HS.out, List.length_append, HEL.out], by rw [HS.out, List.map_append]; exact ho4, ?_⟩
        exact (hbw.trans (hb3.mono hbw.size)).grown hg4 (Nat.le_trans hbw.size hb3.size) (fun q hq => (hown.lt q hq).1)
      case measure => simp [intOf]; omega
    · have hk2 : k = n := by omega
      have y1 : ¬ (k : Int) < (n : Int) := by omega
      have hT : parts.take k = parts := List.take_of_length_le (by rw [HPN.out]; omega)
      rw [hT] at hL hown
      subst hL
      obtain ⟨g', c', rfl, -⟩ := Wire.own_form hown (input_pos label parts)
      have hcv := convO hown rfl
      have HB := Lib.hid hbw
      have T := tabj HT.out hbw
      clear hown hbw hk2 hkn hT
      go_wp2_with (first
        | (go_at_call 48; (with_reducible refine (HM.out _ T).mono ?_); rintro e w5 ⟨rfl, hb5⟩))
      go_ret
      exact ⟨rfl, bcj HB.out hb5⟩
theorem derive_none (key label : List UInt8) (w : World) (hk : key.length ≤ 400000) (hl : label.length ≤ 100000) (ht : Table 1 w) :
    Calls Tryd.prog 40 #[.string ⟨key.toArray⟩, .string ⟨label.toArray⟩, .slice none 0 0] w (GivesT (derive key label []) w) :=
  derive_any key label [] 0 0 none w (lies_none _ _) hk (input_one hl) ht

end Kdf
end Go.Proofs.YtmabbiemjeeicaaDoor
