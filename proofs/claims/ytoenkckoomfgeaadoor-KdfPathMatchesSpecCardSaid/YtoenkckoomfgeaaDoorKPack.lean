/- Package kdf: Derive, Path, Next. Conditions: as each theorem says; the table of round constants reads as the program lays it. -/
import Derived.Test.YtoenkckoomfgeaaDoorKPkg
import Derived.Test.YtoenkckoomfgeaaDoorHMac
namespace Go.Proofs.YtoenkckoomfgeaaDoor
open Go.RowKit
namespace Kdf
open Hash (Table tabj bcj GivesT mac mac_any sizeS convO lies_news Arr)
open Wire (encStr bytes_any bv sv Lies Made own_below b1)

set_option maxRecDepth 100000 in
set_option maxHeartbeats 1000000 in
theorem derive_any (key label : List UInt8) (parts : List (List UInt8)) (n c : Nat) (A : Option Addr) (w : World) (hl : Lies w w.heap.size 1 A n c (parts.map sv)) (hk : key.length ≤ 400000) (hb : (input label parts).length ≤ 400000) (ht : Table 1 w) :
    Calls Tryd.prog 11 #[.string ⟨key.toArray⟩, .string ⟨label.toArray⟩, .slice A n c] w (GivesT (derive key label parts) w) := by
  obtain ⟨i0, hi, hz0, hz1, hz2⟩ := info_parts Wire.byte_info
  have hmost : c ≤ 9223372036854775807 := by have := hl.most; unfold maxLen at this; omega
  have hle := hl.le
  have hpn : parts.length = n := by have := hl.len; simpa using this
  have HPN := Lib.hid hpn
  have HL := Lib.hid hl
  have HBD := Lib.hid hb
  have HT := Lib.hid ht
  have hel : (encStr label).length ≤ 400000 := by have h1 := hb; unfold input at h1; rw [List.length_append] at h1; omega
  have HC0 : Hid (∀ W, Calls Tryd.prog 21 #[.string ⟨label.toArray⟩] W (Made W (input label (parts.take 0)).length (input label (parts.take 0)))) := Lib.hid (fun W => by
    have := bytes_any label W (by omega)
    rwa [show encStr label = input label (parts.take 0) by simp [input]] at this)
  have HM : Hid (∀ W, Table 1 W → Calls Tryd.prog 22 #[.string ⟨key.toArray⟩, .string ⟨(input label parts).toArray⟩] W (GivesT (derive key label parts) W)) := Lib.hid (fun W hT => mac_any key (input label parts) W (by omega) (by omega) hT)
  generalize derive key label parts = D at HM ⊢
  clear hpn hl hb ht hel
  go_enter Tryd.func11, Tryd.ntmps11
  go_wp2_with (first
    | (go_at_call 21; (with_reducible refine (HC0.out _).mono ?_); rintro e w1 ⟨g1, c1, rfl, ho1, hb1⟩))
  have ho2 := ho1
  have hb2 := hb1
  clear ho1 hb1
  go_loopw [7, 14] (fun v iv wr => ∃ (k L : Nat), k ≤ n ∧ iv = .int .i64 (k : Int) ∧ L = (input label (parts.take k)).length ∧ wr.ownsRow w.heap.size 5 1 v L ((input label (parts.take k)).map bv) ∧ Below w.heap.size w wr) (fun _ iv _ => n - (intOf iv).toNat)
  case atStart => exact ⟨0, _, by omega, rfl, rfl, ho2, hb2⟩
  case round =>
    clear ho2 hb2
    obtain ⟨k, L, hk, rfl, hL, hown, hbw⟩ := hrel
    by_cases hkn : k < n
    · obtain ⟨b, o, u, rfl, hbb, hu, hcx⟩ := (HL.out.below hbw).at_ hkn
      obtain ⟨x, hx⟩ : ∃ x, parts[k]? = some x := ⟨_, List.getElem?_eq_getElem (by rw [HPN.out]; exact hkn)⟩
      rw [List.getElem?_map, hx] at hu
      cases hu
      have hsn := input_snoc label hx
      have hfl : (input label (parts.take (k + 1))).length ≤ 400000 := Nat.le_trans (input_take label parts (k + 1)) HBD.out
      rw [hsn, List.length_append, ← hL] at hfl
      have HS := Lib.hid hsn
      generalize input label (parts.take k) = m at hown hL HS
      have HC : Hid (∀ W, Calls Tryd.prog 21 #[.string ⟨x.toArray⟩] W (Made W (encStr x).length (encStr x))) := Lib.hid (fun W => bytes_any x W (by omega))
      have HEL := Lib.hid hL
      generalize encStr x = E at HC HS hfl
      have y0 : (0 : Int) ≤ (k : Int) := by omega
      have y1 : (k : Int) < (n : Int) := by omega
      unfold sv at hcx
      clear hx hsn hL
      go_wp2_with (first
        | (go_at_call 21; (with_reducible refine (HC.out _).mono ?_); rintro e w3 ⟨g3, c3, rfl, ho3, hb3⟩)
        | (at_builtin; refine wpList_append_own _ rfl (.tmp 18) (.tmp 20) _ rfl w.heap.size 5 i0 (.int .u8 0) 1 1 Tryd.underlying44 hi hz0 hz1 hz2 rfl (by decide) _ _ _ rfl (Wire.own_below hown hb3) ⟨g3, 0, none⟩ E.length _ (E.map bv) rfl (by simp) (lies_news (Wire.lies_own ho3)) (Wire.bytes_one _) (by unfold maxLen; omega) (by omega) (Nat.le_trans hbw.size hb3.size) ?_; intro v4 w4 ho4 hg4 _))
      go_roundw
      case rel =>
        refine ⟨k + 1, L + E.length, by omega, by go_num, by rw [HS.out, List.length_append, HEL.out], by rw [HS.out, List.map_append]; exact ho4, ?_⟩
        exact (hbw.trans (hb3.mono hbw.size)).grown hg4 (Nat.le_trans hbw.size hb3.size) (fun q hq => (hown.lt q hq).1)
      case measure => simp [intOf]; omega
    · have hk2 : k = n := by omega
      have y1 : ¬ (k : Int) < (n : Int) := by omega
      have hT : parts.take k = parts := List.take_of_length_le (by rw [HPN.out]; omega)
      rw [hT] at hL hown
      subst hL
      obtain ⟨g', c', rfl, -⟩ := Wire.own_form hown (input_pos label parts)
      have hcv := convO hown rfl
      have HB := Lib.hid hbw
      have T := tabj HT.out hbw
      clear hown hbw hk2 hkn hT
      go_wp2_with (first
        | (go_at_call 22; (with_reducible refine (HM.out _ T).mono ?_); rintro e w5 ⟨rfl, hb5⟩))
      go_ret
      exact ⟨rfl, bcj HB.out hb5⟩
theorem derive_none (key label : List UInt8) (w : World) (hk : key.length ≤ 400000) (hl : label.length ≤ 100000) (ht : Table 1 w) :
    Calls Tryd.prog 11 #[.string ⟨key.toArray⟩, .string ⟨label.toArray⟩, .slice none 0 0] w (GivesT (derive key label []) w) :=
  derive_any key label [] 0 0 none w (lies_none _ _) hk (input_one hl) ht

set_option maxRecDepth 100000 in
set_option maxHeartbeats 1000000 in
theorem path_any (key : List UInt8) (l : List (List UInt8)) (n c : Nat) (A : Option Addr) (w : World) (hl : Lies w w.heap.size 1 A n c (l.map sv)) (hk : key.length ≤ 400000) (hx : ∀ s ∈ l, s.length ≤ 100000) (ht : Table 1 w) :
    Calls Tryd.prog 13 #[.string ⟨key.toArray⟩, .slice A n c] w (GivesT (path key l) w) := by
  have hn : l.length = n := by have := hl.len; simpa using this
  have hmost : c ≤ 9223372036854775807 := by have := hl.most; unfold maxLen at this; omega
  have hle := hl.le
  have HN := Lib.hid hn
  have HL := Lib.hid hl
  have HX := Lib.hid hx
  have HT := Lib.hid ht
  have HK : Hid (∀ k, (path key (l.take k)).length ≤ 400000) := Lib.hid (fun k => path_length hk (by omega) _)
  clear hl hx ht hn
  go_enter Tryd.func13, Tryd.ntmps13
  go_wp2
  go_loopw [0, 9] (fun kv iv wr => ∃ (k : Nat) (P : List UInt8), k ≤ n ∧ iv = .int .i64 (k : Int) ∧ kv = .string ⟨P.toArray⟩ ∧ P = path key (l.take k) ∧ Below w.heap.size w wr) (fun _ iv _ => n - (intOf iv).toNat)
  case atStart => exact ⟨0, key, by omega, rfl, rfl, rfl, Below.refl _ _⟩
  case round =>
    obtain ⟨k, P, hk2, rfl, rfl, hP, hbw⟩ := hrel
    have HP := Lib.hid hP
    clear hP
    by_cases hkn : k < n
    · obtain ⟨b, o, u, rfl, hbb, hu, hcx⟩ := (HL.out.below hbw).at_ hkn
      obtain ⟨x, hx⟩ : ∃ x, l[k]? = some x := ⟨_, List.getElem?_eq_getElem (by rw [HN.out]; exact hkn)⟩
      rw [List.getElem?_map, hx] at hu
      cases hu
      have hd := path_take (k := key) hx
      rw [← HP.out] at hd
      have E1 : Hid (∀ W, Table 1 W → Calls Tryd.prog 11 #[.string ⟨P.toArray⟩, .string ⟨x.toArray⟩, .slice none 0 0] W (GivesT (derive P x []) W)) :=
        Lib.hid (fun W hT => derive_none P x W (by rw [HP.out]; exact HK.out k) (HX.out x (List.mem_of_getElem? hx)) hT)
      have HD := Lib.hid hd
      generalize derive P x [] = D at E1 HD
      have y0 : (0 : Int) ≤ (k : Int) := by omega
      have y1 : (k : Int) < (n : Int) := by omega
      unfold sv at hcx
      clear hx hd
      go_wp2_with (first
        | (go_at_call 11; (with_reducible refine (E1.out _ (tabj HT.out hbw)).mono ?_); rintro e w1 ⟨rfl, hb1⟩))
      go_roundw
      case rel => exact ⟨k + 1, D, by omega, by go_num, rfl, HD.out.symm, bcj hbw hb1⟩
      case measure => simp [intOf]; omega
    · have hk3 : k = n := by omega
      have y1 : ¬ (k : Int) < (n : Int) := by omega
      have HE : Hid (P = path key l) := Lib.hid (by rw [HP.out, List.take_of_length_le (by rw [HN.out]; omega)])
      have HB := Lib.hid hbw
      clear hk3 hkn hbw
      go_wp2
      go_ret
      exact ⟨by rw [← HE.out]; rfl, HB.out⟩

set_option maxRecDepth 100000 in
set_option maxHeartbeats 1000000 in
theorem next_any (s : List UInt8) (w : World) (hs : s.length ≤ 100000) (ht : Table 1 w) :
    Calls Tryd.prog 17 #[.agg #[.string ⟨s.toArray⟩]] w (GivesR (val s) (nxt s) w) := by
  have E1 : Hid (∀ W, Table 1 W → Calls Tryd.prog 11 #[.string ⟨s.toArray⟩, .string ⟨#[118, 97, 108, 117, 101]⟩, .slice none 0 0] W (GivesT (val s) W)) := Lib.hid (fun W hT => derive_none s valueL W (by omega) (by decide) hT)
  have E2 : Hid (∀ W, Table 1 W → Calls Tryd.prog 11 #[.string ⟨s.toArray⟩, .string ⟨#[115, 101, 101, 100]⟩, .slice none 0 0] W (GivesT (nxt s) W)) := Lib.hid (fun W hT => derive_none s seedL W (by omega) (by decide) hT)
  generalize val s = V at E1 ⊢
  generalize nxt s = S at E2 ⊢
  have Y := nx_new s (.string ⟨#[]⟩) 33 ht
  have EC := Lib.hid (fun W (h : NX 1 w W s) => h.cell)
  have E3 := Lib.hid (fun W (h : NX 1 w W s) => E1.out W h.tab)
  have E4 := Lib.hid (fun W (h : NX 1 w W s) => E2.out W h.tab)
  clear ht hs
  go_enter Tryd.func17, Tryd.ntmps17
  go_wp2
  refine QTail.region (C := fun W => NX 1 w W s) 8 (by kernel_rfl) (by kernel_rfl) Y ?_
  (refine wpQuiet_step (fun K hK => ?_); go_simp; refine ⟨_, fun _ _ => rfl, hK _ ?_⟩; clear hK K)
  (refine wpQuiet_step (fun K hK => ?_); go_simp; refine ⟨.string ⟨s.toArray⟩, fun W hW => ?_, hK _ ?_⟩; (rw [EC.out W hW]; exact ⟨rfl, rfl⟩); clear hK K)
  (refine wpQuiet_step (fun K hK => ?_); go_simp; refine ⟨_, fun W hW => (E3.out W hW).mono fun e w' ⟨he, hb⟩ => ⟨he, hW.on hb⟩, hK _ ?_⟩; clear hK K)
  (refine wpQuiet_step (fun K hK => ?_); go_simp; refine ⟨_, fun _ _ => rfl, hK _ ?_⟩; clear hK K)
  (refine wpQuiet_step (fun K hK => ?_); go_simp; refine ⟨.string ⟨s.toArray⟩, fun W hW => ?_, hK _ ?_⟩; (rw [EC.out W hW]; exact ⟨rfl, rfl⟩); clear hK K)
  (refine wpQuiet_step (fun K hK => ?_); go_simp; refine ⟨_, fun W hW => (E4.out W hW).mono fun e w' ⟨he, hb⟩ => ⟨he, hW.on hb⟩, hK _ ?_⟩; clear hK K)
  (refine wpQuiet_step (fun K hK => ?_); go_simp; refine ⟨_, fun _ _ => rfl, hK _ ?_⟩; clear hK K)
  (refine wpQuiet_step (fun K hK => ?_); go_simp; refine ⟨_, fun _ _ => rfl, hK _ ?_⟩; clear hK K)
  refine wpQuiet_nil ?_
  clear Y
  intro w2 Y
  obtain ⟨y, hy⟩ := Y.res
  refine wpList_store_mid rfl 33 (.tmp 3) (.tmp 10) rfl (w.heap.size + 1) 0 #[.string ⟨S.toArray⟩] rfl rfl hy.there (by kernel_rfl) (by simp [Value.oneCell']) ?_
  obtain ⟨he, hbe⟩ := Hash.arr_end (w := w) (wr := w2) (g := w.heap.size + 1) (xs := [.string ⟨S.toArray⟩]) 33 Y.bel (by omega) hy.there Tryd.underlying33 rfl (by kernel_rfl)
  have HE := Lib.hid he
  have HB := Lib.hid hbe
  clear he hbe hy Y
  go_wp2
  refine bodyPost_ret (v := .tuple #[.string ⟨V.toArray⟩, .agg #[.string ⟨S.toArray⟩]]) ?_ rfl ⟨rfl, HB.out⟩
  have := HE.out
  simp [results, Tryd.results17, asAddr, Act.put]
  rw [this]
  rfl


end Kdf
end Go.Proofs.YtoenkckoomfgeaaDoor
