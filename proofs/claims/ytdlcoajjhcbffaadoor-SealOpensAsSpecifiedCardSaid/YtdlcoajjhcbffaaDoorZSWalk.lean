/- Package seal: Seal and Open; what the package answers, as one. Condition: the texts have at most 90000 bytes; the table of round constants reads as the program lays it. -/
import Derived.Test.YtdlcoajjhcbffaaDoorM6
import Derived.Test.YtdlcoajjhcbffaaDoorZSRep
import Derived.Test.YtdlcoajjhcbffaaDoorZCXorC
import Derived.Test.YtdlcoajjhcbffaaDoorM4
namespace Go.Proofs.YtdlcoajjhcbffaaDoor
open Go.RowKit
namespace Seal
open Hash (Table tabj bcj GivesT mac sizeS equal_any)
open Cha (GivesE)

theorem equalB (a b : List UInt8) (W : World) (ha : a.length ≤ 9223372036854775807) : Calls Tryd.prog 26 #[.string ⟨a.toArray⟩, .string ⟨b.toArray⟩] W (fun e w' => e = .returned (.bool (decide (a = b))) ∧ Below W.heap.size W w') :=
  (equal_any a b W ha).mono fun e w' ⟨he, k, hw⟩ => ⟨he, by subst hw; exact (Below.refl _ _).trans ⟨rfl, rfl, rfl, Nat.le_refl _, fun _ _ => rfl⟩⟩

theorem keys_any (key : List UInt8) (W : World) (ht : Table 2 W) : Calls Tryd.prog 10 #[.string ⟨key.toArray⟩] W (GivesK (keysR key).1 (keysR key).2.1 (keysR key).2.2 W) := by
  unfold keysR
  by_cases h : key.length = 32
  · rw [if_pos h]; exact keys_ok key W h ht
  · rw [if_neg h]; exact keys_err key W h

set_option maxRecDepth 100000 in
set_option maxHeartbeats 1000000 in
theorem seal_ok (key ad text : List UInt8) (w : World) (hk : key.length = 32) (ha : ad.length ≤ 90000) (hx : text.length ≤ 90000) (ht : Table 2 w) :
    Calls Tryd.prog 12 #[.string ⟨key.toArray⟩, .string ⟨ad.toArray⟩, .string ⟨text.toArray⟩] w (GivesE (sealed key ad text) 0 w) := by
  have hsa := sizeS ad
  have hsx := sizeS text
  have hml := mk_length key
  have hnl := nonce_length (mk key) ad text
  have hcl := cipher_length key (nonceOf (mk key) ad text) text
  have htl := tag_length (mk key) (nonceOf (mk key) ad text) ad (cipherOf key (nonceOf (mk key) ad text) text)
  have E1 := Lib.hid (fun W hT => keys_ok key W hk hT)
  have E2 := Lib.hid (fun W hT => nonceOf_any (mk key) ad text W (by omega) (by omega) (by omega) hT)
  have E3 : Hid (∀ W, Calls Tryd.prog 20 #[.string ⟨(ek key).toArray⟩, .int .u32 1, .string ⟨(nonceOf (mk key) ad text).toArray⟩, .string ⟨text.toArray⟩] W (GivesE (cipherOf key (nonceOf (mk key) ad text) text) 0 W)) :=
    Lib.hid (fun W => Cha.xor_ok (ek key) (nonceOf (mk key) ad text) text 1 W (ek_length key) hnl (by omega) (by omega))
  have E4 := Lib.hid (fun W hT => tagOf_any (mk key) (nonceOf (mk key) ad text) ad (cipherOf key (nonceOf (mk key) ad text) text) W (by omega) (by omega) (by omega) (by omega) hT)
  unfold sealed
  generalize tagOf (mk key) (nonceOf (mk key) ad text) ad (cipherOf key (nonceOf (mk key) ad text) text) = TG at E4 htl ⊢
  generalize cipherOf key (nonceOf (mk key) ad text) text = C at E3 E4 hcl ⊢
  generalize nonceOf (mk key) ad text = N at E2 E3 E4 hnl ⊢
  generalize mk key = M at E1 E2 E4 hml
  generalize ek key = E at E1 E3
  have a1 := appS N C
  have a2 := appS (N ++ C) TG
  have hP : (N ++ C).length ≤ 90012 := by rw [List.length_append]; omega
  generalize N ++ C ++ TG = R at a2 ⊢
  generalize N ++ C = P at a1 a2 hP
  have T := ht
  have Z := Below.refl w.heap.size w
  replace hcl : C.length ≤ 90000 := by omega
  clear ht hk hml
  go_enter Tryd.func12, Tryd.ntmps12
  go_wp2_with (first
    | (go_at_call 10; (with_reducible refine (E1.out _ T).mono ?_); rintro e w1 ⟨rfl, hb⟩; replace T := tabj T hb; replace Z := bcj Z hb; clear hb)
    | (go_at_call 19; (with_reducible refine (E2.out _ T).mono ?_); rintro e w2 ⟨rfl, hb⟩; replace T := tabj T hb; replace Z := bcj Z hb; clear hb)
    | (go_at_call 20; (with_reducible refine (E3.out _).mono ?_); rintro e w3 ⟨rfl, hb⟩; replace T := tabj T hb; replace Z := bcj Z hb; clear hb)
    | (go_at_call 21; (with_reducible refine (E4.out _ T).mono ?_); rintro e w4 ⟨rfl, hb⟩; replace T := tabj T hb; replace Z := bcj Z hb; clear hb))
  go_ret2
  exact ⟨rfl, Z⟩
set_option maxRecDepth 100000 in
set_option maxHeartbeats 1000000 in
theorem seal_err (key ad text : List UInt8) (w : World) (hk : ¬ key.length = 32) :
    Calls Tryd.prog 12 #[.string ⟨key.toArray⟩, .string ⟨ad.toArray⟩, .string ⟨text.toArray⟩] w (GivesE [] 1 w) := by
  have E1 := Lib.hid (fun W => keys_err key W hk)
  go_enter Tryd.func12, Tryd.ntmps12
  go_wp2_with (go_at_call 10; (with_reducible refine (E1.out _).mono ?_); rintro e w1 ⟨rfl, hb⟩)
  go_ret2
  exact ⟨rfl, hb⟩
theorem seal_any (key ad text : List UInt8) (W : World) (ha : ad.length ≤ 90000) (hx : text.length ≤ 90000) (ht : Table 2 W) : Calls Tryd.prog 12 #[.string ⟨key.toArray⟩, .string ⟨ad.toArray⟩, .string ⟨text.toArray⟩] W (GivesE (sealR key ad text).1 (sealR key ad text).2 W) := by
  unfold sealR
  by_cases h : key.length = 32
  · rw [if_pos h]; exact seal_ok key ad text W h ha hx ht
  · rw [if_neg h]; exact seal_err key ad text W h

set_option maxRecDepth 100000 in
set_option maxHeartbeats 1000000 in
theorem open_key (key ad b : List UInt8) (w : World) (hk : ¬ key.length = 32) :
    Calls Tryd.prog 14 #[.string ⟨key.toArray⟩, .string ⟨ad.toArray⟩, .string ⟨b.toArray⟩] w (GivesE [] 1 w) := by
  have E1 := Lib.hid (fun W => keys_err key W hk)
  go_enter Tryd.func14, Tryd.ntmps14
  go_wp2_with (go_at_call 10; (with_reducible refine (E1.out _).mono ?_); rintro e w1 ⟨rfl, hb⟩)
  go_ret2
  exact ⟨rfl, hb⟩
set_option maxRecDepth 100000 in
set_option maxHeartbeats 1000000 in
theorem open_short (key ad b : List UInt8) (w : World) (hk : key.length = 32) (ha : ad.length ≤ 90000) (hb28 : b.length < 28) (ht : Table 2 w) :
    Calls Tryd.prog 14 #[.string ⟨key.toArray⟩, .string ⟨ad.toArray⟩, .string ⟨b.toArray⟩] w (GivesE [] 5 w) := by
  have hsa := sizeS ad
  have hsb := sizeS b
  have E1 := Lib.hid (fun W hT => keys_ok key W hk hT)
  generalize mk key = M at E1
  generalize ek key = E at E1
  go_enter Tryd.func14, Tryd.ntmps14
  go_wp2_with (go_at_call 10; (with_reducible refine (E1.out _ ht).mono ?_); rintro e w1 ⟨rfl, hb⟩)
  go_ret2
  exact ⟨rfl, hb⟩

set_option maxRecDepth 100000 in
set_option maxHeartbeats 2000000 in
theorem open_long (key ad b : List UInt8) (w : World) (hk : key.length = 32) (ha : ad.length ≤ 90000) (hb28 : 28 ≤ b.length) (hbl : b.length ≤ 90000) (ht : Table 2 w) :
    Calls Tryd.prog 14 #[.string ⟨key.toArray⟩, .string ⟨ad.toArray⟩, .string ⟨b.toArray⟩] w
      (GivesE (match opened key ad b with | some t => t | none => []) (match opened key ad b with | some _ => 0 | none => 8) w) := by
  have hsa := sizeS ad
  have hsb := sizeS b
  have hml := mk_length key
  have h1l := part1_length hb28
  have h2l := part2_length hb28
  have h3l := part3_length hb28
  have htl := tag_length (mk key) (part1 b) ad (part2 b)
  have hcl := cipher_length key (part1 b) (part2 b)
  have hnl := nonce_length (mk key) ad (cipherOf key (part1 b) (part2 b))
  have E1 := Lib.hid (fun W hT => keys_ok key W hk hT)
  have E0 := Lib.hid (fun W => split_any b W hb28 hbl)
  have E2 := Lib.hid (fun W hT => tagOf_any (mk key) (part1 b) ad (part2 b) W (by omega) (by omega) (by omega) (by omega) hT)
  have E3 : Hid (∀ W, Calls Tryd.prog 20 #[.string ⟨(ek key).toArray⟩, .int .u32 1, .string ⟨(part1 b).toArray⟩, .string ⟨(part2 b).toArray⟩] W (GivesE (cipherOf key (part1 b) (part2 b)) 0 W)) :=
    Lib.hid (fun W => Cha.xor_ok (ek key) (part1 b) (part2 b) 1 W (ek_length key) h1l (by omega) (by omega))
  have E4 := Lib.hid (fun W hT => nonceOf_any (mk key) ad (cipherOf key (part1 b) (part2 b)) W (by omega) (by omega) (by omega) hT)
  have Q1 := Lib.hid (fun W => equalB (part3 b) (tagOf (mk key) (part1 b) ad (part2 b)) W (by omega))
  have Q2 := Lib.hid (fun W => equalB (part1 b) (nonceOf (mk key) ad (cipherOf key (part1 b) (part2 b))) W (by omega))
  unfold opened
  generalize nonceOf (mk key) ad (cipherOf key (part1 b) (part2 b)) = NX at E4 hnl Q2 ⊢
  generalize cipherOf key (part1 b) (part2 b) = X at E3 E4 hcl ⊢
  generalize tagOf (mk key) (part1 b) ad (part2 b) = TG at E2 htl Q1 ⊢
  generalize part1 b = P1 at E0 E2 E3 h1l Q2 ⊢
  generalize part2 b = P2 at E0 E2 E3 h2l hcl ⊢
  generalize part3 b = P3 at E0 h3l Q1 ⊢
  generalize mk key = M at E1 E2 E4 hml
  generalize ek key = E at E1 E3
  have T := ht
  have Z := Below.refl w.heap.size w
  clear ht hk hml
  go_enter Tryd.func14, Tryd.ntmps14
  by_cases ht1 : P3 = TG
  · rw [decide_eq_true ht1] at Q1
    by_cases ht2 : P1 = NX
    · rw [decide_eq_true ht2] at Q2
      rw [if_pos ⟨ht1, ht2.symm⟩]
      subst ht1 ht2
      go_wp2_with (first
        | (go_at_call 10; (with_reducible refine (E1.out _ T).mono ?_); rintro e w1 ⟨rfl, hb⟩; replace T := tabj T hb; replace Z := bcj Z hb; clear hb)
        | (go_at_call 25; (with_reducible refine (E0.out _).mono ?_); rintro e w2 ⟨rfl, hb⟩; replace T := tabj T hb; replace Z := bcj Z hb; clear hb)
        | (go_at_call 21; (with_reducible refine (E2.out _ T).mono ?_); rintro e w4 ⟨rfl, hb⟩; replace T := tabj T hb; replace Z := bcj Z hb; clear hb)
        | (go_at_call 26; (with_reducible refine (Q1.out _).mono ?_); rintro e w5 ⟨rfl, hb⟩; replace T := tabj T hb; replace Z := bcj Z hb; clear hb)
        | (go_at_call 20; (with_reducible refine (E3.out _).mono ?_); rintro e w3 ⟨rfl, hb⟩; replace T := tabj T hb; replace Z := bcj Z hb; clear hb)
        | (go_at_call 19; (with_reducible refine (E4.out _ T).mono ?_); rintro e w6 ⟨rfl, hb⟩; replace T := tabj T hb; replace Z := bcj Z hb; clear hb)
        | (go_at_call 26; (with_reducible refine (Q2.out _).mono ?_); rintro e w7 ⟨rfl, hb⟩; replace T := tabj T hb; replace Z := bcj Z hb; clear hb))
      go_ret2
      exact ⟨rfl, Z⟩
    · rw [decide_eq_false ht2] at Q2
      rw [if_neg (fun h => ht2 h.2.symm)]
      subst ht1
      go_wp2_with (first
        | (go_at_call 10; (with_reducible refine (E1.out _ T).mono ?_); rintro e w1 ⟨rfl, hb⟩; replace T := tabj T hb; replace Z := bcj Z hb; clear hb)
        | (go_at_call 25; (with_reducible refine (E0.out _).mono ?_); rintro e w2 ⟨rfl, hb⟩; replace T := tabj T hb; replace Z := bcj Z hb; clear hb)
        | (go_at_call 21; (with_reducible refine (E2.out _ T).mono ?_); rintro e w4 ⟨rfl, hb⟩; replace T := tabj T hb; replace Z := bcj Z hb; clear hb)
        | (go_at_call 26; (with_reducible refine (Q1.out _).mono ?_); rintro e w5 ⟨rfl, hb⟩; replace T := tabj T hb; replace Z := bcj Z hb; clear hb)
        | (go_at_call 20; (with_reducible refine (E3.out _).mono ?_); rintro e w3 ⟨rfl, hb⟩; replace T := tabj T hb; replace Z := bcj Z hb; clear hb)
        | (go_at_call 19; (with_reducible refine (E4.out _ T).mono ?_); rintro e w6 ⟨rfl, hb⟩; replace T := tabj T hb; replace Z := bcj Z hb; clear hb)
        | (go_at_call 26; (with_reducible refine (Q2.out _).mono ?_); rintro e w7 ⟨rfl, hb⟩; replace T := tabj T hb; replace Z := bcj Z hb; clear hb))
      go_ret2
      exact ⟨rfl, Z⟩
  · rw [decide_eq_false ht1] at Q1
    rw [if_neg (fun h => ht1 h.1)]
    go_wp2_with (first
      | (go_at_call 10; (with_reducible refine (E1.out _ T).mono ?_); rintro e w1 ⟨rfl, hb⟩; replace T := tabj T hb; replace Z := bcj Z hb; clear hb)
      | (go_at_call 25; (with_reducible refine (E0.out _).mono ?_); rintro e w2 ⟨rfl, hb⟩; replace T := tabj T hb; replace Z := bcj Z hb; clear hb)
      | (go_at_call 21; (with_reducible refine (E2.out _ T).mono ?_); rintro e w4 ⟨rfl, hb⟩; replace T := tabj T hb; replace Z := bcj Z hb; clear hb)
      | (go_at_call 26; (with_reducible refine (Q1.out _).mono ?_); rintro e w5 ⟨rfl, hb⟩; replace T := tabj T hb; replace Z := bcj Z hb; clear hb)
      | (go_at_call 20; (with_reducible refine (E3.out _).mono ?_); rintro e w3 ⟨rfl, hb⟩; replace T := tabj T hb; replace Z := bcj Z hb; clear hb)
      | (go_at_call 19; (with_reducible refine (E4.out _ T).mono ?_); rintro e w6 ⟨rfl, hb⟩; replace T := tabj T hb; replace Z := bcj Z hb; clear hb)
      | (go_at_call 26; (with_reducible refine (Q2.out _).mono ?_); rintro e w7 ⟨rfl, hb⟩; replace T := tabj T hb; replace Z := bcj Z hb; clear hb))
    go_ret2
    exact ⟨rfl, Z⟩
theorem open_any (key ad b : List UInt8) (W : World) (ha : ad.length ≤ 90000) (hx : b.length ≤ 90000) (ht : Table 2 W) : Calls Tryd.prog 14 #[.string ⟨key.toArray⟩, .string ⟨ad.toArray⟩, .string ⟨b.toArray⟩] W (GivesE (openR key ad b).1 (openR key ad b).2 W) := by
  by_cases h : key.length = 32
  · by_cases h2 : b.length < 28
    · rw [openR_short h h2]; exact open_short key ad b W h ha h2 ht
    · rw [(openR_long h (by omega)).1, (openR_long h (by omega)).2]; exact open_long key ad b W h ha (by omega) hx ht
  · rw [openR_key h]; exact open_key key ad b W h

theorem pkg : Pkg where
  keys := keys_any
  sealS := seal_any
  openS := open_any
  rep32 := rep32_any
  rep27 := rep27_any

end Seal
end Go.Proofs.YtdlcoajjhcbffaaDoor
