/- The walks of the statements on seal. Condition: the tables read as the program lays them, the texts are of at most 2^47 bytes; the package's contracts are a hypothesis here. -/
import Derived.Test.YtdlcoajjhcbffaaDoorZSPkg
namespace Go.Proofs.YtdlcoajjhcbffaaDoor
open Go.RowKit
namespace Seal
open Hash (Table tabj bcj GivesT mac sizeS)
open Cha (GivesE)
open Wire (b1 lies_lit sv total Lies)

set_option maxRecDepth 100000 in
set_option maxHeartbeats 2000000 in
theorem matchLaw (P : Pkg) (key ad text : List UInt8) (w : World) (h : T2 w w) (h0 : key.length ≤ 140737488355328) (h1 : ad.length ≤ 140737488355328) (h2 : text.length ≤ 140737488355328) :
    Calls Tryd.prog 3 #[.string ⟨key.toArray⟩, .string ⟨ad.toArray⟩, .string ⟨text.toArray⟩] w (Yes w) := by
  have htot : total [key, ad, text] = key.length + ad.length + text.length := by simp [total]; omega
  have FEW := few_lit [key, ad, text] w (by simp) (by omega) #[.string ⟨key.toArray⟩, .string ⟨ad.toArray⟩, .string ⟨text.toArray⟩] rfl 3 rfl
  have HS := Lib.hid (sanity_any P)
  have Y := h
  by_cases hf : key.length + ad.length + text.length ≤ 3000
  · rw [htot, decide_eq_true hf] at FEW
    have FEW := Lib.hid FEW
    have E1 := Lib.hid (fun W => P.keys key W)
    have E2 := Lib.hid (fun W => refKeys_any key W)
    have E3 := Lib.hid (fun W => P.sealS key ad text W (by omega) (by omega))
    have E4 := Lib.hid (fun W => refSeal_any key ad text W (by omega) (by omega))
    have q1 := eqT (keysR key).1
    have q2 := eqT (keysR key).2.1
    have q3 := eqT (sealR key ad text).1
    generalize (keysR key).1 = A at E1 E2 q1
    generalize (keysR key).2.1 = B at E1 E2 q2
    generalize (keysR key).2.2 = k at E1 E2
    generalize (sealR key ad text).1 = S at E3 E4 q3
    generalize (sealR key ad text).2 = n at E3 E4
    clear h0 h1 h2 hf htot
    go_enter Tryd.func3, Tryd.ntmps3
    go_wp2_with (first
      | (go_at_call 8; (with_reducible refine FEW.out.mono ?_); rintro e w1 ⟨rfl, hb⟩; replace Y := Y.on hb; clear hb)
      | (go_at_call 10; (with_reducible refine (E1.out _ Y.rt).mono ?_); rintro e w2 ⟨rfl, hb⟩; replace Y := Y.on hb; clear hb)
      | (go_at_call 11; (with_reducible refine (E2.out _ Y.ct).mono ?_); rintro e w3 ⟨rfl, hb⟩; replace Y := Y.on hb; clear hb)
      | (go_at_call 12; (with_reducible refine (E3.out _ Y.rt).mono ?_); rintro e w4 ⟨rfl, hb⟩; replace Y := Y.on hb; clear hb)
      | (go_at_call 13; (with_reducible refine (E4.out _ Y.ct).mono ?_); rintro e w5 ⟨rfl, hb⟩; replace Y := Y.on hb; clear hb)
      | (go_at_call 9; (with_reducible refine (HS.out _ ⟨Y.rt, Y.ct, Below.refl _ _⟩).mono ?_); rintro e w9 ⟨rfl, hb⟩; replace Y := Y.on hb; clear hb))
    all_goals
      go_ret
      exact ⟨rfl, Y.bel⟩
  · rw [htot, decide_eq_false hf] at FEW
    have FEW := Lib.hid FEW
    clear h0 h1 h2 hf htot
    go_enter Tryd.func3, Tryd.ntmps3
    go_wp2_with (first
      | (go_at_call 8; (with_reducible refine FEW.out.mono ?_); rintro e w1 ⟨rfl, hb⟩; replace Y := Y.on hb; clear hb)
      | (go_at_call 9; (with_reducible refine (HS.out _ ⟨Y.rt, Y.ct, Below.refl _ _⟩).mono ?_); rintro e w9 ⟨rfl, hb⟩; replace Y := Y.on hb; clear hb))
    all_goals
      go_ret
      exact ⟨rfl, Y.bel⟩

set_option maxRecDepth 100000 in
set_option maxHeartbeats 2000000 in
theorem openLaw (P : Pkg) (key ad blob : List UInt8) (w : World) (h : T2 w w) (h0 : key.length ≤ 140737488355328) (h1 : ad.length ≤ 140737488355328) (h2 : blob.length ≤ 140737488355328) :
    Calls Tryd.prog 4 #[.string ⟨key.toArray⟩, .string ⟨ad.toArray⟩, .string ⟨blob.toArray⟩] w (Yes w) := by
  have htot : total [key, ad, blob] = key.length + ad.length + blob.length := by simp [total]; omega
  have FEW := few_lit [key, ad, blob] w (by simp) (by omega) #[.string ⟨key.toArray⟩, .string ⟨ad.toArray⟩, .string ⟨blob.toArray⟩] rfl 3 rfl
  have HS := Lib.hid (sanity_any P)
  have Y := h
  by_cases hf : key.length + ad.length + blob.length ≤ 3000
  · rw [htot, decide_eq_true hf] at FEW
    have FEW := Lib.hid FEW
    have E1 := Lib.hid (fun W => P.openS key ad blob W (by omega) (by omega))
    have E2 := Lib.hid (fun W => refOpen_any key ad blob W (by omega) (by omega))
    have q1 := eqT (openR key ad blob).1
    generalize (openR key ad blob).1 = A at E1 E2 q1
    generalize (openR key ad blob).2 = n at E1 E2
    clear h0 h1 h2 hf htot
    go_enter Tryd.func4, Tryd.ntmps4
    go_wp2_with (first
      | (go_at_call 8; (with_reducible refine FEW.out.mono ?_); rintro e w1 ⟨rfl, hb⟩; replace Y := Y.on hb; clear hb)
      | (go_at_call 14; (with_reducible refine (E1.out _ Y.rt).mono ?_); rintro e w2 ⟨rfl, hb⟩; replace Y := Y.on hb; clear hb)
      | (go_at_call 15; (with_reducible refine (E2.out _ Y.ct).mono ?_); rintro e w3 ⟨rfl, hb⟩; replace Y := Y.on hb; clear hb)
      | (go_at_call 9; (with_reducible refine (HS.out _ ⟨Y.rt, Y.ct, Below.refl _ _⟩).mono ?_); rintro e w9 ⟨rfl, hb⟩; replace Y := Y.on hb; clear hb))
    all_goals
      go_ret
      exact ⟨rfl, Y.bel⟩
  · rw [htot, decide_eq_false hf] at FEW
    have FEW := Lib.hid FEW
    clear h0 h1 h2 hf htot
    go_enter Tryd.func4, Tryd.ntmps4
    go_wp2_with (first
      | (go_at_call 8; (with_reducible refine FEW.out.mono ?_); rintro e w1 ⟨rfl, hb⟩; replace Y := Y.on hb; clear hb)
      | (go_at_call 9; (with_reducible refine (HS.out _ ⟨Y.rt, Y.ct, Below.refl _ _⟩).mono ?_); rintro e w9 ⟨rfl, hb⟩; replace Y := Y.on hb; clear hb))
    all_goals
      go_ret
      exact ⟨rfl, Y.bel⟩

set_option maxRecDepth 100000 in
set_option maxHeartbeats 2000000 in
theorem roundLaw (P : Pkg) (key ad text : List UInt8) (w : World) (h : T2 w w) (h0 : key.length ≤ 140737488355328) (h1 : ad.length ≤ 140737488355328) (h2 : text.length ≤ 140737488355328) :
    Calls Tryd.prog 5 #[.string ⟨key.toArray⟩, .string ⟨ad.toArray⟩, .string ⟨text.toArray⟩] w (Yes w) := by
  have htot : total [key, ad, text] = key.length + ad.length + text.length := by simp [total]; omega
  have FEW := few_lit [key, ad, text] w (by simp) (by omega) #[.string ⟨key.toArray⟩, .string ⟨ad.toArray⟩, .string ⟨text.toArray⟩] rfl 3 rfl
  have HS := Lib.hid (sanity_any P)
  have Y := h
  by_cases hf : key.length + ad.length + text.length ≤ 3000
  · rw [htot, decide_eq_true hf] at FEW
    have FEW := Lib.hid FEW
    have hsk := sizeS key
    by_cases hk : key.length = 32
    · have E1 : Hid (∀ W, Table 2 W → Calls Tryd.prog 12 #[.string ⟨key.toArray⟩, .string ⟨ad.toArray⟩, .string ⟨text.toArray⟩] W (GivesE (sealed key ad text) 0 W)) := Lib.hid (fun W hT => by
        have := P.sealS key ad text W (by omega) (by omega) hT
        rwa [show sealR key ad text = (sealed key ad text, 0) by unfold sealR; rw [if_pos hk]] at this)
      have hlen := sealed_length key ad text
      have E2 : Hid (∀ W, Table 2 W → Calls Tryd.prog 14 #[.string ⟨key.toArray⟩, .string ⟨ad.toArray⟩, .string ⟨(sealed key ad text).toArray⟩] W (GivesE text 0 W)) := Lib.hid (fun W hT => by
        have := P.openS key ad (sealed key ad text) W (by omega) (by omega) hT
        rw [(openR_long hk (by omega)).1, (openR_long hk (by omega)).2, opened_sealed] at this
        exact this)
      have q1 := eqT text
      have z1 := sizeS (sealed key ad text)
      have z2 := sizeS text
      generalize sealed key ad text = S at E1 E2 hlen z1
      have hl2 : (S.length : Int) = (text.length : Int) + 28 := by omega
      rw [hlen] at z1
      clear h0 h1 hk
      go_enter Tryd.func5, Tryd.ntmps5
      go_wp2_with (first
        | (go_at_call 8; (with_reducible refine FEW.out.mono ?_); rintro e w1 ⟨rfl, hb⟩; replace Y := Y.on hb; clear hb)
        | (go_at_call 12; (with_reducible refine (E1.out _ Y.rt).mono ?_); rintro e w2 ⟨rfl, hb⟩; replace Y := Y.on hb; clear hb)
        | (go_at_call 14; (with_reducible refine (E2.out _ Y.rt).mono ?_); rintro e w3 ⟨rfl, hb⟩; replace Y := Y.on hb; clear hb)
        | (go_at_call 9; (with_reducible refine (HS.out _ ⟨Y.rt, Y.ct, Below.refl _ _⟩).mono ?_); rintro e w9 ⟨rfl, hb⟩; replace Y := Y.on hb; clear hb))
      all_goals
        go_ret
        exact ⟨rfl, Y.bel⟩
    · have E1 : Hid (∀ W, Table 2 W → Calls Tryd.prog 12 #[.string ⟨key.toArray⟩, .string ⟨ad.toArray⟩, .string ⟨text.toArray⟩] W (GivesE [] 1 W)) := Lib.hid (fun W hT => by
        have := P.sealS key ad text W (by omega) (by omega) hT
        rwa [show sealR key ad text = ([], 1) by unfold sealR; rw [if_neg hk]] at this)
      have q1 : ∀ W : World, (Op.equalIn 10000 9 (.string ⟨#[]⟩) (.string ⟨#[]⟩)).run Tryd.prog W = .ok true W := eqT []
      have hk2 : ¬ (key.length : Int) = 32 := by omega
      have hbq : ((key.length : Int) != 32) = true := by simp only [bne_iff_ne, ne_eq]; exact hk2
      clear h0 h1 h2 hf htot
      go_enter Tryd.func5, Tryd.ntmps5
      go_wp2_with (first
        | (go_at_call 8; (with_reducible refine FEW.out.mono ?_); rintro e w1 ⟨rfl, hb⟩; replace Y := Y.on hb; clear hb)
        | (go_at_call 12; (with_reducible refine (E1.out _ Y.rt).mono ?_); rintro e w2 ⟨rfl, hb⟩; replace Y := Y.on hb; clear hb)
        | (go_at_call 9; (with_reducible refine (HS.out _ ⟨Y.rt, Y.ct, Below.refl _ _⟩).mono ?_); rintro e w9 ⟨rfl, hb⟩; replace Y := Y.on hb; clear hb))
      all_goals
        go_ret
        exact ⟨rfl, Y.bel⟩
  · rw [htot, decide_eq_false hf] at FEW
    have FEW := Lib.hid FEW
    clear h0 h1 h2 hf htot
    go_enter Tryd.func5, Tryd.ntmps5
    go_wp2_with (first
      | (go_at_call 8; (with_reducible refine FEW.out.mono ?_); rintro e w1 ⟨rfl, hb⟩; replace Y := Y.on hb; clear hb)
      | (go_at_call 9; (with_reducible refine (HS.out _ ⟨Y.rt, Y.ct, Below.refl _ _⟩).mono ?_); rintro e w9 ⟨rfl, hb⟩; replace Y := Y.on hb; clear hb))
    all_goals
      go_ret
      exact ⟨rfl, Y.bel⟩

set_option maxRecDepth 100000 in
set_option maxHeartbeats 2000000 in
theorem changedLaw (P : Pkg) (key ad text blob : List UInt8) (w : World) (h : T2 w w) (h0 : key.length ≤ 140737488355328) (h1 : ad.length ≤ 140737488355328) (h2 : text.length ≤ 140737488355328) (h3 : blob.length ≤ 140737488355328) :
    Calls Tryd.prog 6 #[.string ⟨key.toArray⟩, .string ⟨ad.toArray⟩, .string ⟨text.toArray⟩, .string ⟨blob.toArray⟩] w (Yes w) := by
  have htot : total [key, ad, text, blob] = key.length + ad.length + text.length + blob.length := by simp [total]; omega
  have FEW := few_lit [key, ad, text, blob] w (by simp) (by omega) #[.string ⟨key.toArray⟩, .string ⟨ad.toArray⟩, .string ⟨text.toArray⟩, .string ⟨blob.toArray⟩] rfl 4 rfl
  have HS := Lib.hid (sanity_any P)
  have Y := h
  by_cases hf : key.length + ad.length + text.length + blob.length ≤ 3000
  · rw [htot, decide_eq_true hf] at FEW
    have FEW := Lib.hid FEW
    by_cases hk : key.length = 32
    · have E1 : Hid (∀ W, Table 2 W → Calls Tryd.prog 12 #[.string ⟨key.toArray⟩, .string ⟨ad.toArray⟩, .string ⟨text.toArray⟩] W (GivesE (sealed key ad text) 0 W)) := Lib.hid (fun W hT => by
        have := P.sealS key ad text W (by omega) (by omega) hT
        rwa [show sealR key ad text = (sealed key ad text, 0) by unfold sealR; rw [if_pos hk]] at this)
      by_cases hs : sealed key ad text = blob
      · have q1 := eqT blob
        rw [hs] at E1
        clear h0 h1 h2 h3 hf htot hk hs
        go_enter Tryd.func6, Tryd.ntmps6
        go_wp2_with (first
          | (go_at_call 8; (with_reducible refine FEW.out.mono ?_); rintro e w1 ⟨rfl, hb⟩; replace Y := Y.on hb; clear hb)
          | (go_at_call 12; (with_reducible refine (E1.out _ Y.rt).mono ?_); rintro e w2 ⟨rfl, hb⟩; replace Y := Y.on hb; clear hb)
          | (go_at_call 9; (with_reducible refine (HS.out _ ⟨Y.rt, Y.ct, Below.refl _ _⟩).mono ?_); rintro e w9 ⟨rfl, hb⟩; replace Y := Y.on hb; clear hb))
        all_goals
          go_ret
          exact ⟨rfl, Y.bel⟩
      · have q1 := eqF hs
        have E2 := Lib.hid (fun W => P.openS key ad blob W (by omega) (by omega))
        have hor : ¬ (openR key ad blob).2 = 0 ∨ ¬ (openR key ad blob).1 = text := by
          by_cases hb : blob.length < 28
          · left; rw [openR_short hk hb]; decide
          · rw [(openR_long hk (by omega)).1, (openR_long hk (by omega)).2]
            cases ho : opened key ad blob with
            | none => left; decide
            | some t =>
              right
              intro ht
              have ht2 : t = text := ht
              subst ht2
              exact hs (sealed_opened (by omega) ho).1.symm
        have q2 := eqS (openR key ad blob).1 text
        generalize sealed key ad text = S at E1 q1 hs
        generalize (openR key ad blob).1 = A at E2 q2 hor
        generalize (openR key ad blob).2 = n at E2 hor
        rcases hor with hor | hor
        · have hn : ¬ (n : Int) = 0 := by omega
          clear h0 h1 h2 h3 hf htot hk
          go_enter Tryd.func6, Tryd.ntmps6
          go_wp2_with (first
            | (go_at_call 8; (with_reducible refine FEW.out.mono ?_); rintro e w1 ⟨rfl, hb⟩; replace Y := Y.on hb; clear hb)
            | (go_at_call 12; (with_reducible refine (E1.out _ Y.rt).mono ?_); rintro e w2 ⟨rfl, hb⟩; replace Y := Y.on hb; clear hb)
            | (go_at_call 14; (with_reducible refine (E2.out _ Y.rt).mono ?_); rintro e w3 ⟨rfl, hb⟩; replace Y := Y.on hb; clear hb)
            | (go_at_call 9; (with_reducible refine (HS.out _ ⟨Y.rt, Y.ct, Below.refl _ _⟩).mono ?_); rintro e w9 ⟨rfl, hb⟩; replace Y := Y.on hb; clear hb))
          all_goals
            go_ret
            exact ⟨rfl, Y.bel⟩
        · have q3 := eqF hor
          have hbq : (!A == text) = true := by simp [hor]
          rw [decide_eq_false hor] at q2
          by_cases hn : (n : Int) = 0
          · clear h0 h1 h2 h3 hf htot hk
            go_enter Tryd.func6, Tryd.ntmps6
            go_wp2_with (first
              | (go_at_call 8; (with_reducible refine FEW.out.mono ?_); rintro e w1 ⟨rfl, hb⟩; replace Y := Y.on hb; clear hb)
              | (go_at_call 12; (with_reducible refine (E1.out _ Y.rt).mono ?_); rintro e w2 ⟨rfl, hb⟩; replace Y := Y.on hb; clear hb)
              | (go_at_call 14; (with_reducible refine (E2.out _ Y.rt).mono ?_); rintro e w3 ⟨rfl, hb⟩; replace Y := Y.on hb; clear hb)
              | (go_at_call 9; (with_reducible refine (HS.out _ ⟨Y.rt, Y.ct, Below.refl _ _⟩).mono ?_); rintro e w9 ⟨rfl, hb⟩; replace Y := Y.on hb; clear hb))
            all_goals
              go_ret
              exact ⟨rfl, Y.bel⟩
          · clear h0 h1 h2 h3 hf htot hk
            go_enter Tryd.func6, Tryd.ntmps6
            go_wp2_with (first
              | (go_at_call 8; (with_reducible refine FEW.out.mono ?_); rintro e w1 ⟨rfl, hb⟩; replace Y := Y.on hb; clear hb)
              | (go_at_call 12; (with_reducible refine (E1.out _ Y.rt).mono ?_); rintro e w2 ⟨rfl, hb⟩; replace Y := Y.on hb; clear hb)
              | (go_at_call 14; (with_reducible refine (E2.out _ Y.rt).mono ?_); rintro e w3 ⟨rfl, hb⟩; replace Y := Y.on hb; clear hb)
              | (go_at_call 9; (with_reducible refine (HS.out _ ⟨Y.rt, Y.ct, Below.refl _ _⟩).mono ?_); rintro e w9 ⟨rfl, hb⟩; replace Y := Y.on hb; clear hb))
            all_goals
              go_ret
              exact ⟨rfl, Y.bel⟩
    · have E1 : Hid (∀ W, Table 2 W → Calls Tryd.prog 12 #[.string ⟨key.toArray⟩, .string ⟨ad.toArray⟩, .string ⟨text.toArray⟩] W (GivesE [] 1 W)) := Lib.hid (fun W hT => by
        have := P.sealS key ad text W (by omega) (by omega) hT
        rwa [show sealR key ad text = ([], 1) by unfold sealR; rw [if_neg hk]] at this)
      clear h0 h1 h2 h3 hf htot hk
      go_enter Tryd.func6, Tryd.ntmps6
      go_wp2_with (first
        | (go_at_call 8; (with_reducible refine FEW.out.mono ?_); rintro e w1 ⟨rfl, hb⟩; replace Y := Y.on hb; clear hb)
        | (go_at_call 12; (with_reducible refine (E1.out _ Y.rt).mono ?_); rintro e w2 ⟨rfl, hb⟩; replace Y := Y.on hb; clear hb)
        | (go_at_call 9; (with_reducible refine (HS.out _ ⟨Y.rt, Y.ct, Below.refl _ _⟩).mono ?_); rintro e w9 ⟨rfl, hb⟩; replace Y := Y.on hb; clear hb))
      all_goals
        go_ret
        exact ⟨rfl, Y.bel⟩
  · rw [htot, decide_eq_false hf] at FEW
    have FEW := Lib.hid FEW
    clear h0 h1 h2 h3 hf htot
    go_enter Tryd.func6, Tryd.ntmps6
    go_wp2_with (first
      | (go_at_call 8; (with_reducible refine FEW.out.mono ?_); rintro e w1 ⟨rfl, hb⟩; replace Y := Y.on hb; clear hb)
      | (go_at_call 9; (with_reducible refine (HS.out _ ⟨Y.rt, Y.ct, Below.refl _ _⟩).mono ?_); rintro e w9 ⟨rfl, hb⟩; replace Y := Y.on hb; clear hb))
    all_goals
      go_ret
      exact ⟨rfl, Y.bel⟩

set_option maxRecDepth 100000 in
set_option maxHeartbeats 2000000 in
theorem injLaw (P : Pkg) (key ad text other more : List UInt8) (w : World) (h : T2 w w) (h0 : key.length ≤ 140737488355328) (h1 : ad.length ≤ 140737488355328) (h2 : text.length ≤ 140737488355328) (h3 : other.length ≤ 140737488355328) (h4 : more.length ≤ 140737488355328) :
    Calls Tryd.prog 7 #[.string ⟨key.toArray⟩, .string ⟨ad.toArray⟩, .string ⟨text.toArray⟩, .string ⟨other.toArray⟩, .string ⟨more.toArray⟩] w (Yes w) := by
  have htot : total [key, ad, text, other, more] = key.length + ad.length + text.length + other.length + more.length := by simp [total]; omega
  have FEW := few_lit [key, ad, text, other, more] w (by simp) (by omega) #[.string ⟨key.toArray⟩, .string ⟨ad.toArray⟩, .string ⟨text.toArray⟩, .string ⟨other.toArray⟩, .string ⟨more.toArray⟩] rfl 5 rfl
  have HS := Lib.hid (sanity_any P)
  have Y := h
  by_cases hf : key.length + ad.length + text.length + other.length + more.length ≤ 3000
  · rw [htot, decide_eq_true hf] at FEW
    have FEW := Lib.hid FEW
    by_cases hk : key.length = 32
    · have E1 : Hid (∀ W, Table 2 W → Calls Tryd.prog 12 #[.string ⟨key.toArray⟩, .string ⟨ad.toArray⟩, .string ⟨text.toArray⟩] W (GivesE (sealed key ad text) 0 W)) := Lib.hid (fun W hT => by
        have := P.sealS key ad text W (by omega) (by omega) hT
        rwa [show sealR key ad text = (sealed key ad text, 0) by unfold sealR; rw [if_pos hk]] at this)
      have E2 : Hid (∀ W, Table 2 W → Calls Tryd.prog 12 #[.string ⟨key.toArray⟩, .string ⟨other.toArray⟩, .string ⟨more.toArray⟩] W (GivesE (sealed key other more) 0 W)) := Lib.hid (fun W hT => by
        have := P.sealS key other more W (by omega) (by omega) hT
        rwa [show sealR key other more = (sealed key other more, 0) by unfold sealR; rw [if_pos hk]] at this)
      by_cases hs : sealed key ad text = sealed key other more
      · have hm := sealed_inj hs
        have q1 := eqT (sealed key other more)
        have q2 := eqT more
        rw [hs] at E1
        generalize sealed key other more = S at E1 E2 q1
        subst hm
        clear h0 h1 h2 h3 h4 hf htot hk hs
        go_enter Tryd.func7, Tryd.ntmps7
        go_wp2_with (first
          | (go_at_call 8; (with_reducible refine FEW.out.mono ?_); rintro e w1 ⟨rfl, hb⟩; replace Y := Y.on hb; clear hb)
          | (go_at_call 12; (with_reducible refine (E1.out _ Y.rt).mono ?_); rintro e w2 ⟨rfl, hb⟩; replace Y := Y.on hb; clear hb)
          | (go_at_call 12; (with_reducible refine (E2.out _ Y.rt).mono ?_); rintro e w3 ⟨rfl, hb⟩; replace Y := Y.on hb; clear hb)
          | (go_at_call 9; (with_reducible refine (HS.out _ ⟨Y.rt, Y.ct, Below.refl _ _⟩).mono ?_); rintro e w9 ⟨rfl, hb⟩; replace Y := Y.on hb; clear hb))
        all_goals
          go_ret
          exact ⟨rfl, Y.bel⟩
      · have q1 := eqF hs
        have q2 := eqS text more
        generalize sealed key ad text = S at E1 q1 hs
        generalize sealed key other more = R at E2 q1 hs
        clear h0 h1 h2 h3 h4 hf htot hk
        go_enter Tryd.func7, Tryd.ntmps7
        go_wp2_with (first
          | (go_at_call 8; (with_reducible refine FEW.out.mono ?_); rintro e w1 ⟨rfl, hb⟩; replace Y := Y.on hb; clear hb)
          | (go_at_call 12; (with_reducible refine (E1.out _ Y.rt).mono ?_); rintro e w2 ⟨rfl, hb⟩; replace Y := Y.on hb; clear hb)
          | (go_at_call 12; (with_reducible refine (E2.out _ Y.rt).mono ?_); rintro e w3 ⟨rfl, hb⟩; replace Y := Y.on hb; clear hb)
          | (go_at_call 9; (with_reducible refine (HS.out _ ⟨Y.rt, Y.ct, Below.refl _ _⟩).mono ?_); rintro e w9 ⟨rfl, hb⟩; replace Y := Y.on hb; clear hb))
        all_goals
          go_ret
          exact ⟨rfl, Y.bel⟩
    · have E1 : Hid (∀ W, Table 2 W → Calls Tryd.prog 12 #[.string ⟨key.toArray⟩, .string ⟨ad.toArray⟩, .string ⟨text.toArray⟩] W (GivesE [] 1 W)) := Lib.hid (fun W hT => by
        have := P.sealS key ad text W (by omega) (by omega) hT
        rwa [show sealR key ad text = ([], 1) by unfold sealR; rw [if_neg hk]] at this)
      have E2 : Hid (∀ W, Table 2 W → Calls Tryd.prog 12 #[.string ⟨key.toArray⟩, .string ⟨other.toArray⟩, .string ⟨more.toArray⟩] W (GivesE [] 1 W)) := Lib.hid (fun W hT => by
        have := P.sealS key other more W (by omega) (by omega) hT
        rwa [show sealR key other more = ([], 1) by unfold sealR; rw [if_neg hk]] at this)
      clear h0 h1 h2 h3 h4 hf htot hk
      go_enter Tryd.func7, Tryd.ntmps7
      go_wp2_with (first
        | (go_at_call 8; (with_reducible refine FEW.out.mono ?_); rintro e w1 ⟨rfl, hb⟩; replace Y := Y.on hb; clear hb)
        | (go_at_call 12; (with_reducible refine (E1.out _ Y.rt).mono ?_); rintro e w2 ⟨rfl, hb⟩; replace Y := Y.on hb; clear hb)
        | (go_at_call 12; (with_reducible refine (E2.out _ Y.rt).mono ?_); rintro e w3 ⟨rfl, hb⟩; replace Y := Y.on hb; clear hb)
        | (go_at_call 9; (with_reducible refine (HS.out _ ⟨Y.rt, Y.ct, Below.refl _ _⟩).mono ?_); rintro e w9 ⟨rfl, hb⟩; replace Y := Y.on hb; clear hb))
      all_goals
        go_ret
        exact ⟨rfl, Y.bel⟩
  · rw [htot, decide_eq_false hf] at FEW
    have FEW := Lib.hid FEW
    clear h0 h1 h2 h3 h4 hf htot
    go_enter Tryd.func7, Tryd.ntmps7
    go_wp2_with (first
      | (go_at_call 8; (with_reducible refine FEW.out.mono ?_); rintro e w1 ⟨rfl, hb⟩; replace Y := Y.on hb; clear hb)
      | (go_at_call 9; (with_reducible refine (HS.out _ ⟨Y.rt, Y.ct, Below.refl _ _⟩).mono ?_); rintro e w9 ⟨rfl, hb⟩; replace Y := Y.on hb; clear hb))
    all_goals
      go_ret
      exact ⟨rfl, Y.bel⟩

end Seal
end Go.Proofs.YtdlcoajjhcbffaaDoor
