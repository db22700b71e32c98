/- The reference of package seal: Seal and Open. Condition: the texts have at most 90000 bytes; the table of the reference's constants reads as the program lays it. -/
import Derived.Test.YtdlcoajjhcbffaaDoorZSRef
import Derived.Test.YtdlcoajjhcbffaaDoorZQHeld
import Derived.Deep.RegionHeld3
namespace Go.Proofs.YtdlcoajjhcbffaaDoor
open Go.RowKit
namespace Seal
open Hash (Table tabj bcj GivesT mac sizeS)
open Cha (GivesE)

theorem eqS (a b : List UInt8) (W : World) : (Op.equalIn 10000 9 (.string ⟨a.toArray⟩) (.string ⟨b.toArray⟩)).run Tryd.prog W = .ok (decide (a = b)) W := by
  rw [run_equalIn_string W 9999 9 _ _ Tryd.underlying9]
  congr 1
  by_cases h : a = b
  · subst h; simp
  · rw [decide_eq_false h]
    simp only [beq_eq_false_iff_ne, ne_eq]
    intro h2
    have h3 : (⟨a.toArray⟩ : ByteArray).toList = a := by simp
    have h4 : (⟨b.toArray⟩ : ByteArray).toList = b := by simp
    rw [h3, h4] at h2
    exact h h2
theorem mid_of (x y : List UInt8) (i j : Nat) (hj : j ≤ x.length) (hi : i ≤ j) (h : (x.take j).drop i = y) (W : World) : (Instr.slice 9 (.string ⟨x.toArray⟩) (some (.int .i64 (i : Int))) (some (.int .i64 (j : Int))) none).run Tryd.prog W = .ok (.string ⟨y.toArray⟩) W := by
  have hs := sizeS x
  rw [run_slice_string_if (P := Tryd.prog) (w := W) 9 ⟨x.toArray⟩ .i64 .i64 (i : Int) (j : Int) Tryd.underlying9, if_pos (by rw [hs]; omega), if_pos (by omega), ← h]
  congr 2
  apply ByteArray.ext
  rw [ByteArray.data_extract]
  apply Array.toList_inj.1
  rw [Array.toList_extract, List.extract_eq_take_drop]
  simp [List.drop_take]

set_option maxRecDepth 100000 in
set_option maxHeartbeats 1000000 in
theorem refSeal_ok (key ad text : List UInt8) (w : World) (hk : key.length = 32) (ha : ad.length ≤ 90000) (hx : text.length ≤ 90000) (ht : Table 0 w) :
    Calls Tryd.prog 13 #[.string ⟨key.toArray⟩, .string ⟨ad.toArray⟩, .string ⟨text.toArray⟩] w (GivesE (sealed key ad text) 0 w) := by
  have hsa := sizeS ad
  have hsx := sizeS text
  have hml := mk_length key
  have hnl := nonce_length (mk key) ad text
  have hcl := cipher_length key (nonceOf (mk key) ad text) text
  have htl := tag_length (mk key) (nonceOf (mk key) ad text) ad (cipherOf key (nonceOf (mk key) ad text) text)
  have E1 := Lib.hid (fun W hT => refKeys_ok key W hk hT)
  have E2 := Lib.hid (fun W hT => refNonce_any (mk key) ad text W (by omega) (by omega) (by omega) hT)
  have E3 : Hid (∀ W, Calls Tryd.prog 23 #[.string ⟨(ek key).toArray⟩, .int .u32 1, .string ⟨(nonceOf (mk key) ad text).toArray⟩, .string ⟨text.toArray⟩] W (GivesE (cipherOf key (nonceOf (mk key) ad text) text) 0 W)) :=
    Lib.hid (fun W => Cha.refXor_ok (ek key) (nonceOf (mk key) ad text) text 1 W (ek_length key) hnl (by omega) (by omega))
  have E4 := Lib.hid (fun W hT => refTag_any (mk key) (nonceOf (mk key) ad text) ad (cipherOf key (nonceOf (mk key) ad text) text) W (by omega) (by omega) (by omega) (by omega) hT)
  unfold sealed
  generalize tagOf (mk key) (nonceOf (mk key) ad text) ad (cipherOf key (nonceOf (mk key) ad text) text) = TG at E4 htl ⊢
  generalize cipherOf key (nonceOf (mk key) ad text) text = C at E3 E4 hcl ⊢
  generalize nonceOf (mk key) ad text = N at E2 E3 E4 hnl ⊢
  generalize mk key = M at E1 E2 E4 hml
  generalize ek key = E at E1 E3
  have a1 := appS N C
  have a2 := appS (N ++ C) TG
  have hP : (N ++ C).length ≤ 90012 := by rw [List.length_append]; omega
  generalize N ++ C ++ TG = R at a2 ⊢
  generalize N ++ C = P at a1 a2 hP
  have T := ht
  have Z := Below.refl w.heap.size w
  replace hcl : C.length ≤ 90000 := by omega
  clear ht hk hml
  go_enter Tryd.func13, Tryd.ntmps13
  go_wp2_with (first
    | (go_at_call 11; (with_reducible refine (E1.out _ T).mono ?_); rintro e w1 ⟨rfl, hb⟩; replace T := tabj T hb; replace Z := bcj Z hb; clear hb)
    | (go_at_call 22; (with_reducible refine (E2.out _ T).mono ?_); rintro e w2 ⟨rfl, hb⟩; replace T := tabj T hb; replace Z := bcj Z hb; clear hb)
    | (go_at_call 23; (with_reducible refine (E3.out _).mono ?_); rintro e w3 ⟨rfl, hb⟩; replace T := tabj T hb; replace Z := bcj Z hb; clear hb)
    | (go_at_call 24; (with_reducible refine (E4.out _ T).mono ?_); rintro e w4 ⟨rfl, hb⟩; replace T := tabj T hb; replace Z := bcj Z hb; clear hb))
  go_ret2
  exact ⟨rfl, Z⟩
set_option maxRecDepth 100000 in
set_option maxHeartbeats 1000000 in
theorem refSeal_err (key ad text : List UInt8) (w : World) (hk : ¬ key.length = 32) :
    Calls Tryd.prog 13 #[.string ⟨key.toArray⟩, .string ⟨ad.toArray⟩, .string ⟨text.toArray⟩] w (GivesE [] 1 w) := by
  have E1 := Lib.hid (fun W => refKeys_err key W hk)
  go_enter Tryd.func13, Tryd.ntmps13
  go_wp2_with (go_at_call 11; (with_reducible refine (E1.out _).mono ?_); rintro e w1 ⟨rfl, hb⟩)
  go_ret2
  exact ⟨rfl, hb⟩

/-- The table is there, and what was there is as it was. -/
structure TZ (g : Nat) (w W : World) : Prop where
  tab : Table g W
  bel : Below w.heap.size w W
theorem TZ.drew {g : Nat} {w W : World} (h : TZ g w W) : TZ g w W.drew := ⟨h.1.drew 1, h.2.drew⟩
theorem TZ.keep {g : Nat} {w W W2 : World} (h : TZ g w W) (hb : Below W.heap.size W W2) : TZ g w W2 := ⟨tabj h.1 hb, bcj h.2 hb⟩

/-- What Open answers. -/
def openR (key ad b : List UInt8) : List UInt8 × Nat :=
  if ¬ key.length = 32 then ([], 1) else if b.length < 28 then ([], 5) else match opened key ad b with | some t => (t, 0) | none => ([], 8)

set_option maxRecDepth 100000 in
set_option maxHeartbeats 1000000 in
theorem refOpen_key (key ad b : List UInt8) (w : World) (hk : ¬ key.length = 32) :
    Calls Tryd.prog 15 #[.string ⟨key.toArray⟩, .string ⟨ad.toArray⟩, .string ⟨b.toArray⟩] w (GivesE [] 1 w) := by
  have E1 := Lib.hid (fun W => refKeys_err key W hk)
  go_enter Tryd.func15, Tryd.ntmps15
  go_wp2_with (go_at_call 11; (with_reducible refine (E1.out _).mono ?_); rintro e w1 ⟨rfl, hb⟩)
  go_ret2
  exact ⟨rfl, hb⟩
set_option maxRecDepth 100000 in
set_option maxHeartbeats 1000000 in
theorem refOpen_short (key ad b : List UInt8) (w : World) (hk : key.length = 32) (ha : ad.length ≤ 90000) (hb28 : b.length < 28) (ht : Table 0 w) :
    Calls Tryd.prog 15 #[.string ⟨key.toArray⟩, .string ⟨ad.toArray⟩, .string ⟨b.toArray⟩] w (GivesE [] 5 w) := by
  have hsa := sizeS ad
  have hsb := sizeS b
  have E1 := Lib.hid (fun W hT => refKeys_ok key W hk hT)
  generalize mk key = M at E1
  generalize ek key = E at E1
  go_enter Tryd.func15, Tryd.ntmps15
  go_wp2_with (go_at_call 11; (with_reducible refine (E1.out _ ht).mono ?_); rintro e w1 ⟨rfl, hb⟩)
  go_ret2
  exact ⟨rfl, hb⟩

set_option maxRecDepth 100000 in
set_option maxHeartbeats 2000000 in
theorem refOpen_long (key ad b : List UInt8) (w : World) (hk : key.length = 32) (ha : ad.length ≤ 90000) (hb28 : 28 ≤ b.length) (hbl : b.length ≤ 90000) (ht : Table 0 w) :
    Calls Tryd.prog 15 #[.string ⟨key.toArray⟩, .string ⟨ad.toArray⟩, .string ⟨b.toArray⟩] w
      (GivesE (match opened key ad b with | some t => t | none => []) (match opened key ad b with | some _ => 0 | none => 8) w) := by
  have hsa := sizeS ad
  have hsb := sizeS b
  have hml := mk_length key
  have h1l := part1_length hb28
  have h2l := part2_length hb28
  have h3l := part3_length hb28
  have htl := tag_length (mk key) (part1 b) ad (part2 b)
  have hcl := cipher_length key (part1 b) (part2 b)
  have hnl := nonce_length (mk key) ad (cipherOf key (part1 b) (part2 b))
  have E1 := Lib.hid (fun W hT => refKeys_ok key W hk hT)
  have E2 := Lib.hid (fun W hT => refTag_any (mk key) (part1 b) ad (part2 b) W (by omega) (by omega) (by omega) (by omega) hT)
  have E3 : Hid (∀ W, Calls Tryd.prog 23 #[.string ⟨(ek key).toArray⟩, .int .u32 1, .string ⟨(part1 b).toArray⟩, .string ⟨(part2 b).toArray⟩] W (GivesE (cipherOf key (part1 b) (part2 b)) 0 W)) :=
    Lib.hid (fun W => Cha.refXor_ok (ek key) (part1 b) (part2 b) 1 W (ek_length key) h1l (by omega) (by omega))
  have E4 := Lib.hid (fun W hT => refNonce_any (mk key) ad (cipherOf key (part1 b) (part2 b)) W (by omega) (by omega) (by omega) hT)
  have s1 : ∀ W : World, (Instr.slice 9 (.string ⟨b.toArray⟩) none (some (.int .i64 12)) none).run Tryd.prog W = .ok (.string ⟨(part1 b).toArray⟩) W := fun W => Cha.take_to _ _ 12 (by omega) rfl W
  have s2 : ∀ W : World, (Instr.slice 9 (.string ⟨b.toArray⟩) (some (.int .i64 12)) (some (.int .i64 ((b.length : Int) - 16))) none).run Tryd.prog W = .ok (.string ⟨(part2 b).toArray⟩) W := fun W => by
    have := mid_of b (part2 b) 12 (b.length - 16) (by omega) (by omega) rfl W
    rwa [show ((b.length - 16 : Nat) : Int) = (b.length : Int) - 16 by omega] at this
  have s3 : ∀ W : World, (Instr.slice 9 (.string ⟨b.toArray⟩) (some (.int .i64 ((b.length : Int) - 16))) none none).run Tryd.prog W = .ok (.string ⟨(part3 b).toArray⟩) W := fun W => by
    have := Cha.drop_from b (part3 b) (b.length - 16) (by omega) rfl W
    rwa [show ((b.length - 16 : Nat) : Int) = (b.length : Int) - 16 by omega] at this
  have q1 := eqS (part3 b) (tagOf (mk key) (part1 b) ad (part2 b))
  have q2 := eqS (nonceOf (mk key) ad (cipherOf key (part1 b) (part2 b))) (part1 b)
  have hw16 : IntKind.i64.wrap ((b.length : Int) - 16) = (b.length : Int) - 16 := IntWalk.i64_in _ (by omega)
  have s4 : ∀ W : World, (Instr.slice 9 (.string ⟨b.toArray⟩) (some (.int .i64 (IntKind.i64.wrap ((b.length : Int) - 16)))) none none).run Tryd.prog W = .ok (.string ⟨(part3 b).toArray⟩) W := fun W => by rw [hw16]; exact s3 W
  clear hw16
  unfold opened
  generalize nonceOf (mk key) ad (cipherOf key (part1 b) (part2 b)) = NX at E4 hnl q2 ⊢
  generalize cipherOf key (part1 b) (part2 b) = X at E3 E4 hcl ⊢
  generalize tagOf (mk key) (part1 b) ad (part2 b) = TG at E2 htl q1 ⊢
  generalize part1 b = P1 at E2 E3 s1 s2 s3 s4 h1l q2 ⊢
  generalize part2 b = P2 at E2 E3 s2 h2l hcl ⊢
  generalize part3 b = P3 at s3 s4 h3l q1 ⊢
  generalize mk key = M at E1 E2 E4 hml
  generalize ek key = E at E1 E3
  obtain ⟨R, hR⟩ : ∃ R : List UInt8 × Nat, R = (if P3 = TG ∧ NX = P1 then (X, 0) else ([], 8)) := ⟨_, rfl⟩
  have hg1 : (match (if P3 = TG ∧ NX = P1 then some X else none) with | some t => t | none => ([] : List UInt8)) = R.1 := by rw [hR]; by_cases h : P3 = TG ∧ NX = P1 <;> simp [h]
  have hg2 : (match (if P3 = TG ∧ NX = P1 then some X else none) with | some _ => 0 | none => 8) = R.2 := by rw [hR]; by_cases h : P3 = TG ∧ NX = P1 <;> simp [h]
  rw [hg1, hg2]
  clear hg1 hg2
  have HR := Lib.hid hR
  clear hR
  have T := ht
  have Z := Below.refl w.heap.size w
  clear ht hk hml
  go_enter Tryd.func15, Tryd.ntmps15
  go_wp2_with (first
    | (go_at_call 11; (with_reducible refine (E1.out _ T).mono ?_); rintro e w1 ⟨rfl, hb⟩; replace T := tabj T hb; replace Z := bcj Z hb; clear hb))
  have Y : TZ 0 w _ := TZ.drew ⟨T, Z⟩
  refine QHeld.start (fun W => TZ 0 w W) (by kernel_rfl) ?_
  revert Y
  generalize World.drew _ = w4
  intro Y
  (refine QHeld.val (by kernel_rfl) (fun _ _ _ _ h => h) (by rfl) Y ⟨_, fun W hW => (by go_simp; with_reducible rfl), ?_⟩; try simp only [Act.put, List.setIfInBounds_toArray, List.set_cons_zero, List.set_cons_succ])
  (refine QHeld.val (by kernel_rfl) (fun _ _ _ _ h => h) (by rfl) Y ⟨_, fun W hW => (by go_simp; with_reducible rfl), ?_⟩; try simp only [Act.put, List.setIfInBounds_toArray, List.set_cons_zero, List.set_cons_succ])
  (refine QHeld.val (by kernel_rfl) (fun _ _ _ _ h => h) (by rfl) Y ⟨_, fun W hW => (by go_simp; with_reducible rfl), ?_⟩; try simp only [Act.put, List.setIfInBounds_toArray, List.set_cons_zero, List.set_cons_succ])
  (refine QHeld.val (by kernel_rfl) (fun _ _ _ _ h => h) (by rfl) Y ⟨_, fun W hW => (by go_simp; with_reducible rfl), ?_⟩; try simp only [Act.put, List.setIfInBounds_toArray, List.set_cons_zero, List.set_cons_succ])
  (refine QHeld.val (by kernel_rfl) (fun _ _ _ _ h => h) (by rfl) Y ⟨_, fun W hW => (by go_simp; with_reducible rfl), ?_⟩; try simp only [Act.put, List.setIfInBounds_toArray, List.set_cons_zero, List.set_cons_succ])
  (refine QHeld.val (by kernel_rfl) (fun _ _ _ _ h => h) (by rfl) Y ⟨_, fun W hW => (by go_simp; with_reducible rfl), ?_⟩; try simp only [Act.put, List.setIfInBounds_toArray, List.set_cons_zero, List.set_cons_succ])
  (refine QHeld.val (by kernel_rfl) (fun _ _ _ _ h => h) (by rfl) Y ⟨_, fun W hW => (by go_simp; with_reducible rfl), ?_⟩; try simp only [Act.put, List.setIfInBounds_toArray, List.set_cons_zero, List.set_cons_succ])
  (refine QHeld.val (by kernel_rfl) (fun _ _ _ _ h => h) (by rfl) Y ⟨_, fun W hW => (by go_simp; with_reducible rfl), ?_⟩; try simp only [Act.put, List.setIfInBounds_toArray, List.set_cons_zero, List.set_cons_succ])
  (refine QHeld.val (by kernel_rfl) (fun _ _ _ _ h => h) (by rfl) Y ⟨_, fun W hW => (by go_simp; with_reducible rfl), ?_⟩; try simp only [Act.put, List.setIfInBounds_toArray, List.set_cons_zero, List.set_cons_succ])
  refine QHeld.one (by kernel_rfl) (fun K hK => ?_)
  go_simp
  go_at_call 24
  (with_reducible refine (E2.out _ Y.tab).mono ?_)
  rintro e w6 ⟨rfl, hb6⟩
  try go_wp2_with fail
  refine hK.out _ _ (Y.keep hb6) (fun S6 => ?_)
  clear hK K Y hb6
  try simp only [Act.put, List.setIfInBounds_toArray, List.set_cons_zero, List.set_cons_succ]
  (refine QHeld.val (by kernel_rfl) (fun _ _ _ _ h => h) (by rfl) S6 ⟨_, fun W hW => (by go_simp; with_reducible rfl), ?_⟩; try simp only [Act.put, List.setIfInBounds_toArray, List.set_cons_zero, List.set_cons_succ])
  refine QHeld.stop (by kernel_rfl) ?_
  have T := S6.tab
  have Z := S6.bel
  clear S6
  go_wp2_with (first
    | (go_at_call 23; (with_reducible refine (E3.out _).mono ?_); rintro e w3 ⟨rfl, hb⟩; replace T := tabj T hb; replace Z := bcj Z hb; clear hb)
    | (go_at_call 22; (with_reducible refine (E4.out _ T).mono ?_); rintro e w4 ⟨rfl, hb⟩; replace T := tabj T hb; replace Z := bcj Z hb; clear hb))
  all_goals
    go_ret2
    rw [HR.out]
    clear s1 s2 s3 s4 q1 q2
    simp only [Bool.not_eq_true', Bool.not_eq_false', beq_iff_eq, beq_eq_false_iff_ne, ne_eq] at *
    first
      | (rw [if_pos (by constructor <;> assumption)]; exact ⟨rfl, Z⟩)
      | (rw [if_neg (by intro hc; first | exact absurd hc.1 (by assumption) | exact absurd hc.2 (by assumption))]; exact ⟨rfl, Z⟩)

end Seal
end Go.Proofs.YtdlcoajjhcbffaaDoor
