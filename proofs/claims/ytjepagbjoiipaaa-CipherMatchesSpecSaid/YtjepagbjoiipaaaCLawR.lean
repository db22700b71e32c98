/- The walk of the statement CipherRounds. Condition: the state has sixteen words of 32 bits. -/
import Derived.Test.YtjepagbjoiipaaaCRefR
import Derived.Test.YtjepagbjoiipaaaCSaneB
namespace Go.Proofs.Ytjepagbjoiipaaa
open Go.RowKit
namespace Cha

/-- The state lies in block g, the state after the rounds in block k. -/
structure LawS (w W : World) (g k : Nat) (l r : List Nat) : Prop where
  st : Arr W g 16 (l.map wv)
  rd : Arr W k 16 (r.map wv)
  below : Below w.heap.size w W
theorem LawS.on {w W W2 : World} {g k : Nat} {l r : List Nat} (h : LawS w W g k l r) (hb : Below W.heap.size W W2) : LawS w W2 g k l r :=
  ⟨h.st.below hb (h.st.size (by omega)), h.rd.below hb (h.rd.size (by omega)), bcj h.below hb⟩
theorem LawS.drew {w W : World} {g k : Nat} {l r : List Nat} (h : LawS w W g k l r) : LawS w W.drew g k l r := ⟨h.st.drew 1, h.rd.drew 1, h.below.drew⟩
theorem lawS_new {w W : World} {g : Nat} {l : List Nat} (h : HasS w W g l) (r : List Nat) (hr : r.length = 16) (t : TypeId) : LawS w ((W.alloc (.cells z16 t)).setCells W.heap.size 0 (r.map wv).toArray.toList) g W.heap.size l r := by
  have hn := hasS_new (w := W) (Below.refl _ _) r hr t
  exact ⟨h.arr.below hn.below (h.arr.size (by omega)), hn.arr, bcj h.below hn.below⟩
theorem hasS_box (w : World) (l : List Nat) (hl : l.length = 16) (t : TypeId) : HasS w (w.alloc (.cells (l.map wv).toArray t)) w.heap.size l := by
  have h := arr_new w (l.map wv).toArray t
  rw [show (l.map wv).toArray.size = 16 by rw [List.size_toArray, List.length_map]; exact hl] at h
  exact ⟨h, (Below.refl _ _).alloc (Nat.le_refl _) _⟩

set_option maxRecDepth 100000 in
set_option maxHeartbeats 1000000 in
theorem roundsLaw (l : List Nat) (w : World) (h : Ok l) : Calls Try.prog 4 #[.agg (l.map wv).toArray] w (Yes w) := by
  have HS := Lib.hid sanity_any
  have H1 := Lib.hid (fun W => rounds_any l W h)
  have H2 := Lib.hid (fun W => refRounds_any l W h)
  have H3 := Lib.hid (fun W => by have := refUndo_any (rounds l) W h.rounds; rw [unrounds_rounds h] at this; exact this)
  have HL := Lib.hid h.len
  have HR := Lib.hid h.rounds.len
  have hz := zero16
  have e1 := same16 (rounds l) h.rounds.len
  have e2 := same16 l h.len
  have S0 := hasS_box w l h.len 23
  generalize rounds l = r at *
  clear h
  go_enter Try.func4, Try.ntmps4
  go_wp2_with (first
    | ((with_reducible refine at_slot 4 rfl ?_); refine gen_world (Pq := fun W => HasS w W w.heap.size l) (G := fun W => wpList _ _ _ _ _ W) S0 ?_; clear S0; intro w1 S1; refine wpList_load_mid rfl 23 (.tmp 1) rfl w.heap.size 0 rfl (l.map wv) _ S1.arr.range und16 rfl (i16 HL.out) ?_)
    | (go_at_call 14; (with_reducible refine (H1.out _).mono ?_); rintro e w2 ⟨rfl, hb⟩; replace S1 := S1.on hb; clear hb)
    | ((with_reducible refine at_store 23 (.tmp 3) (.tmp 5) rfl ?_); refine wpList_store_mid rfl 23 (.tmp 3) (.tmp 5) rfl w2.heap.size 0 (r.map wv).toArray rfl rfl (fresh16W w2 _ HR.out _) (i16A HR.out) (words_one _) ?_; refine gen_world (Pq := fun W => LawS w W w.heap.size w2.heap.size l r) (G := fun W => wpList _ _ _ _ _ W) (lawS_new S1 _ HR.out _) ?_; intro w3 S3; clear S1))
  refine QTail.whole (fun W => LawS w W w.heap.size w2.heap.size l r) (by kernel_rfl) (by kernel_rfl) S3.drew ?_
  have hst : ∀ W, LawS w W w.heap.size w2.heap.size l r → W.rangeAt w.heap.size 0 (l.map wv) := fun W h => h.st.range
  have hrd : ∀ W, LawS w W w.heap.size w2.heap.size l r → W.rangeAt w2.heap.size 0 (r.map wv) := fun W h => h.rd.range
  have HST := Lib.hid hst
  have HRD := Lib.hid hrd
  clear hst hrd
  (refine wpQuiet_step (fun K hK => ?_); go_simp; refine ⟨_, fun W hW => (HS.out W).mono fun e w' ⟨he, hb⟩ => ⟨he, LawS.on hW hb⟩, hK _ ?_⟩; clear hK K)
  (refine wpQuiet_step (fun K hK => ?_); go_simp; (first | refine hK _ ?_ | refine ⟨_, fun _ _ => rfl, hK _ ?_⟩); clear hK K)
  refine QTail.loadC (by rfl) 23 (.tmp 3) rfl w2.heap.size 0 rfl (r.map wv) _ HRD.out und16 rfl (i16 HR.out) ?_
  refine QTail.loadC (by rfl) 23 (.tmp 1) rfl w.heap.size 0 rfl (l.map wv) _ HST.out und16 rfl (i16 HL.out) ?_
  (refine wpQuiet_step (fun K hK => ?_); go_simp; refine ⟨_, fun W hW => (H2.out W).mono fun e w' ⟨he, hb⟩ => ⟨he, LawS.on hW hb⟩, hK _ ?_⟩; clear hK K)
  iterate 3 (refine wpQuiet_step (fun K hK => ?_); go_simp; (first | refine hK _ ?_ | refine ⟨_, fun _ _ => rfl, hK _ ?_⟩); clear hK K)
  refine QTail.loadC (by rfl) 23 (.tmp 3) rfl w2.heap.size 0 rfl (r.map wv) _ HRD.out und16 rfl (i16 HR.out) ?_
  (refine wpQuiet_step (fun K hK => ?_); go_simp; refine ⟨_, fun W hW => (H3.out W).mono fun e w' ⟨he, hb⟩ => ⟨he, LawS.on hW hb⟩, hK _ ?_⟩; clear hK K)
  refine QTail.loadC (by rfl) 23 (.tmp 1) rfl w.heap.size 0 rfl (l.map wv) _ HST.out und16 rfl (i16 HL.out) ?_
  iterate 3 (refine wpQuiet_step (fun K hK => ?_); go_simp; (first | refine hK _ ?_ | refine ⟨_, fun _ _ => rfl, hK _ ?_⟩); clear hK K)
  refine wpQuiet_nil ?_
  intro w4 S4
  have HB := Lib.hid S4.below
  clear S4 S3
  go_wp2
  go_ret
  exact ⟨rfl, HB.out⟩

end Cha
end Go.Proofs.Ytjepagbjoiipaaa
