/- The walk of the statement HashOfMatchesSpec. Condition: the tables of round constants read as the program lays them; the tag has 64 bits. -/
import Derived.Test.YtciinlncflngdaaDoorHRefOf
namespace Go.Proofs.YtciinlncflngdaaDoor
open Go.RowKit
namespace Hash
open Wire (bv sv Made Lies encStr)

theorem eqD (D E : List UInt8) (hD : D.length = 16) (hE : E.length = 16) (W : World) : (Op.equalIn 10000 44 (.agg (D.map bv).toArray) (.agg (E.map bv).toArray)).run Tryd.prog W = .ok (D == E) W :=
  run_equalIn_bytes W 9998 44 5 16 Tryd.underlying44 Tryd.underlying5 byteSz D E hD hE
theorem and255 (tag : Int) : bits .and .i64 tag 255 = tag % 256 := by
  have h1 : (BitVec.ofInt 64 (255 : Int)).toNat = 255 := by decide
  have h2 : (BitVec.ofInt 64 tag).toNat = (tag % 18446744073709551616).toNat := by rw [BitVec.toNat_ofInt]; rfl
  have h3 : (BitVec.ofInt 64 tag &&& BitVec.ofInt 64 (255 : Int)).toNat = (tag % 256).toNat := by
    rw [BitVec.toNat_and, h1, h2, show (255 : Nat) = 2 ^ 8 - 1 from rfl, Nat.and_two_pow_sub_one_eq_mod]
    omega
  show IntKind.i64.wrap ((BitVec.ofInt 64 tag &&& BitVec.ofInt 64 (255 : Int)).toNat : Int) = _
  rw [h3, IntWalk.i64_in _ (by omega)]
  omega
theorem tagByte_mod (tag : Int) : tagByte (tag % 256) = tagByte tag := by unfold tagByte; rw [Int.emod_emod]
theorem ofDig_mod (tag : Int) (parts : List (List UInt8)) : ofDig (tag % 256) parts = ofDig tag parts := by unfold ofDig ofIn; rw [tagByte_mod]
theorem ofIn_le (tag : Int) {parts : List (List UInt8)} (h1 : parts.length ≤ 12) (h2 : ∀ s ∈ parts, s.length ≤ 400) : (ofIn tag parts).length ≤ 1000000 ∧ ∀ s ∈ parts, (encStr s).length ≤ 409 := by
  have hs : ∀ s ∈ parts, (encStr s).length ≤ 409 := by
    intro s hs
    have h3 := h2 s hs
    have := Wire.enc_length_le (n := (s.length : Int)) (by omega)
    show (Wire.enc (s.length : Int) ++ s).length ≤ _
    rw [List.length_append]; omega
  refine ⟨?_, hs⟩
  have hl : ∀ l : List (List UInt8), (∀ s ∈ l, (encStr s).length ≤ 409) → (l.flatMap encStr).length ≤ 409 * l.length := by
    intro l
    induction l with
    | nil => intro _; simp
    | cons s l ih =>
      intro h
      have h1 := h s (List.mem_cons_self ..)
      have h2 := ih (fun t ht => h t (List.mem_cons_of_mem _ ht))
      rw [List.flatMap_cons, List.length_append, List.length_cons]
      omega
  have := hl parts hs
  simp only [ofIn, List.length_cons]
  omega

/-- The tables; the slice of parts. -/
structure OfT (w W : World) (A : Option Addr) (n c : Nat) (l : List (List UInt8)) : Prop where
  t1 : Table 1 W
  t2 : Table 0 W
  arg : Lies W W.heap.size 1 A n c (l.map sv)
  below : Below w.heap.size w W
theorem OfT.on {w W W2 : World} {A : Option Addr} {n c : Nat} {l : List (List UInt8)} (h : OfT w W A n c l) (hb : Below W.heap.size W W2) : OfT w W2 A n c l :=
  ⟨tabj h.t1 hb, tabj h.t2 hb, lies_on h.arg hb, bcj h.below hb⟩
structure OfL (w W : World) (A : Option Addr) (n c : Nat) (l : List (List UInt8)) (g : Nat) (D : List UInt8) : Prop where
  t : OfT w W A n c l
  arr : Arr W g 16 (D.map bv)
theorem OfL.on {w W W2 : World} {A : Option Addr} {n c g : Nat} {l : List (List UInt8)} {D : List UInt8} (h : OfL w W A n c l g D) (hb : Below W.heap.size W W2) : OfL w W2 A n c l g D :=
  ⟨h.t.on hb, h.arr.below hb (h.arr.size (by omega))⟩

set_option maxRecDepth 100000 in
set_option maxHeartbeats 1000000 in
theorem ofLaw (tag : Int) (l : List (List UInt8)) (n c : Nat) (A : Option Addr) (w : World) (hl : Lies w w.heap.size 1 A n c (l.map sv)) (ht1 : Table 1 w) (ht2 : Table 0 w) :
    Calls Tryd.prog 7 #[.int .i64 tag, .slice A n c] w (YesH w) := by
  have S0 : OfT w w A n c l := ⟨ht1, ht2, hl, Below.refl _ _⟩
  have E0 := Lib.hid (fun W (h : OfT w W A n c l) => few_any l n c A W h.arg)
  clear ht1 ht2 hl
  cases hf : fewB l with
  | false =>
    rw [hf] at E0
    clear hf
    go_enter Tryd.func7, Tryd.ntmps7
    go_wp2_with (first
      | (go_at_call 10; (with_reducible refine (sanity_any _ S0.t1).mono ?_); rintro e w1 ⟨rfl, hb⟩; replace S0 := S0.on hb; clear hb)
      | (go_at_call 13; (with_reducible refine (E0.out _ S0).mono ?_); rintro e w2 ⟨rfl, rfl⟩))
    go_ret
    exact ⟨rfl, S0.below⟩
  | true =>
    obtain ⟨h12, h400⟩ := fewB_all hf
    obtain ⟨hbd, hes⟩ := ofIn_le tag h12 h400
    rw [hf] at E0
    have E1 := Lib.hid (fun W (h : OfT w W A n c l) => of_any tag l n c A W h.arg (fun s hs => Nat.le_trans (hes s hs) (by omega)) h.t1)
    have E2 := Lib.hid (fun W (h : OfT w W A n c l) => refOf_any tag l n c A W h.arg hbd h.t2)
    have E3 := Lib.hid (fun W (h : OfT w W A n c l) => by have := of_any (tag % 256) l n c A W h.arg (fun s hs => Nat.le_trans (hes s hs) (by omega)) h.t1; rw [ofDig_mod] at this; exact this)
    have hDL : (ofDig tag l).length = 16 := by simp [ofDig, sha_length]
    have hand := and255 tag
    generalize ofDig tag l = D at E1 E2 E3 hDL
    have heq : ∀ W, (Op.equalIn 10000 44 (.agg (D.map bv).toArray) (.agg (D.map bv).toArray)).run Tryd.prog W = .ok true W := fun W => by
      have := eqD D D hDL hDL W
      rwa [show (D == D) = true by simp] at this
    have HDL : Hid ((D.map bv).length = 16) := Lib.hid (by rw [List.length_map]; exact hDL)
    have HDL2 := Lib.hid hDL
    have hz := zero16v
    clear hf h12 h400 hbd hes hDL
    go_enter Tryd.func7, Tryd.ntmps7
    go_wp2_with (first
      | (go_at_call 10; (with_reducible refine (sanity_any _ S0.t1).mono ?_); rintro e w1 ⟨rfl, hb⟩; replace S0 := S0.on hb; clear hb)
      | (go_at_call 13; (with_reducible refine (E0.out _ S0).mono ?_); rintro e w2 ⟨rfl, rfl⟩)
      | (go_at_call 21; (with_reducible refine (E1.out _ S0).mono ?_); rintro e w3 ⟨rfl, hb⟩; replace S0 := S0.on hb; clear hb)
      | ((with_reducible refine at_store 44 (.tmp 6) (.tmp 14) rfl ?_); refine wpList_store_mid rfl 44 (.tmp 6) (.tmp 14) rfl w3.heap.size 0 (D.map bv).toArray rfl rfl (fresh16 _ _ HDL2.out _) (i16A HDL.out) (bytes_all _) ?_; refine gen_world (Pq := fun W => OfL w W A n c l w3.heap.size D) (G := fun W => wpList _ _ _ _ _ W) ⟨S0.on (fresh16A w3 D HDL2.out _).2, (fresh16A w3 D HDL2.out _).1⟩ ?_; intro w4 S4; clear S0))
    revert S4
    generalize w3.heap.size = g
    intro S4
    have S5 := S4.on (belowD w4)
    clear S4 hz
    have HRG := Lib.hid (fun W (h : OfL w W A n c l g D) => h.arr.range)
    refine QTail.whole (fun W => OfL w W A n c l g D) (by kernel_rfl) (by kernel_rfl) S5 ?_
    iterate 2 (refine wpQuiet_step (fun K hK => ?_); go_simp; (first | refine hK _ ?_ | refine ⟨_, fun _ _ => rfl, hK _ ?_⟩); clear hK K)
    refine QTail.loadC (by rfl) 44 (.tmp 6) rfl g 0 rfl (D.map bv) _ HRG.out Tryd.underlying44 rfl (i16 HDL.out) ?_
    iterate 2 (refine wpQuiet_step (fun K hK => ?_); go_simp; (first | refine hK _ ?_ | refine ⟨_, fun _ _ => rfl, hK _ ?_⟩); clear hK K)
    (refine wpQuiet_step (fun K hK => ?_); go_simp; refine ⟨_, fun W hW => (E2.out W hW.t).mono fun e w' ⟨he, hb⟩ => ⟨he, hW.on hb⟩, hK _ ?_⟩; clear hK K)
    iterate 3 (refine wpQuiet_step (fun K hK => ?_); go_simp; (first | refine hK _ ?_ | refine ⟨_, fun _ _ => rfl, hK _ ?_⟩); clear hK K)
    refine QTail.loadC (by rfl) 44 (.tmp 6) rfl g 0 rfl (D.map bv) _ HRG.out Tryd.underlying44 rfl (i16 HDL.out) ?_
    iterate 3 (refine wpQuiet_step (fun K hK => ?_); go_simp; (first | refine hK _ ?_ | refine ⟨_, fun _ _ => rfl, hK _ ?_⟩); clear hK K)
    (refine wpQuiet_step (fun K hK => ?_); go_simp; refine ⟨_, fun W hW => (E3.out W hW.t).mono fun e w' ⟨he, hb⟩ => ⟨he, hW.on hb⟩, hK _ ?_⟩; clear hK K)
    iterate 3 (refine wpQuiet_step (fun K hK => ?_); go_simp; (first | refine hK _ ?_ | refine ⟨_, fun _ _ => rfl, hK _ ?_⟩); clear hK K)
    refine wpQuiet_nil ?_
    intro w5 S6
    have HB := Lib.hid S6.t.below
    clear S6 S5
    go_wp2
    go_ret
    exact ⟨rfl, HB.out⟩

end Hash
end Go.Proofs.YtciinlncflngdaaDoor
