/- The walk of the statement HashSumMatchesSpec. Condition: the tables of round constants read as the program lays them. -/
import Derived.Test.YtciinlncflngdaaDoorHConv
import Derived.Test.YtciinlncflngdaaDoorQHeld
namespace Go.Proofs.YtciinlncflngdaaDoor
open Go.RowKit
namespace Hash
open Wire (Lies)

theorem sameS (a : List UInt8) (W : World) : (Op.equalIn 10000 9 (.string ⟨a.toArray⟩) (.string ⟨a.toArray⟩)).run Tryd.prog W = .ok true W := by
  rw [run_equalIn_string W 9999 9 _ _ Tryd.underlying9]
  simp
/-- The tables; the argument; the sum in block g. -/
structure SumT (w W : World) (A : Option Addr) (n c : Nat) (l : List UInt8) : Prop where
  t1 : Table 1 W
  t2 : Table 0 W
  arg : Lies W W.heap.size 1 A n c (l.map Wire.bv)
  below : Below w.heap.size w W
theorem SumT.on {w W W2 : World} {A : Option Addr} {n c : Nat} {l : List UInt8} (h : SumT w W A n c l) (hb : Below W.heap.size W W2) : SumT w W2 A n c l :=
  ⟨tabj h.t1 hb, tabj h.t2 hb, lies_on h.arg hb, bcj h.below hb⟩
structure SumL (w W : World) (A : Option Addr) (n c : Nat) (l : List UInt8) (g : Nat) (x : List UInt8) : Prop where
  t : SumT w W A n c l
  arr : Arr W g 32 (x.map Wire.bv)
theorem SumL.on {w W W2 : World} {A : Option Addr} {n c g : Nat} {l x : List UInt8} (h : SumL w W A n c l g x) (hb : Below W.heap.size W W2) : SumL w W2 A n c l g x :=
  ⟨h.t.on hb, h.arr.below hb (h.arr.size (by omega))⟩
theorem belowD (W : World) : Below W.heap.size W W.drew := ⟨rfl, rfl, rfl, Nat.le_refl _, fun _ _ => rfl⟩

set_option maxRecDepth 100000 in
set_option maxHeartbeats 1000000 in
theorem sumLaw (l : List UInt8) (n c : Nat) (A : Option Addr) (w : World) (hl : Lies w w.heap.size 1 A n c (l.map Wire.bv)) (ht1 : Table 1 w) (ht2 : Table 0 w) :
    Calls Tryd.prog 3 #[.slice A n c] w (YesH w) := by
  have S0 : SumT w w A n c l := ⟨ht1, ht2, hl, Below.refl _ _⟩
  have hln : l.length = n := by have := hl.len; simpa using this
  clear ht1 ht2 hl
  by_cases h1 : (1000 : Int) < (n : Int)
  · clear hln
    go_enter Tryd.func3, Tryd.ntmps3
    go_wp2_with (go_at_call 10; (with_reducible refine (sanity_any _ S0.t1).mono ?_); rintro e w1 ⟨rfl, hb⟩; replace S0 := S0.on hb; clear hb)
    go_ret
    exact ⟨rfl, S0.below⟩
  · obtain ⟨x, hx⟩ : ∃ x, x = sha l := ⟨_, rfl⟩
    have E1 := Lib.hid (fun W (h : SumT w W A n c l) => by have := sum_any l n c A W h.arg h.t1; rw [← hx] at this; exact this)
    have E2 := Lib.hid (fun W (h : Table 0 W) => by have := refSumKey l (by omega) W h; rw [← hx] at this; exact this)
    have HXL : Hid (x.length = 32) := Lib.hid (by rw [hx]; exact sha_length l)
    have HCV := Lib.hid (fun W (h : SumT w W A n c l) => convL h.arg)
    have hck := convKey l
    have hea := eqA x HXL.out
    have hes := sameS l
    have hz := zero32
    clear hx hln
    go_enter Tryd.func3, Tryd.ntmps3
    go_wp2_with (first
      | (go_at_call 10; (with_reducible refine (sanity_any _ S0.t1).mono ?_); rintro e w1 ⟨rfl, hb⟩; replace S0 := S0.on hb; have hcv := HCV.out _ S0; clear hb)
      | (go_at_call 11; (with_reducible refine (E1.out _ S0).mono ?_); rintro e w2 ⟨rfl, hb⟩; replace S0 := S0.on hb; clear hb hcv)
      | ((with_reducible refine at_store 24 (.tmp 5) (.tmp 14) rfl ?_); refine wpList_store_mid rfl 24 (.tmp 5) (.tmp 14) rfl w2.heap.size 0 (x.map Wire.bv).toArray rfl rfl (fresh32 _ _ HXL.out _) (i32A HXL.out) (bytes_all _) ?_; refine gen_world (Pq := fun W => SumL w W A n c l w2.heap.size x) (G := fun W => wpList _ _ _ _ _ W) ⟨S0.on (fresh32A w2 x HXL.out _).2, (fresh32A w2 x HXL.out _).1⟩ ?_; intro w3 S3; clear S0))
    revert S3
    generalize w2.heap.size = g
    intro S3
    have S4 := S3.on (belowD w3)
    clear S3 hz
    have HRG := Lib.hid (fun W (h : SumL w W A n c l g x) => h.arr.range)
    refine QHeld.start (fun W => SumL w W A n c l g x) (by kernel_rfl) ?_
    revert S4
    generalize w3.drew = w4
    intro S4
    (refine QHeld.val (by kernel_rfl) (fun _ _ _ _ h => h) (by rfl) S4 ⟨_, fun W hW => (by go_simp; with_reducible rfl), ?_⟩; try simp only [Act.put, List.setIfInBounds_toArray, List.set_cons_zero, List.set_cons_succ])
    (refine QHeld.val (by kernel_rfl) (fun _ _ _ _ h => h) (by rfl) S4 ⟨_, fun W hW => (by go_simp; with_reducible rfl), ?_⟩; try simp only [Act.put, List.setIfInBounds_toArray, List.set_cons_zero, List.set_cons_succ])
    (refine QHeld.load (by kernel_rfl) (fun _ _ _ _ h => h) (by rfl) S4 24 (.tmp 5) rfl g 0 rfl (x.map Wire.bv) _ HRG.out und32 rfl (i32 HXL.out) ?_; try simp only [Act.put, List.setIfInBounds_toArray, List.set_cons_zero, List.set_cons_succ])
    (refine QHeld.val (by kernel_rfl) (fun _ _ _ _ h => h) (by rfl) S4 ⟨_, fun W hW => (by go_simp; with_reducible rfl), ?_⟩; try simp only [Act.put, List.setIfInBounds_toArray, List.set_cons_zero, List.set_cons_succ])
    refine QHeld.one (by kernel_rfl) (fun K hK => ?_)
    go_simp
    have hb5 := bytesB w4 l
    have S5 := S4.on hb5
    refine hK.out _ _ S5 (fun _ => ?_)
    clear hK K hck hb5
    try simp only [Act.put, List.setIfInBounds_toArray, List.set_cons_zero, List.set_cons_succ]
    refine QHeld.one (by kernel_rfl) (fun K hK => ?_)
    go_simp
    go_at_call 12
    (with_reducible refine (E2.out _ S4.t.t2).mono ?_)
    rintro e w6 ⟨rfl, hb6⟩
    try go_wp2_with fail
    refine hK.out _ _ (S4.on hb6) (fun S6 => ?_)
    clear hK K S5 S4 hb6
    try simp only [Act.put, List.setIfInBounds_toArray, List.set_cons_zero, List.set_cons_succ]
    (refine QHeld.val (by kernel_rfl) (fun _ _ _ _ h => h) (by rfl) S6 ⟨_, fun W hW => (by go_simp; with_reducible rfl), ?_⟩; try simp only [Act.put, List.setIfInBounds_toArray, List.set_cons_zero, List.set_cons_succ])
    (refine QHeld.val (by kernel_rfl) (fun _ _ _ _ h => h) (by rfl) S6 ⟨_, fun W hW => (by go_simp; with_reducible rfl), ?_⟩; try simp only [Act.put, List.setIfInBounds_toArray, List.set_cons_zero, List.set_cons_succ])
    (refine QHeld.val (by kernel_rfl) (fun _ _ _ _ h => h) (by rfl) S6 ⟨_, fun W hW => (by go_simp; with_reducible rfl), ?_⟩; try simp only [Act.put, List.setIfInBounds_toArray, List.set_cons_zero, List.set_cons_succ])
    (refine QHeld.val (by kernel_rfl) (fun _ _ _ _ h => h) (by rfl) S6 ⟨_, fun W hW => (by go_simp; with_reducible rfl), ?_⟩; try simp only [Act.put, List.setIfInBounds_toArray, List.set_cons_zero, List.set_cons_succ])
    (refine QHeld.val (by kernel_rfl) (fun _ _ _ _ h => h) (by rfl) S6 ⟨_, fun W hW => (by have hcv := HCV.out _ hW.t; clear hW; go_simp; with_reducible rfl), ?_⟩; try simp only [Act.put, List.setIfInBounds_toArray, List.set_cons_zero, List.set_cons_succ])
    (refine QHeld.val (by kernel_rfl) (fun _ _ _ _ h => h) (by rfl) S6 ⟨_, fun W hW => (by go_simp; with_reducible rfl), ?_⟩; try simp only [Act.put, List.setIfInBounds_toArray, List.set_cons_zero, List.set_cons_succ])
    (refine QHeld.val (by kernel_rfl) (fun _ _ _ _ h => h) (by rfl) S6 ⟨_, fun W hW => (by go_simp; with_reducible rfl), ?_⟩; try simp only [Act.put, List.setIfInBounds_toArray, List.set_cons_zero, List.set_cons_succ])
    (refine QHeld.val (by kernel_rfl) (fun _ _ _ _ h => h) (by rfl) S6 ⟨_, fun W hW => (by go_simp; with_reducible rfl), ?_⟩; try simp only [Act.put, List.setIfInBounds_toArray, List.set_cons_zero, List.set_cons_succ])
    (refine QHeld.val (by kernel_rfl) (fun _ _ _ _ h => h) (by rfl) S6 ⟨_, fun W hW => (by go_simp; with_reducible rfl), ?_⟩; try simp only [Act.put, List.setIfInBounds_toArray, List.set_cons_zero, List.set_cons_succ])
    refine QHeld.stop (by kernel_rfl) ?_
    have HB := Lib.hid S6.t.below
    clear S6
    go_wp2
    go_ret
    exact ⟨rfl, HB.out⟩

end Hash
end Go.Proofs.YtciinlncflngdaaDoor
