/- Package kdf: the iterator over a generator's values. Conditions: as each theorem says. -/
import Derived.Test.YtoenkckoomfgeaaDoorKPack
import Derived.Test.YtoenkckoomfgeaaDoorRng
import Derived.Test.YtoenkckoomfgeaaDoorQTail
import Derived.Shelf.Abstract
import Derived.Shelf.RegionOpen
import Derived.WalkKit
import Derived.OwnWalkIn
import Derived.TacticsInMore
import Derived.LoopNIn
import Derived.LoopIn
namespace Go.Proofs.YtoenkckoomfgeaaDoor
open Go Go.RowKit Go.Shelf
namespace Kdf
open Hash (Table tabj bcj GivesT sizeS Arr)
open Rng (Keep Runs Box)
attribute [local go_sem] Oper.semAt_some

/-- What the iterator wants of memory: L: where the caller's blocks begin. -/
structure VS (L Br Bc N : Nat) (s : List UInt8) (W : World) : Prop where
  old : 1 < L
  low : L ≤ W.heap.size
  tab : Table 1 W
  box : Box W Br 33 (.string ⟨s.toArray⟩)
  cnt : Box W Bc 3 (.int .i64 (N : Int))

/-- What the iterator may change: its own boxes. -/
def own (L k : Nat) (o : Obj) : Prop := L ≤ k ∧ ∃ c fz, o = .cells c 33 fz

set_option maxRecDepth 100000 in
set_option maxHeartbeats 2000000 in
theorem values_runs (n N L Br Bc : Nat) (hn : 3 ≤ n) (hN : N ≤ 1000000) (s : List UInt8) (hs : s.length ≤ 100000) (p : Nat → Obj → Prop) (hpA : ∀ k c fz, L ≤ k → ¬ p k (.cells c 33 fz)) (hpT : ∀ x, ¬ p 1 x) :
    Runs (α := Nat) Fence.wide n Tryd.prog 40 #[.pointer (some ⟨Br, 0, none⟩), .pointer (some ⟨Bc, 0, none⟩)] (fun k => #[.string ⟨(val (after s k)).toArray⟩, .agg #[.string ⟨(after s (k + 1)).toArray⟩]])
      p (own L) (fun pre => pre.length ≤ N) (fun pre x => x = pre.length ∧ pre.length < N) (fun xs => xs.length = N) (VS L Br Bc N s) := by
  intro l J Jx W hV hJ hJx hRJ hY h0
  refine callsIn_of_wp Tryd.func40 rfl trivial ?_ rfl
  simp only [Tryd.ntmps40, List.size_toArray, List.length_cons, List.length_nil, Nat.reduceAdd, Nat.reduceSub, Array.replicate_succ, Array.replicate_zero, List.push_toArray, List.append_toArray, List.nil_append, List.cons_append]
  have hBr := hV.box.lt
  have hBc := hV.cnt.lt
  have hlo := hV.low
  have c1 := hV.box.cell
  have c2 := hV.cnt.cell
  have hbW := Wire.b1 W (.cells #[.string ⟨s.toArray⟩] 33)
  gi_wp2
  refine Rng.loop_ghost (γ := List Nat) (fun pre m a A => pre.length + m = N + 1 ∧ J pre A ∧ Table 1 A ∧ Box A W.heap.size 33 (.string ⟨(after s pre.length).toArray⟩) ∧
    ∃ u5 u6 u10 u11 u12 u13 u14 u15 u16 u17 u18 u19 u20 u21 u22 : Value, a = { tmps := #[.func (.yield l) #[] #[], .pointer (some ⟨Br, 0, none⟩), .pointer (some ⟨Bc, 0, none⟩), undef, .pointer (some ⟨W.heap.size, 0, none⟩), u5, u6, .agg #[.string ⟨s.toArray⟩], .int .i64 (N : Int), .int .i64 (pre.length : Int), u10, u11, u12, u13, u14, u15, u16, u17, u18, u19, u20, u21, u22], defers := [] }) ?none0 ?step (N + 1) [] _ _ ⟨by simp, hJ _ _ _ h0 (Keep.ofBelow hbW), tabj hV.tab hbW, Box.new _ _ _, undef, undef, undef, undef, undef, undef, undef, undef, undef, undef, undef, undef, undef, undef, undef, rfl⟩
  case none0 =>
    rintro pre a A ⟨hm, hj, _⟩
    have := (hRJ pre A hj).1
    omega
  case step =>
    rintro pre m a A ⟨hm, hj, hT, hbx, u5, u6, u10, u11, u12, u13, u14, u15, u16, u17, u18, u19, u20, u21, u22, rfl⟩
    obtain ⟨hpre, hsz, hlW⟩ := hRJ pre A hj
    have hA0 := hbx.lt
    by_cases hlt : pre.length < N
    · have HC : Hid (∀ W, Table 1 W → Calls Tryd.prog 17 #[.agg #[.string ⟨(after s pre.length).toArray⟩]] W (GivesR (val (after s pre.length)) (after s (pre.length + 1)) W)) := Lib.hid (fun W hT => next_any (after s pre.length) W (after_length hs (by omega) _) hT)
      have HY := Lib.hid (fun A h => hY pre pre.length A h ⟨rfl, hlt⟩)
      generalize val (after s pre.length) = V at HC HY
      have hc := hbx.cell
      have y1 : (pre.length : Int) < (N : Int) := by omega
      gi_wp2
      refine ⟨trivial, fun _ => by omega, ?_⟩
      gi_at_call 17
      refine (callsIn_wide.2 (HC.out _ hT)).mono ?_
      rintro e w2 ⟨rfl, hb⟩
      have hbw := Wire.b1 w2 (.cells #[.string ⟨(after s (pre.length + 1)).toArray⟩] 33)
      have hk2 := Keep.ofBelow (p := own L) (hb.trans (hbw.mono hb.size))
      obtain ⟨fn, tmps, assign, body, hy, hR⟩ := HY.out _ (hJ _ _ _ hj hk2)
      try dsimp only at hy
      gi_wp2
      have hs2 := hb.size
      refine ⟨fun _ => by omega, hR.mono ?_⟩
      rintro e B ⟨hkB, (⟨rfl, hJ2⟩ | ⟨rfl, hX⟩)⟩
      · have hn : ∀ k c fz, L ≤ k → ¬ ((fun k o => p k o ∨ ∃ r, o = Obj.loop r) k (.cells c 33 fz)) := fun k c fz h1 h2 => h2.elim (hpA k c fz h1) (fun ⟨_, h3⟩ => by cases h3)
        have b1 := (Box.new w2 33 (.string ⟨(after s (pre.length + 1)).toArray⟩)).keep hkB (hn _ _ _ (by omega))
        have b2 := ((hbx.below hb hA0).below hbw (by omega)).keep hkB (hn _ _ _ hlo)
        have c1 := b1.cell
        have c2 := b2.cell
        have f2 := b2.free 0
        have hT2 : Table 1 B := by
          have ht := tabj (tabj hT hb) hbw
          exact fun j hj => hkB.cellL (ht j hj) hpT
        gi_wp2
        have e1 : B.setCell ⟨W.heap.size, 0, none⟩ (.string ⟨(after s (pre.length + 1)).toArray⟩) = B.setCells W.heap.size 0 [.string ⟨(after s (pre.length + 1)).toArray⟩] := rfl
        have hlen : (pre ++ [pre.length]).length = pre.length + 1 := by simp
        refine ⟨pre ++ [pre.length], by omega, ?_, ?_, by rw [hlen]; exact b2.put _, _, _, _, _, _, _, _, _, _, _, _, _, _, _, _, by rw [hlen]; rfl⟩
        · rw [e1]
          exact hJ _ _ _ hJ2 (Keep.setCells B _ 0 _ fun x hx => ⟨hlo, _, _, (Option.some.inj (b2.symm.trans hx)).symm⟩)
        · rw [e1]
          exact hT2.below (Hash.below_cells (Nat.le_refl W.heap.size) _ _ _) (Nat.lt_of_lt_of_le hV.old hlo)
      · gi_wp2
        refine bodyPost_ret (results_none rfl _ _ _) rfl ?_
        exact ⟨⟨_, rfl⟩, .inr ⟨_, hX⟩⟩
    · have hN2 : pre.length = N := by omega
      have y1 : ¬ (pre.length : Int) < (N : Int) := by omega
      gi_wp2
      refine bodyPost_end (results_none rfl _ _ _) rfl ?_
      exact ⟨⟨_, rfl⟩, .inl ⟨_, hN2, hj⟩⟩

end Kdf
end Go.Proofs.YtoenkckoomfgeaaDoor
