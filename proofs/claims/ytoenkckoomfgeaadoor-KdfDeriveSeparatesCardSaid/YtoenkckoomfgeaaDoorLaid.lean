/- The premise on the package-level tables of round constants, opened: where they read as the program's text lays them, each of their cells holds the constant of its index; and the world that the program's own run leaves meets the premise. Condition: the premise of the statement. -/
import Derived.Test.YtoenkckoomfgeaaDoorHMac
import Derived.Test.YtoenkckoomfgeaaDoorRows
import Derived.LaidMore
import Derived.ProofKit
import Derived.OpenShut
namespace Go.Proofs.YtoenkckoomfgeaaDoor
open Go.ChangeShapes Go.WideShapes Go.ChangeAt Go.RowKit
namespace Hash
theorem int_of_trod {H : Type} {enc : TypeId × Value → H} {P : Program} {w : World} {base : Nat} {sp : Nat → Bool} {held : Bool} {fuel : Nat} {t : TypeId} {k : IntKind} {c : Value} {y : DataW H × List MemPlace}
    (ht : P.underlying t = some (.int k)) (h : DataW.trod enc P w base sp held fuel t [c] = some y) : ∃ n, c = .int k n ∧ y = (.lit (.int k n), []) := by
  cases fuel with
  | zero => simp [DataW.trod] at h
  | succ fuel =>
    cases c <;> simp [DataW.trod, ht] at h
    rename_i k' n
    obtain ⟨⟨rfl, _⟩, rfl⟩ := h
    exact ⟨n, rfl, rfl⟩
theorem ks_len : ks.length = 64 := by decide +kernel
theorem table_of_trod {H : Type} {enc : TypeId × Value → H} {w W : World} {base g : Nat} {sp : Nat → Bool} {held : Bool} {fuel : Nat} {cs : Array Value} {p : List MemPlace} (hcell : ∀ j, W.cell? ⟨g, j, none⟩ = cs[j]?)
    (hd : DataW.trod enc Tryd.prog w base sp held fuel 74 cs.toList = some (.agg (ks.map fun k : Nat => .lit (.int .u32 (k : Int))), p)) : Table g W := by
  obtain ⟨xs, m, _, hx, hlen, hn, hel⟩ := DataW.trod_array Tryd.underlying74 hd
  have c1 : Tryd.prog.cellsOf 62 = 1 := by kernel_rfl
  have c64 : Tryd.prog.cellsOf 74 = 64 := by kernel_rfl
  rw [c64, Array.length_toList] at hlen
  simp only [Prod.mk.injEq, DataW.agg.injEq] at hx
  intro j hj
  have h := hel j hj
  have hjc : j < cs.size := by omega
  rw [c1, Nat.mul_one, List.drop_eq_getElem_cons (by simpa using hjc), List.getElem?_eq_getElem (by omega)] at h
  obtain ⟨k, e1, e2⟩ := int_of_trod Tryd.underlying62 (show DataW.trod enc Tryd.prog w base sp held m 62 [cs.toList[j]] = _ from h)
  have h2 : (ks.map fun k : Nat => (DataW.lit (.int .u32 (k : Int)) : DataW H))[j]? = (xs.map (·.1))[j]? := by rw [hx.1]
  rw [List.getElem?_map, List.getElem?_map, List.getElem?_eq_getElem (by rw [ks_len]; exact hj), List.getElem?_eq_getElem (by omega), e2] at h2
  simp only [Option.map_some, Option.some.injEq, DataW.lit.injEq, Lit.int.injEq, true_and] at h2
  rw [hcell j, Array.getElem?_eq_getElem hjc]
  have e3 : ks.getD j 0 = ks[j]'(by rw [ks_len]; exact hj) := by simp [List.getD, ks_len, hj]
  rw [e3, ← Array.getElem_toList, e1, ← h2]
  rfl
theorem gRounds : Tryd.prog.globalNamed "custody/hash.rounds" = some 1 := by kernel_rfl
theorem tRounds : (Tryd.prog.globals[1]?).map (·.type) = some 74 := by kernel_rfl
theorem gConsts : Tryd.prog.globalNamed "custody/custodyref02.constants" = some 0 := by kernel_rfl
theorem tConsts : (Tryd.prog.globals[0]?).map (·.type) = some 74 := by kernel_rfl
abbrev laid1 : List (String × DataW Unit) := [("custody/hash.rounds", Rows.laid_custody_hash_rounds)]
abbrev laid2 : List (String × DataW Unit) := [("custody/custodyref02.constants", Rows.laid_custody_custodyref02_constants), ("custody/hash.rounds", Rows.laid_custody_hash_rounds)]
theorem rounds_ks : (Rows.laid_custody_hash_rounds : DataW Unit) = .agg (ks.map fun k : Nat => .lit (.int .u32 (k : Int))) := by rfl
theorem consts_ks : (Rows.laid_custody_custodyref02_constants : DataW Unit) = .agg (ks.map fun k : Nat => .lit (.int .u32 (k : Int))) := by rfl
/-- What the condition gives the walks: the table of round constants. -/
theorem of_laid1 {W : World} (h : laidMetH Tryd.prog laid1 W) : Table 1 W := by
  rw [MakeChecks.laidMetH_plain _ _ _ (by kernel_rfl)] at h
  obtain ⟨ps, ⟨g0, t0, cs0, f0, p0, q0, hg0, ht0, hv0, hd0, _⟩, _⟩ := h
  obtain rfl := Option.some.inj (gRounds.symm.trans hg0)
  obtain rfl := Option.some.inj (tRounds.symm.trans ht0)
  rw [rounds_ks] at hd0
  exact table_of_trod (fun j => World.var?_cell hg0 hv0 j) hd0
theorem of_laid2 {W : World} (h : laidMetH Tryd.prog laid2 W) : Table 0 W ∧ Table 1 W := by
  rw [MakeChecks.laidMetH_plain _ _ _ (by kernel_rfl)] at h
  obtain ⟨ps, ⟨g0, t0, cs0, f0, p0, q0, hg0, ht0, hv0, hd0, ⟨g1, t1, cs1, f1, p1, q1, hg1, ht1, hv1, hd1, _⟩, _⟩, _⟩ := h
  obtain rfl := Option.some.inj (gConsts.symm.trans hg0)
  obtain rfl := Option.some.inj (tConsts.symm.trans ht0)
  obtain rfl := Option.some.inj (gRounds.symm.trans hg1)
  obtain rfl := Option.some.inj (tRounds.symm.trans ht1)
  rw [consts_ks] at hd0
  rw [rounds_ks] at hd1
  exact ⟨table_of_trod (fun j => World.var?_cell hg0 hv0 j) hd0, table_of_trod (fun j => World.var?_cell hg1 hv1 j) hd1⟩
/-- The door's own heap meets the condition. -/
theorem door_met1 (os : Os) (args : Array Value) : laidMetH Tryd.prog laid1 ((World.doorLaid Tryd.prog 19 os).forCall (fun _ _ => 0) ⟨#[], args, []⟩).memory :=
  laidMetH_of_parts3 (fuel := 8) (laidMet_of_run' 8 (by kernel_rfl) (by kernel_rfl)) (by kernel_rfl) (by kernel_rfl)
theorem door_met2 (os : Os) (args : Array Value) : laidMetH Tryd.prog laid2 ((World.doorLaid Tryd.prog 19 os).forCall (fun _ _ => 0) ⟨#[], args, []⟩).memory :=
  laidMetH_of_parts3 (fuel := 8) (laidMet_of_run' 8 (by kernel_rfl) (by kernel_rfl)) (by kernel_rfl) (by kernel_rfl)
theorem len63 {a : ByteArray} (h : a.size ≤ maxLen) : a.data.toList.length ≤ 9223372036854775807 := by
  have : maxLen ≤ 9223372036854775807 := by decide
  have e : a.size = a.data.toList.length := rfl
  omega
theorem ofData (a : ByteArray) : (⟨a.data.toList.toArray⟩ : ByteArray) = a := ByteArray.ext rfl

end Hash
end Go.Proofs.YtoenkckoomfgeaaDoor
