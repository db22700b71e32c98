/- The premise on the table of units, opened: where it reads as the program's text lays it, its cells hold the units and their seconds; and the world that the program's own run leaves meets the premise. Condition: the premise of the statement. -/
import Derived.Test.YtjijlepkcghmeaaDoorLxA5
import Derived.Test.YtjijlepkcghmeaaDoorRows
import Derived.LaidMore
import Derived.ProofKit
import Derived.OpenShut
import Derived.ChangeSame
namespace Go.Proofs.YtjijlepkcghmeaaDoor
open Go.ChangeShapes Go.WideShapes Go.ChangeAt Go.RowKit
namespace Lx
section
variable {H : Type} {enc : TypeId × Value → H} {w : World} {base : Nat} {sp : Nat → Bool} {held : Bool}
theorem int_of_trod {P : Program} {fuel : Nat} {t : TypeId} {k : IntKind} {c : Value} {y : DataW H × List MemPlace}
    (ht : P.underlying t = some (.int k)) (h : DataW.trod enc P w base sp held fuel t [c] = some y) : ∃ n, c = .int k n ∧ y = (.lit (.int k n), []) := by
  cases fuel with
  | zero => simp [DataW.trod] at h
  | succ fuel =>
    cases c <;> simp [DataW.trod, ht] at h
    rename_i k' n
    obtain ⟨⟨rfl, _⟩, rfl⟩ := h
    exact ⟨n, rfl, rfl⟩
theorem unit_of_trod {fuel : Nat} {a b : Value} {y : DataW H × List MemPlace} {n m : Int} (h : DataW.trod enc Tryd.prog w base sp held fuel 67 [a, b] = some y) (hy : y.1 = .agg [.lit (.int .u8 n), .lit (.int .i64 m)]) : a = .int .u8 n ∧ b = .int .i64 m := by
  obtain ⟨y0, y1, k, rfl, _, h0, h1⟩ := trod_struct2 Tryd.underlying67 h
  have c1 : Tryd.prog.cellsOf 5 = 1 := by kernel_rfl
  have c2 : Tryd.prog.cellsOf 3 = 1 := by kernel_rfl
  have h0' : DataW.trod enc Tryd.prog w base sp held k 5 (([a, b].drop 0).take (Tryd.prog.cellsOf 5)) = some y0 := h0
  have h1' : DataW.trod enc Tryd.prog w base sp held k 3 (([a, b].drop 1).take (Tryd.prog.cellsOf 3)) = some y1 := h1
  rw [c1] at h0'
  rw [c2] at h1'
  obtain ⟨n', rfl, rfl⟩ := int_of_trod Tryd.underlying5 h0'
  obtain ⟨m', rfl, rfl⟩ := int_of_trod Tryd.underlying3 h1'
  simp at hy
  obtain ⟨rfl, rfl⟩ := hy
  exact ⟨rfl, rfl⟩
theorem units_of_trod {W : World} {fuel : Nat} {cs : Array Value} {p : List MemPlace} (hcell : ∀ j, W.cell? ⟨1, j, none⟩ = cs[j]?)
    (hd : DataW.trod enc Tryd.prog w base sp held fuel 68 cs.toList = some (.agg [.agg [.lit (.int .u8 115), .lit (.int .i64 1)], .agg [.lit (.int .u8 109), .lit (.int .i64 60)], .agg [.lit (.int .u8 104), .lit (.int .i64 3600)], .agg [.lit (.int .u8 100), .lit (.int .i64 86400)]], p)) : Units W := by
  obtain ⟨xs, m, _, hx, hlen, hn, hel⟩ := DataW.trod_array Tryd.underlying68 hd
  have c2 : Tryd.prog.cellsOf 67 = 2 := by kernel_rfl
  have c8 : Tryd.prog.cellsOf 68 = 8 := by kernel_rfl
  rw [c8] at hlen
  simp only [Prod.mk.injEq, DataW.agg.injEq] at hx
  obtain ⟨hx, _⟩ := hx
  obtain ⟨a0, b0, a1, b1, a2, b2, a3, b3, hcs⟩ : ∃ a0 b0 a1 b1 a2 b2 a3 b3, cs.toList = [a0, b0, a1, b1, a2, b2, a3, b3] := by
    match h : cs.toList, hlen with
    | [a0, b0, a1, b1, a2, b2, a3, b3], _ => exact ⟨a0, b0, a1, b1, a2, b2, a3, b3, rfl⟩
  obtain ⟨x0, x1, x2, x3, rfl⟩ : ∃ x0 x1 x2 x3, xs = [x0, x1, x2, x3] := by
    match xs, hn with
    | [x0, x1, x2, x3], _ => exact ⟨x0, x1, x2, x3, rfl⟩
  rw [hcs, c2] at hel
  simp only [List.map_cons, List.map_nil, List.cons.injEq, and_true] at hx
  obtain ⟨e0, e1, e2, e3⟩ := hx
  obtain ⟨rfl, rfl⟩ := unit_of_trod (show DataW.trod enc Tryd.prog w base sp held m 67 [a0, b0] = some x0 from hel 0 (by decide)) e0.symm
  obtain ⟨rfl, rfl⟩ := unit_of_trod (show DataW.trod enc Tryd.prog w base sp held m 67 [a1, b1] = some x1 from hel 1 (by decide)) e1.symm
  obtain ⟨rfl, rfl⟩ := unit_of_trod (show DataW.trod enc Tryd.prog w base sp held m 67 [a2, b2] = some x2 from hel 2 (by decide)) e2.symm
  obtain ⟨rfl, rfl⟩ := unit_of_trod (show DataW.trod enc Tryd.prog w base sp held m 67 [a3, b3] = some x3 from hel 3 (by decide)) e3.symm
  intro j u hu
  rw [hcell j, ← Array.getElem?_toList, hcs]
  exact hu
end
theorem gUnits : Tryd.prog.globalNamed "custody/lex.units" = some 1 := by kernel_rfl
theorem tUnits : (Tryd.prog.globals[1]?).map (·.type) = some 68 := by kernel_rfl
abbrev laid1 : List (String × DataW Unit) := [("custody/lex.units", Rows.laid_custody_lex_units)]
/-- What the condition gives the walks: the table of units. -/
theorem of_laid1 {W : World} (h : laidMetH Tryd.prog laid1 W) : Units W := by
  rw [MakeChecks.laidMetH_plain _ _ _ (by kernel_rfl)] at h
  obtain ⟨ps, ⟨g0, t0, cs0, f0, p0, q0, hg0, ht0, hv0, hd0, _⟩, _⟩ := h
  obtain rfl := Option.some.inj (gUnits.symm.trans hg0)
  obtain rfl := Option.some.inj (tUnits.symm.trans ht0)
  exact units_of_trod (fun j => World.var?_cell hg0 hv0 j) hd0
/-- The door's own heap meets the condition. -/
theorem door_met1 (os : Os) (args : Array Value) : laidMetH Tryd.prog laid1 ((World.doorLaid Tryd.prog 19 os).forCall (fun _ _ => 0) ⟨#[], args, []⟩).memory :=
  laidMetH_of_parts3 (fuel := 8) (laidMet_of_run' 8 (by kernel_rfl) (by kernel_rfl)) (by kernel_rfl) (by kernel_rfl)
end Lx
end Go.Proofs.YtjijlepkcghmeaaDoor
