/- DigO; Laid: what each of these parts proves stands ahead of it. -/
import Derived.Test.YtmabbiemjeeicaaDoorZDig
import Derived.OpenShut
import Derived.DataReads
import Derived.ChangeSame
import Derived.Test.YtmabbiemjeeicaaDoorM9
import Derived.Test.YtmabbiemjeeicaaDoorRows
import Derived.LaidMore
import Derived.ProofKit
/- A digest that came in, opened. No condition. -/
namespace Go.Proofs.YtmabbiemjeeicaaDoor
open Go.RowKit Go.ChangeShapes Go.WideShapes
namespace Mk
open Wire (bv Lies)
set_option maxRecDepth 100000
set_option linter.constructorNameAsVariable false

/-- The byte in a value that is one. -/
def byteOf (v : Value) : UInt8 := match v with | .int _ z => UInt8.ofNat z.toNat | _ => 0
theorem byteOf_bv {z : Int} (h : (Lit.int .u8 z).wf = true) : bv (byteOf (.int .u8 z)) = .int .u8 z := by
  have hr : 0 ≤ z ∧ z ≤ 255 := by simpa [Lit.wf, IntKind.min, IntKind.max, IntKind.signed, IntKind.bits] using h
  unfold bv byteOf
  congr 2
  have h2 : (UInt8.ofNat z.toNat).toNat = z.toNat := by simp; omega
  simp only [h2]
  omega

theorem u8_nat {z : Int} (h : (Lit.int .u8 z).wf = true) : ∃ m : Nat, m < 256 ∧ z = (m : Int) := by
  have hr : 0 ≤ z ∧ z ≤ 255 := by simpa [Lit.wf, IntKind.min, IntKind.max, IntKind.signed, IntKind.bits] using h
  exact ⟨z.toNat, by omega, by omega⟩
section
variable {H : Type} {enc : TypeId × Value → H} {W : World} {base : Nat}

/-- Sixteen cells that read as an array of bytes are bytes. -/
theorem dig_read {fuel : Nat} {cs : List Value} {x : DataW H × List MemPlace} (h : DataW.trod enc Tryd.prog W 0 (fun _ => true) true fuel 23 cs = some x) :
    cs.length = 16 ∧ cs = (cs.map byteOf).map bv := by
  obtain ⟨xs, m, _, _, hl, hxl, hi⟩ := DataW.trod_array (n := 16) (e := 5) (by kernel_rfl) h
  have h16 : cs.length = 16 := hl.trans (by kernel_rfl)
  have hc1 : Tryd.prog.cellsOf 5 = 1 := by kernel_rfl
  rw [hc1] at hi
  refine ⟨h16, List.ext_getElem? fun i => ?_⟩
  by_cases hin : i < 16
  · have h := hi i hin
    have hd1 : (cs.drop (i * 1)).take 1 = [cs[i]'(by omega)] := by rw [Nat.mul_one, List.drop_eq_getElem_cons (by omega)]; rfl
    rw [hd1] at h
    obtain ⟨z, ez, _, wz⟩ := DataW.trod_int Tryd.underlying5 (h.trans (List.getElem?_eq_getElem (by omega)))
    have ez2 : cs[i]'(by omega) = .int .u8 z := (List.cons.inj ez).1
    rw [List.map_map, List.getElem?_map, List.getElem?_eq_getElem (by omega), ez2]
    simp [byteOf_bv wz]
  · rw [List.getElem?_eq_none (by omega), List.getElem?_eq_none (by simp; omega)]
theorem dig_some {fuel : Nat} {cs : List Value} {x : DataW H × List MemPlace} (h : DataW.trod enc Tryd.prog W 0 (fun _ => true) true fuel 23 cs = some x) :
    ∃ d : List UInt8, d.length = 16 ∧ cs = d.map bv := by
  obtain ⟨h1, h2⟩ := dig_read h
  exact ⟨cs.map byteOf, by rw [List.length_map]; exact h1, h2⟩
theorem dig_value {v : Value} (hval : Value.okWide Tryd.prog W .any base 23 v) {d : DataW H} {ps : List MemPlace} (hd : DataW.Trod enc Tryd.prog W 0 (fun _ => true) true 23 v d ps) :
    ∃ x : List UInt8, x.length = 16 ∧ v = dv x := by
  have hu : Tryd.prog.underlying 23 = some (.array 16 5) := by kernel_rfl
  unfold Value.okWide at hval
  simp only [hu] at hval
  obtain ⟨cs, rfl, _, _⟩ := hval
  obtain ⟨fuel, hf⟩ := hd
  obtain ⟨x, h1, h2⟩ := dig_some hf
  refine ⟨x, h1, ?_⟩
  simp only [Value.cells] at h2
  unfold dv
  rw [← h2]
end
end Mk
end Go.Proofs.YtmabbiemjeeicaaDoor

/- The premise on the package-level tables of round constants, opened: where they read as the program's text lays them, each of their cells holds the constant of its index; and the world that the program's own run leaves meets the premise. Condition: the premise of the statement. -/
namespace Go.Proofs.YtmabbiemjeeicaaDoor
open Go.ChangeShapes Go.WideShapes Go.ChangeAt Go.RowKit
namespace Hash
theorem int_of_trod {H : Type} {enc : TypeId × Value → H} {P : Program} {w : World} {base : Nat} {sp : Nat → Bool} {held : Bool} {fuel : Nat} {t : TypeId} {k : IntKind} {c : Value} {y : DataW H × List MemPlace}
    (ht : P.underlying t = some (.int k)) (h : DataW.trod enc P w base sp held fuel t [c] = some y) : ∃ n, c = .int k n ∧ y = (.lit (.int k n), []) := by
  cases fuel with
  | zero => simp [DataW.trod] at h
  | succ fuel =>
    cases c <;> simp [DataW.trod, ht] at h
    rename_i k' n
    obtain ⟨⟨rfl, _⟩, rfl⟩ := h
    exact ⟨n, rfl, rfl⟩
theorem ks_len : ks.length = 64 := by decide +kernel
theorem table_of_trod {H : Type} {enc : TypeId × Value → H} {w W : World} {base g : Nat} {sp : Nat → Bool} {held : Bool} {fuel : Nat} {cs : Array Value} {p : List MemPlace} (hcell : ∀ j, W.cell? ⟨g, j, none⟩ = cs[j]?)
    (hd : DataW.trod enc Tryd.prog w base sp held fuel 75 cs.toList = some (.agg (ks.map fun k : Nat => .lit (.int .u32 (k : Int))), p)) : Table g W := by
  obtain ⟨xs, m, _, hx, hlen, hn, hel⟩ := DataW.trod_array Tryd.underlying75 hd
  have c1 : Tryd.prog.cellsOf 57 = 1 := by kernel_rfl
  have c64 : Tryd.prog.cellsOf 75 = 64 := by kernel_rfl
  rw [c64, Array.length_toList] at hlen
  simp only [Prod.mk.injEq, DataW.agg.injEq] at hx
  intro j hj
  have h := hel j hj
  have hjc : j < cs.size := by omega
  rw [c1, Nat.mul_one, List.drop_eq_getElem_cons (by simpa using hjc), List.getElem?_eq_getElem (by omega)] at h
  obtain ⟨k, e1, e2⟩ := int_of_trod Tryd.underlying57 (show DataW.trod enc Tryd.prog w base sp held m 57 [cs.toList[j]] = _ from h)
  have h2 : (ks.map fun k : Nat => (DataW.lit (.int .u32 (k : Int)) : DataW H))[j]? = (xs.map (·.1))[j]? := by rw [hx.1]
  rw [List.getElem?_map, List.getElem?_map, List.getElem?_eq_getElem (by rw [ks_len]; exact hj), List.getElem?_eq_getElem (by omega), e2] at h2
  simp only [Option.map_some, Option.some.injEq, DataW.lit.injEq, Lit.int.injEq, true_and] at h2
  rw [hcell j, Array.getElem?_eq_getElem hjc]
  have e3 : ks.getD j 0 = ks[j]'(by rw [ks_len]; exact hj) := by simp [List.getD, ks_len, hj]
  rw [e3, ← Array.getElem_toList, e1, ← h2]
  rfl
theorem gRounds : Tryd.prog.globalNamed "custody/hash.rounds" = some 1 := by kernel_rfl
theorem tRounds : (Tryd.prog.globals[1]?).map (·.type) = some 75 := by kernel_rfl
theorem gConsts : Tryd.prog.globalNamed "custody/custodyref02.constants" = some 0 := by kernel_rfl
theorem tConsts : (Tryd.prog.globals[0]?).map (·.type) = some 75 := by kernel_rfl
abbrev laid1 : List (String × DataW Unit) := [("custody/hash.rounds", Rows.laid_custody_hash_rounds)]
abbrev laid2 : List (String × DataW Unit) := [("custody/custodyref02.constants", Rows.laid_custody_custodyref02_constants), ("custody/hash.rounds", Rows.laid_custody_hash_rounds)]
theorem rounds_ks : (Rows.laid_custody_hash_rounds : DataW Unit) = .agg (ks.map fun k : Nat => .lit (.int .u32 (k : Int))) := by rfl
theorem consts_ks : (Rows.laid_custody_custodyref02_constants : DataW Unit) = .agg (ks.map fun k : Nat => .lit (.int .u32 (k : Int))) := by rfl
/-- What the condition gives the walks: the table of round constants. -/
theorem of_laid1 {W : World} (h : laidMetH Tryd.prog laid1 W) : Table 1 W := by
  rw [MakeChecks.laidMetH_plain _ _ _ (by kernel_rfl)] at h
  obtain ⟨ps, ⟨g0, t0, cs0, f0, p0, q0, hg0, ht0, hv0, hd0, _⟩, _⟩ := h
  obtain rfl := Option.some.inj (gRounds.symm.trans hg0)
  obtain rfl := Option.some.inj (tRounds.symm.trans ht0)
  rw [rounds_ks] at hd0
  exact table_of_trod (fun j => World.var?_cell hg0 hv0 j) hd0
theorem of_laid2 {W : World} (h : laidMetH Tryd.prog laid2 W) : Table 0 W ∧ Table 1 W := by
  rw [MakeChecks.laidMetH_plain _ _ _ (by kernel_rfl)] at h
  obtain ⟨ps, ⟨g0, t0, cs0, f0, p0, q0, hg0, ht0, hv0, hd0, ⟨g1, t1, cs1, f1, p1, q1, hg1, ht1, hv1, hd1, _⟩, _⟩, _⟩ := h
  obtain rfl := Option.some.inj (gConsts.symm.trans hg0)
  obtain rfl := Option.some.inj (tConsts.symm.trans ht0)
  obtain rfl := Option.some.inj (gRounds.symm.trans hg1)
  obtain rfl := Option.some.inj (tRounds.symm.trans ht1)
  rw [consts_ks] at hd0
  rw [rounds_ks] at hd1
  exact ⟨table_of_trod (fun j => World.var?_cell hg0 hv0 j) hd0, table_of_trod (fun j => World.var?_cell hg1 hv1 j) hd1⟩
/-- The door's own heap meets the condition. -/
theorem door_met1 (os : Os) (args : Array Value) : laidMetH Tryd.prog laid1 ((World.doorLaid Tryd.prog 19 os).forCall (fun _ _ => 0) ⟨#[], args, []⟩).memory :=
  laidMetH_of_parts3 (fuel := 8) (laidMet_of_run' 8 (by kernel_rfl) (by kernel_rfl)) (by kernel_rfl) (by kernel_rfl)
theorem door_met2 (os : Os) (args : Array Value) : laidMetH Tryd.prog laid2 ((World.doorLaid Tryd.prog 19 os).forCall (fun _ _ => 0) ⟨#[], args, []⟩).memory :=
  laidMetH_of_parts3 (fuel := 8) (laidMet_of_run' 8 (by kernel_rfl) (by kernel_rfl)) (by kernel_rfl) (by kernel_rfl)
theorem len63 {a : ByteArray} (h : a.size ≤ maxLen) : a.data.toList.length ≤ 9223372036854775807 := by
  have : maxLen ≤ 9223372036854775807 := by decide
  have e : a.size = a.data.toList.length := rfl
  omega
theorem ofData (a : ByteArray) : (⟨a.data.toList.toArray⟩ : ByteArray) = a := ByteArray.ext rfl

end Hash
end Go.Proofs.YtmabbiemjeeicaaDoor

