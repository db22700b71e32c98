/-
  For every state of sixteen words of 32 bits, the statement CipherRounds answers true and leaves its argument as it was. No condition.
-/
import Derived.Test.YtjepagbjoiipaaaRows
import Derived.Test.YtjepagbjoiipaaaCLawR
import Derived.Test.YtjepagbjoiipaaaArr
import Derived.WalkKit
import Derived.ProofKit
import Derived.OpenShut
import Derived.ShutString
namespace Go.Proofs.Ytjepagbjoiipaaa.cipherRounds
open Go.ChangeShapes Go.WideShapes Go.ChangeAt Go.RowKit
set_option linter.unusedVariables false

theorem own : ownKnob Try.prog.godebug = none := by kernel_rfl
theorem cells16 : Try.prog.cellsOf 23 = 16 := by kernel_rfl
theorem cells1 : Try.prog.cellsOf 22 = 1 := by kernel_rfl

theorem walk (xs : List Int) (hl : xs.length = 16) (hw : ∀ x ∈ xs, (Lit.int .u32 x).wf = true) (w : World) :
    Calls Try.prog 4 #[.agg (xs.map (Value.int .u32)).toArray] w fun e w' => e = .returned (.bool true) ∧ Below w.heap.size w w' := by
  have hr : ∀ x ∈ xs, 0 ≤ x ∧ x < 4294967296 := by
    intro x hx
    have h := hw x hx
    simp [Lit.wf, IntKind.min, IntKind.max, IntKind.signed, IntKind.bits] at h
    omega
  have e : xs.map (Value.int .u32) = (xs.map Int.toNat).map Cha.wv := by
    rw [List.map_map]
    apply List.map_congr_left
    intro x hx
    have := hr x hx
    show Value.int .u32 x = Value.int .u32 ((x.toNat : Nat) : Int)
    rw [Int.toNat_of_nonneg this.1]
  rw [e]
  exact Cha.roundsLaw _ w ⟨by rw [List.length_map]; exact hl, fun y hy => by obtain ⟨x, hx, rfl⟩ := List.mem_map.1 hy; have := hr x hx; omega⟩

/-! ### THE ROW's STEP -/
set_option maxRecDepth 100000 in
theorem lifted (os : Os) (started : os.Started) (H : Type) (enc : TypeId × Value → H) :
    ReturnsInHanded {} Try.checked os 4 .any (Rows.cipherRoundsSpec.pre6 enc Try.prog Try.f4 Rows.cipherRoundsRow.domain false) (Rows.cipherRoundsSpec.post enc Try.prog Try.f4 false true false false) := by
  refine returnsInHanded_of_change (C := Try.checked) own started (by kernel_rfl) Try.func4
    (ChangeSpec.witness6 (enc := enc) (C := Try.checked) false ⟨#[], #[.agg #[.int .u32 0, .int .u32 0, .int .u32 0, .int .u32 0, .int .u32 0, .int .u32 0, .int .u32 0, .int .u32 0, .int .u32 0, .int .u32 0, .int .u32 0, .int .u32 0, .int .u32 0, .int .u32 0, .int .u32 0, .int .u32 0]], []⟩ 8 (by kernel_rfl) (by kernel_rfl) (by kernel_rfl) (by kernel_rfl)) ?_
  intro W base args ds gs before hval0 hW hcnd _
  have hval : ∀ (j : Nat) t v, Try.f4.params[j]? = some t → args[j]? = some v → Value.okWide Try.prog W .any base t v := hval0
  have hW' := hW
  obtain ⟨p, q, hA0, hV, rfl, hfz, hnd⟩ := hW
  have hA : DataW.TrodAll enc Try.prog W 0 (fun _ => true) true Try.f4.params.toList args.toList ds p := hA0
  rw [Try.params4] at hA hval
  obtain ⟨v0, vs0, d0, ds0, p0, q0, hargs, rfl, rfl, h0, r0⟩ := trodAll_cons hA
  obtain ⟨rfl, rfl, rfl⟩ := trodAll_nil r0
  obtain rfl : args = #[v0] := by cases args; simp_all
  obtain ⟨rfl, rfl⟩ := trodVars_none hV
  obtain ⟨xs, hl, hw, rfl, rfl, rfl⟩ := ArrRow.opened Cha.und16 Try.underlying22 cells1 (hval 0 23 v0 rfl rfl) h0 cells16
  clear hA0 hval0
  simp only [List.append_nil] at hW'
  refine (walk xs hl hw W).mono fun e W' ⟨he, bel⟩ => ?_
  subst he
  exact ⟨_, rfl, _, _, _, [], _, [], hW', trodAll_mk1 (shut_bool Try.underlying4 _), (trodAll_cons_mk (ArrRow.shut Cha.und16 Try.underlying22 cells1 cells16 xs hl hw) trodAll_mk0), rfl, bel.frame _, fun h => by cases h⟩

theorem over : Rows.cipherRoundsRow.holds Try.pinned (OpenSpec.ofChange Rows.cipherRoundsSpec) :=
  OpenClaim.holds_of_wide 4 Try.f4 rfl rfl rfl rfl rfl rfl rfl ⟨rfl, rfl, rfl, rfl, rfl⟩ rfl rfl rfl rfl rfl (by kernel_rfl) Try.func4 (by kernel_rfl)
    (of_decide_eq_true (by kernel_rfl)) (by unfold Func.isWrapper; first | (rw [if_pos (by decide +kernel)]; kernel_rfl) | (rw [if_neg (by decide +kernel)]; exact ⟨rfl, rfl⟩))
    (fun os started H enc _ => lifted os started H enc)

/-- The statement. -/
theorem proved : Rows.CipherRoundsSaid :=
  over
#print axioms proved
end Go.Proofs.Ytjepagbjoiipaaa.cipherRounds
