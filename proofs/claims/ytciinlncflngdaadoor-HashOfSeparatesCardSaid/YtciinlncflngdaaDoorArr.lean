/- An array of integers that came in by value, opened and shut. No condition. -/
import Derived.OpenShut
import Derived.ChangeSame
import Derived.RowKit
import Derived.ChangeReads
namespace Go.Proofs.YtciinlncflngdaaDoor
open Go Go.ChangeShapes Go.WideShapes
namespace ArrRow

section
variable {H : Type} {enc : TypeId × Value → H} {P : Program} {W : World} {base : Nat} {sp : Nat → Bool} {held : Bool} {t e : TypeId} {n : Nat} {k : IntKind}

theorem opened (ht : P.underlying t = some (.array n e)) (he : P.underlying e = some (.int k)) (hc : P.cellsOf e = 1) {r : Reach} {b0 : Nat} {v : Value} (hval : Value.okWide P W r b0 t v)
    {d : DataW H} {ps : List MemPlace} (hd : DataW.Trod enc P W base sp held t v d ps) (hct : P.cellsOf t = n) :
    ∃ xs : List Int, xs.length = n ∧ (∀ x ∈ xs, (Lit.int k x).wf = true) ∧ v = .agg (xs.map (Value.int k)).toArray ∧ d = .agg (xs.map fun x => .lit (.int k x)) ∧ ps = [] := by
  simp only [Value.okWide, ht] at hval
  obtain ⟨cs, rfl, h2, _⟩ := hval
  obtain ⟨fuel, hf⟩ := hd
  obtain ⟨ys, m, _, hx, hl, hyl, hi⟩ := DataW.trod_array ht hf
  rw [hct] at h2
  rw [hc] at hi
  have hcs : (Value.agg cs).cells.toList = cs.toList := rfl
  rw [hcs] at hi hl
  have hlen : cs.toList.length = n := by rw [Array.length_toList]; exact h2
  have each : ∀ i, i < n → ∃ a : Int, cs.toList[i]? = some (.int k a) ∧ ys[i]? = some (.lit (.int k a), []) ∧ (Lit.int k a).wf = true := by
    intro i hin
    have h := hi i hin
    have hc1 : (cs.toList.drop (i * 1)).take 1 = [cs.toList[i]'(by omega)] := by
      rw [Nat.mul_one, List.drop_eq_getElem_cons (by omega)]
      rfl
    rw [hc1] at h
    have hy : ys[i]? = some (ys[i]'(by omega)) := List.getElem?_eq_getElem _
    rw [hy] at h
    obtain ⟨a, ea, ya, wa⟩ := DataW.trod_int he h
    refine ⟨a, ?_, by rw [hy, ya], wa⟩
    rw [List.getElem?_eq_getElem (by omega)]
    exact congrArg some (List.cons.inj ea).1
  let f : Value → Int := fun v => match v with | .int _ a => a | _ => 0
  have hf1 : ∀ (q : IntKind) (a : Int), f (.int q a) = a := fun _ _ => rfl
  refine ⟨cs.toList.map f, by rw [List.length_map]; exact hlen, ?_, ?_, ?_, ?_⟩
  · intro x hx
    obtain ⟨i, hil, hxi⟩ := List.mem_iff_getElem.1 hx
    rw [List.length_map] at hil
    obtain ⟨a, h1, _, h3⟩ := each i (by omega)
    rw [List.getElem_map] at hxi
    rw [List.getElem?_eq_getElem hil] at h1
    rw [← hxi, Option.some.inj h1, hf1 k]
    exact h3
  · congr 1
    apply Array.toList_inj.1
    apply List.ext_getElem?
    intro i
    by_cases hin : i < n
    · obtain ⟨a, h1, _, _⟩ := each i hin
      rw [h1]
      simp [h1, hf1]
    · rw [List.getElem?_eq_none (by omega), List.getElem?_eq_none (by simp; omega)]
  · have h1 : d = .agg (ys.map (·.1)) := congrArg Prod.fst hx
    rw [h1]
    congr 1
    apply List.ext_getElem?
    intro i
    by_cases hin : i < n
    · obtain ⟨a, h1, h2, _⟩ := each i hin
      simp [h1, h2, hf1]
    · rw [List.getElem?_eq_none (by simp; omega), List.getElem?_eq_none (by simp; omega)]
  · have h1 : ps = ys.flatMap (·.2) := congrArg Prod.snd hx
    rw [h1, List.flatMap_eq_nil_iff]
    intro y hy
    obtain ⟨i, hil, hyi⟩ := List.mem_iff_getElem.1 hy
    obtain ⟨a, _, h2, _⟩ := each i (by omega)
    rw [List.getElem?_eq_getElem hil] at h2
    rw [← hyi, Option.some.inj h2]

theorem mapM_all {α β : Type} (g : α → Option β) (y : α → β) : ∀ (l : List α), (∀ a ∈ l, g a = some (y a)) → l.mapM g = some (l.map y)
  | [], _ => rfl
  | a :: l, h => by
    rw [List.mapM_cons, h a (List.mem_cons_self ..), mapM_all g y l (fun b hb => h b (List.mem_cons_of_mem _ hb))]
    rfl

theorem shut (ht : P.underlying t = some (.array n e)) (he : P.underlying e = some (.int k)) (hc : P.cellsOf e = 1) (hct : P.cellsOf t = n) (xs : List Int) (hl : xs.length = n) (hw : ∀ x ∈ xs, (Lit.int k x).wf = true) :
    DataW.Trod enc P W base sp held t (.agg (xs.map (Value.int k)).toArray) (.agg (xs.map fun x => .lit (.int k x))) [] := by
  have hg : (List.range n).mapM (fun i => DataW.trod enc P W base sp held 1 e (((xs.map (Value.int k)).drop (i * P.cellsOf e)).take (P.cellsOf e))) = some ((List.range n).map fun i => (.lit (.int k (xs.getD i 0)), [])) := by
    refine mapM_all _ _ _ fun i hi => ?_
    have hin : i < n := List.mem_range.1 hi
    rw [hc, Nat.mul_one, List.drop_eq_getElem_cons (by rw [List.length_map]; omega)]
    have hx : (xs.map (Value.int k))[i]'(by rw [List.length_map]; omega) = .int k (xs.getD i 0) := by
      rw [List.getElem_map, List.getD_eq_getElem?_getD, List.getElem?_eq_getElem (by omega)]; rfl
    rw [hx]
    exact trod_int_mk 0 he (hw _ (by rw [List.getD_eq_getElem?_getD, List.getElem?_eq_getElem (by omega)]; exact List.getElem_mem _))
  refine ⟨2, ?_⟩
  show DataW.trod enc P W base sp held 2 t (xs.map (Value.int k)) = _
  have hct2 : (xs.map (Value.int k)).length = P.cellsOf t := by rw [List.length_map, hl, hct]
  rw [show (2 : Nat) = 1 + 1 from rfl, DataW.trod_step]
  unfold DataW.trodStep
  simp only [ht]
  rw [if_pos hct2, hg]
  simp only [Option.map_some, List.map_map, Option.some.injEq, Prod.mk.injEq, DataW.agg.injEq]
  refine ⟨?_, by rw [List.flatMap_eq_nil_iff]; intro y hy; obtain ⟨i, _, rfl⟩ := List.mem_map.1 hy; rfl⟩
  apply List.ext_getElem?
  intro i
  by_cases hin : i < n
  · rw [List.getElem?_map, List.getElem?_map, List.getElem?_range hin, List.getElem?_eq_getElem (show i < xs.length by omega)]
    simp [List.getD_eq_getElem?_getD, List.getElem?_eq_getElem (show i < xs.length by omega)]
  · rw [List.getElem?_eq_none (by simp; omega), List.getElem?_eq_none (by simp; omega)]

end
end ArrRow
end Go.Proofs.YtciinlncflngdaaDoor
